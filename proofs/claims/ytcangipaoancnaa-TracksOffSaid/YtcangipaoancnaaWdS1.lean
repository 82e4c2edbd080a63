/-
  The law's words on rows: the contract of Spoil: only the table's own block turns. Conditions: the row's reading.
-/
import Derived.Test.YtcangipaoancnaaWdC1
namespace Go.Proofs.Ytcangipaoancnaa
open Go.RowKit
set_option linter.unusedVariables false
set_option linter.unusedSimpArgs false

/-- A block of the shape of n places of a table. -/
def Shape (g n : Nat) (w : World) : Prop := ∃ L : List Value, L.length = n * 56 ∧ Blk w g 102 L.toArray
set_option maxRecDepth 100000 in
theorem built_spoilC : (Try.prog).built 51 [(0, .int .i64 (-99))] = some (ceL { ceN with a := -99 }).toArray := by kernel_rfl
set_option maxRecDepth 100000 in
theorem built_heldS (c : Ce) : (Try.prog).built 102 [(0, .bool true), (1, .agg (ceL c).toArray)] = some (heL ⟨true, c⟩).toArray := by
  have h := built_rheld true c
  exact h
structure SP (w : World) (g n : Nat) (L : List Value) (U : World) : Prop where
  x : Blk U w.heap.size 54 L.toArray
  s : Shape g n U
  b : But g w U
set_option maxRecDepth 100000 in
set_option maxHeartbeats 4000000 in
theorem spoil_is (b : Bool) (c : Ce) (g n : Nat) (hn : n ≤ 65536) (w : World) (hS : Shape g n w) :
    Calls Try.prog 28 #[.agg (roL b c (some ⟨g, 0, none⟩) n n).toArray] w fun e w' => e = .returned (.tuple #[]) ∧ Shape g n w' ∧ But g w w' := by
  have hg : g < w.heap.size := by obtain ⟨L, _, h⟩ := hS; exact h.lt
  have hx : Blk (w.alloc (.cells (roL b c (some ⟨g, 0, none⟩) n n).toArray 54)) w.heap.size 54 (roL b c (some ⟨g, 0, none⟩) n n).toArray := Blk.new w _ _
  have H0 : Hid (SP w g n (roL b c (some ⟨g, 0, none⟩) n n) (w.alloc (.cells (roL b c (some ⟨g, 0, none⟩) n n).toArray 54))) := Lib.hid ⟨hx, by obtain ⟨L, h1, h2⟩ := hS; exact ⟨L, h1, h2.alloc _⟩, But.al hg (But.refl g w) _⟩
  have HG := Lib.hid hg
  clear hS hx hg
  go_enter Try.func28, Try.ntmps28
  go_upto_region 1 with fail
  refine wp_at (SP w g n (roL b c (some ⟨g, 0, none⟩) n n)) H0.out ?_
  clear H0
  intro U hU
  have c56 := hU.x.rowTab
  have lx := hU.x.lt
  have HU := Lib.hid hU
  clear hU
  go_wp2_with fail
  go_loopw [3] (fun s wr => ∃ k : Nat, k ≤ n ∧ s = .int .i64 (k : Int) ∧ Hid (SP w g n (roL b c (some ⟨g, 0, none⟩) n n) wr)) (fun s _ => n - (intOf s).toNat)
  case atStart => exact ⟨0, by omega, rfl, HU⟩
  case round =>
    clear HU c56 lx
    obtain ⟨k, hk, rfl, HR⟩ := hrel
    by_cases hlt : k < n
    · obtain ⟨L, hL, hB⟩ := HR.out.s
      obtain ⟨O, hO⟩ : ∃ O, O = k * 56 := ⟨_, rfl⟩
      have HP : Hid (PIn wr g O 102 (L.take O) (L.drop (O + 56)) ((L.drop O).take 56)) := Lib.hid (by
        have e : L = L.take O ++ ((L.drop O).take 56 ++ L.drop (O + 56)) := by rw [← List.drop_drop, List.take_append_drop, List.take_append_drop]
        have h := PIn.part (P := L.take O) (M := (L.drop O).take 56) (S := L.drop (O + 56)) (o := O) (hB.pin.cs e) (by rw [List.length_take]; omega)
        simpa using h)
      have HL : Hid (((L.drop O).take 56).length = 56) := Lib.hid (by simp; omega)
      have hix : ∀ W, (Instr.indexAt 52 (.slice (some ⟨g, 0, none⟩) n n) (.int .i64 (k : Int))).run Try.prog W = .ok (.pointer (some ⟨g, O, none⟩)) W := fun W => by rw [idxHelds (A := some ⟨g, 0, none⟩) (n := n) n rfl hlt W, hO, Nat.zero_add]
      have HLL : Hid (L.length = n * 56 ∧ O + 56 ≤ n * 56) := Lib.hid ⟨hL, by omega⟩
      have HB1 := Lib.hid built_spoilC
      have HB2 := Lib.hid (built_heldS { ceN with a := -99 })
      clear hB hO hL
      go_upto_region 4 with (first
        | (refine wpList_build rfl 51 _ rfl (ceL { ceN with a := -99 }).toArray (by simpa [Act.eval, Act.put] using HB1.out) ?_)
        | (refine wpList_build rfl 102 _ rfl (heL ⟨true, { ceN with a := -99 }⟩).toArray (by simpa [Act.eval, Act.put] using HB2.out) ?_)
        | (refine wpList_store_pin rfl 102 (.tmp 20) (.tmp 19) rfl HP.out (heL ⟨true, { ceN with a := -99 }⟩) (by simp [Act.eval, Act.put]) (by simp [Act.eval, Act.put]) 56 size_he HL.out (heL_len _) (heL_one _) ?_; intro w2 p2 b2; have HP2 := Lib.hid p2; have HB3 := Lib.hid b2; clear p2 b2))
      have HF : Hid (SP w g n (roL b c (some ⟨g, 0, none⟩) n n) w2) := Lib.hid ⟨HB3.out.blk HR.out.x (by have := HG.out; omega), ⟨L.take O ++ (heL ⟨true, { ceN with a := -99 }⟩ ++ L.drop (O + 56)), by have := HLL.out; simp [heL_len]; omega, (by have := HP2.out.blk; simpa using this)⟩, HR.out.b.trans HB3.out⟩
      go_wp2_with fail
      go_roundw
      case rel => exact ⟨k + 1, by omega, by go_num, HF⟩
      case measure => simp [intOf]; omega
    · obtain rfl : k = n := by omega
      go_wp2_with fail
      exact bodyPost_end (v := .tuple #[]) (by simp [results, Try.results28]) rfl ⟨rfl, HR.out.s, HR.out.b⟩
end Go.Proofs.Ytcangipaoancnaa

