/-
  The contracts of frames.number, of a tail's Syms and tailOf, and of the reference's TailSyms. Conditions: the slice's reading, bytes.
-/
import Derived.Test.YtpjcbfapkjipjaaFr1
import Derived.Test.YtpjcbfapkjipjaaReg
namespace Go.Proofs.Ytpjcbfapkjipjaa
open Go.RowKit Crc

theorem frNumber_any (A : Option Addr) (c : Nat) (l : List Int) (w : World) (hx : Lies .u8 w w.heap.size A 4 l) (hbd : ∀ x ∈ l, 0 ≤ x ∧ x ≤ 255) :
    Calls Try.prog 45 #[.slice A 4 c] w fun e w' => e = .returned (.int .u32 (numB l)) ∧ w = w' := by
  have HL := Lib.hid hx.len
  have HB := Lib.hid hbd
  clear hbd
  go_enter Try.func45, Try.ntmps45
  go_wp2
  go_loop [3, 8] (fun a i => ∃ k : Nat, k ≤ 4 ∧ i = .int .i64 k ∧ a = .int .u32 (numB (l.take k))) (fun _ i => 4 - (intOf i).toNat)
  case atStart => exact ⟨0, Nat.zero_le _, rfl, rfl⟩
  case round =>
    obtain ⟨k, hk, rfl, rfl⟩ := hrel
    by_cases hlt : k < 4
    · obtain ⟨b, off, rfl, hb, hc⟩ := hx.at_ (by omega)
      have hcell := hc k hlt
      have hs := Lib.hid (numB_snoc l k (by rw [HL.out]; exact hlt))
      have hbd := numB_bd l HB.out k (by rw [HL.out]; exact hk)
      have hx2 := HB.out (l.getD k 0) (by rw [getD_at l k (by rw [HL.out]; exact hlt)]; exact List.getElem_mem _)
      have hp := pow256 k hlt
      obtain ⟨x, hx1⟩ : ∃ x, x = l.getD k 0 := ⟨_, rfl⟩
      obtain ⟨v, hv⟩ : ∃ v, v = numB (l.take k) := ⟨_, rfl⟩
      rw [← hx1] at hcell hs hx2
      rw [← hv] at hs hbd ⊢
      clear hx1 hv hc
      obtain ⟨h0, h1⟩ := hbd
      have h1' : v < 16777216 := by omega
      clear h1 hp
      obtain ⟨hx20, hx21⟩ := hx2
      have hor := or_low32 v x h0 h1' hx20 hx21
      go_wp2
      go_round
      case rel => exact ⟨k + 1, by omega, by go_num, by rw [hs.out]⟩
      case measure => simp [intOf]; omega
    · go_wp2
      go_ret
      exact ⟨ret_int (by rw [List.take_of_length_le (by rw [HL.out]; omega)]), rfl⟩

/-- A tail's symbols, as far as the first k are written. -/
def tailTo (a b : Bool) : Nat → List Int
  | 0 => [0, 0]
  | 1 => [tsy a, 0]
  | _ => [tsy a, tsy b]
theorem arr2_at0 (a b : Bool) (w : World) : (Instr.index 85 (.agg #[.bool a, .bool b]) (.int .i64 0)).run Try.prog w = .ok (.bool a) w := by kernel_rfl
theorem arr2_at1 (a b : Bool) (w : World) : (Instr.index 85 (.agg #[.bool a, .bool b]) (.int .i64 1)).run Try.prog w = .ok (.bool b) w := by kernel_rfl

theorem tsyms_any (a b : Bool) (w : World) :
    Calls Try.prog 49 #[.agg #[.bool a, .bool b]] w fun e w' => ∃ g, e = .returned (.slice (some ⟨g, 0, none⟩) 2 2) ∧ w.heap.size ≤ g ∧ Blk w' g 31 (cellsOf .u8 (tailL a b)) ∧ Below w.heap.size w w' := by
  have hmk := fun u => makeSyms 2 (by omega) (by omega) u
  rw [show (2 : Int).toNat = 2 from rfl, cellsOf_made, show List.replicate 2 (0 : Int) = tailTo a b 0 from rfl] at hmk
  go_enter Try.func49, Try.ntmps49
  go_wp2_with (go_at_call 39; (with_reducible refine (tparts_any a b _).mono ?_); rintro e w1 ⟨rfl, hb1⟩)
  go_loopw [9] (fun i wr => ∃ k : Nat, k ≤ 2 ∧ i = .int .i64 k ∧ Blk wr (w.heap.size + 1) 31 (cellsOf .u8 (tailTo a b k)) ∧ Below w.heap.size w wr) (fun i _ => 2 - (intOf i).toNat)
  case atStart =>
    have hB := Blk.new (w.alloc (.cells #[.bool a, .bool b] 55)) 31 (cellsOf .u8 (tailTo a b 0))
    rw [alloc_size] at hB
    exact ⟨0, by omega, rfl, hB.on hb1, below_then (below_al (below_al (Below.refl _ _) _) _) hb1⟩
  case round =>
    obtain ⟨k, hk, rfl, hB, hb⟩ := hrel
    have hlt := hB.lt
    have hz := hb.size
    obtain rfl | rfl | rfl : k = 0 ∨ k = 1 ∨ k = 2 := by omega
    · have hix := fun u => arr2_at0 a b u
      have hc := hB.cell 0
      have hf := hB.frozen 0
      rw [show (cellsOf .u8 (tailTo a b 0))[0]? = some (.int .u8 0) from rfl] at hc
      cases a
      · have HB1 := Lib.hid (show Blk (wr.setCell ⟨w.heap.size + 1, 0, none⟩ (.int .u8 1)) (w.heap.size + 1) 31 (cellsOf .u8 (tailTo false b 1)) from hB.set_ 0 (.int .u8 1))
        have HB2 := Lib.hid (hb.setCell (p := ⟨w.heap.size + 1, 0, none⟩) (by simp) (.int .u8 1))
        clear hB hb
        go_wp2_with fail
        go_roundw
        case rel => exact ⟨1, by omega, by go_num, HB1.out, HB2.out⟩
        case measure => simp [intOf]
      · have HB1 := Lib.hid (show Blk ((wr.setCell ⟨w.heap.size + 1, 0, none⟩ (.int .u8 1)).setCell ⟨w.heap.size + 1, 0, none⟩ (.int .u8 2)) (w.heap.size + 1) 31 (cellsOf .u8 (tailTo true b 1)) from (hB.set_ 0 (.int .u8 1)).set_ 0 (.int .u8 2))
        have HB2 := Lib.hid ((hb.setCell (p := ⟨w.heap.size + 1, 0, none⟩) (by simp) (.int .u8 1)).setCell (p := ⟨w.heap.size + 1, 0, none⟩) (by simp) (.int .u8 2))
        clear hB hb
        go_wp2_with fail
        go_roundw
        case rel => exact ⟨1, by omega, by go_num, HB1.out, HB2.out⟩
        case measure => simp [intOf]
    · have hix := fun u => arr2_at1 a b u
      have hc := hB.cell 1
      have hf := hB.frozen 1
      rw [show (cellsOf .u8 (tailTo a b 1))[1]? = some (.int .u8 0) from rfl] at hc
      cases b
      · have HB1 := Lib.hid (show Blk (wr.setCell ⟨w.heap.size + 1, 1, none⟩ (.int .u8 1)) (w.heap.size + 1) 31 (cellsOf .u8 (tailTo a false 2)) from hB.set_ 1 (.int .u8 1))
        have HB2 := Lib.hid (hb.setCell (p := ⟨w.heap.size + 1, 1, none⟩) (by simp) (.int .u8 1))
        clear hB hb
        go_wp2_with fail
        go_roundw
        case rel => exact ⟨2, by omega, by go_num, HB1.out, HB2.out⟩
        case measure => simp [intOf]
      · have HB1 := Lib.hid (show Blk ((wr.setCell ⟨w.heap.size + 1, 1, none⟩ (.int .u8 1)).setCell ⟨w.heap.size + 1, 1, none⟩ (.int .u8 2)) (w.heap.size + 1) 31 (cellsOf .u8 (tailTo a true 2)) from (hB.set_ 1 (.int .u8 1)).set_ 1 (.int .u8 2))
        have HB2 := Lib.hid ((hb.setCell (p := ⟨w.heap.size + 1, 1, none⟩) (by simp) (.int .u8 1)).setCell (p := ⟨w.heap.size + 1, 1, none⟩) (by simp) (.int .u8 2))
        clear hB hb
        go_wp2_with fail
        go_roundw
        case rel => exact ⟨2, by omega, by go_num, HB1.out, HB2.out⟩
        case measure => simp [intOf]
    · go_wp2_with fail
      go_ret
      exact ⟨_, rfl, by omega, hB, hb⟩

/-- A new list of one's own, known whole. -/
def Reg.Fact.blk (t : TypeId) (k : IntKind) (n : Nat) (xs : List Int) (base : Nat) : Reg.Fact := ⟨fun v w => ∃ g, v = .slice (some ⟨g, 0, none⟩) n n ∧ base ≤ g ∧ Blk w g t (cellsOf k xs), fun _ _ _ hb h => by
  obtain ⟨g, e, hg, hB⟩ := h
  exact ⟨g, e, hg, hB.on hb⟩⟩

theorem tailOf_any (A : Option Addr) (c : Nat) (xs : List Int) (w : World) (hx : Lies .u8 w w.heap.size A 2 xs) :
    Calls Try.prog 38 #[.slice A 2 c] w fun e w' => e = .returned (.agg #[.bool (xs.getD 0 0 == 2), .bool (xs.getD 1 0 == 2)]) ∧ Below w.heap.size w w' := by
  obtain ⟨b, off, rfl, hb, hc⟩ := hx.at_ (by omega)
  have c0 := hc 0 (by omega)
  have c1 := hc 1 (by omega)
  rw [Nat.add_zero] at c0
  obtain ⟨x, hx1⟩ : ∃ x, x = xs.getD 0 0 := ⟨_, rfl⟩
  obtain ⟨y, hy1⟩ : ∃ y, y = xs.getD 1 0 := ⟨_, rfl⟩
  rw [← hx1] at c0 ⊢
  rw [← hy1] at c1 ⊢
  clear hx1 hy1 hc hx
  go_enter Try.func38, Try.ntmps38
  go_wp2_with fail
  go_region
  go_wp2_with fail
  refine bodyPost_ret (v := .agg #[.bool (x == 2), .bool (y == 2)]) (by simp [results, Try.results38, go_sem]) rfl ⟨rfl, ?_⟩
  exact (below_al (Below.refl _ _) _).drew

end Go.Proofs.Ytpjcbfapkjipjaa
