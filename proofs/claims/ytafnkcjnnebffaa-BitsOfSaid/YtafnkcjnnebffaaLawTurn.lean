/-
  The walk of the law BitsTurn: it returns true, and nothing that was there has turned. Conditions: the slices' readings.
-/
import Derived.Test.YtafnkcjnnebffaaRefTurn
import Derived.Test.YtafnkcjnnebffaaLives
import Derived.Test.YtafnkcjnnebffaaTwin
import Derived.Test.YtafnkcjnnebffaaApart
namespace Go.Proofs.Ytafnkcjnnebffaa
open Go.RowKit

theorem TwinOf.kept {k : IntKind} {w w' : World} {t : TypeId} {g n c : Nat} {xs : List Int} {ts : List TypeId} (h : TwinOf k w t g n c xs) (hk : KeptBut w w' ts) (ht : t ∉ ts) : TwinOf k w' t g n c xs := by
  obtain ⟨h1, h2, h3, cs, h4, h5⟩ := h
  exact ⟨h1, h2, h3, cs, hk _ _ _ ht h4, h5⟩
theorem TwinOf.ent {k : IntKind} {w : World} {t : TypeId} {g n c base : Nat} {xs : List Int} (h : TwinOf k w t g n c xs) (hb : base ≤ g) : Ent w t base (some ⟨g, 0, none⟩, n) := fun _ => by
  obtain ⟨h1, h2, h3, cs, h4, h5, _⟩ := h
  exact ⟨g, cs, rfl, hb, h4, by simp only; omega⟩
theorem Blk.ent {k : IntKind} {w : World} {t : TypeId} {g n base : Nat} {xs : List Int} (h : Blk w g t (cellsOf k xs)) (hn : xs.length = n) (hb : base ≤ g) : Ent w t base (some ⟨g, 0, none⟩, n) := fun _ =>
  ⟨g, _, rfl, hb, h, by rw [cellsOf_size]; simp only; omega⟩
theorem addr_ne {a b : Nat} (h : a ≠ b) : (some (⟨a, 0, none⟩ : Addr)) ≠ some ⟨b, 0, none⟩ := fun e => h (by injection e with e; injection e)
theorem ents0 {w : World} {T : TypeId} {base : Nat} : Ents w T base [] := fun i hi => absurd hi (Nat.not_lt_zero i)
theorem dist0 : Dist [] := fun i _ hi => absurd hi (Nat.not_lt_zero i)
theorem ents3 {w : World} {T : TypeId} {base : Nat} {p q r : Option Addr × Nat} (h1 : Ent w T base p) (h2 : Ent w T base q) (h3 : Ent w T base r) : Ents w T base [p, q, r] := fun i hi => by
  match i, hi with
  | 0, _ => exact h1
  | 1, _ => exact h2
  | 2, _ => exact h3
theorem ents2 {w : World} {T : TypeId} {base : Nat} {p q : Option Addr × Nat} (h1 : Ent w T base p) (h2 : Ent w T base q) : Ents w T base [p, q] := fun i hi => by
  match i, hi with
  | 0, _ => exact h1
  | 1, _ => exact h2
theorem dist3 {a b c n m k : Nat} (h1 : a ≠ b) (h2 : a ≠ c) (h3 : b ≠ c) : Dist [(some ⟨a, 0, none⟩, n), (some ⟨b, 0, none⟩, m), (some ⟨c, 0, none⟩, k)] := fun i j hi hj hne _ _ => by
  match i, j, hi, hj with
  | 0, 0, _, _ => exact absurd rfl hne
  | 0, 1, _, _ => exact addr_ne h1
  | 0, 2, _, _ => exact addr_ne h2
  | 1, 0, _, _ => exact addr_ne fun e => h1 e.symm
  | 1, 1, _, _ => exact absurd rfl hne
  | 1, 2, _, _ => exact addr_ne h3
  | 2, 0, _, _ => exact addr_ne fun e => h2 e.symm
  | 2, 1, _, _ => exact addr_ne fun e => h3 e.symm
  | 2, 2, _, _ => exact absurd rfl hne
theorem dist2 {A B : Option Addr} {n m : Nat} (h1 : 0 < n → 0 < m → A ≠ B) : Dist [(A, n), (B, m)] := fun i j hi hj hne h2 h3 => by
  match i, j, hi, hj with
  | 0, 0, _, _ => exact absurd rfl hne
  | 0, 1, _, _ => exact h1 h2 h3
  | 1, 0, _, _ => exact fun e => h1 h3 h2 e.symm
  | 1, 1, _, _ => exact absurd rfl hne
/-- A twin cut to its list, without room behind. -/
theorem cut3Syms (g n c : Nat) (h : n ≤ c) (w : World) :
    (Instr.sliceAt 23 (.slice (some ⟨g, 0, none⟩) n c) none (some (.int .i64 (n : Int))) (some (.int .i64 (n : Int)))).run Try.prog w = .ok (.slice (some ⟨g, 0, none⟩) n n) w := by
  rw [run_sliceAt_slice w _ _ _ _ _ elemSyms, run_slice_hm w 23 _ n c elemSyms .i64 .i64 (n : Int) (n : Int) (by omega) (by omega) (by omega), sizeSyms]
  simp only [Result.andThen, sliced]
  simp [Addr.add]

set_option maxRecDepth 100000 in
theorem turn_walk (A B : Option Addr) (n m c d : Nat) (xs ps : List Int) (w : World) (hx : Lies .u8 w w.heap.size A n xs) (hm : n ≤ maxLen) (hy : Lies .i64 w w.heap.size B m ps) (hm' : m ≤ maxLen) :
    Calls Try.prog 5 #[.slice A n c, .slice B m d] w fun e w' => e = .returned (.bool true) ∧ Below w.heap.size w w' := by
  unfold maxLen at hm hm'
  by_cases h2000 : n ≤ 2000
  · have hd : decide ((2000 : Int) < (n : Int)) = false := by simp; omega
    by_cases h100 : m ≤ 100
    · have hd' : decide ((100 : Int) < (m : Int)) = false := by simp; omega
      have HL := Lib.hid hx.len
      go_enter Try.func5, Try.ntmps5
      go_wp2_with fail
      with_reducible refine (twinSyms_any _ _ _ _ _ hx (by omega)).mono ?_
      rintro e w1 ⟨g1, c1, rfl, hg1, ht1, hb1⟩
      have hx1 := hx.on hb1
      have hy1 := hy.on hb1
      clear hx hy hm hm'
      go_wp2_with fail
      with_reducible refine (twinNums_any _ _ _ _ _ hy1 (by omega)).mono ?_
      rintro e w2 ⟨g2, c2, rfl, hg2, ht2, hb⟩
      have hx2 := hx1.on hb
      have hy2 := hy1.on hb
      have ht1' := ht1.on hb
      have hb2 := below_then hb1 hb
      have hlt1 : g1 < w2.heap.size := ht1'.lt
      clear hb hx1 hy1 ht1 hb1 hg2
      go_wp2_with fail
      with_reducible refine (turn_any _ _ _ _ _ _ _ _ _ ht1'.lies ht2.lies (by omega) (by omega)).mono ?_
      rintro e w3 ⟨g3, rfl, hg3, hB3, hb⟩
      have hx3 := hx2.on hb
      have hy3 := hy2.on hb
      have ht1 := ht1'.on hb
      have ht2' := ht2.on hb
      have hb3 := below_then hb2 hb
      clear hb hx2 hy2 ht1' ht2 hb2
      go_wp2_with fail
      with_reducible refine (refTurn_any _ _ _ _ _ _ _ _ _ hx3 hy3 (by omega) (by omega)).mono ?_
      rintro e w4 ⟨A4, c4, rfl, hl4, hb⟩
      have hx4 := hx3.on hb
      have hy4 := hy3.on hb
      have ht1' := ht1.on hb
      have ht2 := ht2'.on hb
      have hB4 := hB3.on hb
      have hb4 := below_then hb3 hb
      clear hb hx3 hy3 ht1 ht2' hb3 hB3
      go_wp2_with fail
      with_reducible refine (same_true _ _ _ _ _ _ _ _ _ (hB4.lies (n := n) (by rw [turnAll_length, HL.out])) hl4 (by omega) (by omega) rfl).mono ?_
      rintro e w5 ⟨rfl, hb⟩
      have hx5 := hx4.on hb
      have hy5 := hy4.on hb
      have ht1 := ht1'.on hb
      have ht2' := ht2.on hb
      have hB5 := hB4.on hb
      have hb5 := below_then hb4 hb
      clear hb hx4 hy4 ht1' ht2 hb4 hB4 hl4
      go_wp2_with fail
      with_reducible refine (leftSyms_true _ _ _ _ _ _ _ ht1 hx5 (by omega)).mono ?_
      rintro e w6 ⟨rfl, hb⟩
      have hy6 := hy5.on hb
      have ht1' := ht1.on hb
      have ht2 := ht2'.on hb
      have hB6 := hB5.on hb
      have hb6 := below_then hb5 hb
      clear hb hx5 hy5 ht1 ht2' hb5 hB5
      go_wp2_with fail
      with_reducible refine (leftNums_true _ _ _ _ _ _ _ ht2 hy6 (by omega)).mono ?_
      rintro e w7 ⟨rfl, hb⟩
      have ht1 := ht1'.on hb
      have hB7 := hB6.on hb
      have hb7 := below_then hb6 hb
      clear hb hy6 ht1' ht2 hb6 hB6
      have hcap := ht1.cap
      have hsl := fun W : World => cut3Syms g1 n c1 (by omega) W
      go_wp2_with fail
      have hk0 := BookIs.empty (Blk.new w7 37 #[.slice none 0 0, .slice none 0 0, .slice none 0 0, .bool false]) hb7.size
      have hb8 := below_al hb7 (.cells #[.slice none 0 0, .slice none 0 0, .slice none 0 0, .bool false] 37)
      have ht8 := ht1.kept (KeptBut.alloc w7 (.cells #[.slice none 0 0, .slice none 0 0, .slice none 0 0, .bool false] 37) []) (by simp)
      have hB8 := hB7.alloc (.cells #[.slice none 0 0, .slice none 0 0, .slice none 0 0, .bool false] 37)
      have hlt3 := hB8.lt
      clear ht1 hB7 hb7
      with_reducible refine (bookSyms _ _ _ _ _ _ _ _ _ _ _ hk0 (by simp)).mono ?_
      rintro e w9 ⟨rfl, ⟨v9, hk9⟩, hbb, hkk⟩
      have ht9 := ht8.kept hkk (by decide)
      have hB9 := hkk _ _ _ (by decide) hB8
      have hb9 := hb8.trans hbb
      clear hk0 hb8 ht8 hB8 hbb hkk hsl hlt3
      rw [List.nil_append] at hk9
      go_wp2_with fail
      with_reducible refine (bookSyms _ _ _ _ _ _ _ _ _ _ _ hk9 (by simp)).mono ?_
      rintro e w10 ⟨rfl, ⟨v10, hk10⟩, hbb, hkk⟩
      have ht10 := ht9.kept hkk (by decide)
      have hB10 := hkk _ _ _ (by decide) hB9
      have hb10 := hb9.trans hbb
      have hlt3 := hB10.lt
      clear hk9 hb9 ht9 hB9 hbb hkk
      go_wp2_with fail
      with_reducible refine (turn_any _ _ _ _ _ _ _ _ _ ht10.lies Lies.nil_ (by omega) (by decide)).mono ?_
      rintro e w11 ⟨g11, rfl, hg11, hB11, hb⟩
      have ht11 := ht10.on hb
      have hB3' := hB10.on hb
      have hk11 := hk10.below hb
      have hb11 := below_then hb10 hb
      clear hk10 hb10 ht10 hB10 hb
      go_wp2_with fail
      with_reducible refine (bookSyms _ _ _ _ _ _ _ _ _ _ _ hk11 (by simp)).mono ?_
      rintro e w12 ⟨rfl, ⟨v12, hk12⟩, hbb, hkk⟩
      have ht12 := ht11.kept hkk (by decide)
      have hB12 := hkk _ _ _ (by decide) hB3'
      have hC12 := hkk _ _ _ (by decide) hB11
      have hb12 := hb11.trans hbb
      clear hk11 hb11 ht11 hB3' hB11 hbb hkk
      simp only [List.cons_append, List.nil_append] at hk12
      have hents : Ents w12 53 w.heap.size [(some ⟨g1, 0, none⟩, n), (some ⟨g3, 0, none⟩, n), (some ⟨g11, 0, none⟩, n)] := ents3 (ht12.ent hg1) (hB12.ent (by rw [turnAll_length, HL.out]) (by omega)) (hC12.ent (by rw [turnAll_length, HL.out]) (by have := hb12.size; omega))
      have hdist : Dist [(some ⟨g1, 0, none⟩, n), (some ⟨g3, 0, none⟩, n), (some ⟨g11, 0, none⟩, n)] := dist3 (by omega) (by omega) (by omega)
      go_wp2_with fail
      with_reducible refine (apart_any _ _ _ _ _ _ _ _ _ hk12 (by simp) (by simp) (by simp) (by simp) (by simp) (by simp; omega) ents0 ents0 hents dist0 dist0 hdist).mono ?_
      rintro e w13 ⟨rfl, hbb⟩
      have hb13 := hb12.trans hbb
      clear hk12 hb12 hbb hents hdist
      go_wp2_with fail
      with_reducible refine (lives_any _).mono ?_
      rintro e w14 ⟨rfl, hb⟩
      go_wp2_with fail
      go_ret
      exact ⟨rfl, below_then hb13 hb⟩
    · have hgt : (100 : Int) < (m : Int) := by omega
      go_enter Try.func5, Try.ntmps5
      go_wp2_with (go_at_call 9; refine (lives_any _).mono ?_; rintro e w1 ⟨rfl, hb⟩)
      go_ret
      exact ⟨rfl, hb⟩
  · have hgt : (2000 : Int) < (n : Int) := by omega
    go_enter Try.func5, Try.ntmps5
    go_wp2_with (go_at_call 9; refine (lives_any _).mono ?_; rintro e w1 ⟨rfl, hb⟩)
    go_ret
    exact ⟨rfl, hb⟩

theorem bitsTurn.bitsTurn_walk (A : Option Addr) (n c : Nat) (xs : List Int) (B : Option Addr) (m d : Nat) (ys : List Int) (w : World) (hx : Lies .u8 w w.heap.size A n xs) (hm : n ≤ maxLen) (_ : ∀ x ∈ xs, (Lit.int .u8 x).wf = true)
    (hy : Lies .i64 w w.heap.size B m ys) (hm' : m ≤ maxLen) (_ : ∀ x ∈ ys, (Lit.int .i64 x).wf = true) :
    Calls Try.prog 5 #[.slice A n c, .slice B m d] w fun e w' => e = .returned (.bool true) ∧ Below w.heap.size w w' :=
  turn_walk A B n m c d xs ys w hx hm hy hm'
end Go.Proofs.Ytafnkcjnnebffaa
