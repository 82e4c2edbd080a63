/-
  Package words: the contracts of the functions that mend a cell, one behind the other, of mendCell, of Cell, of mendHeld. Conditions: the cell's reading.
-/
import Derived.Test.YtmmgbhdjjejacaaWd1
import Derived.Deep.Cut
import Derived.Deep.CutRange
namespace Go.Proofs.Ytmmgbhdjjejacaa
open Go.RowKit
set_option linter.unusedVariables false

/-- A cell behind the first k of those that mend it. -/
def plK (k : Nat) (c : Ce) : Ce := ⟨if 0 < k then plA1 c.a else c.a, if 1 < k then plS c.o else c.o, if 2 < k then plS c.r else c.r, if 3 < k then plV c.v else c.v⟩
theorem plK_zero (c : Ce) : plK 0 c = c := rfl
theorem plK_all (c : Ce) : plK 4 c = plC c := rfl
section
variable {w : World} {g O : Nat} {T : TypeId} {A Z : List Value}
theorem mends1_is (c : Ce) (h : PIn w g O T A Z (ceL c)) :
    Calls Try.prog 75 #[.pointer (some ⟨g, O, none⟩)] w fun e w' => e = .returned (.tuple #[]) ∧ PIn w' g O T A Z (ceL { c with a := plA1 c.a }) ∧ But g w w' := by
  have c0 : w.cell? ⟨g, O, none⟩ = some (.int .i64 c.a) := (h.cell0 (by simp [ceL_len])).trans rfl
  have f0 := h.frozen O
  have hlt := h.lt
  have HX := Lib.hid h
  obtain ⟨x, hx⟩ : ∃ x, x = c.a := ⟨_, rfl⟩
  rw [← hx] at c0
  obtain ⟨t, ht⟩ : ∃ t, t = tmB x := ⟨_, rfl⟩
  have HT := Lib.hid ht
  have HC : Hid (∀ W, Calls Try.prog 76 #[.int .i64 x] W fun e w' => e = .returned (.bool t) ∧ W = w') := Lib.hid (by rw [ht]; exact isTime_is x)
  have HXX := Lib.hid hx
  clear h ht hx
  cases t
  · go_enter Try.func75, Try.ntmps75
    go_wp2_with (go_at_call 76; (with_reducible refine (HC.out _).mono ?_); rintro e w1 ⟨rfl, rfl⟩)
    go_end0
    have e : plA1 c.a = -1 := by rw [← HXX.out]; unfold plA1; rw [← HT.out]; rfl
    rw [e]
    exact ⟨rfl, (HX.out.set0 (.int .i64 (-1)) (by simp [ceL_len])).cs rfl, (But.refl _ _).set _ _⟩
  · go_enter Try.func75, Try.ntmps75
    go_wp2_with (go_at_call 76; (with_reducible refine (HC.out _).mono ?_); rintro e w1 ⟨rfl, rfl⟩)
    go_end0
    have e : plA1 c.a = c.a := by rw [← HXX.out]; unfold plA1; rw [← HT.out]; rfl
    rw [e]
    exact ⟨rfl, HX.out, But.refl _ _⟩
theorem mends2_is (c : Ce) (h : PIn w g O T A Z (ceL c)) :
    Calls Try.prog 77 #[.pointer (some ⟨g, O, none⟩)] w fun e w' => e = .returned (.tuple #[]) ∧ PIn w' g O T A Z (ceL { c with o := plS c.o }) ∧ But g w w' := by
  have hp := PIn.part (P := [.int .i64 c.a]) (M := saL c.o) (S := saL c.r ++ vwL c.v) (o := O + 1) h rfl
  have HP := Lib.hid hp
  have hlt := h.lt
  clear h hp
  go_enter Try.func77, Try.ntmps77
  go_wp2_with (go_at_call 78; (with_reducible refine (mendSaid_is _ HP.out).mono ?_); rintro e w1 ⟨rfl, p1, b1⟩)
  go_end0
  exact ⟨rfl, PIn.whole (P := [.int .i64 c.a]) (S := saL c.r ++ vwL c.v) p1 rfl, b1⟩
theorem mends3_is (c : Ce) (h : PIn w g O T A Z (ceL c)) :
    Calls Try.prog 79 #[.pointer (some ⟨g, O, none⟩)] w fun e w' => e = .returned (.tuple #[]) ∧ PIn w' g O T A Z (ceL { c with r := plS c.r }) ∧ But g w w' := by
  have hp := PIn.part (P := .int .i64 c.a :: saL c.o) (M := saL c.r) (S := vwL c.v) (o := O + 7) h rfl
  have HP := Lib.hid hp
  have hlt := h.lt
  clear h hp
  go_enter Try.func79, Try.ntmps79
  go_wp2_with (go_at_call 78; (with_reducible refine (mendSaid_is _ HP.out).mono ?_); rintro e w1 ⟨rfl, p1, b1⟩)
  go_end0
  exact ⟨rfl, PIn.whole (P := .int .i64 c.a :: saL c.o) (S := vwL c.v) p1 rfl, b1⟩
theorem mends4_is (c : Ce) (h : PIn w g O T A Z (ceL c)) :
    Calls Try.prog 80 #[.pointer (some ⟨g, O, none⟩)] w fun e w' => e = .returned (.tuple #[]) ∧ PIn w' g O T A Z (ceL { c with v := plV c.v }) ∧ But g w w' := by
  have e4 : ∀ v : Vw, ceL { c with v := v } = (.int .i64 c.a :: (saL c.o ++ saL c.r)) ++ (vwL v ++ []) := fun v => by simp [ceL]
  have hp := PIn.part (P := .int .i64 c.a :: (saL c.o ++ saL c.r)) (M := vwL c.v) (S := []) (o := O + 13) (h.cs (e4 c.v)) rfl
  have HP := Lib.hid hp
  have hlt := h.lt
  have H4 := Lib.hid (e4 (plV c.v))
  clear h hp e4
  go_enter Try.func80, Try.ntmps80
  go_wp2_with (go_at_call 81; (with_reducible refine (mendView_is _ HP.out).mono ?_); rintro e w1 ⟨rfl, p1, b1⟩)
  go_end0
  rw [H4.out]
  exact ⟨rfl, PIn.whole (P := .int .i64 c.a :: (saL c.o ++ saL c.r)) (S := []) p1 rfl, b1⟩
end
def mendsC : Array Value := #[.func (.func 75) #[] #[], .func (.func 77) #[] #[], .func (.func 79) #[] #[], .func (.func 80) #[] #[]]
theorem mends_is (w : World) : Calls Try.prog 68 #[] w fun e w' => e = .returned (.slice (some ⟨w.heap.size, 0, none⟩) 4 4) ∧ w.alloc (.cells mendsC 135) = w' := by
  go_enter Try.func68, Try.ntmps68
  go_wp2_with fail
  go_ret
  exact ⟨rfl, rfl⟩
set_option maxRecDepth 100000 in
theorem elemMends : Try.prog.underlying 153 = some (.slice (Try.prog.elem 153)) := by kernel_rfl
set_option maxRecDepth 100000 in
theorem sizeMends (w : World) : (sizeOf (Try.prog.elem 153)).run Try.prog w = .ok 1 w := by kernel_rfl
theorem But.newer {g : Nat} {w w1 w' : World} {o : Obj} (hg : g < w.heap.size) (h : But g (w.alloc o) w') : But g w w' := (But.grow (Nat.le_of_lt hg) (below_al (Below.refl _ w) o)).trans h
set_option maxHeartbeats 1000000 in
theorem mendCell_is (c : Ce) {w : World} {g O : Nat} {T : TypeId} {A Z : List Value} (h : PIn w g O T A Z (ceL c)) :
    Calls Try.prog 57 #[.pointer (some ⟨g, O, none⟩)] w fun e w' => e = .returned (.tuple #[]) ∧ PIn w' g O T A Z (ceL (plC c)) ∧ But g w w' := by
  have hlt := h.lt
  have H0 := Lib.hid ((h.on (below_al (Below.refl _ w) (.cells mendsC 135))).cs (by rw [plK_zero] : ceL c = ceL (plK 0 c)))
  have HB0 := Lib.hid (Blk.new w 135 mendsC)
  have HN := Lib.hid (show w.heap.size ≠ g by omega)
  obtain ⟨W0, hW0⟩ : ∃ W0, W0 = w.alloc (.cells mendsC 135) := ⟨_, rfl⟩
  have HW := Lib.hid hW0
  rw [← hW0] at H0 HB0
  have HM : Hid (Calls Try.prog 68 #[] w fun e w' => e = .returned (.slice (some ⟨w.heap.size, 0, none⟩) 4 4) ∧ W0 = w') := Lib.hid (by rw [hW0]; exact mends_is w)
  obtain ⟨m, hm⟩ : ∃ m, m = w.heap.size := ⟨_, rfl⟩
  rw [← hm] at HB0 HN HM
  clear h hW0 hm
  go_enter Try.func57, Try.ntmps57
  go_wp2_with (go_at_call 68; (with_reducible refine HM.out.mono ?_); rintro e w1 ⟨rfl, rfl⟩)
  go_loopw [6] (fun s wr => ∃ k : Nat, k ≤ 4 ∧ s = .int .i64 (k : Int) ∧ Hid (PIn wr g O T A Z (ceL (plK k c))) ∧ Hid (Blk wr m 135 mendsC) ∧ Hid (But g W0 wr)) (fun s _ => 4 - (intOf s).toNat)
  case atStart => exact ⟨0, by omega, rfl, H0, HB0, Lib.hid (But.refl _ _)⟩
  case round =>
    clear H0 HB0
    obtain ⟨k, hk, rfl, HP, HB, HU⟩ := hrel
    have hlr := HP.out.lt
    have hmr := HB.out.lt
    rcases (show k = 0 ∨ k = 1 ∨ k = 2 ∨ k = 3 ∨ k = 4 by omega) with rfl | rfl | rfl | rfl | rfl
    · have cf : wr.cell? ⟨m, 0, none⟩ = some (.func (.func 75) #[] #[]) := (HB.out.cell 0).trans rfl
      go_wp2_with (go_at_call 75; (with_reducible refine (mends1_is _ HP.out).mono ?_); rintro e w1 ⟨rfl, p1, b1⟩)
      go_roundw
      case rel => exact ⟨1, by omega, rfl, Lib.hid (p1.cs rfl), Lib.hid (b1.blk HB.out HN.out), Lib.hid (HU.out.trans b1)⟩
      case measure => simp [intOf]
    · have cf : wr.cell? ⟨m, 1, none⟩ = some (.func (.func 77) #[] #[]) := (HB.out.cell 1).trans rfl
      go_wp2_with (go_at_call 77; (with_reducible refine (mends2_is _ HP.out).mono ?_); rintro e w1 ⟨rfl, p1, b1⟩)
      go_roundw
      case rel => exact ⟨2, by omega, rfl, Lib.hid (p1.cs rfl), Lib.hid (b1.blk HB.out HN.out), Lib.hid (HU.out.trans b1)⟩
      case measure => simp [intOf]
    · have cf : wr.cell? ⟨m, 2, none⟩ = some (.func (.func 79) #[] #[]) := (HB.out.cell 2).trans rfl
      go_wp2_with (go_at_call 79; (with_reducible refine (mends3_is _ HP.out).mono ?_); rintro e w1 ⟨rfl, p1, b1⟩)
      go_roundw
      case rel => exact ⟨3, by omega, rfl, Lib.hid (p1.cs rfl), Lib.hid (b1.blk HB.out HN.out), Lib.hid (HU.out.trans b1)⟩
      case measure => simp [intOf]
    · have cf : wr.cell? ⟨m, 3, none⟩ = some (.func (.func 80) #[] #[]) := (HB.out.cell 3).trans rfl
      go_wp2_with (go_at_call 80; (with_reducible refine (mends4_is _ HP.out).mono ?_); rintro e w1 ⟨rfl, p1, b1⟩)
      go_roundw
      case rel => exact ⟨4, by omega, rfl, Lib.hid (p1.cs rfl), Lib.hid (b1.blk HB.out HN.out), Lib.hid (HU.out.trans b1)⟩
      case measure => simp [intOf]
    · go_wp2_with fail
      go_end0
      exact ⟨rfl, HP.out, But.newer (w1 := w) hlt (by have := HU.out; rw [HW.out] at this; exact this)⟩
set_option maxRecDepth 100000 in
theorem size_ce : (Try.prog.info? 51).map (·.size) = some 55 := by kernel_rfl
set_option maxRecDepth 100000 in
set_option maxHeartbeats 1000000 in
theorem cell_is (c : Ce) (w : World) : Calls Try.prog 27 #[.agg (ceL c).toArray] w fun e w' => e = .returned (.agg (ceL (plC c)).toArray) ∧ Below w.heap.size w w' := by
  have hm : ∀ Z : Array Value, Z.size = 55 → Calls Try.prog 57 #[.pointer (some ⟨w.heap.size, 0, none⟩)] ((w.alloc (.cells (ceL c).toArray 51)).alloc (.cells Z 51))
      fun e w' => e = .returned (.tuple #[]) ∧ Blk w' w.heap.size 51 (ceL (plC c)).toArray ∧ Blk w' (w.heap.size + 1) 51 Z ∧ Below w.heap.size w w' := by
    intro Z hZ
    have h0 : PIn ((w.alloc (.cells (ceL c).toArray 51)).alloc (.cells Z 51)) w.heap.size 0 51 [] [] (ceL c) := ⟨by simpa using (Blk.new w 51 (ceL c).toArray).alloc (.cells Z 51), rfl⟩
    have hz : Blk ((w.alloc (.cells (ceL c).toArray 51)).alloc (.cells Z 51)) (w.heap.size + 1) 51 Z := by
      have := Blk.new (w.alloc (.cells (ceL c).toArray 51)) 51 Z
      rwa [alloc_size] at this
    refine (mendCell_is c h0).mono fun e w' ⟨he, hp, hb⟩ => ⟨he, by simpa using hp.blk, hb.blk hz (by omega), ?_⟩
    exact (below_al (below_al (Below.refl _ w) _) _).trans hb.1
  have HM := Lib.hid hm
  have hcl := ceL_len (plC c)
  have HCL := Lib.hid (ceL_len c)
  clear hm
  go_enter Try.func27, Try.ntmps27
  go_upto_region 2 with (go_at_call 57; (with_reducible refine (HM.out _ rfl).mono ?_); rintro e w1 ⟨rfl, b1, b2, b3⟩)
  have HL := Lib.hid (range_of (ceL (plC c)) [] [] (by simpa using b1) rfl)
  obtain ⟨hst, hld, q1, q2⟩ := res_big b2 (ceL (plC c)) (by rw [hcl]; kernel_rfl) (ceL_one _) _ Try.underlying51 rfl (by rw [size_ce, hcl])
  have HB := Lib.hid (b3.trans (q2.low (Nat.le_succ _)))
  clear b1 b2 b3 q1 q2
  refine wp_region_lit ?_
  go_wp2_with (refine wpList_load_mid rfl 51 (.tmp 1) rfl w.heap.size 0 (by simp [Act.eval]) (ceL (plC c)) _ HL.out Try.underlying51 rfl (by rw [size_ce, hcl]) ?_)
  exact bodyPost_ret (v := .agg (ceL (plC c)).toArray) (by simp [results, Try.results27, asAddr, hld]) rfl ⟨rfl, HB.out⟩
set_option maxRecDepth 100000 in
theorem size_he : (Try.prog.info? 69).map (·.size) = some 56 := by kernel_rfl
section
variable {w : World} {g O : Nat} {T : TypeId} {A Z : List Value}
set_option maxRecDepth 100000 in
set_option maxHeartbeats 1000000 in
theorem mendHeld_is (h : He) (hp : PIn w g O T A Z (heL h)) :
    Calls Try.prog 55 #[.pointer (some ⟨g, O, none⟩)] w fun e w' => e = .returned (.tuple #[]) ∧ PIn w' g O T A Z (heL (plH h)) ∧ But g w w' := by
  obtain ⟨i, c⟩ := h
  have c0 : w.cell? ⟨g, O, none⟩ = some (.bool i) := (hp.cell0 (by simp [heL_len])).trans rfl
  have hlt := hp.lt
  have HP := Lib.hid hp
  clear hp
  cases i
  · go_enter Try.func55, Try.ntmps55
    go_wp2_with (refine wpList_store_pin rfl 69 (.tmp 9) (.tmp 8) rfl HP.out (heL heN) (by simp [Act.eval]) (by kernel_rfl) 56 size_he (heL_len _) (heL_len _) (heL_one _) ?_; intro w1 p1 b1)
    exact bodyPost_ret (v := .tuple #[]) (by simp [results, Try.results55]) rfl ⟨rfl, p1, b1⟩
  · have HC := Lib.hid (PIn.part (P := [.bool true]) (M := ceL c) (S := []) (o := O + 1) (HP.out.cs (by simp [heL])) rfl)
    go_enter Try.func55, Try.ntmps55
    go_wp2_with (go_at_call 57; (with_reducible refine (mendCell_is c HC.out).mono ?_); rintro e w1 ⟨rfl, p1, b1⟩)
    go_end0
    exact ⟨rfl, (PIn.whole (P := [.bool true]) (S := []) p1 rfl).cs (by simp [heL, plH]), b1⟩
theorem same_is (h : He) (hp : PIn w g O T A Z (heL h)) :
    Calls Try.prog 54 #[.pointer (some ⟨g, O, none⟩)] w fun e w' => e = .returned (.tuple #[]) ∧ PIn w' g O T A Z (heL h) ∧ But g w w' := by
  have HP := Lib.hid hp
  clear hp
  go_enter Try.func54, Try.ntmps54
  go_wp2_with fail
  go_end0
  exact ⟨rfl, HP.out, But.refl _ _⟩
end
end Go.Proofs.Ytmmgbhdjjejacaa

