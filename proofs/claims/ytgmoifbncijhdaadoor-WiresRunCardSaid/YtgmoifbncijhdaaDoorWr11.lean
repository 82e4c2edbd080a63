/-
  The contract of the reference's End: one row more. Conditions: the reference's reading; fewer than 65535 ticks.
-/
import Derived.Test.YtgmoifbncijhdaaDoorWr10
namespace Go.Proofs.YtgmoifbncijhdaaDoor
open Go.RowKit Rg
set_option linter.unusedVariables false

set_option maxRecDepth 100000 in
theorem refEnd_is {w : World} {g base n : Nat} {rb : List Nat} {R : List (Nat → Option Int)} {A : Option Addr} {c : Nat} (h : RefW w g base n rb R A c) (h2 : n ≤ 16) (hRl : R.length ≤ 65535) :
    Calls Tryd.prog 15 #[.pointer (some ⟨g, 0, none⟩)] w fun e w' => e = .returned (.tuple #[]) ∧ (∃ rb' A' c', RefW w' g base n rb' (R ++ [noneW]) A' c') ∧ Below base w w' ∧ KeptT 32 w w' := by
  have c0 := h.blk.cell 0
  have c1 := h.blk.cell 1
  have cl := h.blk.lt
  simp only [List.getElem?_toArray, List.getElem?_cons_zero, List.getElem?_cons_succ] at c0 c1
  have HMK := Lib.hid (fun W => makeSt (4 * n) (by omega) W)
  obtain ⟨U, hU⟩ : ∃ U, U = ((w.drew.alloc (.cells (gfC noneW (4 * n)).toArray 36)).alloc (.cells #[.slice (some ⟨w.heap.size, 0, none⟩) (4 * n) (4 * n)] 66)) := ⟨_, rfl⟩
  have hbU : Below w.heap.size w U := by rw [hU]; exact below_al (below_al (Below.refl _ _).drew _) _
  have hrw : Blk U w.heap.size 36 (gfC noneW (4 * n)).toArray := by rw [hU]; exact Blk.alloc (Blk.new w.drew 36 (gfC noneW (4 * n)).toArray) _
  have hnb : Blk U (w.heap.size + 1) 66 #[.slice (some ⟨w.heap.size, 0, none⟩) (4 * n) (4 * n)] := by
    rw [hU]
    have := Blk.new (w.drew.alloc (.cells (gfC noneW (4 * n)).toArray 36)) 66 #[.slice (some ⟨w.heap.size, 0, none⟩) (4 * n) (4 * n)]
    simp only [alloc_size] at this
    exact this
  have HP := Lib.hid (fun (w' : World) (A' : Option Addr) (c' : Nat) hrow hg => refw_push (w' := w') (A' := A') (c' := c') h hbU hrw (Nat.le_refl _) hrow hg)
  have HOW := Lib.hid (h.on hbU).row
  have HNB := Lib.hid hnb
  have HBS := Lib.hid (show base ≤ U.heap.size from Nat.le_trans (Nat.le_trans h.lo (Nat.le_of_lt h.blk.lt)) hbU.size)
  have HL := Lib.hid (show R.length ≤ 65536 by omega)
  obtain ⟨N, hN⟩ : ∃ N, N = 4 * n := ⟨_, rfl⟩
  have hw4 : IntKind.i64.wrap (4 * (n : Int)) = (N : Int) := by rw [IntWalk.i64_in _ (by omega)]; omega
  rw [← hN] at HMK HP HNB hU
  have hmk := HMK.out
  subst hU
  clear HMK hN h h2 hRl hbU hrw hnb
  go_enter Tryd.func15, Tryd.ntmps15
  go_wp2_with fail
  go_region_law (refine step_append_hd rfl (.tmp 6) (.tmp 13) rfl base A c R.length (hdrs n rb) (.slice (some ⟨w.heap.size, 0, none⟩) N N) rfl (by simp [Act.eval]) HOW.out (w.heap.size + 1) (by simp [Act.eval]) HNB.out HL.out HBS.out ?_; intro A' c' w' hr hg; obtain ⟨q1, q2, q3, q4⟩ := HP.out w' A' c' hr hg; have f1 := q2.frozen 1; have x1 := q2.cell 1; have xl := q2.lt; simp only [List.getElem?_toArray, List.getElem?_cons_zero, List.getElem?_cons_succ] at x1; have HQ := Lib.hid (And.intro q1 (And.intro q3 q4)); clear q1 q2 q3 q4 hr hg)
  all_goals (
    go_wp2_with fail
    go_end0
    exact ⟨rfl, ⟨_, A', c', HQ.out.1⟩, HQ.out.2.1, HQ.out.2.2⟩)
end Go.Proofs.YtgmoifbncijhdaaDoor
