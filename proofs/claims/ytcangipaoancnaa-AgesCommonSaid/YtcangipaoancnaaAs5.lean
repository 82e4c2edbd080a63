/-
  slices.Collect, slices.Sorted at int64, and package ages: the common age. Conditions: the iterator's contract; the vector's reading.
-/
import Derived.Test.YtcangipaoancnaaAs4
import Derived.Test.YtcangipaoancnaaAsSh
import Derived.Sort.OwnSortedInts
import Derived.Lib.MinMax
import Derived.Test.YtcangipaoancnaaWdT2
namespace Go.Proofs.Ytcangipaoancnaa
open Go.RowKit
set_option linter.unusedVariables false
set_option linter.unusedSimpArgs false

theorem appendSeq_is (gf : FuncId) (pb : Array Value) (eg : ∀ args w, (callFunc gf args).run Try.prog w = .ok (.enter gf args) w) (xs : List Int) (hx : xs.length ≤ 65536) (w : World) (hseq : Seq64 Fence.wide 3 gf pb xs w) :
    Calls Try.prog 110 #[.slice none 0 0, .func (.func gf) pb #[]] w fun e w' => ∃ v, e = .returned v ∧ w'.ownsRow w.heap.size 2 1 v xs.length (valsI xs) ∧ Below w.heap.size w w' :=
  (callsIn_wide (n := 4)).1 (appendSeq_in Fence.wide 4 rfl (by omega) trivial gf pb trivial eg xs hx w hseq)
set_option maxRecDepth 100000 in
theorem collect_is (gf : FuncId) (pb : Array Value) (eg : ∀ args w, (callFunc gf args).run Try.prog w = .ok (.enter gf args) w) (xs : List Int) (hx : xs.length ≤ 65536) (w : World) (hseq : Seq64 Fence.wide 3 gf pb xs w) :
    Calls Try.prog 90 #[.func (.func gf) pb #[]] w fun e w' => ∃ v, e = .returned v ∧ w'.ownsRow w.heap.size 2 1 v xs.length (valsI xs) ∧ Below w.heap.size w w' := by
  have HC := Lib.hid (appendSeq_is gf pb eg xs hx w hseq)
  clear hseq
  go_enter Try.func90, Try.ntmps90
  go_wp2_with (go_at_call 110; (with_reducible refine HC.out.mono ?_); rintro e w1 ⟨v, rfl, q1, q2⟩; have HQ1 := Lib.hid q1; have HQ2 := Lib.hid q2; clear q1 q2)
  go_ret
  exact ⟨v, rfl, HQ1.out, HQ2.out⟩
/-- int64, sorted. -/
def srt (xs : List Int) : List Int := xs.mergeSort fun x y => decide (x ≤ y)
theorem srt_len (xs : List Int) : (srt xs).length = xs.length := List.length_mergeSort _
set_option maxRecDepth 100000 in
theorem sort_is (A : Option Addr) (c : Nat) (xs : List Int) (hx : xs.length ≤ 65536) (base : Nat) (w : World) (ho : w.ownsRow base 2 1 (.slice A xs.length c) xs.length (valsI xs)) :
    Calls Try.prog 91 #[.slice A xs.length c] w fun e w' => e = .returned (.tuple #[]) ∧ w'.ownsRow base 2 1 (.slice A xs.length c) xs.length (valsI (srt xs)) ∧ Below base w w' := by
  rcases ho.2 with ⟨hv, h0⟩ | ⟨g, cap, cur, hv, hb, hh, h1, h2, h3, h4⟩
  · have e0 : xs = [] := by
      have := congrArg (fun v => match v with | Value.slice _ n _ => n | _ => 0) hv
      simp at this; exact this
    subst e0
    have h := AnyG.slices_Sort_int_none sortI A c w
    refine (show Calls Try.prog 91 #[.slice A 0 c] w _ from h).mono ?_
    rintro e w' ⟨rfl, rfl⟩
    exact ⟨rfl, by simpa [srt, valsI] using ho, Below.refl _ _⟩
  · cases hv
    rw [Nat.mul_one] at h4
    have hH := holds_of_blockI hh h4
    have h := AnyG.slices_Sort_int sortI g 0 c xs w hH (Array.getElem?_eq_some_iff.1 hh).1 (by omega)
    refine (show Calls Try.prog 91 #[.slice (some ⟨g, 0, none⟩) xs.length c] w _ from h).mono ?_
    rintro e w' ⟨rfl, n, os, rfl⟩
    exact ⟨rfl, ownsRow_sortedI (srt_len xs) hb hh h1 h2 h3, (Below.refl base w).grown (grownBy_sortedI _) (by have := (Array.getElem?_eq_some_iff.1 hh).1; omega) (fun k e => by cases e; exact hb)⟩
theorem owns_shape {W : World} {base k : Nat} {v : Value} {xs : List Value} (h : W.ownsRow base 2 1 v k xs) : ∃ A c, v = .slice A k c := by
  rcases h.2 with ⟨hv, h0⟩ | ⟨g, cap, cur, hv, _⟩
  · obtain rfl : k = 0 := by first | exact h0 | exact h0.1
    exact ⟨none, 0, hv⟩
  · exact ⟨_, _, hv⟩
set_option maxRecDepth 100000 in
theorem sorted_is (gf : FuncId) (pb : Array Value) (eg : ∀ args w, (callFunc gf args).run Try.prog w = .ok (.enter gf args) w) (xs : List Int) (hx : xs.length ≤ 65536) (w : World) (hseq : Seq64 Fence.wide 3 gf pb xs w) :
    Calls Try.prog 70 #[.func (.func gf) pb #[]] w fun e w' => ∃ A c, e = .returned (.slice A xs.length c) ∧ w'.ownsRow w.heap.size 2 1 (.slice A xs.length c) xs.length (valsI (srt xs)) ∧ Below w.heap.size w w' := by
  have HC := Lib.hid (collect_is gf pb eg xs hx w hseq)
  have HX := Lib.hid hx
  clear hseq hx
  go_enter Try.func70, Try.ntmps70
  go_wp2_with (first
    | (go_at_call 90; (with_reducible refine HC.out.mono ?_); rintro e w1 ⟨v, rfl, q1, q2⟩; obtain ⟨A, c, rfl⟩ := owns_shape q1; have HS := Lib.hid (sort_is A c xs HX.out _ w1 q1); have HQ2 := Lib.hid q2; clear q1 q2)
    | (go_at_call 91; (with_reducible refine HS.out.mono ?_); rintro e w2 ⟨rfl, q1, q3⟩; have HQ1 := Lib.hid q1; have HQ3 := Lib.hid q3; clear q1 q3))
  go_ret
  exact ⟨A, c, rfl, HQ1.out, HQ2.out.trans HQ3.out⟩
end Go.Proofs.Ytcangipaoancnaa

