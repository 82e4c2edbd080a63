/-
  The contracts of package rings' Distance, Source, Link, Ends, Place: what the mathematics says, and nothing that was there has turned. Conditions: the table of directions is as the program's text lays it; the numbers are of their kinds.
-/
import Derived.Test.YtajkpbmjgncbbaaDoorRg2
namespace Go.Proofs.YtajkpbmjgncbbaaDoor
open Go.RowKit Rg

set_option maxRecDepth 100000 in
theorem dist_any (n d a b : Int) (w : World) (hw : Ways w) (hd : 0 ≤ d) (hd' : d ≤ 255) :
    Calls Tryd.prog 42 #[.int .i64 n, .int .u8 d, .int .i64 a, .int .i64 b] w fun e w' => e = .returned (.int .i64 (distM n d a b)) ∧ Below w.heap.size w w' := by
  have hbel : ∀ v t, Below w.heap.size w (w.alloc (.cells v t)) := fun v t => (Below.refl _ _).alloc (Nat.le_refl _) _
  have HBEL := Lib.hid hbel
  clear hbel
  by_cases hex : exB n d [a, b] = true
  · obtain ⟨h1, h2, h3, h4, h5, h6, h7⟩ := ex2.1 hex
    have HEX := Lib.hid hex
    obtain ⟨g0, g1, g2, g3, g4⟩ := hw
    have HE := Lib.hid (dist_of ⟨h1, h2, h3, h4, h5, h6, h7⟩)
    clear hex
    have HD : d = 0 ∨ d = 1 := by omega
    rcases HD with rfl | rfl
    · go_enter Tryd.func42, Tryd.ntmps42
      go_wp2_with (first
        | (go_at_call 41; with_reducible refine (exist2 n 0 a b true HEX.out w _ (by omega) (by omega)).mono ?_; rintro e w' ⟨rfl, rfl⟩)
        | (go_at_call 47; refine (round_any n _ _ h1 h2).mono ?_; rintro e w' ⟨rfl, rfl⟩))
      go_ret
      exact ⟨ret_int (by rw [HE.out, sg, if_pos rfl]), HBEL.out _ _⟩
    · go_enter Tryd.func42, Tryd.ntmps42
      go_wp2_with (first
        | (go_at_call 41; with_reducible refine (exist2 n 1 a b true HEX.out w _ (by omega) (by omega)).mono ?_; rintro e w' ⟨rfl, rfl⟩)
        | (go_at_call 47; refine (round_any n _ _ h1 h2).mono ?_; rintro e w' ⟨rfl, rfl⟩))
      go_ret
      exact ⟨ret_int (by rw [HE.out, sg, if_neg (by decide)]), HBEL.out _ _⟩
  · have hex' : exB n d [a, b] = false := bfalse hex
    have HE := Lib.hid (dist_no hex')
    have HEX := Lib.hid hex'
    clear hex hex'
    go_enter Tryd.func42, Tryd.ntmps42
    go_wp2_with (go_at_call 41; with_reducible refine (exist2 n d a b false HEX.out w _ (by omega) (by omega)).mono ?_; rintro e w' ⟨rfl, rfl⟩)
    go_ret
    exact ⟨ret_int HE.out.symm, HBEL.out _ _⟩

theorem isHop_b (h : Int) (b : Bool) (hb : hopB h = b) (w : World) : Calls Tryd.prog 31 #[.int .i64 h] w fun e w' => e = .returned (.bool b) ∧ w = w' := by
  subst hb; exact isHop_any h w

set_option maxRecDepth 100000 in
theorem source_any (n d x h : Int) (w : World) (hw : Ways w) (hd : 0 ≤ d) (hd' : d ≤ 255) :
    Calls Tryd.prog 20 #[.int .i64 n, .int .u8 d, .int .i64 x, .int .i64 h] w fun e w' => e = .returned (.int .i64 (sourceM n d x h)) ∧ Below w.heap.size w w' := by
  by_cases hh : hopB h = true
  · have HE := Lib.hid (show sourceM n d x h = stepM n d x (-h) by rw [sourceM, if_pos hh])
    have HH := Lib.hid hh
    have hb := hop_iff.1 hh
    have hb1 : 1 ≤ h := by omega
    have hb2 : h ≤ 2 := by omega
    clear hh hb
    go_enter Tryd.func20, Tryd.ntmps20
    go_wp2_with (first
      | (go_at_call 31; with_reducible refine (isHop_b h true HH.out w).mono ?_; rintro e w' ⟨rfl, rfl⟩)
      | (go_at_call 32; refine (step_any n d x _ w hw hd hd').mono ?_; rintro e w' ⟨rfl, hb⟩))
    go_ret
    exact ⟨ret_int HE.out.symm, hb⟩
  · have hh' : hopB h = false := bfalse hh
    have HE := Lib.hid (show sourceM n d x h = -1 by rw [sourceM, if_neg hh])
    have HH := Lib.hid hh'
    clear hh hh'
    go_enter Tryd.func20, Tryd.ntmps20
    go_wp2_with (go_at_call 31; with_reducible refine (isHop_b h false HH.out w).mono ?_; rintro e w' ⟨rfl, rfl⟩)
    go_ret
    exact ⟨ret_int HE.out.symm, Below.refl _ _⟩

set_option maxRecDepth 100000 in
theorem place_any (n d f x : Int) (w : World) (hw : Ways w) (hd : 0 ≤ d) (hd' : d ≤ 255) :
    Calls Tryd.prog 26 #[.int .i64 n, .int .u8 d, .int .i64 f, .int .i64 x] w fun e w' => e = .returned (.int .i64 (placeM n d f x)) ∧ Below w.heap.size w w' := by
  have hbel : ∀ v t, Below w.heap.size w (w.alloc (.cells v t)) := fun v t => (Below.refl _ _).alloc (Nat.le_refl _) _
  have HBEL := Lib.hid hbel
  clear hbel
  by_cases hex : exB n d [f, x] = true
  · obtain ⟨h1, h2, h3, h4, h5, h6, h7⟩ := ex2.1 hex
    have HEX := Lib.hid hex
    have HW := Lib.hid hw
    obtain ⟨g0, g1, g2, g3, g4⟩ := hw
    have HE := Lib.hid (show placeM n d f x = distM n d (stepM n 0 f d) x by rw [placeM, if_pos hex])
    clear hex
    have HD : d = 0 ∨ d = 1 := by omega
    rcases HD with rfl | rfl
    all_goals
      go_enter Tryd.func26, Tryd.ntmps26
      go_wp2_with (first
        | (go_at_call 41; with_reducible refine (exist2 n _ f x true HEX.out w _ (by omega) (by omega)).mono ?_; rintro e w' ⟨rfl, rfl⟩)
        | (go_at_call 32; refine (step_any n 0 f _ _ (HW.out.al _) (by omega) (by omega)).mono ?_; rintro e w5 ⟨rfl, hb5⟩)
        | (go_at_call 42; refine (dist_any n _ _ x _ ((HW.out.al _).on hb5) (by omega) (by omega)).mono ?_; rintro e w6 ⟨rfl, hb6⟩))
      go_ret
      exact ⟨ret_int HE.out.symm, below_then (below_then (HBEL.out _ _) hb5) hb6⟩
  · have hex' : exB n d [f, x] = false := bfalse hex
    have HE := Lib.hid (show placeM n d f x = -1 by rw [placeM, if_neg hex])
    have HEX := Lib.hid hex'
    clear hex hex'
    go_enter Tryd.func26, Tryd.ntmps26
    go_wp2_with (go_at_call 41; with_reducible refine (exist2 n d f x false HEX.out w _ (by omega) (by omega)).mono ?_; rintro e w' ⟨rfl, rfl⟩)
    go_ret
    exact ⟨ret_int HE.out.symm, HBEL.out _ _⟩

end Go.Proofs.YtajkpbmjgncbbaaDoor

