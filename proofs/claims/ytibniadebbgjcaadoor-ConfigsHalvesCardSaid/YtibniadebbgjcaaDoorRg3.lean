/-
  The contracts of package rings' Distance, Source, Link, Ends, Place: what the mathematics says, and nothing that was there has turned. Conditions: the table of directions is as the program's text lays it; the numbers are of their kinds.
-/
import Derived.Test.YtibniadebbgjcaaDoorRg2
namespace Go.Proofs.YtibniadebbgjcaaDoor
open Go.RowKit Rg

set_option maxRecDepth 100000 in
theorem dist_any (n d a b : Int) (w : World) (hw : Ways w) (hd : 0 ≤ d) (hd' : d ≤ 255) :
    Calls Tryd.prog 31 #[.int .i64 n, .int .u8 d, .int .i64 a, .int .i64 b] w fun e w' => e = .returned (.int .i64 (distM n d a b)) ∧ Below w.heap.size w w' := by
  have hbel : ∀ v t, Below w.heap.size w (w.alloc (.cells v t)) := fun v t => (Below.refl _ _).alloc (Nat.le_refl _) _
  have HBEL := Lib.hid hbel
  clear hbel
  by_cases hex : exB n d [a, b] = true
  · obtain ⟨h1, h2, h3, h4, h5, h6, h7⟩ := ex2.1 hex
    have HEX := Lib.hid hex
    obtain ⟨g0, g1, g2, g3, g4⟩ := hw
    have HE := Lib.hid (dist_of ⟨h1, h2, h3, h4, h5, h6, h7⟩)
    clear hex
    have HD : d = 0 ∨ d = 1 := by omega
    rcases HD with rfl | rfl
    · go_enter Tryd.func31, Tryd.ntmps31
      go_wp2_with (first
        | (go_at_call 49; with_reducible refine (exist2 n 0 a b true HEX.out w _ (by omega) (by omega)).mono ?_; rintro e w' ⟨rfl, rfl⟩)
        | (go_at_call 50; refine (round_any n _ _ h1 h2).mono ?_; rintro e w' ⟨rfl, rfl⟩))
      go_ret
      exact ⟨ret_int (by rw [HE.out, sg, if_pos rfl]), HBEL.out _ _⟩
    · go_enter Tryd.func31, Tryd.ntmps31
      go_wp2_with (first
        | (go_at_call 49; with_reducible refine (exist2 n 1 a b true HEX.out w _ (by omega) (by omega)).mono ?_; rintro e w' ⟨rfl, rfl⟩)
        | (go_at_call 50; refine (round_any n _ _ h1 h2).mono ?_; rintro e w' ⟨rfl, rfl⟩))
      go_ret
      exact ⟨ret_int (by rw [HE.out, sg, if_neg (by decide)]), HBEL.out _ _⟩
  · have hex' : exB n d [a, b] = false := bfalse hex
    have HE := Lib.hid (dist_no hex')
    have HEX := Lib.hid hex'
    clear hex hex'
    go_enter Tryd.func31, Tryd.ntmps31
    go_wp2_with (go_at_call 49; with_reducible refine (exist2 n d a b false HEX.out w _ (by omega) (by omega)).mono ?_; rintro e w' ⟨rfl, rfl⟩)
    go_ret
    exact ⟨ret_int HE.out.symm, HBEL.out _ _⟩

end Go.Proofs.YtibniadebbgjcaaDoor
