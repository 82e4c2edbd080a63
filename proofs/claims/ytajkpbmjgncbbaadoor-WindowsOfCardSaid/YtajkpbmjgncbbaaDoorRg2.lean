/-
  The contracts of package rings' Step, Distance, Source, Link, Ends, Place: what the mathematics says, and nothing that was there has turned. Conditions: the table of directions is as the program's text lays it; the numbers are of their kinds.
-/
import Derived.Test.YtajkpbmjgncbbaaDoorRg1
namespace Go.Proofs.YtajkpbmjgncbbaaDoor
open Go.RowKit Rg

theorem exist1 (n d x : Int) (b : Bool) (hb : exB n d [x] = b) (w : World) (t : TypeId) (hd : 0 ≤ d) (hd' : d ≤ 255) :
    Calls Tryd.prog 41 #[.int .i64 n, .int .u8 d, .slice (some ⟨w.heap.size, 0, none⟩) 1 1] (w.alloc (.cells #[.int .i64 x] t)) fun e w' => e = .returned (.bool b) ∧ (w.alloc (.cells #[.int .i64 x] t)) = w' := by
  subst hb
  exact exist_any n d _ 1 1 [x] _ (Lies.new w t .i64 [x] 1 rfl _ rfl) (by omega) hd hd'
theorem exist2 (n d x y : Int) (b : Bool) (hb : exB n d [x, y] = b) (w : World) (t : TypeId) (hd : 0 ≤ d) (hd' : d ≤ 255) :
    Calls Tryd.prog 41 #[.int .i64 n, .int .u8 d, .slice (some ⟨w.heap.size, 0, none⟩) 2 2] (w.alloc (.cells #[.int .i64 x, .int .i64 y] t)) fun e w' => e = .returned (.bool b) ∧ (w.alloc (.cells #[.int .i64 x, .int .i64 y] t)) = w' := by
  subst hb
  exact exist_any n d _ 2 2 [x, y] _ (Lies.new w t .i64 [x, y] 2 rfl _ rfl) (by omega) hd hd'

set_option maxRecDepth 100000 in
theorem step_any (n d x s : Int) (w : World) (hw : Ways w) (hd : 0 ≤ d) (hd' : d ≤ 255) :
    Calls Tryd.prog 32 #[.int .i64 n, .int .u8 d, .int .i64 x, .int .i64 s] w fun e w' => e = .returned (.int .i64 (stepM n d x s)) ∧ Below w.heap.size w w' := by
  have hbel : ∀ v t, Below w.heap.size w (w.alloc (.cells v t)) := fun v t => (Below.refl _ _).alloc (Nat.le_refl _) _
  have HBEL := Lib.hid hbel
  clear hbel
  by_cases hex : exB n d [x] = true
  · obtain ⟨h1, h2, h3, h4, h5⟩ := ex1.1 hex
    have HEX := Lib.hid hex
    obtain ⟨g0, g1, g2, g3, g4⟩ := hw
    have HE := Lib.hid (step_of s ⟨h1, h2, h3, h4, h5⟩)
    have hr := tmod_bd s n (by omega)
    have HA := Lib.hid (add_tmod n x s)
    have HS := Lib.hid (sub_tmod n x s)
    obtain ⟨r, er⟩ : ∃ r, r = s.tmod n := ⟨_, rfl⟩
    rw [← er] at hr HA HS
    have hr1 : -n < r := hr.1
    have hr2 : r < n := hr.2
    have hrw := er.symm
    clear er hr hex
    have w0 : IntKind.i64.wrap r = r := IntWalk.i64_in _ (by omega)
    have hz : n ≠ 0 := by omega
    have hz' : (n == 0) = false := by simpa using hz
    have HD : d = 0 ∨ d = 1 := by omega
    rcases HD with rfl | rfl
    · have w1 : IntKind.i64.wrap (1 * r) = r := by rw [Int.one_mul]; exact IntWalk.i64_in _ (by omega)
      have w2 : IntKind.i64.wrap (x + r) = x + r := IntWalk.i64_in _ (by omega)
      go_enter Tryd.func32, Tryd.ntmps32
      go_wp2_with (go_at_call 41; with_reducible refine (exist1 n 0 x true HEX.out w _ (by omega) (by omega)).mono ?_; rintro e w' ⟨rfl, rfl⟩)
      go_quiet ((go_at_call 47; exact Calls.quiet_of_same (round_same n _ _ h1 h2)))
      go_wp2
      go_ret
      exact ⟨ret_int (by rw [HE.out, sg, if_pos rfl]; exact HA.out), below_drewN (HBEL.out _ _) _⟩
    · have w1 : IntKind.i64.wrap (-1 * r) = -1 * r := IntWalk.i64_in _ (by omega)
      have w2 : IntKind.i64.wrap (x + -1 * r) = x + -1 * r := IntWalk.i64_in _ (by omega)
      go_enter Tryd.func32, Tryd.ntmps32
      go_wp2_with (go_at_call 41; with_reducible refine (exist1 n 1 x true HEX.out w _ (by omega) (by omega)).mono ?_; rintro e w' ⟨rfl, rfl⟩)
      go_quiet ((go_at_call 47; exact Calls.quiet_of_same (round_same n _ _ h1 h2)))
      go_wp2
      go_ret
      exact ⟨ret_int (by rw [HE.out, sg, if_neg (by decide)]; first | exact HS.out | (rw [← HS.out]; congr 1; omega)), below_drewN (HBEL.out _ _) _⟩
  · have hex' : exB n d [x] = false := bfalse hex
    have HE := Lib.hid (step_no s hex')
    have HEX := Lib.hid hex'
    clear hex hex'
    go_enter Tryd.func32, Tryd.ntmps32
    go_wp2_with (go_at_call 41; with_reducible refine (exist1 n d x false HEX.out w _ (by omega) (by omega)).mono ?_; rintro e w' ⟨rfl, rfl⟩)
    go_ret
    exact ⟨ret_int HE.out.symm, HBEL.out _ _⟩
end Go.Proofs.YtajkpbmjgncbbaaDoor

