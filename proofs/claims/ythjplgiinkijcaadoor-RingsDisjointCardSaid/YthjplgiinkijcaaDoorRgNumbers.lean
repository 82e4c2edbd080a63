/-
  The walk of the law RingsNumbers: true, whatever came in. Condition: the table of directions is as the program's text lays it.
-/
import Derived.Test.YthjplgiinkijcaaDoorRgLives
import Derived.Test.YthjplgiinkijcaaDoorRgQ
namespace Go.Proofs.YthjplgiinkijcaaDoor
open Go.RowKit Rg

theorem nodes_any (x : Int) (w : World) (h0 : 0 ≤ x) (h1 : x ≤ 255) : Calls Tryd.prog 28 #[.int .u8 x] w fun e w' => e = .returned (.int .i64 (4 + x % 13)) ∧ w = w' := by
  go_enter Tryd.func28, Tryd.ntmps28
  go_wp2
  go_ret
  exact ⟨rfl, rfl⟩
set_option maxRecDepth 100000 in
theorem ringsNumbers_walk (x : Int) (w : World) (hw : Ways w) (hx : (Lit.int .u8 x).wf = true) :
    Calls Tryd.prog 8 #[.int .u8 x] w fun e w' => e = .returned (.bool true) ∧ Below w.heap.size w w' := by
  have hb := bounds_u8 hx
  have hN := nodes_any x w hb.1 hb.2
  have hm1 : 4 ≤ 4 + x % 13 := by omega
  have hm2 : 4 + x % 13 ≤ 16 := by omega
  obtain ⟨m, em⟩ : ∃ m, m = 4 + x % 13 := ⟨_, rfl⟩
  rw [← em] at hN hm1 hm2
  clear em hx hb
  have HN := Lib.hid hN
  clear hN
  go_enter Tryd.func8, Tryd.ntmps8
  go_wp2_with (go_at_call 28; (with_reducible refine HN.out.mono ?_); rintro e w' ⟨rfl, rfl⟩)
  go_loopw [4] (fun i wr => ∃ k : Int, 0 ≤ k ∧ k ≤ 4 * m ∧ i = .int .i64 k ∧ Below w.heap.size w wr) (fun i _ => (4 * m - intOf i).toNat)
  case atStart => exact ⟨0, by omega, by omega, rfl, Below.refl _ _⟩
  case round =>
    obtain ⟨k, hk0, hk1, rfl, hbw⟩ := hrel
    have hwr := hw.on hbw
    by_cases hlt : k < 4 * m
    · have hk : 4 ≤ m ∧ m ≤ 16 ∧ 0 ≤ k ∧ k < 4 * m := ⟨hm1, hm2, hk0, hlt⟩
      have hT : endB m k = true := end_iff.2 hk
      have hx1 := ends_is m k (k / 4) (stepM m (k % 4 / 2) (k / 4) (k % 2 + 1)) (k % 4 / 2) (k % 2 + 1) (by rw [endFrom, if_pos hT]) (by rw [endTo, if_pos hT]) (by rw [endDir, if_pos hT]) (by rw [endHop, if_pos hT]) wr hwr (by omega) (by omega)
      have hx2 := fun W => link_is m (k % 4 / 2) (k / 4) (k % 2 + 1) k (nums_link hk) W (by omega) (by omega)
      have hx3 := fun W hW => source_is m (k % 4 / 2) _ (k % 2 + 1) (k / 4) (nums_source hk) W hW (by omega) (by omega)
      have hx4 := fun W hW => step_is m (k % 4 / 2) (k / 4) (k % 2 + 1) _ rfl W hW (by omega) (by omega)
      have hne := nums_apart hk
      obtain ⟨to, eto⟩ : ∃ t, t = stepM m (k % 4 / 2) (k / 4) (k % 2 + 1) := ⟨_, rfl⟩
      rw [← eto] at hx1 hx3 hx4 hne
      obtain ⟨fr, efr⟩ : ∃ t, t = k / 4 := ⟨_, rfl⟩
      rw [← efr] at hx1 hx2 hx3 hx4 hne
      obtain ⟨dd, edd⟩ : ∃ t, t = k % 4 / 2 := ⟨_, rfl⟩
      rw [← edd] at hx1 hx2 hx3 hx4
      obtain ⟨hh, ehh⟩ : ∃ t, t = k % 2 + 1 := ⟨_, rfl⟩
      rw [← ehh] at hx1 hx2 hx3 hx4
      have hne' : (fr == to) = false := by simpa using hne
      have H1 := Lib.hid hx1
      have H2 := Lib.hid hx2
      have H3 := Lib.hid hx3
      have H4 := Lib.hid hx4
      clear hx1 hx2 hx3 hx4 hne eto efr edd ehh hT hk
      go_wp2_with (first
        | (go_at_call 15; (with_reducible refine H1.out.mono ?_); rintro e w1 ⟨rfl, b1⟩; have u1 := hwr.on b1; clear H1)
        | (go_at_call 19; (with_reducible refine (H2.out _).mono ?_); rintro e w2 ⟨rfl, b2⟩; have u2 := u1.on b2; clear H2)
        | (go_at_call 17; (with_reducible refine (H3.out _ u2).mono ?_); rintro e w3 ⟨rfl, b3⟩; have u3 := u2.on b3; clear H3)
        | (go_at_call 10; (with_reducible refine (H4.out _ u3).mono ?_); rintro e w4 ⟨rfl, b4⟩; clear H4))
      go_roundw
      case rel => exact ⟨k + 1, by omega, by omega, rfl, below_then (below_then (below_then (below_then hbw b1) b2) b3) b4⟩
      case measure => simp [intOf]; omega
    · obtain rfl : k = 4 * m := by omega
      have hF := end_no m
      have H1 := Lib.hid (ends_is m (4 * m) (-1) (-1) 0 0 (by rw [endFrom, hF]; rfl) (by rw [endTo, hF]; rfl) (by rw [endDir, hF]; rfl) (by rw [endHop, hF]; rfl) wr hwr (by omega) (by omega))
      have H2 := Lib.hid (fun W => link_is m 0 m 1 (-1) (link_no1 m) W (by omega) (by omega))
      have H3 := Lib.hid (fun W => link_is m 0 0 3 (-1) (link_no2 m) W (by omega) (by omega))
      clear hF hk1 hlt
      go_wp2_with (first
        | (go_at_call 15; (with_reducible refine H1.out.mono ?_); rintro e w1 ⟨rfl, b1⟩; have u1 := hwr.on b1; clear H1)
        | (go_at_call 19; (with_reducible refine (H2.out _).mono ?_); rintro e w2 ⟨rfl, b2⟩; have u2 := u1.on b2; clear H2)
        | (go_at_call 19; (with_reducible refine (H3.out _).mono ?_); rintro e w3 ⟨rfl, b3⟩; have u3 := u2.on b3; clear H3)
        | (go_at_call 14; (with_reducible refine (lives_any _ u3).mono ?_); rintro e w4 ⟨rfl, b4⟩))
      go_ret
      exact ⟨rfl, below_then (below_then (below_then (below_then hbw b1) b2) b3) b4⟩
end Go.Proofs.YthjplgiinkijcaaDoor
