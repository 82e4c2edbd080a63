/-
  The walk of the law RingsRound: true, whatever came in. Condition: the table of directions is as the program's text lays it.
-/
import Derived.Test.YthjplgiinkijcaaDoorRgNumbers
namespace Go.Proofs.YthjplgiinkijcaaDoor
open Go.RowKit Rg

set_option maxRecDepth 100000 in
theorem ringsRound_walk (x y z steps : Int) (w : World) (hw : Ways w) (hx : (Lit.int .u8 x).wf = true) (hy : (Lit.int .u8 y).wf = true) (hz : (Lit.int .u8 z).wf = true) (_ : (Lit.int .i64 steps).wf = true) :
    Calls Tryd.prog 6 #[.int .u8 x, .agg #[.int .u8 y, .int .u8 z], .int .i64 steps] w fun e w' => e = .returned (.bool true) ∧ Below w.heap.size w w' := by
  have hbx := bounds_u8 hx
  have hby := bounds_u8 hy
  have hbz := bounds_u8 hz
  have hy0 : 0 ≤ y := hby.1
  have hy1 : y ≤ 255 := hby.2
  have hz0 : 0 ≤ z := hbz.1
  have hz1 : z ≤ 255 := hbz.2
  have hN := fun W => nodes_any x W hbx.1 hbx.2
  have hm1 : 4 ≤ 4 + x % 13 := by omega
  have hm2 : 4 + x % 13 ≤ 16 := by omega
  obtain ⟨m, em⟩ : ∃ m, m = 4 + x % 13 := ⟨_, rfl⟩
  rw [← em] at hN hm1 hm2
  clear em hx hy hz hbx hby hbz
  have HN := Lib.hid hN
  have ha := mod_bd y m (by omega)
  have hb := mod_bd z m (by omega)
  obtain ⟨a, ea⟩ : ∃ a, y % m = a := ⟨_, rfl⟩
  obtain ⟨b, eb⟩ : ∃ b, z % m = b := ⟨_, rfl⟩
  rw [ea] at ha
  rw [eb] at hb
  have hr := tmod_bd steps 1000000 (by omega)
  obtain ⟨r, er⟩ : ∃ r, steps.tmod 1000000 = r := ⟨_, rfl⟩
  rw [er] at hr
  have hr1 : -1000000 < r := hr.1
  have hr2 : r < 1000000 := hr.2
  have hA : 4 ≤ m ∧ m ≤ 16 ∧ 0 ≤ a ∧ a < m := ⟨hm1, hm2, ha.1, ha.2⟩
  have hAB : 4 ≤ m ∧ m ≤ 16 ∧ 0 ≤ a ∧ a < m ∧ 0 ≤ b ∧ b < m := ⟨hm1, hm2, ha.1, ha.2, hb.1, hb.2⟩
  have s1 := fun W hW => step_is m 0 a r _ rfl W hW (by omega) (by omega)
  have s2 := fun W hW => step_is m 1 _ r _ (round1 r hA) W hW (by omega) (by omega)
  have s3 := fun W hW => step_is m 1 a (-r) _ (round2 r hA) W hW (by omega) (by omega)
  have s4 := fun W hW => step_is m 0 a (r + m) _ (round3 r hA) W hW (by omega) (by omega)
  have s5 := fun W hW => step_is m 0 a _ _ (dist_step (b := b) ⟨hm1, hm2, by omega, hAB.2.2⟩) W hW (by omega) (by omega)
  have s6 := fun W hW => step_is m 1 a _ _ (dist_step (b := b) ⟨hm1, hm2, by omega, hAB.2.2⟩) W hW (by omega) (by omega)
  have d1 := fun W hW => dist_is m 0 a b _ rfl W hW (by omega) (by omega)
  have d2 := fun W hW => dist_is m 1 a b _ rfl W hW (by omega) (by omega)
  have hdi := dist_in (n := m) (d := 0) (a := a) (b := b) ⟨hm1, hm2, by omega, hAB.2.2⟩
  have hdj := dist_in (n := m) (d := 1) (a := a) (b := b) ⟨hm1, hm2, by omega, hAB.2.2⟩
  have hboth := both hAB
  obtain ⟨t, et⟩ : ∃ t, t = stepM m 0 a r := ⟨_, rfl⟩
  rw [← et] at s1 s2 s3 s4
  obtain ⟨p, ep⟩ : ∃ p, p = distM m 0 a b := ⟨_, rfl⟩
  rw [← ep] at s5 d1 hdi hboth
  obtain ⟨q, eq⟩ : ∃ q, q = distM m 1 a b := ⟨_, rfl⟩
  rw [← eq] at s6 d2 hdj hboth
  have hp1 : 0 ≤ p := hdi.1
  have hp2 : p < m := hdi.2
  have hq1 : 0 ≤ q := hdj.1
  have hq2 : q < m := hdj.2
  clear et ep eq
  have HS1 := Lib.hid s1
  have HS2 := Lib.hid s2
  have HS3 := Lib.hid s3
  have HS4 := Lib.hid s4
  have HS5 := Lib.hid s5
  have HS6 := Lib.hid s6
  have HD1 := Lib.hid d1
  have HD2 := Lib.hid d2
  clear s1 s2 s3 s4 s5 s6 d1 d2 hN
  have hu := hw.al (.cells #[.int .u8 y, .int .u8 z] 41)
  have hB := below_al (Below.refl w.heap.size w) (.cells #[.int .u8 y, .int .u8 z] 41)
  rcases hboth with ⟨h1, h2, h3⟩ | ⟨h1, h2, h3, h4⟩
  · have c1 : (a == b) = true := by simpa using h1
    have c2 : (a != b) = false := by simpa using h1
    have c3 : (p == 0) = true := by simpa using h2
    have c4 : (q == 0) = true := by simpa using h3
    clear h1 h2 h3 hdi hdj ha hb hr hA hAB hw
    go_enter Tryd.func6, Tryd.ntmps6
    go_wp2_with (first
      | (go_at_call 28; (with_reducible refine (HN.out _).mono ?_); rintro e w' ⟨rfl, rfl⟩)
      | (go_at_call 10; (with_reducible refine (HS1.out _ hu).mono ?_); rintro e w' ⟨rfl, b9⟩; replace hu := hu.on b9; replace hB := below_then hB b9; clear b9 HS1)
      | (go_at_call 10; (with_reducible refine (HS2.out _ hu).mono ?_); rintro e w' ⟨rfl, b9⟩; replace hu := hu.on b9; replace hB := below_then hB b9; clear b9 HS2)
      | (go_at_call 10; (with_reducible refine (HS3.out _ hu).mono ?_); rintro e w' ⟨rfl, b9⟩; replace hu := hu.on b9; replace hB := below_then hB b9; clear b9 HS3)
      | (go_at_call 10; (with_reducible refine (HS4.out _ hu).mono ?_); rintro e w' ⟨rfl, b9⟩; replace hu := hu.on b9; replace hB := below_then hB b9; clear b9 HS4)
      | (go_at_call 10; (with_reducible refine (HS5.out _ hu).mono ?_); rintro e w' ⟨rfl, b9⟩; replace hu := hu.on b9; replace hB := below_then hB b9; clear b9 HS5)
      | (go_at_call 10; (with_reducible refine (HS6.out _ hu).mono ?_); rintro e w' ⟨rfl, b9⟩; replace hu := hu.on b9; replace hB := below_then hB b9; clear b9 HS6)
      | (go_at_call 12; (with_reducible refine (HD1.out _ hu).mono ?_); rintro e w' ⟨rfl, b9⟩; replace hu := hu.on b9; replace hB := below_then hB b9; clear b9 HD1)
      | (go_at_call 12; (with_reducible refine (HD2.out _ hu).mono ?_); rintro e w' ⟨rfl, b9⟩; replace hu := hu.on b9; replace hB := below_then hB b9; clear b9 HD2)
      | (go_at_call 14; (with_reducible refine (lives_any _ hu).mono ?_); rintro e w' ⟨rfl, b9⟩; replace hB := below_then hB b9; clear b9))
    go_ret
    exact ⟨rfl, hB⟩
  · have c1 : (a == b) = false := by simpa using h1
    have c2 : (a != b) = true := by simpa using h1
    have c3 : (p == 0) = false := by simpa using h2
    have c4 : (q == 0) = false := by simpa using h3
    have c5 : (p + q != m) = false := by simpa using h4
    clear h1 h2 h3 h4 hdi hdj ha hb hr hA hAB hw
    go_enter Tryd.func6, Tryd.ntmps6
    go_wp2_with (first
      | (go_at_call 28; (with_reducible refine (HN.out _).mono ?_); rintro e w' ⟨rfl, rfl⟩)
      | (go_at_call 10; (with_reducible refine (HS1.out _ hu).mono ?_); rintro e w' ⟨rfl, b9⟩; replace hu := hu.on b9; replace hB := below_then hB b9; clear b9 HS1)
      | (go_at_call 10; (with_reducible refine (HS2.out _ hu).mono ?_); rintro e w' ⟨rfl, b9⟩; replace hu := hu.on b9; replace hB := below_then hB b9; clear b9 HS2)
      | (go_at_call 10; (with_reducible refine (HS3.out _ hu).mono ?_); rintro e w' ⟨rfl, b9⟩; replace hu := hu.on b9; replace hB := below_then hB b9; clear b9 HS3)
      | (go_at_call 10; (with_reducible refine (HS4.out _ hu).mono ?_); rintro e w' ⟨rfl, b9⟩; replace hu := hu.on b9; replace hB := below_then hB b9; clear b9 HS4)
      | (go_at_call 10; (with_reducible refine (HS5.out _ hu).mono ?_); rintro e w' ⟨rfl, b9⟩; replace hu := hu.on b9; replace hB := below_then hB b9; clear b9 HS5)
      | (go_at_call 10; (with_reducible refine (HS6.out _ hu).mono ?_); rintro e w' ⟨rfl, b9⟩; replace hu := hu.on b9; replace hB := below_then hB b9; clear b9 HS6)
      | (go_at_call 12; (with_reducible refine (HD1.out _ hu).mono ?_); rintro e w' ⟨rfl, b9⟩; replace hu := hu.on b9; replace hB := below_then hB b9; clear b9 HD1)
      | (go_at_call 12; (with_reducible refine (HD2.out _ hu).mono ?_); rintro e w' ⟨rfl, b9⟩; replace hu := hu.on b9; replace hB := below_then hB b9; clear b9 HD2)
      | (go_at_call 14; (with_reducible refine (lives_any _ hu).mono ?_); rintro e w' ⟨rfl, b9⟩; replace hB := below_then hB b9; clear b9))
    go_ret
    exact ⟨rfl, hB⟩
end Go.Proofs.YthjplgiinkijcaaDoor
