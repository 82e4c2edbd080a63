/-
  The contracts of the document's answers for rings that leave memory alone, continued: Distance, Place, Ends, Link, Source: what the mathematics says. Conditions: the numbers are of their kinds.
-/
import Derived.Test.YtbfgdphfeifglaaDoorRgRef
namespace Go.Proofs.YtbfgdphfeifglaaDoor
open Go.RowKit Rg

theorem ex2_cases {n d x y : Int} (h : exB n d [x, y] = false) : isB n d = false ∨ (isB n d = true ∧ x < 0) ∨ (isB n d = true ∧ 0 ≤ x ∧ n ≤ x) ∨ (isB n d = true ∧ 0 ≤ x ∧ x < n ∧ y < 0) ∨ (isB n d = true ∧ 0 ≤ x ∧ x < n ∧ 0 ≤ y ∧ n ≤ y) := by
  by_cases hb : isB n d = true
  · have := isB_iff.1 hb
    by_cases h0 : 0 ≤ x ∧ x < n ∧ 0 ≤ y ∧ y < n
    · rw [ex2.2 (by omega)] at h; cases h
    · simp only [hb, true_and]
      omega
  · exact .inl (bfalse hb)
theorem node_hit {n d a b : Int} {k : Nat} (hn : 4 ≤ n ∧ n ≤ 16 ∧ d < 2 ∧ 0 ≤ a ∧ a < n ∧ 0 ≤ b ∧ b < n) (hk : (k : Int) ≤ distM n d a b) : nodeAt n d a k = b ↔ (k : Int) = distM n d a b := by
  have hD := dist_in hn
  constructor
  · intro h
    have e := node_dist n d a k (by omega) (by omega)
    rw [h] at e
    exact e.symm
  · intro h
    have e := node_end hn
    rw [← h, Int.toNat_natCast] at e
    exact e

set_option maxRecDepth 100000 in
theorem refDist_any (n d a b : Int) (w : World) (hd : 0 ≤ d) (hd' : d ≤ 255) :
    Calls Tryd.prog 97 #[.int .i64 n, .int .u8 d, .int .i64 a, .int .i64 b] w fun e w' => e = .returned (.int .i64 (distM n d a b)) ∧ w = w' := by
  by_cases hex : exB n d [a, b] = true
  · have hE := ex2.1 hex
    have hD := dist_in hE
    obtain ⟨h1, h2, h3, h4, h5, h6, h7⟩ := ex2.1 hex
    have HI := Lib.hid (isB_iff.2 ⟨h1, h2, h3⟩)
    have HX := Lib.hid (node0 n d a ⟨h4, h5⟩)
    have HH := Lib.hid (fun k hk => node_hit (k := k) hE hk)
    obtain ⟨D, eD⟩ : ∃ D, D = distM n d a b := ⟨_, rfl⟩
    rw [← eD] at hD HH ⊢
    have hD1 : 0 ≤ D := hD.1
    have hD2 : D < n := hD.2
    clear eD hD hex hE
    have hdd : d = 0 ∨ d = 1 := by omega
    have c0 : decide (a < 0) = false := by simpa using h4
    have c1 : decide (n ≤ a) = false := by simpa using h5
    have c2 : decide (b < 0) = false := by simpa using h6
    have c3 : decide (n ≤ b) = false := by simpa using h7
    go_enter Tryd.func97, Tryd.ntmps97
    go_wp2_with (go_at_call 81; (with_reducible refine (refIs_b n d true HI.out _ hd hd').mono ?_); rintro e w' ⟨rfl, rfl⟩)
    clear c0 c1 c2 c3
    go_loop [2, 9] (fun s2 s9 => ∃ k : Nat, (k : Int) ≤ D ∧ s9 = .int .i64 k ∧ s2 = .int .i64 (nodeAt n d a k)) (fun _ s9 => (D - intOf s9).toNat)
    case atStart => exact ⟨0, by omega, rfl, by rw [HX.out]⟩
    case round =>
      obtain ⟨k, hk, rfl, rfl⟩ := hrel
      have hh := HH.out k hk
      have HNx := Lib.hid (fun W => nextN n d a k W h1 h2 hdd)
      obtain ⟨z, ez⟩ : ∃ z, z = nodeAt n d a k := ⟨_, rfl⟩
      rw [← ez] at HNx hh ⊢
      clear ez
      by_cases hlt : (k : Int) = D
      · have c1 : (z != b) = false := by simpa using hh.2 hlt
        have HK := Lib.hid hlt
        clear hlt hh
        go_wp2_with fail
        go_ret
        exact ⟨ret_int HK.out, rfl⟩
      · have c1 : (z != b) = true := by simpa using fun h => hlt (hh.1 h)
        have hlt' : (k : Int) < D := by omega
        clear hlt hh
        go_wp2_with (go_at_call 83; (with_reducible refine (HNx.out _).mono ?_); rintro e w' ⟨rfl, rfl⟩)
        go_round
        case rel => exact ⟨k + 1, by omega, by go_num, rfl⟩
        case measure => simp [intOf]; omega
  · have hex' : exB n d [a, b] = false := bfalse hex
    have HE := Lib.hid (dist_no hex')
    rcases ex2_cases hex' with h | ⟨h, h0⟩ | ⟨h, h0, h1⟩ | ⟨h, h0, h1, h2⟩ | ⟨h, h0, h1, h2, h3⟩
    all_goals
      have HI := Lib.hid h
      clear h hex hex'
    · go_enter Tryd.func97, Tryd.ntmps97
      go_wp2_with (go_at_call 81; (with_reducible refine (refIs_b n d false HI.out _ hd hd').mono ?_); rintro e w' ⟨rfl, rfl⟩)
      go_ret
      exact ⟨ret_int HE.out.symm, rfl⟩
    all_goals
      go_enter Tryd.func97, Tryd.ntmps97
      go_wp2_with (go_at_call 81; (with_reducible refine (refIs_b n d true HI.out _ hd hd').mono ?_); rintro e w' ⟨rfl, rfl⟩)
      go_ret
      exact ⟨ret_int HE.out.symm, rfl⟩

set_option maxRecDepth 100000 in
theorem refPlace_any (n d f x : Int) (w : World) (hd : 0 ≤ d) (hd' : d ≤ 255) :
    Calls Tryd.prog 88 #[.int .i64 n, .int .u8 d, .int .i64 f, .int .i64 x] w fun e w' => e = .returned (.int .i64 (placeM n d f x)) ∧ w = w' := by
  by_cases hex : exB n d [f] = true
  · obtain ⟨h1, h2, h3, h4, h5⟩ := ex1.1 hex
    have HI := Lib.hid (isB_iff.2 ⟨h1, h2, h3⟩)
    have hdd : d = 0 ∨ d = 1 := by omega
    have c0 : decide (f < 0) = false := by simpa using h4
    have c1 : decide (n ≤ f) = false := by simpa using h5
    have hb := step_in (n := n) (d := 0) (x := f) d (by omega)
    have HE := Lib.hid (show distM n d (stepM n 0 f d) x = placeM n d f x by
      by_cases hx : exB n d [f, x] = true
      · rw [placeM, if_pos hx]
      · rw [placeM, if_neg hx]
        refine dist_no (bfalse fun h => hx ?_)
        have := ex2.1 h
        exact ex2.2 (by omega))
    have HS := Lib.hid (show stepM n 0 f d = (f + sg 0 d) % n from step_of _ (by omega))
    clear hex hb
    rcases hdd with rfl | rfl
    · have HF : Hid (stepM n 0 f 0 = f) := Lib.hid (by rw [HS.out, sg0, Int.add_zero, Int.emod_eq_of_lt h4 h5])
      go_enter Tryd.func88, Tryd.ntmps88
      go_wp2_with (first
        | (go_at_call 81; (with_reducible refine (refIs_b n 0 true HI.out _ hd hd').mono ?_); rintro e w' ⟨rfl, rfl⟩)
        | (go_at_call 97; (with_reducible refine (refDist_any n 0 f x _ hd hd').mono ?_); rintro e w' ⟨rfl, rfl⟩))
      go_ret
      exact ⟨ret_int (by rw [← HE.out, HF.out]), rfl⟩
    · have HNx := Lib.hid (fun W => next_any n 0 f W h1 h2 (.inl rfl) h4 h5)
      have HF : Hid ((f + sg 0 1) % n = stepM n 0 f 1) := Lib.hid HS.out.symm
      rw [HF.out] at HNx
      obtain ⟨z, ez⟩ : ∃ z, z = stepM n 0 f 1 := ⟨_, rfl⟩
      rw [← ez] at HNx HE
      clear ez HF HS
      go_enter Tryd.func88, Tryd.ntmps88
      go_wp2_with (first
        | (go_at_call 81; (with_reducible refine (refIs_b n 1 true HI.out _ hd hd').mono ?_); rintro e w' ⟨rfl, rfl⟩)
        | (go_at_call 83; (with_reducible refine (HNx.out _).mono ?_); rintro e w' ⟨rfl, rfl⟩)
        | (go_at_call 97; (with_reducible refine (refDist_any n 1 z x _ hd hd').mono ?_); rintro e w' ⟨rfl, rfl⟩))
      go_ret
      exact ⟨ret_int HE.out, rfl⟩
  · have hex' : exB n d [f] = false := bfalse hex
    have HE := Lib.hid (show placeM n d f x = -1 by
      rw [placeM, if_neg]
      intro h
      have := ex2.1 h
      exact hex (ex1.2 (by omega)))
    rcases ex1_cases hex' with h | ⟨h, h0⟩ | ⟨h, h0, h1⟩
    all_goals
      have HI := Lib.hid h
      clear h hex hex'
    · go_enter Tryd.func88, Tryd.ntmps88
      go_wp2_with (go_at_call 81; (with_reducible refine (refIs_b n d false HI.out _ hd hd').mono ?_); rintro e w' ⟨rfl, rfl⟩)
      go_ret
      exact ⟨ret_int HE.out.symm, rfl⟩
    all_goals
      go_enter Tryd.func88, Tryd.ntmps88
      go_wp2_with (go_at_call 81; (with_reducible refine (refIs_b n d true HI.out _ hd hd').mono ?_); rintro e w' ⟨rfl, rfl⟩)
      go_ret
      exact ⟨ret_int HE.out.symm, rfl⟩
end Go.Proofs.YtbfgdphfeifglaaDoor

