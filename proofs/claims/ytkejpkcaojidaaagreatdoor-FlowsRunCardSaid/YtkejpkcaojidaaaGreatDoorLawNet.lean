/-
  The contracts of the law's Net: none, or a net of the config that came in. Conditions: the config's reading; the table of directions is as the program's text lays it.
-/
import Derived.Test.YtkejpkcaojidaaaGreatDoorRgLaid
import Derived.Test.YtkejpkcaojidaaaGreatDoorNet3
import Derived.Test.YtkejpkcaojidaaaGreatDoorCfR
import Derived.Test.YtkejpkcaojidaaaGreatDoorCfRef3
namespace Go.Proofs.YtkejpkcaojidaaaGreatDoor
set_option linter.unusedVariables false
set_option linter.unusedSimpArgs false
open Go.RowKit Rg

theorem ex2_cases {n d x y : Int} (h : exB n d [x, y] = false) : isB n d = false ∨ (isB n d = true ∧ x < 0) ∨ (isB n d = true ∧ 0 ≤ x ∧ n ≤ x) ∨ (isB n d = true ∧ 0 ≤ x ∧ x < n ∧ y < 0) ∨ (isB n d = true ∧ 0 ≤ x ∧ x < n ∧ 0 ≤ y ∧ n ≤ y) := by
  by_cases hb : isB n d = true
  · have := isB_iff.1 hb
    by_cases h0 : 0 ≤ x ∧ x < n ∧ 0 ≤ y ∧ y < n
    · rw [ex2.2 (by omega)] at h; cases h
    · simp only [hb, true_and]
      omega
  · exact .inl (bfalse hb)
theorem node_hit {n d a b : Int} {k : Nat} (hn : 4 ≤ n ∧ n ≤ 16 ∧ d < 2 ∧ 0 ≤ a ∧ a < n ∧ 0 ≤ b ∧ b < n) (hk : (k : Int) ≤ distM n d a b) : nodeAt n d a k = b ↔ (k : Int) = distM n d a b := by
  have hD := dist_in hn
  constructor
  · intro h
    have e := node_dist n d a k (by omega) (by omega)
    rw [h] at e
    exact e.symm
  · intro h
    have e := node_end hn
    rw [← h, Int.toNat_natCast] at e
    exact e

set_option maxRecDepth 100000 in
theorem refDist_any (n d a b : Int) (w : World) (hd : 0 ≤ d) (hd' : d ≤ 255) :
    Calls Tryz.prog 103 #[.int .i64 n, .int .u8 d, .int .i64 a, .int .i64 b] w fun e w' => e = .returned (.int .i64 (distM n d a b)) ∧ w = w' := by
  by_cases hex : exB n d [a, b] = true
  · have hE := ex2.1 hex
    have hD := dist_in hE
    obtain ⟨h1, h2, h3, h4, h5, h6, h7⟩ := ex2.1 hex
    have HI := Lib.hid (isB_iff.2 ⟨h1, h2, h3⟩)
    have HX := Lib.hid (node0 n d a ⟨h4, h5⟩)
    have HH := Lib.hid (fun k hk => node_hit (k := k) hE hk)
    obtain ⟨D, eD⟩ : ∃ D, D = distM n d a b := ⟨_, rfl⟩
    rw [← eD] at hD HH ⊢
    have hD1 : 0 ≤ D := hD.1
    have hD2 : D < n := hD.2
    clear eD hD hex hE
    have hdd : d = 0 ∨ d = 1 := by omega
    have c0 : decide (a < 0) = false := by simpa using h4
    have c1 : decide (n ≤ a) = false := by simpa using h5
    have c2 : decide (b < 0) = false := by simpa using h6
    have c3 : decide (n ≤ b) = false := by simpa using h7
    go_enter Tryz.func103, Tryz.ntmps103
    go_wp2_with (go_at_call 97; (with_reducible refine (refIs_b n d true HI.out _ hd hd').mono ?_); rintro e w' ⟨rfl, rfl⟩)
    clear c0 c1 c2 c3
    go_loop [2, 9] (fun s2 s9 => ∃ k : Nat, (k : Int) ≤ D ∧ s9 = .int .i64 k ∧ s2 = .int .i64 (nodeAt n d a k)) (fun _ s9 => (D - intOf s9).toNat)
    case atStart => exact ⟨0, by omega, rfl, by rw [HX.out]⟩
    case round =>
      obtain ⟨k, hk, rfl, rfl⟩ := hrel
      have hh := HH.out k hk
      have HNx := Lib.hid (fun W => nextN n d a k W h1 h2 hdd)
      obtain ⟨z, ez⟩ : ∃ z, z = nodeAt n d a k := ⟨_, rfl⟩
      rw [← ez] at HNx hh ⊢
      clear ez
      by_cases hlt : (k : Int) = D
      · have c1 : (z != b) = false := by simpa using hh.2 hlt
        have HK := Lib.hid hlt
        clear hlt hh
        go_wp2_with fail
        go_ret
        exact ⟨ret_int HK.out, rfl⟩
      · have c1 : (z != b) = true := by simpa using fun h => hlt (hh.1 h)
        have hlt' : (k : Int) < D := by omega
        clear hlt hh
        go_wp2_with (go_at_call 99; (with_reducible refine (HNx.out _).mono ?_); rintro e w' ⟨rfl, rfl⟩)
        go_round
        case rel => exact ⟨k + 1, by omega, by go_num, rfl⟩
        case measure => simp [intOf]; omega
  · have hex' : exB n d [a, b] = false := bfalse hex
    have HE := Lib.hid (dist_no hex')
    rcases ex2_cases hex' with h | ⟨h, h0⟩ | ⟨h, h0, h1⟩ | ⟨h, h0, h1, h2⟩ | ⟨h, h0, h1, h2, h3⟩
    all_goals
      have HI := Lib.hid h
      clear h hex hex'
    · go_enter Tryz.func103, Tryz.ntmps103
      go_wp2_with (go_at_call 97; (with_reducible refine (refIs_b n d false HI.out _ hd hd').mono ?_); rintro e w' ⟨rfl, rfl⟩)
      go_ret
      exact ⟨ret_int HE.out.symm, rfl⟩
    all_goals
      go_enter Tryz.func103, Tryz.ntmps103
      go_wp2_with (go_at_call 97; (with_reducible refine (refIs_b n d true HI.out _ hd hd').mono ?_); rintro e w' ⟨rfl, rfl⟩)
      go_ret
      exact ⟨ret_int HE.out.symm, rfl⟩

set_option maxRecDepth 100000 in
theorem refPlace_any (n d f x : Int) (w : World) (hd : 0 ≤ d) (hd' : d ≤ 255) :
    Calls Tryz.prog 59 #[.int .i64 n, .int .u8 d, .int .i64 f, .int .i64 x] w fun e w' => e = .returned (.int .i64 (placeM n d f x)) ∧ w = w' := by
  by_cases hex : exB n d [f] = true
  · obtain ⟨h1, h2, h3, h4, h5⟩ := ex1.1 hex
    have HI := Lib.hid (isB_iff.2 ⟨h1, h2, h3⟩)
    have hdd : d = 0 ∨ d = 1 := by omega
    have c0 : decide (f < 0) = false := by simpa using h4
    have c1 : decide (n ≤ f) = false := by simpa using h5
    have hb := step_in (n := n) (d := 0) (x := f) d (by omega)
    have HE := Lib.hid (show distM n d (stepM n 0 f d) x = placeM n d f x by
      by_cases hx : exB n d [f, x] = true
      · rw [placeM, if_pos hx]
      · rw [placeM, if_neg hx]
        refine dist_no (bfalse fun h => hx ?_)
        have := ex2.1 h
        exact ex2.2 (by omega))
    have HS := Lib.hid (show stepM n 0 f d = (f + sg 0 d) % n from step_of _ (by omega))
    clear hex hb
    rcases hdd with rfl | rfl
    · have HF : Hid (stepM n 0 f 0 = f) := Lib.hid (by rw [HS.out, sg0, Int.add_zero, Int.emod_eq_of_lt h4 h5])
      go_enter Tryz.func59, Tryz.ntmps59
      go_wp2_with (first
        | (go_at_call 97; (with_reducible refine (refIs_b n 0 true HI.out _ hd hd').mono ?_); rintro e w' ⟨rfl, rfl⟩)
        | (go_at_call 103; (with_reducible refine (refDist_any n 0 f x _ hd hd').mono ?_); rintro e w' ⟨rfl, rfl⟩))
      go_ret
      exact ⟨ret_int (by rw [← HE.out, HF.out]), rfl⟩
    · have HNx := Lib.hid (fun W => next_any n 0 f W h1 h2 (.inl rfl) h4 h5)
      have HF : Hid ((f + sg 0 1) % n = stepM n 0 f 1) := Lib.hid HS.out.symm
      rw [HF.out] at HNx
      obtain ⟨z, ez⟩ : ∃ z, z = stepM n 0 f 1 := ⟨_, rfl⟩
      rw [← ez] at HNx HE
      clear ez HF HS
      go_enter Tryz.func59, Tryz.ntmps59
      go_wp2_with (first
        | (go_at_call 97; (with_reducible refine (refIs_b n 1 true HI.out _ hd hd').mono ?_); rintro e w' ⟨rfl, rfl⟩)
        | (go_at_call 99; (with_reducible refine (HNx.out _).mono ?_); rintro e w' ⟨rfl, rfl⟩)
        | (go_at_call 103; (with_reducible refine (refDist_any n 1 z x _ hd hd').mono ?_); rintro e w' ⟨rfl, rfl⟩))
      go_ret
      exact ⟨ret_int HE.out, rfl⟩
  · have hex' : exB n d [f] = false := bfalse hex
    have HE := Lib.hid (show placeM n d f x = -1 by
      rw [placeM, if_neg]
      intro h
      have := ex2.1 h
      exact hex (ex1.2 (by omega)))
    rcases ex1_cases hex' with h | ⟨h, h0⟩ | ⟨h, h0, h1⟩
    all_goals
      have HI := Lib.hid h
      clear h hex hex'
    · go_enter Tryz.func59, Tryz.ntmps59
      go_wp2_with (go_at_call 97; (with_reducible refine (refIs_b n d false HI.out _ hd hd').mono ?_); rintro e w' ⟨rfl, rfl⟩)
      go_ret
      exact ⟨ret_int HE.out.symm, rfl⟩
    all_goals
      go_enter Tryz.func59, Tryz.ntmps59
      go_wp2_with (go_at_call 97; (with_reducible refine (refIs_b n d true HI.out _ hd hd').mono ?_); rintro e w' ⟨rfl, rfl⟩)
      go_ret
      exact ⟨ret_int HE.out.symm, rfl⟩
end Go.Proofs.YtkejpkcaojidaaaGreatDoor

namespace Go.Proofs.YtkejpkcaojidaaaGreatDoor
open Go.RowKit Rg

/-- A pair's second half. -/
theorem second_of {N a : Int} (hN : 4 ≤ N ∧ N ≤ 16) (ha : 0 ≤ a ∧ a < N) : stepM N 0 a 1 = (a + 1) % N := by
  rw [step_of 1 ⟨hN.1, hN.2, by omega, ha.1, ha.2⟩, sg0]
theorem mod1 {N a : Int} (hN : 4 ≤ N) (ha : 0 ≤ a ∧ a < N) : ((a + 1) % N = a + 1 ∧ a + 1 < N) ∨ ((a + 1) % N = 0 ∧ a + 1 = N) := by
  rcases mod_near N (a + 1) (by omega) (by omega) with e | e | e <;> omega
theorem hit_iff {N x a : Int} (hN : 4 ≤ N ∧ N ≤ 16) (ha : 0 ≤ a ∧ a < N) : hitB N x a = true ↔ x = a ∨ x = (a + 1) % N := by
  rw [hitB, second_of hN ha]; simp
section
variable {N : Int} {P : List Int}
theorem okP_at (h : okP N P) (j : Nat) (hj : j < P.length) : 0 ≤ P.getD j 0 ∧ P.getD j 0 < N := h.1 _ (by rw [getD_at P j hj]; exact List.getElem_mem _)
theorem okP_two (h : okP N P) (i j : Nat) (hi : i < j) (hj : j < P.length) : P.getD i 0 + 2 ≤ P.getD j 0 ∧ P.getD j 0 + 2 ≤ P.getD i 0 + N := by
  rw [getD_at P i (by omega), getD_at P j hj]
  exact (List.pairwise_iff_getElem.1 h.2) i j (by omega) hj hi
/-- No node is in two pairs. -/
theorem hit_one (hN : 4 ≤ N ∧ N ≤ 16) (h : okP N P) {x : Int} {i j : Nat} (hi : i < P.length) (hj : j < P.length) (h1 : hitB N x (P.getD i 0) = true) (h2 : hitB N x (P.getD j 0) = true) : i = j := by
  have a1 := okP_at h i hi
  have a2 := okP_at h j hj
  rw [hit_iff hN a1] at h1
  rw [hit_iff hN a2] at h2
  have m1 := mod1 hN.1 a1
  have m2 := mod1 hN.1 a2
  rcases Nat.lt_trichotomy i j with q | q | q
  · have := okP_two h i j q hj; omega
  · exact q
  · have := okP_two h j i q hi; omega
theorem pair_cases (N : Int) (P : List Int) (x : Int) : (pairM N P x = -1 ∧ ∀ j, j < P.length → hitB N x (P.getD j 0) = false) ∨ ∃ q : Nat, q < P.length ∧ pairM N P x = q ∧ hitB N x (P.getD q 0) = true := by
  unfold pairM
  cases h : P.findIdx? (hitB N x) with
  | none =>
    left
    rw [List.findIdx?_eq_none_iff] at h
    exact ⟨rfl, fun j hj => by rw [getD_at P j hj]; exact h _ (List.getElem_mem _)⟩
  | some q =>
    right
    rw [List.findIdx?_eq_some_iff_getElem] at h
    obtain ⟨hq, h1, _⟩ := h
    exact ⟨q, hq, rfl, by rw [getD_at P q hq]; exact h1⟩
theorem pair_of (hN : 4 ≤ N ∧ N ≤ 16) (h : okP N P) {x : Int} {q : Nat} (hq : q < P.length) (h1 : hitB N x (P.getD q 0) = true) : pairM N P x = q := by
  rcases pair_cases N P x with ⟨_, h0⟩ | ⟨j, hj, e, h2⟩
  · rw [h0 q hq] at h1; cases h1
  · rw [e, hit_one hN h hj hq h2 h1]
theorem atM_nat (xs : List Int) (q : Nat) (hq : q < xs.length) : atM xs q = xs.getD q 0 := by
  rw [atM, if_pos (by omega)]; simp
end
end Go.Proofs.YtkejpkcaojidaaaGreatDoor

namespace Go.Proofs.YtkejpkcaojidaaaGreatDoor
open Go.RowKit Rg
set_option linter.unusedVariables false

theorem netGreat (c : Cf) (w : World) (hg : greatB c = true) :
    Calls Tryz.prog 4 #[.agg #[.int .i64 c.N, .slice c.pA c.pn c.pc, .slice c.sA c.sn c.sc, .int .i64 c.L, .slice c.bA c.bn c.bc, .slice c.tA c.tn c.tc, .int .i64 c.M, .int .i64 c.G, .int .i64 c.F]] w fun e w' => e = .returned (.pointer none) ∧ Below w.heap.size w w' := by
  have HG := Lib.hid hg
  clear hg
  go_enter Tryz.func4, Tryz.ntmps4
  go_wp2_with (go_at_call 19; (with_reducible refine (great_is c true HG.out _).mono ?_); rintro e w1 ⟨rfl, b1⟩)
  go_ret
  exact ⟨rfl, below_then (below_al (Below.refl _ _) _) b1⟩
theorem refNewE_is (c : Cf) (r : Int) (hr : newE c = r) (w : World) (hc : CfIn w c) :
    Calls Tryz.prog 20 #[.agg #[.int .i64 c.N, .slice c.pA c.pn c.pc, .slice c.sA c.sn c.sc, .int .i64 c.L, .slice c.bA c.bn c.bc, .slice c.tA c.tn c.tc, .int .i64 c.M, .int .i64 c.G, .int .i64 c.F]] w fun e w' => e = .returned (.int .i64 r) ∧ Below w.heap.size w w' := by
  subst hr; exact refNew_any c w hc
theorem netBad (c : Cf) (w : World) (hc : CfIn w c) (hg : greatB c = false) (h0 : newE c ≠ 0) :
    Calls Tryz.prog 4 #[.agg #[.int .i64 c.N, .slice c.pA c.pn c.pc, .slice c.sA c.sn c.sc, .int .i64 c.L, .slice c.bA c.bn c.bc, .slice c.tA c.tn c.tc, .int .i64 c.M, .int .i64 c.G, .int .i64 c.F]] w fun e w' => e = .returned (.pointer none) ∧ Below w.heap.size w w' := by
  have HG := Lib.hid hg
  obtain ⟨r, hr⟩ : ∃ r, r = newE c := ⟨_, rfl⟩
  rw [← hr] at h0
  have HR := Lib.hid hr.symm
  have e1 := beq_eq_false_iff_ne.2 h0
  clear hg hr h0
  go_enter Tryz.func4, Tryz.ntmps4
  go_wp2_with (first
    | (go_at_call 19; (with_reducible refine (great_is c false HG.out _).mono ?_); rintro e w1 ⟨rfl, b1⟩; obtain ⟨k0, k1, k2, k3, k4, k5, k6, k7, k8⟩ := ((Blk.new w _ _).on b1).cf)
    | (go_at_call 20; (with_reducible refine (refNewE_is c r HR.out w1 ((hc.al _).on b1)).mono ?_); rintro e w2 ⟨rfl, b2⟩))
  go_ret
  exact ⟨rfl, below_then (below_then (below_al (Below.refl _ w) _) b1) b2⟩
theorem netYes (c : Cf) (w : World) (hw : Ways w) (hc : CfIn w c) (hg : greatB c = false) (h0 : newE c = 0) :
    Calls Tryz.prog 4 #[.agg #[.int .i64 c.N, .slice c.pA c.pn c.pc, .slice c.sA c.sn c.sc, .int .i64 c.L, .slice c.bA c.bn c.bc, .slice c.tA c.tn c.tc, .int .i64 c.M, .int .i64 c.G, .int .i64 c.F]] w fun e w' => ∃ (g : Nat) (A1 A2 A3 A4 : Option Addr), e = .returned (.pointer (some ⟨g, 0, none⟩)) ∧ NetIs w' (.pointer (some ⟨g, 0, none⟩)) (c.to A1 A2 A3 A4) ∧ Below w.heap.size w w' := by
  have HG := Lib.hid hg
  have HR := Lib.hid h0
  clear hg h0
  go_enter Tryz.func4, Tryz.ntmps4
  go_wp2_with (first
    | (go_at_call 19; (with_reducible refine (great_is c false HG.out _).mono ?_); rintro e w1 ⟨rfl, b1⟩; have hB1 : Blk w1 w.heap.size 25 #[.int .i64 c.N, .slice c.pA c.pn c.pc, .slice c.sA c.sn c.sc, .int .i64 c.L, .slice c.bA c.bn c.bc, .slice c.tA c.tn c.tc, .int .i64 c.M, .int .i64 c.G, .int .i64 c.F] := (Blk.new w _ _).on b1; obtain ⟨k0, k1, k2, k3, k4, k5, k6, k7, k8⟩ := hB1.cf; have hB := below_then (below_al (Below.refl _ w) (.cells #[.int .i64 c.N, .slice c.pA c.pn c.pc, .slice c.sA c.sn c.sc, .int .i64 c.L, .slice c.bA c.bn c.bc, .slice c.tA c.tn c.tc, .int .i64 c.M, .int .i64 c.G, .int .i64 c.F] 25)) b1)
    | (go_at_call 20; (with_reducible refine (refNewE_is c 0 HR.out w1 (hc.on hB)).mono ?_); rintro e w2 ⟨rfl, b2⟩; clear k0 k1 k2 k3 k4 k5 k6 k7 k8; obtain ⟨k0, k1, k2, k3, k4, k5, k6, k7, k8⟩ := (hB1.on b2).cf; have hB2 := below_then hB b2)
    | (go_at_call 21; (with_reducible refine (new_yes c w2 (hc.on hB2) (hw.on hB2) HR.out).mono ?_); rintro e w3 ⟨g, A1, A2, A3, A4, rfl, -, hN, -, b3⟩; have hB3 := below_then hB2 b3))
  go_ret
  exact ⟨g, _, _, _, _, rfl, hN, hB3⟩
/-- A config that came in: with no net, or read, and such as may be. -/
theorem raw_cases {w : World} {c : Cf} (h : CfRaw w c) : (∀ u, Below w.heap.size w u → Calls Tryz.prog 4 #[.agg #[.int .i64 c.N, .slice c.pA c.pn c.pc, .slice c.sA c.sn c.sc, .int .i64 c.L, .slice c.bA c.bn c.bc, .slice c.tA c.tn c.tc, .int .i64 c.M, .int .i64 c.G, .int .i64 c.F]] u fun e w' => e = .returned (.pointer none) ∧ Below u.heap.size u w') ∨ (CfIn w c ∧ greatB c = false ∧ newE c = 0) := by
  by_cases hg : greatB c = true
  · exact .inl fun u hu => netGreat c u hg
  · have hg' : greatB c = false := by simpa using hg
    have hc := (h.small hg').1
    by_cases h0 : newE c = 0
    · exact .inr ⟨hc, hg', h0⟩
    · exact .inl fun u hu => netBad c u (hc.on hu) hg' h0
end Go.Proofs.YtkejpkcaojidaaaGreatDoor

