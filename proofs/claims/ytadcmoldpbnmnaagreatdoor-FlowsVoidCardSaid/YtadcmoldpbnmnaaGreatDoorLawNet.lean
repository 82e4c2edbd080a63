/-
  The contracts of the law's Net: none, or a net of the config that came in. Conditions: the config's reading; the table of directions is as the program's text lays it.
-/
import Derived.Test.YtadcmoldpbnmnaaGreatDoorRgLaid
import Derived.Test.YtadcmoldpbnmnaaGreatDoorNet3
import Derived.Test.YtadcmoldpbnmnaaGreatDoorCfR
import Derived.Test.YtadcmoldpbnmnaaGreatDoorCfRef3
namespace Go.Proofs.YtadcmoldpbnmnaaGreatDoor
open Go.RowKit Rg

theorem ex2_cases {n d x y : Int} (h : exB n d [x, y] = false) : isB n d = false ∨ (isB n d = true ∧ x < 0) ∨ (isB n d = true ∧ 0 ≤ x ∧ n ≤ x) ∨ (isB n d = true ∧ 0 ≤ x ∧ x < n ∧ y < 0) ∨ (isB n d = true ∧ 0 ≤ x ∧ x < n ∧ 0 ≤ y ∧ n ≤ y) := by
  by_cases hb : isB n d = true
  · have := isB_iff.1 hb
    by_cases h0 : 0 ≤ x ∧ x < n ∧ 0 ≤ y ∧ y < n
    · rw [ex2.2 (by omega)] at h; cases h
    · simp only [hb, true_and]
      omega
  · exact .inl (bfalse hb)
theorem node_hit {n d a b : Int} {k : Nat} (hn : 4 ≤ n ∧ n ≤ 16 ∧ d < 2 ∧ 0 ≤ a ∧ a < n ∧ 0 ≤ b ∧ b < n) (hk : (k : Int) ≤ distM n d a b) : nodeAt n d a k = b ↔ (k : Int) = distM n d a b := by
  have hD := dist_in hn
  constructor
  · intro h
    have e := node_dist n d a k (by omega) (by omega)
    rw [h] at e
    exact e.symm
  · intro h
    have e := node_end hn
    rw [← h, Int.toNat_natCast] at e
    exact e

set_option maxRecDepth 100000 in
theorem refDist_any (n d a b : Int) (w : World) (hd : 0 ≤ d) (hd' : d ≤ 255) :
    Calls Tryz.prog 104 #[.int .i64 n, .int .u8 d, .int .i64 a, .int .i64 b] w fun e w' => e = .returned (.int .i64 (distM n d a b)) ∧ w = w' := by
  by_cases hex : exB n d [a, b] = true
  · have hE := ex2.1 hex
    have hD := dist_in hE
    obtain ⟨h1, h2, h3, h4, h5, h6, h7⟩ := ex2.1 hex
    have HI := Lib.hid (isB_iff.2 ⟨h1, h2, h3⟩)
    have HX := Lib.hid (node0 n d a ⟨h4, h5⟩)
    have HH := Lib.hid (fun k hk => node_hit (k := k) hE hk)
    obtain ⟨D, eD⟩ : ∃ D, D = distM n d a b := ⟨_, rfl⟩
    rw [← eD] at hD HH ⊢
    have hD1 : 0 ≤ D := hD.1
    have hD2 : D < n := hD.2
    clear eD hD hex hE
    have hdd : d = 0 ∨ d = 1 := by omega
    have c0 : decide (a < 0) = false := by simpa using h4
    have c1 : decide (n ≤ a) = false := by simpa using h5
    have c2 : decide (b < 0) = false := by simpa using h6
    have c3 : decide (n ≤ b) = false := by simpa using h7
    go_enter Tryz.func104, Tryz.ntmps104
    go_wp2_with (go_at_call 98; (with_reducible refine (refIs_b n d true HI.out _ hd hd').mono ?_); rintro e w' ⟨rfl, rfl⟩)
    clear c0 c1 c2 c3
    go_loop [2, 9] (fun s2 s9 => ∃ k : Nat, (k : Int) ≤ D ∧ s9 = .int .i64 k ∧ s2 = .int .i64 (nodeAt n d a k)) (fun _ s9 => (D - intOf s9).toNat)
    case atStart => exact ⟨0, by omega, rfl, by rw [HX.out]⟩
    case round =>
      obtain ⟨k, hk, rfl, rfl⟩ := hrel
      have hh := HH.out k hk
      have HNx := Lib.hid (fun W => nextN n d a k W h1 h2 hdd)
      obtain ⟨z, ez⟩ : ∃ z, z = nodeAt n d a k := ⟨_, rfl⟩
      rw [← ez] at HNx hh ⊢
      clear ez
      by_cases hlt : (k : Int) = D
      · have c1 : (z != b) = false := by simpa using hh.2 hlt
        have HK := Lib.hid hlt
        clear hlt hh
        go_wp2_with fail
        go_ret
        exact ⟨ret_int HK.out, rfl⟩
      · have c1 : (z != b) = true := by simpa using fun h => hlt (hh.1 h)
        have hlt' : (k : Int) < D := by omega
        clear hlt hh
        go_wp2_with (go_at_call 100; (with_reducible refine (HNx.out _).mono ?_); rintro e w' ⟨rfl, rfl⟩)
        go_round
        case rel => exact ⟨k + 1, by omega, by go_num, rfl⟩
        case measure => simp [intOf]; omega
  · have hex' : exB n d [a, b] = false := bfalse hex
    have HE := Lib.hid (dist_no hex')
    rcases ex2_cases hex' with h | ⟨h, h0⟩ | ⟨h, h0, h1⟩ | ⟨h, h0, h1, h2⟩ | ⟨h, h0, h1, h2, h3⟩
    all_goals
      have HI := Lib.hid h
      clear h hex hex'
    · go_enter Tryz.func104, Tryz.ntmps104
      go_wp2_with (go_at_call 98; (with_reducible refine (refIs_b n d false HI.out _ hd hd').mono ?_); rintro e w' ⟨rfl, rfl⟩)
      go_ret
      exact ⟨ret_int HE.out.symm, rfl⟩
    all_goals
      go_enter Tryz.func104, Tryz.ntmps104
      go_wp2_with (go_at_call 98; (with_reducible refine (refIs_b n d true HI.out _ hd hd').mono ?_); rintro e w' ⟨rfl, rfl⟩)
      go_ret
      exact ⟨ret_int HE.out.symm, rfl⟩

set_option maxRecDepth 100000 in
theorem refPlace_any (n d f x : Int) (w : World) (hd : 0 ≤ d) (hd' : d ≤ 255) :
    Calls Tryz.prog 60 #[.int .i64 n, .int .u8 d, .int .i64 f, .int .i64 x] w fun e w' => e = .returned (.int .i64 (placeM n d f x)) ∧ w = w' := by
  by_cases hex : exB n d [f] = true
  · obtain ⟨h1, h2, h3, h4, h5⟩ := ex1.1 hex
    have HI := Lib.hid (isB_iff.2 ⟨h1, h2, h3⟩)
    have hdd : d = 0 ∨ d = 1 := by omega
    have c0 : decide (f < 0) = false := by simpa using h4
    have c1 : decide (n ≤ f) = false := by simpa using h5
    have hb := step_in (n := n) (d := 0) (x := f) d (by omega)
    have HE := Lib.hid (show distM n d (stepM n 0 f d) x = placeM n d f x by
      by_cases hx : exB n d [f, x] = true
      · rw [placeM, if_pos hx]
      · rw [placeM, if_neg hx]
        refine dist_no (bfalse fun h => hx ?_)
        have := ex2.1 h
        exact ex2.2 (by omega))
    have HS := Lib.hid (show stepM n 0 f d = (f + sg 0 d) % n from step_of _ (by omega))
    clear hex hb
    rcases hdd with rfl | rfl
    · have HF : Hid (stepM n 0 f 0 = f) := Lib.hid (by rw [HS.out, sg0, Int.add_zero, Int.emod_eq_of_lt h4 h5])
      go_enter Tryz.func60, Tryz.ntmps60
      go_wp2_with (first
        | (go_at_call 98; (with_reducible refine (refIs_b n 0 true HI.out _ hd hd').mono ?_); rintro e w' ⟨rfl, rfl⟩)
        | (go_at_call 104; (with_reducible refine (refDist_any n 0 f x _ hd hd').mono ?_); rintro e w' ⟨rfl, rfl⟩))
      go_ret
      exact ⟨ret_int (by rw [← HE.out, HF.out]), rfl⟩
    · have HNx := Lib.hid (fun W => next_any n 0 f W h1 h2 (.inl rfl) h4 h5)
      have HF : Hid ((f + sg 0 1) % n = stepM n 0 f 1) := Lib.hid HS.out.symm
      rw [HF.out] at HNx
      obtain ⟨z, ez⟩ : ∃ z, z = stepM n 0 f 1 := ⟨_, rfl⟩
      rw [← ez] at HNx HE
      clear ez HF HS
      go_enter Tryz.func60, Tryz.ntmps60
      go_wp2_with (first
        | (go_at_call 98; (with_reducible refine (refIs_b n 1 true HI.out _ hd hd').mono ?_); rintro e w' ⟨rfl, rfl⟩)
        | (go_at_call 100; (with_reducible refine (HNx.out _).mono ?_); rintro e w' ⟨rfl, rfl⟩)
        | (go_at_call 104; (with_reducible refine (refDist_any n 1 z x _ hd hd').mono ?_); rintro e w' ⟨rfl, rfl⟩))
      go_ret
      exact ⟨ret_int HE.out, rfl⟩
  · have hex' : exB n d [f] = false := bfalse hex
    have HE := Lib.hid (show placeM n d f x = -1 by
      rw [placeM, if_neg]
      intro h
      have := ex2.1 h
      exact hex (ex1.2 (by omega)))
    rcases ex1_cases hex' with h | ⟨h, h0⟩ | ⟨h, h0, h1⟩
    all_goals
      have HI := Lib.hid h
      clear h hex hex'
    · go_enter Tryz.func60, Tryz.ntmps60
      go_wp2_with (go_at_call 98; (with_reducible refine (refIs_b n d false HI.out _ hd hd').mono ?_); rintro e w' ⟨rfl, rfl⟩)
      go_ret
      exact ⟨ret_int HE.out.symm, rfl⟩
    all_goals
      go_enter Tryz.func60, Tryz.ntmps60
      go_wp2_with (go_at_call 98; (with_reducible refine (refIs_b n d true HI.out _ hd hd').mono ?_); rintro e w' ⟨rfl, rfl⟩)
      go_ret
      exact ⟨ret_int HE.out.symm, rfl⟩
end Go.Proofs.YtadcmoldpbnmnaaGreatDoor

namespace Go.Proofs.YtadcmoldpbnmnaaGreatDoor
open Go.RowKit Rg

/-- A pair's second half. -/
theorem second_of {N a : Int} (hN : 4 ≤ N ∧ N ≤ 16) (ha : 0 ≤ a ∧ a < N) : stepM N 0 a 1 = (a + 1) % N := by
  rw [step_of 1 ⟨hN.1, hN.2, by omega, ha.1, ha.2⟩, sg0]
theorem mod1 {N a : Int} (hN : 4 ≤ N) (ha : 0 ≤ a ∧ a < N) : ((a + 1) % N = a + 1 ∧ a + 1 < N) ∨ ((a + 1) % N = 0 ∧ a + 1 = N) := by
  rcases mod_near N (a + 1) (by omega) (by omega) with e | e | e <;> omega
theorem hit_iff {N x a : Int} (hN : 4 ≤ N ∧ N ≤ 16) (ha : 0 ≤ a ∧ a < N) : hitB N x a = true ↔ x = a ∨ x = (a + 1) % N := by
  rw [hitB, second_of hN ha]; simp
section
variable {N : Int} {P : List Int}
theorem okP_at (h : okP N P) (j : Nat) (hj : j < P.length) : 0 ≤ P.getD j 0 ∧ P.getD j 0 < N := h.1 _ (by rw [getD_at P j hj]; exact List.getElem_mem _)
theorem okP_two (h : okP N P) (i j : Nat) (hi : i < j) (hj : j < P.length) : P.getD i 0 + 2 ≤ P.getD j 0 ∧ P.getD j 0 + 2 ≤ P.getD i 0 + N := by
  rw [getD_at P i (by omega), getD_at P j hj]
  exact (List.pairwise_iff_getElem.1 h.2) i j (by omega) hj hi
/-- No node is in two pairs. -/
theorem hit_one (hN : 4 ≤ N ∧ N ≤ 16) (h : okP N P) {x : Int} {i j : Nat} (hi : i < P.length) (hj : j < P.length) (h1 : hitB N x (P.getD i 0) = true) (h2 : hitB N x (P.getD j 0) = true) : i = j := by
  have a1 := okP_at h i hi
  have a2 := okP_at h j hj
  rw [hit_iff hN a1] at h1
  rw [hit_iff hN a2] at h2
  have m1 := mod1 hN.1 a1
  have m2 := mod1 hN.1 a2
  rcases Nat.lt_trichotomy i j with q | q | q
  · have := okP_two h i j q hj; omega
  · exact q
  · have := okP_two h j i q hi; omega
theorem pair_cases (N : Int) (P : List Int) (x : Int) : (pairM N P x = -1 ∧ ∀ j, j < P.length → hitB N x (P.getD j 0) = false) ∨ ∃ q : Nat, q < P.length ∧ pairM N P x = q ∧ hitB N x (P.getD q 0) = true := by
  unfold pairM
  cases h : P.findIdx? (hitB N x) with
  | none =>
    left
    rw [List.findIdx?_eq_none_iff] at h
    exact ⟨rfl, fun j hj => by rw [getD_at P j hj]; exact h _ (List.getElem_mem _)⟩
  | some q =>
    right
    rw [List.findIdx?_eq_some_iff_getElem] at h
    obtain ⟨hq, h1, _⟩ := h
    exact ⟨q, hq, rfl, by rw [getD_at P q hq]; exact h1⟩
theorem pair_of (hN : 4 ≤ N ∧ N ≤ 16) (h : okP N P) {x : Int} {q : Nat} (hq : q < P.length) (h1 : hitB N x (P.getD q 0) = true) : pairM N P x = q := by
  rcases pair_cases N P x with ⟨_, h0⟩ | ⟨j, hj, e, h2⟩
  · rw [h0 q hq] at h1; cases h1
  · rw [e, hit_one hN h hj hq h2 h1]
theorem atM_nat (xs : List Int) (q : Nat) (hq : q < xs.length) : atM xs q = xs.getD q 0 := by
  rw [atM, if_pos (by omega)]; simp
theorem atM_neg (xs : List Int) : atM xs (-1) = -1 := by rw [atM, if_neg (by omega)]
/-- No pair: no partner. -/
theorem part_none {x : Int} (hx : 0 ≤ x) (h : pairM N P x = -1) : partM N P x = -1 := by
  rw [partM, h, atM_neg, if_neg (by omega)]
/-- A half's partner is the other half, and it is that one's. -/
theorem part_some (hN : 4 ≤ N ∧ N ≤ 16) (h : okP N P) {x : Int} {q : Nat} (hq : q < P.length) (h1 : hitB N x (P.getD q 0) = true) :
    ∃ k : Int, partM N P x = k ∧ pairM N P k = q ∧ partM N P k = x ∧ ((x = P.getD q 0 ∧ k = (P.getD q 0 + 1) % N) ∨ (x = (P.getD q 0 + 1) % N ∧ k = P.getD q 0)) := by
  have hp := pair_of hN h hq h1
  have a1 := okP_at h q hq
  have m1 := mod1 hN.1 a1
  have hs := second_of hN a1
  rw [hit_iff hN a1] at h1
  have g1 : hitB N (P.getD q 0) (P.getD q 0) = true := (hit_iff hN a1).2 (.inl rfl)
  have g2 : hitB N ((P.getD q 0 + 1) % N) (P.getD q 0) = true := (hit_iff hN a1).2 (.inr rfl)
  have p1 := pair_of hN h hq g1
  have p2 := pair_of hN h hq g2
  have e1 : partM N P (P.getD q 0) = (P.getD q 0 + 1) % N := by rw [partM, p1, atM_nat P q hq, if_pos rfl, hs]
  have e2 : partM N P ((P.getD q 0 + 1) % N) = P.getD q 0 := by rw [partM, p2, atM_nat P q hq, if_neg (by omega)]
  rcases h1 with rfl | rfl
  · exact ⟨_, e1, p2, e2, .inl ⟨rfl, rfl⟩⟩
  · exact ⟨_, e2, p1, e1, .inr ⟨rfl, rfl⟩⟩
/-- How far a half is from the first one. -/
theorem half_dist (hN : 4 ≤ N ∧ N ≤ 16) {a : Int} (ha : 0 ≤ a ∧ a < N) : distM N 0 a a = 0 ∧ distM N 0 a ((a + 1) % N) = 1 := by
  have m := mod1 hN.1 ha
  refine ⟨?_, ?_⟩
  · rw [dist_of ⟨hN.1, hN.2, by omega, ha.1, ha.2, ha.1, ha.2⟩, sg0]; simp
  · have hb := mod_bd (a + 1) N (by omega)
    rw [dist_of ⟨hN.1, hN.2, by omega, ha.1, ha.2, hb.1, hb.2⟩, sg0]
    rcases mod_near N ((a + 1) % N - a) (by omega) (by omega) with e | e | e <;> omega

/-- How many halves of each pair are ahead of a node. -/
def halvesL (N : Int) (P : List Int) (i : Int) : List Int := P.map fun f => (if f < i then 1 else 0) + (if (f + 1) % N < i then 1 else 0)
theorem halves_len (N : Int) (P : List Int) (i : Int) : (halvesL N P i).length = P.length := by simp [halvesL]
theorem halves_zero (hN : 4 ≤ N) (h : okP N P) : halvesL N P 0 = List.replicate P.length 0 := by
  unfold halvesL
  apply List.ext_getElem
  · simp
  · intro j h1 h2
    have hj : j < P.length := by simpa using h1
    have a := h.1 P[j] (List.getElem_mem _)
    have b := mod_bd (P[j] + 1) N (by omega)
    simp only [List.getElem_map, List.getElem_replicate]
    rw [if_neg (by omega), if_neg (by omega)]; rfl
theorem halves_at (N : Int) (P : List Int) (i : Int) (j : Nat) (hj : j < P.length) : (halvesL N P i).getD j 0 = (if P.getD j 0 < i then 1 else 0) + (if (P.getD j 0 + 1) % N < i then 1 else 0) := by
  rw [getD_at _ j (by rw [halves_len]; exact hj), getD_at P j hj]; simp [halvesL]
theorem halves_all (hN : 4 ≤ N) (h : okP N P) (j : Nat) (hj : j < P.length) : (halvesL N P N).getD j 0 = 2 := by
  have a := okP_at h j hj
  have b := mod_bd (P.getD j 0 + 1) N (by omega)
  rw [halves_at N P N j hj, if_pos a.2, if_pos b.2]; rfl
theorem halves_bd (N : Int) (P : List Int) (i : Int) (j : Nat) (hj : j < P.length) : 0 ≤ (halvesL N P i).getD j 0 ∧ (halvesL N P i).getD j 0 ≤ 2 := by
  rw [halves_at N P i j hj]; constructor <;> split <;> split <;> omega
theorem halves_none (hN : 4 ≤ N ∧ N ≤ 16) (h : okP N P) {i : Int} (h0 : ∀ j, j < P.length → hitB N i (P.getD j 0) = false) : halvesL N P (i + 1) = halvesL N P i := by
  apply List.ext_getElem
  · simp [halvesL]
  · intro j h1 h2
    have hj : j < P.length := by simpa [halvesL] using h1
    have a := okP_at h j hj
    have k := h0 j hj
    have k' : ¬ (i = P.getD j 0 ∨ i = (P.getD j 0 + 1) % N) := fun q => by rw [(hit_iff hN a).2 q] at k; cases k
    rw [getD_at P j hj] at k'
    simp only [halvesL, List.getElem_map]
    have c1 : (P[j] < i + 1) ↔ (P[j] < i) := by omega
    have c2 : ((P[j] + 1) % N < i + 1) ↔ ((P[j] + 1) % N < i) := by omega
    simp only [c1, c2]
theorem halves_hit (hN : 4 ≤ N ∧ N ≤ 16) (h : okP N P) {i : Int} {q : Nat} (hq : q < P.length) (h1 : hitB N i (P.getD q 0) = true) : (halvesL N P i).set q ((halvesL N P i).getD q 0 + 1) = halvesL N P (i + 1) := by
  apply List.ext_getElem
  · simp [halvesL]
  · intro j g1 g2
    have hj : j < P.length := by simpa [halvesL] using g2
    have a := okP_at h j hj
    have m := mod1 hN.1 a
    rw [List.getElem_set]
    split
    · rename_i e
      subst e
      rw [halves_at N P i q hq]
      rw [hit_iff hN a] at h1
      simp only [halvesL, List.getElem_map]
      rw [← getD_at P q hj]
      rcases h1 with e | e
      · rw [if_neg (by omega), if_pos (show P.getD q 0 < i + 1 by omega)]
        have c : ((P.getD q 0 + 1) % N < i + 1) ↔ ((P.getD q 0 + 1) % N < i) := by omega
        simp only [c]; omega
      · rw [if_neg (show ¬ (P.getD q 0 + 1) % N < i by omega), if_pos (show (P.getD q 0 + 1) % N < i + 1 by omega)]
        have c : (P.getD q 0 < i + 1) ↔ (P.getD q 0 < i) := by omega
        simp only [c]; omega
    · rename_i e
      have k' : ¬ (i = P.getD j 0 ∨ i = (P.getD j 0 + 1) % N) := fun r => e (hit_one hN h hq hj h1 ((hit_iff hN a).2 r))
      rw [getD_at P j hj] at k'
      simp only [halvesL, List.getElem_map]
      have c1 : (P[j] < i + 1) ↔ (P[j] < i) := by omega
      have c2 : ((P[j] + 1) % N < i + 1) ↔ ((P[j] + 1) % N < i) := by omega
      simp only [c1, c2]
end
/-- A pair's next slot is one of the next round's. -/
theorem next_some {S : List Int} {n p : Nat} (hS : okS n S) (hp : p < n) {a : Int} (ha : 0 ≤ a) (ha' : a ≤ 1099511627776) :
    ∃ j : Nat, j < S.length ∧ nextM S a p = a + j ∧ ownM S (a + j) = p := by
  have hm := hS.2 p hp
  obtain ⟨i, hi, he⟩ := List.getElem_of_mem hm
  have hl : 0 < S.length := by omega
  have hb := mod_bd ((i : Int) - a) (S.length : Int) (by omega)
  have hex : ∃ j : Nat, j < S.length ∧ ownM S (a + j) = p := by
    refine ⟨(((i : Int) - a) % (S.length : Int)).toNat, by omega, ?_⟩
    rw [ownM, Int.toNat_of_nonneg hb.1, Int.add_emod_emod, show a + ((i : Int) - a) = i by omega, Int.emod_eq_of_lt (by omega) (by omega), Int.toNat_natCast, getD_at S i hi, he]
  cases hf : (List.range S.length).find? (fun (j : Nat) => decide (ownM S (a + j) = p)) with
  | none =>
    obtain ⟨j, hj, e⟩ := hex
    rw [List.find?_range_eq_none] at hf
    have := hf j hj
    simp [e] at this
  | some j =>
    have h2 := List.find?_some hf
    rw [List.find?_range_eq_some] at hf
    refine ⟨j, by simpa using hf.2.1, ?_, by simpa using h2⟩
    have hf' : (List.range S.length).find? (fun (j : Nat) => decide (ownM S (a + j) = p)) = some j := by rw [List.find?_range_eq_some]; exact hf
    rw [nextM, if_neg (by omega), hf']
theorem own_at {S : List Int} (h : 0 < S.length) (s : Int) : atM S (s % (S.length : Int)) = ownM S s := by
  have hb := mod_bd s (S.length : Int) (by omega)
  rw [atM, if_pos hb, ownM]
/-- A number cut to its lower 40 bits. -/
theorem and40 (s : Int) : 0 ≤ bits .and .i64 s 1099511627775 ∧ bits .and .i64 s 1099511627775 ≤ 1099511627775 := by
  have e : (BitVec.ofInt 64 1099511627775).toNat = 1099511627775 := by decide
  have hle : (BitVec.ofInt 64 s &&& BitVec.ofInt 64 1099511627775).toNat ≤ 1099511627775 := by
    rw [BitVec.toNat_and, e]; exact Nat.and_le_right
  have hb : bits .and .i64 s 1099511627775 = IntKind.i64.wrap ((BitVec.ofInt 64 s &&& BitVec.ofInt 64 1099511627775).toNat : Int) := rfl
  rw [hb, IntKind.wrap_i64]
  omega
end Go.Proofs.YtadcmoldpbnmnaaGreatDoor

namespace Go.Proofs.YtadcmoldpbnmnaaGreatDoor
open Go.RowKit Rg
set_option linter.unusedVariables false

theorem netGreat (c : Cf) (w : World) (hg : greatB c = true) :
    Calls Tryz.prog 5 #[.agg #[.int .i64 c.N, .slice c.pA c.pn c.pc, .slice c.sA c.sn c.sc, .int .i64 c.L, .slice c.bA c.bn c.bc, .slice c.tA c.tn c.tc, .int .i64 c.M, .int .i64 c.G, .int .i64 c.F]] w fun e w' => e = .returned (.pointer none) ∧ Below w.heap.size w w' := by
  have HG := Lib.hid hg
  clear hg
  go_enter Tryz.func5, Tryz.ntmps5
  go_wp2_with (go_at_call 21; (with_reducible refine (great_is c true HG.out _).mono ?_); rintro e w1 ⟨rfl, b1⟩)
  go_ret
  exact ⟨rfl, below_then (below_al (Below.refl _ _) _) b1⟩
theorem refNewE_is (c : Cf) (r : Int) (hr : newE c = r) (w : World) (hc : CfIn w c) :
    Calls Tryz.prog 22 #[.agg #[.int .i64 c.N, .slice c.pA c.pn c.pc, .slice c.sA c.sn c.sc, .int .i64 c.L, .slice c.bA c.bn c.bc, .slice c.tA c.tn c.tc, .int .i64 c.M, .int .i64 c.G, .int .i64 c.F]] w fun e w' => e = .returned (.int .i64 r) ∧ Below w.heap.size w w' := by
  subst hr; exact refNew_any c w hc
theorem netBad (c : Cf) (w : World) (hc : CfIn w c) (hg : greatB c = false) (h0 : newE c ≠ 0) :
    Calls Tryz.prog 5 #[.agg #[.int .i64 c.N, .slice c.pA c.pn c.pc, .slice c.sA c.sn c.sc, .int .i64 c.L, .slice c.bA c.bn c.bc, .slice c.tA c.tn c.tc, .int .i64 c.M, .int .i64 c.G, .int .i64 c.F]] w fun e w' => e = .returned (.pointer none) ∧ Below w.heap.size w w' := by
  have HG := Lib.hid hg
  obtain ⟨r, hr⟩ : ∃ r, r = newE c := ⟨_, rfl⟩
  rw [← hr] at h0
  have HR := Lib.hid hr.symm
  have e1 := beq_eq_false_iff_ne.2 h0
  clear hg hr h0
  go_enter Tryz.func5, Tryz.ntmps5
  go_wp2_with (first
    | (go_at_call 21; (with_reducible refine (great_is c false HG.out _).mono ?_); rintro e w1 ⟨rfl, b1⟩; obtain ⟨k0, k1, k2, k3, k4, k5, k6, k7, k8⟩ := ((Blk.new w _ _).on b1).cf)
    | (go_at_call 22; (with_reducible refine (refNewE_is c r HR.out w1 ((hc.al _).on b1)).mono ?_); rintro e w2 ⟨rfl, b2⟩))
  go_ret
  exact ⟨rfl, below_then (below_then (below_al (Below.refl _ w) _) b1) b2⟩
theorem netYes (c : Cf) (w : World) (hw : Ways w) (hc : CfIn w c) (hg : greatB c = false) (h0 : newE c = 0) :
    Calls Tryz.prog 5 #[.agg #[.int .i64 c.N, .slice c.pA c.pn c.pc, .slice c.sA c.sn c.sc, .int .i64 c.L, .slice c.bA c.bn c.bc, .slice c.tA c.tn c.tc, .int .i64 c.M, .int .i64 c.G, .int .i64 c.F]] w fun e w' => ∃ (g : Nat) (A1 A2 A3 A4 : Option Addr), e = .returned (.pointer (some ⟨g, 0, none⟩)) ∧ NetIs w' (.pointer (some ⟨g, 0, none⟩)) (c.to A1 A2 A3 A4) ∧ Below w.heap.size w w' := by
  have HG := Lib.hid hg
  have HR := Lib.hid h0
  clear hg h0
  go_enter Tryz.func5, Tryz.ntmps5
  go_wp2_with (first
    | (go_at_call 21; (with_reducible refine (great_is c false HG.out _).mono ?_); rintro e w1 ⟨rfl, b1⟩; have hB1 : Blk w1 w.heap.size 25 #[.int .i64 c.N, .slice c.pA c.pn c.pc, .slice c.sA c.sn c.sc, .int .i64 c.L, .slice c.bA c.bn c.bc, .slice c.tA c.tn c.tc, .int .i64 c.M, .int .i64 c.G, .int .i64 c.F] := (Blk.new w _ _).on b1; obtain ⟨k0, k1, k2, k3, k4, k5, k6, k7, k8⟩ := hB1.cf; have hB := below_then (below_al (Below.refl _ w) (.cells #[.int .i64 c.N, .slice c.pA c.pn c.pc, .slice c.sA c.sn c.sc, .int .i64 c.L, .slice c.bA c.bn c.bc, .slice c.tA c.tn c.tc, .int .i64 c.M, .int .i64 c.G, .int .i64 c.F] 25)) b1)
    | (go_at_call 22; (with_reducible refine (refNewE_is c 0 HR.out w1 (hc.on hB)).mono ?_); rintro e w2 ⟨rfl, b2⟩; clear k0 k1 k2 k3 k4 k5 k6 k7 k8; obtain ⟨k0, k1, k2, k3, k4, k5, k6, k7, k8⟩ := (hB1.on b2).cf; have hB2 := below_then hB b2)
    | (go_at_call 23; (with_reducible refine (new_yes c w2 (hc.on hB2) (hw.on hB2) HR.out).mono ?_); rintro e w3 ⟨g, A1, A2, A3, A4, rfl, -, hN, -, b3⟩; have hB3 := below_then hB2 b3))
  go_ret
  exact ⟨g, _, _, _, _, rfl, hN, hB3⟩
/-- A config that came in: with no net, or read, and such as may be. -/
theorem raw_cases {w : World} {c : Cf} (h : CfRaw w c) : (∀ u, Below w.heap.size w u → Calls Tryz.prog 5 #[.agg #[.int .i64 c.N, .slice c.pA c.pn c.pc, .slice c.sA c.sn c.sc, .int .i64 c.L, .slice c.bA c.bn c.bc, .slice c.tA c.tn c.tc, .int .i64 c.M, .int .i64 c.G, .int .i64 c.F]] u fun e w' => e = .returned (.pointer none) ∧ Below u.heap.size u w') ∨ (CfIn w c ∧ greatB c = false ∧ newE c = 0) := by
  by_cases hg : greatB c = true
  · exact .inl fun u hu => netGreat c u hg
  · have hg' : greatB c = false := by simpa using hg
    have hc := (h.small hg').1
    by_cases h0 : newE c = 0
    · exact .inr ⟨hc, hg', h0⟩
    · exact .inl fun u hu => netBad c u (hc.on hu) hg' h0
end Go.Proofs.YtadcmoldpbnmnaaGreatDoor

