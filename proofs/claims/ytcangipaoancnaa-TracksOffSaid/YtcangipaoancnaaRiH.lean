/-
  A ring all of whose nodes are on, one node or one link being faulty, tick by tick: what each lane knows; what each holds. Conditions: 4 to 16 nodes.
-/
import Derived.Test.YtcangipaoancnaaTk16
import Derived.Test.YtcangipaoancnaaRiX
import Derived.Test.YtcangipaoancnaaTk11
import Derived.Test.YtcangipaoancnaaRi3
import Derived.Test.YtcangipaoancnaaRi4
namespace Go.Proofs.Ytcangipaoancnaa
open Go.RowKit
set_option linter.unusedVariables false
set_option linter.unusedSimpArgs false

theorem eqR_symm {a b : Ro} (h : eqR a b = true) : eqR b a = true := by
  rw [eqR_iff] at h ⊢
  obtain ⟨h1, h2, h3, h4⟩ := h
  exact ⟨h1.symm, h2.symm, h3.symm, fun i hi => (h4 i (by omega)).symm⟩
theorem eqR_trans {a b c : Ro} (h : eqR a b = true) (k : eqR b c = true) : eqR a c = true := by
  rw [eqR_iff] at h k ⊢
  obtain ⟨h1, h2, h3, h4⟩ := h
  obtain ⟨k1, k2, k3, k4⟩ := k
  exact ⟨h1.trans k1, h2.trans k2, h3.trans k3, fun i hi => (h4 i hi).trans (k4 i (by omega))⟩
theorem eqR_b {a b : Ro} (h : eqR a b = true) : a.b = b.b := ((eqR_iff a b).1 h).1
theorem amongM_of {x : Ro} {R : Nat → Rw} : ∀ {m : Nat}, amongM x R m = true → ∃ i, i < m ∧ eqR x (R i).ro = true
  | 0, h => by cases h
  | m + 1, h => by
    rw [amongM, Bool.or_eq_true] at h
    rcases h with h | h
    · obtain ⟨i, hi, e⟩ := amongM_of h
      exact ⟨i, by omega, e⟩
    · exact ⟨m, by omega, h⟩
/-- All but place j are like X, and X is set. -/
theorem certS_truth {R : Nat → Rw} {X : Ro} {j : Nat} (hX : X.b = true) : ∀ (m : Nat), (∀ i, i < m → i ≠ j → eqR (R i).ro X = true) → ∃ o, certS R m = some o ∧ (o = rwN ∨ eqR o.ro X = true) ∧ ((∃ i k, i < k ∧ k < m ∧ i ≠ j ∧ k ≠ j) → eqR o.ro X = true)
  | 0, _ => ⟨rwN, rfl, .inl rfl, fun ⟨i, k, h1, h2, _⟩ => absurd h2 (by omega)⟩
  | m + 1, h => by
    obtain ⟨o, e, ho, hq⟩ := certS_truth hX m fun i hi => h i (by omega)
    by_cases hb : (R m).b = true ∧ amongM (R m).ro R m = true
    · have hm : eqR (R m).ro X = true := by
        by_cases hj : m = j
        · obtain ⟨i, hi, e2⟩ := amongM_of hb.2
          exact eqR_trans e2 (h i (by omega) (by omega))
        · exact h m (by omega) hj
      rw [certS_step e hb.1 hb.2]
      have hc : (o.b && !eqR o.ro (R m).ro) = false := by
        rcases ho with rfl | ho
        · rfl
        · rw [eqR_trans ho (eqR_symm hm)]; simp
      exact ⟨R m, by simp [hc], .inr hm, fun _ => hm⟩
    · have hs : certS R (m + 1) = some o := by
        rw [certS, e]
        have : ((R m).b && amongM (R m).ro R m) = false := by
          cases h1 : (R m).b <;> cases h2 : amongM (R m).ro R m <;> simp_all
        simp [this]
      refine ⟨o, hs, ho, fun ⟨i, k, h1, h2, h3, h4⟩ => ?_⟩
      by_cases hk : k = m
      · subst hk
        refine absurd ⟨?_, amongM_hit h1 (eqR_trans (h k (by omega) h4) (eqR_symm (h i (by omega) h3)))⟩ hb
        have := eqR_b (h k (by omega) h4)
        exact this.trans hX
      · exact hq ⟨i, k, h1, by omega, h3, h4⟩
theorem certS_void {R : Nat → Rw} {X : Ro} {j : Nat} (hX : X.b = false) : ∀ (m : Nat), (∀ i, i < m → i ≠ j → eqR (R i).ro X = true) → certS R m = some rwN
  | 0, _ => rfl
  | m + 1, h => by
    have e := certS_void hX m fun i hi => h i (by omega)
    rw [certS, e]
    have hb : ∀ i, i < m + 1 → i ≠ j → (R i).b = false := fun i hi hn => (eqR_b (h i hi hn)).trans hX
    have : ((R m).b && amongM (R m).ro R m) = false := by
      by_cases hj : m = j
      · cases h1 : (R m).b
        · rfl
        · cases h2 : amongM (R m).ro R m
          · rfl
          · obtain ⟨i, hi, e2⟩ := amongM_of h2
            have h3 := eqR_b e2
            have h4 := hb i (by omega) (by omega)
            rw [show (R i).ro.b = (R i).b from rfl, h4, show (R m).ro.b = (R m).b from rfl, h1] at h3
            cases h3
      · rw [hb m (by omega) hj]; rfl
    simp [this]
/-- What is certified of copies of which all but one are like X, two of them at least: X, if that is set, or nothing. -/
theorem certM_truth {R : Nat → Rw} {X : Ro} {m j : Nat} (h : ∀ i, i < m → i ≠ j → eqR (R i).ro X = true) (h2 : ∃ i k, i < k ∧ k < m ∧ i ≠ j ∧ k ≠ j) (hX : X.b = false → eqR roN X = true) : eqR (certM R m).ro X = true := by
  unfold certM
  cases hb : X.b with
  | true =>
    obtain ⟨o, e, _, hq⟩ := certS_truth hb m h
    rw [e]
    exact hq h2
  | false =>
    rw [certS_void hb m h]
    exact hX hb
end Go.Proofs.Ytcangipaoancnaa

namespace Go.Proofs.Ytcangipaoancnaa
open Go.RowKit
set_option linter.unusedVariables false
set_option linter.unusedSimpArgs false

theorem plR_void (N : Nat) (r : Ro) (h : (plR N r).b = false) : eqR roN (plR N r) = true := by
  by_cases hb : r.b = true
  · rw [plR_bT hb] at h; cases h
  · rw [plR_bF hb]; exact eqR_self _
/-- The node that is a steps on from s, in a direction. -/
def ndM (N s d a : Nat) : Nat := if d = 0 then (s + a) % N else (s + N - a) % N
/-- The links on the way from s to the node that is D on: clean? c tells of a node's link. -/
def ClP (c : Nat → Nat → Bool) (N s d : Nat) : Nat → Prop
  | 0 => True
  | 1 => c (ndM N s d 0) (2 * d) = true
  | D + 2 => c (ndM N s d D) (2 * d + 1) = true ∧ ClP c N s d D
/-- The way whose last step is a near one. -/
def ClN (c : Nat → Nat → Bool) (N s d D : Nat) : Prop := c (ndM N s d (D - 1)) (2 * d) = true ∧ ClP c N s d (D - 1)
/-- What goes out on clean links, of sources the way from which is clean. -/
def SentF (c : Nat → Nat → Bool) (N K : Nat) (ow : Nat → Nat → Rw) (S : Nat → Nat → Nat → Wo) : Prop := ∀ t i k, t < K → i < N → k < 4 → c i k = true → (S t i k).m = N ∧ ∀ s, s < N → ClP c N s (k / 2) (distM N i (k / 2 : Nat) s) → ((S t i k).R s).ro = valM N ow t (distM N i (k / 2 : Nat) s) s
theorem fit_sentF {c : Nat → Nat → Bool} {N K p k g s : Nat} {ow : Nat → Nat → Rw} {S : Nat → Nat → Nat → Wo} (hS : SentF c N K ow S) (hN : 0 < N) (hk : k < 4) (hg : 1 ≤ g) (hs : s < N) (hc : c (p % N) k = true) (hp : ClP c N s (k / 2) (distM N (p % N) (k / 2 : Nat) s)) :
    (fitF (sentM N K S p k g).R (sentM N K S p k g).m rwN s).ro = if K < g then roN else valM N ow (K - g) (distM N (p % N) (k / 2 : Nat) s) s := by
  unfold sentM
  by_cases h : K < g
  · rw [if_pos h, if_pos h]
    unfold fitF
    rw [if_neg (by show ¬ s < 0; omega)]
    rfl
  · rw [if_neg h, if_neg h]
    obtain ⟨h1, h2⟩ := hS (K - g) (p % N) k (by omega) (Nat.mod_lt _ hN) hk hc
    unfold fitF
    rw [h1, if_pos hs]
    exact h2 s hs hp
/-- Nodes next to one, and next to those, as steps from a source. -/
theorem nd_dist {N i s d : Nat} (hi : i < N) (hs : s < N) (hd : d < 2) : ndM N s d (distM N i (d : Int) s) = i := by
  rcases (show d = 0 ∨ d = 1 by omega) with rfl | rfl
  · rw [show ((0 : Nat) : Int) = 0 from rfl, dist0 hi hs]
    unfold ndM
    rw [if_pos rfl]
    split
    · rw [show s + (i - s) = i by omega, Nat.mod_eq_of_lt hi]
    · rw [show s + (i + N - s) = i + N by omega, Nat.add_mod_right, Nat.mod_eq_of_lt hi]
  · rw [show ((1 : Nat) : Int) = 1 from rfl, dist1 hi hs]
    unfold ndM
    rw [if_neg (by decide)]
    split
    · rw [show s + N - (s - i) = i + N by omega, Nat.add_mod_right, Nat.mod_eq_of_lt hi]
    · rw [show s + N - (s + N - i) = i by omega, Nat.mod_eq_of_lt hi]
section
variable {c : Nat → Nat → Bool} {N K i d s : Nat} {ow : Nat → Nat → Rw} {S : Nat → Nat → Nat → Wo} {t : Tk} {R : Rw}
/-- The near links' row, the way being clean. -/
theorem near_okF (hN : 4 ≤ N) (hS : SentF c N K ow S) (hi : i < N) (hs : s < N) (hd : d < 2) (ht : TkOf N (fun k => (insM N K S i k).m) (fun k => (insM N K S i k).R) t) (h1 : 1 ≤ distM N i (d : Int) s) (hc : ClN c N s d (distM N i (d : Int) s)) :
    (t.nR d s).ro = valM N ow K (distM N i (d : Int) s) s := by
  rw [ht.n d s hd hs]
  unfold ClN at hc
  rcases (show d = 0 ∨ d = 1 by omega) with rfl | rfl
  · rw [show ((0 : Nat) : Int) = 0 from rfl] at h1 hc ⊢
    have e := db1 hN hi hs h1
    have hl : (i + 2 * N - 1) % N < N := Nat.mod_lt _ (by omega)
    have en := nd_dist (d := 0) hl hs (by decide)
    rw [show ((0 : Nat) : Int) = 0 from rfl, e] at en
    rw [en] at hc
    show plR N (fitF (sentM N K S (i + 2 * N - 1) 0 1).R (sentM N K S (i + 2 * N - 1) 0 1).m rwN s).ro = _
    rw [fit_sentF hS (by omega) (by decide) (by decide) hs hc.1 (by rw [show ((0 / 2 : Nat) : Int) = 0 from rfl, e]; exact hc.2), show ((0 / 2 : Nat) : Int) = 0 from rfl, e]
    exact valM_next (by decide) h1
  · rw [show ((1 : Nat) : Int) = 1 from rfl] at h1 hc ⊢
    have e := db3 hN hi hs h1
    have hl : (i + 2 * N + 1) % N < N := Nat.mod_lt _ (by omega)
    have en := nd_dist (d := 1) hl hs (by decide)
    rw [show ((1 : Nat) : Int) = 1 from rfl, e] at en
    rw [en] at hc
    show plR N (fitF (sentM N K S (i + 2 * N + 1) 2 1).R (sentM N K S (i + 2 * N + 1) 2 1).m rwN s).ro = _
    rw [fit_sentF hS (by omega) (by decide) (by decide) hs hc.1 (by rw [show ((2 / 2 : Nat) : Int) = 1 from rfl, e]; exact hc.2), show ((2 / 2 : Nat) : Int) = 1 from rfl, e]
    exact valM_next (by decide) h1
/-- The track's row, the way being clean. -/
theorem out_okF (hN : 4 ≤ N) (hS : SentF c N K ow S) (hi : i < N) (hs : s < N) (hd : d < 2) (ht : TkOf N (fun k => (insM N K S i k).m) (fun k => (insM N K S i k).R) t) (hR : R.ro = plR N (ow K i).ro) (hc : ClP c N s d (distM N i (d : Int) s)) :
    (({ t with o := R } : Tk).at (distM N i (d : Int) s) d s).ro = valM N ow K (distM N i (d : Int) s) s := by
  obtain ⟨D, hD⟩ : ∃ D, D = distM N i (d : Int) s := ⟨_, rfl⟩
  unfold Tk.at
  by_cases h0 : D = 0
  · rw [← hD, if_pos h0]
    show R.ro = _
    have his : s = i := by
      rw [h0] at hD
      rcases (show d = 0 ∨ d = 1 by omega) with rfl | rfl
      · rw [show ((0 : Nat) : Int) = 0 from rfl, dist0 hi hs] at hD; split at hD <;> omega
      · rw [show ((1 : Nat) : Int) = 1 from rfl, dist1 hi hs] at hD; split at hD <;> omega
    unfold valM
    rw [if_neg (by omega), if_pos h0, hR, his]
  · by_cases h1 : D = 1
    · rw [if_neg (by omega), if_pos (by omega)]
      show (t.nR d s).ro = _
      refine near_okF hN hS hi hs hd ht (by omega) ?_
      rw [← hD, h1] at hc ⊢
      exact ⟨hc, trivial⟩
    · rw [if_neg (by omega), if_neg (by omega)]
      show (t.fR d s).ro = _
      rw [ht.f d s hd hs]
      obtain ⟨D2, hD2⟩ : ∃ x, D = x + 2 := ⟨D - 2, by omega⟩
      have hc2 : c (ndM N s d D2) (2 * d + 1) = true ∧ ClP c N s d D2 := by rw [← hD, hD2] at hc; exact hc
      rcases (show d = 0 ∨ d = 1 by omega) with rfl | rfl
      · rw [show ((0 : Nat) : Int) = 0 from rfl] at hD ⊢
        have e := db2 hN hi hs (by omega)
        rw [show distM N i 0 s - 2 = D2 by omega] at e
        have hl : (i + 2 * N - 2) % N < N := Nat.mod_lt _ (by omega)
        have en := nd_dist (d := 0) hl hs (by decide)
        rw [show ((0 : Nat) : Int) = 0 from rfl, e] at en
        rw [en] at hc2
        show plR N (fitF (sentM N K S (i + 2 * N - 2) 1 2).R (sentM N K S (i + 2 * N - 2) 1 2).m rwN s).ro = _
        rw [fit_sentF hS (by omega) (by decide) (by decide) hs hc2.1 (by rw [show ((1 / 2 : Nat) : Int) = 0 from rfl, e]; exact hc2.2), show ((1 / 2 : Nat) : Int) = 0 from rfl, e, ← hD, show D2 = D - 2 by omega]
        exact valM_next (by decide) (by omega)
      · rw [show ((1 : Nat) : Int) = 1 from rfl] at hD ⊢
        have e := db4 hN hi hs (by omega)
        rw [show distM N i 1 s - 2 = D2 by omega] at e
        have hl : (i + 2 * N + 2) % N < N := Nat.mod_lt _ (by omega)
        have en := nd_dist (d := 1) hl hs (by decide)
        rw [show ((1 : Nat) : Int) = 1 from rfl, e] at en
        rw [en] at hc2
        show plR N (fitF (sentM N K S (i + 2 * N + 2) 3 2).R (sentM N K S (i + 2 * N + 2) 3 2).m rwN s).ro = _
        rw [fit_sentF hS (by omega) (by decide) (by decide) hs hc2.1 (by rw [show ((3 / 2 : Nat) : Int) = 1 from rfl, e]; exact hc2.2), show ((3 / 2 : Nat) : Int) = 1 from rfl, e, ← hD, show D2 = D - 2 by omega]
        exact valM_next (by decide) (by omega)
end
end Go.Proofs.Ytcangipaoancnaa

namespace Go.Proofs.Ytcangipaoancnaa
open Go.RowKit
set_option linter.unusedVariables false
set_option linter.unusedSimpArgs false

/-- A list of copies of which any two hold a true one. -/
theorem cert_list {l : List Rw} {X : Ro} (hp : l.Pairwise fun a b => eqR a.ro X = true ∨ eqR b.ro X = true) (h3 : 3 ≤ l.length) (hX : X.b = false → eqR roN X = true) : eqR (certM (fun i => l.getD i rwN) l.length).ro X = true := by
  have hg : ∀ i k, i < k → k < l.length → eqR (l.getD i rwN).ro X = true ∨ eqR (l.getD k rwN).ro X = true := fun i k h1 h2 => by
    have := List.pairwise_iff_getElem.1 hp i k (by omega) h2 h1
    rw [List.getD_eq_getElem?_getD, List.getD_eq_getElem?_getD, List.getElem?_eq_getElem (by omega), List.getElem?_eq_getElem h2]
    exact this
  by_cases hb : ∃ j, j < l.length ∧ ¬ eqR (l.getD j rwN).ro X = true
  · obtain ⟨j, hj, hn⟩ := hb
    refine certM_truth (j := j) (fun i hi hij => ?_) ?_ hX
    · rcases Nat.lt_or_ge i j with h | h
      · exact (hg i j h hj).resolve_right hn
      · exact (hg j i (by omega) hi).resolve_left hn
    · by_cases h0 : j = 0
      · exact ⟨1, 2, by omega, by omega, by omega, by omega⟩
      · by_cases h1 : j = 1
        · exact ⟨0, 2, by omega, by omega, by omega, by omega⟩
        · exact ⟨0, 1, by omega, by omega, by omega, by omega⟩
  · refine certM_truth (j := l.length) (fun i hi _ => ?_) ⟨0, 1, by omega, by omega, by omega, by omega⟩ hX
    exact Decidable.byContradiction fun hn => hb ⟨i, hi, hn⟩
theorem cert_two {l : List Rw} {X : Ro} (hp : ∀ a ∈ l, eqR a.ro X = true) (h2 : 2 ≤ l.length) (hX : X.b = false → eqR roN X = true) : eqR (certM (fun i => l.getD i rwN) l.length).ro X = true :=
  certM_truth (j := l.length) (fun i hi _ => by
    rw [List.getD_eq_getElem?_getD, List.getElem?_eq_getElem hi]
    exact hp _ (List.getElem_mem hi)) ⟨0, 1, by omega, by omega, by omega, by omega⟩ hX
theorem flat_two {α : Type} (A B : List α) (a b : Nat) : ∀ N : Nat, ((List.range N).flatMap fun k => (if a = k then A else []) ++ (if b = k then B else [])) = if a ≤ b then (if a < N then A else []) ++ (if b < N then B else []) else (if b < N then B else []) ++ (if a < N then A else [])
  | 0 => by simp
  | N + 1 => by
    rw [List.range_succ, List.flatMap_append, flat_two A B a b N]
    simp only [List.flatMap_cons, List.flatMap_nil, List.append_nil]
    by_cases h1 : a ≤ b
    · rw [if_pos h1, if_pos h1]
      by_cases h2 : a = N
      · have : ¬ b < N := by omega
        by_cases h3 : b = N
        · simp [h2, h3]
        · simp [h2, h3, show ¬ b < N by omega, show ¬ b < N + 1 by omega]
      · by_cases h3 : b = N
        · by_cases h4 : a < N
          · simp [h2, h3, h4, show a < N + 1 by omega]
          · omega
        · by_cases h4 : a < N
          · by_cases h5 : b < N
            · simp [h2, h3, h4, h5, show a < N + 1 by omega, show b < N + 1 by omega]
            · simp [h2, h3, h4, h5, show a < N + 1 by omega, show ¬ b < N + 1 by omega]
          · simp [h2, h3, h4, show ¬ b < N by omega, show ¬ a < N + 1 by omega, show ¬ b < N + 1 by omega]
    · rw [if_neg h1, if_neg h1]
      by_cases h2 : a = N
      · by_cases h5 : b < N
        · simp [h2, h5, show ¬ b = N by omega, show b < N + 1 by omega]
        · omega
      · by_cases h3 : b = N
        · simp [h2, h3, show ¬ a < N by omega, show ¬ a < N + 1 by omega]
        · by_cases h4 : a < N
          · simp [h2, h3, h4, show b < N by omega, show a < N + 1 by omega, show b < N + 1 by omega]
          · by_cases h5 : b < N
            · simp [h2, h3, h4, h5, show ¬ a < N + 1 by omega, show b < N + 1 by omega]
            · simp [h2, h3, h4, h5, show ¬ a < N + 1 by omega, show ¬ b < N + 1 by omega]
def cp1 (t : Nat → Tk) (D d s : Nat) : List Rw := (t D).at D d s :: (if 2 ≤ D then [(t D).nR d s] else [])
theorem cpsR_two {N me s : Nat} (t : Nat → Tk) (h0 : distM N me 0 s < N) (h1 : distM N me 1 s < N) : cpsR N me t (List.range N) s = if distM N me 0 s ≤ distM N me 1 s then cp1 t (distM N me 0 s) 0 s ++ cp1 t (distM N me 1 s) 1 s else cp1 t (distM N me 1 s) 1 s ++ cp1 t (distM N me 0 s) 0 s := by
  have e : (fun k => cpR N me t k 0 s ++ cpR N me t k 1 s) = fun k => (if distM N me 0 s = k then cp1 t (distM N me 0 s) 0 s else []) ++ (if distM N me 1 s = k then cp1 t (distM N me 1 s) 1 s else []) := by
    funext k
    unfold cpR cp1
    congr 1
    · by_cases h : distM N me 0 s = k
      · subst h; rfl
      · rw [if_neg h, if_neg (by exact h)]
    · by_cases h : distM N me 1 s = k
      · subst h; rfl
      · rw [if_neg h, if_neg (by exact h)]
  unfold cpsR
  rw [e, flat_two, if_pos h0, if_pos h1]
/-- What is held of a source is the truth, when any two of the four ways hold a clean one. -/
theorem held_truth {N me E s : Nat} {T : Nat → Tk} {X : Ro} (hN : 4 ≤ N) (hm : me < N) (hs : s < N) (hE : N ≤ E) (hX : X.b = false → eqR roN X = true) (P Q : Nat → Prop)
    (hP : ∀ d : Nat, d < 2 → P d → eqR ((T (E - N + distM N me (d : Int) s)).at (distM N me (d : Int) s) d s).ro X = true)
    (hQ : ∀ d : Nat, d < 2 → 2 ≤ distM N me (d : Int) s → Q d → eqR ((T (E - N + distM N me (d : Int) s)).nR d s).ro X = true)
    (h00 : ∀ d : Nat, d < 2 → 2 ≤ distM N me (d : Int) s → P d ∨ Q d) (hpp : s ≠ me → P 0 ∨ P 1) (hpq : 2 ≤ distM N me 1 s → P 0 ∨ Q 1) (hqp : 2 ≤ distM N me 0 s → Q 0 ∨ P 1) (hqq : 2 ≤ distM N me 0 s → 2 ≤ distM N me 1 s → Q 0 ∨ Q 1) (hself : s = me → P 0 ∧ P 1) :
    eqR (heldR N me E T s) X = true := by
  have d0 := dist0 hm hs
  have d1 := dist1 hm hs
  have l0 := dist_lt hm hs 0 (by decide)
  have l1 := dist_lt hm hs 1 (by decide)
  rw [show ((0 : Nat) : Int) = 0 from rfl] at l0
  rw [show ((1 : Nat) : Int) = 1 from rfl] at l1
  have p0 := hP 0 (by decide)
  have p1 := hP 1 (by decide)
  have q0 := hQ 0 (by decide)
  have q1 := hQ 1 (by decide)
  have r0 := h00 0 (by decide)
  have r1 := h00 1 (by decide)
  rw [show ((0 : Nat) : Int) = 0 from rfl] at p0 q0 r0
  rw [show ((1 : Nat) : Int) = 1 from rfl] at p1 q1 r1
  unfold heldR
  rw [if_neg (by omega)]
  have e := cpsR_two (fun k => T (E - N + k)) l0 l1
  rw [show cpsN N me (List.range N) s = (cpsR N me (fun k => T (E - N + k)) (List.range N) s).length from (cpsR_n _ _ _ _ _).symm]
  unfold cpsF
  rw [e]
  obtain ⟨D0, hD0⟩ : ∃ D, D = distM N me 0 s := ⟨_, rfl⟩
  obtain ⟨D1, hD1⟩ : ∃ D, D = distM N me 1 s := ⟨_, rfl⟩
  rw [← hD0, ← hD1]
  rw [← hD0] at d0 p0 q0 r0 hqp hqq
  rw [← hD1] at d1 p1 q1 r1 hpq hqq
  clear hP hQ h00 e l0 l1 hD0 hD1
  by_cases hsm : s = me
  · have z0 : D0 = 0 := by rw [d0]; split <;> omega
    have z1 : D1 = 0 := by rw [d1]; split <;> omega
    subst z0 z1
    refine cert_two (fun a ha => ?_) (by simp [cp1]) hX
    simp [cp1] at ha
    rcases ha with rfl | rfl
    · exact p0 (hself hsm).1
    · exact p1 (hself hsm).2
  · have z : D0 + D1 = N ∧ 1 ≤ D0 ∧ 1 ≤ D1 := by
      rw [d0, d1]; (repeat' split) <;> omega
    have g0 := hpp hsm
    by_cases h0 : 2 ≤ D0
    · by_cases h1 : 2 ≤ D1
      · have g1 := hpq h1
        have g2 := hqp h0
        have g3 := hqq h0 h1
        have r0 := r0 h0
        have r1 := r1 h1
        have q0 := q0 h0
        have q1 := q1 h1
        have k1 := r0.imp p0 q0
        have k2 := r1.imp p1 q1
        have k3 := g0.imp p0 p1
        have k4 := g1.imp p0 q1
        have k5 := g2.imp q0 p1
        have k6 := g3.imp q0 q1
        split
        · refine cert_list ?_ (by simp [cp1, h0, h1]) hX
          simp only [cp1, h0, h1, if_true, List.cons_append, List.nil_append, List.pairwise_cons, List.mem_cons, List.not_mem_nil, or_false, forall_eq_or_imp, forall_eq, List.Pairwise.nil, and_true, false_imp_iff, implies_true]
          exact ⟨⟨k1, k3, k4⟩, ⟨k5, k6⟩, k2⟩
        · refine cert_list ?_ (by simp [cp1, h0, h1]) hX
          simp only [cp1, h0, h1, if_true, List.cons_append, List.nil_append, List.pairwise_cons, List.mem_cons, List.not_mem_nil, or_false, forall_eq_or_imp, forall_eq, List.Pairwise.nil, and_true, false_imp_iff, implies_true]
          exact ⟨⟨k2, k3.symm, k5.symm⟩, ⟨k4.symm, k6.symm⟩, k1⟩
      · have g2 := hqp h0
        have r0 := r0 h0
        have q0 := q0 h0
        have k1 := r0.imp p0 q0
        have k3 := g0.imp p0 p1
        have k5 := g2.imp q0 p1
        rw [if_neg (by omega)]
        refine cert_list ?_ (by simp [cp1, h0, h1]) hX
        simp only [cp1, h0, h1, if_true, if_false, List.cons_append, List.nil_append, List.pairwise_cons, List.mem_cons, List.not_mem_nil, or_false, forall_eq_or_imp, forall_eq, List.Pairwise.nil, and_true, false_imp_iff, implies_true]
        exact ⟨⟨k3.symm, k5.symm⟩, k1⟩
    · have h1 : 2 ≤ D1 := by omega
      have g1 := hpq h1
      have r1 := r1 h1
      have q1 := q1 h1
      have k2 := r1.imp p1 q1
      have k3 := g0.imp p0 p1
      have k4 := g1.imp p0 q1
      rw [if_pos (by omega)]
      refine cert_list ?_ (by simp [cp1, h0, h1]) hX
      simp only [cp1, h0, h1, if_true, if_false, List.cons_append, List.nil_append, List.pairwise_cons, List.mem_cons, List.not_mem_nil, or_false, forall_eq_or_imp, forall_eq, List.Pairwise.nil, and_true, false_imp_iff, implies_true]
      exact ⟨⟨k3, k4⟩, k2⟩
end Go.Proofs.Ytcangipaoancnaa

namespace Go.Proofs.Ytcangipaoancnaa
open Go.RowKit
set_option linter.unusedVariables false
set_option linter.unusedSimpArgs false

theorem nd_zero {N s a : Nat} (hs : s < N) (ha : a < N) : ndM N s 0 a = if s + a < N then s + a else s + a - N := by
  unfold ndM
  rw [if_pos rfl]
  split
  · exact Nat.mod_eq_of_lt (by assumption)
  · rw [show s + a = (s + a - N) + N by omega, Nat.add_mod_right, Nat.mod_eq_of_lt (by omega)]; omega
theorem nd_one {N s a : Nat} (hs : s < N) (ha : a < N) : ndM N s 1 a = if a ≤ s then s - a else s + N - a := by
  unfold ndM
  rw [if_neg (by decide)]
  split
  · rw [show s + N - a = (s - a) + N by omega, Nat.add_mod_right, Nat.mod_eq_of_lt (by omega)]
  · exact Nat.mod_eq_of_lt (by omega)
section
variable {F : Fa} {N s d : Nat}
theorem clB_no {i k : Nat} (h : ¬ clB N i k F = true) : F.a % N = i ∧ (F.l = true → F.w % 4 = k) := by
  unfold clB at h
  simp only [Bool.or_eq_true, Bool.not_eq_true', decide_eq_false_iff_not, Bool.and_eq_true, decide_eq_true_eq, not_or, not_and, Decidable.not_not] at h
  exact ⟨h.1.1, h.1.2⟩
/-- A way that is touched. -/
theorem clP_no : ∀ D : Nat, ¬ ClP (fun i k => clB N i k F) N s d D → ∃ a, a < D ∧ ndM N s d a = F.a % N ∧ ((a % 2 = D % 2 ∧ (F.l = true → F.w % 4 = 2 * d + 1)) ∨ (a = 0 ∧ D % 2 = 1 ∧ (F.l = true → F.w % 4 = 2 * d)))
  | 0, h => absurd trivial h
  | 1, h => ⟨0, by decide, (clB_no h).1.symm, .inr ⟨rfl, rfl, (clB_no h).2⟩⟩
  | D + 2, h => by
    by_cases hc : clB N (ndM N s d D) (2 * d + 1) F = true
    · obtain ⟨a, h1, h2, h3⟩ := clP_no D fun k => h ⟨hc, k⟩
      refine ⟨a, by omega, h2, ?_⟩
      rcases h3 with ⟨h3, h4⟩ | ⟨h3, h4, h5⟩
      · exact .inl ⟨by omega, h4⟩
      · exact .inr ⟨h3, by omega, h5⟩
    · exact ⟨D, by omega, (clB_no hc).1.symm, .inl ⟨by omega, (clB_no hc).2⟩⟩
theorem clN_no {D : Nat} (hD : 2 ≤ D) (h : ¬ ClN (fun i k => clB N i k F) N s d D) : ∃ a, a < D ∧ ndM N s d a = F.a % N ∧ ((a = D - 1 ∧ (F.l = true → F.w % 4 = 2 * d)) ∨ (a % 2 = (D - 1) % 2 ∧ (F.l = true → F.w % 4 = 2 * d + 1)) ∨ (a = 0 ∧ (D - 1) % 2 = 1 ∧ (F.l = true → F.w % 4 = 2 * d))) := by
  by_cases hc : clB N (ndM N s d (D - 1)) (2 * d) F = true
  · obtain ⟨a, h1, h2, h3⟩ := clP_no (D - 1) fun k => h ⟨hc, k⟩
    exact ⟨a, by omega, h2, .inr h3⟩
  · exact ⟨D - 1, by omega, (clB_no hc).1.symm, .inl ⟨rfl, (clB_no hc).2⟩⟩
theorem nd_inj {a b : Nat} (hs : s < N) (hd : d < 2) (ha : a < N) (hb : b < N) (h : ndM N s d a = ndM N s d b) : a = b := by
  rcases (show d = 0 ∨ d = 1 by omega) with rfl | rfl
  · rw [nd_zero hs ha, nd_zero hs hb] at h
    split at h <;> split at h <;> omega
  · rw [nd_one hs ha, nd_one hs hb] at h
    split at h <;> split at h <;> omega
theorem nd_src (hs : s < N) (hd : d < 2) : ndM N s d 0 = s := by
  rcases (show d = 0 ∨ d = 1 by omega) with rfl | rfl
  · rw [nd_zero hs (by omega), if_pos (by omega)]; rfl
  · rw [nd_one hs (by omega), if_pos (by omega)]; rfl
/-- Not both ways of one direction. -/
theorem way_one {D : Nat} (hs : s < N) (hd : d < 2) (hD : 2 ≤ D) (hDN : D < N) (hb : F.l = true ∨ F.a % N ≠ s) : ClP (fun i k => clB N i k F) N s d D ∨ ClN (fun i k => clB N i k F) N s d D := by
  by_cases hp : ClP (fun i k => clB N i k F) N s d D
  · exact .inl hp
  · refine .inr (Classical.byContradiction fun hn => ?_)
    obtain ⟨a, a1, a2, a3⟩ := clP_no D hp
    obtain ⟨b, b1, b2, b3⟩ := clN_no hD hn
    have e := nd_inj hs hd (by omega) (by omega) (a2.trans b2.symm)
    subst e
    have hz : a = 0 → F.l = true := fun h => by
      rcases hb with hb | hb
      · exact hb
      · rw [h, nd_src hs hd] at a2; exact absurd a2.symm hb
    cases hl : F.l with
    | true =>
      rw [hl] at a3 b3
      simp only [forall_const] at a3 b3
      omega
    | false =>
      rw [hl] at a3 b3 hz
      simp only [Bool.false_eq_true, false_imp_iff, and_true, imp_false] at a3 b3 hz
      omega
theorem touch {D : Nat} (h : ¬ ClP (fun i k => clB N i k F) N s d D ∨ (2 ≤ D ∧ ¬ ClN (fun i k => clB N i k F) N s d D)) : ∃ a, a < D ∧ ndM N s d a = F.a % N ∧ (F.l = true → F.w % 4 = 2 * d ∨ F.w % 4 = 2 * d + 1) := by
  rcases h with h | ⟨h1, h⟩
  · obtain ⟨a, a1, a2, a3⟩ := clP_no D h
    refine ⟨a, a1, a2, fun hl => ?_⟩
    rcases a3 with ⟨_, a3⟩ | ⟨_, _, a3⟩
    · exact .inr (a3 hl)
    · exact .inl (a3 hl)
  · obtain ⟨a, a1, a2, a3⟩ := clN_no h1 h
    refine ⟨a, a1, a2, fun hl => ?_⟩
    rcases a3 with ⟨_, a3⟩ | ⟨_, a3⟩ | ⟨_, _, a3⟩
    · exact .inl (a3 hl)
    · exact .inr (a3 hl)
    · exact .inl (a3 hl)
/-- Not ways of both directions. -/
theorem way_two {D0 D1 : Nat} (hs : s < N) (hD : D0 + D1 ≤ N) (h0 : D0 < N) (h1 : D1 < N) (hb : F.l = true ∨ F.a % N ≠ s)
    (k0 : ¬ ClP (fun i k => clB N i k F) N s 0 D0 ∨ (2 ≤ D0 ∧ ¬ ClN (fun i k => clB N i k F) N s 0 D0)) (k1 : ¬ ClP (fun i k => clB N i k F) N s 1 D1 ∨ (2 ≤ D1 ∧ ¬ ClN (fun i k => clB N i k F) N s 1 D1)) : False := by
  obtain ⟨a, a1, a2, a3⟩ := touch k0
  obtain ⟨b, b1, b2, b3⟩ := touch k1
  have e := a2.trans b2.symm
  rw [nd_zero hs (by omega), nd_one hs (by omega)] at e
  have hz : a = 0 ∧ b = 0 := by
    split at e <;> split at e <;> omega
  rw [hz.1, nd_src hs (by decide)] at a2
  rcases hb with hb | hb
  · have := a3 hb
    have := b3 hb
    omega
  · exact hb a2.symm
end
theorem orN {p q : Prop} (h : ¬ p → ¬ q → False) : p ∨ q := by
  by_cases hp : p
  · exact .inl hp
  · exact .inr (Classical.byContradiction fun hq => h hp hq)
theorem valM_truth {N K D s : Nat} {ow : Nat → Nat → Rw} (h : D ≤ K) : eqR (valM N ow K D s) (plR N (ow (K - D) s).ro) = true := by
  unfold valM
  rw [if_neg (by omega)]
  split
  · rename_i h0; rw [h0]; exact eqR_self _
  · exact plR2_eq _ _
/-- The stage's theorem, of one node's ticks: what it holds of a source that is not the faulty one is what that said N ticks ago. -/
theorem held_okF {F : Fa} {N me E s : Nat} {T : Nat → Tk} {ow : Nat → Nat → Rw} {S : Nat → Nat → Nat → Wo} (hN : 4 ≤ N) (hm : me < N) (hs : s < N) (hE : N ≤ E) (hb : F.l = true ∨ F.a % N ≠ s)
    (hT : ∀ e, e < E → ∃ (t : Tk) (R : Rw), T e = { t with o := R } ∧ TkOf N (fun k => (insM N e S me k).m) (fun k => (insM N e S me k).R) t ∧ R.ro = plR N (ow e me).ro)
    (hS : ∀ e, e < E → SentF (fun i k => clB N i k F) N e ow S) : eqR (heldR N me E T s) (plR N (ow (E - N) s).ro) = true := by
  have l0 := dist_lt hm hs 0 (by decide)
  have l1 := dist_lt hm hs 1 (by decide)
  have d0 := dist0 hm hs
  have d1 := dist1 hm hs
  rw [show ((0 : Nat) : Int) = 0 from rfl] at l0
  rw [show ((1 : Nat) : Int) = 1 from rfl] at l1
  have hsum : distM N me 0 s + distM N me 1 s ≤ N := by rw [d0, d1]; (repeat' split) <;> omega
  refine held_truth hN hm hs hE (plR_void N _) (fun d => ClP (fun i k => clB N i k F) N s d (distM N me (d : Int) s)) (fun d => ClN (fun i k => clB N i k F) N s d (distM N me (d : Int) s)) (fun d hd hp => ?_) (fun d hd h2 hq => ?_) (fun d hd h2 => ?_) (fun hn => ?_) (fun h2 => ?_) (fun h2 => ?_) (fun h2 h3 => ?_) (fun he => ?_)
  · have hl := dist_lt hm hs d hd
    obtain ⟨t, R, e1, e2, e3⟩ := hT (E - N + distM N me (d : Int) s) (by omega)
    rw [e1, out_okF hN (hS _ (by omega)) hm hs hd e2 e3 hp]
    have := valM_truth (N := N) (ow := ow) (s := s) (show distM N me (d : Int) s ≤ E - N + distM N me (d : Int) s by omega)
    rwa [show E - N + distM N me (d : Int) s - distM N me (d : Int) s = E - N by omega] at this
  · have hl := dist_lt hm hs d hd
    obtain ⟨t, R, e1, e2, e3⟩ := hT (E - N + distM N me (d : Int) s) (by omega)
    rw [e1, show ({ t with o := R } : Tk).nR d s = t.nR d s from rfl, near_okF hN (hS _ (by omega)) hm hs hd e2 (by omega) hq]
    have := valM_truth (N := N) (ow := ow) (s := s) (show distM N me (d : Int) s ≤ E - N + distM N me (d : Int) s by omega)
    rwa [show E - N + distM N me (d : Int) s - distM N me (d : Int) s = E - N by omega] at this
  · exact way_one hs hd h2 (dist_lt hm hs d hd) hb
  · exact orN fun h k => way_two hs hsum l0 l1 hb (.inl h) (.inl k)
  · exact orN fun h k => way_two hs hsum l0 l1 hb (.inl h) (.inr ⟨h2, k⟩)
  · exact orN fun h k => way_two hs hsum l0 l1 hb (.inr ⟨h2, h⟩) (.inl k)
  · exact orN fun h k => way_two hs hsum l0 l1 hb (.inr ⟨h2, h⟩) (.inr ⟨h3, k⟩)
  · have z0 : distM N me ((0 : Nat) : Int) s = 0 := by rw [show ((0 : Nat) : Int) = 0 from rfl, d0]; split <;> omega
    have z1 : distM N me ((1 : Nat) : Int) s = 0 := by rw [show ((1 : Nat) : Int) = 1 from rfl, d1]; split <;> omega
    simp only [z0, z1]
    exact ⟨trivial, trivial⟩
end Go.Proofs.Ytcangipaoancnaa

namespace Go.Proofs.Ytcangipaoancnaa
open Go.RowKit
set_option linter.unusedVariables false
set_option linter.unusedSimpArgs false

theorem sentM_up {N e K p k g : Nat} {S : Nat → Nat → Nat → Wo} {W : Nat → Nat → Wo} (hg : 1 ≤ g) (he : e ≤ K) : sentM N e (fun t => if t = K then W else S t) p k g = sentM N e S p k g := by
  unfold sentM
  by_cases h : e < g
  · rw [if_pos h, if_pos h]
  · rw [if_neg h, if_neg h]
    show (if e - g = K then W else S (e - g)) (p % N) k = _
    rw [if_neg (by omega)]
theorem insM_up {N e K i k : Nat} {S : Nat → Nat → Nat → Wo} {W : Nat → Nat → Wo} (he : e ≤ K) : insM N e (fun t => if t = K then W else S t) i k = insM N e S i k := by
  unfold insM
  simp only [sentM_up (show 1 ≤ 1 by decide) he, sentM_up (show 1 ≤ 2 by decide) he]
/-- What the lanes know, K ticks through. -/
structure HistF (F : Fa) (N K : Nat) (ow : Nat → Nat → Rw) (S : Nat → Nat → Nat → Wo) (L : Nat → Ln) : Prop where
  s : SentF (fun i k => clB N i k F) N K ow S
  E : ∀ i, i < N → (0 < K → (L i).E = K) ∧ (L i).nw = none
  t : ∀ i, i < N → ∀ e, e < K → ∃ (t : Tk) (R : Rw), (L i).T e = { t with o := R } ∧ TkOf N (fun k => (insM N e S i k).m) (fun k => (insM N e S i k).R) t ∧ R.ro = plR N (ow e i).ro
/-- The same behind Hear: each lane's tick is under way. -/
structure HeardF (F : Fa) (N K : Nat) (ow : Nat → Nat → Rw) (S : Nat → Nat → Nat → Wo) (L : Nat → Ln) : Prop where
  s : SentF (fun i k => clB N i k F) N K ow S
  E : ∀ i, i < N → (L i).E = K ∧ ∃ t, (L i).nw = some t ∧ TkOf N (fun k => (insM N K S i k).m) (fun k => (insM N K S i k).R) t
  t : ∀ i, i < N → ∀ e, e < K → ∃ (t : Tk) (R : Rw), (L i).T e = { t with o := R } ∧ TkOf N (fun k => (insM N e S i k).m) (fun k => (insM N e S i k).R) t ∧ R.ro = plR N (ow e i).ro
section
variable {F : Fa} {N K : Nat} {u : World} {ow : Nat → Nat → Rw} {S : Nat → Nat → Nat → Wo} {L L' : Nat → Ln} {o : Nat → Bool} {H : Nat → Wo}
theorem SentF.zero (c : Nat → Nat → Bool) : SentF c N 0 ow S := fun t i k h => absurd h (Nat.not_lt_zero t)
theorem SentF.le {c : Nat → Nat → Bool} {M : Nat} (h : SentF c N K ow S) (hM : M ≤ K) : SentF c N M ow S := fun t i k ht => h t i k (by omega)
/-- Hear: what each holds is what is held of its ticks; of sources that are not faulty the truth. -/
theorem HistF.hear (h : HistF F N K ow S L) (ho : ∀ j, j < N → (o j = true ∧ 0 < K) ∨ (o j = false ∧ K = 0)) (hs : ∀ j, j < N → HStep u N j K S (o j) true (L j) (L' j) (H j)) : HeardF F N K ow S L' := by
  have hh : ∀ j, j < N → (L' j).E = K ∧ ∀ e, e < K → (L' j).T e = (L j).T e := fun j hj => by
    have q := (hs j hj).yes rfl
    obtain ⟨e1, e2⟩ := h.E j hj
    rcases ho j hj with ⟨hb, h0⟩ | ⟨hb, h0⟩
    · rw [hb] at q
      have h1 := q.qe
      have h2 := q.qt
      unfold on0E at h1
      unfold on0T at h2
      rw [if_pos rfl, e2] at h1 h2
      exact ⟨h1.trans (e1 h0), fun e _ => by rw [h2]; rfl⟩
    · subst h0
      have h1 := q.qe
      unfold on0E at h1
      refine ⟨?_, fun e he => absurd he (Nat.not_lt_zero e)⟩
      rw [h1, hb]
      rfl
  refine ⟨h.s, fun j hj => ⟨(hh j hj).1, ((hs j hj).yes rfl).qk⟩, fun j hj e he => ?_⟩
  rw [(hh j hj).2 e he]
  exact h.t j hj e he
theorem HeardF.held (hN : 4 ≤ N) (h : HeardF F N K ow S L) {me s : Nat} (hm : me < N) (hs : s < N) (hb : F.l = true ∨ F.a % N ≠ s) (hK : N ≤ K) : eqR (heldR N me K (L me).T s) (plR N (ow (K - N) s).ro) = true :=
  held_okF hN hm hs hK hb (h.t me hm) fun e he => h.s.le (by omega)
/-- What Hear hands out of a source that is not faulty. -/
theorem HistF.holds (hN : 4 ≤ N) (h : HistF F N K ow S L) (ho : ∀ j, j < N → (o j = true ∧ 0 < K) ∨ (o j = false ∧ K = 0)) (hs : ∀ j, j < N → HStep u N j K S (o j) true (L j) (L' j) (H j)) {me s : Nat} (hm : me < N) (hsN : s < N) (hb : F.l = true ∨ F.a % N ≠ s) :
    RowsW u N (H me) (heldR N me K (L' me).T) ∧ eqR (heldR N me K (L' me).T s) (if K < N then roN else plR N (ow (K - N) s).ro) = true := by
  have q := (hs me hm).yes rfl
  have hf := h.hear ho hs
  have e1 := (hf.E me hm).1
  refine ⟨?_, ?_⟩
  · have := q.qh
    rw [← q.qe, ← q.qt, e1] at this
    exact this
  · by_cases hK : K < N
    · rw [if_pos hK]
      unfold heldR
      rw [if_pos hK]
      exact eqR_self _
    · rw [if_neg hK]
      exact hf.held hN hm hsN hb (by omega)
/-- Say: one more tick is through. -/
theorem HeardF.say {W Z : Nat → Nat → Wo} {ws : Nat → Rw} (hN : 4 ≤ N) (h : HeardF F N K ow S L) (how : ∀ i, i < N → ow K i = ws i) (hs : ∀ j, j < N → SStep u N j true (L j) (L' j) (ws j) (Z j)) (hw : ∀ j q, j < N → q < 4 → clB N j q F = true → W j q = Z j q) : HistF F N (K + 1) ow (fun t => if t = K then W else S t) L' := by
  refine ⟨fun t i k ht hi hk hc => ?_, fun i hi => ?_, fun i hi e he => ?_⟩
  · by_cases htK : t = K
    · subst htK
      simp only [if_true]
      rw [hw i k hi hk hc]
      obtain ⟨C, D, tk, R, q, z⟩ := (hs i hi).yes rfl
      obtain ⟨_, tk2, e1, e2⟩ := h.E i hi
      have et : tk2 = tk := Option.some.inj (e1.symm.trans q.nw)
      subst et
      have hR : R.ro = plR N (ow t i).ro := by rw [q.qr, how i hi]
      rw [z]
      unfold cd4
      by_cases hk2 : k < 2
      · rw [if_pos hk2, show k / 2 = 0 by omega]
        exact ⟨q.qc.m, fun s hsN hp => (q.qc.r s hsN).trans (out_okF hN h.s hi hsN (by decide) e2 hR hp)⟩
      · rw [if_neg hk2, show k / 2 = 1 by omega]
        exact ⟨q.qd.m, fun s hsN hp => (q.qd.r s hsN).trans (out_okF hN h.s hi hsN (by decide) e2 hR hp)⟩
    · simp only [if_neg htK]
      exact h.s t i k (by omega) hi hk hc
  · obtain ⟨C, D, tk, R, q, z⟩ := (hs i hi).yes rfl
    exact ⟨fun _ => by rw [q.qe, (h.E i hi).1], q.qn⟩
  · obtain ⟨C, D, tk, R, q, z⟩ := (hs i hi).yes rfl
    obtain ⟨eE, tk2, e1, e2⟩ := h.E i hi
    have et : tk2 = tk := Option.some.inj (e1.symm.trans q.nw)
    subst et
    simp only [insM_up (W := W) (show e ≤ K by omega)]
    rw [q.qt, eE]
    by_cases heK : e = K
    · subst heK
      exact ⟨tk2, R, by simp, e2, by rw [q.qr, how i hi]⟩
    · obtain ⟨t, R', g1, g2, g3⟩ := h.t i hi e (by omega)
      exact ⟨t, R', by simp [heK, g1], g2, g3⟩
end
end Go.Proofs.Ytcangipaoancnaa

