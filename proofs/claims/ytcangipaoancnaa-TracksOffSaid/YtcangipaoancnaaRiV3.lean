/-
  A ring whose nodes go off and on, one node or one link being faulty, tick by tick. Conditions: 4 to 16 nodes.
-/
import Derived.Test.YtcangipaoancnaaRiH
import Derived.Test.YtcangipaoancnaaRi5
namespace Go.Proofs.Ytcangipaoancnaa
open Go.RowKit
set_option linter.unusedVariables false
set_option linter.unusedSimpArgs false

/-- Like X, or not set. -/
def TV (X r : Ro) : Prop := r.b = false ∨ eqR r X = true
theorem certS_tv {R : Nat → Rw} {X : Ro} {j : Nat} : ∀ (m : Nat), (∀ i, i < m → i ≠ j → TV X (R i).ro) → ∃ o, certS R m = some o ∧ (o = rwN ∨ eqR o.ro X = true)
  | 0, _ => ⟨rwN, rfl, .inl rfl⟩
  | m + 1, h => by
    obtain ⟨o, e, ho⟩ := certS_tv m fun i hi => h i (by omega)
    by_cases hb : (R m).b = true ∧ amongM (R m).ro R m = true
    · have hm : eqR (R m).ro X = true := by
        by_cases hj : m = j
        · obtain ⟨i, hi, e2⟩ := amongM_of hb.2
          rcases h i (by omega) (by omega) with h1 | h1
          · have h2 := eqR_b e2
            rw [h1, show (R m).ro.b = (R m).b from rfl, hb.1] at h2
            cases h2
          · exact eqR_trans e2 h1
        · rcases h m (by omega) hj with h1 | h1
          · rw [show (R m).ro.b = (R m).b from rfl, hb.1] at h1
            cases h1
          · exact h1
      rw [certS_step e hb.1 hb.2]
      have hc : (o.b && !eqR o.ro (R m).ro) = false := by
        rcases ho with rfl | ho
        · rfl
        · rw [eqR_trans ho (eqR_symm hm)]; simp
      exact ⟨R m, by simp [hc], .inr hm⟩
    · refine ⟨o, ?_, ho⟩
      rw [certS, e]
      have : ((R m).b && amongM (R m).ro R m) = false := by
        cases h1 : (R m).b <;> cases h2 : amongM (R m).ro R m <;> simp_all
      simp [this]
theorem certM_tv {R : Nat → Rw} {X : Ro} {m j : Nat} (h : ∀ i, i < m → i ≠ j → TV X (R i).ro) : TV X (certM R m).ro := by
  unfold certM
  obtain ⟨o, e, ho⟩ := certS_tv m h
  rw [e]
  rcases ho with rfl | ho
  · exact .inl rfl
  · exact .inr ho
theorem cert_list_tv {l : List Rw} {X : Ro} (hp : l.Pairwise fun a b => TV X a.ro ∨ TV X b.ro) : TV X (certM (fun i => l.getD i rwN) l.length).ro := by
  have hg : ∀ i k, i < k → k < l.length → TV X (l.getD i rwN).ro ∨ TV X (l.getD k rwN).ro := fun i k h1 h2 => by
    have := List.pairwise_iff_getElem.1 hp i k (by omega) h2 h1
    rw [List.getD_eq_getElem?_getD, List.getD_eq_getElem?_getD, List.getElem?_eq_getElem (by omega), List.getElem?_eq_getElem h2]
    exact this
  by_cases hb : ∃ j, j < l.length ∧ ¬ TV X (l.getD j rwN).ro
  · obtain ⟨j, hj, hn⟩ := hb
    refine certM_tv (j := j) fun i hi hij => ?_
    rcases Nat.lt_or_ge i j with h | h
    · exact (hg i j h hj).resolve_right hn
    · exact (hg j i (by omega) hi).resolve_left hn
  · exact certM_tv (j := l.length) fun i hi _ => Classical.byContradiction fun hn => hb ⟨i, hi, hn⟩
/-- What is held of a source is the truth or nothing, when any two of the four ways hold a clean one. -/
theorem held_tv {N me E s : Nat} {T : Nat → Tk} {X : Ro} (hN : 4 ≤ N) (hm : me < N) (hs : s < N) (P Q : Nat → Prop)
    (hP : ∀ d : Nat, d < 2 → P d → N ≤ E → TV X ((T (E - N + distM N me (d : Int) s)).at (distM N me (d : Int) s) d s).ro)
    (hQ : ∀ d : Nat, d < 2 → 2 ≤ distM N me (d : Int) s → Q d → N ≤ E → TV X ((T (E - N + distM N me (d : Int) s)).nR d s).ro)
    (h00 : ∀ d : Nat, d < 2 → 2 ≤ distM N me (d : Int) s → P d ∨ Q d) (hpp : P 0 ∨ P 1) (hpq : 2 ≤ distM N me 1 s → P 0 ∨ Q 1) (hqp : 2 ≤ distM N me 0 s → Q 0 ∨ P 1) (hqq : 2 ≤ distM N me 0 s → 2 ≤ distM N me 1 s → Q 0 ∨ Q 1) :
    TV X (heldR N me E T s) := by
  unfold heldR
  by_cases hE : E < N
  · rw [if_pos hE]; exact .inl rfl
  · rw [if_neg hE]
    have l0 := dist_lt hm hs 0 (by decide)
    have l1 := dist_lt hm hs 1 (by decide)
    rw [show ((0 : Nat) : Int) = 0 from rfl] at l0
    rw [show ((1 : Nat) : Int) = 1 from rfl] at l1
    have p0 := fun h => hP 0 (by decide) h (by omega)
    have p1 := fun h => hP 1 (by decide) h (by omega)
    have q0 := fun k h => hQ 0 (by decide) k h (by omega)
    have q1 := fun k h => hQ 1 (by decide) k h (by omega)
    have r0 := h00 0 (by decide)
    have r1 := h00 1 (by decide)
    rw [show ((0 : Nat) : Int) = 0 from rfl] at p0 q0 r0
    rw [show ((1 : Nat) : Int) = 1 from rfl] at p1 q1 r1
    have e := cpsR_two (fun k => T (E - N + k)) l0 l1
    rw [show cpsN N me (List.range N) s = (cpsR N me (fun k => T (E - N + k)) (List.range N) s).length from (cpsR_n _ _ _ _ _).symm]
    unfold cpsF
    rw [e]
    obtain ⟨D0, hD0⟩ : ∃ D, D = distM N me 0 s := ⟨_, rfl⟩
    obtain ⟨D1, hD1⟩ : ∃ D, D = distM N me 1 s := ⟨_, rfl⟩
    rw [← hD0, ← hD1]
    rw [← hD0] at p0 q0 r0 hqp hqq
    rw [← hD1] at p1 q1 r1 hpq hqq
    clear hP hQ h00 e l0 l1 hD0 hD1
    have k3 := hpp.imp p0 p1
    have k1 := fun h => (r0 h).imp p0 (q0 h)
    have k2 := fun h => (r1 h).imp p1 (q1 h)
    have k4 := fun h => (hpq h).imp p0 (q1 h)
    have k5 := fun h => (hqp h).imp (q0 h) p1
    have k6 := fun h g => (hqq h g).imp (q0 h) (q1 g)
    by_cases h0 : 2 ≤ D0
    · by_cases h1 : 2 ≤ D1
      · split
        · refine cert_list_tv ?_
          simp only [cp1, h0, h1, if_true, List.cons_append, List.nil_append, List.pairwise_cons, List.mem_cons, List.not_mem_nil, or_false, forall_eq_or_imp, forall_eq, List.Pairwise.nil, and_true, false_imp_iff, implies_true]
          exact ⟨⟨k1 h0, k3, k4 h1⟩, ⟨k5 h0, k6 h0 h1⟩, k2 h1⟩
        · refine cert_list_tv ?_
          simp only [cp1, h0, h1, if_true, List.cons_append, List.nil_append, List.pairwise_cons, List.mem_cons, List.not_mem_nil, or_false, forall_eq_or_imp, forall_eq, List.Pairwise.nil, and_true, false_imp_iff, implies_true]
          exact ⟨⟨k2 h1, k3.symm, (k5 h0).symm⟩, ⟨(k4 h1).symm, (k6 h0 h1).symm⟩, k1 h0⟩
      · split
        · refine cert_list_tv ?_
          simp only [cp1, h0, h1, if_true, if_false, List.cons_append, List.nil_append, List.pairwise_cons, List.mem_cons, List.not_mem_nil, or_false, forall_eq_or_imp, forall_eq, List.Pairwise.nil, and_true, false_imp_iff, implies_true]
          exact ⟨⟨k1 h0, k3⟩, k5 h0⟩
        · refine cert_list_tv ?_
          simp only [cp1, h0, h1, if_true, if_false, List.cons_append, List.nil_append, List.pairwise_cons, List.mem_cons, List.not_mem_nil, or_false, forall_eq_or_imp, forall_eq, List.Pairwise.nil, and_true, false_imp_iff, implies_true]
          exact ⟨⟨k3.symm, (k5 h0).symm⟩, k1 h0⟩
    · by_cases h1 : 2 ≤ D1
      · rw [if_pos (by omega)]
        refine cert_list_tv ?_
        simp only [cp1, h0, h1, if_true, if_false, List.cons_append, List.nil_append, List.pairwise_cons, List.mem_cons, List.not_mem_nil, or_false, forall_eq_or_imp, forall_eq, List.Pairwise.nil, and_true, false_imp_iff, implies_true]
        exact ⟨⟨k3, k4 h1⟩, k2 h1⟩
      · split
        · refine cert_list_tv ?_
          simp only [cp1, h0, h1, if_true, if_false, List.cons_append, List.nil_append, List.pairwise_cons, List.mem_cons, List.not_mem_nil, or_false, forall_eq_or_imp, forall_eq, List.Pairwise.nil, and_true, false_imp_iff, implies_true]
          exact k3
        · refine cert_list_tv ?_
          simp only [cp1, h0, h1, if_true, if_false, List.cons_append, List.nil_append, List.pairwise_cons, List.mem_cons, List.not_mem_nil, or_false, forall_eq_or_imp, forall_eq, List.Pairwise.nil, and_true, false_imp_iff, implies_true]
          exact k3.symm
end Go.Proofs.Ytcangipaoancnaa

namespace Go.Proofs.Ytcangipaoancnaa
open Go.RowKit
set_option linter.unusedVariables false
set_option linter.unusedSimpArgs false

theorem plR_b2 (n : Nat) (q : Ro) : (plR n q).b = q.b := by
  by_cases h : q.b = true
  · rw [plR_bT h, h]
  · rw [plR_bF h]; simp only [Bool.not_eq_true] at h; rw [h]; rfl
theorem plR_congr {N : Nat} {a b : Ro} (h : eqR a b = true) : eqR (plR N a) (plR N b) = true := by
  obtain ⟨h1, h2, h3, h4⟩ := (eqR_iff a b).1 h
  by_cases hb : a.b = true
  · rw [plR_bT hb, plR_bT (h1 ▸ hb), eqR_iff]
    refine ⟨rfl, by rw [h2], rfl, fun i hi => ?_⟩
    show plH (fitH a.T a.n i) = plH (fitH b.T b.n i)
    unfold fitH
    rw [← h3]
    split
    · rw [h4 i (by assumption)]
    · rfl
  · rw [plR_bF hb, plR_bF (h1 ▸ hb)]; exact eqR_self _
/-- What is told of a source that is D away, at tick t: what that said, or nothing. -/
def TVt (N : Nat) (ow : Nat → Nat → Rw) (t D s : Nat) (r : Ro) : Prop := r.b = false ∨ (D ≤ t ∧ eqR r (plR N (ow (t - D) s).ro) = true)
theorem TVt.next {N K D g s : Nat} {ow : Nat → Nat → Rw} {r : Ro} (hg : 1 ≤ g) (hD : g ≤ D) (h : r.b = false ∨ (g ≤ K ∧ TVt N ow (K - g) (D - g) s r)) : TVt N ow K D s (plR N r) := by
  rcases h with h | ⟨h1, h | ⟨h2, h3⟩⟩
  · exact .inl ((plR_b2 N r).trans h)
  · exact .inl ((plR_b2 N r).trans h)
  · refine .inr ⟨by omega, ?_⟩
    rw [show K - g - (D - g) = K - D by omega] at h3
    exact eqR_trans (plR_congr h3) (plR2_eq _ _)
def SentV (c : Nat → Nat → Bool) (N K : Nat) (ow : Nat → Nat → Rw) (S : Nat → Nat → Nat → Wo) : Prop := ∀ t i k, t < K → i < N → k < 4 → c i k = true → S t i k = woN ∨ ((S t i k).m = N ∧ ∀ s, s < N → ClP c N s (k / 2) (distM N i (k / 2 : Nat) s) → TVt N ow t (distM N i (k / 2 : Nat) s) s ((S t i k).R s).ro)
theorem SentV.le {c : Nat → Nat → Bool} {N K M : Nat} {ow : Nat → Nat → Rw} {S : Nat → Nat → Nat → Wo} (h : SentV c N K ow S) (hM : M ≤ K) : SentV c N M ow S := fun t i k ht => h t i k (by omega)
theorem fit_sentV {c : Nat → Nat → Bool} {N K p k g s : Nat} {ow : Nat → Nat → Rw} {S : Nat → Nat → Nat → Wo} (hS : SentV c N K ow S) (hN : 0 < N) (hk : k < 4) (hg : 1 ≤ g) (hs : s < N) (hc : c (p % N) k = true) (hp : ClP c N s (k / 2) (distM N (p % N) (k / 2 : Nat) s)) :
    (fitF (sentM N K S p k g).R (sentM N K S p k g).m rwN s).ro.b = false ∨ (g ≤ K ∧ TVt N ow (K - g) (distM N (p % N) (k / 2 : Nat) s) s (fitF (sentM N K S p k g).R (sentM N K S p k g).m rwN s).ro) := by
  have hz : (fitF woN.R woN.m rwN s).ro.b = false := by
    unfold fitF
    rw [if_neg (by show ¬ s < 0; omega)]
    rfl
  unfold sentM
  by_cases h : K < g
  · rw [if_pos h]; exact .inl hz
  · rw [if_neg h]
    rcases hS (K - g) (p % N) k (by omega) (Nat.mod_lt _ hN) hk hc with e | ⟨h1, h2⟩
    · rw [e]; exact .inl hz
    · refine .inr ⟨by omega, ?_⟩
      unfold fitF
      rw [h1, if_pos hs]
      exact h2 s hs hp
section
variable {c : Nat → Nat → Bool} {N K i d s : Nat} {ow : Nat → Nat → Rw} {S : Nat → Nat → Nat → Wo} {t : Tk} {R : Rw}
theorem near_okV (hN : 4 ≤ N) (hS : SentV c N K ow S) (hi : i < N) (hs : s < N) (hd : d < 2) (ht : TkOf N (fun k => (insM N K S i k).m) (fun k => (insM N K S i k).R) t) (h1 : 1 ≤ distM N i (d : Int) s) (hc : ClN c N s d (distM N i (d : Int) s)) :
    TVt N ow K (distM N i (d : Int) s) s (t.nR d s).ro := by
  rw [ht.n d s hd hs]
  unfold ClN at hc
  rcases (show d = 0 ∨ d = 1 by omega) with rfl | rfl
  · rw [show ((0 : Nat) : Int) = 0 from rfl] at h1 hc ⊢
    have e := db1 hN hi hs h1
    have hl : (i + 2 * N - 1) % N < N := Nat.mod_lt _ (by omega)
    have en := nd_dist (d := 0) hl hs (by decide)
    rw [show ((0 : Nat) : Int) = 0 from rfl, e] at en
    rw [en] at hc
    have key := fit_sentV hS (by omega) (show 0 < 4 by decide) (show 1 ≤ 1 by decide) hs hc.1 (by rw [show ((0 / 2 : Nat) : Int) = 0 from rfl, e]; exact hc.2)
    rw [show ((0 / 2 : Nat) : Int) = 0 from rfl, e] at key
    exact TVt.next (g := 1) (by decide) h1 key
  · rw [show ((1 : Nat) : Int) = 1 from rfl] at h1 hc ⊢
    have e := db3 hN hi hs h1
    have hl : (i + 2 * N + 1) % N < N := Nat.mod_lt _ (by omega)
    have en := nd_dist (d := 1) hl hs (by decide)
    rw [show ((1 : Nat) : Int) = 1 from rfl, e] at en
    rw [en] at hc
    have key := fit_sentV hS (by omega) (show 2 < 4 by decide) (show 1 ≤ 1 by decide) hs hc.1 (by rw [show ((2 / 2 : Nat) : Int) = 1 from rfl, e]; exact hc.2)
    rw [show ((2 / 2 : Nat) : Int) = 1 from rfl, e] at key
    exact TVt.next (g := 1) (by decide) h1 key
theorem out_okV (hN : 4 ≤ N) (hS : SentV c N K ow S) (hi : i < N) (hs : s < N) (hd : d < 2) (ht : TkOf N (fun k => (insM N K S i k).m) (fun k => (insM N K S i k).R) t) (hR : R.ro = plR N (ow K i).ro) (hc : ClP c N s d (distM N i (d : Int) s)) :
    TVt N ow K (distM N i (d : Int) s) s (({ t with o := R } : Tk).at (distM N i (d : Int) s) d s).ro := by
  obtain ⟨D, hD⟩ : ∃ D, D = distM N i (d : Int) s := ⟨_, rfl⟩
  unfold Tk.at
  by_cases h0 : D = 0
  · rw [← hD, if_pos h0]
    have his : s = i := by
      rw [h0] at hD
      rcases (show d = 0 ∨ d = 1 by omega) with rfl | rfl
      · rw [show ((0 : Nat) : Int) = 0 from rfl, dist0 hi hs] at hD; split at hD <;> omega
      · rw [show ((1 : Nat) : Int) = 1 from rfl, dist1 hi hs] at hD; split at hD <;> omega
    refine .inr ⟨by omega, ?_⟩
    show eqR R.ro _ = true
    rw [hR, his, h0, Nat.sub_zero]
    exact eqR_self _
  · by_cases h1 : D = 1
    · rw [if_neg (by omega), if_pos (by omega)]
      show TVt _ _ _ _ _ (t.nR d s).ro
      refine near_okV hN hS hi hs hd ht (by omega) ?_
      rw [← hD, h1] at hc ⊢
      exact ⟨hc, trivial⟩
    · rw [if_neg (by omega), if_neg (by omega)]
      show TVt _ _ _ _ _ (t.fR d s).ro
      rw [ht.f d s hd hs]
      obtain ⟨D2, hD2⟩ : ∃ x, D = x + 2 := ⟨D - 2, by omega⟩
      have hc2 : c (ndM N s d D2) (2 * d + 1) = true ∧ ClP c N s d D2 := by rw [← hD, hD2] at hc; exact hc
      rcases (show d = 0 ∨ d = 1 by omega) with rfl | rfl
      · rw [show ((0 : Nat) : Int) = 0 from rfl] at hD ⊢
        have e := db2 hN hi hs (by omega)
        have e' := e
        rw [show distM N i 0 s - 2 = D2 by omega] at e
        have hl : (i + 2 * N - 2) % N < N := Nat.mod_lt _ (by omega)
        have en := nd_dist (d := 0) hl hs (by decide)
        rw [show ((0 : Nat) : Int) = 0 from rfl, e] at en
        rw [en] at hc2
        have key := fit_sentV hS (by omega) (show 1 < 4 by decide) (show 1 ≤ 2 by decide) hs hc2.1 (by rw [show ((1 / 2 : Nat) : Int) = 0 from rfl, e]; exact hc2.2)
        rw [show ((1 / 2 : Nat) : Int) = 0 from rfl, e'] at key
        exact TVt.next (g := 2) (by decide) (by omega) key
      · rw [show ((1 : Nat) : Int) = 1 from rfl] at hD ⊢
        have e := db4 hN hi hs (by omega)
        have e' := e
        rw [show distM N i 1 s - 2 = D2 by omega] at e
        have hl : (i + 2 * N + 2) % N < N := Nat.mod_lt _ (by omega)
        have en := nd_dist (d := 1) hl hs (by decide)
        rw [show ((1 : Nat) : Int) = 1 from rfl, e] at en
        rw [en] at hc2
        have key := fit_sentV hS (by omega) (show 3 < 4 by decide) (show 1 ≤ 2 by decide) hs hc2.1 (by rw [show ((3 / 2 : Nat) : Int) = 1 from rfl, e]; exact hc2.2)
        rw [show ((3 / 2 : Nat) : Int) = 1 from rfl, e'] at key
        exact TVt.next (g := 2) (by decide) (by omega) key
end
/-- What a node that came on at tick b holds, E ticks on, of a source that is not the faulty one: what that said N ticks ago, or nothing. -/
theorem held_okV {F : Fa} {N me E b s : Nat} {T : Nat → Tk} {ow : Nat → Nat → Rw} {S : Nat → Nat → Nat → Wo} (hN : 4 ≤ N) (hm : me < N) (hs : s < N) (hb : F.l = true ∨ F.a % N ≠ s)
    (hT : ∀ e, e < E → ∃ (t : Tk) (R : Rw), T e = { t with o := R } ∧ TkOf N (fun k => (insM N (b + e) S me k).m) (fun k => (insM N (b + e) S me k).R) t ∧ R.ro = plR N (ow (b + e) me).ro)
    (hS : ∀ e, e < E → SentV (fun i k => clB N i k F) N (b + e) ow S) : (heldR N me E T s).b = false ∨ (N ≤ E ∧ eqR (heldR N me E T s) (plR N (ow (b + E - N) s).ro) = true) := by
  by_cases hE : E < N
  · refine .inl ?_
    unfold heldR
    rw [if_pos hE]; rfl
  have l0 := dist_lt hm hs 0 (by decide)
  have l1 := dist_lt hm hs 1 (by decide)
  have d0 := dist0 hm hs
  have d1 := dist1 hm hs
  rw [show ((0 : Nat) : Int) = 0 from rfl] at l0
  rw [show ((1 : Nat) : Int) = 1 from rfl] at l1
  have key : TV (plR N (ow (b + E - N) s).ro) (heldR N me E T s) := by
    have up : ∀ (d : Nat) (r : Ro), d < 2 → TVt N ow (b + (E - N + distM N me (d : Int) s)) (distM N me (d : Int) s) s r → TV (plR N (ow (b + E - N) s).ro) r := fun d r hd h => by
      rcases h with h | ⟨_, h⟩
      · exact .inl h
      · rw [show b + (E - N + distM N me (d : Int) s) - distM N me (d : Int) s = b + E - N by omega] at h
        exact .inr h
    have hsum : distM N me 0 s + distM N me 1 s ≤ N := by rw [d0, d1]; (repeat' split) <;> omega
    refine held_tv hN hm hs (fun d => ClP (fun i k => clB N i k F) N s d (distM N me (d : Int) s)) (fun d => ClN (fun i k => clB N i k F) N s d (distM N me (d : Int) s)) (fun d hd hp _ => ?_) (fun d hd h2 hq _ => ?_) (fun d hd h2 => ?_) ?_ (fun h2 => ?_) (fun h2 => ?_) (fun h2 h3 => ?_)
    · have hl := dist_lt hm hs d hd
      obtain ⟨t, R, e1, e2, e3⟩ := hT (E - N + distM N me (d : Int) s) (by omega)
      rw [e1]
      exact up d _ hd (out_okV hN (hS _ (by omega)) hm hs hd e2 e3 hp)
    · have hl := dist_lt hm hs d hd
      obtain ⟨t, R, e1, e2, e3⟩ := hT (E - N + distM N me (d : Int) s) (by omega)
      rw [e1]
      show TV _ (t.nR d s).ro
      exact up d _ hd (near_okV hN (hS _ (by omega)) hm hs hd e2 (by omega) hq)
    · exact way_one hs hd h2 (dist_lt hm hs d hd) hb
    · exact orN fun h k => way_two hs hsum l0 l1 hb (.inl h) (.inl k)
    · exact orN fun h k => way_two hs hsum l0 l1 hb (.inl h) (.inr ⟨h2, k⟩)
    · exact orN fun h k => way_two hs hsum l0 l1 hb (.inr ⟨h2, h⟩) (.inl k)
    · exact orN fun h k => way_two hs hsum l0 l1 hb (.inr ⟨h2, h⟩) (.inr ⟨h3, k⟩)
  rcases key with h | h
  · exact .inl h
  · exact .inr ⟨by omega, h⟩
end Go.Proofs.Ytcangipaoancnaa

namespace Go.Proofs.Ytcangipaoancnaa
open Go.RowKit
set_option linter.unusedVariables false
set_option linter.unusedSimpArgs false

/-- The ticks of a lane that came on at tick b. -/
def TksV (N b i E : Nat) (ow : Nat → Nat → Rw) (S : Nat → Nat → Nat → Wo) (T : Nat → Tk) : Prop := ∀ e, e < E → ∃ (t : Tk) (R : Rw), T e = { t with o := R } ∧ TkOf N (fun k => (insM N (b + e) S i k).m) (fun k => (insM N (b + e) S i k).R) t ∧ R.ro = plR N (ow (b + e) i).ro
structure HistV (F : Fa) (N K : Nat) (ow : Nat → Nat → Rw) (S : Nat → Nat → Nat → Wo) (o : Nat → Bool) (L : Nat → Ln) : Prop where
  s : SentV (fun i k => clB N i k F) N K ow S
  t : ∀ i, i < N → o i = true → ∃ b, b + (L i).E = K ∧ (L i).nw = none ∧ TksV N b i (L i).E ow S (L i).T
structure HeardV (F : Fa) (N K : Nat) (ow : Nat → Nat → Rw) (S : Nat → Nat → Nat → Wo) (o : Nat → Bool) (L : Nat → Ln) : Prop where
  s : SentV (fun i k => clB N i k F) N K ow S
  t : ∀ i, i < N → o i = true → ∃ b, b + (L i).E = K ∧ (∃ t, (L i).nw = some t ∧ TkOf N (fun k => (insM N K S i k).m) (fun k => (insM N K S i k).R) t) ∧ TksV N b i (L i).E ow S (L i).T
section
variable {F : Fa} {N K : Nat} {u : World} {ow : Nat → Nat → Rw} {S : Nat → Nat → Nat → Wo} {L L' : Nat → Ln} {o on : Nat → Bool} {H : Nat → Wo}
theorem HistV.zero : HistV F N 0 ow S onN L := ⟨fun t i k h => absurd h (Nat.not_lt_zero t), fun i hi h => by cases h⟩
theorem HistV.hear (h : HistV F N K ow S o L) (hs : ∀ j, j < N → HStep u N j K S (o j) (on j) (L j) (L' j) (H j)) : HeardV F N K ow S on L' := by
  refine ⟨h.s, fun j hj hon => ?_⟩
  have q := (hs j hj).yes hon
  have h1 := q.qe
  have h2 := q.qt
  unfold on0E at h1
  unfold on0T at h2
  by_cases ho : o j = true
  · obtain ⟨b, e1, e2, e3⟩ := h.t j hj ho
    rw [if_pos ho, e2] at h1 h2
    refine ⟨b, ?_, q.qk, ?_⟩
    · rw [h1]; exact e1
    · rw [h1, h2]; exact e3
  · rw [if_neg ho] at h1 h2
    refine ⟨K, by rw [h1]; rfl, q.qk, ?_⟩
    rw [h1]
    exact fun e he => absurd he (Nat.not_lt_zero e)
/-- What Hear hands out to one that is on, of a source that is not faulty: what that said N ticks ago, or nothing. -/
theorem HistV.holds (hN : 4 ≤ N) (h : HistV F N K ow S o L) (hs : ∀ j, j < N → HStep u N j K S (o j) (on j) (L j) (L' j) (H j)) {me s : Nat} (hm : me < N) (hon : on me = true) (hsN : s < N) (hb : F.l = true ∨ F.a % N ≠ s) :
    ∃ P : Nat → Ro, RowsW u N (H me) P ∧ ((P s).b = false ∨ (N ≤ K ∧ eqR (P s) (plR N (ow (K - N) s).ro) = true)) := by
  have q := (hs me hm).yes hon
  have hf := h.hear hs
  obtain ⟨b, e1, _, e3⟩ := hf.t me hm hon
  refine ⟨heldR N me (L' me).E (L' me).T, ?_, ?_⟩
  · have := q.qh
    rw [← q.qe, ← q.qt] at this
    exact this
  · have key := held_okV (b := b) hN hm hsN hb e3 fun e he => hf.s.le (by omega)
    rw [e1] at key
    rcases key with k | ⟨k1, k2⟩
    · exact .inl k
    · exact .inr ⟨by omega, k2⟩
theorem TksV.up {b i E : Nat} {W : Nat → Nat → Wo} {T : Nat → Tk} (h : TksV N b i E ow S T) (hE : b + E ≤ K) : TksV N b i E ow (fun t => if t = K then W else S t) T := fun e he => by
  obtain ⟨t, R, h1, h2, h3⟩ := h e he
  refine ⟨t, R, h1, ?_, h3⟩
  simp only [insM_up (W := W) (show b + e ≤ K by omega)]
  exact h2
/-- Say: one more tick is through. -/
theorem HeardV.say {W Z : Nat → Nat → Wo} {ws : Nat → Rw} (hN : 4 ≤ N) (h : HeardV F N K ow S o L) (how : ∀ i, i < N → ow K i = ws i) (hs : ∀ j, j < N → SStep u N j (o j) (L j) (L' j) (ws j) (Z j)) (hw : ∀ j q, j < N → q < 4 → clB N j q F = true → W j q = Z j q) : HistV F N (K + 1) ow (fun t => if t = K then W else S t) o L' := by
  refine ⟨fun t i k ht hi hk hc => ?_, fun i hi hon => ?_⟩
  · by_cases htK : t = K
    · subst htK
      simp only [if_true]
      rw [hw i k hi hk hc]
      cases hoi : o i with
      | false => exact .inl (by rw [((hs i hi).off hoi).2])
      | true =>
        obtain ⟨C, D, tk, R, q, z⟩ := (hs i hi).yes hoi
        obtain ⟨b, _, ⟨tk2, e1, e2⟩, _⟩ := h.t i hi hoi
        have et : tk2 = tk := Option.some.inj (e1.symm.trans q.nw)
        subst et
        have hR : R.ro = plR N (ow t i).ro := by rw [q.qr, how i hi]
        rw [z]
        unfold cd4
        by_cases hk2 : k < 2
        · rw [if_pos hk2, show k / 2 = 0 by omega]
          refine .inr ⟨q.qc.m, fun s hsN hp => ?_⟩
          rw [q.qc.r s hsN]
          exact out_okV hN h.s hi hsN (by decide) e2 hR hp
        · rw [if_neg hk2, show k / 2 = 1 by omega]
          refine .inr ⟨q.qd.m, fun s hsN hp => ?_⟩
          rw [q.qd.r s hsN]
          exact out_okV hN h.s hi hsN (by decide) e2 hR hp
    · simp only [if_neg htK]
      exact h.s t i k (by omega) hi hk hc
  · obtain ⟨C, D, tk, R, q, z⟩ := (hs i hi).yes hon
    obtain ⟨b, eE, ⟨tk2, e1, e2⟩, e3⟩ := h.t i hi hon
    have et : tk2 = tk := Option.some.inj (e1.symm.trans q.nw)
    subst et
    refine ⟨b, by rw [q.qe]; omega, q.qn, ?_⟩
    rw [q.qe, q.qt]
    intro e he
    by_cases heE : e = (L i).E
    · subst heE
      refine ⟨tk2, R, by simp, ?_, by rw [eE, q.qr, how i hi]⟩
      rw [eE]
      simp only [insM_up (W := W) (show K ≤ K by omega)]
      exact e2
    · obtain ⟨t, R', g1, g2, g3⟩ := (e3.up (K := K) (W := W) (Nat.le_of_eq eE)) e (by omega)
      exact ⟨t, R', by simp [heE, g1], g2, g3⟩
end
end Go.Proofs.Ytcangipaoancnaa

