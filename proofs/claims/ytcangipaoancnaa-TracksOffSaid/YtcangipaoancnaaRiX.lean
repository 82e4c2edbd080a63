/-
  Without a fault each word that goes out has of each source what it said as many ticks ago as it is away. Conditions: 4 to 16 nodes.
-/
import Derived.Test.YtcangipaoancnaaRi1
namespace Go.Proofs.Ytcangipaoancnaa
open Go.RowKit
set_option linter.unusedVariables false
set_option linter.unusedSimpArgs false

theorem plR_roN (N : Nat) : plR N roN = roN := rfl
theorem plR_bT {N : Nat} {r : Ro} (h : r.b = true) : plR N r = ⟨true, plC r.c, N, fun i => plH (fitH r.T r.n i)⟩ := by unfold plR; rw [if_pos h]
theorem plR_bF {N : Nat} {r : Ro} (h : ¬ r.b = true) : plR N r = roN := by unfold plR; rw [if_neg h]
theorem plR3 (N : Nat) (r : Ro) : plR N (plR N (plR N r)) = plR N (plR N r) := by
  by_cases h : r.b = true
  · rw [plR_bT h, plR_bT rfl, plR_bT rfl]
    simp only [plC_idem, Ro.mk.injEq, true_and]
    funext i
    unfold fitH
    by_cases hi : i < N
    · simp only [hi, if_true, plH_idem]
    · simp only [hi, if_false]
  · rw [plR_bF h]; rfl
theorem plR2_eq (N : Nat) (r : Ro) : eqR (plR N (plR N r)) (plR N r) = true := by
  by_cases h : r.b = true
  · rw [plR_bT h, plR_bT rfl, eqR_iff]
    refine ⟨rfl, plC_idem _, rfl, fun i hi => ?_⟩
    have hi : i < N := hi
    show plH (fitH (fun i => plH (fitH r.T r.n i)) N i) = plH (fitH r.T r.n i)
    conv => lhs; unfold fitH
    rw [if_pos hi]
    exact plH_idem _
  · rw [plR_bF h]; exact eqR_self _
theorem modk {x N : Nat} (k : Nat) (h1 : k * N ≤ x) (h2 : x < k * N + N) : x % N = x - k * N := by
  have e : x = (x - k * N) + N * k := by rw [Nat.mul_comm N k]; omega
  conv => lhs; rw [e]
  rw [Nat.add_mul_mod_self_left, Nat.mod_eq_of_lt (by omega)]
theorem dist0 {N i s : Nat} (hi : i < N) (hs : s < N) : distM N i 0 s = if s ≤ i then i - s else i + N - s := by
  unfold distM
  rw [if_pos rfl]
  split
  · rw [modk 1 (by omega) (by omega)]; omega
  · rw [modk 0 (by omega) (by omega)]; omega
theorem dist1 {N i s : Nat} (hi : i < N) (hs : s < N) : distM N i 1 s = if i ≤ s then s - i else s + N - i := by
  unfold distM
  rw [if_neg (by decide)]
  split
  · rw [modk 1 (by omega) (by omega)]; omega
  · rw [modk 0 (by omega) (by omega)]; omega
theorem dist_lt {N i s : Nat} (hi : i < N) (hs : s < N) (d : Nat) (hd : d < 2) : distM N i d s < N := by
  rcases (show d = 0 ∨ d = 1 by omega) with rfl | rfl
  · rw [show ((0 : Nat) : Int) = 0 from rfl, dist0 hi hs]; split <;> omega
  · rw [show ((1 : Nat) : Int) = 1 from rfl, dist1 hi hs]; split <;> omega
/-- Who is one, two away, with the clock, against it. -/
theorem nb1 {N i : Nat} (hN : 4 ≤ N) (hi : i < N) : (i + 2 * N - 1) % N = if 1 ≤ i then i - 1 else N - 1 := by
  split
  · rw [modk 2 (by omega) (by omega)]; omega
  · rw [modk 1 (by omega) (by omega)]; omega
theorem nb2 {N i : Nat} (hN : 4 ≤ N) (hi : i < N) : (i + 2 * N - 2) % N = if 2 ≤ i then i - 2 else i + N - 2 := by
  split
  · rw [modk 2 (by omega) (by omega)]; omega
  · rw [modk 1 (by omega) (by omega)]; omega
theorem nb3 {N i : Nat} (hN : 4 ≤ N) (hi : i < N) : (i + 2 * N + 1) % N = if i + 1 < N then i + 1 else 0 := by
  split
  · rw [modk 2 (by omega) (by omega)]; omega
  · rw [modk 3 (by omega) (by omega)]; omega
theorem nb4 {N i : Nat} (hN : 4 ≤ N) (hi : i < N) : (i + 2 * N + 2) % N = if i + 2 < N then i + 2 else i + 2 - N := by
  split
  · rw [modk 2 (by omega) (by omega)]; omega
  · rw [modk 3 (by omega) (by omega)]; omega
theorem db1 {N i s : Nat} (hN : 4 ≤ N) (hi : i < N) (hs : s < N) (h : 1 ≤ distM N i 0 s) : distM N ((i + 2 * N - 1) % N) 0 s = distM N i 0 s - 1 := by
  rw [dist0 hi hs] at h
  rw [nb1 hN hi]
  split
  · rw [dist0 (by omega) hs, dist0 hi hs]; split at h <;> (repeat' split) <;> omega
  · rw [dist0 (by omega) hs, dist0 hi hs]; split at h <;> (repeat' split) <;> omega
theorem db2 {N i s : Nat} (hN : 4 ≤ N) (hi : i < N) (hs : s < N) (h : 2 ≤ distM N i 0 s) : distM N ((i + 2 * N - 2) % N) 0 s = distM N i 0 s - 2 := by
  rw [dist0 hi hs] at h
  rw [nb2 hN hi]
  split
  · rw [dist0 (by omega) hs, dist0 hi hs]; split at h <;> (repeat' split) <;> omega
  · rw [dist0 (by omega) hs, dist0 hi hs]; split at h <;> (repeat' split) <;> omega
theorem db3 {N i s : Nat} (hN : 4 ≤ N) (hi : i < N) (hs : s < N) (h : 1 ≤ distM N i 1 s) : distM N ((i + 2 * N + 1) % N) 1 s = distM N i 1 s - 1 := by
  rw [dist1 hi hs] at h
  rw [nb3 hN hi]
  split
  · rw [dist1 (by omega) hs, dist1 hi hs]; split at h <;> (repeat' split) <;> omega
  · rw [dist1 (by omega) hs, dist1 hi hs]; split at h <;> (repeat' split) <;> omega
theorem db4 {N i s : Nat} (hN : 4 ≤ N) (hi : i < N) (hs : s < N) (h : 2 ≤ distM N i 1 s) : distM N ((i + 2 * N + 2) % N) 1 s = distM N i 1 s - 2 := by
  rw [dist1 hi hs] at h
  rw [nb4 hN hi]
  split
  · rw [dist1 (by omega) hs, dist1 hi hs]; split at h <;> (repeat' split) <;> omega
  · rw [dist1 (by omega) hs, dist1 hi hs]; split at h <;> (repeat' split) <;> omega
/-- What a word has of a source that is D away, at tick t. -/
def valM (N : Nat) (ow : Nat → Nat → Rw) (t D s : Nat) : Ro := if t < D then roN else if D = 0 then plR N (ow t s).ro else plR N (plR N (ow (t - D) s).ro)
def SentOK (N K : Nat) (ow : Nat → Nat → Rw) (S : Nat → Nat → Nat → Wo) : Prop := ∀ t i k, t < K → i < N → k < 4 → (S t i k).m = N ∧ ∀ s, s < N → ((S t i k).R s).ro = valM N ow t (distM N i (k / 2 : Nat) s) s
theorem valM_next {N t D s g : Nat} {ow : Nat → Nat → Rw} (hg : 1 ≤ g) (hD : g ≤ D) : plR N (if t < g then roN else valM N ow (t - g) (D - g) s) = valM N ow t D s := by
  unfold valM
  by_cases h1 : t < g
  · rw [if_pos h1, if_pos (by omega)]; rfl
  · rw [if_neg h1]
    by_cases h2 : t < D
    · rw [if_pos h2, if_pos (by omega)]; rfl
    · rw [if_neg h2, if_neg (by omega), if_neg (show ¬ D = 0 by omega)]
      by_cases h3 : D - g = 0
      · rw [if_pos h3, show t - g = t - D by omega]
      · rw [if_neg h3, plR3, show t - g - (D - g) = t - D by omega]
theorem fit_sent {N K p k g s : Nat} {ow : Nat → Nat → Rw} {S : Nat → Nat → Nat → Wo} (hS : SentOK N K ow S) (hN : 0 < N) (hk : k < 4) (hg : 1 ≤ g) (hs : s < N) :
    (fitF (sentM N K S p k g).R (sentM N K S p k g).m rwN s).ro = if K < g then roN else valM N ow (K - g) (distM N (p % N) (k / 2 : Nat) s) s := by
  unfold sentM
  by_cases h : K < g
  · rw [if_pos h, if_pos h]
    unfold fitF
    rw [if_neg (by show ¬ s < 0; omega)]
    rfl
  · rw [if_neg h, if_neg h]
    obtain ⟨h1, h2⟩ := hS (K - g) (p % N) k (by omega) (Nat.mod_lt _ hN) hk
    unfold fitF
    rw [h1, if_pos hs]
    exact h2 s hs
theorem out_ok {N K i d s : Nat} {ow : Nat → Nat → Rw} {S : Nat → Nat → Nat → Wo} (hN : 4 ≤ N) (hS : SentOK N K ow S) (hi : i < N) (hs : s < N) (hd : d < 2) {t : Tk} {R : Rw} (ht : TkOf N (fun k => (insM N K S i k).m) (fun k => (insM N K S i k).R) t) (hR : R.ro = plR N (ow K i).ro) :
    (({ t with o := R } : Tk).at (distM N i d s) d s).ro = valM N ow K (distM N i d s) s := by
  obtain ⟨D, hD⟩ : ∃ D, D = distM N i d s := ⟨_, rfl⟩
  rw [← hD]
  unfold Tk.at
  by_cases h0 : D = 0
  · rw [if_pos h0]
    show R.ro = _
    have his : s = i := by
      rw [h0] at hD
      rcases (show d = 0 ∨ d = 1 by omega) with rfl | rfl
      · rw [show ((0 : Nat) : Int) = 0 from rfl, dist0 hi hs] at hD; split at hD <;> omega
      · rw [show ((1 : Nat) : Int) = 1 from rfl, dist1 hi hs] at hD; split at hD <;> omega
    unfold valM
    rw [if_neg (by omega), if_pos h0, hR, his]
  · rw [if_neg h0]
    by_cases h1 : D = 1
    · rw [if_pos h1]
      show (t.nR d s).ro = _
      rw [ht.n d s hd hs]
      rcases (show d = 0 ∨ d = 1 by omega) with rfl | rfl
      · rw [show ((0 : Nat) : Int) = 0 from rfl] at hD
        show plR N (fitF (sentM N K S (i + 2 * N - 1) 0 1).R (sentM N K S (i + 2 * N - 1) 0 1).m rwN s).ro = _
        rw [fit_sent hS (by omega) (by decide) (by decide) hs, show ((0 / 2 : Nat) : Int) = 0 from rfl, db1 hN hi hs (by omega), ← hD]
        exact valM_next (by decide) (by omega)
      · rw [show ((1 : Nat) : Int) = 1 from rfl] at hD
        show plR N (fitF (sentM N K S (i + 2 * N + 1) 2 1).R (sentM N K S (i + 2 * N + 1) 2 1).m rwN s).ro = _
        rw [fit_sent hS (by omega) (by decide) (by decide) hs, show ((2 / 2 : Nat) : Int) = 1 from rfl, db3 hN hi hs (by omega), ← hD]
        exact valM_next (by decide) (by omega)
    · rw [if_neg h1]
      show (t.fR d s).ro = _
      rw [ht.f d s hd hs]
      rcases (show d = 0 ∨ d = 1 by omega) with rfl | rfl
      · rw [show ((0 : Nat) : Int) = 0 from rfl] at hD
        show plR N (fitF (sentM N K S (i + 2 * N - 2) 1 2).R (sentM N K S (i + 2 * N - 2) 1 2).m rwN s).ro = _
        rw [fit_sent hS (by omega) (by decide) (by decide) hs, show ((1 / 2 : Nat) : Int) = 0 from rfl, db2 hN hi hs (by omega), ← hD]
        exact valM_next (by decide) (by omega)
      · rw [show ((1 : Nat) : Int) = 1 from rfl] at hD
        show plR N (fitF (sentM N K S (i + 2 * N + 2) 3 2).R (sentM N K S (i + 2 * N + 2) 3 2).m rwN s).ro = _
        rw [fit_sent hS (by omega) (by decide) (by decide) hs, show ((3 / 2 : Nat) : Int) = 1 from rfl, db4 hN hi hs (by omega), ← hD]
        exact valM_next (by decide) (by omega)
end Go.Proofs.Ytcangipaoancnaa

