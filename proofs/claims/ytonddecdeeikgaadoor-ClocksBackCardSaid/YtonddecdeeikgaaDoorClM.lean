/-
  Times of ages as functions on numbers: what a clock tells, and what follows: of each age one time. No condition but those that are named.
-/
import Derived.Test.YtonddecdeeikgaaDoorRgQ
namespace Go.Proofs.YtonddecdeeikgaaDoor
namespace Cl

/-- A time: its round, slot and place. -/
structure Tm where
  r : Int
  k : Int
  p : Int
def Tm.zero : Tm := ⟨0, 0, 0⟩
/-- The time of an age, by so many slots of so many ticks. -/
def timeM (s L a : Int) : Tm := ⟨a / (s * L), a % (s * L) / L, a % (s * L) % L⟩
/-- How many slots were ahead of a time; its age. -/
def upM (s : Int) (t : Tm) : Int := t.r * s + t.k
def ageM (s L : Int) (t : Tm) : Int := upM s t * L + t.p
def isAge (a : Int) : Bool := decide (0 ≤ a ∧ a ≤ 1099511627776)
/-- Is it an age's time? -/
def hasB (s L : Int) (t : Tm) : Bool := decide ((0 ≤ t.k ∧ t.k < s) ∧ (0 ≤ t.p ∧ t.p < L) ∧ 0 ≤ t.r ∧ ageM s L t ≤ 1099511627776)

theorem age_form (s L : Int) (t : Tm) : ageM s L t = t.r * (s * L) + (t.k * L + t.p) := by
  simp only [ageM, upM, Int.add_mul, Int.mul_assoc, Int.add_assoc]
theorem mul_pos {s L : Int} (hs : 1 ≤ s) (hL : 1 ≤ L) : 1 ≤ s * L := Int.mul_pos (by omega) (by omega)
/-- What is short of a round. -/
theorem short {s L k p : Int} (hL : 1 ≤ L) (hk : 0 ≤ k) (hk' : k < s) (hp : 0 ≤ p) (hp' : p < L) : 0 ≤ k * L + p ∧ k * L + p < s * L := by
  have h1 : 0 ≤ k * L := Int.mul_nonneg hk (by omega)
  have h2 : (k + 1) * L ≤ s * L := Int.mul_le_mul_of_nonneg_right (by omega) (by omega)
  rw [Int.add_mul] at h2
  omega
theorem time_bd {s L a : Int} (hs : 1 ≤ s) (hL : 1 ≤ L) (ha : 0 ≤ a) : 0 ≤ (timeM s L a).r ∧ (timeM s L a).r ≤ a ∧ 0 ≤ (timeM s L a).k ∧ (timeM s L a).k < s ∧ 0 ≤ (timeM s L a).p ∧ (timeM s L a).p < L := by
  have hR := mul_pos hs hL
  have h1 := Int.emod_nonneg a (show s * L ≠ 0 by omega)
  have h2 := Int.emod_lt_of_pos a (show 0 < s * L by omega)
  refine ⟨Int.ediv_nonneg ha (by omega), Int.ediv_le_self _ ha, Int.ediv_nonneg h1 (by omega), Int.ediv_lt_of_lt_mul (by omega) h2, Int.emod_nonneg _ (by omega), Int.emod_lt_of_pos _ (by omega)⟩
theorem time_age {s L a : Int} : ageM s L (timeM s L a) = a := by
  rw [age_form]
  have h1 := Int.mul_ediv_add_emod a (s * L)
  have h2 := Int.mul_ediv_add_emod (a % (s * L)) L
  simp only [timeM]
  rw [Int.mul_comm (a / (s * L)), Int.mul_comm (a % (s * L) / L)]
  omega
theorem age_time {s L : Int} {t : Tm} (hL : 1 ≤ L) (hk : 0 ≤ t.k) (hk' : t.k < s) (hp : 0 ≤ t.p) (hp' : t.p < L) : timeM s L (ageM s L t) = t := by
  obtain ⟨r, k, p⟩ := t
  simp only at hk hk' hp hp'
  obtain ⟨h1, h2⟩ := short hL hk hk' hp hp'
  have hm : (r * (s * L) + (k * L + p)) % (s * L) = k * L + p := by
    rw [Int.add_comm, Int.add_mul_emod_self_right]; exact Int.emod_eq_of_lt h1 h2
  have hd : (r * (s * L) + (k * L + p)) / (s * L) = r := by
    rw [Int.add_comm, Int.add_mul_ediv_right _ _ (by omega), Int.ediv_eq_zero_of_lt h1 h2]; omega
  have hm2 : (k * L + p) % L = p := by
    rw [Int.add_comm, Int.add_mul_emod_self_right]; exact Int.emod_eq_of_lt hp hp'
  have hd2 : (k * L + p) / L = k := by
    rw [Int.add_comm, Int.add_mul_ediv_right _ _ (by omega), Int.ediv_eq_zero_of_lt hp hp']; omega
  simp only [timeM, age_form, hm, hd, hm2, hd2]
theorem up_time {s L a : Int} (hs : 1 ≤ s) (hL : 1 ≤ L) (ha : 0 ≤ a) : upM s (timeM s L a) = a / L := by
  obtain ⟨_, _, h1, h2, h3, h4⟩ := time_bd hs hL ha
  have h := time_age (s := s) (L := L) (a := a)
  simp only [ageM] at h
  have hd : (upM s (timeM s L a) * L + (timeM s L a).p) / L = upM s (timeM s L a) := by
    rw [Int.add_comm, Int.add_mul_ediv_right _ _ (by omega), Int.ediv_eq_zero_of_lt h3 h4]; omega
  rw [h] at hd
  exact hd.symm
/-- A tick later: a place, a slot, or a round on. -/
theorem time_next {s L a : Int} (hs : 1 ≤ s) (hL : 1 ≤ L) (ha : 0 ≤ a) : timeM s L (a + 1) =
    (if (timeM s L a).p + 1 < L then ⟨(timeM s L a).r, (timeM s L a).k, (timeM s L a).p + 1⟩ else if (timeM s L a).k + 1 < s then ⟨(timeM s L a).r, (timeM s L a).k + 1, 0⟩ else ⟨(timeM s L a).r + 1, 0, 0⟩) := by
  obtain ⟨_, _, h1, h2, h3, h4⟩ := time_bd hs hL ha
  have h := time_age (s := s) (L := L) (a := a)
  generalize timeM s L a = t at h h1 h2 h3 h4 ⊢
  obtain ⟨r, k, p⟩ := t
  simp only at h1 h2 h3 h4 ⊢
  split
  · rename_i hp
    rw [← age_time (s := s) (L := L) (t := ⟨r, k, p + 1⟩) hL h1 h2 (by simp only; omega) hp]
    congr 1
    rw [← h]; simp only [ageM, upM]; omega
  · split
    · rename_i hp hk
      rw [← age_time (s := s) (L := L) (t := ⟨r, k + 1, 0⟩) hL (by simp only; omega) hk (by simp only; omega) (by simp only; omega)]
      congr 1
      rw [← h]; simp only [ageM, upM, Int.add_mul]; omega
    · rename_i hp hk
      rw [← age_time (s := s) (L := L) (t := ⟨r + 1, 0, 0⟩) hL (by simp only; omega) (by simp only; omega) (by simp only; omega) (by simp only; omega)]
      congr 1
      obtain rfl : p = L - 1 := by omega
      obtain rfl : k = s - 1 := by omega
      rw [← h]; simp only [ageM, upM, Int.add_mul, Int.sub_mul, Int.one_mul]; omega
theorem has_time {s L a : Int} (hs : 1 ≤ s) (hL : 1 ≤ L) (ha : 0 ≤ a) (ha' : a ≤ 1099511627776) : hasB s L (timeM s L a) = true := by
  obtain ⟨h0, _, h1, h2, h3, h4⟩ := time_bd hs hL ha
  have h := time_age (s := s) (L := L) (a := a)
  simp only [hasB, decide_eq_true_eq]
  exact ⟨⟨h1, h2⟩, ⟨h3, h4⟩, h0, by omega⟩
/-- Of a time within its bounds: its age, as its rounds', slots' and places' ticks; bounds of these. -/
theorem age_bd {s L : Int} {t : Tm} (hs : 1 ≤ s) (hs' : s ≤ 65536) (hL : 1 ≤ L) (hL' : L ≤ 4096) (hk : 0 ≤ t.k) (hk' : t.k < s) (hp : 0 ≤ t.p) (hp' : t.p < L) (hr : 0 ≤ t.r) (M : Int) (hr' : t.r ≤ M) (hM : M ≤ 1099511627776) :
    (0 ≤ t.r * s ∧ t.r * s ≤ 1099511627776 * 65536) ∧ (0 ≤ t.r * (s * L) ∧ t.r ≤ t.r * (s * L) ∧ t.r * (s * L) ≤ M * (s * L)) ∧ (0 ≤ t.k * L ∧ t.k * L ≤ 268435456) ∧ 0 ≤ t.k * L + t.p ∧ t.k * L + t.p < s * L := by
  have hR := mul_pos hs hL
  have h := short hL hk hk' hp hp'
  refine ⟨⟨Int.mul_nonneg hr (by omega), Int.le_trans (Int.mul_le_mul_of_nonneg_right (show t.r ≤ 1099511627776 by omega) (by omega)) (Int.mul_le_mul_of_nonneg_left hs' (by omega))⟩, ⟨Int.mul_nonneg hr (by omega), ?_, Int.mul_le_mul_of_nonneg_right hr' (by omega)⟩, ⟨Int.mul_nonneg hk (by omega), ?_⟩, h⟩
  · have := Int.mul_le_mul_of_nonneg_left hR hr
    omega
  · have h1 : t.k * L ≤ 65536 * L := Int.mul_le_mul_of_nonneg_right (by omega) (by omega)
    omega
/-- Rounds beyond the most there may be: no age's time. -/
theorem has_far {s L : Int} {t : Tm} (hs : 1 ≤ s) (hL : 1 ≤ L) (h : 1099511627776 / (s * L) < t.r) : hasB s L t = false := by
  have hR := mul_pos hs hL
  simp only [hasB, decide_eq_false_iff_not]
  rintro ⟨⟨hk, hk'⟩, ⟨hp, hp'⟩, hr, ha⟩
  have h0 := short hL hk hk' hp hp'
  rw [age_form] at ha
  have h1 : (1099511627776 / (s * L) + 1) * (s * L) ≤ t.r * (s * L) := Int.mul_le_mul_of_nonneg_right (by omega) (by omega)
  have h2 := Int.mul_ediv_add_emod 1099511627776 (s * L)
  have h3 := Int.emod_lt_of_pos 1099511627776 (show 0 < s * L by omega)
  rw [Int.add_mul, Int.mul_comm (1099511627776 / (s * L))] at h1
  omega
theorem has_near {s L : Int} {t : Tm} (hs : 1 ≤ s) (hL : 1 ≤ L) (h : t.r ≤ 1099511627776 / (s * L)) : t.r * (s * L) ≤ 1099511627776 := by
  have hR := mul_pos hs hL
  have h1 : t.r * (s * L) ≤ (1099511627776 / (s * L)) * (s * L) := Int.mul_le_mul_of_nonneg_right h (by omega)
  have h2 := Int.ediv_mul_le 1099511627776 (show s * L ≠ 0 by omega)
  omega
end Cl
end Go.Proofs.YtonddecdeeikgaaDoor
