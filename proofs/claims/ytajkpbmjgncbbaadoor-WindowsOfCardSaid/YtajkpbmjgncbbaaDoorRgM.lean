/-
  The mathematics of a ring: where steps lead, how far it is, links' numbers, places, track paths, as plain functions on integers. No condition; nothing of the program is named here.
-/
import Derived.Test.YtajkpbmjgncbbaaDoorLst
namespace Go.Proofs.YtajkpbmjgncbbaaDoor
namespace Rg
open Go.RowKit

/-- Is there such a ring, and direction? -/
def isB (n d : Int) : Bool := decide (4 ≤ n ∧ n ≤ 16 ∧ d < 2)
/-- .. and are all of these its nodes? -/
def exB (n d : Int) (l : List Int) : Bool := isB n d && l.all (fun x => decide (0 ≤ x ∧ x < n))
/-- Steps in a direction, as a number that is added. -/
def sg (d s : Int) : Int := if d = 0 then s else -s
def stepM (n d x s : Int) : Int := if exB n d [x] = true then (x + sg d s) % n else -1
def distM (n d a b : Int) : Int := if exB n d [a, b] = true then sg d (b - a) % n else -1
def hopB (h : Int) : Bool := decide (h = 1 ∨ h = 2)
def sourceM (n d x h : Int) : Int := if hopB h = true then stepM n d x (-h) else -1
def linkM (n d x h : Int) : Int := if (exB n d [x] && hopB h) = true then 4 * x + 2 * d + h - 1 else -1
/-- Is there such a link? -/
def endB (n l : Int) : Bool := decide (4 ≤ n ∧ n ≤ 16 ∧ 0 ≤ l ∧ l < 4 * n)
def endFrom (n l : Int) : Int := if endB n l = true then l / 4 else -1
def endDir (n l : Int) : Int := if endB n l = true then l % 4 / 2 else 0
def endHop (n l : Int) : Int := if endB n l = true then l % 2 + 1 else 0
def endTo (n l : Int) : Int := if endB n l = true then stepM n (l % 4 / 2) (l / 4) (l % 2 + 1) else -1
def placeM (n d f x : Int) : Int := if exB n d [f, x] = true then distM n d (stepM n 0 f d) x else -1

theorem isB_iff {n d : Int} : isB n d = true ↔ 4 ≤ n ∧ n ≤ 16 ∧ d < 2 := by simp [isB]
theorem isB_not {n d : Int} (h : ¬ (4 ≤ n ∧ n ≤ 16 ∧ d < 2)) : isB n d = false := by simpa [isB] using h
theorem ex1 {n d x : Int} : exB n d [x] = true ↔ 4 ≤ n ∧ n ≤ 16 ∧ d < 2 ∧ 0 ≤ x ∧ x < n := by
  simp [exB, isB]; omega
theorem ex2 {n d x y : Int} : exB n d [x, y] = true ↔ 4 ≤ n ∧ n ≤ 16 ∧ d < 2 ∧ 0 ≤ x ∧ x < n ∧ 0 ≤ y ∧ y < n := by
  simp [exB, isB]; omega
theorem hop_iff {h : Int} : hopB h = true ↔ h = 1 ∨ h = 2 := by simp [hopB]
theorem end_iff {n l : Int} : endB n l = true ↔ 4 ≤ n ∧ n ≤ 16 ∧ 0 ≤ l ∧ l < 4 * n := by simp [endB]
theorem bfalse {b : Bool} (h : ¬ b = true) : b = false := by simpa using h

theorem step_of {n d x : Int} (s : Int) (h : 4 ≤ n ∧ n ≤ 16 ∧ d < 2 ∧ 0 ≤ x ∧ x < n) : stepM n d x s = (x + sg d s) % n := by rw [stepM, if_pos (ex1.2 h)]
theorem step_no {n d x : Int} (s : Int) (h : exB n d [x] = false) : stepM n d x s = -1 := by rw [stepM, if_neg (by simp [h])]
theorem dist_of {n d a b : Int} (h : 4 ≤ n ∧ n ≤ 16 ∧ d < 2 ∧ 0 ≤ a ∧ a < n ∧ 0 ≤ b ∧ b < n) : distM n d a b = sg d (b - a) % n := by rw [distM, if_pos (ex2.2 h)]
theorem dist_no {n d a b : Int} (h : exB n d [a, b] = false) : distM n d a b = -1 := by rw [distM, if_neg (by simp [h])]
theorem mod_bd (x n : Int) (h : 0 < n) : 0 ≤ x % n ∧ x % n < n := ⟨Int.emod_nonneg _ (by omega), Int.emod_lt_of_pos _ h⟩
theorem step_bd (n d x s : Int) : -1 ≤ stepM n d x s ∧ stepM n d x s ≤ 15 := by
  unfold stepM
  split
  · rename_i h
    have := ex1.1 h
    have := mod_bd (x + sg d s) n (by omega)
    omega
  · omega
theorem step_in {n d x : Int} (s : Int) (h : 4 ≤ n ∧ n ≤ 16 ∧ d < 2 ∧ 0 ≤ x ∧ x < n) : 0 ≤ stepM n d x s ∧ stepM n d x s < n := by
  rw [step_of s h]; exact mod_bd _ _ (by omega)
theorem dist_bd (n d a b : Int) : -1 ≤ distM n d a b ∧ distM n d a b ≤ 15 := by
  unfold distM
  split
  · rename_i h
    have := ex2.1 h
    have := mod_bd (sg d (b - a)) n (by omega)
    omega
  · omega
theorem dist_in {n d a b : Int} (h : 4 ≤ n ∧ n ≤ 16 ∧ d < 2 ∧ 0 ≤ a ∧ a < n ∧ 0 ≤ b ∧ b < n) : 0 ≤ distM n d a b ∧ distM n d a b < n := by
  rw [dist_of h]; exact mod_bd _ _ (by omega)

/-- The language's remainder, made one that is not below 0. -/
theorem round_eq (n x : Int) (h : 0 < n) : (x.tmod n + n).tmod n = x % n := by
  have hb := mod_bd x n h
  have e : x.tmod n = x % n ∨ x.tmod n = x % n - n := by
    rw [Int.tmod_eq_emod]
    split
    · left; omega
    · right; omega
  rcases e with e | e <;> rw [e]
  · rw [Int.tmod_eq_emod_of_nonneg (by omega)]; simp
  · rw [show x % n - n + n = x % n by omega, Int.tmod_eq_emod_of_nonneg (by omega)]; simp
theorem tmod_bd (x n : Int) (h : 0 < n) : -n < x.tmod n ∧ x.tmod n < n := by
  have hb := mod_bd x n h
  rw [Int.tmod_eq_emod]
  split <;> omega
/-- Whole rounds make no difference. -/
theorem tmod_cong (x n : Int) : ∃ k : Int, x.tmod n = x + n * k := by
  refine ⟨-(x.tdiv n), ?_⟩
  rw [Int.tmod_def, Int.mul_neg]; omega
theorem add_tmod (n y x : Int) : (y + x.tmod n) % n = (y + x) % n := by
  obtain ⟨k, e⟩ := tmod_cong x n
  rw [e, show y + (x + n * k) = (y + x) + n * k by omega, Int.add_mul_emod_self_left]
theorem sub_tmod (n y x : Int) : (y + -1 * x.tmod n) % n = (y + -x) % n := by
  obtain ⟨k, e⟩ := tmod_cong x n
  rw [e, show y + -1 * (x + n * k) = (y + -x) + n * (-k) by rw [Int.mul_neg]; omega, Int.add_mul_emod_self_left]
end Rg
end Go.Proofs.YtajkpbmjgncbbaaDoor

