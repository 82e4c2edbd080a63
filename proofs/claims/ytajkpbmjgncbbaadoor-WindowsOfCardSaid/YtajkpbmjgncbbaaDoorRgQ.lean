/-
  What follows of a ring's mathematics: steps back, distances both ways, links' numbers, places. No condition; nothing of the program is named here.
-/
import Derived.Test.YtajkpbmjgncbbaaDoorRgP
namespace Go.Proofs.YtajkpbmjgncbbaaDoor
namespace Rg
open Go.RowKit

theorem mod_near (n y : Int) (h1 : -n ≤ y) (h2 : y < 2 * n) : (y % n = y ∧ 0 ≤ y ∧ y < n) ∨ (y % n = y + n ∧ y < 0) ∨ (y % n = y - n ∧ n ≤ y) := by
  rcases Int.lt_or_le y 0 with h | h
  · right; left
    refine ⟨?_, h⟩
    have e : y % n = (y + n) % n := by simp
    rw [e]
    exact Int.emod_eq_of_lt (by omega) (by omega)
  · rcases Int.lt_or_le y n with k | k
    · left; exact ⟨Int.emod_eq_of_lt h k, h, k⟩
    · right; right
      refine ⟨?_, k⟩
      have e : y % n = (y - n) % n := by simp
      rw [e]
      exact Int.emod_eq_of_lt (by omega) (by omega)
theorem sg0 (s : Int) : sg 0 s = s := rfl
theorem sg1 (s : Int) : sg 1 s = -s := rfl

theorem node0 (n d a : Int) (h : 0 ≤ a ∧ a < n) : nodeAt n d a 0 = a := by
  rw [nodeAt, show sg d ((0 : Nat) : Int) = 0 by unfold sg; split <;> rfl, Int.add_zero, Int.emod_eq_of_lt h.1 h.2]

/-- Steps back. -/
theorem step_back {n d x : Int} (s : Int) (h : 4 ≤ n ∧ n ≤ 16 ∧ d < 2 ∧ 0 ≤ x ∧ x < n) : stepM n d (stepM n d x s) (-s) = x := by
  have hb := step_in s h
  rw [step_of (-s) ⟨h.1, h.2.1, h.2.2.1, hb.1, hb.2⟩, step_of s h, sg_neg, Int.emod_add_emod, show x + sg d s + -sg d s = x by omega]
  exact Int.emod_eq_of_lt (by omega) (by omega)
theorem round1 {n x : Int} (s : Int) (h : 4 ≤ n ∧ n ≤ 16 ∧ 0 ≤ x ∧ x < n) : stepM n 1 (stepM n 0 x s) s = x := by
  have hb := step_in (d := 0) s ⟨h.1, h.2.1, by omega, h.2.2.1, h.2.2.2⟩
  rw [step_of s ⟨h.1, h.2.1, by omega, hb.1, hb.2⟩, step_of s ⟨h.1, h.2.1, by omega, h.2.2.1, h.2.2.2⟩, sg0, sg1, Int.emod_add_emod, show x + s + -s = x by omega]
  exact Int.emod_eq_of_lt (by omega) (by omega)
theorem round2 {n x : Int} (s : Int) (h : 4 ≤ n ∧ n ≤ 16 ∧ 0 ≤ x ∧ x < n) : stepM n 1 x (-s) = stepM n 0 x s := by
  rw [step_of _ ⟨h.1, h.2.1, by omega, h.2.2.1, h.2.2.2⟩, step_of _ ⟨h.1, h.2.1, by omega, h.2.2.1, h.2.2.2⟩, sg0, sg1, Int.neg_neg]
theorem round3 {n x : Int} (s : Int) (h : 4 ≤ n ∧ n ≤ 16 ∧ 0 ≤ x ∧ x < n) : stepM n 0 x (s + n) = stepM n 0 x s := by
  rw [step_of _ ⟨h.1, h.2.1, by omega, h.2.2.1, h.2.2.2⟩, step_of _ ⟨h.1, h.2.1, by omega, h.2.2.1, h.2.2.2⟩, sg0, sg0, show x + (s + n) = x + s + n by omega]
  simp
theorem both {n a b : Int} (h : 4 ≤ n ∧ n ≤ 16 ∧ 0 ≤ a ∧ a < n ∧ 0 ≤ b ∧ b < n) :
    (a = b ∧ distM n 0 a b = 0 ∧ distM n 1 a b = 0) ∨ (a ≠ b ∧ distM n 0 a b ≠ 0 ∧ distM n 1 a b ≠ 0 ∧ distM n 0 a b + distM n 1 a b = n) := by
  rw [dist_of ⟨h.1, h.2.1, by omega, h.2.2⟩, dist_of ⟨h.1, h.2.1, by omega, h.2.2⟩, sg0, sg1]
  have e1 := mod_near n (b - a) (by omega) (by omega)
  have e2 := mod_near n (-(b - a)) (by omega) (by omega)
  omega
theorem dist_step {n d a b : Int} (h : 4 ≤ n ∧ n ≤ 16 ∧ d < 2 ∧ 0 ≤ a ∧ a < n ∧ 0 ≤ b ∧ b < n) : stepM n d a (distM n d a b) = b := by
  have hb := dist_in h
  have e := node_end h
  rw [nodeAt, show (((distM n d a b).toNat : Nat) : Int) = distM n d a b by omega] at e
  rw [step_of _ ⟨h.1, h.2.1, h.2.2.1, h.2.2.2.1, h.2.2.2.2.1⟩]
  exact e

/-- Links' numbers. -/
theorem nums_link {n k : Int} (h : 4 ≤ n ∧ n ≤ 16 ∧ 0 ≤ k ∧ k < 4 * n) : linkM n (k % 4 / 2) (k / 4) (k % 2 + 1) = k := by
  rw [linkM, ex1.2 (by omega), hop_iff.2 (by omega)]
  simp only [Bool.and_self, if_true]
  omega
theorem nums_source {n k : Int} (h : 4 ≤ n ∧ n ≤ 16 ∧ 0 ≤ k ∧ k < 4 * n) : sourceM n (k % 4 / 2) (stepM n (k % 4 / 2) (k / 4) (k % 2 + 1)) (k % 2 + 1) = k / 4 := by
  rw [sourceM, if_pos (hop_iff.2 (by omega))]
  exact step_back _ (by omega)
theorem nums_apart {n k : Int} (h : 4 ≤ n ∧ n ≤ 16 ∧ 0 ≤ k ∧ k < 4 * n) : k / 4 ≠ stepM n (k % 4 / 2) (k / 4) (k % 2 + 1) := by
  rw [step_of _ (by omega)]
  have hs := sg_bd (k % 4 / 2) (k % 2 + 1)
  have e := mod_near n (k / 4 + sg (k % 4 / 2) (k % 2 + 1)) (by omega) (by omega)
  omega
theorem link_no1 (n : Int) : linkM n 0 n 1 = -1 := by
  have e : exB n 0 [n] = false := bfalse (fun h => by have := ex1.1 h; omega)
  rw [linkM, e]; rfl
theorem link_no2 (n : Int) : linkM n 0 0 3 = -1 := by
  rw [linkM, show hopB 3 = false by decide, Bool.and_false]; rfl
theorem end_no (n : Int) : endB n (4 * n) = false := bfalse (fun h => by have := end_iff.1 h; omega)

/-- Places. -/
theorem place_of {n d f x : Int} (h : 4 ≤ n ∧ n ≤ 16 ∧ 0 ≤ d ∧ d < 2 ∧ 0 ≤ f ∧ f < n ∧ 0 ≤ x ∧ x < n) : placeM n d f x = (sg d (x - f) + d) % n := by
  have hb := step_in (n := n) (d := 0) (x := f) d ⟨h.1, h.2.1, by omega, by omega, by omega⟩
  rw [placeM, if_pos (ex2.2 (by omega)), dist_of (by omega), step_of _ (by omega), sg0]
  have hd : d = 0 ∨ d = 1 := by omega
  have e1 := mod_near n (f + d) (by omega) (by omega)
  rcases hd with rfl | rfl
  · rw [sg0, sg0]
    have e2 := mod_near n (x - (f + 0) % n) (by omega) (by omega)
    have e3 := mod_near n (x - f + 0) (by omega) (by omega)
    omega
  · rw [sg1, sg1]
    have e2 := mod_near n (-(x - (f + 1) % n)) (by omega) (by omega)
    have e3 := mod_near n (-(x - f) + 1) (by omega) (by omega)
    omega
theorem place_in {n d f x : Int} (h : 4 ≤ n ∧ n ≤ 16 ∧ 0 ≤ d ∧ d < 2 ∧ 0 ≤ f ∧ f < n ∧ 0 ≤ x ∧ x < n) : 0 ≤ placeM n d f x ∧ placeM n d f x < n := by
  rw [place_of h]; exact mod_bd _ _ (by omega)
theorem place_inj {n d f x y : Int} (h : 4 ≤ n ∧ n ≤ 16 ∧ 0 ≤ d ∧ d < 2 ∧ 0 ≤ f ∧ f < n ∧ 0 ≤ x ∧ x < n) (hy : 0 ≤ y ∧ y < n) (e : placeM n d f x = placeM n d f y) : x = y := by
  rw [place_of h, place_of (by omega)] at e
  have hd : d = 0 ∨ d = 1 := by omega
  rcases hd with rfl | rfl
  · simp only [sg0] at e
    have e2 := mod_near n (x - f + 0) (by omega) (by omega)
    have e3 := mod_near n (y - f + 0) (by omega) (by omega)
    omega
  · simp only [sg1] at e
    have e2 := mod_near n (-(x - f) + 1) (by omega) (by omega)
    have e3 := mod_near n (-(y - f) + 1) (by omega) (by omega)
    omega
theorem place_back {n d f x t : Int} (h : 4 ≤ n ∧ n ≤ 16 ∧ 0 ≤ d ∧ d < 2 ∧ 0 ≤ f ∧ f < n ∧ 0 ≤ x ∧ x < n) (ht : t = 1 ∨ t = 2) (hp : t ≤ placeM n d f x) :
    placeM n d f (sourceM n d x t) = placeM n d f x - t := by
  have hh := hop_iff.2 ht
  have hb := step_in (n := n) (d := d) (x := x) (-t) (by omega)
  rw [sourceM, if_pos hh, place_of (x := stepM n d x (-t)) (by omega), step_of _ (by omega), place_of h] at *
  have hd : d = 0 ∨ d = 1 := by omega
  rcases hd with rfl | rfl
  · simp only [sg0] at *
    have e1 := mod_near n (x + -t) (by omega) (by omega)
    have e2 := mod_near n ((x + -t) % n - f + 0) (by omega) (by omega)
    have e3 := mod_near n (x - f + 0) (by omega) (by omega)
    omega
  · simp only [sg1] at *
    have e1 := mod_near n (x + - -t) (by omega) (by omega)
    have e2 := mod_near n (-((x + - -t) % n - f) + 1) (by omega) (by omega)
    have e3 := mod_near n (-(x - f) + 1) (by omega) (by omega)
    omega
theorem place_halves {n f g : Int} (h : 4 ≤ n ∧ n ≤ 16 ∧ 0 ≤ f ∧ f < n) (hg : g = (f + 1) % n) :
    placeM n 0 f f = 0 ∧ placeM n 0 f g = 1 ∧ placeM n 1 f g = 0 ∧ placeM n 1 f f = 1 := by
  have e1 := mod_near n (f + 1) (by omega) (by omega)
  have hb := mod_bd (f + 1) n (by omega)
  rw [← hg] at e1 hb
  rw [place_of (by omega), place_of (by omega), place_of (by omega), place_of (by omega)]
  simp only [sg0, sg1]
  have a1 := mod_near n (f - f + 0) (by omega) (by omega)
  have a2 := mod_near n (g - f + 0) (by omega) (by omega)
  have a3 := mod_near n (-(g - f) + 1) (by omega) (by omega)
  have a4 := mod_near n (-(f - f) + 1) (by omega) (by omega)
  omega
end Rg
end Go.Proofs.YtajkpbmjgncbbaaDoor

