/-
  What follows of a ring's mathematics: steps back, distances both ways, links' numbers, places. No condition; nothing of the program is named here.
-/
import Derived.Test.YtbfgdphfeifglaaDoorKinds
namespace Go.Proofs.YtbfgdphfeifglaaDoor
namespace Rg
open Go.RowKit

/-- Is there such a ring, and direction? -/
def isB (n d : Int) : Bool := decide (4 ≤ n ∧ n ≤ 16 ∧ d < 2)
/-- .. and are all of these its nodes? -/
def exB (n d : Int) (l : List Int) : Bool := isB n d && l.all (fun x => decide (0 ≤ x ∧ x < n))
/-- Steps in a direction, as a number that is added. -/
def sg (d s : Int) : Int := if d = 0 then s else -s
def stepM (n d x s : Int) : Int := if exB n d [x] = true then (x + sg d s) % n else -1
def distM (n d a b : Int) : Int := if exB n d [a, b] = true then sg d (b - a) % n else -1
def hopB (h : Int) : Bool := decide (h = 1 ∨ h = 2)
def sourceM (n d x h : Int) : Int := if hopB h = true then stepM n d x (-h) else -1
def linkM (n d x h : Int) : Int := if (exB n d [x] && hopB h) = true then 4 * x + 2 * d + h - 1 else -1
/-- Is there such a link? -/
def endB (n l : Int) : Bool := decide (4 ≤ n ∧ n ≤ 16 ∧ 0 ≤ l ∧ l < 4 * n)
def endFrom (n l : Int) : Int := if endB n l = true then l / 4 else -1
def endDir (n l : Int) : Int := if endB n l = true then l % 4 / 2 else 0
def endHop (n l : Int) : Int := if endB n l = true then l % 2 + 1 else 0
def endTo (n l : Int) : Int := if endB n l = true then stepM n (l % 4 / 2) (l / 4) (l % 2 + 1) else -1
def placeM (n d f x : Int) : Int := if exB n d [f, x] = true then distM n d (stepM n 0 f d) x else -1

theorem isB_iff {n d : Int} : isB n d = true ↔ 4 ≤ n ∧ n ≤ 16 ∧ d < 2 := by simp [isB]
theorem isB_not {n d : Int} (h : ¬ (4 ≤ n ∧ n ≤ 16 ∧ d < 2)) : isB n d = false := by simpa [isB] using h
theorem ex1 {n d x : Int} : exB n d [x] = true ↔ 4 ≤ n ∧ n ≤ 16 ∧ d < 2 ∧ 0 ≤ x ∧ x < n := by
  simp [exB, isB]; omega
theorem ex2 {n d x y : Int} : exB n d [x, y] = true ↔ 4 ≤ n ∧ n ≤ 16 ∧ d < 2 ∧ 0 ≤ x ∧ x < n ∧ 0 ≤ y ∧ y < n := by
  simp [exB, isB]; omega
theorem hop_iff {h : Int} : hopB h = true ↔ h = 1 ∨ h = 2 := by simp [hopB]
theorem end_iff {n l : Int} : endB n l = true ↔ 4 ≤ n ∧ n ≤ 16 ∧ 0 ≤ l ∧ l < 4 * n := by simp [endB]
theorem bfalse {b : Bool} (h : ¬ b = true) : b = false := by simpa using h

theorem step_of {n d x : Int} (s : Int) (h : 4 ≤ n ∧ n ≤ 16 ∧ d < 2 ∧ 0 ≤ x ∧ x < n) : stepM n d x s = (x + sg d s) % n := by rw [stepM, if_pos (ex1.2 h)]
theorem step_no {n d x : Int} (s : Int) (h : exB n d [x] = false) : stepM n d x s = -1 := by rw [stepM, if_neg (by simp [h])]
theorem dist_of {n d a b : Int} (h : 4 ≤ n ∧ n ≤ 16 ∧ d < 2 ∧ 0 ≤ a ∧ a < n ∧ 0 ≤ b ∧ b < n) : distM n d a b = sg d (b - a) % n := by rw [distM, if_pos (ex2.2 h)]
theorem dist_no {n d a b : Int} (h : exB n d [a, b] = false) : distM n d a b = -1 := by rw [distM, if_neg (by simp [h])]
theorem mod_bd (x n : Int) (h : 0 < n) : 0 ≤ x % n ∧ x % n < n := ⟨Int.emod_nonneg _ (by omega), Int.emod_lt_of_pos _ h⟩
theorem step_bd (n d x s : Int) : -1 ≤ stepM n d x s ∧ stepM n d x s ≤ 15 := by
  unfold stepM
  split
  · rename_i h
    have := ex1.1 h
    have := mod_bd (x + sg d s) n (by omega)
    omega
  · omega
theorem step_in {n d x : Int} (s : Int) (h : 4 ≤ n ∧ n ≤ 16 ∧ d < 2 ∧ 0 ≤ x ∧ x < n) : 0 ≤ stepM n d x s ∧ stepM n d x s < n := by
  rw [step_of s h]; exact mod_bd _ _ (by omega)
theorem dist_bd (n d a b : Int) : -1 ≤ distM n d a b ∧ distM n d a b ≤ 15 := by
  unfold distM
  split
  · rename_i h
    have := ex2.1 h
    have := mod_bd (sg d (b - a)) n (by omega)
    omega
  · omega
theorem dist_in {n d a b : Int} (h : 4 ≤ n ∧ n ≤ 16 ∧ d < 2 ∧ 0 ≤ a ∧ a < n ∧ 0 ≤ b ∧ b < n) : 0 ≤ distM n d a b ∧ distM n d a b < n := by
  rw [dist_of h]; exact mod_bd _ _ (by omega)

/-- The language's remainder, made one that is not below 0. -/
theorem round_eq (n x : Int) (h : 0 < n) : (x.tmod n + n).tmod n = x % n := by
  have hb := mod_bd x n h
  have e : x.tmod n = x % n ∨ x.tmod n = x % n - n := by
    rw [Int.tmod_eq_emod]
    split
    · left; omega
    · right; omega
  rcases e with e | e <;> rw [e]
  · rw [Int.tmod_eq_emod_of_nonneg (by omega)]; simp
  · rw [show x % n - n + n = x % n by omega, Int.tmod_eq_emod_of_nonneg (by omega)]; simp
theorem tmod_bd (x n : Int) (h : 0 < n) : -n < x.tmod n ∧ x.tmod n < n := by
  have hb := mod_bd x n h
  rw [Int.tmod_eq_emod]
  split <;> omega
/-- Whole rounds make no difference. -/
theorem tmod_cong (x n : Int) : ∃ k : Int, x.tmod n = x + n * k := by
  refine ⟨-(x.tdiv n), ?_⟩
  rw [Int.tmod_def, Int.mul_neg]; omega
theorem add_tmod (n y x : Int) : (y + x.tmod n) % n = (y + x) % n := by
  obtain ⟨k, e⟩ := tmod_cong x n
  rw [e, show y + (x + n * k) = (y + x) + n * k by omega, Int.add_mul_emod_self_left]
theorem sub_tmod (n y x : Int) : (y + -1 * x.tmod n) % n = (y + -x) % n := by
  obtain ⟨k, e⟩ := tmod_cong x n
  rw [e, show y + -1 * (x + n * k) = (y + -x) + n * (-k) by rw [Int.mul_neg]; omega, Int.add_mul_emod_self_left]
end Rg
end Go.Proofs.YtbfgdphfeifglaaDoor

namespace Go.Proofs.YtbfgdphfeifglaaDoor
namespace Rg
open Go.RowKit

/-- The distances of a path's nodes, ahead of the last hop m steps from the beginning. -/
def posL : Nat → List Nat
  | 0 => []
  | 1 => [1]
  | (k + 2) => posL k ++ [k + 2]
def nodeAt (n d a : Int) (q : Nat) : Int := (a + sg d q) % n
/-- Is there such a path? -/
def pathB (n d a b h : Int) : Bool := hopB h && decide (h ≤ distM n d a b)
def pathL (n d a b h : Int) : List Int := (posL (distM n d a b - h).toNat).map (nodeAt n d a)

theorem posL_len : ∀ m : Nat, (posL m).length = (m + 1) / 2
  | 0 => rfl
  | 1 => rfl
  | (k + 2) => by rw [posL, List.length_append, posL_len k]; simp; omega
theorem pathL_len (n d a b h : Int) : (pathL n d a b h).length = ((distM n d a b - h).toNat + 1) / 2 := by
  rw [pathL, List.length_map, posL_len]
theorem path_iff {n d a b h : Int} : pathB n d a b h = true ↔ (h = 1 ∨ h = 2) ∧ h ≤ distM n d a b := by
  simp [pathB, hopB]
/-- A path leads between nodes that there are. -/
theorem path_ex {n d a b h : Int} (hp : pathB n d a b h = true) : exB n d [a, b] = true := by
  have := path_iff.1 hp
  by_cases hx : exB n d [a, b] = true
  · exact hx
  · have := dist_no (bfalse hx)
    omega
theorem sg_add (d s t : Int) : sg d (s + t) = sg d s + sg d t := by unfold sg; split <;> omega
theorem sg_sub (d s t : Int) : sg d (s - t) = sg d s - sg d t := by unfold sg; split <;> omega
theorem sg_neg (d s : Int) : sg d (-s) = -sg d s := by unfold sg; split <;> omega
theorem sg_sg (d s : Int) : sg d (sg d s) = s := by unfold sg; split <;> omega
theorem sg_bd (d s : Int) : sg d s = s ∨ sg d s = -s := by unfold sg; split <;> simp
theorem sg_mul (d n k : Int) : sg d (n * k) = n * sg d k := by
  unfold sg; split
  · rfl
  · rw [Int.mul_neg]
/-- Of a number's remainder no more is lost than whole rounds. -/
theorem emod_cong (x n : Int) : ∃ k : Int, x % n = x + n * k := by
  refine ⟨-(x / n), ?_⟩
  rw [Int.emod_def, Int.mul_neg]; omega
theorem cong_emod {x y n : Int} (h : ∃ k : Int, x = y + n * k) : x % n = y % n := by
  obtain ⟨k, rfl⟩ := h
  rw [Int.add_mul_emod_self_left]
/-- A node so many steps from the beginning, some steps back. -/
theorem node_back (n d a : Int) (q t : Nat) (h : t ≤ q) (hn : 4 ≤ n ∧ n ≤ 16 ∧ d < 2) : stepM n d (nodeAt n d a q) (-(t : Int)) = nodeAt n d a (q - t) := by
  have hb : 0 ≤ nodeAt n d a q ∧ nodeAt n d a q < n := mod_bd (a + sg d q) n (by omega)
  rw [step_of _ ⟨hn.1, hn.2.1, hn.2.2, hb.1, hb.2⟩, nodeAt, nodeAt]
  obtain ⟨k, e⟩ := emod_cong (a + sg d q) n
  apply cong_emod
  refine ⟨k, ?_⟩
  rw [e, show ((q - t : Nat) : Int) = (q : Int) - t by omega, sg_sub, sg_neg]
  omega
/-- The end is as far as its distance says. -/
theorem node_end {n d a b : Int} (h : 4 ≤ n ∧ n ≤ 16 ∧ d < 2 ∧ 0 ≤ a ∧ a < n ∧ 0 ≤ b ∧ b < n) : nodeAt n d a (distM n d a b).toNat = b := by
  have hb := dist_in h
  rw [nodeAt, show (((distM n d a b).toNat : Nat) : Int) = distM n d a b by omega, dist_of h]
  obtain ⟨k, e⟩ := emod_cong (sg d (b - a)) n
  rw [e, sg_add, sg_sg, sg_mul, show a + (b - a + n * sg d k) = b + n * sg d k by omega, Int.add_mul_emod_self_left, Int.emod_eq_of_lt (by omega) (by omega)]
theorem nodeAt_in (n d a : Int) (q : Nat) (h : 0 < n) : 0 ≤ nodeAt n d a q ∧ nodeAt n d a q < n := mod_bd _ _ h
theorem node_dist (n d a : Int) (q : Nat) (hn : 4 ≤ n ∧ n ≤ 16 ∧ d < 2 ∧ 0 ≤ a ∧ a < n) (hq : (q : Int) < n) : distM n d a (nodeAt n d a q) = q := by
  have hb := nodeAt_in n d a q (by omega)
  rw [dist_of ⟨hn.1, hn.2.1, hn.2.2.1, hn.2.2.2.1, hn.2.2.2.2, hb.1, hb.2⟩, nodeAt]
  obtain ⟨k, e⟩ := emod_cong (a + sg d q) n
  rw [e, show a + sg d q + n * k - a = sg d q + n * k by omega, sg_add, sg_sg, sg_mul, Int.add_mul_emod_self_left, Int.emod_eq_of_lt (by omega) hq]
end Rg
end Go.Proofs.YtbfgdphfeifglaaDoor

namespace Go.Proofs.YtbfgdphfeifglaaDoor
namespace Rg
open Go.RowKit

theorem mod_near (n y : Int) (h1 : -n ≤ y) (h2 : y < 2 * n) : (y % n = y ∧ 0 ≤ y ∧ y < n) ∨ (y % n = y + n ∧ y < 0) ∨ (y % n = y - n ∧ n ≤ y) := by
  rcases Int.lt_or_le y 0 with h | h
  · right; left
    refine ⟨?_, h⟩
    have e : y % n = (y + n) % n := by simp
    rw [e]
    exact Int.emod_eq_of_lt (by omega) (by omega)
  · rcases Int.lt_or_le y n with k | k
    · left; exact ⟨Int.emod_eq_of_lt h k, h, k⟩
    · right; right
      refine ⟨?_, k⟩
      have e : y % n = (y - n) % n := by simp
      rw [e]
      exact Int.emod_eq_of_lt (by omega) (by omega)
theorem sg0 (s : Int) : sg 0 s = s := rfl
theorem sg1 (s : Int) : sg 1 s = -s := rfl

theorem node0 (n d a : Int) (h : 0 ≤ a ∧ a < n) : nodeAt n d a 0 = a := by
  rw [nodeAt, show sg d ((0 : Nat) : Int) = 0 by unfold sg; split <;> rfl, Int.add_zero, Int.emod_eq_of_lt h.1 h.2]

/-- Steps back. -/
theorem step_back {n d x : Int} (s : Int) (h : 4 ≤ n ∧ n ≤ 16 ∧ d < 2 ∧ 0 ≤ x ∧ x < n) : stepM n d (stepM n d x s) (-s) = x := by
  have hb := step_in s h
  rw [step_of (-s) ⟨h.1, h.2.1, h.2.2.1, hb.1, hb.2⟩, step_of s h, sg_neg, Int.emod_add_emod, show x + sg d s + -sg d s = x by omega]
  exact Int.emod_eq_of_lt (by omega) (by omega)
theorem round1 {n x : Int} (s : Int) (h : 4 ≤ n ∧ n ≤ 16 ∧ 0 ≤ x ∧ x < n) : stepM n 1 (stepM n 0 x s) s = x := by
  have hb := step_in (d := 0) s ⟨h.1, h.2.1, by omega, h.2.2.1, h.2.2.2⟩
  rw [step_of s ⟨h.1, h.2.1, by omega, hb.1, hb.2⟩, step_of s ⟨h.1, h.2.1, by omega, h.2.2.1, h.2.2.2⟩, sg0, sg1, Int.emod_add_emod, show x + s + -s = x by omega]
  exact Int.emod_eq_of_lt (by omega) (by omega)
theorem round2 {n x : Int} (s : Int) (h : 4 ≤ n ∧ n ≤ 16 ∧ 0 ≤ x ∧ x < n) : stepM n 1 x (-s) = stepM n 0 x s := by
  rw [step_of _ ⟨h.1, h.2.1, by omega, h.2.2.1, h.2.2.2⟩, step_of _ ⟨h.1, h.2.1, by omega, h.2.2.1, h.2.2.2⟩, sg0, sg1, Int.neg_neg]
theorem round3 {n x : Int} (s : Int) (h : 4 ≤ n ∧ n ≤ 16 ∧ 0 ≤ x ∧ x < n) : stepM n 0 x (s + n) = stepM n 0 x s := by
  rw [step_of _ ⟨h.1, h.2.1, by omega, h.2.2.1, h.2.2.2⟩, step_of _ ⟨h.1, h.2.1, by omega, h.2.2.1, h.2.2.2⟩, sg0, sg0, show x + (s + n) = x + s + n by omega]
  simp
theorem both {n a b : Int} (h : 4 ≤ n ∧ n ≤ 16 ∧ 0 ≤ a ∧ a < n ∧ 0 ≤ b ∧ b < n) :
    (a = b ∧ distM n 0 a b = 0 ∧ distM n 1 a b = 0) ∨ (a ≠ b ∧ distM n 0 a b ≠ 0 ∧ distM n 1 a b ≠ 0 ∧ distM n 0 a b + distM n 1 a b = n) := by
  rw [dist_of ⟨h.1, h.2.1, by omega, h.2.2⟩, dist_of ⟨h.1, h.2.1, by omega, h.2.2⟩, sg0, sg1]
  have e1 := mod_near n (b - a) (by omega) (by omega)
  have e2 := mod_near n (-(b - a)) (by omega) (by omega)
  omega
theorem dist_step {n d a b : Int} (h : 4 ≤ n ∧ n ≤ 16 ∧ d < 2 ∧ 0 ≤ a ∧ a < n ∧ 0 ≤ b ∧ b < n) : stepM n d a (distM n d a b) = b := by
  have hb := dist_in h
  have e := node_end h
  rw [nodeAt, show (((distM n d a b).toNat : Nat) : Int) = distM n d a b by omega] at e
  rw [step_of _ ⟨h.1, h.2.1, h.2.2.1, h.2.2.2.1, h.2.2.2.2.1⟩]
  exact e

/-- Links' numbers. -/
theorem nums_link {n k : Int} (h : 4 ≤ n ∧ n ≤ 16 ∧ 0 ≤ k ∧ k < 4 * n) : linkM n (k % 4 / 2) (k / 4) (k % 2 + 1) = k := by
  rw [linkM, ex1.2 (by omega), hop_iff.2 (by omega)]
  simp only [Bool.and_self, if_true]
  omega
theorem nums_source {n k : Int} (h : 4 ≤ n ∧ n ≤ 16 ∧ 0 ≤ k ∧ k < 4 * n) : sourceM n (k % 4 / 2) (stepM n (k % 4 / 2) (k / 4) (k % 2 + 1)) (k % 2 + 1) = k / 4 := by
  rw [sourceM, if_pos (hop_iff.2 (by omega))]
  exact step_back _ (by omega)
theorem nums_apart {n k : Int} (h : 4 ≤ n ∧ n ≤ 16 ∧ 0 ≤ k ∧ k < 4 * n) : k / 4 ≠ stepM n (k % 4 / 2) (k / 4) (k % 2 + 1) := by
  rw [step_of _ (by omega)]
  have hs := sg_bd (k % 4 / 2) (k % 2 + 1)
  have e := mod_near n (k / 4 + sg (k % 4 / 2) (k % 2 + 1)) (by omega) (by omega)
  omega
theorem link_no1 (n : Int) : linkM n 0 n 1 = -1 := by
  have e : exB n 0 [n] = false := bfalse (fun h => by have := ex1.1 h; omega)
  rw [linkM, e]; rfl
theorem link_no2 (n : Int) : linkM n 0 0 3 = -1 := by
  rw [linkM, show hopB 3 = false by decide, Bool.and_false]; rfl
theorem end_no (n : Int) : endB n (4 * n) = false := bfalse (fun h => by have := end_iff.1 h; omega)

/-- Places. -/
theorem place_of {n d f x : Int} (h : 4 ≤ n ∧ n ≤ 16 ∧ 0 ≤ d ∧ d < 2 ∧ 0 ≤ f ∧ f < n ∧ 0 ≤ x ∧ x < n) : placeM n d f x = (sg d (x - f) + d) % n := by
  have hb := step_in (n := n) (d := 0) (x := f) d ⟨h.1, h.2.1, by omega, by omega, by omega⟩
  rw [placeM, if_pos (ex2.2 (by omega)), dist_of (by omega), step_of _ (by omega), sg0]
  have hd : d = 0 ∨ d = 1 := by omega
  have e1 := mod_near n (f + d) (by omega) (by omega)
  rcases hd with rfl | rfl
  · rw [sg0, sg0]
    have e2 := mod_near n (x - (f + 0) % n) (by omega) (by omega)
    have e3 := mod_near n (x - f + 0) (by omega) (by omega)
    omega
  · rw [sg1, sg1]
    have e2 := mod_near n (-(x - (f + 1) % n)) (by omega) (by omega)
    have e3 := mod_near n (-(x - f) + 1) (by omega) (by omega)
    omega
theorem place_in {n d f x : Int} (h : 4 ≤ n ∧ n ≤ 16 ∧ 0 ≤ d ∧ d < 2 ∧ 0 ≤ f ∧ f < n ∧ 0 ≤ x ∧ x < n) : 0 ≤ placeM n d f x ∧ placeM n d f x < n := by
  rw [place_of h]; exact mod_bd _ _ (by omega)
theorem place_inj {n d f x y : Int} (h : 4 ≤ n ∧ n ≤ 16 ∧ 0 ≤ d ∧ d < 2 ∧ 0 ≤ f ∧ f < n ∧ 0 ≤ x ∧ x < n) (hy : 0 ≤ y ∧ y < n) (e : placeM n d f x = placeM n d f y) : x = y := by
  rw [place_of h, place_of (by omega)] at e
  have hd : d = 0 ∨ d = 1 := by omega
  rcases hd with rfl | rfl
  · simp only [sg0] at e
    have e2 := mod_near n (x - f + 0) (by omega) (by omega)
    have e3 := mod_near n (y - f + 0) (by omega) (by omega)
    omega
  · simp only [sg1] at e
    have e2 := mod_near n (-(x - f) + 1) (by omega) (by omega)
    have e3 := mod_near n (-(y - f) + 1) (by omega) (by omega)
    omega
theorem place_back {n d f x t : Int} (h : 4 ≤ n ∧ n ≤ 16 ∧ 0 ≤ d ∧ d < 2 ∧ 0 ≤ f ∧ f < n ∧ 0 ≤ x ∧ x < n) (ht : t = 1 ∨ t = 2) (hp : t ≤ placeM n d f x) :
    placeM n d f (sourceM n d x t) = placeM n d f x - t := by
  have hh := hop_iff.2 ht
  have hb := step_in (n := n) (d := d) (x := x) (-t) (by omega)
  rw [sourceM, if_pos hh, place_of (x := stepM n d x (-t)) (by omega), step_of _ (by omega), place_of h] at *
  have hd : d = 0 ∨ d = 1 := by omega
  rcases hd with rfl | rfl
  · simp only [sg0] at *
    have e1 := mod_near n (x + -t) (by omega) (by omega)
    have e2 := mod_near n ((x + -t) % n - f + 0) (by omega) (by omega)
    have e3 := mod_near n (x - f + 0) (by omega) (by omega)
    omega
  · simp only [sg1] at *
    have e1 := mod_near n (x + - -t) (by omega) (by omega)
    have e2 := mod_near n (-((x + - -t) % n - f) + 1) (by omega) (by omega)
    have e3 := mod_near n (-(x - f) + 1) (by omega) (by omega)
    omega
theorem place_halves {n f g : Int} (h : 4 ≤ n ∧ n ≤ 16 ∧ 0 ≤ f ∧ f < n) (hg : g = (f + 1) % n) :
    placeM n 0 f f = 0 ∧ placeM n 0 f g = 1 ∧ placeM n 1 f g = 0 ∧ placeM n 1 f f = 1 := by
  have e1 := mod_near n (f + 1) (by omega) (by omega)
  have hb := mod_bd (f + 1) n (by omega)
  rw [← hg] at e1 hb
  rw [place_of (by omega), place_of (by omega), place_of (by omega), place_of (by omega)]
  simp only [sg0, sg1]
  have a1 := mod_near n (f - f + 0) (by omega) (by omega)
  have a2 := mod_near n (g - f + 0) (by omega) (by omega)
  have a3 := mod_near n (-(g - f) + 1) (by omega) (by omega)
  have a4 := mod_near n (-(f - f) + 1) (by omega) (by omega)
  omega
end Rg
end Go.Proofs.YtbfgdphfeifglaaDoor

