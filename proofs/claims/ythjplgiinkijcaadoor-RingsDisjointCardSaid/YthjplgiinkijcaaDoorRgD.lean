/-
  The mathematics of disjoint paths: which nodes are marked while the paths from a node to another one are gone through, one by one; that a node to come is not among them; how many paths there are. No condition; nothing of the program is named here.
-/
import Derived.Test.YthjplgiinkijcaaDoorRgQ
namespace Go.Proofs.YthjplgiinkijcaaDoor
namespace Rg
open Go.RowKit

/-- The distances of a path's nodes, by their places. -/
theorem posL_eq : ∀ k : Nat, posL k = (List.range ((k + 1) / 2)).map (fun i => 2 * i + 2 - k % 2)
  | 0 => rfl
  | 1 => rfl
  | (k + 2) => by
    rw [posL, posL_eq k, show (k + 2 + 1) / 2 = (k + 1) / 2 + 1 by omega, List.range_succ, List.map_append, show (k + 2) % 2 = k % 2 by omega]
    simp
    omega
theorem pathL_at (n d a b h : Int) (i : Nat) (hi : i < (pathL n d a b h).length) :
    (pathL n d a b h).getD i 0 = nodeAt n d a (2 * i + 2 - (distM n d a b - h).toNat % 2) := by
  rw [pathL_len] at hi
  rw [pathL, posL_eq]
  simp [List.getD, hi]

/-- Which nodes are marked: both ends; those of the paths that were gone through; those of this one, up to a distance. -/
def Marked (m a b d h : Int) (A : Nat) (x : Int) : Prop :=
  x = a ∨ x = b ∨ ∃ (d' h' : Int) (q : Nat), 0 ≤ d' ∧ d' < 2 ∧ 1 ≤ h' ∧ h' ≤ 2 ∧ (d' < d ∨ (d' = d ∧ h' < h) ∨ (d' = d ∧ h' = h ∧ q ≤ A)) ∧
    1 ≤ q ∧ (q : Int) ≤ distM m d' a b - h' ∧ (q : Int) % 2 = (distM m d' a b - h') % 2 ∧ x = nodeAt m d' a q
theorem marked_next {m a b d h x : Int} {A : Nat} (hx : Marked m a b d h A x) : Marked m a b d (h + 1) 0 x := by
  rcases hx with h1 | h1 | ⟨d', h', q, c1, c2, c3, c4, c5, c6⟩
  · exact .inl h1
  · exact .inr (.inl h1)
  · exact .inr (.inr ⟨d', h', q, c1, c2, c3, c4, by omega, c6⟩)
theorem marked_way {m a b d h x : Int} {A : Nat} (hx : Marked m a b d h A x) : Marked m a b (d + 1) 1 0 x := by
  rcases hx with h1 | h1 | ⟨d', h', q, c1, c2, c3, c4, c5, c6⟩
  · exact .inl h1
  · exact .inr (.inl h1)
  · exact .inr (.inr ⟨d', h', q, c1, c2, c3, c4, by omega, c6⟩)
theorem marked_more {m a b d h x : Int} {A B : Nat} (hAB : A ≤ B) (hx : Marked m a b d h A x) : Marked m a b d h B x := by
  rcases hx with h1 | h1 | ⟨d', h', q, c1, c2, c3, c4, c5, c6⟩
  · exact .inl h1
  · exact .inr (.inl h1)
  · exact .inr (.inr ⟨d', h', q, c1, c2, c3, c4, by omega, c6⟩)
theorem marked_self {m a b d h : Int} {q : Nat} (hd : 0 ≤ d ∧ d < 2) (hh : 1 ≤ h ∧ h ≤ 2) (c6 : 1 ≤ q ∧ (q : Int) ≤ distM m d a b - h ∧ (q : Int) % 2 = (distM m d a b - h) % 2) : Marked m a b d h q (nodeAt m d a q) :=
  .inr (.inr ⟨d, h, q, hd.1, hd.2, hh.1, hh.2, by omega, c6.1, c6.2.1, c6.2.2, rfl⟩)
/-- A node to come is not marked. -/
theorem marked_not {m a b d h : Int} {A q : Nat} (hm : 4 ≤ m ∧ m ≤ 16 ∧ 0 ≤ a ∧ a < m ∧ 0 ≤ b ∧ b < m) (hd : 0 ≤ d ∧ d < 2) (hh : 1 ≤ h ∧ h ≤ 2) (hq : A < q)
    (c6 : 1 ≤ q ∧ (q : Int) ≤ distM m d a b - h ∧ (q : Int) % 2 = (distM m d a b - h) % 2) : ¬ Marked m a b d h A (nodeAt m d a q) := by
  have hD := dist_in (n := m) (d := d) (a := a) (b := b) (by omega)
  have e := node_dist m d a q (by omega) (by omega)
  have hX := nodeAt_in m d a q (by omega)
  rintro (h1 | h1 | ⟨d', h', q', c1, c2, c3, c4, c5, g1, g2, g3, g4⟩)
  · rw [h1, dist_of (by omega)] at e
    have : sg d (a - a) = 0 := by rw [show a - a = 0 by omega]; unfold sg; split <;> rfl
    rw [this] at e
    simp at e
    omega
  · rw [h1] at e
    omega
  · have hD' := dist_in (n := m) (d := d') (a := a) (b := b) (by omega)
    have e' := node_dist m d' a q' (by omega) (by omega)
    rw [← g4] at e'
    by_cases hdd : d' = d
    · subst hdd
      omega
    · have h0 : d' = 0 ∧ d = 1 := by omega
      obtain ⟨rfl, rfl⟩ := h0
      have hb1 := both (n := m) (a := a) (b := nodeAt m 1 a q) (by omega)
      have hb2 := both (n := m) (a := a) (b := b) (by omega)
      omega
/-- A distance between two of its nodes. -/
theorem node_gap (n d a : Int) (p s : Nat) (hn : 4 ≤ n ∧ n ≤ 16 ∧ d < 2) (hs : (s : Int) < n) : distM n d (nodeAt n d a p) (nodeAt n d a (p + s)) = s := by
  have h1 := nodeAt_in n d a p (by omega)
  have h2 := nodeAt_in n d a (p + s) (by omega)
  rw [dist_of (by omega), nodeAt, nodeAt]
  obtain ⟨k, e⟩ := emod_cong (a + sg d ((p + s : Nat) : Int)) n
  obtain ⟨k', e'⟩ := emod_cong (a + sg d (p : Int)) n
  rw [e, e', show ((p + s : Nat) : Int) = (p : Int) + s by omega, sg_add, show a + (sg d (p : Int) + sg d (s : Int)) + n * k - (a + sg d (p : Int) + n * k') = sg d (s : Int) + n * (k - k') by rw [Int.mul_sub]; omega, sg_add, sg_sg, sg_mul, Int.add_mul_emod_self_left, Int.emod_eq_of_lt (by omega) hs]
/-- The source of the end is where a path was last. -/
theorem source_end {m d a b h : Int} (hm : 4 ≤ m ∧ m ≤ 16 ∧ d < 2 ∧ 0 ≤ a ∧ a < m ∧ 0 ≤ b ∧ b < m) (hp : pathB m d a b h = true) : sourceM m d b h = nodeAt m d a (distM m d a b - h).toNat := by
  have hx := path_iff.1 hp
  have hD := dist_in hm
  have e := node_back m d a (distM m d a b).toNat h.toNat (by omega) (by omega)
  rw [node_end hm, show ((h.toNat : Nat) : Int) = h by omega, show (distM m d a b).toNat - h.toNat = (distM m d a b - h).toNat by omega] at e
  rw [sourceM, if_pos (hop_iff.2 hx.1), e]

/-- How many paths were gone through. -/
def two (D : Int) : Int := if 2 ≤ D then 1 else 0
def cnt1 (D h : Int) : Int := if h = 1 then 0 else if h = 2 then 1 else 1 + two D
def cnt (D E d h : Int) : Int := if d = 0 then cnt1 D h else if d = 1 then 1 + two D + cnt1 E h else 1 + two D + (1 + two E)
theorem cnt_bd (D E d h : Int) : 0 ≤ cnt D E d h ∧ cnt D E d h ≤ 4 := by
  unfold cnt cnt1 two
  repeat (first | split | omega)
theorem cnt_yes {m a b d h : Int} (hd : d = 0 ∨ d = 1) (hh : h = 1 ∨ h = 2) (hp : pathB m d a b h = true) :
    cnt (distM m 0 a b) (distM m 1 a b) d h + 1 = cnt (distM m 0 a b) (distM m 1 a b) d (h + 1) := by
  have hx := (path_iff.1 hp).2
  rcases hd with rfl | rfl <;> rcases hh with rfl | rfl <;> simp [cnt, cnt1, two]
  · omega
  · omega
theorem cnt_no {m a b d h : Int} (hm : 4 ≤ m ∧ m ≤ 16 ∧ 0 ≤ a ∧ a < m ∧ 0 ≤ b ∧ b < m) (hab : a ≠ b) (hd : d = 0 ∨ d = 1) (hh : h = 1 ∨ h = 2) (hp : pathB m d a b h = false) :
    cnt (distM m 0 a b) (distM m 1 a b) d h = cnt (distM m 0 a b) (distM m 1 a b) d (h + 1) := by
  have hx : ¬ h ≤ distM m d a b := fun q => by rw [path_iff.2 ⟨hh, q⟩] at hp; cases hp
  have hb := both hm
  have h0 := dist_in (n := m) (d := 0) (a := a) (b := b) (by omega)
  have h1 := dist_in (n := m) (d := 1) (a := a) (b := b) (by omega)
  rcases hd with rfl | rfl <;> rcases hh with rfl | rfl <;> simp [cnt, cnt1, two] <;> omega
theorem cnt_way {D E d : Int} (hd : d = 0 ∨ d = 1) : cnt D E d 3 = cnt D E (d + 1) 1 := by
  rcases hd with rfl | rfl <;> simp [cnt, cnt1]
theorem cnt_all {m a b : Int} (hm : 4 ≤ m ∧ m ≤ 16 ∧ 0 ≤ a ∧ a < m ∧ 0 ≤ b ∧ b < m) (hab : a ≠ b) :
    ((distM m 0 a b = 1 ∨ distM m 1 a b = 1) ∧ cnt (distM m 0 a b) (distM m 1 a b) 2 1 = 3) ∨ (distM m 0 a b ≠ 1 ∧ distM m 1 a b ≠ 1 ∧ cnt (distM m 0 a b) (distM m 1 a b) 2 1 = 4) := by
  have hb := both hm
  have h0 := dist_in (n := m) (d := 0) (a := a) (b := b) (by omega)
  have h1 := dist_in (n := m) (d := 1) (a := a) (b := b) (by omega)
  unfold cnt two
  simp only [show ((2 : Int) = 0) = False by simp, show ((2 : Int) = 1) = False by simp, if_false]
  split <;> split <;> omega
theorem path_same {m d a h : Int} (hh : h = 1 ∨ h = 2) : pathB m d a a h = false := by
  refine bfalse (fun hp => ?_)
  have hx := (path_iff.1 hp).2
  have he := ex2.1 (path_ex hp)
  rw [dist_of he] at hx
  have : sg d (a - a) = 0 := by rw [show a - a = 0 by omega]; unfold sg; split <;> rfl
  rw [this] at hx
  simp at hx
  omega
end Rg
end Go.Proofs.YthjplgiinkijcaaDoor
