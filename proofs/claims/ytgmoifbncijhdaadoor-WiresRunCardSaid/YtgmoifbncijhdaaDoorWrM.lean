/-
  The mathematics of wires: what is here and next, tick by tick, of what all links were given in one tick; which link leads where. No condition but those that are named; nothing of the program is named here.
-/
import Derived.Test.YtgmoifbncijhdaaDoorWr5
import Derived.Test.YtgmoifbncijhdaaDoorRgQ
namespace Go.Proofs.YtgmoifbncijhdaaDoor
open Go.RowKit Rg
set_option linter.unusedVariables false

/-- What is here, what is next, and what is given, T ticks behind the one in which F was given. -/
def HT (F : Nat → Option Int) (T : Nat) : Nat → Option Int := fun i => if (T : Int) = hopN i then F i else none
def XT (F : Nat → Option Int) (T : Nat) : Nat → Option Int := fun i => if T = 1 ∧ hopN i = 2 then F i else none
def GT (F : Nat → Option Int) (T : Nat) : Nat → Option Int := fun i => if T = 0 then F i else none
theorem HT_zero (F : Nat → Option Int) : HT F 0 = noneW := by
  funext i
  have := hopN_ok i
  simp only [HT, noneW]; rw [if_neg (by omega)]
theorem XT_zero (F : Nat → Option Int) : XT F 0 = noneW := by
  funext i
  simp only [XT, noneW]; rw [if_neg (by omega)]
theorem GT_zero (F : Nat → Option Int) : GT F 0 = F := by
  funext i
  simp only [GT, if_true]
theorem GT_pos (F : Nat → Option Int) {T : Nat} (h : 0 < T) : GT F T = noneW := by
  funext i
  simp only [GT, noneW]; rw [if_neg (by omega)]
theorem now_T (F : Nat → Option Int) (T : Nat) : nowW (XT F T) (GT F T) = HT F (T + 1) := by
  funext i
  simp only [nowW, nowL, XT, GT, HT]
  rcases hopN_ok i with h | h
  · rw [if_pos h, h]
    by_cases e : T = 0
    · rw [if_pos e, if_pos (by omega)]
    · rw [if_neg e, if_neg (by omega)]
  · rw [if_neg (by omega), h]
    by_cases e : T = 1
    · rw [if_pos ⟨e, rfl⟩, if_pos (by omega)]
    · rw [if_neg (by omega), if_neg (by omega)]
theorem next_T (F : Nat → Option Int) (T : Nat) : nextW (XT F T) (GT F T) = XT F (T + 1) := by
  funext i
  simp only [nextW, nextL, XT, GT]
  rcases hopN_ok i with h | h
  · rw [if_pos h, h, if_neg (by omega), if_neg (by omega)]
  · rw [if_neg (by omega), h]
    by_cases e : T = 0
    · rw [if_pos e, if_pos (by omega)]
    · rw [if_neg e, if_neg (by omega)]
theorem now_none : nowW noneW noneW = noneW := by
  funext i
  simp only [nowW, nowL, noneW]; split <;> rfl
theorem next_none : nextW noneW noneW = noneW := by
  funext i
  simp only [nextW, nextL, noneW]; split <;> rfl
/-- The link that leads to a link's other end is that link. -/
theorem toLink_ends {n : Nat} {k : Nat} (h : 4 ≤ n ∧ n ≤ 16 ∧ k < 4 * n) : toLink n (endDir n k) (endTo n k) (endHop n k) = k := by
  have hk : 4 ≤ (n : Int) ∧ (n : Int) ≤ 16 ∧ 0 ≤ (k : Int) ∧ (k : Int) < 4 * n := by omega
  have e := end_iff.2 hk
  rw [toLink, endDir, endTo, endHop, if_pos e, if_pos e, if_pos e, nums_source hk, nums_link hk]
theorem here_ends {n : Nat} {k : Nat} (H : Nat → Option Int) (h : 4 ≤ n ∧ n ≤ 16 ∧ k < 4 * n) : hereW n H (endDir n k) (endTo n k) (endHop n k) = H k := by
  rw [hereW, toLink_ends (by omega), if_pos (by omega), Int.toNat_natCast]
theorem source_ends {n : Int} {k : Nat} (h : 4 ≤ n ∧ n ≤ 16 ∧ (k : Int) < 4 * n) : sourceM n (endDir n k) (endTo n k) (endHop n k) = endFrom n k := by
  have hk : 4 ≤ n ∧ n ≤ 16 ∧ 0 ≤ (k : Int) ∧ (k : Int) < 4 * n := ⟨h.1, h.2.1, by omega, h.2.2⟩
  have e := end_iff.2 hk
  rw [endDir, endTo, endHop, endFrom, if_pos e, if_pos e, if_pos e, if_pos e, nums_source hk]
theorem dir_ok {n : Int} {k : Nat} (h : 4 ≤ n ∧ n ≤ 16 ∧ (k : Int) < 4 * n) : 0 ≤ endDir n k ∧ endDir n k ≤ 1 := by
  rw [endDir, if_pos (end_iff.2 ⟨h.1, h.2.1, by omega, h.2.2⟩)]
  omega
/-- The link of a node in a direction leads, by a hop, to where a step does. -/
theorem toLink_step {n : Nat} {d x h : Int} (hx : 4 ≤ (n : Int) ∧ (n : Int) ≤ 16 ∧ d < 2 ∧ 0 ≤ x ∧ x < n) (hh : h = 1 ∨ h = 2) : toLink n d (stepM n d x h) h = linkM n d x h := by
  rw [toLink, sourceM, if_pos (hop_iff.2 hh), step_back h hx]
theorem step_add {n d x : Int} (s h : Int) (hx : 4 ≤ n ∧ n ≤ 16 ∧ d < 2 ∧ 0 ≤ x ∧ x < n) : stepM n d (stepM n d x s) h = stepM n d x (s + h) := by
  have hb := step_in s hx
  rw [step_of h ⟨hx.1, hx.2.1, hx.2.2.1, hb.1, hb.2⟩, step_of s hx, step_of (s + h) hx, Int.emod_add_emod]
  congr 1
  unfold sg
  split <;> omega
theorem step_zero {n d x : Int} (hx : 4 ≤ n ∧ n ≤ 16 ∧ d < 2 ∧ 0 ≤ x ∧ x < n) : stepM n d x 0 = x := by
  rw [step_of 0 hx, show sg d 0 = 0 by unfold sg; split <;> rfl, Int.add_zero]
  exact Int.emod_eq_of_lt hx.2.2.2.1 hx.2.2.2.2
theorem link_of {n d x h : Int} (hx : 4 ≤ n ∧ n ≤ 16 ∧ 0 ≤ d ∧ d < 2 ∧ 0 ≤ x ∧ x < n) (hh : h = 1 ∨ h = 2) : linkM n d x h = 4 * x + 2 * d + h - 1 := by
  rw [linkM, ex1.2 ⟨hx.1, hx.2.1, hx.2.2.2.1, hx.2.2.2.2⟩, hop_iff.2 hh]
  rfl
theorem err_in {n k : Nat} (h : k < 4 * n) : errW n (k : Int) = 0 := by rw [errW, if_pos (inB_of h)]
theorem giv_in {n k : Nat} (G : Nat → Option Int) (h : k < 4 * n) : givW n G (k : Int) = G k := by rw [givW, if_pos (inB_of h), Int.toNat_natCast]
theorem upd_in {n k : Nat} (G : Nat → Option Int) (o : Option Int) (h : k < 4 * n) : updW n G (k : Int) o = upd G k o := by rw [updW, if_pos (inB_of h), Int.toNat_natCast]
end Go.Proofs.YtgmoifbncijhdaaDoor
