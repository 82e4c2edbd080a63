/-
  The contracts of a net's Round, Owner, First, Pair, Partner. Conditions: the net's reading; the table of directions is as the program's text lays it; of Round: a slot's length within its bounds.
-/
import Derived.Test.YtonddecdeeikgaaDoorNet1
namespace Go.Proofs.YtonddecdeeikgaaDoor
open Go.RowKit Rg

/-- Is a node a half of the pair that begins with a? -/
def hitB (N x a : Int) : Bool := decide (x = a ∨ x = stepM N 0 a 1)
/-- A node's pair; -1: none. -/
def pairM (N : Int) (P : List Int) (x : Int) : Int := match P.findIdx? (hitB N x) with
  | some i => (i : Int)
  | none => -1
theorem pair_hit {N : Int} {P : List Int} {x : Int} (k : Nat) (hk : k < P.length) (h0 : ∀ j, j < k → hitB N x (P.getD j 0) = false) (h1 : hitB N x (P.getD k 0) = true) : pairM N P x = k := by
  have : P.findIdx? (hitB N x) = some k := by
    rw [List.findIdx?_eq_some_iff_getElem]
    refine ⟨hk, by rwa [getD_at P k hk] at h1, fun j hj => ?_⟩
    have := h0 j hj
    rw [getD_at P j (by omega)] at this
    simp [this]
  rw [pairM, this]
theorem pair_none {N : Int} {P : List Int} {x : Int} (h0 : ∀ j, j < P.length → hitB N x (P.getD j 0) = false) : pairM N P x = -1 := by
  have : P.findIdx? (hitB N x) = none := by
    rw [List.findIdx?_eq_none_iff]
    intro a ha
    obtain ⟨j, hj, rfl⟩ := List.getElem_of_mem ha
    have := h0 j hj
    rwa [getD_at P j hj] at this
  rw [pairM, this]

/-- A node's partner; -1: none. -/
def partM (N : Int) (P : List Int) (x : Int) : Int := if x = atM P (pairM N P x) then stepM N 0 x 1 else atM P (pairM N P x)
end Go.Proofs.YtonddecdeeikgaaDoor
