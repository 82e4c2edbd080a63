/-
  The law ConfigsEdges, walked. Conditions: the table of directions is as the program's text lays it; the numbers are of their kinds.
-/
import Derived.Test.YtibniadebbgjcaaDoorCfR
namespace Go.Proofs.YtibniadebbgjcaaDoor
open Go.RowKit Rg

/-- What is wrong with these numbers and lists, wherever they lie. -/
def newD (N L M G F : Int) (pn : Nat) (P : List Int) (sn : Nat) (S : List Int) (bn : Nat) (B : List Int) (tn : Nat) (T : List (Int × Int × Int)) : Int :=
  newE { N := N, L := L, M := M, G := G, F := F, pA := none, pn := pn, pc := 0, sA := none, sn := sn, sc := 0, bA := none, bn := bn, bc := 0, tA := none, tn := tn, tc := 0, P := P, S := S, B := B, T := T }
theorem newD_eq (c : Cf) : newE c = newD c.N c.L c.M c.G c.F c.pn c.P c.sn c.S c.bn c.B c.tn c.T := rfl
/-- The law's config of n nodes. -/
abbrev edge (n : Nat) (A1 A2 A3 A4 : Option Addr) : Cf := { N := (n : Int), L := (n : Int) + 116, M := 3, G := 3, F := 3, pA := A1, pn := 2, pc := 2, sA := A2, sn := 3, sc := 3, bA := A3, bn := n, bc := n, tA := A4, tn := 1, tc := 1, P := [0, 2], S := [0, 1, 1], B := List.replicate n 0, T := [((n : Int) - 1, 0, 100)] }
theorem fin13 {Q : Nat → Prop} (h : ∀ m : Fin 13, Q (4 + m.val)) {n : Nat} (h1 : 4 ≤ n) (h2 : n ≤ 16) : Q n := by
  have := h ⟨n - 4, by omega⟩
  rwa [show 4 + (n - 4) = n by omega] at this
section
variable {n : Nat} (h1 : 4 ≤ n) (h2 : n ≤ 16)
include h1 h2
theorem e_ok : newD n (n + 116) 3 3 3 2 [0, 2] 3 [0, 1, 1] n (List.replicate n 0) 1 [((n : Int) - 1, 0, 100)] = 0 := fin13 (Q := fun n => newD n (n + 116) 3 3 3 2 [0, 2] 3 [0, 1, 1] n (List.replicate n 0) 1 [((n : Int) - 1, 0, 100)] = 0) (by decide) h1 h2
theorem e_0 : newD n (n + 115) 3 3 3 2 [0, 2] 3 [0, 1, 1] n (List.replicate n 0) 1 [((n : Int) - 1, 0, 100)] = 1 := fin13 (Q := fun n => newD n (n + 115) 3 3 3 2 [0, 2] 3 [0, 1, 1] n (List.replicate n 0) 1 [((n : Int) - 1, 0, 100)] = 1) (by decide) h1 h2
theorem e_1a : newD n 4096 3 3 3 2 [0, 2] 3 [0, 1, 1] n (List.replicate n 0) 1 [((n : Int) - 1, 0, 100)] = 0 := fin13 (Q := fun n => newD n 4096 3 3 3 2 [0, 2] 3 [0, 1, 1] n (List.replicate n 0) 1 [((n : Int) - 1, 0, 100)] = 0) (by decide) h1 h2
theorem e_1 : newD n 4097 3 3 3 2 [0, 2] 3 [0, 1, 1] n (List.replicate n 0) 1 [((n : Int) - 1, 0, 100)] = 3 := fin13 (Q := fun n => newD n 4097 3 3 3 2 [0, 2] 3 [0, 1, 1] n (List.replicate n 0) 1 [((n : Int) - 1, 0, 100)] = 3) (by decide) h1 h2
theorem e_2 : newD n (n + 116) 3 3 3 2 [0, 2] 3 [0, 1, 1] n ((List.replicate n 0).set (n - 1) 4097) 1 [((n : Int) - 1, 0, 100)] = 3 := fin13 (Q := fun n => newD n (n + 116) 3 3 3 2 [0, 2] 3 [0, 1, 1] n ((List.replicate n 0).set (n - 1) 4097) 1 [((n : Int) - 1, 0, 100)] = 3) (by decide) h1 h2
theorem e_3 : newD n (n + 116) 3 3 3 2 [0, 2] 3 [0, 1, 1] n ((List.replicate n 0).set 0 (-1)) 1 [((n : Int) - 1, 0, 100)] = 1 := fin13 (Q := fun n => newD n (n + 116) 3 3 3 2 [0, 2] 3 [0, 1, 1] n ((List.replicate n 0).set 0 (-1)) 1 [((n : Int) - 1, 0, 100)] = 1) (by decide) h1 h2
theorem e_4 : newD n (n + 116) 3 3 3 2 [0, 2] 3 [0, 1, 1] (n - 1) ((List.replicate n 0).drop 1) 1 [((n : Int) - 1, 0, 100)] = 1 := fin13 (Q := fun n => newD n (n + 116) 3 3 3 2 [0, 2] 3 [0, 1, 1] (n - 1) ((List.replicate n 0).drop 1) 1 [((n : Int) - 1, 0, 100)] = 1) (by decide) h1 h2
theorem e_5 : newD n (n + 116) 3 3 3 2 [0, 2] 3 [0, 1, 1] n (List.replicate n 0) 1 [((n : Int), 0, 100)] = 1 := fin13 (Q := fun n => newD n (n + 116) 3 3 3 2 [0, 2] 3 [0, 1, 1] n (List.replicate n 0) 1 [((n : Int), 0, 100)] = 1) (by decide) h1 h2
theorem e_6 : newD n (n + 116) 3 3 3 2 [0, 2] 3 [0, 1, 1] n (List.replicate n 0) 1 [((n : Int) - 1, 0, 101)] = 3 := fin13 (Q := fun n => newD n (n + 116) 3 3 3 2 [0, 2] 3 [0, 1, 1] n (List.replicate n 0) 1 [((n : Int) - 1, 0, 101)] = 3) (by decide) h1 h2
theorem e_7 : newD n (n + 116) 3 3 3 2 [0, 2] 3 [0, 1, 1] n (List.replicate n 0) 1 [((n : Int) - 1, 0, 0)] = 1 := fin13 (Q := fun n => newD n (n + 116) 3 3 3 2 [0, 2] 3 [0, 1, 1] n (List.replicate n 0) 1 [((n : Int) - 1, 0, 0)] = 1) (by decide) h1 h2
theorem e_8 : newD n (n + 116) 0 3 3 2 [0, 2] 3 [0, 1, 1] n (List.replicate n 0) 1 [((n : Int) - 1, 0, 100)] = 1 := fin13 (Q := fun n => newD n (n + 116) 0 3 3 2 [0, 2] 3 [0, 1, 1] n (List.replicate n 0) 1 [((n : Int) - 1, 0, 100)] = 1) (by decide) h1 h2
theorem e_9 : newD n (n + 116) 3 101 3 2 [0, 2] 3 [0, 1, 1] n (List.replicate n 0) 1 [((n : Int) - 1, 0, 100)] = 3 := fin13 (Q := fun n => newD n (n + 116) 3 101 3 2 [0, 2] 3 [0, 1, 1] n (List.replicate n 0) 1 [((n : Int) - 1, 0, 100)] = 3) (by decide) h1 h2
theorem e_10 : newD n (n + 116) 3 3 0 2 [0, 2] 3 [0, 1, 1] n (List.replicate n 0) 1 [((n : Int) - 1, 0, 100)] = 1 := fin13 (Q := fun n => newD n (n + 116) 3 3 0 2 [0, 2] 3 [0, 1, 1] n (List.replicate n 0) 1 [((n : Int) - 1, 0, 100)] = 1) (by decide) h1 h2
theorem e_11 : newD n (n + 116) 3 3 3 2 [0, 2] 3 [0, 0, 0] n (List.replicate n 0) 1 [((n : Int) - 1, 0, 100)] = 1 := fin13 (Q := fun n => newD n (n + 116) 3 3 3 2 [0, 2] 3 [0, 0, 0] n (List.replicate n 0) 1 [((n : Int) - 1, 0, 100)] = 1) (by decide) h1 h2
theorem e_12 : newD n (n + 116) 3 3 3 2 [0, 2] 17 (List.replicate 17 0) n (List.replicate n 0) 1 [((n : Int) - 1, 0, 100)] = 3 := fin13 (Q := fun n => newD n (n + 116) 3 3 3 2 [0, 2] 17 (List.replicate 17 0) n (List.replicate n 0) 1 [((n : Int) - 1, 0, 100)] = 3) (by decide) h1 h2
theorem e_13 : ∀ j : Fin 8, newD n (n + 116) 3 3 3 2 [0, 2] 3 [0, 1, 1] n (List.replicate n 0) (j.val + 1) (List.replicate (j.val + 1) ((n : Int) - 1, 0, 100)) = 0 := fin13 (Q := fun n => ∀ j : Fin 8, newD n (n + 116) 3 3 3 2 [0, 2] 3 [0, 1, 1] n (List.replicate n 0) (j.val + 1) (List.replicate (j.val + 1) ((n : Int) - 1, 0, 100)) = 0) (by decide) h1 h2
theorem e_13e : newD n (n + 116) 3 3 3 2 [0, 2] 3 [0, 1, 1] n (List.replicate n 0) 9 (List.replicate 9 ((n : Int) - 1, 0, 100)) = 3 := fin13 (Q := fun n => newD n (n + 116) 3 3 3 2 [0, 2] 3 [0, 1, 1] n (List.replicate n 0) 9 (List.replicate 9 ((n : Int) - 1, 0, 100)) = 3) (by decide) h1 h2
end
end Go.Proofs.YtibniadebbgjcaaDoor
