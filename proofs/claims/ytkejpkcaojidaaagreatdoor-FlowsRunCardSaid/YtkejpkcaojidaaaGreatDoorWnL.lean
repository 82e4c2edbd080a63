/-
  What the rows' two listed variables (the tables of directions and of roles) give the walks. No condition.
-/
import Derived.Test.YtkejpkcaojidaaaGreatDoorRg3
import Derived.Test.YtkejpkcaojidaaaGreatDoorNet3
import Derived.Test.YtkejpkcaojidaaaGreatDoorRgLaid
namespace Go.Proofs.YtkejpkcaojidaaaGreatDoor
set_option linter.unusedVariables false
set_option linter.unusedSimpArgs false
open Go.RowKit Rg

/-- A window: role, place, begin, end. -/
structure Wn where
  r : Int
  p : Int
  b : Int
  e : Int
def wn0 : Wn := ⟨0, 0, 0, 0⟩
def roleM (k : Int) : Int := if k ≤ 1 then 1 else if k = 2 then 2 else 3
/-- The window at a place. -/
def wnM (k : Int) : Wn := ⟨roleM k, k, 1 + k, 1 + k + 114⟩
/-- The place of node x in a slot of the pair o; -1: none. -/
def plM (N : Int) (P : List Int) (d o x : Int) : Int := placeM N d (atM P o) x
def ofW (N : Int) (P : List Int) (d o x : Int) : Wn := if N = 0 ∨ plM N P d o x = -1 then wn0 else wnM (plM N P d o x)
def ofWE (N : Int) (P : List Int) (d o x : Int) : Int := if N = 0 then 2 else if plM N P d o x = -1 then 1 else 0
/-- Which tick of a window a place is. -/
def opB (w : Wn) (q : Int) : Bool := decide (w.b ≤ q ∧ q < w.e)
def opI (w : Wn) (q : Int) : Int := if opB w q = true then q - w.b else 0
theorem pl_bd (N : Int) (P : List Int) (d o x : Int) : -1 ≤ plM N P d o x ∧ plM N P d o x ≤ 15 := by
  unfold plM placeM
  split
  · exact dist_bd _ _ _ _
  · omega
theorem role_half {k : Int} : roleM k = 1 ↔ k ≤ 1 := by
  unfold roleM
  split
  · simp; omega
  · split <;> omega
/-- Of no net. -/
theorem of_nil (P : List Int) (d o x : Int) : ofW 0 P d o x = wn0 ∧ ofWE 0 P d o x = 2 := by simp [ofW, ofWE]
theorem of_no {N : Int} {P : List Int} {d o x : Int} (h0 : N ≠ 0) (h : plM N P d o x = -1) : ofW N P d o x = wn0 ∧ ofWE N P d o x = 1 := by simp [ofW, ofWE, h, h0]
theorem of_yes {N : Int} {P : List Int} {d o x k : Int} (h0 : N ≠ 0) (h : plM N P d o x = k) (hk : k ≠ -1) : ofW N P d o x = wnM k ∧ ofWE N P d o x = 0 := by simp [ofW, ofWE, h, h0, hk]
/-- A node's place, of a pair that is. -/
theorem pl_of {N : Int} {P : List Int} {d o x f : Int} (hf : atM P o = f) (h : 4 ≤ N ∧ N ≤ 16 ∧ 0 ≤ d ∧ d < 2 ∧ 0 ≤ f ∧ f < N ∧ 0 ≤ x ∧ x < N) : plM N P d o x = placeM N d f x ∧ 0 ≤ plM N P d o x ∧ plM N P d o x < N := by
  rw [plM, hf]
  exact ⟨rfl, place_in h⟩
theorem pl_none {N : Int} {P : List Int} {d o x : Int} (h : ¬ (4 ≤ N ∧ N ≤ 16 ∧ d < 2 ∧ 0 ≤ atM P o ∧ atM P o < N ∧ 0 ≤ x ∧ x < N)) : plM N P d o x = -1 := by
  rw [plM, placeM, if_neg]
  intro h'
  exact h (ex2.1 h')
end Go.Proofs.YtkejpkcaojidaaaGreatDoor

namespace Go.Proofs.YtkejpkcaojidaaaGreatDoor
open Go.ChangeShapes Go.WideShapes Go.ChangeAt Go.WideMaps Go.WideElems Go.RowKit

/-- The table of roles reads as the program's text lays it. -/
def Roles (w : World) : Prop := 1 < w.heap.size ∧ w.cell? ⟨1, 0, none⟩ = some (.int .u8 1) ∧ w.cell? ⟨1, 1, none⟩ = some (.int .u8 1) ∧ w.cell? ⟨1, 2, none⟩ = some (.int .u8 2) ∧ w.cell? ⟨1, 3, none⟩ = some (.int .u8 3)
theorem Roles.on {w w' : World} (h : Roles w) (hb : Below w.heap.size w w') : Roles w' := by
  obtain ⟨h0, h1, h2, h3, h4⟩ := h
  exact ⟨Nat.lt_of_lt_of_le h0 hb.size, (hb.cell (p := ⟨1, 0, none⟩) h0).trans h1, (hb.cell (p := ⟨1, 1, none⟩) h0).trans h2, (hb.cell (p := ⟨1, 2, none⟩) h0).trans h3, (hb.cell (p := ⟨1, 3, none⟩) h0).trans h4⟩
/-- Both tables. -/
structure Laid2 (w : World) : Prop where
  ways : Ways w
  roles : Roles w
theorem Laid2.on {w w' : World} (h : Laid2 w) (hb : Below w.heap.size w w') : Laid2 w' := ⟨h.1.on hb, h.2.on hb⟩
theorem Laid2.al {w : World} (h : Laid2 w) (o : Obj) : Laid2 (w.alloc o) := h.on ((Below.refl _ _).alloc (Nat.le_refl _) o)

theorem gRoles : Tryz.prog.globalNamed "sennit/windows.roles" = some 1 := by kernel_rfl
theorem tRoles : (Tryz.prog.globals[1]?).map (·.type) = some 195 := by kernel_rfl
theorem roles_of_laid {W : World} (h : laidMetH Tryz.prog Rows.flowsRunRow.laid W) : Roles W := by
  rw [MakeChecks.laidMetH_plain _ _ _ (by kernel_rfl)] at h
  obtain ⟨_, ⟨_, _, _, _, _, _, _, _, _, _, HV, _⟩, _⟩ := h
  obtain ⟨g0, t0, cs0, f0, p0, q0, hg0, ht0, hv0, hd0, _, _⟩ := HV
  obtain rfl := Option.some.inj (gRoles.symm.trans hg0)
  obtain rfl := Option.some.inj (tRoles.symm.trans ht0)
  obtain ⟨xs, m1, rfl, hx1, hlen, hn, hel⟩ := DataW.trod_array Tryz.underlying195 hd0
  have c51 : Tryz.prog.cellsOf 71 = 1 := by kernel_rfl
  have c52 : Tryz.prog.cellsOf 195 = 4 := by kernel_rfl
  rw [c52] at hlen
  have hc0 := World.var?_cell hg0 hv0 0
  have hc1 := World.var?_cell hg0 hv0 1
  have hc2 := World.var?_cell hg0 hv0 2
  have hc3 := World.var?_cell hg0 hv0 3
  obtain ⟨l⟩ := cs0
  obtain ⟨v0, v1, v2, v3, rfl⟩ := len4 (show l.length = 4 from hlen)
  obtain ⟨x0, x1, x2, x3, rfl⟩ := len4 (show xs.length = 4 from hn)
  have h0 := hel 0 (by decide)
  have h1 := hel 1 (by decide)
  have h2 := hel 2 (by decide)
  have h3 := hel 3 (by decide)
  simp [c51] at h0 h1 h2 h3
  obtain ⟨k0, e0, q0, _⟩ := DataW.trod_int Tryz.underlying71 h0
  obtain ⟨k1, e1, q1, _⟩ := DataW.trod_int Tryz.underlying71 h1
  obtain ⟨k2, e2, q2, _⟩ := DataW.trod_int Tryz.underlying71 h2
  obtain ⟨k3, e3, q3, _⟩ := DataW.trod_int Tryz.underlying71 h3
  subst q0 q1 q2 q3
  simp at e0 e1 e2 e3
  subst e0 e1 e2 e3
  simp [Rows.laid_sennit_windows_roles] at hx1
  obtain ⟨⟨rfl, rfl, rfl, rfl⟩, _⟩ := hx1
  simp at hc0 hc1 hc2 hc3
  exact ⟨by simpa using block_lt_of_cell hc0, hc0, hc1, hc2, hc3⟩
theorem of_laid2 {W : World} (h : laidMetH Tryz.prog Rows.flowsRunRow.laid W) : Laid2 W := ⟨of_laid h, roles_of_laid h⟩
end Go.Proofs.YtkejpkcaojidaaaGreatDoor

