/-
  What the rows' two listed variables (the tables of directions and of roles) give the walks. No condition.
-/
import Derived.Test.YtajkpbmjgncbbaaDoorRgLaid
namespace Go.Proofs.YtajkpbmjgncbbaaDoor
open Go.ChangeShapes Go.WideShapes Go.ChangeAt Go.WideMaps Go.WideElems Go.RowKit

/-- The table of roles reads as the program's text lays it. -/
def Roles (w : World) : Prop := 1 < w.heap.size ∧ w.cell? ⟨1, 0, none⟩ = some (.int .u8 1) ∧ w.cell? ⟨1, 1, none⟩ = some (.int .u8 1) ∧ w.cell? ⟨1, 2, none⟩ = some (.int .u8 2) ∧ w.cell? ⟨1, 3, none⟩ = some (.int .u8 3)
theorem Roles.on {w w' : World} (h : Roles w) (hb : Below w.heap.size w w') : Roles w' := by
  obtain ⟨h0, h1, h2, h3, h4⟩ := h
  exact ⟨Nat.lt_of_lt_of_le h0 hb.size, (hb.cell (p := ⟨1, 0, none⟩) h0).trans h1, (hb.cell (p := ⟨1, 1, none⟩) h0).trans h2, (hb.cell (p := ⟨1, 2, none⟩) h0).trans h3, (hb.cell (p := ⟨1, 3, none⟩) h0).trans h4⟩
/-- Both tables. -/
structure Laid2 (w : World) : Prop where
  ways : Ways w
  roles : Roles w
theorem Laid2.on {w w' : World} (h : Laid2 w) (hb : Below w.heap.size w w') : Laid2 w' := ⟨h.1.on hb, h.2.on hb⟩
theorem Laid2.al {w : World} (h : Laid2 w) (o : Obj) : Laid2 (w.alloc o) := h.on ((Below.refl _ _).alloc (Nat.le_refl _) o)

theorem gRoles : Tryd.prog.globalNamed "sennit/windows.roles" = some 1 := by kernel_rfl
theorem tRoles : (Tryd.prog.globals[1]?).map (·.type) = some 87 := by kernel_rfl
theorem roles_of_laid {W : World} (h : laidMetH Tryd.prog Rows.windowsOfRow.laid W) : Roles W := by
  rw [MakeChecks.laidMetH_plain _ _ _ (by kernel_rfl)] at h
  obtain ⟨_, ⟨_, _, _, _, _, _, _, _, _, _, HV, _⟩, _⟩ := h
  obtain ⟨g0, t0, cs0, f0, p0, q0, hg0, ht0, hv0, hd0, _, _⟩ := HV
  obtain rfl := Option.some.inj (gRoles.symm.trans hg0)
  obtain rfl := Option.some.inj (tRoles.symm.trans ht0)
  obtain ⟨xs, m1, rfl, hx1, hlen, hn, hel⟩ := DataW.trod_array Tryd.underlying87 hd0
  have c51 : Tryd.prog.cellsOf 31 = 1 := by kernel_rfl
  have c52 : Tryd.prog.cellsOf 87 = 4 := by kernel_rfl
  rw [c52] at hlen
  have hc0 := World.var?_cell hg0 hv0 0
  have hc1 := World.var?_cell hg0 hv0 1
  have hc2 := World.var?_cell hg0 hv0 2
  have hc3 := World.var?_cell hg0 hv0 3
  obtain ⟨l⟩ := cs0
  obtain ⟨v0, v1, v2, v3, rfl⟩ := len4 (show l.length = 4 from hlen)
  obtain ⟨x0, x1, x2, x3, rfl⟩ := len4 (show xs.length = 4 from hn)
  have h0 := hel 0 (by decide)
  have h1 := hel 1 (by decide)
  have h2 := hel 2 (by decide)
  have h3 := hel 3 (by decide)
  simp [c51] at h0 h1 h2 h3
  obtain ⟨k0, e0, q0, _⟩ := DataW.trod_int Tryd.underlying31 h0
  obtain ⟨k1, e1, q1, _⟩ := DataW.trod_int Tryd.underlying31 h1
  obtain ⟨k2, e2, q2, _⟩ := DataW.trod_int Tryd.underlying31 h2
  obtain ⟨k3, e3, q3, _⟩ := DataW.trod_int Tryd.underlying31 h3
  subst q0 q1 q2 q3
  simp at e0 e1 e2 e3
  subst e0 e1 e2 e3
  simp [Rows.laid_sennit_windows_roles] at hx1
  obtain ⟨⟨rfl, rfl, rfl, rfl⟩, _⟩ := hx1
  simp at hc0 hc1 hc2 hc3
  exact ⟨by simpa using block_lt_of_cell hc0, hc0, hc1, hc2, hc3⟩
theorem of_laid2 {W : World} (h : laidMetH Tryd.prog Rows.windowsOfRow.laid W) : Laid2 W := ⟨of_laid h, roles_of_laid h⟩
end Go.Proofs.YtajkpbmjgncbbaaDoor

