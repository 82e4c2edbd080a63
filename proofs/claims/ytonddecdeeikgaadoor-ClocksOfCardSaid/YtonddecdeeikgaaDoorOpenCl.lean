/-
  How a time that came in is opened into its numbers. No condition.
-/
import Derived.Test.YtonddecdeeikgaaDoorOpenCf
import Derived.Test.YtonddecdeeikgaaDoorClM
namespace Go.Proofs.YtonddecdeeikgaaDoor
open Go.ChangeShapes Go.WideShapes Go.ChangeAt Go.RowKit Go.Deep Cl

section
variable {H : Type} {enc : TypeId × Value → H} {W : World} {x : DataW H × List MemPlace} {v : Value} {d : DataW H} {p : List MemPlace}
set_option maxRecDepth 100000 in
theorem open_tm (hv' : ∃ cs, v = .agg cs ∧ cs.size = Tryd.prog.cellsOf 27) (h : DataW.Trod enc Tryd.prog W 0 (fun _ => true) true 27 v d p) :
    ∃ t : Tm, v = .agg #[.int .i64 t.r, .int .i64 t.k, .int .i64 t.p] := by
  obtain ⟨cs, rfl, hsz⟩ := hv'
  have c3 : Tryd.prog.cellsOf 27 = 3 := by kernel_rfl
  have ci : Tryd.prog.cellsOf 3 = 1 := by kernel_rfl
  have cj : Tryd.prog.cellsOf 2 = 1 := by kernel_rfl
  rw [c3] at hsz
  obtain ⟨l⟩ := cs
  obtain ⟨fuel, hf⟩ := h
  obtain ⟨xs, m, _, _, _, hn, hel⟩ := DataW.trod_struct Tryd.underlying27 hf
  have hn3 : xs.length = 3 := hn
  match l, (show l.length = 3 from hsz) with
  | [v0, v1, v2], _ =>
    match xs, hn3 with
    | [y0, y1, y2], _ =>
      have f0 := hel 0 _ rfl
      have f1 := hel 1 _ rfl
      have f2 := hel 2 _ rfl
      simp [Value.cells, ci, cj] at f0 f1 f2
      obtain ⟨a0, e0, _, _⟩ := DataW.trod_int Tryd.underlying2 f0
      obtain ⟨a1, e1, _, _⟩ := DataW.trod_int Tryd.underlying3 f1
      obtain ⟨a2, e2, _, _⟩ := DataW.trod_int Tryd.underlying3 f2
      simp at e0 e1 e2
      subst e0 e1 e2
      exact ⟨⟨a0, a1, a2⟩, rfl⟩
end
end Go.Proofs.YtonddecdeeikgaaDoor
