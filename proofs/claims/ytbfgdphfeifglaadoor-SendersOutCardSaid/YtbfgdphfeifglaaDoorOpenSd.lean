/-
  How an array of two offers that came in is opened into their parts. No condition.
-/
import Derived.Test.YtbfgdphfeifglaaDoorOpenF
import Derived.Test.YtbfgdphfeifglaaDoorOpenCf
import Derived.Test.YtbfgdphfeifglaaDoorSn4
namespace Go.Proofs.YtbfgdphfeifglaaDoor
open Go.ChangeShapes Go.WideShapes Go.ChangeAt Go.RowKit Go.Deep

section
variable {H : Type} {enc : TypeId × Value → H} {W : World} {base : Nat} {x : DataW H × List MemPlace} {v : Value} {d : DataW H} {p : List MemPlace}
set_option maxRecDepth 100000 in
theorem open_said_cells {fuel : Nat} {v0 v1 v2 v3 v4 v5 : Value} (h : DataW.trod enc Tryd.prog W 0 (fun _ => true) true fuel 32 [v0, v1, v2, v3, v4, v5] = some x) :
    ∃ a : Sd, v0 = .bool a.i ∧ v1 = .int .i64 a.a ∧ v2 = .int .u8 a.k ∧ v3 = .int .u8 a.s ∧ v4 = .int .u32 a.q ∧ v5 = .int .u32 a.v ∧ a.Fit := by
  have cb : Tryd.prog.cellsOf 4 = 1 := by kernel_rfl
  have ci : Tryd.prog.cellsOf 2 = 1 := by kernel_rfl
  have cp : Tryd.prog.cellsOf 30 = 4 := by kernel_rfl
  obtain ⟨xs, m, _, _, _, hn, hel⟩ := DataW.trod_struct Tryd.underlying32 h
  have hn3 : xs.length = 3 := hn
  match xs, hn3 with
  | [y0, y1, y2], _ =>
    have f0 := hel 0 _ rfl
    have f1 := hel 1 _ rfl
    have f2 := hel 2 _ rfl
    simp [cb, ci, cp] at f0 f1 f2
    obtain ⟨b, e0, _⟩ := DataW.trod_bool Tryd.underlying4 f0
    obtain ⟨a, e1, _, _⟩ := DataW.trod_int Tryd.underlying2 f1
    obtain ⟨k, s, q, z, e2, e3, e4, e5, w0, w1, w2, w3⟩ := open_pay_cells f2
    simp at e0 e1
    have b0 := bounds_u8 w0
    have b1 := bounds_u8 w1
    have b2 := bounds_u32 w2
    have b3 := bounds_u32 w3
    exact ⟨⟨b, a, k, s, q, z⟩, e0, e1, e2, e3, e4, e5, ⟨b0.1, b0.2, b1.1, b1.2, b2.1, by simp only; omega, b3.1, by simp only; omega⟩⟩
set_option maxRecDepth 100000 in
theorem open_saids (hv : Value.okWide Tryd.prog W .any base 33 v) (h : DataW.Trod enc Tryd.prog W 0 (fun _ => true) true 33 v d p) :
    ∃ a b : Sd, v = .agg #[.bool a.i, .int .i64 a.a, .int .u8 a.k, .int .u8 a.s, .int .u32 a.q, .int .u32 a.v, .bool b.i, .int .i64 b.a, .int .u8 b.k, .int .u8 b.s, .int .u32 b.q, .int .u32 b.v] ∧ a.Fit ∧ b.Fit := by
  obtain ⟨l, rfl, hl⟩ := agg_arr (n := 12) Tryd.underlying33 (by kernel_rfl) hv
  have cp : Tryd.prog.cellsOf 32 = 6 := by kernel_rfl
  obtain ⟨fuel, hf⟩ := h
  obtain ⟨xs, m, _, _, _, hn, hel⟩ := DataW.trod_array Tryd.underlying33 hf
  match l, hl with
  | [a0, a1, a2, a3, a4, a5, b0, b1, b2, b3, b4, b5], _ =>
    have h0 := hel 0 (by omega)
    have h1 := hel 1 (by omega)
    simp [Value.cells, cp] at h0 h1
    rw [List.getElem?_eq_getElem (by omega)] at h0 h1
    obtain ⟨a, rfl, rfl, rfl, rfl, rfl, rfl, f1⟩ := open_said_cells h0
    obtain ⟨b, rfl, rfl, rfl, rfl, rfl, rfl, f2⟩ := open_said_cells h1
    exact ⟨a, b, rfl, f1, f2⟩
end
end Go.Proofs.YtbfgdphfeifglaaDoor

