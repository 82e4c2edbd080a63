/-
  How a payload, an array of two truths, and an array of two payloads that came in are opened into their parts. No condition.
-/
import Derived.Test.YtbfgdphfeifglaaDoorOpen
namespace Go.Proofs.YtbfgdphfeifglaaDoor
open Go.ChangeShapes Go.WideShapes Go.ChangeAt Go.RowKit

section
variable {H : Type} {enc : TypeId × Value → H} {W : World} {base : Nat} {x : DataW H × List MemPlace} {v : Value} {d : DataW H} {p : List MemPlace}
theorem open_pay_cells {fuel : Nat} {v0 v1 v2 v3 : Value} (h : DataW.trod enc Tryd.prog W 0 (fun _ => true) true fuel 30 [v0, v1, v2, v3] = some x) :
    ∃ k s q z : Int, v0 = .int .u8 k ∧ v1 = .int .u8 s ∧ v2 = .int .u32 q ∧ v3 = .int .u32 z ∧ (Lit.int .u8 k).wf = true ∧ (Lit.int .u8 s).wf = true ∧ (Lit.int .u32 q).wf = true ∧ (Lit.int .u32 z).wf = true := by
  have ck : Tryd.prog.cellsOf 27 = 1 := by kernel_rfl
  have c8 : Tryd.prog.cellsOf 5 = 1 := by kernel_rfl
  have cu : Tryd.prog.cellsOf 28 = 1 := by kernel_rfl
  obtain ⟨xs, m, _, _, _, hn, hel⟩ := DataW.trod_struct Tryd.underlying30 h
  have hn4 : xs.length = 4 := hn
  match xs, hn4 with
  | [y0, y1, y2, y3], _ =>
    have f0 := hel 0 _ rfl
    have f1 := hel 1 _ rfl
    have f2 := hel 2 _ rfl
    have f3 := hel 3 _ rfl
    simp [ck, c8, cu] at f0 f1 f2 f3
    obtain ⟨k, e0, _, w0⟩ := DataW.trod_int Tryd.underlying27 f0
    obtain ⟨s, e1, _, w1⟩ := DataW.trod_int Tryd.underlying5 f1
    obtain ⟨q, e2, _, w2⟩ := DataW.trod_int Tryd.underlying28 f2
    obtain ⟨z, e3, _, w3⟩ := DataW.trod_int Tryd.underlying28 f3
    simp at e0 e1 e2 e3
    exact ⟨k, s, q, z, e0, e1, e2, e3, w0, w1, w2, w3⟩
theorem agg_arr {P : Program} {t e : TypeId} {m n : Nat} (ht : P.underlying t = some (.array m e)) (hc : P.cellsOf t = n) (hv : Value.okWide P W .any base t v) : ∃ l : List Value, v = .agg l.toArray ∧ l.length = n := by
  obtain ⟨cs, rfl, hsz, _⟩ : ∃ cs, v = .agg cs ∧ cs.size = P.cellsOf t ∧ Row.okWide P W .any base t cs := by
    simpa [Value.okWide, ht] using hv
  obtain ⟨l⟩ := cs
  exact ⟨l, rfl, by rw [hc] at hsz; exact hsz⟩
theorem agg_str {P : Program} {t : TypeId} {fs : Array Field} {n : Nat} (ht : P.underlying t = some (.struct fs)) (hc : P.cellsOf t = n) (hv : Value.okWide P W .any base t v) : ∃ l : List Value, v = .agg l.toArray ∧ l.length = n := by
  obtain ⟨cs, rfl, hsz, _⟩ : ∃ cs, v = .agg cs ∧ cs.size = P.cellsOf t ∧ Row.okWide P W .any base t cs := by
    simpa [Value.okWide, ht] using hv
  obtain ⟨l⟩ := cs
  exact ⟨l, rfl, by rw [hc] at hsz; exact hsz⟩
set_option maxRecDepth 100000 in
theorem open_pay (hv : Value.okWide Tryd.prog W .any base 30 v) (h : DataW.Trod enc Tryd.prog W 0 (fun _ => true) true 30 v d p) :
    ∃ k s q z : Int, v = .agg #[.int .u8 k, .int .u8 s, .int .u32 q, .int .u32 z] ∧ (Lit.int .u8 k).wf = true ∧ (Lit.int .u8 s).wf = true ∧ (Lit.int .u32 q).wf = true ∧ (Lit.int .u32 z).wf = true := by
  obtain ⟨l, rfl, hl⟩ := agg_str (n := 4) Tryd.underlying30 (by kernel_rfl) hv
  obtain ⟨fuel, hf⟩ := h
  match l, hl with
  | [v0, v1, v2, v3], _ =>
    simp only [Value.cells] at hf
    obtain ⟨k, s, q, z, rfl, rfl, rfl, rfl, h1⟩ := open_pay_cells hf
    exact ⟨k, s, q, z, rfl, h1⟩
set_option maxRecDepth 100000 in
theorem open_truths (hv : Value.okWide Tryd.prog W .any base 104 v) (h : DataW.Trod enc Tryd.prog W 0 (fun _ => true) true 104 v d p) :
    ∃ a b : Bool, v = .agg #[.bool a, .bool b] := by
  obtain ⟨l, rfl, hl⟩ := agg_arr (n := 2) Tryd.underlying104 (by kernel_rfl) hv
  have cb : Tryd.prog.cellsOf 4 = 1 := by kernel_rfl
  obtain ⟨fuel, hf⟩ := h
  obtain ⟨xs, m, _, _, _, hn, hel⟩ := DataW.trod_array Tryd.underlying104 hf
  match l, hl with
  | [c0, c1], _ =>
    have h0 := hel 0 (by omega)
    have h1 := hel 1 (by omega)
    simp [Value.cells, cb] at h0 h1
    rw [List.getElem?_eq_getElem (by omega)] at h0 h1
    obtain ⟨a, e0, _⟩ := DataW.trod_bool Tryd.underlying4 h0
    obtain ⟨b, e1, _⟩ := DataW.trod_bool Tryd.underlying4 h1
    simp at e0 e1
    subst e0 e1
    exact ⟨a, b, rfl⟩
end
end Go.Proofs.YtbfgdphfeifglaaDoor

