/-
  How a payload, an array of two truths, and an array of two payloads that came in are opened into their parts. No condition.
-/
import Derived.Test.YtgmoifbncijhdaaDoorOpen
namespace Go.Proofs.YtgmoifbncijhdaaDoor
open Go.ChangeShapes Go.WideShapes Go.ChangeAt Go.RowKit

section
variable {H : Type} {enc : TypeId × Value → H} {W : World} {base : Nat} {x : DataW H × List MemPlace} {v : Value} {d : DataW H} {p : List MemPlace}
theorem agg_arr {P : Program} {t e : TypeId} {m n : Nat} (ht : P.underlying t = some (.array m e)) (hc : P.cellsOf t = n) (hv : Value.okWide P W .any base t v) : ∃ l : List Value, v = .agg l.toArray ∧ l.length = n := by
  obtain ⟨cs, rfl, hsz, _⟩ : ∃ cs, v = .agg cs ∧ cs.size = P.cellsOf t ∧ Row.okWide P W .any base t cs := by
    simpa [Value.okWide, ht] using hv
  obtain ⟨l⟩ := cs
  exact ⟨l, rfl, by rw [hc] at hsz; exact hsz⟩
theorem agg_str {P : Program} {t : TypeId} {fs : Array Field} {n : Nat} (ht : P.underlying t = some (.struct fs)) (hc : P.cellsOf t = n) (hv : Value.okWide P W .any base t v) : ∃ l : List Value, v = .agg l.toArray ∧ l.length = n := by
  obtain ⟨cs, rfl, hsz, _⟩ : ∃ cs, v = .agg cs ∧ cs.size = P.cellsOf t ∧ Row.okWide P W .any base t cs := by
    simpa [Value.okWide, ht] using hv
  obtain ⟨l⟩ := cs
  exact ⟨l, rfl, by rw [hc] at hsz; exact hsz⟩
set_option maxRecDepth 100000 in
theorem open_truths (hv : Value.okWide Tryd.prog W .any base 61 v) (h : DataW.Trod enc Tryd.prog W 0 (fun _ => true) true 61 v d p) :
    ∃ a b : Bool, v = .agg #[.bool a, .bool b] := by
  obtain ⟨l, rfl, hl⟩ := agg_arr (n := 2) Tryd.underlying61 (by kernel_rfl) hv
  have cb : Tryd.prog.cellsOf 4 = 1 := by kernel_rfl
  obtain ⟨fuel, hf⟩ := h
  obtain ⟨xs, m, _, _, _, hn, hel⟩ := DataW.trod_array Tryd.underlying61 hf
  match l, hl with
  | [c0, c1], _ =>
    have h0 := hel 0 (by omega)
    have h1 := hel 1 (by omega)
    simp [Value.cells, cb] at h0 h1
    rw [List.getElem?_eq_getElem (by omega)] at h0 h1
    obtain ⟨a, e0, _⟩ := DataW.trod_bool Tryd.underlying4 h0
    obtain ⟨b, e1, _⟩ := DataW.trod_bool Tryd.underlying4 h1
    simp at e0 e1
    subst e0 e1
    exact ⟨a, b, rfl⟩
end
end Go.Proofs.YtgmoifbncijhdaaDoor
