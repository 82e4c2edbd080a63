/-
  How a slice of integers that came in is opened, its capacity told besides. No condition.
-/
import Derived.Test.YtpjcbfapkjipjaaOpen
namespace Go.Proofs.Ytpjcbfapkjipjaa
open Go.ChangeShapes Go.WideShapes Go.ChangeAt Go.RowKit
section
variable {H : Type} {enc : TypeId × Value → H} {P : Program} {W : World} {base : Nat} {t e : TypeId} {k : IntKind} {v : Value} {d : DataW H} {p : List MemPlace}
theorem open_listc (ht : P.underlying t = some (.slice e)) (he : P.underlying e = some (.int k)) (hc : P.cellsOf e = 1) (hv : Value.okWide P W .any base t v)
    (h : DataW.Trod enc P W 0 (fun _ => true) true t v d p) :
    ∃ (a : Option Addr) (n c : Nat) (xs : List Int), v = .slice a n c ∧ Lies k W W.heap.size a n xs ∧ (n ≤ c ∧ c ≤ maxLen) ∧ ∀ x ∈ xs, (Lit.int k x).wf = true := by
  have h' := h
  obtain ⟨a, n, c, xs, rfl, h1, h2, h3⟩ := open_list ht he hc hv h
  refine ⟨a, n, c, xs, rfl, h1, ?_, h3⟩
  obtain ⟨fuel, hf⟩ := h'
  rcases open_ints ht he hc hf with ⟨hcs, _⟩ | ⟨x, l, c', zs, hcs, _, hl, hm, _⟩
  · simp [Value.cells] at hcs
    obtain ⟨_, rfl, rfl⟩ := hcs
    exact ⟨Nat.le_refl _, by simp [maxLen]⟩
  · simp [Value.cells] at hcs
    obtain ⟨_, rfl, rfl⟩ := hcs
    exact ⟨hl, hm⟩
end
end Go.Proofs.Ytpjcbfapkjipjaa
