/-
  How a list of rows that came in is opened, as a word's rows. No condition.
-/
import Derived.Test.YtcangipaoancnaaOpenWd
namespace Go.Proofs.Ytcangipaoancnaa
open Go.ChangeShapes Go.WideShapes Go.ChangeAt Go.RowKit Go.Deep
set_option linter.unusedVariables false
set_option linter.unusedSimpArgs false

section
variable {H : Type} {enc : TypeId × Value → H} {W : World} {base fuel : Nat} {v : Value} {d : DataW H} {p : List MemPlace}
set_option maxRecDepth 100000 in
theorem open_rowsP (hv : Value.okWide Try.prog W .any base 32 v) (h : DataW.Trod enc Try.prog W 0 (fun _ => true) true 32 v d p) :
    ∃ (A : Option Addr) (m c : Nat) (R : Nat → Rw), v = .slice A m c ∧ WordIn W A m R := by
  obtain ⟨a, n, c, rfl⟩ := okWide_slice Try.underlying32 hv
  obtain ⟨fuel, hf⟩ := h
  have f0 : DataW.trod enc Try.prog W 0 (fun _ => true) true fuel 32 [Value.slice a n c] = some (d, p) := by simpa [Value.cells] using hf
  obtain ⟨A, m, c, R, e, h1, h2, h3, _⟩ := open_rowsR rwN Rw.l 57 (by decide) Try.underlying32 (by kernel_rfl) Rw.l_len (Q := fun r => TabIn W r.A r.n r.p r.T) (fun fuel cs x h => open_rowR1 h) f0
  exact ⟨A, m, c, R, e, ⟨⟨h1, fun i hi => (h2 i hi).t⟩, h3, h2⟩⟩
end
end Go.Proofs.Ytcangipaoancnaa

