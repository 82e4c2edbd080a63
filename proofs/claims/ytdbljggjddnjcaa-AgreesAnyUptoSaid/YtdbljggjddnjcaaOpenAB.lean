/-
  How a list of rows that came in is opened, with the ranges of its cells' numbers and with what its reading's bulk bounds. No condition.
-/
import Derived.Test.YtdbljggjddnjcaaOpenWB
import Derived.Test.YtdbljggjddnjcaaOpenAg
namespace Go.Proofs.Ytdbljggjddnjcaa
open Go.ChangeShapes Go.WideShapes Go.ChangeAt Go.RowKit Go.Deep
set_option linter.unusedVariables false
set_option linter.unusedSimpArgs false

theorem Rw.l_n {r s : Rw} (h : r.l = s.l) : r.n = s.n := by
  have e : some (Value.slice r.A r.n r.p) = some (Value.slice s.A s.n s.p) := by
    have h1 := ro_tab r.b r.c r.A r.n r.p
    have h2 := ro_tab s.b s.c s.A s.n s.p
    rw [← h1, ← h2]
    exact congrArg (fun l : List Value => l[56]?) h
  injection e with e
  injection e
section
variable {H : Type} {enc : TypeId × Value → H} {W : World} {base fuel : Nat} {v : Value} {d : DataW H} {p : List MemPlace} {x : DataW H × List MemPlace} {cs : List Value}
theorem open_rowAB (h : DataW.trod enc Try.prog W 0 (fun _ => true) true fuel 54 cs = some x) : ∃ r : Rw, cs = r.l ∧ RwW W r ∧ r.n ≤ Rows.uptoBulk x.1 := by
  obtain ⟨r, e, hr⟩ := open_rowW1 h
  obtain ⟨s, e2, _, hs⟩ := open_rowB1 h
  exact ⟨r, e, hr, by rw [Rw.l_n (e.symm.trans e2)]; exact hs⟩
set_option maxRecDepth 100000 in
theorem open_rowsAB (hv : Value.okWide Try.prog W .any base 32 v) (h : DataW.Trod enc Try.prog W 0 (fun _ => true) true 32 v d p) :
    ∃ (A : Option Addr) (m c : Nat) (R : Nat → Rw), v = .slice A m c ∧ RwsIn W A m c R ∧ m ≤ Rows.uptoBulk d ∧ ∀ i, i < m → (R i).n ≤ Rows.uptoBulk d := by
  obtain ⟨a, n, c, rfl⟩ := okWide_slice Try.underlying32 hv
  obtain ⟨fuel, hf⟩ := h
  have f0 : DataW.trod enc Try.prog W 0 (fun _ => true) true fuel 32 [Value.slice a n c] = some (d, p) := by simpa [Value.cells] using hf
  obtain ⟨A, m, c, R, e, h1, h2, hb, h3, h4⟩ := open_rowsB rwN Rw.l 57 (by decide) Try.underlying32 (by kernel_rfl) Rw.l_len (Q := fun b r => RwW W r ∧ r.n ≤ b) (fun fuel cs x h => open_rowAB h) f0
  exact ⟨A, m, c, R, e, ⟨⟨h1, fun i hi => by obtain ⟨b, _, k, _⟩ := h2 i hi; exact k.t.t⟩, fun i hi => by obtain ⟨b, _, k, _⟩ := h2 i hi; exact k, h3, h4⟩, hb, fun i hi => by obtain ⟨b, k1, _, k2⟩ := h2 i hi; exact Nat.le_trans k2 k1⟩
end
end Go.Proofs.Ytdbljggjddnjcaa

