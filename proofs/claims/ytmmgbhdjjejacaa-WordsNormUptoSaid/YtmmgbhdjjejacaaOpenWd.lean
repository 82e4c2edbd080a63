/-
  How a word of rows that came in is opened. No condition.
-/
import Derived.Test.YtmmgbhdjjejacaaOpenR
namespace Go.Proofs.Ytmmgbhdjjejacaa
open Go.ChangeShapes Go.WideShapes Go.ChangeAt Go.RowKit Go.Deep
set_option linter.unusedVariables false
set_option linter.unusedSimpArgs false

/-- What is known of a word that came in. -/
structure WordIn (W : World) (A : Option Addr) (m : Nat) (R : Nat → Rw) : Prop where
  r : LiesR W W.heap.size A m R
  k : m ≤ 9223372036854775807
  t : ∀ i, i < m → TabIn W (R i).A (R i).n (R i).p (R i).T
section
variable {H : Type} {enc : TypeId × Value → H} {W : World} {base fuel : Nat} {v : Value} {d : DataW H} {p : List MemPlace}
set_option maxRecDepth 100000 in
theorem open_wordR (hv : Value.okWide Try.prog W .any base 24 v) (h : DataW.Trod enc Try.prog W 0 (fun _ => true) true 24 v d p) :
    ∃ (A : Option Addr) (m c : Nat) (R : Nat → Rw), v = .agg #[.slice A m c] ∧ WordIn W A m R := by
  obtain ⟨l, rfl, hl⟩ := agg_strR (n := 1) Try.underlying24 (by kernel_rfl) hv
  obtain ⟨fuel, hf⟩ := h
  obtain ⟨xs, q, _, _, _, hn, hel⟩ := DataW.trod_struct Try.underlying24 hf
  have hn1 : xs.length = 1 := hn
  match l, hl, xs, hn1 with
  | [v0], _, [y0], _ =>
    have f0 := hel 0 _ rfl
    rw [show Try.prog.cellsOf _ = 1 by kernel_rfl] at f0
    have f0' : DataW.trod enc Try.prog W 0 (fun _ => true) true q 22 [v0] = some y0 := f0
    obtain ⟨A, m, c, R, rfl, h1, h2, h3, _⟩ := open_rowsR rwN Rw.l 57 (by decide) Try.underlying22 (by kernel_rfl) Rw.l_len (Q := fun r => TabIn W r.A r.n r.p r.T) (fun fuel cs x h => open_rowR1 h) f0'
    exact ⟨A, m, c, R, rfl, ⟨⟨h1, fun i hi => (h2 i hi).t⟩, h3, h2⟩⟩
end
end Go.Proofs.Ytmmgbhdjjejacaa

