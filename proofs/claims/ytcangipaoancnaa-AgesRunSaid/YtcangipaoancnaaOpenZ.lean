/-
  How a list of pairs of int64, and a vector of what is held, that came in are opened. No condition.
-/
import Derived.Test.YtcangipaoancnaaOpenWd
import Derived.Test.YtcangipaoancnaaAsRun
namespace Go.Proofs.Ytcangipaoancnaa
open Go.ChangeShapes Go.WideShapes Go.ChangeAt Go.RowKit Go.Deep
set_option linter.unusedVariables false
set_option linter.unusedSimpArgs false
section
variable {H : Type} {enc : TypeId × Value → H} {W : World} {base fuel : Nat} {v : Value} {d : DataW H} {p : List MemPlace} {x : DataW H × List MemPlace} {cs : List Value}
set_option maxRecDepth 100000 in
theorem open_zz (h : DataW.trod enc Try.prog W 0 (fun _ => true) true fuel 119 cs = some x) : ∃ q : Int × Int, cs = [.int .i64 q.1, .int .i64 q.2] ∧ True := by
  have hc : Try.prog.cellsOf 2 = 1 := by kernel_rfl
  obtain ⟨xs, m, _, _, hl, hn, hel⟩ := DataW.trod_array Try.underlying119 h
  have hl : cs.length = 2 := hl.trans (by kernel_rfl)
  match cs, hl with
  | [c0, c1], _ =>
    have h0 := hel 0 (by omega)
    have h1 := hel 1 (by omega)
    simp [hc] at h0 h1
    rw [List.getElem?_eq_getElem (by omega)] at h0 h1
    obtain ⟨a, e0, _, w0⟩ := DataW.trod_int Try.underlying2 h0
    obtain ⟨b, e1, _, w1⟩ := DataW.trod_int Try.underlying2 h1
    simp at e0 e1
    subst e0 e1
    exact ⟨⟨a, b⟩, rfl, trivial⟩
set_option maxRecDepth 100000 in
theorem open_zzs (hv : Value.okWide Try.prog W .any base 110 v) (h : DataW.Trod enc Try.prog W 0 (fun _ => true) true 110 v d p) :
    ∃ (A : Option Addr) (m c : Nat) (Z : Nat → Int × Int), v = .slice A m c ∧ LiesF W W.heap.size A m 2 (zzL Z) ∧ m ≤ 9223372036854775807 := by
  obtain ⟨a, n, c, rfl⟩ := okWide_slice Try.underlying110 hv
  obtain ⟨fuel, hf⟩ := h
  obtain ⟨A, m, c, Z, e, h1, h2, h3, h4⟩ := open_rowsR (t := 110) (e := 119) ((0, 0) : Int × Int) (fun q => [Value.int .i64 q.1, .int .i64 q.2]) 2 (by decide) Try.underlying110 (by kernel_rfl) (fun _ => rfl) (Q := fun _ => True) (fun fuel cs x h => open_zz h) (x := (d, p)) (v := .slice a n c) (by simpa [Value.cells] using hf)
  exact ⟨A, m, c, Z, e, h1, h3⟩
end
end Go.Proofs.Ytcangipaoancnaa

