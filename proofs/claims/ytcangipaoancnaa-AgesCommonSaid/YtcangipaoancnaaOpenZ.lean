/-
  How a list of pairs of int64, and a vector of what is held, that came in are opened. No condition.
-/
import Derived.Test.YtcangipaoancnaaOpenWd
import Derived.Test.YtcangipaoancnaaAsRun
namespace Go.Proofs.Ytcangipaoancnaa
open Go.ChangeShapes Go.WideShapes Go.ChangeAt Go.RowKit Go.Deep
set_option linter.unusedVariables false
set_option linter.unusedSimpArgs false
section
variable {H : Type} {enc : TypeId × Value → H} {W : World} {base fuel : Nat} {v : Value} {d : DataW H} {p : List MemPlace} {x : DataW H × List MemPlace} {cs : List Value}
set_option maxRecDepth 100000 in
theorem open_zz (h : DataW.trod enc Try.prog W 0 (fun _ => true) true fuel 119 cs = some x) : ∃ q : Int × Int, cs = [.int .i64 q.1, .int .i64 q.2] ∧ True := by
  have hc : Try.prog.cellsOf 2 = 1 := by kernel_rfl
  obtain ⟨xs, m, _, _, hl, hn, hel⟩ := DataW.trod_array Try.underlying119 h
  have hl : cs.length = 2 := hl.trans (by kernel_rfl)
  match cs, hl with
  | [c0, c1], _ =>
    have h0 := hel 0 (by omega)
    have h1 := hel 1 (by omega)
    simp [hc] at h0 h1
    rw [List.getElem?_eq_getElem (by omega)] at h0 h1
    obtain ⟨a, e0, _, w0⟩ := DataW.trod_int Try.underlying2 h0
    obtain ⟨b, e1, _, w1⟩ := DataW.trod_int Try.underlying2 h1
    simp at e0 e1
    subst e0 e1
    exact ⟨⟨a, b⟩, rfl, trivial⟩
set_option maxRecDepth 100000 in
theorem open_zzs (hv : Value.okWide Try.prog W .any base 110 v) (h : DataW.Trod enc Try.prog W 0 (fun _ => true) true 110 v d p) :
    ∃ (A : Option Addr) (m c : Nat) (Z : Nat → Int × Int), v = .slice A m c ∧ LiesF W W.heap.size A m 2 (zzL Z) ∧ m ≤ 9223372036854775807 := by
  obtain ⟨a, n, c, rfl⟩ := okWide_slice Try.underlying110 hv
  obtain ⟨fuel, hf⟩ := h
  obtain ⟨A, m, c, Z, e, h1, h2, h3, h4⟩ := open_rowsR (t := 110) (e := 119) ((0, 0) : Int × Int) (fun q => [Value.int .i64 q.1, .int .i64 q.2]) 2 (by decide) Try.underlying110 (by kernel_rfl) (fun _ => rfl) (Q := fun _ => True) (fun fuel cs x h => open_zz h) (x := (d, p)) (v := .slice a n c) (by simpa [Value.cells] using hf)
  exact ⟨A, m, c, Z, e, h1, h3⟩
set_option maxRecDepth 100000 in
theorem open_helds (hv : Value.okWide Try.prog W .any base 52 v) (h : DataW.Trod enc Try.prog W 0 (fun _ => true) true 52 v d p) :
    ∃ (A : Option Addr) (m c : Nat) (T : Nat → He), v = .slice A m c ∧ LiesH W W.heap.size A m T ∧ m ≤ 9223372036854775807 ∧ m ≤ c ∧ (A = none → m = 0 ∧ c = 0) := by
  obtain ⟨a, n, c, rfl⟩ := okWide_slice Try.underlying52 hv
  obtain ⟨fuel, hf⟩ := h
  have hf' : DataW.trod enc Try.prog W 0 (fun _ => true) true fuel 52 [.slice a n c] = some (d, p) := by simpa [Value.cells] using hf
  have hcap : n ≤ c := by
    rcases open_slice Try.underlying52 hf' with ⟨hcs, _⟩ | ⟨a2, len, cap, m2, n2, D, Pl, hcs, _, hl, hm, hmm, _, hi⟩
    · simp at hcs; omega
    · simp at hcs hmm; omega
  obtain ⟨A, m, c2, T, e, h1, h2, h3, h4⟩ := open_rowsR (t := 52) (e := 102) heN heL 56 (by decide) Try.underlying52 (by kernel_rfl) heL_len (Q := fun _ => True) (fun fuel cs x h => by obtain ⟨c, hc⟩ := open_heldR h; exact ⟨c, hc, trivial⟩) hf'
  injection e with e1 e2 e3
  subst e1 e2 e3
  exact ⟨a, n, c, T, rfl, h1, h3, hcap, h4⟩
set_option maxRecDepth 100000 in
theorem open_three (ht : Try.prog.underlying 126 = some (.array 3 5)) (hv : Value.okWide Try.prog W .any base 126 v) (h : DataW.Trod enc Try.prog W 0 (fun _ => true) true 126 v d p) :
    ∃ a b c : Int, v = .agg #[.int .u8 a, .int .u8 b, .int .u8 c] ∧ (Lit.int .u8 a).wf = true ∧ (Lit.int .u8 b).wf = true ∧ (Lit.int .u8 c).wf = true := by
  have hct : Try.prog.cellsOf 126 = 3 := by kernel_rfl
  have hc : Try.prog.cellsOf 5 = 1 := by kernel_rfl
  obtain ⟨cs, rfl, hsz, _⟩ : ∃ cs, v = .agg cs ∧ cs.size = Try.prog.cellsOf 126 ∧ Row.okWide Try.prog W .any base 126 cs := by
    simpa [Value.okWide, ht] using hv
  rw [hct] at hsz
  obtain ⟨l⟩ := cs
  have hl : l.length = 3 := hsz
  obtain ⟨fuel, hf⟩ := h
  obtain ⟨xs, m, _, _, _, hn, hel⟩ := DataW.trod_array ht hf
  match l, hl with
  | [c0, c1, c2], _ =>
    have h0 := hel 0 (by omega)
    have h1 := hel 1 (by omega)
    have h2 := hel 2 (by omega)
    simp [Value.cells, hc] at h0 h1 h2
    rw [List.getElem?_eq_getElem (by omega)] at h0 h1 h2
    obtain ⟨a, e0, _, w0⟩ := DataW.trod_int Try.underlying5 h0
    obtain ⟨b, e1, _, w1⟩ := DataW.trod_int Try.underlying5 h1
    obtain ⟨c, e2, _, w2⟩ := DataW.trod_int Try.underlying5 h2
    simp at e0 e1 e2
    subst e0 e1 e2
    exact ⟨a, b, c, rfl, w0, w1, w2⟩
end
end Go.Proofs.Ytcangipaoancnaa

