/-
  How a tick of a lane that came in is opened: four words, a row, a number. No condition.
-/
import Derived.Test.YtclpdahjmjhlgaaOpenWd
import Derived.Test.YtclpdahjmjhlgaaTk17
namespace Go.Proofs.Ytclpdahjmjhlgaa
open Go.ChangeShapes Go.WideShapes Go.ChangeAt Go.RowKit Go.Deep
set_option linter.unusedVariables false
set_option linter.unusedSimpArgs false

/-- What is known of a tick that came in. -/
structure TinIn (W : World) (x : Tin) : Prop where
  w : ∀ k, k < 4 → WordIn W (x.A k) (x.m k) (x.R k)
  o : TabIn W x.o.A x.o.n x.o.p x.o.T
theorem TinIn.r {W : World} {x : Tin} (h : TinIn W x) : TinR W W.heap.size x := ⟨fun k hk => (h.w k hk).r, h.o.t⟩
section
variable {H : Type} {enc : TypeId × Value → H} {W : World} {base fuel : Nat} {v : Value} {d : DataW H} {p : List MemPlace} {cs : List Value} {x : DataW H × List MemPlace}
set_option maxRecDepth 100000 in
theorem open_word1 (h : DataW.trod enc Try.prog W 0 (fun _ => true) true fuel 34 cs = some x) :
    ∃ (A : Option Addr) (m c : Nat) (R : Nat → Rw), cs = [.slice A m c] ∧ WordIn W A m R := by
  obtain ⟨xs, q, _, _, hl, hn, hel⟩ := DataW.trod_struct Try.underlying34 h
  have hl : cs.length = 1 := hl.trans (by kernel_rfl)
  have hn1 : xs.length = 1 := hn
  match cs, hl, xs, hn1 with
  | [v0], _, [y0], _ =>
    have f0 := hel 0 _ rfl
    rw [show Try.prog.cellsOf _ = 1 by kernel_rfl] at f0
    have f0' : DataW.trod enc Try.prog W 0 (fun _ => true) true q 32 [v0] = some y0 := f0
    obtain ⟨A, m, c, R, rfl, h1, h2, h3, _⟩ := open_rowsR rwN Rw.l 57 (by decide) Try.underlying32 (by kernel_rfl) Rw.l_len (Q := fun r => TabIn W r.A r.n r.p r.T) (fun fuel cs x h => open_rowR1 h) f0'
    exact ⟨A, m, c, R, rfl, ⟨⟨h1, fun i hi => (h2 i hi).t⟩, h3, h2⟩⟩
set_option maxRecDepth 100000 in
theorem open_ins (h : DataW.trod enc Try.prog W 0 (fun _ => true) true fuel 36 cs = some x) :
    ∃ (A : Nat → Option Addr) (m c : Nat → Nat) (R : Nat → Nat → Rw), cs = [.slice (A 0) (m 0) (c 0), .slice (A 1) (m 1) (c 1), .slice (A 2) (m 2) (c 2), .slice (A 3) (m 3) (c 3)] ∧ ∀ k, k < 4 → WordIn W (A k) (m k) (R k) := by
  obtain ⟨xs, q, _, _, hl, hn, hel⟩ := DataW.trod_struct Try.underlying36 h
  have hl : cs.length = 4 := hl.trans (by kernel_rfl)
  have hn4 : xs.length = 4 := hn
  match xs, hn4 with
  | [y0, y1, y2, y3], _ =>
    obtain ⟨A0, m0, c0, R0, e0, w0⟩ := open_word1 (hel 0 _ rfl)
    obtain ⟨A1, m1, c1, R1, e1, w1⟩ := open_word1 (hel 1 _ rfl)
    obtain ⟨A2, m2, c2, R2, e2, w2⟩ := open_word1 (hel 2 _ rfl)
    obtain ⟨A3, m3, c3, R3, e3, w3⟩ := open_word1 (hel 3 _ rfl)
    rw [show Try.prog.cellsOf _ = 1 by kernel_rfl] at e0 e1 e2 e3
    refine ⟨fun k => if k = 0 then A0 else if k = 1 then A1 else if k = 2 then A2 else A3, fun k => if k = 0 then m0 else if k = 1 then m1 else if k = 2 then m2 else m3, fun k => if k = 0 then c0 else if k = 1 then c1 else if k = 2 then c2 else c3, fun k => if k = 0 then R0 else if k = 1 then R1 else if k = 2 then R2 else R3, cutR (o := 0) e0 (cutR e1 (cutR e2 (cutE e3 (Nat.le_of_eq hl)) rfl) rfl) rfl, fun k hk => ?_⟩
    rcases (show k = 0 ∨ k = 1 ∨ k = 2 ∨ k = 3 by omega) with rfl | rfl | rfl | rfl
    · exact w0
    · exact w1
    · exact w2
    · exact w3
set_option maxRecDepth 100000 in
theorem open_tin1 (h : DataW.trod enc Try.prog W 0 (fun _ => true) true fuel 56 cs = some x) : ∃ xt : Tin, cs = xt.l ∧ TinIn W xt := by
  obtain ⟨xs, q, _, _, hl, hn, hel⟩ := DataW.trod_struct Try.underlying56 h
  have hl : cs.length = 62 := hl.trans (by kernel_rfl)
  have hn3 : xs.length = 3 := hn
  match xs, hn3 with
  | [y0, y1, y2], _ =>
    obtain ⟨A, m, c, R, e0, w0⟩ := open_ins (hel 0 _ rfl)
    obtain ⟨r, e1, w1⟩ := open_rowR1 (hel 1 _ rfl)
    obtain ⟨s, e2, _, _⟩ := DataW.trod_int Try.underlying5 (hel 2 _ rfl)
    rw [show Try.prog.cellsOf _ = 4 by kernel_rfl] at e0
    rw [show Try.prog.cellsOf _ = 57 by kernel_rfl] at e1
    rw [show Try.prog.cellsOf _ = 1 by kernel_rfl] at e2
    exact ⟨⟨A, m, c, R, r, s⟩, cutR (o := 0) e0 (cutR e1 (cutE e2 (Nat.le_of_eq hl)) rfl) rfl, ⟨w0, w1⟩⟩
set_option maxRecDepth 100000 in
theorem open_tin {base : Nat} (hv : Value.okWide Try.prog W .any base 56 v) (h : DataW.Trod enc Try.prog W 0 (fun _ => true) true 56 v d p) :
    ∃ xt : Tin, v = .agg xt.l.toArray ∧ TinIn W xt := by
  obtain ⟨l, rfl, hl⟩ := agg_strR (n := 62) Try.underlying56 (by kernel_rfl) hv
  obtain ⟨fuel, hf⟩ := h
  obtain ⟨r, e, h1⟩ := open_tin1 (cs := l) (by simpa [Value.cells] using hf)
  exact ⟨r, by rw [e], h1⟩
end
end Go.Proofs.Ytclpdahjmjhlgaa

