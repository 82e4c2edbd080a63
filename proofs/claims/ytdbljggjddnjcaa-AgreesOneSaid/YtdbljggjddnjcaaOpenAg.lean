/-
  How cells, tables and rows that came in are opened, with the ranges of their numbers. No condition.
-/
import Derived.Test.YtdbljggjddnjcaaOpenWd
import Derived.Test.YtdbljggjddnjcaaAgK
import Derived.Test.YtdbljggjddnjcaaAg1
namespace Go.Proofs.Ytdbljggjddnjcaa
open Go.ChangeShapes Go.WideShapes Go.ChangeAt Go.RowKit Go.Deep
set_option linter.unusedVariables false
set_option linter.unusedSimpArgs false

/-- A row whose cells' numbers are in range. -/
structure RwW (W : World) (r : Rw) : Prop where
  t : TabIn W r.A r.n r.p r.T
  c : CeW r.c
  h : ∀ i, i < r.n → CeW (r.T i).c
set_option maxRecDepth 100000 in
theorem ceW_nil : CeW ceN := by
  have hn : ∀ k, (Lit.int k 0).wf = true → nuW k (Vector.replicate 8 0) := fun k h i hi => by simpa using h
  have hs : SaW saN := ⟨by decide, by decide, by decide, by decide, by decide⟩
  exact ⟨by decide, hs, hs, hn _ (by decide), hn _ (by decide), hn _ (by decide), (show (Lit.int .i8 0).wf = true by decide), (show (Lit.int .u8 0).wf = true by decide)⟩
theorem RwW.tol {W : World} {r : Rw} (h : RwW W r) (s : Nat) : CeW (tolM s r.ro).c := by
  unfold tolM
  split
  · rename_i hh
    exact h.h s hh.2
  · exact ceW_nil
section
variable {H : Type} {enc : TypeId × Value → H} {W : World} {base fuel : Nat} {x : DataW H × List MemPlace} {v : Value} {d : DataW H} {p : List MemPlace} {cs : List Value} {t e : TypeId}
set_option maxRecDepth 100000 in
theorem open_nums8W {k : IntKind} (ht : Try.prog.underlying t = some (.array 8 e)) (he : Try.prog.underlying e = some (.int k)) (hc : Try.prog.cellsOf e = 1) (hl : cs.length = 8) (h : DataW.trod enc Try.prog W 0 (fun _ => true) true fuel t cs = some x) :
    ∃ n : Vector Int 8, cs = nuL k n ∧ nuW k n := by
  obtain ⟨n, rfl⟩ := open_nums8 ht he hc hl h
  refine ⟨n, rfl, fun i hi => ?_⟩
  obtain ⟨xs, m, _, _, _, hn, hel⟩ := DataW.trod_array ht h
  have h0 := hel i hi
  rw [hc, Nat.mul_one, List.getElem?_eq_getElem (by omega)] at h0
  obtain ⟨b, e0, _, hw⟩ := DataW.trod_int he h0
  have e1 : ((nuL k n).drop (i * 1)).take 1 = [Value.int k n[i]] := vec_drop (Value.int k) n i hi
  rw [Nat.mul_one, e0] at e1
  injection e1 with e1
  injection e1 with e1 e2
  rw [← e2]; exact hw
set_option maxRecDepth 100000 in
theorem open_payW (h : DataW.trod enc Try.prog W 0 (fun _ => true) true fuel 40 cs = some x) : ∃ k s q z : Int, cs = [.int .u8 k, .int .u8 s, .int .u32 q, .int .u32 z] ∧ (Lit.int .u8 k).wf = true ∧ (Lit.int .u8 s).wf = true ∧ (Lit.int .u32 q).wf = true ∧ (Lit.int .u32 z).wf = true := by
  obtain ⟨xs, m, _, _, hl, hn, hel⟩ := DataW.trod_struct Try.underlying40 h
  have hl : cs.length = 4 := hl.trans (by kernel_rfl)
  have hn4 : xs.length = 4 := hn
  match xs, hn4 with
  | [y0, y1, y2, y3], _ =>
    obtain ⟨k, e0, _, w0⟩ := DataW.trod_int Try.underlying37 (hel 0 _ rfl)
    obtain ⟨s, e1, _, w1⟩ := DataW.trod_int Try.underlying5 (hel 1 _ rfl)
    obtain ⟨q, e2, _, w2⟩ := DataW.trod_int Try.underlying38 (hel 2 _ rfl)
    obtain ⟨z, e3, _, w3⟩ := DataW.trod_int Try.underlying38 (hel 3 _ rfl)
    rw [show Try.prog.cellsOf _ = 1 by kernel_rfl] at e0 e1 e2 e3
    exact ⟨k, s, q, z, (cutR (o := 0) e0 (cutR e1 (cutR e2 (cutE e3 (Nat.le_of_eq hl)) rfl) rfl) rfl), w0, w1, w2, w3⟩
set_option maxRecDepth 100000 in
theorem open_saidW (h : DataW.trod enc Try.prog W 0 (fun _ => true) true fuel 42 cs = some x) : ∃ s : Sa, cs = saL s ∧ SaW s := by
  obtain ⟨xs, m, _, _, hl, hn, hel⟩ := DataW.trod_struct Try.underlying42 h
  have hl : cs.length = 6 := hl.trans (by kernel_rfl)
  have hn3 : xs.length = 3 := hn
  match xs, hn3 with
  | [y0, y1, y2], _ =>
    obtain ⟨i, e0, _⟩ := DataW.trod_bool Try.underlying4 (hel 0 _ rfl)
    obtain ⟨a, e1, _, w1⟩ := DataW.trod_int Try.underlying2 (hel 1 _ rfl)
    obtain ⟨k, s, q, z, e2, wk, ws, wq, wz⟩ := open_payW (hel 2 _ rfl)
    rw [show Try.prog.cellsOf _ = 1 by kernel_rfl] at e0 e1
    rw [show Try.prog.cellsOf _ = 4 by kernel_rfl] at e2
    exact ⟨⟨i, a, k, s, q, z⟩, cutR (o := 0) e0 (cutR e1 (cutE e2 (Nat.le_of_eq hl)) rfl) rfl, w1, wk, ws, wq, wz⟩
set_option maxRecDepth 100000 in
theorem open_viewW (h : DataW.trod enc Try.prog W 0 (fun _ => true) true fuel 49 cs = some x) : ∃ v : Vw, cs = vwL v ∧ VwW v := by
  obtain ⟨xs, m, _, _, hl, hn, hel⟩ := DataW.trod_struct Try.underlying49 h
  have hl : cs.length = 42 := hl.trans (by kernel_rfl)
  have hn7 : xs.length = 7 := hn
  have l8 : ∀ o, o + 8 ≤ 42 → ((cs.drop o).take 8).length = 8 := fun o ho => by simp; omega
  match xs, hn7 with
  | [y0, y1, y2, y3, y4, y5, y6], _ =>
    have f0 := hel 0 _ rfl
    have f1 := hel 1 _ rfl
    have f2 := hel 2 _ rfl
    have f3 := hel 3 _ rfl
    have f4 := hel 4 _ rfl
    rw [show Try.prog.cellsOf _ = 8 by kernel_rfl] at f0 f1 f2 f3 f4
    obtain ⟨n, e0⟩ := open_truths8 Try.underlying43 Try.underlying4 (by kernel_rfl) (l8 _ (by decide)) f0
    obtain ⟨q, e1, w1⟩ := open_nums8W Try.underlying44 Try.underlying5 (by kernel_rfl) (l8 _ (by decide)) f1
    obtain ⟨g, e2, w2⟩ := open_nums8W Try.underlying44 Try.underlying5 (by kernel_rfl) (l8 _ (by decide)) f2
    obtain ⟨s, e3, w3⟩ := open_nums8W Try.underlying46 Try.underlying45 (by kernel_rfl) (l8 _ (by decide)) f3
    obtain ⟨t, e4⟩ := open_truths8 Try.underlying43 Try.underlying4 (by kernel_rfl) (l8 _ (by decide)) f4
    obtain ⟨c, e5, _, w5⟩ := DataW.trod_int Try.underlying47 (hel 5 _ rfl)
    obtain ⟨d, e6, _, w6⟩ := DataW.trod_int Try.underlying5 (hel 6 _ rfl)
    rw [show Try.prog.cellsOf _ = 1 by kernel_rfl] at e5 e6
    have key := cutR (o := 0) e0 (cutR e1 (cutR e2 (cutR e3 (cutR e4 (cutR e5 (cutE e6 (Nat.le_of_eq hl)) rfl) rfl) rfl) rfl) rfl) rfl
    exact ⟨⟨n, q, g, s, t, c, d⟩, by simpa [vwL, vrL] using key, w1, w2, w3, w5, w6⟩
set_option maxRecDepth 100000 in
theorem open_cellW (h : DataW.trod enc Try.prog W 0 (fun _ => true) true fuel 51 cs = some x) : ∃ c : Ce, cs = ceL c ∧ CeW c := by
  obtain ⟨xs, m, _, _, hl, hn, hel⟩ := DataW.trod_struct Try.underlying51 h
  have hl : cs.length = 55 := hl.trans (by kernel_rfl)
  have hn4 : xs.length = 4 := hn
  match xs, hn4 with
  | [y0, y1, y2, y3], _ =>
    obtain ⟨a, e0, _, w0⟩ := DataW.trod_int Try.underlying2 (hel 0 _ rfl)
    obtain ⟨o, e1, w1⟩ := open_saidW (hel 1 _ rfl)
    obtain ⟨r, e2, w2⟩ := open_saidW (hel 2 _ rfl)
    obtain ⟨u, e3, w3⟩ := open_viewW (hel 3 _ rfl)
    rw [show Try.prog.cellsOf _ = 1 by kernel_rfl] at e0
    rw [show Try.prog.cellsOf _ = 6 by kernel_rfl] at e1 e2
    rw [show Try.prog.cellsOf _ = 42 by kernel_rfl] at e3
    exact ⟨⟨a, o, r, u⟩, cutR (o := 0) e0 (cutR e1 (cutR e2 (cutE e3 (Nat.le_of_eq hl)) rfl) rfl) rfl, w0, w1, w2, w3⟩
set_option maxRecDepth 100000 in
theorem open_heldW (h : DataW.trod enc Try.prog W 0 (fun _ => true) true fuel 118 cs = some x) : ∃ c : He, cs = heL c ∧ CeW c.c := by
  obtain ⟨xs, m, _, _, hl, hn, hel⟩ := DataW.trod_struct Try.underlying118 h
  have hl : cs.length = 56 := hl.trans (by kernel_rfl)
  have hn2 : xs.length = 2 := hn
  match xs, hn2 with
  | [y0, y1], _ =>
    obtain ⟨i, e0, _⟩ := DataW.trod_bool Try.underlying4 (hel 0 _ rfl)
    obtain ⟨c, e1, w1⟩ := open_cellW (hel 1 _ rfl)
    rw [show Try.prog.cellsOf _ = 1 by kernel_rfl] at e0
    rw [show Try.prog.cellsOf _ = 55 by kernel_rfl] at e1
    exact ⟨⟨i, c⟩, cutR (o := 0) e0 (cutE e1 (Nat.le_of_eq hl)) rfl, w1⟩
set_option maxRecDepth 100000 in
theorem open_tabW (h : DataW.trod enc Try.prog W 0 (fun _ => true) true fuel 52 [v] = some x) :
    ∃ (A : Option Addr) (n c : Nat) (T : Nat → He), v = .slice A n c ∧ TabIn W A n c T ∧ ∀ i, i < n → CeW (T i).c := by
  obtain ⟨A, n, c, T, rfl, h1, h4, h2, h3⟩ := open_rowsR heN heL 56 (by decide) Try.underlying52 (by kernel_rfl) heL_len (Q := fun h => CeW h.c) (fun fuel cs x h => open_heldW h) h
  exact ⟨A, n, c, T, rfl, ⟨h1, h2, h3⟩, h4⟩
set_option maxRecDepth 100000 in
theorem open_rowW1 (h : DataW.trod enc Try.prog W 0 (fun _ => true) true fuel 54 cs = some x) : ∃ r : Rw, cs = r.l ∧ RwW W r := by
  obtain ⟨xs, m, _, _, hl, hn, hel⟩ := DataW.trod_struct Try.underlying54 h
  have hl : cs.length = 57 := hl.trans (by kernel_rfl)
  have hn3 : xs.length = 3 := hn
  match xs, hn3 with
  | [y0, y1, y2], _ =>
    obtain ⟨i, e0, _⟩ := DataW.trod_bool Try.underlying4 (hel 0 _ rfl)
    obtain ⟨c, e1, w1⟩ := open_cellW (hel 1 _ rfl)
    rw [show Try.prog.cellsOf _ = 1 by kernel_rfl] at e0
    rw [show Try.prog.cellsOf _ = 55 by kernel_rfl] at e1
    have f2 := hel 2 _ rfl
    rw [show Try.prog.cellsOf _ = 1 by kernel_rfl] at f2
    have l2 : ((cs.drop 56).take 1) = [cs[56]'(by omega)] := by
      rw [List.drop_eq_getElem_cons (by omega)]; rfl
    have f2' : DataW.trod enc Try.prog W 0 (fun _ => true) true m 52 ((cs.drop 56).take 1) = some y2 := f2
    rw [l2] at f2'
    obtain ⟨A, n, p, T, e2, hT, hw⟩ := open_tabW f2'
    rw [e2] at l2
    exact ⟨⟨i, c, A, n, p, T⟩, cutR (o := 0) e0 (cutR e1 (cutE l2 (Nat.le_of_eq hl)) rfl) rfl, hT, w1, hw⟩
/-- A slice of rows, of tables' entries, of cells that came in. -/
structure RwsIn (W : World) (A : Option Addr) (m c : Nat) (R : Nat → Rw) : Prop where
  r : LiesR W W.heap.size A m R
  w : ∀ i, i < m → RwW W (R i)
  k : m ≤ 9223372036854775807
  o : A = none → m = 0 ∧ c = 0
structure CellsIn (W : World) (A : Option Addr) (m c : Nat) (C : Nat → Ce) : Prop where
  f : LiesF W W.heap.size A m 55 (fun i => ceL (C i))
  w : ∀ i, i < m → CeW (C i)
  k : m ≤ 9223372036854775807
  o : A = none → m = 0 ∧ c = 0
set_option maxRecDepth 100000 in
theorem open_rowsW1 (h : DataW.trod enc Try.prog W 0 (fun _ => true) true fuel 32 [v] = some x) :
    ∃ (A : Option Addr) (m c : Nat) (R : Nat → Rw), v = .slice A m c ∧ RwsIn W A m c R := by
  obtain ⟨A, m, c, R, rfl, h1, h2, h3, h4⟩ := open_rowsR rwN Rw.l 57 (by decide) Try.underlying32 (by kernel_rfl) Rw.l_len (Q := RwW W) (fun fuel cs x h => open_rowW1 h) h
  exact ⟨A, m, c, R, rfl, ⟨h1, fun i hi => (h2 i hi).t.t⟩, h2, h3, h4⟩
set_option maxRecDepth 100000 in
theorem open_cellsW1 (h : DataW.trod enc Try.prog W 0 (fun _ => true) true fuel 114 [v] = some x) :
    ∃ (A : Option Addr) (m c : Nat) (C : Nat → Ce), v = .slice A m c ∧ CellsIn W A m c C := by
  obtain ⟨A, m, c, C, rfl, h1, h2, h3, h4⟩ := open_rowsR ceN ceL 55 (by decide) Try.underlying114 (by kernel_rfl) ceL_len (Q := CeW) (fun fuel cs x h => open_cellW h) h
  exact ⟨A, m, c, C, rfl, h1, h2, h3, h4⟩
set_option maxRecDepth 100000 in
theorem open_cells {base : Nat} (hv : Value.okWide Try.prog W .any base 114 v) (h : DataW.Trod enc Try.prog W 0 (fun _ => true) true 114 v d p) :
    ∃ (A : Option Addr) (m c : Nat) (C : Nat → Ce), v = .slice A m c ∧ CellsIn W A m c C := by
  obtain ⟨a, n, c, rfl⟩ := okWide_slice Try.underlying114 hv
  obtain ⟨fuel, hf⟩ := h
  exact open_cellsW1 (x := (d, p)) (by simpa [Value.cells] using hf)
/-- What a faulty one's rows are, and what is held of it. -/
structure On where
  A : Option Addr
  m : Nat
  c : Nat
  R : Nat → Rw
  B : Option Addr
  n : Nat
  d : Nat
  H : Nat → He
def On.l (x : On) : List Value := [.slice x.A x.m x.c, .slice x.B x.n x.d]
structure OnIn (W : World) (x : On) : Prop where
  r : RwsIn W x.A x.m x.c x.R
  t : TabIn W x.B x.n x.d x.H
  w : ∀ i, i < x.n → CeW (x.H i).c
set_option maxRecDepth 100000 in
theorem open_one1 (h : DataW.trod enc Try.prog W 0 (fun _ => true) true fuel 116 cs = some x) : ∃ o : On, cs = o.l ∧ OnIn W o := by
  obtain ⟨xs, q, _, _, hl, hn, hel⟩ := DataW.trod_struct Try.underlying116 h
  have hl : cs.length = 2 := hl.trans (by kernel_rfl)
  have hn2 : xs.length = 2 := hn
  match cs, hl, xs, hn2 with
  | [v0, v1], _, [y0, y1], _ =>
    have f0 := hel 0 _ rfl
    have f1 := hel 1 _ rfl
    rw [show Try.prog.cellsOf _ = 1 by kernel_rfl] at f0 f1
    obtain ⟨A, m, c, R, rfl, h1⟩ := open_rowsW1 (v := v0) f0
    obtain ⟨B, n, d, T, rfl, h2, h3⟩ := open_tabW (v := v1) f1
    exact ⟨⟨A, m, c, R, B, n, d, T⟩, rfl, h1, h2, h3⟩
set_option maxRecDepth 100000 in
theorem open_one {base : Nat} (hv : Value.okWide Try.prog W .any base 116 v) (h : DataW.Trod enc Try.prog W 0 (fun _ => true) true 116 v d p) :
    ∃ o : On, v = .agg o.l.toArray ∧ OnIn W o := by
  obtain ⟨l, rfl, hl⟩ := agg_strR (n := 2) Try.underlying116 (by kernel_rfl) hv
  obtain ⟨fuel, hf⟩ := h
  obtain ⟨r, e, h1⟩ := open_one1 (cs := l) (by simpa [Value.cells] using hf)
  exact ⟨r, by rw [e], h1⟩
end
end Go.Proofs.Ytdbljggjddnjcaa

