/-
  How a word of rows that came in is opened. No condition.
-/
import Derived.Test.YtcangipaoancnaaOpen
import Derived.Test.YtcangipaoancnaaWdR4
import Derived.Deep.Slices
import Derived.Deep.Fields
namespace Go.Proofs.Ytcangipaoancnaa
open Go.ChangeShapes Go.WideShapes Go.ChangeAt Go.RowKit Go.Deep
set_option linter.unusedVariables false
set_option linter.unusedSimpArgs false

theorem cutR {cs : List Value} {o n m : Nat} {L R : List Value} (h : (cs.drop o).take n = L) (hr : cs.drop m = R) (hm : o + n = m) : cs.drop o = L ++ R := by
  rw [← h, ← hr, ← hm, ← List.drop_drop, List.take_append_drop]
theorem cutE {cs : List Value} {o n : Nat} {L : List Value} (h : (cs.drop o).take n = L) (hl : cs.length ≤ o + n) : cs.drop o = L := by
  rw [← h, List.take_of_length_le (by simp; omega)]
theorem vec_of {α : Type} (f : α → Value) : ∀ (cs : List Value) (_ : cs.length = 8) (_ : ∀ i, i < 8 → ∃ a, cs[i]? = some (f a)), ∃ v : Vector α 8, cs = v.toList.map f
  | [c0, c1, c2, c3, c4, c5, c6, c7], _, h => by
    obtain ⟨a0, e0⟩ := h 0 (by omega)
    obtain ⟨a1, e1⟩ := h 1 (by omega)
    obtain ⟨a2, e2⟩ := h 2 (by omega)
    obtain ⟨a3, e3⟩ := h 3 (by omega)
    obtain ⟨a4, e4⟩ := h 4 (by omega)
    obtain ⟨a5, e5⟩ := h 5 (by omega)
    obtain ⟨a6, e6⟩ := h 6 (by omega)
    obtain ⟨a7, e7⟩ := h 7 (by omega)
    simp at e0 e1 e2 e3 e4 e5 e6 e7
    subst e0 e1 e2 e3 e4 e5 e6 e7
    exact ⟨#v[a0, a1, a2, a3, a4, a5, a6, a7], rfl⟩
theorem pick_all {α : Type} (d : α) {Q : Nat → α → Prop} (n : Nat) (h : ∀ i, i < n → ∃ a, Q i a) : ∃ T : Nat → α, ∀ i, i < n → Q i (T i) := by
  classical
  refine ⟨fun i => if hi : i < n then (h i hi).choose else d, fun i hi => ?_⟩
  simp only [hi, dite_true]
  exact (h i hi).choose_spec
section
variable {H : Type} {enc : TypeId × Value → H} {W : World} {base fuel : Nat} {x : DataW H × List MemPlace} {v : Value} {d : DataW H} {p : List MemPlace} {cs : List Value} {t e : TypeId}
theorem agg_strR {P : Program} {t : TypeId} {fs : Array Field} {n : Nat} (ht : P.underlying t = some (.struct fs)) (hc : P.cellsOf t = n) (hv : Value.okWide P W .any base t v) : ∃ l : List Value, v = .agg l.toArray ∧ l.length = n := by
  obtain ⟨cs, rfl, hsz, _⟩ : ∃ cs, v = .agg cs ∧ cs.size = P.cellsOf t ∧ Row.okWide P W .any base t cs := by
    simpa [Value.okWide, ht] using hv
  obtain ⟨l⟩ := cs
  exact ⟨l, rfl, by rw [hc] at hsz; exact hsz⟩
theorem at_one {i : Nat} {v : Value} (h : (cs.drop i).take 1 = [v]) : cs[i]? = some v := by
  have := congrArg (fun l : List Value => l[0]?) h
  simpa [List.getElem?_take, List.getElem?_drop] using this
theorem open_truths8 (ht : Try.prog.underlying t = some (.array 8 e)) (he : Try.prog.underlying e = some .bool) (hc : Try.prog.cellsOf e = 1) (hl : cs.length = 8) (h : DataW.trod enc Try.prog W 0 (fun _ => true) true fuel t cs = some x) :
    ∃ n : Vector Bool 8, cs = boL n := by
  obtain ⟨xs, m, _, _, _, hn, hel⟩ := DataW.trod_array ht h
  refine vec_of Value.bool cs hl fun i hi => ?_
  have h0 := hel i hi
  rw [hc, Nat.mul_one, List.getElem?_eq_getElem (by omega)] at h0
  obtain ⟨b, e0, _⟩ := DataW.trod_bool he h0
  exact ⟨b, at_one e0⟩
theorem open_nums8 {k : IntKind} (ht : Try.prog.underlying t = some (.array 8 e)) (he : Try.prog.underlying e = some (.int k)) (hc : Try.prog.cellsOf e = 1) (hl : cs.length = 8) (h : DataW.trod enc Try.prog W 0 (fun _ => true) true fuel t cs = some x) :
    ∃ n : Vector Int 8, cs = nuL k n := by
  obtain ⟨xs, m, _, _, _, hn, hel⟩ := DataW.trod_array ht h
  refine vec_of (Value.int k) cs hl fun i hi => ?_
  have h0 := hel i hi
  rw [hc, Nat.mul_one, List.getElem?_eq_getElem (by omega)] at h0
  obtain ⟨b, e0, _⟩ := DataW.trod_int he h0
  exact ⟨b, at_one e0⟩
set_option maxRecDepth 100000 in
theorem open_payR (h : DataW.trod enc Try.prog W 0 (fun _ => true) true fuel 40 cs = some x) : ∃ k s q z : Int, cs = [.int .u8 k, .int .u8 s, .int .u32 q, .int .u32 z] := by
  obtain ⟨xs, m, _, _, hl, hn, hel⟩ := DataW.trod_struct Try.underlying40 h
  have hl : cs.length = 4 := hl.trans (by kernel_rfl)
  have hn4 : xs.length = 4 := hn
  match xs, hn4 with
  | [y0, y1, y2, y3], _ =>
    obtain ⟨k, e0, _, _⟩ := DataW.trod_int Try.underlying37 (hel 0 _ rfl)
    obtain ⟨s, e1, _, _⟩ := DataW.trod_int Try.underlying5 (hel 1 _ rfl)
    obtain ⟨q, e2, _, _⟩ := DataW.trod_int Try.underlying38 (hel 2 _ rfl)
    obtain ⟨z, e3, _, _⟩ := DataW.trod_int Try.underlying38 (hel 3 _ rfl)
    rw [show Try.prog.cellsOf _ = 1 by kernel_rfl] at e0 e1 e2 e3
    exact ⟨k, s, q, z, (cutR (o := 0) e0 (cutR e1 (cutR e2 (cutE e3 (Nat.le_of_eq hl)) rfl) rfl) rfl)⟩
set_option maxRecDepth 100000 in
theorem open_saidR (h : DataW.trod enc Try.prog W 0 (fun _ => true) true fuel 42 cs = some x) : ∃ s : Sa, cs = saL s := by
  obtain ⟨xs, m, _, _, hl, hn, hel⟩ := DataW.trod_struct Try.underlying42 h
  have hl : cs.length = 6 := hl.trans (by kernel_rfl)
  have hn3 : xs.length = 3 := hn
  match xs, hn3 with
  | [y0, y1, y2], _ =>
    obtain ⟨i, e0, _⟩ := DataW.trod_bool Try.underlying4 (hel 0 _ rfl)
    obtain ⟨a, e1, _, _⟩ := DataW.trod_int Try.underlying2 (hel 1 _ rfl)
    obtain ⟨k, s, q, z, e2⟩ := open_payR (hel 2 _ rfl)
    rw [show Try.prog.cellsOf _ = 1 by kernel_rfl] at e0 e1
    rw [show Try.prog.cellsOf _ = 4 by kernel_rfl] at e2
    exact ⟨⟨i, a, k, s, q, z⟩, cutR (o := 0) e0 (cutR e1 (cutE e2 (Nat.le_of_eq hl)) rfl) rfl⟩
set_option maxRecDepth 100000 in
theorem open_viewR (h : DataW.trod enc Try.prog W 0 (fun _ => true) true fuel 49 cs = some x) : ∃ v : Vw, cs = vwL v := by
  obtain ⟨xs, m, _, _, hl, hn, hel⟩ := DataW.trod_struct Try.underlying49 h
  have hl : cs.length = 42 := hl.trans (by kernel_rfl)
  have hn7 : xs.length = 7 := hn
  have l8 : ∀ o, o + 8 ≤ 42 → ((cs.drop o).take 8).length = 8 := fun o ho => by simp; omega
  match xs, hn7 with
  | [y0, y1, y2, y3, y4, y5, y6], _ =>
    have f0 := hel 0 _ rfl
    have f1 := hel 1 _ rfl
    have f2 := hel 2 _ rfl
    have f3 := hel 3 _ rfl
    have f4 := hel 4 _ rfl
    rw [show Try.prog.cellsOf _ = 8 by kernel_rfl] at f0 f1 f2 f3 f4
    obtain ⟨n, e0⟩ := open_truths8 Try.underlying43 Try.underlying4 (by kernel_rfl) (l8 _ (by decide)) f0
    obtain ⟨q, e1⟩ := open_nums8 Try.underlying44 Try.underlying5 (by kernel_rfl) (l8 _ (by decide)) f1
    obtain ⟨g, e2⟩ := open_nums8 Try.underlying44 Try.underlying5 (by kernel_rfl) (l8 _ (by decide)) f2
    obtain ⟨s, e3⟩ := open_nums8 Try.underlying46 Try.underlying45 (by kernel_rfl) (l8 _ (by decide)) f3
    obtain ⟨t, e4⟩ := open_truths8 Try.underlying43 Try.underlying4 (by kernel_rfl) (l8 _ (by decide)) f4
    obtain ⟨c, e5, _, _⟩ := DataW.trod_int Try.underlying47 (hel 5 _ rfl)
    obtain ⟨d, e6, _, _⟩ := DataW.trod_int Try.underlying5 (hel 6 _ rfl)
    rw [show Try.prog.cellsOf _ = 1 by kernel_rfl] at e5 e6
    have key := cutR (o := 0) e0 (cutR e1 (cutR e2 (cutR e3 (cutR e4 (cutR e5 (cutE e6 (Nat.le_of_eq hl)) rfl) rfl) rfl) rfl) rfl) rfl
    exact ⟨⟨n, q, g, s, t, c, d⟩, by simpa [vwL, vrL] using key⟩
set_option maxRecDepth 100000 in
theorem open_cellR (h : DataW.trod enc Try.prog W 0 (fun _ => true) true fuel 51 cs = some x) : ∃ c : Ce, cs = ceL c := by
  obtain ⟨xs, m, _, _, hl, hn, hel⟩ := DataW.trod_struct Try.underlying51 h
  have hl : cs.length = 55 := hl.trans (by kernel_rfl)
  have hn4 : xs.length = 4 := hn
  match xs, hn4 with
  | [y0, y1, y2, y3], _ =>
    obtain ⟨a, e0, _, _⟩ := DataW.trod_int Try.underlying2 (hel 0 _ rfl)
    obtain ⟨o, e1⟩ := open_saidR (hel 1 _ rfl)
    obtain ⟨r, e2⟩ := open_saidR (hel 2 _ rfl)
    obtain ⟨u, e3⟩ := open_viewR (hel 3 _ rfl)
    rw [show Try.prog.cellsOf _ = 1 by kernel_rfl] at e0
    rw [show Try.prog.cellsOf _ = 6 by kernel_rfl] at e1 e2
    rw [show Try.prog.cellsOf _ = 42 by kernel_rfl] at e3
    exact ⟨⟨a, o, r, u⟩, cutR (o := 0) e0 (cutR e1 (cutR e2 (cutE e3 (Nat.le_of_eq hl)) rfl) rfl) rfl⟩
set_option maxRecDepth 100000 in
theorem open_heldR (h : DataW.trod enc Try.prog W 0 (fun _ => true) true fuel 102 cs = some x) : ∃ c : He, cs = heL c := by
  obtain ⟨xs, m, _, _, hl, hn, hel⟩ := DataW.trod_struct Try.underlying102 h
  have hl : cs.length = 56 := hl.trans (by kernel_rfl)
  have hn2 : xs.length = 2 := hn
  match xs, hn2 with
  | [y0, y1], _ =>
    obtain ⟨i, e0, _⟩ := DataW.trod_bool Try.underlying4 (hel 0 _ rfl)
    obtain ⟨c, e1⟩ := open_cellR (hel 1 _ rfl)
    rw [show Try.prog.cellsOf _ = 1 by kernel_rfl] at e0
    rw [show Try.prog.cellsOf _ = 55 by kernel_rfl] at e1
    exact ⟨⟨i, c⟩, cutR (o := 0) e0 (cutE e1 (Nat.le_of_eq hl)) rfl⟩
/-- What is known of a table that came in. -/
structure TabIn (W : World) (A : Option Addr) (n p : Nat) (T : Nat → He) : Prop where
  t : LiesH W W.heap.size A n T
  m : n ≤ 9223372036854775807
  o : A = none → n = 0 ∧ p = 0
theorem open_rowsR {α : Type} (d : α) (f : α → List Value) (z : Nat) (h0 : 0 < z) (ht : Try.prog.underlying t = some (.slice e)) (hz : Try.prog.cellsOf e = z) (hf : ∀ a, (f a).length = z)
    {Q : α → Prop} (ho : ∀ (fuel : Nat) (cs : List Value) (x : DataW H × List MemPlace), DataW.trod enc Try.prog W 0 (fun _ => true) true fuel e cs = some x → ∃ a, cs = f a ∧ Q a)
    (h : DataW.trod enc Try.prog W 0 (fun _ => true) true fuel t [v] = some x) :
    ∃ (A : Option Addr) (n c : Nat) (T : Nat → α), v = .slice A n c ∧ (0 < n → ∃ b off, A = some ⟨b, off, none⟩ ∧ b < W.heap.size ∧ ∀ i, i < n → W.rangeAt b (off + i * z) (f (T i))) ∧ (∀ i, i < n → Q (T i)) ∧ n ≤ 9223372036854775807 ∧ (A = none → n = 0 ∧ c = 0) := by
  rcases open_slice ht h with ⟨hcs, _⟩ | ⟨a, len, cap, m, n, D, Pl, hcs, _, hl, hm, hmm, _, hi⟩
  · simp at hcs
    subst hcs
    exact ⟨none, 0, 0, fun _ => d, rfl, fun h => absurd h (by omega), fun i hi => absurd hi (by omega), by omega, fun _ => ⟨rfl, rfl⟩⟩
  · simp at hcs hmm
    subst hcs hmm
    have hm' : m ≤ 9223372036854775807 := hm
    rcases Nat.eq_zero_or_pos m with h0' | hm0
    · obtain rfl : len = 0 := by omega
      exact ⟨_, 0, m, fun _ => d, rfl, fun h => absurd h (by omega), fun i hi => absurd hi (by omega), by omega, fun h => by cases h⟩
    obtain ⟨b, off, spot⟩ := a
    rw [hz] at hi
    have hspot : spot = none := by
      obtain ⟨cs', hc, ht'⟩ := hi 0 hm0
      obtain ⟨_, hcl, hat⟩ := World.cells?_some hc
      have a0 := hat 0 h0
      rw [List.getElem?_eq_getElem (by omega)] at a0
      have := World.cell?_spot (show W.cell? _ = some _ from a0)
      simpa [Addr.add] using this
    subst hspot
    have key : ∀ i, i < m → ∃ a : α, b < W.heap.size ∧ W.rangeAt b (off + i * z) (f a) ∧ Q a := by
      intro i him
      obtain ⟨cs', hc, ht'⟩ := hi i him
      obtain ⟨_, hcl, hat⟩ := World.cells?_some hc
      obtain ⟨a, rfl, hq⟩ := ho _ _ _ ht'
      refine ⟨a, ?_, fun j v hv => ?_, hq⟩
      · have a0 := hat 0 h0
        rw [List.getElem?_eq_getElem (by omega), Addr.add_lit, Addr.add_lit] at a0
        exact block_lt_of_cell a0
      · have hj : j < z := by rw [← hcl]; exact (List.getElem?_eq_some_iff.1 hv).1
        have := hat j hj
        rw [Addr.add_lit, Addr.add_lit] at this
        rw [this]; exact hv
    obtain ⟨T, hT⟩ := pick_all d m key
    exact ⟨_, len, m, T, rfl, fun _ => ⟨b, off, rfl, (hT 0 hm0).1, fun i hi' => (hT i (by omega)).2.1⟩, fun i hi' => (hT i (by omega)).2.2, by omega, fun h => by cases h⟩
set_option maxRecDepth 100000 in
theorem open_tabR (h : DataW.trod enc Try.prog W 0 (fun _ => true) true fuel 52 [v] = some x) :
    ∃ (A : Option Addr) (n c : Nat) (T : Nat → He), v = .slice A n c ∧ TabIn W A n c T := by
  obtain ⟨A, n, c, T, rfl, h1, _, h2, h3⟩ := open_rowsR heN heL 56 (by decide) Try.underlying52 (by kernel_rfl) heL_len (Q := fun _ => True) (fun fuel cs x h => by
    obtain ⟨a, ha⟩ := open_heldR h
    exact ⟨a, ha, trivial⟩) h
  exact ⟨A, n, c, T, rfl, h1, h2, h3⟩
set_option maxRecDepth 100000 in
theorem open_rowR1 (h : DataW.trod enc Try.prog W 0 (fun _ => true) true fuel 54 cs = some x) : ∃ r : Rw, cs = r.l ∧ TabIn W r.A r.n r.p r.T := by
  obtain ⟨xs, m, _, _, hl, hn, hel⟩ := DataW.trod_struct Try.underlying54 h
  have hl : cs.length = 57 := hl.trans (by kernel_rfl)
  have hn3 : xs.length = 3 := hn
  match xs, hn3 with
  | [y0, y1, y2], _ =>
    obtain ⟨i, e0, _⟩ := DataW.trod_bool Try.underlying4 (hel 0 _ rfl)
    obtain ⟨c, e1⟩ := open_cellR (hel 1 _ rfl)
    rw [show Try.prog.cellsOf _ = 1 by kernel_rfl] at e0
    rw [show Try.prog.cellsOf _ = 55 by kernel_rfl] at e1
    have f2 := hel 2 _ rfl
    rw [show Try.prog.cellsOf _ = 1 by kernel_rfl] at f2
    have l2 : ((cs.drop 56).take 1) = [cs[56]'(by omega)] := by
      rw [List.drop_eq_getElem_cons (by omega)]; rfl
    have f2' : DataW.trod enc Try.prog W 0 (fun _ => true) true m 52 ((cs.drop 56).take 1) = some y2 := f2
    rw [l2] at f2'
    obtain ⟨A, n, p, T, e2, hT⟩ := open_tabR f2'
    rw [e2] at l2
    exact ⟨⟨i, c, A, n, p, T⟩, cutR (o := 0) e0 (cutR e1 (cutE l2 (Nat.le_of_eq hl)) rfl) rfl, hT⟩
set_option maxRecDepth 100000 in
theorem open_rowR {base : Nat} (hv : Value.okWide Try.prog W .any base 54 v) (h : DataW.Trod enc Try.prog W 0 (fun _ => true) true 54 v d p) :
    ∃ r : Rw, v = .agg r.l.toArray ∧ TabIn W r.A r.n r.p r.T := by
  obtain ⟨l, rfl, hl⟩ := agg_strR (n := 57) Try.underlying54 (by kernel_rfl) hv
  obtain ⟨fuel, hf⟩ := h
  obtain ⟨r, e, h1⟩ := open_rowR1 (cs := l) (by simpa [Value.cells] using hf)
  exact ⟨r, by rw [e], h1⟩
end
end Go.Proofs.Ytcangipaoancnaa

namespace Go.Proofs.Ytcangipaoancnaa
open Go.ChangeShapes Go.WideShapes Go.ChangeAt Go.RowKit Go.Deep
set_option linter.unusedVariables false
set_option linter.unusedSimpArgs false

/-- What is known of a word that came in. -/
structure WordIn (W : World) (A : Option Addr) (m : Nat) (R : Nat → Rw) : Prop where
  r : LiesR W W.heap.size A m R
  k : m ≤ 9223372036854775807
  t : ∀ i, i < m → TabIn W (R i).A (R i).n (R i).p (R i).T
section
variable {H : Type} {enc : TypeId × Value → H} {W : World} {base fuel : Nat} {v : Value} {d : DataW H} {p : List MemPlace}
set_option maxRecDepth 100000 in
theorem open_wordR (hv : Value.okWide Try.prog W .any base 34 v) (h : DataW.Trod enc Try.prog W 0 (fun _ => true) true 34 v d p) :
    ∃ (A : Option Addr) (m c : Nat) (R : Nat → Rw), v = .agg #[.slice A m c] ∧ WordIn W A m R := by
  obtain ⟨l, rfl, hl⟩ := agg_strR (n := 1) Try.underlying34 (by kernel_rfl) hv
  obtain ⟨fuel, hf⟩ := h
  obtain ⟨xs, q, _, _, _, hn, hel⟩ := DataW.trod_struct Try.underlying34 hf
  have hn1 : xs.length = 1 := hn
  match l, hl, xs, hn1 with
  | [v0], _, [y0], _ =>
    have f0 := hel 0 _ rfl
    rw [show Try.prog.cellsOf _ = 1 by kernel_rfl] at f0
    have f0' : DataW.trod enc Try.prog W 0 (fun _ => true) true q 32 [v0] = some y0 := f0
    obtain ⟨A, m, c, R, rfl, h1, h2, h3, _⟩ := open_rowsR rwN Rw.l 57 (by decide) Try.underlying32 (by kernel_rfl) Rw.l_len (Q := fun r => TabIn W r.A r.n r.p r.T) (fun fuel cs x h => open_rowR1 h) f0'
    exact ⟨A, m, c, R, rfl, ⟨⟨h1, fun i hi => (h2 i hi).t⟩, h3, h2⟩⟩
end
end Go.Proofs.Ytcangipaoancnaa

