/-
  How a word of rows that came in is opened, with what its reading's bulk bounds. No condition.
-/
import Derived.Test.YtdbljggjddnjcaaOpenWd
namespace Go.Proofs.Ytdbljggjddnjcaa
open Go.ChangeShapes Go.WideShapes Go.ChangeAt Go.RowKit Go.Deep
set_option linter.unusedVariables false
set_option linter.unusedSimpArgs false

theorem bulk_pos {H : Type} (d : DataW H) : 1 ≤ Rows.uptoBulk d := by
  cases d with
  | lit l => cases l <;> simp [Rows.uptoBulk]
  | _ => simp [Rows.uptoBulk]
theorem bulk_mem {H : Type} {d : DataW H} : ∀ {l : List (DataW H)}, d ∈ l → Rows.uptoBulk d ≤ Rows.uptoBulkAll l
  | [], h => by cases h
  | e :: l, h => by
    simp only [Rows.uptoBulkAll]
    rcases List.mem_cons.1 h with rfl | h
    · omega
    · have := bulk_mem h
      omega
theorem bulk_len {H : Type} : ∀ l : List (DataW H), l.length ≤ Rows.uptoBulkAll l
  | [] => by simp [Rows.uptoBulkAll]
  | e :: l => by
    have := bulk_len l
    have := bulk_pos e
    simp only [Rows.uptoBulkAll, List.length_cons]
    omega
section
variable {H : Type} {enc : TypeId × Value → H} {W : World} {base fuel : Nat} {v : Value} {d : DataW H} {p : List MemPlace} {t e : TypeId} {x : DataW H × List MemPlace} {cs : List Value}
theorem open_rowsB {α : Type} (d : α) (f : α → List Value) (z : Nat) (h0 : 0 < z) (ht : Try.prog.underlying t = some (.slice e)) (hz : Try.prog.cellsOf e = z) (hf : ∀ a, (f a).length = z)
    {Q : Nat → α → Prop} (ho : ∀ (fuel : Nat) (cs : List Value) (x : DataW H × List MemPlace), DataW.trod enc Try.prog W 0 (fun _ => true) true fuel e cs = some x → ∃ a, cs = f a ∧ Q (Rows.uptoBulk x.1) a)
    (h : DataW.trod enc Try.prog W 0 (fun _ => true) true fuel t [v] = some x) :
    ∃ (A : Option Addr) (n c : Nat) (T : Nat → α), v = .slice A n c ∧ (0 < n → ∃ b off, A = some ⟨b, off, none⟩ ∧ b < W.heap.size ∧ ∀ i, i < n → W.rangeAt b (off + i * z) (f (T i))) ∧ (∀ i, i < n → ∃ b, b ≤ Rows.uptoBulk x.1 ∧ Q b (T i)) ∧ n ≤ Rows.uptoBulk x.1 ∧ n ≤ 9223372036854775807 ∧ (A = none → n = 0 ∧ c = 0) := by
  rcases open_slice ht h with ⟨hcs, _⟩ | ⟨a, len, cap, m, n, D, Pl, hcs, _, hl, hm, hmm, hx, hi⟩
  · simp at hcs
    subst hcs
    exact ⟨none, 0, 0, fun _ => d, rfl, fun h => absurd h (by omega), fun i hi => absurd hi (by omega), by omega, by omega, fun _ => ⟨rfl, rfl⟩⟩
  · simp at hcs hmm
    subst hcs hmm
    have hm' : m ≤ 9223372036854775807 := hm
    have hb1 : Rows.uptoBulkAll ((List.range len).map D) ≤ Rows.uptoBulk x.1 := by rw [hx]; simp only [Rows.uptoBulk]; omega
    have hb2 : len ≤ Rows.uptoBulk x.1 := by
      have := bulk_len ((List.range len).map D)
      simp only [List.length_map, List.length_range] at this
      omega
    have hb3 : ∀ i, i < len → Rows.uptoBulk (D i) ≤ Rows.uptoBulk x.1 := fun i hi => Nat.le_trans (bulk_mem (List.mem_map.2 ⟨i, List.mem_range.2 hi, rfl⟩)) hb1
    rcases Nat.eq_zero_or_pos len with h0' | hm0
    · subst h0'
      exact ⟨_, 0, m, fun _ => d, rfl, fun h => absurd h (by omega), fun i hi => absurd hi (by omega), by omega, by omega, fun h => by cases h⟩
    obtain ⟨b, off, spot⟩ := a
    rw [hz] at hi
    have hspot : spot = none := by
      obtain ⟨cs', hc, ht'⟩ := hi 0 (by omega)
      obtain ⟨_, hcl, hat⟩ := World.cells?_some hc
      have a0 := hat 0 h0
      rw [List.getElem?_eq_getElem (by omega)] at a0
      have := World.cell?_spot (show W.cell? _ = some _ from a0)
      simpa [Addr.add] using this
    subst hspot
    have key : ∀ i, i < len → ∃ a : α, b < W.heap.size ∧ W.rangeAt b (off + i * z) (f a) ∧ Q (Rows.uptoBulk (D i)) a := by
      intro i him
      obtain ⟨cs', hc, ht'⟩ := hi i (by omega)
      obtain ⟨_, hcl, hat⟩ := World.cells?_some hc
      obtain ⟨a, rfl, hq⟩ := ho _ _ _ ht'
      refine ⟨a, ?_, fun j v hv => ?_, hq⟩
      · have a0 := hat 0 h0
        rw [List.getElem?_eq_getElem (by omega), Addr.add_lit, Addr.add_lit] at a0
        exact block_lt_of_cell a0
      · have hj : j < z := by rw [← hcl]; exact (List.getElem?_eq_some_iff.1 hv).1
        have := hat j hj
        rw [Addr.add_lit, Addr.add_lit] at this
        rw [this]; exact hv
    obtain ⟨T, hT⟩ := pick_all d len key
    exact ⟨_, len, m, T, rfl, fun _ => ⟨b, off, rfl, (hT 0 hm0).1, fun i hi' => (hT i hi').2.1⟩, fun i hi' => ⟨_, hb3 i hi', (hT i hi').2.2⟩, hb2, by omega, fun h => by cases h⟩
set_option maxRecDepth 100000 in
theorem open_tabB (h : DataW.trod enc Try.prog W 0 (fun _ => true) true fuel 52 [v] = some x) :
    ∃ (A : Option Addr) (n c : Nat) (T : Nat → He), v = .slice A n c ∧ TabIn W A n c T ∧ n ≤ Rows.uptoBulk x.1 := by
  obtain ⟨A, n, c, T, rfl, h1, _, hb, h2, h3⟩ := open_rowsB heN heL 56 (by decide) Try.underlying52 (by kernel_rfl) heL_len (Q := fun _ _ => True) (fun fuel cs x h => by
    obtain ⟨a, ha⟩ := open_heldR h
    exact ⟨a, ha, trivial⟩) h
  exact ⟨A, n, c, T, rfl, ⟨h1, h2, h3⟩, hb⟩
set_option maxRecDepth 100000 in
theorem open_rowB1 (h : DataW.trod enc Try.prog W 0 (fun _ => true) true fuel 54 cs = some x) : ∃ r : Rw, cs = r.l ∧ TabIn W r.A r.n r.p r.T ∧ r.n ≤ Rows.uptoBulk x.1 := by
  obtain ⟨xs, m, _, hx, hl, hn, hel⟩ := DataW.trod_struct Try.underlying54 h
  have hl : cs.length = 57 := hl.trans (by kernel_rfl)
  have hn3 : xs.length = 3 := hn
  match xs, hn3, hx with
  | [y0, y1, y2], _, hx =>
    obtain ⟨i, e0, _⟩ := DataW.trod_bool Try.underlying4 (hel 0 _ rfl)
    obtain ⟨c, e1⟩ := open_cellR (hel 1 _ rfl)
    rw [show Try.prog.cellsOf _ = 1 by kernel_rfl] at e0
    rw [show Try.prog.cellsOf _ = 55 by kernel_rfl] at e1
    have f2 := hel 2 _ rfl
    rw [show Try.prog.cellsOf _ = 1 by kernel_rfl] at f2
    have l2 : ((cs.drop 56).take 1) = [cs[56]'(by omega)] := by
      rw [List.drop_eq_getElem_cons (by omega)]; rfl
    have f2' : DataW.trod enc Try.prog W 0 (fun _ => true) true m 52 ((cs.drop 56).take 1) = some y2 := f2
    rw [l2] at f2'
    obtain ⟨A, n, p, T, e2, hT, hb⟩ := open_tabB f2'
    rw [e2] at l2
    have hb2 : Rows.uptoBulk y2.1 ≤ Rows.uptoBulk x.1 := by
      rw [hx]
      simp only [Rows.uptoBulk]
      have : y2.1 ∈ [y0, y1, y2].map (·.1) := by simp
      have := bulk_mem this
      omega
    exact ⟨⟨i, c, A, n, p, T⟩, cutR (o := 0) e0 (cutR e1 (cutE l2 (Nat.le_of_eq hl)) rfl) rfl, hT, Nat.le_trans hb hb2⟩
set_option maxRecDepth 100000 in
theorem open_wordB (hv : Value.okWide Try.prog W .any base 34 v) (h : DataW.Trod enc Try.prog W 0 (fun _ => true) true 34 v d p) :
    ∃ (A : Option Addr) (m c : Nat) (R : Nat → Rw), v = .agg #[.slice A m c] ∧ WordIn W A m R ∧ m ≤ Rows.uptoBulk d ∧ ∀ i, i < m → (R i).n ≤ Rows.uptoBulk d := by
  obtain ⟨l, rfl, hl⟩ := agg_strR (n := 1) Try.underlying34 (by kernel_rfl) hv
  obtain ⟨fuel, hf⟩ := h
  obtain ⟨xs, q, _, hx, _, hn, hel⟩ := DataW.trod_struct Try.underlying34 hf
  have hn1 : xs.length = 1 := hn
  match l, hl, xs, hn1, hx with
  | [v0], _, [y0], _, hx =>
    have f0 := hel 0 _ rfl
    rw [show Try.prog.cellsOf _ = 1 by kernel_rfl] at f0
    have f0' : DataW.trod enc Try.prog W 0 (fun _ => true) true q 32 [v0] = some y0 := f0
    obtain ⟨A, m, c, R, rfl, h1, h2, hb, h3, _⟩ := open_rowsB rwN Rw.l 57 (by decide) Try.underlying32 (by kernel_rfl) Rw.l_len (Q := fun b r => TabIn W r.A r.n r.p r.T ∧ r.n ≤ b) (fun fuel cs x h => open_rowB1 h) f0'
    have hb2 : Rows.uptoBulk y0.1 ≤ Rows.uptoBulk d := by
      have hd : d = .agg ([y0].map (·.1)) := congrArg Prod.fst hx
      rw [hd]
      simp only [Rows.uptoBulk]
      have : y0.1 ∈ [y0].map (·.1) := by simp
      have := bulk_mem this
      omega
    exact ⟨A, m, c, R, rfl, ⟨⟨h1, fun i hi => by obtain ⟨b, _, k, _⟩ := h2 i hi; exact k.t⟩, h3, fun i hi => by obtain ⟨b, _, k, _⟩ := h2 i hi; exact k⟩, Nat.le_trans hb hb2, fun i hi => by obtain ⟨b, k1, _, k2⟩ := h2 i hi; omega⟩
end
end Go.Proofs.Ytdbljggjddnjcaa

