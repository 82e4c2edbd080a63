/-
  How a list of slots that came in is opened: what its cells hold, and how the lists in it lie. No condition.
-/
import Derived.Test.YtkejpkcaojidaaaGreatDoorOpenA4
import Derived.Test.YtkejpkcaojidaaaGreatDoorReg10
import Derived.Deep.Slices
import Derived.Deep.Fields
namespace Go.Proofs.YtkejpkcaojidaaaGreatDoor
set_option linter.unusedVariables false
set_option linter.unusedSimpArgs false
open Go.ChangeShapes Go.WideShapes Go.ChangeAt Go.RowKit Go.Deep
set_option linter.unusedVariables false
set_option linter.unusedSimpArgs false

theorem pick_all {α : Type} (d : α) {Q : Nat → α → Prop} (n : Nat) (h : ∀ i, i < n → ∃ a, Q i a) : ∃ T : Nat → α, ∀ i, i < n → Q i (T i) := by
  classical
  refine ⟨fun i => if hi : i < n then (h i hi).choose else d, fun i hi => ?_⟩
  simp only [hi, dite_true]
  exact (h i hi).choose_spec
section
variable {H : Type} {enc : TypeId × Value → H} {W : World} {base fuel : Nat} {x : DataW H × List MemPlace} {v : Value} {d : DataW H} {p : List MemPlace} {cs : List Value} {t e : TypeId}
theorem open_rowsR {α : Type} (d : α) (f : α → List Value) (z : Nat) (h0 : 0 < z) (ht : Tryz.prog.underlying t = some (.slice e)) (hz : Tryz.prog.cellsOf e = z) (hf : ∀ a, (f a).length = z)
    {Q : α → Prop} (ho : ∀ (fuel : Nat) (cs : List Value) (x : DataW H × List MemPlace), DataW.trod enc Tryz.prog W 0 (fun _ => true) true fuel e cs = some x → ∃ a, cs = f a ∧ Q a)
    (h : DataW.trod enc Tryz.prog W 0 (fun _ => true) true fuel t [v] = some x) :
    ∃ (A : Option Addr) (n c : Nat) (T : Nat → α), v = .slice A n c ∧ (0 < n → ∃ b off, A = some ⟨b, off, none⟩ ∧ b < W.heap.size ∧ ∀ i, i < n → W.rangeAt b (off + i * z) (f (T i))) ∧ (∀ i, i < n → Q (T i)) ∧ n ≤ 9223372036854775807 ∧ (A = none → n = 0 ∧ c = 0) := by
  rcases open_slice ht h with ⟨hcs, _⟩ | ⟨a, len, cap, m, n, D, Pl, hcs, _, hl, hm, hmm, _, hi⟩
  · simp at hcs
    subst hcs
    exact ⟨none, 0, 0, fun _ => d, rfl, fun h => absurd h (by omega), fun i hi => absurd hi (by omega), by omega, fun _ => ⟨rfl, rfl⟩⟩
  · simp at hcs hmm
    subst hcs hmm
    have hm' : m ≤ 9223372036854775807 := hm
    rcases Nat.eq_zero_or_pos m with h0' | hm0
    · obtain rfl : len = 0 := by omega
      exact ⟨_, 0, m, fun _ => d, rfl, fun h => absurd h (by omega), fun i hi => absurd hi (by omega), by omega, fun h => by cases h⟩
    obtain ⟨b, off, spot⟩ := a
    rw [hz] at hi
    have hspot : spot = none := by
      obtain ⟨cs', hc, ht'⟩ := hi 0 hm0
      obtain ⟨_, hcl, hat⟩ := World.cells?_some hc
      have a0 := hat 0 h0
      rw [List.getElem?_eq_getElem (by omega)] at a0
      have := World.cell?_spot (show W.cell? _ = some _ from a0)
      simpa [Addr.add] using this
    subst hspot
    have key : ∀ i, i < m → ∃ a : α, b < W.heap.size ∧ W.rangeAt b (off + i * z) (f a) ∧ Q a := by
      intro i him
      obtain ⟨cs', hc, ht'⟩ := hi i him
      obtain ⟨_, hcl, hat⟩ := World.cells?_some hc
      obtain ⟨a, rfl, hq⟩ := ho _ _ _ ht'
      refine ⟨a, ?_, fun j v hv => ?_, hq⟩
      · have a0 := hat 0 h0
        rw [List.getElem?_eq_getElem (by omega), Addr.add_lit, Addr.add_lit] at a0
        exact block_lt_of_cell a0
      · have hj : j < z := by rw [← hcl]; exact (List.getElem?_eq_some_iff.1 hv).1
        have := hat j hj
        rw [Addr.add_lit, Addr.add_lit] at this
        rw [this]; exact hv
    obtain ⟨T, hT⟩ := pick_all d m key
    exact ⟨_, len, m, T, rfl, fun _ => ⟨b, off, rfl, (hT 0 hm0).1, fun i hi' => (hT i (by omega)).2.1⟩, fun i hi' => (hT i (by omega)).2.2, by omega, fun h => by cases h⟩
set_option maxRecDepth 100000 in
theorem open_q (h : DataW.trod enc Tryz.prog W 0 (fun _ => true) true fuel 53 cs = some x) : ∃ v : Int × Int × Int × Int, cs = qL v := by
  obtain ⟨xs, m, _, _, hl, hn, hel⟩ := DataW.trod_array Tryz.underlying53 h
  have cp : Tryz.prog.cellsOf 47 = 1 := by kernel_rfl
  have hl : cs.length = 4 := hl.trans (by kernel_rfl)
  match cs, hl with
  | [c0, c1, c2, c3], _ =>
    have h0 := hel 0 (by omega)
    have h1 := hel 1 (by omega)
    have h2 := hel 2 (by omega)
    have h3 := hel 3 (by omega)
    simp [cp] at h0 h1 h2 h3
    rw [List.getElem?_eq_getElem (by omega)] at h0 h1 h2 h3
    obtain ⟨a, e0, _, _⟩ := DataW.trod_int Tryz.underlying47 h0
    obtain ⟨b, e1, _, _⟩ := DataW.trod_int Tryz.underlying47 h1
    obtain ⟨c, e2, _, _⟩ := DataW.trod_int Tryz.underlying47 h2
    obtain ⟨g, e3, _, _⟩ := DataW.trod_int Tryz.underlying47 h3
    simp at e0 e1 e2 e3
    subst e0 e1 e2 e3
    exact ⟨(a, b, c, g), rfl⟩
set_option maxRecDepth 100000 in
theorem open_slot (h : DataW.trod enc Tryz.prog W 0 (fun _ => true) true fuel 45 cs = some x) :
    ∃ s : Sl, cs = slL s ∧ LiesG W W.heap.size s.A s.n 4 (fun k => qL (s.I k)) ∧ s.a.Fit ∧ s.n ≤ 9223372036854775807 := by
  have ci : Tryz.prog.cellsOf 3 = 1 := by kernel_rfl
  have csd : Tryz.prog.cellsOf 42 = 6 := by kernel_rfl
  have cq : Tryz.prog.cellsOf 43 = 1 := by kernel_rfl
  obtain ⟨xs, m, _, _, hl, hn, hel⟩ := DataW.trod_struct Tryz.underlying45 h
  have hl : cs.length = 15 := hl.trans (by kernel_rfl)
  have hn5 : xs.length = 5 := hn
  match cs, hl with
  | [v0, v1, v2, v3, v4, v5, v6, v7, v8, v9, v10, v11, v12, v13, v14], _ =>
    match xs, hn5 with
    | [y0, y1, y2, y3, y4], _ =>
      have f0 := hel 0 _ rfl
      have f1 := hel 1 _ rfl
      have f2 := hel 2 _ rfl
      have f3 := hel 3 _ rfl
      have f4 := hel 4 _ rfl
      simp [ci, csd, cq] at f0 f1 f2 f3 f4
      obtain ⟨o, e0, _, _⟩ := DataW.trod_int Tryz.underlying3 f0
      obtain ⟨a, rfl, rfl, rfl, rfl, rfl, rfl, g1⟩ := open_said_cells f1
      obtain ⟨b, rfl, rfl, rfl, rfl, rfl, rfl, g2⟩ := open_said_cells f2
      obtain ⟨z, e3, _, _⟩ := DataW.trod_int Tryz.underlying3 f3
      obtain ⟨A, n, c, T, e4, hT, _, hm, _⟩ := open_rowsR (0, 0, 0, 0) qL 4 (by decide) Tryz.underlying43 (by kernel_rfl) (fun _ => rfl) (Q := fun _ => True) (fun fuel cs x h => by
        obtain ⟨a, ha⟩ := open_q h
        exact ⟨a, ha, trivial⟩) f4
      simp at e0 e3
      subst e0 e3 e4
      exact ⟨⟨o, a, b, z, A, n, c, T⟩, rfl, hT, g1, hm⟩
def sl0 : Sl := ⟨0, ⟨false, 0, 0, 0, 0, 0⟩, ⟨false, 0, 0, 0, 0, 0⟩, 0, none, 0, 0, fun _ => (0, 0, 0, 0)⟩
set_option maxRecDepth 100000 in
theorem open_slots (hv : Value.okWide Tryz.prog W .any base 26 v) (h : DataW.Trod enc Tryz.prog W 0 (fun _ => true) true 26 v d p) :
    ∃ (A : Option Addr) (n c : Nat) (S : Nat → Sl), v = .slice A n c ∧ SlotsIn W A n S := by
  obtain ⟨a, n, c, rfl⟩ := okWide_slice Tryz.underlying26 hv
  obtain ⟨fuel, hf⟩ := h
  obtain ⟨A, n, c, S, e, hT, hq, _, _⟩ := open_rowsR (x := (d, p)) sl0 slL 15 (by decide) Tryz.underlying26 (by kernel_rfl) (fun _ => rfl) (Q := fun s => LiesG W W.heap.size s.A s.n 4 (fun k => qL (s.I k)) ∧ s.a.Fit ∧ s.n ≤ 9223372036854775807) (fun fuel cs x h => open_slot h) (by simpa [Value.cells] using hf)
  exact ⟨A, n, c, S, e, hT, fun i hi => (hq i hi).1, fun i hi => (hq i hi).2.1, fun i hi => (hq i hi).2.2⟩
end
end Go.Proofs.YtkejpkcaojidaaaGreatDoor

