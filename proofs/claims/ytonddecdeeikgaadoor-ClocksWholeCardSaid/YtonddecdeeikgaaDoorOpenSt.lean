/-
  Steps in memory: how a list of them reads, where one lies, and how one that came in is opened. No condition.
-/
import Derived.Test.YtonddecdeeikgaaDoorOpenCl
namespace Go.Proofs.YtonddecdeeikgaaDoor
open Go.ChangeShapes Go.WideShapes Go.ChangeAt Go.RowKit Go.Deep Cl

/-- A step: the age, how many ticks, does it go on, is it sure. -/
structure St where
  a : Int
  m : Int
  g : Bool
  s : Bool
def St.zero : St := ⟨0, 0, false, false⟩
def St.Ok (x : St) : Prop := -9223372036854775808 ≤ x.a ∧ x.a ≤ 9223372036854775807 ∧ 0 ≤ x.m ∧ x.m ≤ 65535
/-- The cells of a step, from an address on. -/
def StAt (w : World) (b off : Nat) (x : St) : Prop := w.cell? ⟨b, off, none⟩ = some (.int .i64 x.a) ∧ w.cell? ⟨b, off + 1, none⟩ = some (.int .u16 x.m) ∧ w.cell? ⟨b, off + 2, none⟩ = some (.bool x.g) ∧ w.cell? ⟨b, off + 3, none⟩ = some (.bool x.s)
def LiesS (w : World) (B : Nat) (A : Option Addr) (n : Nat) (ss : List St) : Prop :=
  ss.length = n ∧ (0 < n → ∃ b off, A = some ⟨b, off, none⟩ ∧ b < B ∧ ∀ j, j < n → StAt w b (off + j * 4) (ss.getD j St.zero) ∧ (ss.getD j St.zero).Ok)
section
variable {w w' : World} {B B' n : Nat} {A : Option Addr} {ss : List St}
theorem LiesS.nil_ : LiesS w B A 0 [] := ⟨rfl, fun h => absurd h (by omega)⟩
theorem LiesS.keep (h : LiesS w B A n ss) (hB : B ≤ B') (hk : ∀ p : Addr, p.block < B → w'.cell? p = w.cell? p) : LiesS w' B' A n ss :=
  ⟨h.1, fun hn => by
    obtain ⟨b, off, e, hb, hc⟩ := h.2 hn
    exact ⟨b, off, e, by omega, fun j hj => ⟨⟨(hk _ hb).trans (hc j hj).1.1, (hk _ hb).trans (hc j hj).1.2.1, (hk _ hb).trans (hc j hj).1.2.2.1, (hk _ hb).trans (hc j hj).1.2.2.2⟩, (hc j hj).2⟩⟩⟩
theorem LiesS.on (h : LiesS w w.heap.size A n ss) (hb : Below w.heap.size w w') : LiesS w' w'.heap.size A n ss :=
  h.keep hb.size fun _ hp => hb.cell hp
theorem StAt.on {b off : Nat} {x : St} (h : StAt w b off x) (hb : Below w.heap.size w w') (hl : b < w.heap.size) : StAt w' b off x :=
  ⟨(hb.cell hl).trans h.1, (hb.cell hl).trans h.2.1, (hb.cell hl).trans h.2.2.1, (hb.cell hl).trans h.2.2.2⟩
end
theorem elemSteps : Tryd.prog.underlying 61 = some (.slice (Tryd.prog.elem 61)) := by kernel_rfl
theorem sizeSteps (w : World) : (sizeOf (Tryd.prog.elem 61)).run Tryd.prog w = .ok 4 w := by kernel_rfl
theorem idxSteps {A : Option Addr} {n : Nat} (c : Nat) {k b off : Nat} (hA : A = some ⟨b, off, none⟩) (hk : k < n) (w : World) :
    (Instr.indexAt 61 (.slice A n c) (.int .i64 (k : Int))).run Tryd.prog w = .ok (.pointer (some ⟨b, off + k * 4, none⟩)) w := by
  subst hA
  rw [run_indexAt_slice (h := elemSteps), if_pos (by omega), sizeSteps]
  simp [Result.andThen, Addr.add_lit]
section
variable {H : Type} {enc : TypeId × Value → H} {W : World} {x : DataW H × List MemPlace} {v : Value} {d : DataW H} {p : List MemPlace}
set_option maxRecDepth 100000 in
theorem open_steps1 {fuel : Nat} (h : DataW.trod enc Tryd.prog W 0 (fun _ => true) true fuel 61 [v] = some x) :
    ∃ (a : Option Addr) (n c : Nat) (ss : List St), v = .slice a n c ∧ LiesS W W.heap.size a n ss := by
  have ci : Tryd.prog.cellsOf 2 = 1 := by kernel_rfl
  have cu : Tryd.prog.cellsOf 62 = 1 := by kernel_rfl
  have cb : Tryd.prog.cellsOf 4 = 1 := by kernel_rfl
  have cs4 : Tryd.prog.cellsOf 64 = 4 := by kernel_rfl
  rcases open_slice Tryd.underlying61 h with ⟨hcs, _⟩ | ⟨a, len, cap, m, n, D, Pl, hcs, _, hl, hm, hmm, _, hi⟩
  · simp at hcs
    subst hcs
    exact ⟨none, 0, 0, [], rfl, LiesS.nil_⟩
  · simp at hcs hmm
    subst hcs hmm
    rcases Nat.eq_zero_or_pos m with h0 | hm0
    · obtain rfl : len = 0 := by omega
      exact ⟨_, 0, m, [], rfl, LiesS.nil_⟩
    obtain ⟨b, off, spot⟩ := a
    have hspot : spot = none := by
      obtain ⟨cs', hc, ht'⟩ := hi 0 hm0
      rw [cs4] at hc
      obtain ⟨_, hcl, hat⟩ := World.cells?_some hc
      match cs', hcl with
      | [v0, v1, v2, v3], _ =>
        have a0 := hat 0 (by omega)
        have := World.cell?_spot (show W.cell? _ = some _ from a0)
        simpa [Addr.add] using this
    subst hspot
    have key : ∀ i, i < m → ∃ s : St, b < W.heap.size ∧ StAt W b (off + i * 4) s ∧ s.Ok := by
      intro i him
      obtain ⟨cs', hc, ht'⟩ := hi i him
      rw [cs4] at hc
      obtain ⟨ys, n', _, _, hlen, hyl, hf⟩ := DataW.trod_struct Tryd.underlying64 ht'
      obtain ⟨_, hcl, hat⟩ := World.cells?_some hc
      match cs', hcl with
      | [v0, v1, v2, v3], _ =>
        have hy4 : ys.length = 4 := hyl
        match ys, hy4 with
        | [y0, y1, y2, y3], _ =>
          have f0 := hf 0 _ rfl
          have f1 := hf 1 _ rfl
          have f2 := hf 2 _ rfl
          have f3 := hf 3 _ rfl
          simp [ci, cu, cb] at f0 f1 f2 f3
          obtain ⟨x0, e0, _, w0⟩ := DataW.trod_int Tryd.underlying2 f0
          obtain ⟨x1, e1, _, w1⟩ := DataW.trod_int Tryd.underlying62 f1
          obtain ⟨x2, e2, _⟩ := DataW.trod_bool Tryd.underlying4 f2
          obtain ⟨x3, e3, _⟩ := DataW.trod_bool Tryd.underlying4 f3
          simp at e0 e1 e2 e3
          subst e0 e1 e2 e3
          have a0 := hat 0 (by omega)
          have a1 := hat 1 (by omega)
          have a2 := hat 2 (by omega)
          have a3 := hat 3 (by omega)
          simp only [Addr.add_lit, Nat.add_zero, List.getElem?_cons_zero, List.getElem?_cons_succ] at a0 a1 a2 a3
          simp [Lit.wf, IntKind.min, IntKind.max, IntKind.bits, IntKind.signed] at w0 w1
          exact ⟨⟨x0, x1, x2, x3⟩, by simpa using block_lt_of_cell a0, ⟨a0, a1, a2, a3⟩, w0.1, w0.2, w1.1, w1.2⟩
    obtain ⟨ts, htl, htq⟩ := list_of St.zero len fun i hi' => key i (by omega)
    refine ⟨_, len, m, ts, rfl, htl, fun hn => ?_⟩
    exact ⟨b, off, rfl, (htq 0 hn).1, fun j hj => (htq j hj).2⟩
theorem open_steps {base : Nat} (hv : Value.okWide Tryd.prog W .any base 61 v) (h : DataW.Trod enc Tryd.prog W 0 (fun _ => true) true 61 v d p) :
    ∃ (a : Option Addr) (n c : Nat) (ss : List St), v = .slice a n c ∧ LiesS W W.heap.size a n ss := by
  obtain ⟨a, n, c, rfl⟩ := okWide_slice Tryd.underlying61 hv
  obtain ⟨fuel, hf⟩ := h
  exact open_steps1 (x := (d, p)) (by simpa [Value.cells] using hf)
end
end Go.Proofs.YtonddecdeeikgaaDoor
