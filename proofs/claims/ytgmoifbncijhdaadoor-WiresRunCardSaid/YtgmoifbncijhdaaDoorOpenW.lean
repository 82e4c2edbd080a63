/-
  Acts on wires in memory: how a list of them reads, where one lies, and how one, or a list of them, that came in is opened. No condition.
-/
import Derived.Test.YtgmoifbncijhdaaDoorOpenF
import Derived.Test.YtgmoifbncijhdaaDoorLst
import Derived.Deep.Slices
import Derived.Deep.Fields
namespace Go.Proofs.YtgmoifbncijhdaaDoor
open Go.ChangeShapes Go.WideShapes Go.ChangeAt Go.RowKit Go.Deep

theorem list_of8 {α : Type} {Q : Nat → α → Prop} (d : α) : ∀ n : Nat, (∀ i, i < n → ∃ s, Q i s) → ∃ l : List α, l.length = n ∧ ∀ i, i < n → Q i (l.getD i d) := by
  intro n
  induction n with
  | zero => intro _; exact ⟨[], rfl, fun i hi => absurd hi (by omega)⟩
  | succ n ih =>
    intro h
    obtain ⟨l, hl, hq⟩ := ih fun i hi => h i (by omega)
    obtain ⟨s, hs⟩ := h n (by omega)
    refine ⟨l ++ [s], by simp [hl], fun i hi => ?_⟩
    rcases Nat.lt_succ_iff_lt_or_eq.1 hi with q | q
    · have : (l ++ [s]).getD i d = l.getD i d := by simp [List.getD, List.getElem?_append_left (show i < l.length by omega)]
      rw [this]; exact hq i q
    · subst q
      have : (l ++ [s]).getD i d = s := by simp [List.getD, ← hl]
      rw [this]; exact hs
/-- An act: its kind, the link, the thing, the direction, the node, the hop. -/
structure Ac where
  k : Int
  l : Int
  x : Int
  d : Int
  n : Int
  h : Int
def Ac.zero : Ac := ⟨0, 0, 0, 0, 0, 0⟩
structure Ac.Ok (a : Ac) : Prop where
  k : 0 ≤ a.k ∧ a.k ≤ 255
  l : -9223372036854775808 ≤ a.l ∧ a.l ≤ 9223372036854775807
  d : 0 ≤ a.d ∧ a.d ≤ 255
def Ac.cs (a : Ac) : Array Value := #[.int .u8 a.k, .int .i64 a.l, .int .i64 a.x, .int .u8 a.d, .int .i64 a.n, .int .i64 a.h]
/-- The cells of an act, from an address on. -/
structure AcAt (w : World) (b off : Nat) (a : Ac) : Prop where
  k : w.cell? ⟨b, off, none⟩ = some (.int .u8 a.k)
  l : w.cell? ⟨b, off + 1, none⟩ = some (.int .i64 a.l)
  x : w.cell? ⟨b, off + 2, none⟩ = some (.int .i64 a.x)
  d : w.cell? ⟨b, off + 3, none⟩ = some (.int .u8 a.d)
  n : w.cell? ⟨b, off + 4, none⟩ = some (.int .i64 a.n)
  h : w.cell? ⟨b, off + 5, none⟩ = some (.int .i64 a.h)
def LiesA (w : World) (B : Nat) (A : Option Addr) (n : Nat) (ss : List Ac) : Prop :=
  ss.length = n ∧ (0 < n → ∃ b off, A = some ⟨b, off, none⟩ ∧ b < B ∧ ∀ j, j < n → AcAt w b (off + j * 6) (ss.getD j Ac.zero) ∧ (ss.getD j Ac.zero).Ok)
theorem LiesA.nil_ {w : World} {B : Nat} {A : Option Addr} : LiesA w B A 0 [] := ⟨rfl, fun h => absurd h (by omega)⟩
theorem AcAt.low {w w' : World} {B b off : Nat} {a : Ac} (h : AcAt w b off a) (hb : Below B w w') (hl : b < B) : AcAt w' b off a :=
  ⟨(hb.cell hl).trans h.k, (hb.cell hl).trans h.l, (hb.cell hl).trans h.x, (hb.cell hl).trans h.d, (hb.cell hl).trans h.n, (hb.cell hl).trans h.h⟩
theorem elemActs : Tryd.prog.underlying 22 = some (.slice (Tryd.prog.elem 22)) := by kernel_rfl
theorem sizeActs (w : World) : (sizeOf (Tryd.prog.elem 22)).run Tryd.prog w = .ok 6 w := by kernel_rfl
theorem idxActs {A : Option Addr} {n : Nat} (c : Nat) {k b off : Nat} (hA : A = some ⟨b, off, none⟩) (hk : k < n) (w : World) :
    (Instr.indexAt 22 (.slice A n c) (.int .i64 (k : Int))).run Tryd.prog w = .ok (.pointer (some ⟨b, off + k * 6, none⟩)) w := by
  subst hA
  rw [run_indexAt_slice (h := elemActs), if_pos (by omega), sizeActs]
  simp [Result.andThen, Addr.add_lit]
section
variable {H : Type} {enc : TypeId × Value → H} {W : World} {x : DataW H × List MemPlace} {v : Value} {d : DataW H} {p : List MemPlace}
theorem open_act_cells {fuel : Nat} {v0 v1 v2 v3 v4 v5 : Value} (h : DataW.trod enc Tryd.prog W 0 (fun _ => true) true fuel 32 [v0, v1, v2, v3, v4, v5] = some x) :
    ∃ a : Ac, v0 = .int .u8 a.k ∧ v1 = .int .i64 a.l ∧ v2 = .int .i64 a.x ∧ v3 = .int .u8 a.d ∧ v4 = .int .i64 a.n ∧ v5 = .int .i64 a.h ∧ a.Ok := by
  have ci : Tryd.prog.cellsOf 3 = 1 := by kernel_rfl
  have cu : Tryd.prog.cellsOf 5 = 1 := by kernel_rfl
  obtain ⟨xs, m, _, _, _, hn, hel⟩ := DataW.trod_struct Tryd.underlying32 h
  have hn6 : xs.length = 6 := hn
  match xs, hn6 with
  | [y0, y1, y2, y3, y4, y5], _ =>
    have f0 := hel 0 _ rfl
    have f1 := hel 1 _ rfl
    have f2 := hel 2 _ rfl
    have f3 := hel 3 _ rfl
    have f4 := hel 4 _ rfl
    have f5 := hel 5 _ rfl
    simp [ci, cu] at f0 f1 f2 f3 f4 f5
    obtain ⟨k, e0, _, w0⟩ := DataW.trod_int Tryd.underlying5 f0
    obtain ⟨l, e1, _, w1⟩ := DataW.trod_int Tryd.underlying3 f1
    obtain ⟨z, e2, _, w2⟩ := DataW.trod_int Tryd.underlying3 f2
    obtain ⟨d, e3, _, w3⟩ := DataW.trod_int Tryd.underlying5 f3
    obtain ⟨n, e4, _, w4⟩ := DataW.trod_int Tryd.underlying3 f4
    obtain ⟨h, e5, _, w5⟩ := DataW.trod_int Tryd.underlying3 f5
    simp at e0 e1 e2 e3 e4 e5
    exact ⟨⟨k, l, z, d, n, h⟩, e0, e1, e2, e3, e4, e5, bounds_u8 w0, bounds_i64 w1, bounds_u8 w3⟩
theorem open_act {base : Nat} (hv : Value.okWide Tryd.prog W .any base 32 v) (h : DataW.Trod enc Tryd.prog W 0 (fun _ => true) true 32 v d p) :
    ∃ a : Ac, v = .agg a.cs ∧ a.Ok := by
  obtain ⟨l, rfl, hl⟩ := agg_str (n := 6) Tryd.underlying32 (by kernel_rfl) hv
  obtain ⟨fuel, hf⟩ := h
  match l, hl with
  | [v0, v1, v2, v3, v4, v5], _ =>
    simp only [Value.cells] at hf
    obtain ⟨a, rfl, rfl, rfl, rfl, rfl, rfl, ok⟩ := open_act_cells hf
    exact ⟨a, rfl, ok⟩
set_option maxRecDepth 100000 in
theorem open_acts1 {fuel : Nat} (h : DataW.trod enc Tryd.prog W 0 (fun _ => true) true fuel 22 [v] = some x) :
    ∃ (a : Option Addr) (n c : Nat) (ss : List Ac), v = .slice a n c ∧ LiesA W W.heap.size a n ss := by
  have cs6 : Tryd.prog.cellsOf 32 = 6 := by kernel_rfl
  rcases open_slice Tryd.underlying22 h with ⟨hcs, _⟩ | ⟨a, len, cap, m, n, D, Pl, hcs, _, hl, hm, hmm, _, hi⟩
  · simp at hcs
    subst hcs
    exact ⟨none, 0, 0, [], rfl, LiesA.nil_⟩
  · simp at hcs hmm
    subst hcs hmm
    rcases Nat.eq_zero_or_pos m with h0 | hm0
    · obtain rfl : len = 0 := by omega
      exact ⟨_, 0, m, [], rfl, LiesA.nil_⟩
    obtain ⟨b, off, spot⟩ := a
    have hspot : spot = none := by
      obtain ⟨cs', hc, ht'⟩ := hi 0 hm0
      rw [cs6] at hc
      obtain ⟨_, hcl, hat⟩ := World.cells?_some hc
      match cs', hcl with
      | [v0, v1, v2, v3, v4, v5], _ =>
        have a0 := hat 0 (by omega)
        have := World.cell?_spot (show W.cell? _ = some _ from a0)
        simpa [Addr.add] using this
    subst hspot
    have key : ∀ i, i < m → ∃ s : Ac, b < W.heap.size ∧ AcAt W b (off + i * 6) s ∧ s.Ok := by
      intro i him
      obtain ⟨cs', hc, ht'⟩ := hi i him
      rw [cs6] at hc
      obtain ⟨_, hcl, hat⟩ := World.cells?_some hc
      match cs', hcl with
      | [v0, v1, v2, v3, v4, v5], _ =>
        obtain ⟨a, rfl, rfl, rfl, rfl, rfl, rfl, ok⟩ := open_act_cells ht'
        have a0 := hat 0 (by omega)
        have a1 := hat 1 (by omega)
        have a2 := hat 2 (by omega)
        have a3 := hat 3 (by omega)
        have a4 := hat 4 (by omega)
        have a5 := hat 5 (by omega)
        simp only [Addr.add_lit, Nat.add_zero, List.getElem?_cons_zero, List.getElem?_cons_succ] at a0 a1 a2 a3 a4 a5
        exact ⟨a, by simpa using block_lt_of_cell a0, ⟨a0, a1, a2, a3, a4, a5⟩, ok⟩
    obtain ⟨ts, htl, htq⟩ := list_of8 Ac.zero len fun i hi' => key i (by omega)
    refine ⟨_, len, m, ts, rfl, htl, fun hn => ?_⟩
    exact ⟨b, off, rfl, (htq 0 hn).1, fun j hj => (htq j hj).2⟩
theorem open_acts {base : Nat} (hv : Value.okWide Tryd.prog W .any base 22 v) (h : DataW.Trod enc Tryd.prog W 0 (fun _ => true) true 22 v d p) :
    ∃ (a : Option Addr) (n c : Nat) (ss : List Ac), v = .slice a n c ∧ LiesA W W.heap.size a n ss := by
  obtain ⟨a, n, c, rfl⟩ := okWide_slice Tryd.underlying22 hv
  obtain ⟨fuel, hf⟩ := h
  exact open_acts1 (x := (d, p)) (by simpa [Value.cells] using hf)
end
end Go.Proofs.YtgmoifbncijhdaaDoor
