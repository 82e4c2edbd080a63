/-
  How an array of four integers that came in is opened. No condition.
-/
import Derived.Test.YtkejpkcaojidaaaGreatDoorOpenC
import Derived.Test.YtkejpkcaojidaaaGreatDoorCfR
import Derived.Deep.Slices
import Derived.Deep.Fields
import Derived.Test.YtkejpkcaojidaaaGreatDoorSn4
import Derived.LaidMore
import Derived.Stop.Joined
namespace Go.Proofs.YtkejpkcaojidaaaGreatDoor
set_option linter.unusedVariables false
set_option linter.unusedSimpArgs false
open Go.ChangeShapes Go.WideShapes Go.ChangeAt Go.RowKit Go.Deep

theorem list_of {α : Type} {Q : Nat → α → Prop} (d : α) : ∀ n : Nat, (∀ i, i < n → ∃ s, Q i s) → ∃ l : List α, l.length = n ∧ ∀ i, i < n → Q i (l.getD i d) := by
  intro n
  induction n with
  | zero => intro _; exact ⟨[], rfl, fun i hi => absurd hi (by omega)⟩
  | succ n ih =>
    intro h
    obtain ⟨l, hl, hq⟩ := ih fun i hi => h i (by omega)
    obtain ⟨s, hs⟩ := h n (by omega)
    refine ⟨l ++ [s], by simp [hl], fun i hi => ?_⟩
    rcases Nat.lt_succ_iff_lt_or_eq.1 hi with q | q
    · have : (l ++ [s]).getD i d = l.getD i d := by simp [List.getD, List.getElem?_append_left (show i < l.length by omega)]
      rw [this]; exact hq i q
    · subst q
      have : (l ++ [s]).getD i d = s := by simp [List.getD, ← hl]
      rw [this]; exact hs
section
variable {H : Type} {enc : TypeId × Value → H} {W : World} {x : DataW H × List MemPlace} {v : Value} {d : DataW H} {p : List MemPlace}
set_option maxRecDepth 100000 in
theorem open_nums {fuel : Nat} (h : DataW.trod enc Tryz.prog W 0 (fun _ => true) true fuel 22 [v] = some x) :
    ∃ (a : Option Addr) (n c : Nat) (xs : List Int), v = .slice a n c ∧ Lies .i64 W W.heap.size a n xs := by
  rcases open_ints Tryz.underlying22 Tryz.underlying3 (by kernel_rfl) h with ⟨hcs, _⟩ | ⟨b, l, c', zs, hcs, _, hl, hm, hz, _, hcell, hwz⟩
  · simp at hcs
    subst hcs
    exact ⟨none, 0, 0, [], rfl, Lies.nil_⟩
  · simp at hcs
    subst hcs
    have hz' : zs.length = c' := by simpa using hz
    refine ⟨_, l, c', zs.take l, rfl, ⟨by simp; omega, fun hn => ?_⟩⟩
    have h0 := hcell 0 (by omega)
    obtain ⟨b, off, spot⟩ := b
    have hspot : spot = none := by simpa [Addr.add] using World.cell?_spot h0
    subst hspot
    refine ⟨b, off, rfl, by simpa [Addr.add] using block_lt_of_cell h0, fun j hj => ?_⟩
    have := hcell j (by omega)
    rw [Addr.add_lit] at this
    rw [this]
    have hj' : j < zs.length := by omega
    simp [List.getD, hj, hj']
set_option maxRecDepth 100000 in
theorem open_sts {fuel : Nat} (h : DataW.trod enc Tryz.prog W 0 (fun _ => true) true fuel 23 [v] = some x) :
    ∃ (a : Option Addr) (n c : Nat) (ts : List (Int × Int × Int)), v = .slice a n c ∧ LiesT W W.heap.size a n ts := by
  have c3 : Tryz.prog.cellsOf 3 = 1 := by kernel_rfl
  have cu : Tryz.prog.cellsOf 38 = 1 := by kernel_rfl
  have cs3 : Tryz.prog.cellsOf 131 = 3 := by kernel_rfl
  rcases open_slice Tryz.underlying23 h with ⟨hcs, _⟩ | ⟨a, len, cap, m, n, D, Pl, hcs, _, hl, hm, hmm, _, hi⟩
  · simp at hcs
    subst hcs
    exact ⟨none, 0, 0, [], rfl, LiesT.nil_⟩
  · simp at hcs hmm
    subst hcs hmm
    rcases Nat.eq_zero_or_pos m with h0 | hm0
    · obtain rfl : len = 0 := by omega
      exact ⟨_, 0, m, [], rfl, LiesT.nil_⟩
    obtain ⟨b, off, spot⟩ := a
    have hspot : spot = none := by
      obtain ⟨cs', hc, ht'⟩ := hi 0 hm0
      rw [cs3] at hc
      obtain ⟨_, hcl, hat⟩ := World.cells?_some hc
      match cs', hcl with
      | [v0, v1, v2], _ =>
        have a0 := hat 0 (by omega)
        have := World.cell?_spot (show W.cell? _ = some _ from a0)
        simpa [Addr.add] using this
    subst hspot
    have key : ∀ i, i < m → ∃ s : Int × Int × Int, b < W.heap.size ∧ W.cell? ⟨b, off + i * 3, none⟩ = some (.int .i64 s.1) ∧ W.cell? ⟨b, off + i * 3 + 1, none⟩ = some (.int .u32 s.2.1) ∧ W.cell? ⟨b, off + i * 3 + 2, none⟩ = some (.int .i64 s.2.2) := by
      intro i him
      obtain ⟨cs', hc, ht'⟩ := hi i him
      rw [cs3] at hc
      obtain ⟨ys, n', _, _, hlen, hyl, hf⟩ := DataW.trod_struct Tryz.underlying131 ht'
      obtain ⟨_, hcl, hat⟩ := World.cells?_some hc
      match cs', hcl with
      | [v0, v1, v2], _ =>
        have hy3 : ys.length = 3 := hyl
        match ys, hy3 with
        | [y0, y1, y2], _ =>
          have f0 := hf 0 _ rfl
          have f1 := hf 1 _ rfl
          have f2 := hf 2 _ rfl
          simp [c3, cu] at f0 f1 f2
          obtain ⟨x0, e0, _, _⟩ := DataW.trod_int Tryz.underlying3 f0
          obtain ⟨x1, e1, _, _⟩ := DataW.trod_int Tryz.underlying38 f1
          obtain ⟨x2, e2, _, _⟩ := DataW.trod_int Tryz.underlying3 f2
          simp at e0 e1 e2
          subst e0 e1 e2
          have a0 := hat 0 (by omega)
          have a1 := hat 1 (by omega)
          have a2 := hat 2 (by omega)
          simp only [Addr.add_lit, Nat.add_zero, List.getElem?_cons_zero, List.getElem?_cons_succ] at a0 a1 a2
          exact ⟨(x0, x1, x2), by simpa using block_lt_of_cell a0, a0, a1, a2⟩
    obtain ⟨ts, htl, htq⟩ := list_of (0, 0, 0) len fun i hi' => key i (by omega)
    refine ⟨_, len, m, ts, rfl, htl, fun hn => ?_⟩
    exact ⟨b, off, rfl, (htq 0 hn).1, fun j hj => (htq j hj).2⟩
set_option maxRecDepth 100000 in
theorem open_cf (hv' : ∃ cs, v = .agg cs ∧ cs.size = Tryz.prog.cellsOf 25) (h : DataW.Trod enc Tryz.prog W 0 (fun _ => true) true 25 v d p) :
    ∃ c : Cf, v = .agg #[.int .i64 c.N, .slice c.pA c.pn c.pc, .slice c.sA c.sn c.sc, .int .i64 c.L, .slice c.bA c.bn c.bc, .slice c.tA c.tn c.tc, .int .i64 c.M, .int .i64 c.G, .int .i64 c.F] ∧ CfRaw W c := by
  obtain ⟨cs, rfl, hsz⟩ := hv'
  have c9 : Tryz.prog.cellsOf 25 = 9 := by kernel_rfl
  have ci : Tryz.prog.cellsOf 3 = 1 := by kernel_rfl
  have cn : Tryz.prog.cellsOf 22 = 1 := by kernel_rfl
  have ct : Tryz.prog.cellsOf 23 = 1 := by kernel_rfl
  rw [c9] at hsz
  obtain ⟨l⟩ := cs
  obtain ⟨fuel, hf⟩ := h
  obtain ⟨xs, m, _, _, _, hn, hel⟩ := DataW.trod_struct Tryz.underlying25 hf
  have hn9 : xs.length = 9 := hn
  match l, (show l.length = 9 from hsz) with
  | [v0, v1, v2, v3, v4, v5, v6, v7, v8], _ =>
    match xs, hn9 with
    | [y0, y1, y2, y3, y4, y5, y6, y7, y8], _ =>
      have f0 := hel 0 _ rfl
      have f1 := hel 1 _ rfl
      have f2 := hel 2 _ rfl
      have f3 := hel 3 _ rfl
      have f4 := hel 4 _ rfl
      have f5 := hel 5 _ rfl
      have f6 := hel 6 _ rfl
      have f7 := hel 7 _ rfl
      have f8 := hel 8 _ rfl
      simp [Value.cells, ci, cn, ct] at f0 f1 f2 f3 f4 f5 f6 f7 f8
      obtain ⟨N, e0, _, _⟩ := DataW.trod_int Tryz.underlying3 f0
      obtain ⟨pA, pn, pc, P, e1, hp⟩ := open_nums f1
      obtain ⟨sA, sn, sc, S, e2, hs⟩ := open_nums f2
      obtain ⟨L, e3, _, _⟩ := DataW.trod_int Tryz.underlying3 f3
      obtain ⟨bA, bn, bc, B, e4, hb⟩ := open_nums f4
      obtain ⟨tA, tn, tc, T, e5, ht⟩ := open_sts f5
      obtain ⟨M, e6, _, _⟩ := DataW.trod_int Tryz.underlying3 f6
      obtain ⟨G, e7, _, _⟩ := DataW.trod_int Tryz.underlying3 f7
      obtain ⟨F, e8, _, _⟩ := DataW.trod_int Tryz.underlying3 f8
      simp at e0 e3 e6 e7 e8
      subst e0 e1 e2 e3 e4 e5 e6 e7 e8
      exact ⟨⟨N, L, M, G, F, pA, pn, pc, sA, sn, sc, bA, bn, bc, tA, tn, tc, P, S, B, T⟩, rfl, hp, hs, hb, ht⟩
end
end Go.Proofs.YtkejpkcaojidaaaGreatDoor

namespace Go.Proofs.YtkejpkcaojidaaaGreatDoor
open Go.ChangeShapes Go.WideShapes Go.ChangeAt Go.RowKit

section
variable {H : Type} {enc : TypeId × Value → H} {W : World} {base : Nat} {x : DataW H × List MemPlace} {v : Value} {d : DataW H} {p : List MemPlace}
theorem open_pay_cells {fuel : Nat} {v0 v1 v2 v3 : Value} (h : DataW.trod enc Tryz.prog W 0 (fun _ => true) true fuel 40 [v0, v1, v2, v3] = some x) :
    ∃ k s q z : Int, v0 = .int .u8 k ∧ v1 = .int .u8 s ∧ v2 = .int .u32 q ∧ v3 = .int .u32 z ∧ (Lit.int .u8 k).wf = true ∧ (Lit.int .u8 s).wf = true ∧ (Lit.int .u32 q).wf = true ∧ (Lit.int .u32 z).wf = true := by
  have ck : Tryz.prog.cellsOf 37 = 1 := by kernel_rfl
  have c8 : Tryz.prog.cellsOf 5 = 1 := by kernel_rfl
  have cu : Tryz.prog.cellsOf 38 = 1 := by kernel_rfl
  obtain ⟨xs, m, _, _, _, hn, hel⟩ := DataW.trod_struct Tryz.underlying40 h
  have hn4 : xs.length = 4 := hn
  match xs, hn4 with
  | [y0, y1, y2, y3], _ =>
    have f0 := hel 0 _ rfl
    have f1 := hel 1 _ rfl
    have f2 := hel 2 _ rfl
    have f3 := hel 3 _ rfl
    simp [ck, c8, cu] at f0 f1 f2 f3
    obtain ⟨k, e0, _, w0⟩ := DataW.trod_int Tryz.underlying37 f0
    obtain ⟨s, e1, _, w1⟩ := DataW.trod_int Tryz.underlying5 f1
    obtain ⟨q, e2, _, w2⟩ := DataW.trod_int Tryz.underlying38 f2
    obtain ⟨z, e3, _, w3⟩ := DataW.trod_int Tryz.underlying38 f3
    simp at e0 e1 e2 e3
    exact ⟨k, s, q, z, e0, e1, e2, e3, w0, w1, w2, w3⟩
end
end Go.Proofs.YtkejpkcaojidaaaGreatDoor

namespace Go.Proofs.YtkejpkcaojidaaaGreatDoor
open Go.ChangeShapes Go.WideShapes Go.ChangeAt Go.RowKit Go.Deep

section
variable {H : Type} {enc : TypeId × Value → H} {W : World} {base : Nat} {x : DataW H × List MemPlace} {v : Value} {d : DataW H} {p : List MemPlace}
set_option maxRecDepth 100000 in
theorem open_said_cells {fuel : Nat} {v0 v1 v2 v3 v4 v5 : Value} (h : DataW.trod enc Tryz.prog W 0 (fun _ => true) true fuel 42 [v0, v1, v2, v3, v4, v5] = some x) :
    ∃ a : Sd, v0 = .bool a.i ∧ v1 = .int .i64 a.a ∧ v2 = .int .u8 a.k ∧ v3 = .int .u8 a.s ∧ v4 = .int .u32 a.q ∧ v5 = .int .u32 a.v ∧ a.Fit := by
  have cb : Tryz.prog.cellsOf 4 = 1 := by kernel_rfl
  have ci : Tryz.prog.cellsOf 2 = 1 := by kernel_rfl
  have cp : Tryz.prog.cellsOf 40 = 4 := by kernel_rfl
  obtain ⟨xs, m, _, _, _, hn, hel⟩ := DataW.trod_struct Tryz.underlying42 h
  have hn3 : xs.length = 3 := hn
  match xs, hn3 with
  | [y0, y1, y2], _ =>
    have f0 := hel 0 _ rfl
    have f1 := hel 1 _ rfl
    have f2 := hel 2 _ rfl
    simp [cb, ci, cp] at f0 f1 f2
    obtain ⟨b, e0, _⟩ := DataW.trod_bool Tryz.underlying4 f0
    obtain ⟨a, e1, _, _⟩ := DataW.trod_int Tryz.underlying2 f1
    obtain ⟨k, s, q, z, e2, e3, e4, e5, w0, w1, w2, w3⟩ := open_pay_cells f2
    simp at e0 e1
    have b0 := bounds_u8 w0
    have b1 := bounds_u8 w1
    have b2 := bounds_u32 w2
    have b3 := bounds_u32 w3
    exact ⟨⟨b, a, k, s, q, z⟩, e0, e1, e2, e3, e4, e5, ⟨b0.1, b0.2, b1.1, b1.2, b2.1, by simp only; omega, b3.1, by simp only; omega⟩⟩
end
end Go.Proofs.YtkejpkcaojidaaaGreatDoor

namespace Go.Proofs.YtkejpkcaojidaaaGreatDoor
open Go.ChangeShapes Go.WideShapes Go.ChangeAt Go.WideMaps Go.WideElems Go.RowKit
section
variable {H : Type} {enc : TypeId × Value → H} {P : Program} {W : World} {base : Nat} {t e : TypeId} {k : IntKind} {v : Value} {d : DataW H} {p : List MemPlace}
end
end Go.Proofs.YtkejpkcaojidaaaGreatDoor

