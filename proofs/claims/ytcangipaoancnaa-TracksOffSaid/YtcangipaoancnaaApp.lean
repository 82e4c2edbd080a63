/-
  append onto a row of the call's own, the source nil, empty or not, in this seat's words ('Lies'); a row that is owned reads as a list. No condition but those that are named; nothing of the program is named here.
-/
import Derived.Test.YtcangipaoancnaaLst
import Derived.Maps.AppendAt
import Derived.OwnWalk
namespace Go.Proofs.Ytcangipaoancnaa
open Go.RowKit

section
variable {k : IntKind} {w w' : World} {base g n c : Nat} {e : TypeId} {A : Option Addr} {xs : List Int}

theorem lies_of_owns (h : w.ownsRow base e 1 (.slice A n c) n (xs.map (Value.int k))) : Lies k w w.heap.size A n xs := by
  obtain ⟨hl, h2⟩ := h
  have hl' : xs.length = n := by simpa using hl
  refine ⟨hl', fun hn => ?_⟩
  rcases h2 with ⟨_, h0⟩ | ⟨g, cap, cur, hv, _, hh, hnc, _, hcs, htk⟩
  · omega
  · injection hv with hA
    subst hA
    refine ⟨g, 0, rfl, Blk.lt (t := e) (cs := cur) hh, fun j hj => ?_⟩
    rw [Nat.zero_add, Blk.cell (t := e) (cs := cur) hh j]
    have h1 : (cur.toList.take (n * 1))[j]? = cur[j]? := by
      rw [List.getElem?_take_of_lt (by omega)]; simp
    rw [← h1, htk]
    simp [List.getD, show j < xs.length by omega]

theorem Blk.owns (h : Blk w g e (cellsOf k xs)) (hn : xs.length = n) (hb : base ≤ g) (hm : n ≤ maxLen) : w.ownsRow base e 1 (.slice (some ⟨g, 0, none⟩) n n) n (xs.map (Value.int k)) :=
  ⟨by simp [hn], .inr ⟨g, n, cellsOf k xs, rfl, hb, h, Nat.le_refl _, hm, by simp [cellsOf_size, hn], by
    rw [cellsOf]; simp only [Nat.mul_one]; exact List.take_of_length_le (by simp [hn])⟩⟩

theorem owns_none : w.ownsRow base e 1 (.slice none 0 0) 0 (([] : List Int).map (Value.int k)) := ⟨rfl, .inl ⟨rfl, rfl⟩⟩

theorem Lies.grown {row : Option Nat} {B : Nat} (h : Lies k w B A n xs) (hg : w.grownBy w' row) (hB : B ≤ w.heap.size) (hr : ∀ g, row = some g → B ≤ g) : Lies k w' B A n xs :=
  h.keep (Nat.le_refl _) fun p hp => World.cell?_of_block (hg.block p.block (by omega) (fun e => by have := hr _ e.symm; omega))
theorem Lies.low {B : Nat} (h : Lies k w B A n xs) (hb : Below B w w') : Lies k w' B A n xs := h.keep (Nat.le_refl _) fun _ hp => hb.cell hp
theorem Lies.up {B B' : Nat} (h : Lies k w B A n xs) (hB : B ≤ B') : Lies k w B' A n xs := h.keep hB fun _ _ => rfl
end

/-- append of a list onto a row of the call's own. -/
theorem run_append_lies {P : Program} (w : World) (base : Nat) (t ty e : TypeId) (i : TypeInfo) (z : Value) (bytes : Nat) (ht : P.underlying t = some (.slice e)) (hi : P.info? e = some i) (hz : i.zero = some z)
    (hsize : i.size = 1) (hby : i.bytes = bytes) (hzs : z.cells.size = 1) (k : IntKind)
    (v : Value) (n : Nat) (xs : List Int) (hown : w.ownsRow base e 1 v n (xs.map (Value.int k)))
    (A : Option Addr) (m c : Nat) (ys : List Int) (hr : Lies k w w.heap.size A m ys) (h63 : n + m ≤ maxLen) (hbytes : (n + m) * bytes ≤ 140737488355328) (hbase : base ≤ w.heap.size) :
    ∃ A' c' w', (Builtin.append_ #[t, t] ty #[v, .slice A m c]).run P w = .ok (.slice A' (n + m) c') w' ∧ w'.ownsRow base e 1 (.slice A' (n + m) c') (n + m) ((xs ++ ys).map (Value.int k)) ∧ w.grownBy w' v.ownBlock ∧
      ((Value.slice A' (n + m) c').ownBlock = v.ownBlock ∨ (Value.slice A' (n + m) c').ownBlock = some w.heap.size) := by
  have hl := hr.len
  cases A with
  | none =>
    have hm : m = 0 := by
      rcases Nat.eq_zero_or_pos m with h0 | h0
      · exact h0
      · obtain ⟨b, off, h, _⟩ := hr.at_ h0; cases h
    subst hm
    obtain rfl : ys = [] := List.eq_nil_of_length_eq_zero hl
    have hrun : (Builtin.append_ #[t, t] ty #[v, .slice none 0 c]).run P w = .ok v w := by
      rcases hown.2 with ⟨rfl, rfl⟩ | ⟨g, cap, cur, rfl, _, _, hnc, _⟩
      · simp [Builtin.append_, run_underlying ht, sizeOf, typeInfo, hi, Builtin.lenOf, Builtin.firstCells]
      · simp [Builtin.append_, run_underlying ht, sizeOf, typeInfo, hi, Builtin.lenOf, Builtin.firstCells, hnc, storeCells]
    rcases hown.2 with ⟨hv, h0⟩ | ⟨g, cap, cur, hv, _⟩
    · subst h0
      subst hv
      exact ⟨none, 0, w, hrun, by simpa using hown, World.grownBy.refl _ _, .inl rfl⟩
    · subst hv
      exact ⟨some ⟨g, 0, none⟩, cap, w, hrun, by simpa using hown, World.grownBy.refl _ _, .inl rfl⟩
  | some ad =>
    have hcells : ∀ j u, (ys.map (Value.int k))[j]? = some u → w.cell? (ad.add j) = some u := by
      intro j u hu
      have h0 : 0 < (ys.map (Value.int k)).length := by
        have := (List.getElem?_eq_some_iff.1 hu).1
        omega
      obtain ⟨ad', e', hc⟩ := hr.src h0
      injection e' with e'
      subst e'
      exact hc j u hu
    obtain ⟨v', w', hrun, h2, h3, _, h5⟩ := run_append_own_at (P := P) w base t ty e i z 1 bytes ht hi hz hsize hby hzs (by decide) v n _ hown ad m c (ys.map (Value.int k)) (by simp [hl]) hcells (ints_oneCell _ _) h63 hbytes hbase
    rw [← List.map_append] at h2
    rcases h2.2 with ⟨hv, h0⟩ | ⟨g, cap, cur, hv, _⟩
    · subst hv
      rw [h0] at h2 ⊢
      exact ⟨none, 0, w', hrun, h2, h3, h5⟩
    · subst hv
      exact ⟨some ⟨g, 0, none⟩, cap, w', hrun, h2, h3, h5⟩

theorem wpList_append_lies {P : Program} {w : World} {ops : Array Oper} {rest : List Oper} {o : Oper} {a : Act} {Q : Exit → Act → World → Prop} (hgd : o.guard = none) (s x : Operand) (t : TypeId)
    (ho : o.op = .call { callee := .builtin .append, args := #[s, x], argTypes := #[t, t] })
    (base : Nat) (e : TypeId) (i : TypeInfo) (z : Value) (bytes : Nat) (ht : P.underlying t = some (.slice e)) (hi : P.info? e = some i) (hz : i.zero = some z)
    (hsize : i.size = 1) (hby : i.bytes = bytes) (hzs : z.cells.size = 1) (k : IntKind)
    (v : Value) (n : Nat) (xs : List Int) (hs : a.eval s = v) (hown : w.ownsRow base e 1 v n (xs.map (Value.int k)))
    (A : Option Addr) (m c : Nat) (ys : List Int) (hx : a.eval x = .slice A m c) (hr : Lies k w w.heap.size A m ys) (N : Nat) (hN : n + m = N) (h63 : N ≤ maxLen) (hbytes : N * bytes ≤ 140737488355328) (hbase : base ≤ w.heap.size)
    (h : ∀ A' c' w', w'.ownsRow base e 1 (.slice A' N c') N ((xs ++ ys).map (Value.int k)) → w.grownBy w' v.ownBlock →
      ((Value.slice A' N c').ownBlock = v.ownBlock ∨ (Value.slice A' N c').ownBlock = some w.heap.size) → wpList P ops Q rest (a.put o.dst (.slice A' N c')) w') : wpList P ops Q (o :: rest) a w := by
  subst hN
  obtain ⟨A', c', w', hrun, h2, h3, h4⟩ := run_append_lies (P := P) w base t o.type e i z bytes ht hi hz hsize hby hzs k v n xs hown A m c ys hr h63 hbytes hbase
  refine wpList_plain hgd fun K hK => ?_
  unfold Oper.wp
  simp only [execOp, ho, resolve, invoke, builtin, Sem.run_bind, Sem.run_pure, Result.andThen_ok, List.map_toArray, List.map_cons, List.map_nil, hs, hx, hrun]
  exact hK _ _ (h A' c' w' h2 h3 h4)
/-- append of a list within the capacity: the row stays where it is. -/
theorem wpList_append_room {P : Program} {w : World} {ops : Array Oper} {rest : List Oper} {o : Oper} {a : Act} {Q : Exit → Act → World → Prop} (hgd : o.guard = none) (s x : Operand) (t : TypeId)
    (ho : o.op = .call { callee := .builtin .append, args := #[s, x], argTypes := #[t, t] })
    (base : Nat) (e : TypeId) (i : TypeInfo) (ht : P.underlying t = some (.slice e)) (hi : P.info? e = some i) (hsize : i.size = 1) (k : IntKind)
    (g n cap : Nat) (xs : List Int) (hs : a.eval s = .slice (some ⟨g, 0, none⟩) n cap) (hown : w.ownsRow base e 1 (.slice (some ⟨g, 0, none⟩) n cap) n (xs.map (Value.int k)))
    (A : Option Addr) (m c : Nat) (ys : List Int) (hx : a.eval x = .slice A m c) (hr : Lies k w w.heap.size A m ys) (N : Nat) (hN : n + m = N) (hroom : N ≤ cap)
    (h : ∀ w', w'.ownsRow base e 1 (.slice (some ⟨g, 0, none⟩) N cap) N ((xs ++ ys).map (Value.int k)) → w.grownBy w' (some g) → wpList P ops Q rest (a.put o.dst (.slice (some ⟨g, 0, none⟩) N cap)) w') : wpList P ops Q (o :: rest) a w := by
  subst hN
  have hl := hr.len
  have key : ∃ w', (Builtin.append_ #[t, t] o.type #[.slice (some ⟨g, 0, none⟩) n cap, .slice A m c]).run P w = .ok (.slice (some ⟨g, 0, none⟩) (n + m) cap) w' ∧ w'.ownsRow base e 1 (.slice (some ⟨g, 0, none⟩) (n + m) cap) (n + m) ((xs ++ ys).map (Value.int k)) ∧ w.grownBy w' (some g) := by
    cases A with
    | none =>
      have hm : m = 0 := by
        rcases Nat.eq_zero_or_pos m with h0 | h0
        · exact h0
        · obtain ⟨b, off, h, _⟩ := hr.at_ h0; cases h
      subst hm
      obtain rfl : ys = [] := List.eq_nil_of_length_eq_zero hl
      refine ⟨w, ?_, by simpa using hown, World.grownBy.refl _ _⟩
      have hnc : n ≤ cap := by omega
      simp [Builtin.append_, run_underlying ht, sizeOf, typeInfo, hi, Builtin.lenOf, Builtin.firstCells, hnc, storeCells]
    | some ad =>
      have hcells : ∀ j u, (ys.map (Value.int k))[j]? = some u → w.cell? (ad.add j) = some u := by
        intro j u hu
        have h0 : 0 < (ys.map (Value.int k)).length := by
          have := (List.getElem?_eq_some_iff.1 hu).1
          omega
        obtain ⟨ad', e', hc⟩ := hr.src h0
        injection e' with e'
        subst e'
        exact hc j u hu
      obtain ⟨w', h1, h2, h3⟩ := run_append_fits (P := P) w base t o.type e i 1 ht hi hsize g n cap (xs.map (Value.int k)) hown ad m c (ys.map (Value.int k)) (by simp [hl]) hcells (ints_oneCell _ _) hroom
      rw [← List.map_append] at h2
      exact ⟨w', h1, h2, h3⟩
  obtain ⟨w', hrun, h2, h3⟩ := key
  refine wpList_plain hgd fun K hK => ?_
  unfold Oper.wp
  simp only [execOp, ho, resolve, invoke, builtin, Sem.run_bind, Sem.run_pure, Result.andThen_ok, List.map_toArray, List.map_cons, List.map_nil, hs, hx, hrun]
  exact hK _ _ (h w' h2 h3)
/-- append of one value, which lies in a block of its own, onto a row of the call's own. -/
theorem wpList_append_one {P : Program} {w : World} {ops : Array Oper} {rest : List Oper} {o : Oper} {a : Act} {Q : Exit → Act → World → Prop} (hgd : o.guard = none) (s x : Operand) (t : TypeId)
    (ho : o.op = .call { callee := .builtin .append, args := #[s, x], argTypes := #[t, t] })
    (base : Nat) (e : TypeId) (i : TypeInfo) (z : Value) (bytes : Nat) (ht : P.underlying t = some (.slice e)) (hi : P.info? e = some i) (hz : i.zero = some z)
    (hsize : i.size = 1) (hby : i.bytes = bytes) (hzs : z.cells.size = 1)
    (v : Value) (n : Nat) (xs : List Value) (hs : a.eval s = v) (hown : w.ownsRow base e 1 v n xs)
    (g : Nat) (u : Value) (hx : a.eval x = .slice (some ⟨g, 0, none⟩) 1 1) (hu : w.cell? ⟨g, 0, none⟩ = some u) (h1 : u.oneCell' = true) (h63 : n + 1 ≤ maxLen) (hbytes : (n + 1) * bytes ≤ 140737488355328) (hbase : base ≤ w.heap.size)
    (h : ∀ A' c' w', w'.ownsRow base e 1 (.slice A' (n + 1) c') (n + 1) (xs ++ [u]) → w.grownBy w' v.ownBlock → wpList P ops Q rest (a.put o.dst (.slice A' (n + 1) c')) w') : wpList P ops Q (o :: rest) a w := by
  have hcells : ∀ j v, [u][j]? = some v → w.cell? ((⟨g, 0, none⟩ : Addr).add j) = some v := by
    intro j v hv
    cases j with
    | zero => simp at hv; subst hv; simpa [Addr.add] using hu
    | succ j => simp at hv
  obtain ⟨v', w', hrun, h2, h3, _, _⟩ := run_append_own_at (P := P) w base t o.type e i z 1 bytes ht hi hz hsize hby hzs (by decide) v n xs hown ⟨g, 0, none⟩ 1 1 [u] rfl hcells (by simpa using h1) h63 hbytes hbase
  have key : ∃ A' c', v' = .slice A' (n + 1) c' := by
    rcases h2.2 with ⟨_, h0⟩ | ⟨g', cap, cur, hv, _⟩
    · omega
    · exact ⟨_, _, hv⟩
  obtain ⟨A', c', rfl⟩ := key
  refine wpList_plain hgd fun K hK => ?_
  unfold Oper.wp
  simp only [execOp, ho, resolve, invoke, builtin, Sem.run_bind, Sem.run_pure, Result.andThen_ok, List.map_toArray, List.map_cons, List.map_nil, hs, hx, hrun]
  exact hK _ _ (h A' c' w' h2 h3)
theorem owns_snoc {k : IntKind} {w : World} {base : Nat} {e : TypeId} {A : Option Addr} {c i : Nat} {ts : List Int} {y : Int} (h : w.ownsRow base e 1 (.slice A (i + 1) c) (i + 1) (List.take i (ts.map (Value.int k)) ++ [.int k y])) (hi : i < ts.length) (hy : ts.getD i 0 = y) :
    w.ownsRow base e 1 (.slice A (i + 1) c) (i + 1) ((ts.take (i + 1)).map (Value.int k)) := by
  rw [List.take_succ_eq_append_getElem hi, ← getD_at ts i hi, hy, List.map_append, List.map_take]
  exact h
/-- A row that is full is a block known whole. -/
theorem owns_full {w : World} {base g n : Nat} {e : TypeId} {k : IntKind} {xs : List Int} (h : w.ownsRow base e 1 (.slice (some ⟨g, 0, none⟩) n n) n (xs.map (Value.int k))) : Blk w g e (cellsOf k xs) ∧ base ≤ g ∧ xs.length = n := by
  obtain ⟨hl, h2⟩ := h
  have hl' : xs.length = n := by simpa using hl
  rcases h2 with ⟨hv, _⟩ | ⟨g', cap, cur, hv, hb, hh, hnc, _, hcs, htk⟩
  · cases hv
  · injection hv with hA h3 h4
    injection hA with hA
    injection hA with hA
    subst hA
    subst h4
    refine ⟨?_, hb, hl'⟩
    have : cur = cellsOf k xs := by
      apply Array.toList_inj.1
      rw [cellsOf, ← htk, List.take_of_length_le (by simp; omega)]
    rw [this] at hh
    exact hh
end Go.Proofs.Ytcangipaoancnaa

