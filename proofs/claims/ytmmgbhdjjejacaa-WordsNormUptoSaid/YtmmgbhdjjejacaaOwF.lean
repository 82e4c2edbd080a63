/-
  Rows of one's own whose elements have many cells: append, and how they read. Nothing of the program is named here; no condition but those that are named.
-/
import Derived.Test.YtmmgbhdjjejacaaBsl
import Derived.Test.YtmmgbhdjjejacaaKeep
import Derived.Test.YtmmgbhdjjejacaaWd8
namespace Go.Proofs.Ytmmgbhdjjejacaa
open Go.RowKit

section
variable {P : Program} {w w' : World} {base size n c : Nat} {e : TypeId} {A : Option Addr} {xs : List Value}
theorem ownsF_nil : w.ownsRow base e size (.slice none 0 0) 0 [] := ⟨by simp, .inl ⟨rfl, rfl⟩⟩
theorem ownsF_on (h : w.ownsRow base e size (.slice A n c) n xs) (hb : Below w.heap.size w w') : w'.ownsRow base e size (.slice A n c) n xs := by
  obtain ⟨h1, h2⟩ := h
  refine ⟨h1, ?_⟩
  rcases h2 with h2 | ⟨g, cap, cur, hv, hb', hh, r⟩
  · exact .inl h2
  · exact .inr ⟨g, cap, cur, hv, hb', Blk.on (t := e) (cs := cur) hh hb, r⟩
/-- The row's block is older than the one that is written. -/
theorem ownsF_but {x : Nat} (h : w.ownsRow base e size (.slice A n c) n xs) (hb : But x w w') (hx : ∀ g, A = some ⟨g, 0, none⟩ → g ≠ x) : w'.ownsRow base e size (.slice A n c) n xs := by
  obtain ⟨h1, h2⟩ := h
  refine ⟨h1, ?_⟩
  rcases h2 with h2 | ⟨g, cap, cur, hv, hb', hh, r⟩
  · exact .inl h2
  · have hA : A = some ⟨g, 0, none⟩ := by injection hv
    exact .inr ⟨g, cap, cur, hv, hb', hb.blk (t := e) (cs := cur) hh (hx g hA), r⟩
theorem ownsF_kept {ts : List TypeId} (h : w.ownsRow base e size (.slice A n c) n xs) (hk : KeptBut w w' ts) (he : e ∉ ts) : w'.ownsRow base e size (.slice A n c) n xs := by
  obtain ⟨h1, h2⟩ := h
  refine ⟨h1, ?_⟩
  rcases h2 with h2 | ⟨g, cap, cur, hv, hb, hh, r⟩
  · exact .inl h2
  · exact .inr ⟨g, cap, cur, hv, hb, hk g e cur he hh, r⟩
theorem ownsF_mono {base' : Nat} (h : w.ownsRow base e size (.slice A n c) n xs) (hb : base' ≤ base) : w.ownsRow base' e size (.slice A n c) n xs := by
  obtain ⟨h1, h2⟩ := h
  refine ⟨h1, ?_⟩
  rcases h2 with h2 | ⟨g, cap, cur, hv, hb', r⟩
  · exact .inl h2
  · exact .inr ⟨g, cap, cur, hv, by omega, r⟩
theorem But.kept {g : Nat} {t : TypeId} {cs : Array Value} (hB : Blk w g t cs) (h : But g w w') : KeptBut w w' [t] := fun x t' cs' ht hX => h.blk hX (hX.ne hB (by simpa using ht))
theorem PIn.keptBut {g O : Nat} {t : TypeId} {X Z L : List Value} (hB : PIn w g O t X Z L) (h : But g w w') : KeptBut w w' [t] := h.kept hB.blk
theorem ownsF_lt (h : w.ownsRow base e size (.slice A n c) n xs) {g : Nat} (hA : A = some ⟨g, 0, none⟩) : base ≤ g ∧ g < w.heap.size := by
  rcases h.2 with ⟨hv, _⟩ | ⟨g', cap, cur, hv, hb', hh, _⟩
  · rw [hA] at hv; cases hv
  · rw [hA] at hv
    injection hv with hv
    injection hv with hv
    injection hv with hv
    subst hv
    exact ⟨hb', Blk.lt (t := e) (cs := cur) hh⟩
theorem ownsF_get (h : w.ownsRow base e size (.slice A n c) n xs) (h0 : 0 < n) : ∃ g, A = some ⟨g, 0, none⟩ ∧ base ≤ g ∧ g < w.heap.size ∧ ∀ j v, xs[j]? = some v → w.cell? ⟨g, j, none⟩ = some v := by
  rcases h.2 with ⟨_, h0'⟩ | ⟨g, cap, cur, hv, hb, hh, hnc, _, hcs, htk⟩
  · omega
  · injection hv with hA
    refine ⟨g, hA, hb, Blk.lt (t := e) (cs := cur) hh, fun j v hv => ?_⟩
    rw [Blk.cell (t := e) (cs := cur) hh j]
    rw [← htk] at hv
    have hj : j < (cur.toList.take (n * size)).length := (List.getElem?_eq_some_iff.1 hv).1
    rw [List.getElem?_take_of_lt (by simp at hj; omega)] at hv
    simpa using hv
theorem owns_liesF {f : Nat → List Value} {m : Nat} (hf : ∀ i, (f i).length = m) (h : w.ownsRow base e m (.slice A n c) n (flL f n)) : LiesF w w.heap.size A n m f := fun h0 => by
  obtain ⟨g, hA, _, hlt, hc⟩ := ownsF_get h h0
  refine ⟨g, 0, hA, hlt, fun i hi j v hv => ?_⟩
  have hj : j < m := by have := (List.getElem?_eq_some_iff.1 hv).1; rwa [hf] at this
  rw [Nat.zero_add]
  exact hc _ v (by rw [flL_get hf hi j hj]; exact hv)
theorem run_append_G (w : World) (base : Nat) (t ty e : TypeId) (i : TypeInfo) (z : Value) (size bytes : Nat) (ht : P.underlying t = some (.slice e)) (hi : P.info? e = some i) (hz : i.zero = some z)
    (hsize : i.size = size) (hby : i.bytes = bytes) (hzs : z.cells.size = size) (h0 : 0 < size) (A : Option Addr) (n c : Nat) (xs : List Value) (hown : w.ownsRow base e size (.slice A n c) n xs)
    (b m p : Nat) (news : List Value) (hB : Blk w b e news.toArray) (hl : news.length = m * size) (h1 : ∀ u ∈ news, u.oneCell' = true) (hm : 0 < m) (h63 : n + m ≤ maxLen) (hbytes : (n + m) * bytes ≤ 140737488355328) (hbase : base ≤ w.heap.size) :
    ∃ A' c' w', (Builtin.append_ #[t, t] ty #[.slice A n c, .slice (some ⟨b, 0, none⟩) m p]).run P w = .ok (.slice A' (n + m) c') w' ∧ w'.ownsRow base e size (.slice A' (n + m) c') (n + m) (xs ++ news) ∧ Below base w w' ∧ KeptBut w w' [e] := by
  obtain ⟨v', w', hrun, h2, h3, _, _⟩ := run_append_own_at (P := P) w base t ty e i z size bytes ht hi hz hsize hby hzs h0 (.slice A n c) n xs hown ⟨b, 0, none⟩ m p news hl (fun j u hu => by rw [Addr.add_lit, Nat.zero_add, hB.cell, List.getElem?_toArray]; exact hu) h1 h63 hbytes hbase
  have key : ∃ A' c', v' = .slice A' (n + m) c' := by
    rcases h2.2 with ⟨_, h0⟩ | ⟨g', cap, cur, hv, _⟩
    · omega
    · exact ⟨_, _, hv⟩
  obtain ⟨A', c', rfl⟩ := key
  refine ⟨A', c', w', hrun, h2, ⟨h3.os, h3.tape, h3.output, h3.size, fun k hk => h3.block k (Nat.lt_of_lt_of_le hk hbase) fun he => ?_⟩, fun k t cs ht hB => (h3.block k hB.lt fun he => ?_).trans hB⟩
  · rcases hown.2 with ⟨hv, _⟩ | ⟨g, cap, cur, hv, hb, _⟩
    · rw [hv] at he; cases he
    · rw [hv] at he
      have : k = g := by simpa [Value.ownBlock] using he
      omega
  · rcases hown.2 with ⟨hv, _⟩ | ⟨g, cap, cur, hv, hb, hh, _⟩
    · rw [hv] at he; cases he
    · rw [hv] at he
      have : k = g := by simpa [Value.ownBlock] using he
      exact hB.ne (t' := e) hh (by simpa using ht) this
theorem wp_append_G {o : Oper} {a : Act} {K : Act → World → Prop} {Q : Exit → Act → World → Prop} (s x : Operand) (t : TypeId) (ho : o.op = .call { callee := .builtin .append, args := #[s, x], argTypes := #[t, t] })
    (base : Nat) (e : TypeId) (i : TypeInfo) (z : Value) (size bytes : Nat) (ht : P.underlying t = some (.slice e)) (hi : P.info? e = some i) (hz : i.zero = some z)
    (hsize : i.size = size) (hby : i.bytes = bytes) (hzs : z.cells.size = size) (h0 : 0 < size) (A : Option Addr) (n c : Nat) (xs : List Value) (hs : a.eval s = .slice A n c) (hown : w.ownsRow base e size (.slice A n c) n xs)
    (b m p : Nat) (news : List Value) (hx : a.eval x = .slice (some ⟨b, 0, none⟩) m p) (hB : Blk w b e news.toArray) (hl : news.length = m * size) (h1 : ∀ u ∈ news, u.oneCell' = true) (hm : 0 < m) (h63 : n + m ≤ maxLen) (hbytes : (n + m) * bytes ≤ 140737488355328) (hbase : base ≤ w.heap.size)
    (h : ∀ A' c' w', w'.ownsRow base e size (.slice A' (n + m) c') (n + m) (xs ++ news) → Below base w w' → KeptBut w w' [e] → K (a.put o.dst (.slice A' (n + m) c')) w') : o.wp P a w K Q := by
  obtain ⟨A', c', w', hrun, h2, h3, h4⟩ := run_append_G (P := P) w base t o.type e i z size bytes ht hi hz hsize hby hzs h0 A n c xs hown b m p news hB hl h1 hm h63 hbytes hbase
  unfold Oper.wp
  simp only [execOp, ho, resolve, invoke, builtin, Sem.run_bind, Sem.run_pure, Result.andThen_ok, List.map_toArray, List.map_cons, List.map_nil, hs, hx, hrun]
  exact h A' c' w' h2 h3 h4
theorem wpList_append_G {ops : Array Oper} {rest : List Oper} {o : Oper} {a : Act} {Q : Exit → Act → World → Prop} (hgd : o.guard = none) (s x : Operand) (t : TypeId) (ho : o.op = .call { callee := .builtin .append, args := #[s, x], argTypes := #[t, t] })
    (base : Nat) (e : TypeId) (i : TypeInfo) (z : Value) (size bytes : Nat) (ht : P.underlying t = some (.slice e)) (hi : P.info? e = some i) (hz : i.zero = some z)
    (hsize : i.size = size) (hby : i.bytes = bytes) (hzs : z.cells.size = size) (h0 : 0 < size) (A : Option Addr) (n c : Nat) (xs : List Value) (hs : a.eval s = .slice A n c) (hown : w.ownsRow base e size (.slice A n c) n xs)
    (b m p : Nat) (news : List Value) (hx : a.eval x = .slice (some ⟨b, 0, none⟩) m p) (hB : Blk w b e news.toArray) (hl : news.length = m * size) (h1 : ∀ u ∈ news, u.oneCell' = true) (hm : 0 < m) (h63 : n + m ≤ maxLen) (hbytes : (n + m) * bytes ≤ 140737488355328) (hbase : base ≤ w.heap.size)
    (h : ∀ A' c' w', w'.ownsRow base e size (.slice A' (n + m) c') (n + m) (xs ++ news) → Below base w w' → KeptBut w w' [e] → wpList P ops Q rest (a.put o.dst (.slice A' (n + m) c')) w') : wpList P ops Q (o :: rest) a w :=
  wpList_plain hgd fun _ hK => wp_append_G s x t ho base e i z size bytes ht hi hz hsize hby hzs h0 A n c xs hs hown b m p news hx hB hl h1 hm h63 hbytes hbase fun A' c' w' q1 q2 q3 => hK _ _ (h A' c' w' q1 q2 q3)
theorem Reg.step_append_G {ops : Array Oper} {o : Oper} {a : Act} {K : Act → World → Prop} {Q : Exit → Act → World → Prop} {E : Prop} (hgd : o.guard = none) (s x : Operand) (t : TypeId) (ho : o.op = .call { callee := .builtin .append, args := #[s, x], argTypes := #[t, t] })
    (base : Nat) (e : TypeId) (i : TypeInfo) (z : Value) (size bytes : Nat) (ht : P.underlying t = some (.slice e)) (hi : P.info? e = some i) (hz : i.zero = some z)
    (hsize : i.size = size) (hby : i.bytes = bytes) (hzs : z.cells.size = size) (h0 : 0 < size) (A : Option Addr) (n c : Nat) (xs : List Value) (hs : a.eval s = .slice A n c) (hown : w.ownsRow base e size (.slice A n c) n xs)
    (b m p : Nat) (news : List Value) (hx : a.eval x = .slice (some ⟨b, 0, none⟩) m p) (hB : Blk w b e news.toArray) (hl : news.length = m * size) (h1 : ∀ u ∈ news, u.oneCell' = true) (hm : 0 < m) (h63 : n + m ≤ maxLen) (hbytes : (n + m) * bytes ≤ 140737488355328) (hbase : base ≤ w.heap.size)
    (h : ∀ A' c' w', w'.ownsRow base e size (.slice A' (n + m) c') (n + m) (xs ++ news) → Below base w w' → KeptBut w w' [e] → K (a.put o.dst (.slice A' (n + m) c')) w') :
    if Region.wanted o (yielded ops a.tmps) = true then Oper.wp P o a w K Q else E := by
  have hw : Region.wanted o (yielded ops a.tmps) = true := by simp [Region.wanted, hgd]
  rw [if_pos hw]
  exact wp_append_G s x t ho base e i z size bytes ht hi hz hsize hby hzs h0 A n c xs hs hown b m p news hx hB hl h1 hm h63 hbytes hbase h
end
end Go.Proofs.Ytmmgbhdjjejacaa

