/-
  Rows of one's own whose elements have many cells: append, and how they read. Nothing of the program is named here; no condition but those that are named.
-/
import Derived.Test.YtcangipaoancnaaRegM
import Derived.Test.YtcangipaoancnaaKeep
import Derived.Test.YtcangipaoancnaaWd8
namespace Go.Proofs.Ytcangipaoancnaa
open Go.RowKit

theorem fold_mid : ∀ (new old P S : List Value) (off k : Nat), new.length = old.length → P.length = off + k →
    ((new.zipIdx k).foldl (fun (cs : Array Value) (x : Value × Nat) => cs.setIfInBounds (off + x.2) x.1) (P ++ (old ++ S)).toArray) = (P ++ (new ++ S)).toArray
  | [], old, P, S, off, k, hl, hp => by
    obtain rfl : old = [] := List.length_eq_zero_iff.1 hl.symm
    rfl
  | v :: r, [], P, S, off, k, hl, hp => by simp at hl
  | v :: r, u :: r', P, S, off, k, hl, hp => by
    rw [List.zipIdx_cons, List.foldl_cons, List.setIfInBounds_toArray, List.set_append_right _ _ (by omega), hp, Nat.sub_self]
    have := fold_mid r r' (P ++ [v]) S off (k + 1) (by simpa using hl) (by simp; omega)
    simpa using this
theorem fill_cons (place : Nat → Option (Nat × Nat)) (i off : Nat) (new old P S : List Value) (rest : List (Nat × Value)) (hp : place i = some (off, new.length)) (hl : new.length = old.length) (ho : P.length = off) :
    Instr.fill place (P ++ (old ++ S)).toArray ((i, .agg new.toArray) :: rest) = Instr.fill place (P ++ (new ++ S)).toArray rest := by
  have h := fold_mid new old P S off 0 hl (by omega)
  simp only [Instr.fill, hp, Value.cells, List.size_toArray, List.length_append]
  rw [if_neg (by simp; omega)]
  congr 1
  rw [← h, ← Array.foldl_toList]
  simp
theorem fill_one (size : Nat) (new old : List Value) (hn : new.length = size) (hl : old.length = size) :
    Instr.fill (fun i => some (i * size, size)) old.toArray [(0, .agg new.toArray)] = some new.toArray := by
  have h := fill_cons (fun i => some (i * size, size)) 0 0 new old [] [] [] (by simp [hn]) (by omega) rfl
  simp only [List.nil_append, List.append_nil] at h
  rw [h]; rfl
theorem fill_two (size : Nat) (x y o p : List Value) (hx : x.length = size) (hy : y.length = size) (ho : o.length = size) (hp : p.length = size) :
    Instr.fill (fun i => some (i * size, size)) (o ++ p).toArray [(0, .agg x.toArray), (1, .agg y.toArray)] = some (x ++ y).toArray := by
  have h1 := fill_cons (fun i => some (i * size, size)) 0 0 x o [] p [(1, .agg y.toArray)] (by simp [hx]) (by omega) rfl
  have h2 := fill_cons (fun i => some (i * size, size)) 1 size y p x [] [] (by simp [hy]) (by omega) hx
  simp only [List.nil_append, List.append_nil] at h1 h2
  rw [h1, h2]; rfl
theorem range_two (z : List Value) (n : Nat) (h : z.length = n) (h0 : 0 < n) : ((Array.range (2 * n)).map (z.toArray[· % z.toArray.size]!)) = (z ++ z).toArray := by
  subst h
  apply Array.toList_inj.1
  rw [Array.toList_map, Array.toList_range, Nat.two_mul, List.range_add, List.map_append]
  have hL : (List.range z.length).map (fun i => z.toArray[i % z.toArray.size]!) = z := by
    apply List.ext_getElem
    · simp
    · intro i h1 h2
      simp [Nat.mod_eq_of_lt h2]
      rw [List.getElem?_eq_getElem h2]; rfl
  rw [hL, List.map_map]
  congr 1
  conv => rhs; rw [← hL]
  refine List.map_congr_left fun i hi => ?_
  simp
theorem range_one (z : List Value) (n : Nat) (h : z.length = n) : ((Array.range (1 * n)).map (z.toArray[· % z.toArray.size]!)) = z.toArray := by
  subst h
  apply Array.toList_inj.1
  rw [Array.toList_map, Array.toList_range, Nat.one_mul]
  apply List.ext_getElem
  · simp
  · intro i h1 h2
    simp [Nat.mod_eq_of_lt (show i < z.length by simpa using h2)]
    rw [List.getElem?_eq_getElem (by simpa using h2)]; rfl
section
variable {P : Program} (w : World) (t e : TypeId) (i : TypeInfo) (z : List Value) (size : Nat) (ht : P.underlying t = some (.slice e)) (hi : P.info? e = some i) (hz : i.zero = some (.agg z.toArray)) (hs : i.size = size) (hzl : z.length = size) (h0 : 0 < size) (hm : 2 * size ≤ 16777216)
include ht hi hz hs hzl h0 hm
theorem run_bsl_one (x : List Value) (hx : x.length = size) : (Instr.buildSlice t 1 #[(0, .agg x.toArray)]).run P w = .ok (.slice (some ⟨w.heap.size, 0, none⟩) 1 1) (w.alloc (.cells x.toArray e)) := by
  subst hs
  have hf := fill_one i.size x z hx hzl
  have hr := range_one z i.size hzl
  simp at hr
  simp [Instr.buildSlice, run_underlying ht, sizeOf, typeInfo, zeroValue, hi, hz, Result.andThen, Value.cells, newRow, hr, hf, show ¬ 16777216 < i.size by omega, show ¬ i.size = 0 by omega]
theorem run_bsl_two (x y : List Value) (hx : x.length = size) (hy : y.length = size) : (Instr.buildSlice t 2 #[(0, .agg x.toArray), (1, .agg y.toArray)]).run P w = .ok (.slice (some ⟨w.heap.size, 0, none⟩) 2 2) (w.alloc (.cells (x ++ y).toArray e)) := by
  subst hs
  have hf := fill_two i.size x y z z hx hy hzl hzl
  have hr := range_two z i.size hzl h0
  simp at hr hf
  simp [Instr.buildSlice, run_underlying ht, sizeOf, typeInfo, zeroValue, hi, hz, Result.andThen, Value.cells, newRow, hr, hf, show ¬ 16777216 < 2 * i.size by omega, show ¬ 2 * i.size = 0 by omega]
end
/-- As an operation. -/
theorem wp_bsl {P : Program} {o : Oper} {a : Act} {w : World} {K : Act → World → Prop} {Q : Exit → Act → World → Prop} (t : TypeId) (n : Nat) (parts : Array (Nat × Operand)) (ho : o.op = .buildSlice t n parts) (vs : Array (Nat × Value)) (hv : (parts.map fun (i, x) => (i, a.eval x)) = vs) (v : Value) (w' : World) (hr : (Instr.buildSlice t n vs).run P w = .ok v w')
    (h : K (a.put o.dst v) w') : o.wp P a w K Q := by
  unfold Oper.wp execOp
  simp only [ho, Sem.run_bind, hv, hr, Result.andThen_ok, Sem.run_pure]
  exact h
theorem wpList_bsl {P : Program} {ops : Array Oper} {rest : List Oper} {o : Oper} {a : Act} {w : World} {Q : Exit → Act → World → Prop} (hgd : o.guard = none) (t : TypeId) (n : Nat) (parts : Array (Nat × Operand)) (ho : o.op = .buildSlice t n parts) (vs : Array (Nat × Value)) (hv : (parts.map fun (i, x) => (i, a.eval x)) = vs) (v : Value) (w' : World) (hr : (Instr.buildSlice t n vs).run P w = .ok v w')
    (h : wpList P ops Q rest (a.put o.dst v) w') : wpList P ops Q (o :: rest) a w :=
  wpList_plain hgd fun _ hK => wp_bsl t n parts ho vs hv v w' hr (hK _ _ h)
theorem Reg.step_bsl {P : Program} {ops : Array Oper} {o : Oper} {a : Act} {w : World} {K : Act → World → Prop} {Q : Exit → Act → World → Prop} {E : Prop} (hgd : o.guard = none) (t : TypeId) (n : Nat) (parts : Array (Nat × Operand)) (ho : o.op = .buildSlice t n parts) (vs : Array (Nat × Value)) (hv : (parts.map fun (i, x) => (i, a.eval x)) = vs) (v : Value) (w' : World) (hr : (Instr.buildSlice t n vs).run P w = .ok v w')
    (h : K (a.put o.dst v) w') : if Region.wanted o (yielded ops a.tmps) = true then Oper.wp P o a w K Q else E := by
  have hw : Region.wanted o (yielded ops a.tmps) = true := by simp [Region.wanted, hgd]
  rw [if_pos hw]
  exact wp_bsl t n parts ho vs hv v w' hr h
end Go.Proofs.Ytcangipaoancnaa

namespace Go.Proofs.Ytcangipaoancnaa
open Go.RowKit

section
variable {P : Program} {w w' : World} {base size n c : Nat} {e : TypeId} {A : Option Addr} {xs : List Value}
theorem ownsF_nil : w.ownsRow base e size (.slice none 0 0) 0 [] := ⟨by simp, .inl ⟨rfl, rfl⟩⟩
theorem ownsF_on (h : w.ownsRow base e size (.slice A n c) n xs) (hb : Below w.heap.size w w') : w'.ownsRow base e size (.slice A n c) n xs := by
  obtain ⟨h1, h2⟩ := h
  refine ⟨h1, ?_⟩
  rcases h2 with h2 | ⟨g, cap, cur, hv, hb', hh, r⟩
  · exact .inl h2
  · exact .inr ⟨g, cap, cur, hv, hb', Blk.on (t := e) (cs := cur) hh hb, r⟩
/-- The row's block is older than the one that is written. -/
theorem ownsF_but {x : Nat} (h : w.ownsRow base e size (.slice A n c) n xs) (hb : But x w w') (hx : ∀ g, A = some ⟨g, 0, none⟩ → g ≠ x) : w'.ownsRow base e size (.slice A n c) n xs := by
  obtain ⟨h1, h2⟩ := h
  refine ⟨h1, ?_⟩
  rcases h2 with h2 | ⟨g, cap, cur, hv, hb', hh, r⟩
  · exact .inl h2
  · have hA : A = some ⟨g, 0, none⟩ := by injection hv
    exact .inr ⟨g, cap, cur, hv, hb', hb.blk (t := e) (cs := cur) hh (hx g hA), r⟩
theorem ownsF_kept {ts : List TypeId} (h : w.ownsRow base e size (.slice A n c) n xs) (hk : KeptBut w w' ts) (he : e ∉ ts) : w'.ownsRow base e size (.slice A n c) n xs := by
  obtain ⟨h1, h2⟩ := h
  refine ⟨h1, ?_⟩
  rcases h2 with h2 | ⟨g, cap, cur, hv, hb, hh, r⟩
  · exact .inl h2
  · exact .inr ⟨g, cap, cur, hv, hb, hk g e cur he hh, r⟩
theorem ownsF_mono {base' : Nat} (h : w.ownsRow base e size (.slice A n c) n xs) (hb : base' ≤ base) : w.ownsRow base' e size (.slice A n c) n xs := by
  obtain ⟨h1, h2⟩ := h
  refine ⟨h1, ?_⟩
  rcases h2 with h2 | ⟨g, cap, cur, hv, hb', r⟩
  · exact .inl h2
  · exact .inr ⟨g, cap, cur, hv, by omega, r⟩
theorem But.kept {g : Nat} {t : TypeId} {cs : Array Value} (hB : Blk w g t cs) (h : But g w w') : KeptBut w w' [t] := fun x t' cs' ht hX => h.blk hX (hX.ne hB (by simpa using ht))
theorem PIn.keptBut {g O : Nat} {t : TypeId} {X Z L : List Value} (hB : PIn w g O t X Z L) (h : But g w w') : KeptBut w w' [t] := h.kept hB.blk
theorem ownsF_lt (h : w.ownsRow base e size (.slice A n c) n xs) {g : Nat} (hA : A = some ⟨g, 0, none⟩) : base ≤ g ∧ g < w.heap.size := by
  rcases h.2 with ⟨hv, _⟩ | ⟨g', cap, cur, hv, hb', hh, _⟩
  · rw [hA] at hv; cases hv
  · rw [hA] at hv
    injection hv with hv
    injection hv with hv
    injection hv with hv
    subst hv
    exact ⟨hb', Blk.lt (t := e) (cs := cur) hh⟩
theorem ownsF_get (h : w.ownsRow base e size (.slice A n c) n xs) (h0 : 0 < n) : ∃ g, A = some ⟨g, 0, none⟩ ∧ base ≤ g ∧ g < w.heap.size ∧ ∀ j v, xs[j]? = some v → w.cell? ⟨g, j, none⟩ = some v := by
  rcases h.2 with ⟨_, h0'⟩ | ⟨g, cap, cur, hv, hb, hh, hnc, _, hcs, htk⟩
  · omega
  · injection hv with hA
    refine ⟨g, hA, hb, Blk.lt (t := e) (cs := cur) hh, fun j v hv => ?_⟩
    rw [Blk.cell (t := e) (cs := cur) hh j]
    rw [← htk] at hv
    have hj : j < (cur.toList.take (n * size)).length := (List.getElem?_eq_some_iff.1 hv).1
    rw [List.getElem?_take_of_lt (by simp at hj; omega)] at hv
    simpa using hv
theorem owns_liesF {f : Nat → List Value} {m : Nat} (hf : ∀ i, (f i).length = m) (h : w.ownsRow base e m (.slice A n c) n (flL f n)) : LiesF w w.heap.size A n m f := fun h0 => by
  obtain ⟨g, hA, _, hlt, hc⟩ := ownsF_get h h0
  refine ⟨g, 0, hA, hlt, fun i hi j v hv => ?_⟩
  have hj : j < m := by have := (List.getElem?_eq_some_iff.1 hv).1; rwa [hf] at this
  rw [Nat.zero_add]
  exact hc _ v (by rw [flL_get hf hi j hj]; exact hv)
theorem run_append_G (w : World) (base : Nat) (t ty e : TypeId) (i : TypeInfo) (z : Value) (size bytes : Nat) (ht : P.underlying t = some (.slice e)) (hi : P.info? e = some i) (hz : i.zero = some z)
    (hsize : i.size = size) (hby : i.bytes = bytes) (hzs : z.cells.size = size) (h0 : 0 < size) (A : Option Addr) (n c : Nat) (xs : List Value) (hown : w.ownsRow base e size (.slice A n c) n xs)
    (b m p : Nat) (news : List Value) (hB : Blk w b e news.toArray) (hl : news.length = m * size) (h1 : ∀ u ∈ news, u.oneCell' = true) (hm : 0 < m) (h63 : n + m ≤ maxLen) (hbytes : (n + m) * bytes ≤ 140737488355328) (hbase : base ≤ w.heap.size) :
    ∃ A' c' w', (Builtin.append_ #[t, t] ty #[.slice A n c, .slice (some ⟨b, 0, none⟩) m p]).run P w = .ok (.slice A' (n + m) c') w' ∧ w'.ownsRow base e size (.slice A' (n + m) c') (n + m) (xs ++ news) ∧ Below base w w' ∧ KeptBut w w' [e] := by
  obtain ⟨v', w', hrun, h2, h3, _, _⟩ := run_append_own_at (P := P) w base t ty e i z size bytes ht hi hz hsize hby hzs h0 (.slice A n c) n xs hown ⟨b, 0, none⟩ m p news hl (fun j u hu => by rw [Addr.add_lit, Nat.zero_add, hB.cell, List.getElem?_toArray]; exact hu) h1 h63 hbytes hbase
  have key : ∃ A' c', v' = .slice A' (n + m) c' := by
    rcases h2.2 with ⟨_, h0⟩ | ⟨g', cap, cur, hv, _⟩
    · omega
    · exact ⟨_, _, hv⟩
  obtain ⟨A', c', rfl⟩ := key
  refine ⟨A', c', w', hrun, h2, ⟨h3.os, h3.tape, h3.output, h3.size, fun k hk => h3.block k (Nat.lt_of_lt_of_le hk hbase) fun he => ?_⟩, fun k t cs ht hB => (h3.block k hB.lt fun he => ?_).trans hB⟩
  · rcases hown.2 with ⟨hv, _⟩ | ⟨g, cap, cur, hv, hb, _⟩
    · rw [hv] at he; cases he
    · rw [hv] at he
      have : k = g := by simpa [Value.ownBlock] using he
      omega
  · rcases hown.2 with ⟨hv, _⟩ | ⟨g, cap, cur, hv, hb, hh, _⟩
    · rw [hv] at he; cases he
    · rw [hv] at he
      have : k = g := by simpa [Value.ownBlock] using he
      exact hB.ne (t' := e) hh (by simpa using ht) this
theorem wp_append_G {o : Oper} {a : Act} {K : Act → World → Prop} {Q : Exit → Act → World → Prop} (s x : Operand) (t : TypeId) (ho : o.op = .call { callee := .builtin .append, args := #[s, x], argTypes := #[t, t] })
    (base : Nat) (e : TypeId) (i : TypeInfo) (z : Value) (size bytes : Nat) (ht : P.underlying t = some (.slice e)) (hi : P.info? e = some i) (hz : i.zero = some z)
    (hsize : i.size = size) (hby : i.bytes = bytes) (hzs : z.cells.size = size) (h0 : 0 < size) (A : Option Addr) (n c : Nat) (xs : List Value) (hs : a.eval s = .slice A n c) (hown : w.ownsRow base e size (.slice A n c) n xs)
    (b m p : Nat) (news : List Value) (hx : a.eval x = .slice (some ⟨b, 0, none⟩) m p) (hB : Blk w b e news.toArray) (hl : news.length = m * size) (h1 : ∀ u ∈ news, u.oneCell' = true) (hm : 0 < m) (h63 : n + m ≤ maxLen) (hbytes : (n + m) * bytes ≤ 140737488355328) (hbase : base ≤ w.heap.size)
    (h : ∀ A' c' w', w'.ownsRow base e size (.slice A' (n + m) c') (n + m) (xs ++ news) → Below base w w' → KeptBut w w' [e] → K (a.put o.dst (.slice A' (n + m) c')) w') : o.wp P a w K Q := by
  obtain ⟨A', c', w', hrun, h2, h3, h4⟩ := run_append_G (P := P) w base t o.type e i z size bytes ht hi hz hsize hby hzs h0 A n c xs hown b m p news hB hl h1 hm h63 hbytes hbase
  unfold Oper.wp
  simp only [execOp, ho, resolve, invoke, builtin, Sem.run_bind, Sem.run_pure, Result.andThen_ok, List.map_toArray, List.map_cons, List.map_nil, hs, hx, hrun]
  exact h A' c' w' h2 h3 h4
theorem wpList_append_G {ops : Array Oper} {rest : List Oper} {o : Oper} {a : Act} {Q : Exit → Act → World → Prop} (hgd : o.guard = none) (s x : Operand) (t : TypeId) (ho : o.op = .call { callee := .builtin .append, args := #[s, x], argTypes := #[t, t] })
    (base : Nat) (e : TypeId) (i : TypeInfo) (z : Value) (size bytes : Nat) (ht : P.underlying t = some (.slice e)) (hi : P.info? e = some i) (hz : i.zero = some z)
    (hsize : i.size = size) (hby : i.bytes = bytes) (hzs : z.cells.size = size) (h0 : 0 < size) (A : Option Addr) (n c : Nat) (xs : List Value) (hs : a.eval s = .slice A n c) (hown : w.ownsRow base e size (.slice A n c) n xs)
    (b m p : Nat) (news : List Value) (hx : a.eval x = .slice (some ⟨b, 0, none⟩) m p) (hB : Blk w b e news.toArray) (hl : news.length = m * size) (h1 : ∀ u ∈ news, u.oneCell' = true) (hm : 0 < m) (h63 : n + m ≤ maxLen) (hbytes : (n + m) * bytes ≤ 140737488355328) (hbase : base ≤ w.heap.size)
    (h : ∀ A' c' w', w'.ownsRow base e size (.slice A' (n + m) c') (n + m) (xs ++ news) → Below base w w' → KeptBut w w' [e] → wpList P ops Q rest (a.put o.dst (.slice A' (n + m) c')) w') : wpList P ops Q (o :: rest) a w :=
  wpList_plain hgd fun _ hK => wp_append_G s x t ho base e i z size bytes ht hi hz hsize hby hzs h0 A n c xs hs hown b m p news hx hB hl h1 hm h63 hbytes hbase fun A' c' w' q1 q2 q3 => hK _ _ (h A' c' w' q1 q2 q3)
theorem Reg.step_append_G {ops : Array Oper} {o : Oper} {a : Act} {K : Act → World → Prop} {Q : Exit → Act → World → Prop} {E : Prop} (hgd : o.guard = none) (s x : Operand) (t : TypeId) (ho : o.op = .call { callee := .builtin .append, args := #[s, x], argTypes := #[t, t] })
    (base : Nat) (e : TypeId) (i : TypeInfo) (z : Value) (size bytes : Nat) (ht : P.underlying t = some (.slice e)) (hi : P.info? e = some i) (hz : i.zero = some z)
    (hsize : i.size = size) (hby : i.bytes = bytes) (hzs : z.cells.size = size) (h0 : 0 < size) (A : Option Addr) (n c : Nat) (xs : List Value) (hs : a.eval s = .slice A n c) (hown : w.ownsRow base e size (.slice A n c) n xs)
    (b m p : Nat) (news : List Value) (hx : a.eval x = .slice (some ⟨b, 0, none⟩) m p) (hB : Blk w b e news.toArray) (hl : news.length = m * size) (h1 : ∀ u ∈ news, u.oneCell' = true) (hm : 0 < m) (h63 : n + m ≤ maxLen) (hbytes : (n + m) * bytes ≤ 140737488355328) (hbase : base ≤ w.heap.size)
    (h : ∀ A' c' w', w'.ownsRow base e size (.slice A' (n + m) c') (n + m) (xs ++ news) → Below base w w' → KeptBut w w' [e] → K (a.put o.dst (.slice A' (n + m) c')) w') :
    if Region.wanted o (yielded ops a.tmps) = true then Oper.wp P o a w K Q else E := by
  have hw : Region.wanted o (yielded ops a.tmps) = true := by simp [Region.wanted, hgd]
  rw [if_pos hw]
  exact wp_append_G s x t ho base e i z size bytes ht hi hz hsize hby hzs h0 A n c xs hs hown b m p news hx hB hl h1 hm h63 hbytes hbase h
end
end Go.Proofs.Ytcangipaoancnaa

