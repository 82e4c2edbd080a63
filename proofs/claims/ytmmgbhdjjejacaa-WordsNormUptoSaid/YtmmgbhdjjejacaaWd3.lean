/-
  Lists of what is held, in memory: how one reads, copies and allocations of elements of many cells; the contracts of package words' filled. Conditions: the lists' reading, their lengths.
-/
import Derived.Test.YtmmgbhdjjejacaaWd2
import Derived.Laws.CopyOwn
namespace Go.Proofs.Ytmmgbhdjjejacaa
open Go.RowKit
set_option linter.unusedVariables false

/-- The slice at A of n elements reads as T. -/
def LiesH (w : World) (B : Nat) (A : Option Addr) (n : Nat) (T : Nat → He) : Prop :=
  0 < n → ∃ b off, A = some ⟨b, off, none⟩ ∧ b < B ∧ ∀ i, i < n → w.rangeAt b (off + i * 56) (heL (T i))
section
variable {w w' : World} {B B' n : Nat} {A : Option Addr} {T : Nat → He}
theorem LiesH.nil_ : LiesH w B A 0 T := fun h => absurd h (by omega)
theorem LiesH.keep (h : LiesH w B A n T) (hB : B ≤ B') (hk : ∀ p : Addr, p.block < B → w'.cell? p = w.cell? p) : LiesH w' B' A n T := fun hn => by
  obtain ⟨b, off, e, hb, hc⟩ := h hn
  exact ⟨b, off, e, by omega, fun i hi j v hv => (hk _ hb).trans (hc i hi j v hv)⟩
theorem LiesH.on (h : LiesH w w.heap.size A n T) (hb : Below w.heap.size w w') : LiesH w' w'.heap.size A n T := h.keep hb.size fun _ hp => hb.cell hp
theorem LiesH.low (h : LiesH w B A n T) (hb : Below B w w') : LiesH w' B A n T := h.keep (Nat.le_refl _) fun _ hp => hb.cell hp
theorem LiesH.up (h : LiesH w B A n T) (hB : B ≤ B') : LiesH w B' A n T := h.keep hB fun _ _ => rfl
theorem LiesH.al (h : LiesH w w.heap.size A n T) (o : Obj) : LiesH (w.alloc o) (w.alloc o).heap.size A n T := h.on (below_al (Below.refl _ w) o)
theorem LiesH.less {m : Nat} (h : LiesH w B A n T) (hm : m ≤ n) : LiesH w B A m T := fun h0 => by
  obtain ⟨b, off, e, hb, hc⟩ := h (by omega)
  exact ⟨b, off, e, hb, fun i hi => hc i (by omega)⟩
theorem LiesH.congr {U : Nat → He} (h : LiesH w B A n T) (e : ∀ i, i < n → T i = U i) : LiesH w B A n U := fun h0 => by
  obtain ⟨b, off, ea, hb, hc⟩ := h h0
  exact ⟨b, off, ea, hb, fun i hi => by rw [← e i hi]; exact hc i hi⟩
theorem hesL_split {T : Nat → He} {n j : Nat} (h : j < n * 56) : (hesL T n)[j]? = (heL (T (j / 56)))[j % 56]? := by
  have hq : j / 56 < n := by omega
  have := hesL_get T hq (j % 56) (Nat.mod_lt _ (by decide))
  rw [← this]; congr 1; omega
theorem LiesH.src (h : LiesH w B A n T) : 0 < (hesL T n).length → ∃ ad, A = some ad ∧ ∀ j v, (hesL T n)[j]? = some v → w.cell? (ad.add j) = some v := by
  intro h0
  rw [hesL_len] at h0
  obtain ⟨b, off, e, hb, hc⟩ := h (by omega)
  refine ⟨_, e, fun j v hv => ?_⟩
  have hj : j < n * 56 := by have := (List.getElem?_eq_some_iff.1 hv).1; rwa [hesL_len] at this
  rw [hesL_split hj] at hv
  have := hc (j / 56) (by omega) (j % 56) v hv
  rw [Addr.add_lit, ← this, Nat.add_assoc]
  congr 3; omega
end
theorem Blk.liesH {w : World} {g n : Nat} {t : TypeId} {T : Nat → He} {cs : Array Value} (h : Blk w g t cs) (hcs : ∀ j, j < n * 56 → cs[j]? = (hesL T n)[j]?) : LiesH w w.heap.size (some ⟨g, 0, none⟩) n T := fun hn =>
  ⟨g, 0, rfl, h.lt, fun i hi j v hv => by
    have hj : j < 56 := by have := (List.getElem?_eq_some_iff.1 hv).1; rwa [heL_len] at this
    rw [h.cell, Nat.zero_add, hcs _ (by omega), hesL_get T hi j hj]; exact hv⟩
theorem Blk.liesH_ {w : World} {g n : Nat} {t : TypeId} {T : Nat → He} (h : Blk w g t (hesL T n).toArray) : LiesH w w.heap.size (some ⟨g, 0, none⟩) n T := h.liesH fun j _ => by simp

/-- make of a list: so many noughts. -/
theorem made_flat (z : List Value) (hz : 0 < z.length) : ∀ n : Nat, madeCells z.toArray (n * z.length) = ((List.range n).flatMap fun _ => z).toArray := by
  intro n
  apply Array.toList_inj.1
  have hL : (List.range z.length).map (fun i => z.toArray[i]!) = z := by
    apply List.ext_getElem
    · simp
    · intro i h1 h2
      simp
      rw [List.getElem?_eq_getElem h2]; rfl
  have key : (madeCells z.toArray (n * z.length)).toList = (List.range (n * z.length)).map (fun i => z.toArray[i % z.length]!) := by unfold madeCells; rw [Array.toList_map, Array.toList_range]; rfl
  rw [key]
  clear key
  induction n with
  | zero => simp
  | succ n ih =>
    rw [Nat.add_mul, Nat.one_mul, List.range_add, List.map_append, ih, List.range_succ, List.flatMap_append]
    congr 1
    rw [List.map_map]
    have : ((fun i => z.toArray[i % z.length]!) ∘ fun x => n * z.length + x) = fun i => z.toArray[i % z.length]! := by
      funext i
      simp [Nat.add_mod]
    rw [this]
    simp only [List.flatMap_cons, List.flatMap_nil, List.append_nil]
    conv => rhs; rw [← hL]
    refine List.map_congr_left fun i hi => ?_
    rw [Nat.mod_eq_of_lt (by simpa using hi)]
theorem wpList_make_flat {P : Program} {w : World} {ops : Array Oper} {rest : List Oper} {o : Oper} {a : Act} {Q : Exit → Act → World → Prop} (hgd : o.guard = none) (l c : Operand) (t : TypeId) (hop : o.op = .makeSlice t l c)
    (e : TypeId) (i : TypeInfo) (v : Value) (z : List Value) (bytes size : Nat) (ht : P.underlying t = some (.slice e)) (hi : P.info? e = some i) (hz : i.zero = some v) (hv : v.cells = z.toArray) (hsize : i.size = size) (hby : i.bytes = bytes) (hzl : z.length = size) (h0 : 0 < size)
    (n m : Nat) (hl : a.eval l = .int .i64 (n : Int)) (hc : a.eval c = .int .i64 (m : Int)) (hnm : n ≤ m) (hb : bytes * m ≤ 281474976710656) (hm : m ≤ 9223372036854775807)
    (k : ∀ w', Blk w' w.heap.size e ((List.range m).flatMap fun _ => z).toArray → Below w.heap.size w w' → w'.heap.size = w.heap.size + 1 → wpList P ops Q rest (a.put o.dst (.slice (some ⟨w.heap.size, 0, none⟩) n m)) w') : wpList P ops Q (o :: rest) a w := by
  subst hsize hby
  have h := run_make (P := P) w t e i v ht hi hz .i64 .i64 (n : Int) (m : Int) (by omega) (by omega) (by have := Int.ofNat_le.2 hb; rw [Int.natCast_mul] at this; exact this) (by omega)
  rw [hv, Int.toNat_natCast, ← hzl, made_flat z (by omega)] at h
  refine wpList_plain hgd fun K hK => ?_
  unfold Oper.wp
  simp [execOp, hop, hl, hc, h, Result.andThen]
  exact hK _ _ (k _ (Blk.new w e _) (below_al (Below.refl _ w) _) (alloc_size _ _))
/-- copy of as many elements as both have, into the beginning of a block. -/
theorem wpList_copy_part {P : Program} {w : World} {ops : Array Oper} {rest : List Oper} {o : Oper} {a : Act} {Q : Exit → Act → World → Prop} (hgd : o.guard = none) (d s : Operand) (dT sT : TypeId)
    (ho : o.op = .call { callee := .builtin .copy, args := #[d, s], argTypes := #[dT, sT] }) (elem : TypeId) (hu : P.underlying dT = some (.slice elem)) (size : Nat) (hsz : (P.info? elem).map (·.size) = some size)
    (sp : Option Addr) (n m k dCap sCap g : Nat) (hk : Nat.min m n = k) (hd : a.eval d = .slice (some ⟨g, 0, none⟩) n dCap) (hs : a.eval s = .slice sp m sCap)
    (cur : Array Value) (t : TypeId) (hg : Blk w g t cur) (cs : List Value) (hn : cs.length = k * size) (hcur : cs.length ≤ cur.size)
    (hsrc : 0 < cs.length → ∃ ad, sp = some ad ∧ ∀ j v, cs[j]? = some v → w.cell? (ad.add j) = some v) (h1 : ∀ v ∈ cs, v.oneCell' = true)
    (h : ∀ w', Blk w' g t (cs ++ cur.toList.drop cs.length).toArray → But g w w' → wpList P ops Q rest (a.put o.dst (goInt k)) w') :
    wpList P ops Q (o :: rest) a w := by
  have hst := run_storeCells_at P g 0 t cs 0 cur w hg (by omega) h1
  have hfull : (cur.toList.take (0 + 0) ++ cs ++ cur.toList.drop (0 + 0 + cs.length)).toArray = (cs ++ cur.toList.drop cs.length).toArray := by simp
  rw [hfull] at hst
  refine wpList_plain hgd fun K hK => ?_
  cases hq : P.info? elem with
  | none => simp [hq] at hsz
  | some i =>
    have hi : i.size = size := by simpa [hq] using hsz
    by_cases h0 : cs.length = 0
    · obtain rfl : cs = [] := List.eq_nil_of_length_eq_zero h0
      have hz : k * i.size = 0 := by rw [hi]; simpa using hn.symm
      have hl : ∀ (x : Addr), (loadCells x 0).run P w = .ok #[] w := fun x => by simpa using run_loadCells_list (P := P) w x [] (by simp)
      unfold Oper.wp
      cases sp with
      | none =>
        simp [execOp, ho, resolve, invoke, builtin, hd, hs, Builtin.copy_, run_underlying hu, Builtin.lenOf, Builtin.firstCells, sizeOf, typeInfo, hq, storeCells, Result.andThen, hk]
        exact hK _ _ (h w (by simpa using hg) (But.refl _ _))
      | some ad =>
        simp [execOp, ho, resolve, invoke, builtin, hd, hs, Builtin.copy_, run_underlying hu, Builtin.lenOf, Builtin.firstCells, sizeOf, typeInfo, hq, hz, hl, storeCells, Result.andThen, hk]
        exact hK _ _ (h w (by simpa using hg) (But.refl _ _))
    · obtain ⟨ad, rfl, hc⟩ := hsrc (by omega)
      have hl := run_loadCells_list (P := P) w ad cs hc
      rw [hn] at hl
      unfold Oper.wp
      simp [execOp, ho, resolve, invoke, builtin, hd, hs, Builtin.copy_, run_underlying hu, Builtin.lenOf, Builtin.firstCells, sizeOf, typeInfo, hq, hi, hl, hst, Result.andThen, hk]
      exact hK _ _ (h _ (setRow_heap w g _ _ t _ hg) ⟨below_setRow (Below.refl _ _) (Nat.le_refl _) _, fun b _ hb => setRow_other w g b _ hb⟩)
set_option maxRecDepth 100000 in
theorem infoHeld : (Try.prog.info? 69).map (fun i => (i.zero, i.size, i.bytes)) = some (some (.agg (heL heN).toArray), 56, 136) := by kernel_rfl
set_option maxRecDepth 100000 in
theorem infoRHeld : (Try.prog.info? 133).map (fun i => (i.zero, i.size, i.bytes)) = some (some (.agg (heL heN).toArray), 56, 136) := by kernel_rfl
set_option maxRecDepth 100000 in
theorem infoRow : (Try.prog.info? 54).map (fun i => (i.zero, i.size, i.bytes)) = some (some (.agg (roL false ceN none 0 0).toArray), 57, 160) := by kernel_rfl
set_option maxRecDepth 100000 in
theorem infoRRow : (Try.prog.info? 61).map (fun i => (i.zero, i.size, i.bytes)) = some (some (.agg (roL false ceN none 0 0).toArray), 57, 160) := by kernel_rfl
set_option maxRecDepth 100000 in
theorem elemHelds : Try.prog.underlying 52 = some (.slice 69) := by kernel_rfl
set_option maxRecDepth 100000 in
theorem sizeHelds (w : World) : (sizeOf 69).run Try.prog w = .ok 56 w := by kernel_rfl
set_option maxRecDepth 100000 in
theorem idxHelds {A : Option Addr} {n : Nat} (c : Nat) {k b off : Nat} (hA : A = some ⟨b, off, none⟩) (hk : k < n) (w : World) :
    (Instr.indexAt 52 (.slice A n c) (.int .i64 (k : Int))).run Try.prog w = .ok (.pointer (some ⟨b, off + k * 56, none⟩)) w := by
  subst hA
  rw [run_indexAt_slice (h := elemHelds), if_pos (by omega), show Try.prog.elem 52 = 69 by kernel_rfl, sizeHelds]
  simp [Result.andThen, Addr.add_lit]
end Go.Proofs.Ytmmgbhdjjejacaa

