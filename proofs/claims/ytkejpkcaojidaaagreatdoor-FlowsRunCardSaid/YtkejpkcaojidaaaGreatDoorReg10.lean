/-
  A region that draws its order among its first m operations, one of which (s) changes what it reads (Pre holds until then); each later one waits for all that stand ahead of it. No condition but those that are named; nothing of the program is named here.
-/
import Derived.Test.YtkejpkcaojidaaaGreatDoorReg2
import Derived.Test.YtkejpkcaojidaaaGreatDoorReg3
import Derived.Test.YtkejpkcaojidaaaGreatDoorSn4
import Derived.Deep.MidRow
import Derived.Laws.StructEq
import Derived.Test.YtkejpkcaojidaaaGreatDoorKeep
namespace Go.Proofs.YtkejpkcaojidaaaGreatDoor
set_option linter.unusedVariables false
set_option linter.unusedSimpArgs false
open Go.RowKit

namespace Reg
/-- Operation s waits for each of pre, be it by way of others of them. -/
def early (ops : Array Oper) (s : Nat) (pre : List Nat) : Bool := pre.all fun i => i == s || pre.any fun j => decide (i < j) && (match ops[j]? with
  | some q => (deps q).contains i
  | none => false)
theorem early_done {ops : Array Oper} {s : Nat} {pre : List Nat} (h : early ops s pre = true) {l : Array Bool} (hcl : ∀ j q, l.getD j false = true → ops[j]? = some q → ∀ k ∈ deps q, l.getD k false = true) (hs : l.getD s false = true) :
    ∀ i ∈ pre, l.getD i false = true := by
  have key : ∀ n i, ops.size ≤ i + n → i ∈ pre → l.getD i false = true := by
    intro n
    induction n with
    | zero =>
      intro i hi hm
      have h1 := List.all_eq_true.1 h i hm
      simp only [Bool.or_eq_true, beq_iff_eq, List.any_eq_true, Bool.and_eq_true, decide_eq_true_eq] at h1
      rcases h1 with rfl | ⟨j, hj, hij, hd⟩
      · exact hs
      · have : ops[j]? = none := Array.getElem?_eq_none (by omega)
        rw [this] at hd; cases hd
    | succ n ih =>
      intro i hi hm
      have h1 := List.all_eq_true.1 h i hm
      simp only [Bool.or_eq_true, beq_iff_eq, List.any_eq_true, Bool.and_eq_true, decide_eq_true_eq] at h1
      rcases h1 with rfl | ⟨j, hj, hij, hd⟩
      · exact hs
      · cases hq : ops[j]? with
        | none => rw [hq] at hd; cases hd
        | some q =>
          rw [hq] at hd
          exact hcl j q (ih j (by omega) hj) hq i (by simpa using hd)
  exact fun i hm => key ops.size i (by omega) hm
section
variable {P : Program} {ops : Array Oper} {Q : Exit → Act → World → Prop} {w0 : World}

end
end Reg
end Go.Proofs.YtkejpkcaojidaaaGreatDoor

namespace Go.Proofs.YtkejpkcaojidaaaGreatDoor
set_option linter.unusedVariables false
set_option linter.unusedSimpArgs false
open Go.RowKit

namespace Reg
/-- From m on each operation waits for all ahead of it. -/
def tailB (ops : Array Oper) (m : Nat) : Bool := (List.range ops.size).all fun s => decide (s < m) || early ops s (List.range (s + 1))
section
variable {P : Program} {ops : Array Oper} {Q : Exit → Act → World → Prop} {w0 : World}
theorem closed_set {l : Array Bool} (hl : l.size = ops.size) {i : Nat} {o : Oper} (ho : ops[i]? = some o) (hcl : ∀ j q, l.getD j false = true → ops[j]? = some q → ∀ k ∈ deps q, l.getD k false = true) (hdl : ∀ j ∈ deps o, l.getD j false = true) :
    (∀ j q, (l.setIfInBounds i true).getD j false = true → ops[j]? = some q → ∀ k ∈ deps q, (l.setIfInBounds i true).getD k false = true) ∧ (l.setIfInBounds i true).getD i false = true ∧ ∀ j, j ≠ i → (l.setIfInBounds i true).getD j false = l.getD j false := by
  have hio : i < ops.size := (Array.getElem?_eq_some_iff.1 ho).1
  have hset' : ∀ j, j ≠ i → (l.setIfInBounds i true).getD j false = l.getD j false := fun j hj => getD_set_ne false (fun h => hj h.symm)
  have hii : (l.setIfInBounds i true).getD i false = true := by
    have hil : i < l.size := by omega
    simp [Array.getD, hil]
  have hmono : ∀ j, l.getD j false = true → (l.setIfInBounds i true).getD j false = true := fun j hj => by
    by_cases e : j = i
    · subst e; exact hii
    · rw [hset' j e]; exact hj
  refine ⟨fun j q hj hq k hk => ?_, hii, hset'⟩
  by_cases e : j = i
  · subst e
    obtain rfl : o = q := by rw [ho] at hq; exact Option.some.inj hq
    exact hmono k (hdl k hk)
  · rw [hset' j e] at hj
    exact hmono k (hcl j q hj hq k hk)
theorem ahead_done {m : Nat} (ht : tailB ops m = true) {l : Array Bool} (hl : l.size = ops.size) {i : Nat} {o : Oper} (ho : ops[i]? = some o) (hm : m ≤ i) (hcl : ∀ j q, l.getD j false = true → ops[j]? = some q → ∀ k ∈ deps q, l.getD k false = true) (hdl : ∀ j ∈ deps o, l.getD j false = true) :
    ∀ j, j < i → l.getD j false = true := by
  intro j hj
  have hio : i < ops.size := (Array.getElem?_eq_some_iff.1 ho).1
  obtain ⟨h1, h2, h3⟩ := closed_set hl ho hcl hdl
  have he := List.all_eq_true.1 ht i (by simp [hio])
  simp only [Bool.or_eq_true, decide_eq_true_eq] at he
  have he' : early ops i (List.range (i + 1)) = true := by rcases he with h | h
                                                           · omega
                                                           · exact h
  have := early_done he' h1 h2 j (by simp; omega)
  rwa [h3 j (by omega)] at this
theorem ready_deps {l : Array Bool} {i : Nat} (hi : i ∈ Region.ready .any ops l) : ∃ o, ops[i]? = some o ∧ l.getD i true = false ∧ ∀ j ∈ deps o, l.getD j false = true := by
  obtain ⟨h1, o, ho, hdep⟩ := mem_ready.1 hi
  refine ⟨o, ho, h1, fun j hj => ?_⟩
  simp only [deps, List.mem_map, List.mem_filter] at hj
  obtain ⟨e, ⟨he, hbind⟩, rfl⟩ := hj
  exact hdep e (by simpa using he) hbind
theorem any_seq (m : Nat) (ht : tailB ops m = true) (hf : fine2 ops = true) : ∀ (fuel : Nat) (l : Array Bool) (s : Nat) (a : Act) (w : World), l.size = ops.size → nots l.toList ≤ fuel → m ≤ s → s ≤ ops.size → (∀ j, j < ops.size → (l.getD j false = true ↔ j < s)) →
    (∀ j q, l.getD j false = true → ops[j]? = some q → ∀ k ∈ deps q, l.getD k false = true) → wpList P ops Q (ops.toList.drop s) a w → wpAny P .any ops Q fuel l a w := by
  intro fuel
  induction fuel with
  | zero =>
    intro l s a w hl hn hms hs hk hcl h
    have hall : ∀ i, i < ops.size → l.getD i false = true := fun i hi => by
      have := nots_zero l.toList (by omega) i (by simp; omega)
      have hil : i < l.size := by omega
      simp [hil] at this
      simp [Array.getD, hil, this]
    have hse : s = ops.size := by
      rcases Nat.lt_or_ge s ops.size with h1 | h1
      · have := (hk s h1).1 (hall s h1)
        omega
      · omega
    subst hse
    rw [List.drop_of_length_le (by simp)] at h
    refine ⟨?_, h⟩
    rw [List.eq_nil_iff_forall_not_mem]
    intro i hi
    obtain ⟨o, ho, h1, _⟩ := ready_deps hi
    have hio : i < ops.size := (Array.getElem?_eq_some_iff.1 ho).1
    have := hall i hio
    have hil : i < l.size := by omega
    simp [Array.getD, hil] at h1 this
    rw [this] at h1
    cases h1
  | succ fuel ih =>
    intro l s a w hl hn hms hs hk hcl h
    refine ⟨fun hr => ?_, fun i hi => ?_⟩
    · have hall : ∀ j, j < ops.size → l.getD j false = true := fun j hj => all_listed2 hf l hl hr (j + 1) j (by omega) hj
      have hse : s = ops.size := by
        rcases Nat.lt_or_ge s ops.size with h1 | h1
        · have := (hk s h1).1 (hall s h1)
          omega
        · omega
      subst hse
      rw [List.drop_of_length_le (by simp)] at h
      exact h
    · obtain ⟨o, ho, h1, hdl⟩ := ready_deps hi
      have hio : i < ops.size := (Array.getElem?_eq_some_iff.1 ho).1
      have hi0 : l.getD i false = false := by
        have hil : i < l.size := by omega
        simp [Array.getD, hil] at h1 ⊢
        exact h1
      have hsi : s ≤ i := by
        rcases Nat.lt_or_ge i s with h2 | h2
        · rw [(hk i hio).2 h2] at hi0; cases hi0
        · exact h2
      have his : i = s := by
        rcases Nat.lt_or_ge s i with h2 | h2
        · have := (hk s (by omega)).1 (ahead_done ht hl ho (by omega) hcl hdl s h2)
          omega
        · omega
      subst his
      obtain ⟨q1, q2, q3⟩ := closed_set hl ho hcl hdl
      have hset := nots_set l.toList i (getD_false h1)
      have hd : ops.toList.drop i = o :: ops.toList.drop (i + 1) := by
        rw [List.drop_eq_getElem_cons (by simpa using hio)]
        congr 1
        have := (Array.getElem?_eq_some_iff.1 ho).2
        simpa using this
      rw [hd] at h
      have hop : wpOp P ops Q i (wpList P ops Q (ops.toList.drop (i + 1))) a w := by
        unfold wpOp
        rw [ho]
        simpa [wpList] using h
      refine wpOp_mono (fun a' w' h' => ?_) hop
      refine ih _ (i + 1) a' w' (by simp [hl]) (by simp only [Array.toList_setIfInBounds]; omega) (by omega) (by omega) (fun j hj => ?_) q1 h'
      by_cases e : j = i
      · subst e; rw [q2]; simp
      · rw [q3 j e, hk j hj]; omega
theorem Each.take {R : Nat → Oper → Prop} : ∀ (m : Nat) (l : List Oper) (k : Nat), Each R k (l.take m) → ∀ i o, i < m → l[i]? = some o → R (k + i) o := by
  intro m l k h i o hi ho
  have := Each.spec (l.take m) k h i o (by rw [List.getElem?_take_of_lt hi]; exact ho)
  exact this
end
end Reg
end Go.Proofs.YtkejpkcaojidaaaGreatDoor

namespace Go.Proofs.YtkejpkcaojidaaaGreatDoor
set_option linter.unusedVariables false
set_option linter.unusedSimpArgs false
open Go.RowKit
set_option linter.unusedSimpArgs false
set_option linter.unusedVariables false

/-- '==' of arrays of one-cell elements. -/
theorem run_equalIn_row {P : Program} {α : Type} [BEq α] [LawfulBEq α] (w : World) (d : Nat) (t elem : TypeId) (len : Nat) (f : α → Value) (ht : P.underlying t = some (.array len elem)) (hz : ∀ w, (sizeOf elem).run P w = .ok 1 w) (ha : ∀ w, (isAgg elem).run P w = .ok false w)
    (hf : ∀ a b w, (Op.equalIn d elem (f a) (f b)).run P w = .ok (a == b) w) (xs ys : List α) (hx : xs.length = len) (hy : ys.length = len) :
    (Op.equalIn (d + 1) t (.agg (xs.map f).toArray) (.agg (ys.map f).toArray)).run P w = .ok (xs == ys) w := by
  simp only [Op.equalIn, Sem.run_bind, run_underlying ht, Result.andThen_ok, hz, Nat.mul_one]
  simp only [Std.Legacy.Range.forIn_eq_forIn_range', Std.Legacy.Range.size, Nat.sub_zero, Nat.add_sub_cancel, Nat.div_one]
  have key : ∀ (m k : Nat) (w : World), k + m = len →
      ((forIn (List.range' k m) ((none : Option Bool), ()) fun i r => do
        let a ← part elem (xs.map f).toArray i
        let b ← part elem (ys.map f).toArray i
        let c ← Op.equalIn d elem a b
        if (!c) = true then pure (ForInStep.done (some false, ())) else pure (ForInStep.yield (none, ()))) : Sem (Option Bool × Unit)).run P w =
      .ok (if (xs.drop k == ys.drop k) = true then (none, ()) else (some false, ())) w := by
    intro m
    induction m with
    | zero =>
      intro k w hk
      rw [List.drop_of_length_le (by omega), List.drop_of_length_le (by omega)]
      simp
    | succ m ih =>
      intro k w hk
      have hpx : (part elem (xs.map f).toArray k).run P w = .ok (f xs[k]) w := by
        simp [part, ha, Result.andThen, show k < xs.length by omega]
      have hpy : (part elem (ys.map f).toArray k).run P w = .ok (f ys[k]) w := by
        simp [part, ha, Result.andThen, show k < ys.length by omega]
      have hdx := List.drop_eq_getElem_cons (l := xs) (i := k) (by omega)
      have hdy := List.drop_eq_getElem_cons (l := ys) (i := k) (by omega)
      simp only [List.range'_succ, List.forIn_cons, Sem.run_bind, hpx, hpy, hf, Result.andThen_ok, Sem.run_ite]
      by_cases he : xs[k] == ys[k]
      · simp only [he, Bool.not_true, Bool.false_eq_true, if_false, Sem.run_pure, Result.andThen_ok]
        rw [ih (k + 1) w (by omega), hdx, hdy]
        simp only [List.cons_beq_cons, he, Bool.true_and]
      · have he' : (xs[k] == ys[k]) = false := by simpa using he
        simp only [he', Bool.not_false, if_true, Sem.run_pure, Result.andThen_ok]
        rw [hdx, hdy]
        simp only [List.cons_beq_cons, he', Bool.false_and, Bool.false_eq_true, if_false]
  rw [key len 0 w (by omega)]
  cases hb : xs == ys
  · simp [hb, Result.andThen]
  · simp [hb, Result.andThen]
set_option maxRecDepth 100000 in
theorem sy2_neq (a b : Int) (w : World) : (binOp .neq 48 (.agg #[.int .u8 a, .int .u8 b]) (.agg #[.int .u8 a, .int .u8 b])).run Tryz.prog w = .ok (.bool false) w := by
  have h := run_equalIn_row (P := Tryz.prog) w 9999 48 47 2 (Value.int .u8) (by kernel_rfl) (fun _ => by kernel_rfl) (fun _ => by kernel_rfl) (fun a b w => run_equalIn_int w 9998 _ .u8 .u8 a b (by kernel_rfl)) [a, b] [a, b] rfl rfl
  rw [show ([a, b] == [a, b]) = true by simp] at h
  have h' : (Op.equalIn 10000 48 (.agg #[.int .u8 a, .int .u8 b]) (.agg #[.int .u8 a, .int .u8 b])).run Tryz.prog w = .ok true w := h
  rw [run_neq_struct, h']
  rfl
set_option maxRecDepth 100000 in
theorem bo2_neq (a b : Bool) (w : World) : (binOp .neq 57 (.agg #[.bool a, .bool b]) (.agg #[.bool a, .bool b])).run Tryz.prog w = .ok (.bool false) w := by
  cases a <;> cases b <;> kernel_rfl
/-- The slice at A of n lists of m cells reads as f. -/
def LiesG (w : World) (B : Nat) (A : Option Addr) (n m : Nat) (f : Nat → List Value) : Prop := 0 < n → ∃ b off, A = some ⟨b, off, none⟩ ∧ b < B ∧ ∀ i, i < n → w.rangeAt b (off + i * m) (f i)
theorem LiesG.on {w w' : World} {B n m : Nat} {A : Option Addr} {f : Nat → List Value} (h : LiesG w B A n m f) (hb : Below B w w') : LiesG w' B A n m f := fun h0 => by
  obtain ⟨b, off, e, hB, hc⟩ := h h0
  exact ⟨b, off, e, hB, fun i hi j v hv => (hb.cell (p := ⟨b, _, none⟩) hB).trans (hc i hi j v hv)⟩
/-- A slot as it came in; four symbols. -/
structure Sl where
  o : Int
  a : Sd
  b : Sd
  z : Int
  A : Option Addr
  n : Nat
  c : Nat
  I : Nat → Int × Int × Int × Int
def slL (s : Sl) : List Value := [.int .i64 s.o, .bool s.a.i, .int .i64 s.a.a, .int .u8 s.a.k, .int .u8 s.a.s, .int .u32 s.a.q, .int .u32 s.a.v, .bool s.b.i, .int .i64 s.b.a, .int .u8 s.b.k, .int .u8 s.b.s, .int .u32 s.b.q, .int .u32 s.b.v, .int .i64 s.z, .slice s.A s.n s.c]
def qL (v : Int × Int × Int × Int) : List Value := [.int .u8 v.1, .int .u8 v.2.1, .int .u8 v.2.2.1, .int .u8 v.2.2.2]
/-- The slots' reading. -/
structure SlotsIn (w : World) (A : Option Addr) (n : Nat) (S : Nat → Sl) : Prop where
  f : LiesG w w.heap.size A n 15 fun i => slL (S i)
  t : ∀ i, i < n → LiesG w w.heap.size (S i).A (S i).n 4 fun k => qL ((S i).I k)
  a : ∀ i, i < n → (S i).a.Fit
  k : ∀ i, i < n → (S i).n ≤ 9223372036854775807
set_option maxRecDepth 100000 in
theorem elemSlots : Tryz.prog.underlying 26 = some (.slice (Tryz.prog.elem 26)) := by kernel_rfl
set_option maxRecDepth 100000 in
theorem sizeSlots (w : World) : (sizeOf (Tryz.prog.elem 26)).run Tryz.prog w = .ok 15 w := by kernel_rfl
theorem idxSlots {A : Option Addr} {n : Nat} (c : Nat) {k b off : Nat} (hA : A = some ⟨b, off, none⟩) (hk : k < n) (w : World) :
    (Instr.indexAt 26 (.slice A n c) (.int .i64 (k : Int))).run Tryz.prog w = .ok (.pointer (some ⟨b, off + k * 15, none⟩)) w := by
  subst hA
  rw [run_indexAt_slice (h := elemSlots), if_pos (by omega), sizeSlots]
  simp [Result.andThen, Addr.add_lit]
set_option maxRecDepth 100000 in
theorem elemQs : Tryz.prog.underlying 43 = some (.slice (Tryz.prog.elem 43)) := by kernel_rfl
set_option maxRecDepth 100000 in
theorem sizeQs (w : World) : (sizeOf (Tryz.prog.elem 43)).run Tryz.prog w = .ok 4 w := by kernel_rfl
theorem idxQs {A : Option Addr} {n : Nat} (c : Nat) {k b off : Nat} (hA : A = some ⟨b, off, none⟩) (hk : k < n) (w : World) :
    (Instr.indexAt 43 (.slice A n c) (.int .i64 (k : Int))).run Tryz.prog w = .ok (.pointer (some ⟨b, off + k * 4, none⟩)) w := by
  subst hA
  rw [run_indexAt_slice (h := elemQs), if_pos (by omega), sizeQs]
  simp [Result.andThen, Addr.add_lit]
/-- A slot's box, cell by cell. -/
theorem Blk.sl {w : World} {g : Nat} {s : Sl} (h : Blk w g 45 (slL s).toArray) : w.cell? ⟨g, 0, none⟩ = some (.int .i64 s.o) ∧ (w.cell? ⟨g, 1, none⟩ = some (.bool s.a.i) ∧ w.cell? ⟨g, 2, none⟩ = some (.int .i64 s.a.a) ∧ w.cell? ⟨g, 3, none⟩ = some (.int .u8 s.a.k) ∧ w.cell? ⟨g, 4, none⟩ = some (.int .u8 s.a.s) ∧ w.cell? ⟨g, 5, none⟩ = some (.int .u32 s.a.q) ∧ w.cell? ⟨g, 6, none⟩ = some (.int .u32 s.a.v)) ∧ (w.cell? ⟨g, 7, none⟩ = some (.bool s.b.i) ∧ w.cell? ⟨g, 8, none⟩ = some (.int .i64 s.b.a) ∧ w.cell? ⟨g, 9, none⟩ = some (.int .u8 s.b.k) ∧ w.cell? ⟨g, 10, none⟩ = some (.int .u8 s.b.s) ∧ w.cell? ⟨g, 11, none⟩ = some (.int .u32 s.b.q) ∧ w.cell? ⟨g, 12, none⟩ = some (.int .u32 s.b.v)) ∧ w.cell? ⟨g, 13, none⟩ = some (.int .i64 s.z) ∧ w.cell? ⟨g, 14, none⟩ = some (.slice s.A s.n s.c) ∧ g < w.heap.size :=
  ⟨(h.cell 0).trans rfl, ⟨(h.cell 1).trans rfl, (h.cell 2).trans rfl, (h.cell 3).trans rfl, (h.cell 4).trans rfl, (h.cell 5).trans rfl, (h.cell 6).trans rfl⟩, ⟨(h.cell 7).trans rfl, (h.cell 8).trans rfl, (h.cell 9).trans rfl, (h.cell 10).trans rfl, (h.cell 11).trans rfl, (h.cell 12).trans rfl⟩, (h.cell 13).trans rfl, (h.cell 14).trans rfl, h.lt⟩
end Go.Proofs.YtkejpkcaojidaaaGreatDoor

namespace Go.Proofs.YtkejpkcaojidaaaGreatDoor
set_option linter.unusedVariables false
set_option linter.unusedSimpArgs false
open Go.RowKit

namespace Reg
section
variable {P : Program} {ops : Array Oper} {Q : Exit → Act → World → Prop} {w0 : World}
theorem getD_false' {l : Array Bool} {i : Nat} (h1 : l.getD i true = false) : l.getD i false = false := by
  by_cases hi : i < l.size
  · simpa [Array.getD, hi] using h1
  · simp [Array.getD, hi]
theorem any_preP (s : Nat) (Pre : World → Prop) (m : Nat) (hm : m ≤ ops.size) (ht : tailB ops m = true) (K : World → World → Prop) (hKt : ∀ a b c, K a b → K b c → K a c) (hf : fine2 ops = true) (fr : (Nat → Value) → Act) (hput : ∀ o ∈ ops.toList.take m, ∀ d, o.dst = some d → ∀ x v, (fr x).put (some d) v = fr (upd x d v))
    (G : Nat → Value → World → Prop) (hG : ∀ d v w w', K w w' → G d v w → G d v w') (H : Nat → World → Prop) (hH : ∀ j w w', K w w' → H j w → H j w')
    (hs : ∀ i o, i < m → ops[i]? = some o → ∀ x w, K w0 w → (∀ j ∈ deps o, Left2 ops G H x w j) → (i = s → Pre w) →
      wpOp P ops Q i (fun a' w' => ∃ v, a' = (fr x).put o.dst v ∧ K w w' ∧ (∀ d, o.dst = some d → G d v w') ∧ (o.dst = none → H i w') ∧ (i ≠ s → Pre w → Pre w')) (fr x) w)
    (hend : ∀ x w, K w0 w → (∀ j, j < m → Left2 ops G H x w j) → wpList P ops Q (ops.toList.drop m) (fr x) w) :
    ∀ (fuel : Nat) (l : Array Bool) (x : Nat → Value) (w : World), l.size = ops.size → nots l.toList ≤ fuel → (l.getD s false = false → Pre w) → K w0 w → (∀ j, l.getD j false = true → Left2 ops G H x w j) → (∀ j q, l.getD j false = true → ops[j]? = some q → ∀ k ∈ deps q, l.getD k false = true) → (∀ j, m ≤ j → l.getD j false = false) → wpAny P .any ops Q fuel l (fr x) w := by
  intro fuel
  induction fuel with
  | zero =>
    intro l x w hl hn hpr hb hL hcl htl
    have hall : ∀ i, i < ops.size → l.getD i false = true := fun i hi => by
      have := nots_zero l.toList (by omega) i (by simp; omega)
      have hil : i < l.size := by omega
      simp [hil] at this
      simp [Array.getD, hil, this]
    have hse : m = ops.size := by
      rcases Nat.lt_or_ge m ops.size with h1 | h1
      · have := hall m h1
        rw [htl m (Nat.le_refl _)] at this; cases this
      · omega
    exact any_seq m ht hf 0 l m (fr x) w hl hn (Nat.le_refl _) hm (fun j hj => ⟨fun _ => by omega, fun _ => hall j hj⟩) hcl (hend x w hb fun j hj => hL j (hall j (by omega)))
  | succ fuel ih =>
    intro l x w hl hn hpr hb hL hcl htl
    by_cases hdone : ∀ j, j < m → l.getD j false = true
    · exact any_seq m ht hf (fuel + 1) l m (fr x) w hl hn (Nat.le_refl _) hm (fun j hj => Iff.intro (fun h => (by
        rcases Nat.lt_or_ge j m with h1 | h1
        · exact h1
        · rw [htl j h1] at h; cases h)) (fun h => hdone j h)) hcl (hend x w hb fun j hj => hL j (hdone j hj))
    refine ⟨fun hr => absurd (fun j hj => all_listed2 hf l hl hr (j + 1) j (by omega) (by omega)) hdone, fun i hi => ?_⟩
    obtain ⟨o, ho, h1, hdl⟩ := ready_deps hi
    have hio : i < ops.size := (Array.getElem?_eq_some_iff.1 ho).1
    have him : i < m := by
      rcases Nat.lt_or_ge i m with h2 | h2
      · exact h2
      · exact absurd (fun j hj => ahead_done ht hl ho h2 hcl hdl j (by omega)) hdone
    obtain ⟨hcl', _, q3⟩ := closed_set hl ho hcl hdl
    have htail' : ∀ j, m ≤ j → (l.setIfInBounds i true).getD j false = false := fun j hj => by rw [q3 j (by omega)]; exact htl j hj
    have hd1 : ∀ j ∈ deps o, Left2 ops G H x w j := fun j hj => hL _ (hdl j hj)
    refine wpOp_mono (fun a' w' h => ?_) (hs i o him ho x w hb hd1 (fun e => hpr (by rw [← e]; exact getD_false' h1)))
    obtain ⟨v, rfl, hb', hg, hh, hps⟩ := h
    have hpr' : (l.setIfInBounds i true).getD s false = false → Pre w' := fun hs' => by
      by_cases e : i = s
      · subst e
        have hil : i < l.size := by omega
        simp [Array.getD, hil] at hs'
      · exact hps e (hpr (by rwa [getD_set_ne false e] at hs'))
    have hset := nots_set l.toList i (getD_false h1)
    cases hd : o.dst with
    | none =>
      have e0 : (fr x).put none v = fr x := rfl
      rw [e0]
      refine ih _ _ w' (by simp [hl]) ?_ hpr' (hKt _ _ _ hb hb') (fun j hj => ?_) hcl' htail'
      · simp only [Array.toList_setIfInBounds]
        omega
      · by_cases hji : j = i
        · subst hji
          unfold Left2
          rw [ho]
          simp only [Option.bind_some, hd]
          exact hh hd
        · have hjl : l.getD j false = true := by rw [getD_set_ne false (fun h => hji h.symm)] at hj; exact hj
          have := hL j hjl
          unfold Left2 at this ⊢
          cases hbind : (ops[j]?).bind (·.dst) with
          | none => rw [hbind] at this; exact hH _ _ _ hb' this
          | some d' => rw [hbind] at this; exact hG _ _ _ _ hb' this
    | some d =>
      have hp := hput o (by rw [List.mem_take_iff_getElem]; exact ⟨i, by simp; omega, by have := (Array.getElem?_eq_some_iff.1 ho).2; simpa using this⟩) d hd x v
      rw [hp]
      refine ih _ _ w' (by simp [hl]) ?_ hpr' (hKt _ _ _ hb hb') (fun j hj => ?_) hcl' htail'
      · simp only [Array.toList_setIfInBounds]
        omega
      · unfold Left2
        cases hbind : (ops[j]?).bind (·.dst) with
        | none =>
          simp only
          have hji : j ≠ i := fun h => by
            subst h
            rw [ho] at hbind
            simp [hd] at hbind
          have hjl : l.getD j false = true := by rw [getD_set_ne false (fun h => hji h.symm)] at hj; exact hj
          have := hL j hjl
          unfold Left2 at this
          rw [hbind] at this
          exact hH _ _ _ hb' this
        | some d' =>
          simp only
          by_cases e : d' = d
          · subst e
            rw [upd_same]
            exact hg _ hd
          · rw [upd_other _ _ _ _ e]
            have hji : j ≠ i := fun h => by
              subst h
              rw [ho] at hbind
              simp [hd] at hbind
              exact e hbind.symm
            have hjl : l.getD j false = true := by rw [getD_set_ne false (fun h => hji h.symm)] at hj; exact hj
            have := hL j hjl
            unfold Left2 at this
            rw [hbind] at this
            exact hG _ _ _ _ hb' this
theorem wp_prefixP {id : Nat} {a : Act} (s : Nat) (Pre : World → Prop) (hPre : Pre w0.drew) (m : Nat) (ht : tailB ops m = true) (p : Nat → Bool) (K : World → World → Prop) (hK0 : K w0 w0.drew) (hKt : ∀ a b c, K a b → K b c → K a c) (hm : P.follows .mixedOrders = true) (hf : fine2 ops = true) (hms : decide (m ≤ ops.size) = true) (hp : ((ops.toList.take m).all fun o => match o.dst with | some d => p d | none => true) = true)
    (G : Nat → Value → World → Prop) (hG : ∀ d v w w', K w w' → G d v w → G d v w') (H : Nat → World → Prop) (hH : ∀ j w w', K w w' → H j w → H j w')
    (hs : Each (fun i o => ∀ x w, K w0 w → (∀ j ∈ deps o, Left2 ops G H x w j) → (i = s → Pre w) →
      wpOp P ops Q i (fun a' w' => ∃ v, a' = (frame a p x).put o.dst v ∧ K w w' ∧ (∀ d, o.dst = some d → G d v w') ∧ (o.dst = none → H i w') ∧ (i ≠ s → Pre w → Pre w')) (frame a p x) w) 0 (ops.toList.take m))
    (hend : ∀ x w, K w0 w → (∀ j, j < m → Left2 ops G H x w j) → wpList P ops Q (ops.toList.drop m) (frame a p x) w) : (Code.region id ops true).wp P Q a w0 := by
  have := wp_region_any (id := id) (P := P) (Q := Q) (ops := ops) hm (any_preP s Pre m (of_decide_eq_true hms) ht (w0 := w0) K hKt hf (frame a p) (fun o ho d hd x v => frame_put a p x d v (by
    rw [List.all_eq_true] at hp
    have := hp o ho
    rw [hd] at this
    exact this)) G hG H hH (fun i o him ho => by
      have := Each.take m ops.toList 0 hs i o him (by simpa using ho)
      rw [Nat.zero_add] at this
      exact this) hend _ _ (fun t => a.tmps.toList.getD t undef) w0.drew (by simp) (by simp [nots]) (fun _ => hPre) hK0 (fun j hj => by
        exfalso
        by_cases h : j < ops.size
        · simp [Array.getD, h] at hj
        · simp [Array.getD, h] at hj) (fun j q hj => by
        exfalso
        by_cases h : j < ops.size
        · simp [Array.getD, h] at hj
        · simp [Array.getD, h] at hj) (fun j _ => by
        by_cases h : j < ops.size
        · simp [Array.getD, h]
        · simp [Array.getD, h]))
  rw [frame_self] at this
  exact this
/-- What a region keeps whose calls turn blocks of the types ts alone, from lo on: all others, and each of Js, once it holds. -/
def KT (lo : Nat) (ts : List TypeId) (Js : List (World → Prop)) (w w' : World) : Prop := Below lo w w' ∧ KeptBut w w' ts ∧ ∀ J ∈ Js, J w → J w'
end
section
variable {lo : Nat} {ts : List TypeId} {Js : List (World → Prop)} {w w' : World}
theorem KT.trans (a b c : World) (h : KT lo ts Js a b) (k : KT lo ts Js b c) : KT lo ts Js a c := ⟨h.1.trans k.1, h.2.1.trans k.2.1, fun J hJ hj => k.2.2 J hJ (h.2.2 J hJ hj)⟩
theorem KT.refl (w : World) : KT lo ts Js w w := ⟨Below.refl _ _, KeptBut.refl _ _, fun _ _ h => h⟩
theorem KT.grow (hJ : ∀ J ∈ Js, ∀ u u', Below u.heap.size u u' → J u → J u') (hB : lo ≤ w.heap.size) (h : Below w.heap.size w w') : KT lo ts Js w w' := ⟨h.mono hB, fun g t cs _ hB => hB.on h, fun J hj => hJ J hj _ _ h⟩
theorem KT.drew (w : World) (hJ : ∀ J ∈ Js, ∀ u u', Below u.heap.size u u' → J u → J u') (hB : lo ≤ w.heap.size) : KT lo ts Js w w.drew := KT.grow hJ hB (Below.refl _ _).drew
theorem KT.blk {g : Nat} {t : TypeId} {cs : Array Value} (h : KT lo ts Js w w') (ht : t ∉ ts) (hB : Blk w g t cs) : Blk w' g t cs := h.2.1 g t cs ht hB
theorem KT.size (h : KT lo ts Js w w') : w.heap.size ≤ w'.heap.size := h.1.size
theorem KT.j (h : KT lo ts Js w w') (J : World → Prop) (hJ : J ∈ Js) (hj : J w) : J w' := h.2.2 J hJ hj
/-- A value; .. and what holds of memory since. -/
def FactK.vt (V : Value) (J : World → Prop) (hJ : J ∈ Js) : FactK (KT lo ts Js) := ⟨fun v w => v = V ∧ J w, fun _ _ _ h hj => ⟨hj.1, h.j J hJ hj.2⟩⟩
/-- The address of a block of its own. -/
def FactK.box (b : Nat) (t : TypeId) (cs : Array Value) (ht : t ∉ ts) : FactK (KT lo ts Js) := ⟨fun v w => ∃ g, v = .pointer (some ⟨g, 0, none⟩) ∧ b ≤ g ∧ Blk w g t cs, fun _ _ _ h hj => by
  obtain ⟨g, e, hg, hB⟩ := hj
  exact ⟨g, e, hg, h.blk ht hB⟩⟩
end
end Reg
end Go.Proofs.YtkejpkcaojidaaaGreatDoor

