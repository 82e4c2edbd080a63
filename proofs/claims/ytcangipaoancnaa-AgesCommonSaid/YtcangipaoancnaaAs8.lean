/-
  Package ages: a clock, made and told. Conditions: its list's reading; its ages are within their bounds.
-/
import Derived.Test.YtcangipaoancnaaAs7
import Derived.Laws.Append
namespace Go.Proofs.Ytcangipaoancnaa
open Go.RowKit
set_option linter.unusedVariables false
set_option linter.unusedSimpArgs false

/-- A clock in its block, and its last ages. -/
def ClkA (u : World) (b M : Nat) (a : Nat → Int) : Prop := ∃ g o c, Blk u b 123 #[.slice (some ⟨g, o, none⟩) M c] ∧ M ≤ c ∧ g < u.heap.size ∧ g ≠ b ∧ ∀ i, i < M → u.cell? ⟨g, o + i, none⟩ = some (.int .i64 (a i))
/-- The same, its list's block by name. -/
def ClkG (u : World) (g b M : Nat) (a : Nat → Int) : Prop := ∃ o c, Blk u b 123 #[.slice (some ⟨g, o, none⟩) M c] ∧ M ≤ c ∧ g < u.heap.size ∧ g ≠ b ∧ ∀ i, i < M → u.cell? ⟨g, o + i, none⟩ = some (.int .i64 (a i))
theorem ClkG.clk {u : World} {g b M : Nat} {a : Nat → Int} (h : ClkG u g b M a) : ClkA u b M a := ⟨g, h⟩
theorem ClkA.congr {u : World} {b M : Nat} {a a' : Nat → Int} (h : ClkA u b M a) (e : ∀ i, i < M → a i = a' i) : ClkA u b M a' := by
  obtain ⟨g, o, c, h1, h2, h3, h4, h5⟩ := h
  exact ⟨g, o, c, h1, h2, h3, h4, fun i hi => by rw [← e i hi]; exact h5 i hi⟩
theorem ClkG.grown {u v : World} {g b M : Nat} {a : Nat → Int} {row : Option Nat} (h : ClkG u g b M a) (hg : u.grownBy v row) (h1 : row ≠ some g) (h2 : row ≠ some b) : ClkG v g b M a := by
  obtain ⟨o, c, q1, q2, q3, q4, q5⟩ := h
  refine ⟨o, c, (hg.block b q1.lt (Ne.symm h2)).trans q1, q2, Nat.lt_of_lt_of_le q3 hg.size, q4, fun i hi => ?_⟩
  have := q5 i hi
  simp only [World.cell?, hg.block g q3 (Ne.symm h1)] at this ⊢
  exact this
theorem ClkA.on {u v : World} {b M : Nat} {a : Nat → Int} (h : ClkA u b M a) (k : Below u.heap.size u v) : ClkA v b M a := by
  obtain ⟨g, o, c, h1, h2, h3, h4, h5⟩ := h
  exact ⟨g, o, c, h1.on k, h2, Nat.lt_of_lt_of_le h3 k.size, h4, fun i hi => (k.cell (p := ⟨g, _, none⟩) h3).trans (h5 i hi)⟩
/-- The ages, one more put behind. -/
def pushA (a : Nat → Int) (M : Nat) (z : Int) : Nat → Int := fun i => if i + 1 < M then a (i + 1) else z
def agsL (a : Nat → Int) (n : Nat) : List Value := (List.range n).map fun j => Value.int .i64 (a j)
theorem agsL_len (a : Nat → Int) (n : Nat) : (agsL a n).length = n := by simp [agsL]
theorem agsL_get {a : Nat → Int} {n j : Nat} (hj : j < n) : (agsL a n)[j]? = some (.int .i64 (a j)) := by simp [agsL, hj]
set_option maxRecDepth 100000 in
theorem run_bsl_i64 (z : Int) (u : World) : (Instr.buildSlice 121 1 #[(0, .int .i64 z)]).run Try.prog u = .ok (.slice (some ⟨u.heap.size, 0, none⟩) 1 1) (u.alloc (.cells #[.int .i64 z] 2)) := by kernel_rfl
set_option maxRecDepth 100000 in
theorem cutI64 (g off n c : Nat) (h1 : 2 ≤ n) (h2 : n ≤ c) (w : World) :
    (Instr.sliceAt 121 (.slice (some ⟨g, off, none⟩) n c) (some (.int .i64 1)) (some (.int .i64 (n : Int))) (some (.int .i64 (n : Int)))).run Try.prog w = .ok (.slice (some ⟨g, off + 1, none⟩) (n - 1) (n - 1)) w := by
  rw [run_sliceAt_slice w _ _ _ _ _ elemI64, run_slice_lhm w 121 _ n c elemI64 .i64 .i64 .i64 1 (n : Int) (n : Int) (by omega) (by omega) (by omega) (by omega), show Try.prog.elem 121 = 2 by kernel_rfl, sizeI64]
  simp only [Result.andThen, sliced]
  simp [Addr.add]
  omega
def Reg.FactK.bz {B : Nat} (z : Int) : Reg.FactK (Reg.KJ B [] []) := ⟨fun v w => ∃ g, v = .slice (some ⟨g, 0, none⟩) 1 1 ∧ Blk w g 2 #[.int .i64 z], fun _ _ _ hb h => by
  obtain ⟨g, e, h1⟩ := h
  exact ⟨g, e, hb.blk (by simp) h1⟩⟩
def Reg.FactK.ap {B : Nat} (lo M : Nat) (L : List Value) : Reg.FactK (Reg.KJ B [] []) := ⟨fun v w => ∃ G c, ∃ Z : List Value, v = .slice (some ⟨G, 0, none⟩) M c ∧ M ≤ c ∧ lo ≤ G ∧ Blk w G 2 (L ++ Z).toArray, fun _ _ _ hb h => by
  obtain ⟨G, c, Z, e, h0, h1, h2⟩ := h
  exact ⟨G, c, Z, e, h0, h1, hb.blk (by simp) h2⟩⟩
/-- append to a list without room, wherever it lies: a new block. -/
theorem Reg.step_append_grow {P : Program} {ops : Array Oper} {o : Oper} {a : Act} {w : World} {K : Act → World → Prop} {Q : Exit → Act → World → Prop} {E : Prop} (hgd : o.guard = none) (s x : Operand) (t : TypeId) (ho : o.op = .call { callee := .builtin .append, args := #[s, x], argTypes := #[t, t] })
    (e : TypeId) (i : TypeInfo) (z : Value) (bytes : Nat) (ht : P.underlying t = some (.slice e)) (hi : P.info? e = some i) (hz : i.zero = some z) (hsize : i.size = 1) (hby : i.bytes = bytes)
    (b : Addr) (n : Nat) (olds : List Value) (hs : a.eval s = .slice (some b) n n) (hlo : olds.length = n) (holds : ∀ j v, olds[j]? = some v → w.cell? (b.add j) = some v)
    (g : Nat) (y : Value) (hx : a.eval x = .slice (some ⟨g, 0, none⟩) 1 1) (hy : w.cell? ⟨g, 0, none⟩ = some y) (h63 : n + 1 ≤ maxLen) (hbytes : (n + 1) * bytes ≤ 140737488355328)
    (hzs : z.cells.size = 1) (h : ∀ G c' Z w', n + 1 ≤ c' → w.heap.size ≤ G → Blk w' G e (olds ++ [y] ++ Z : List Value).toArray → Below w.heap.size w w' → K (a.put o.dst (.slice (some ⟨G, 0, none⟩) (n + 1) c')) w') :
    if Region.wanted o (yielded ops a.tmps) = true then Oper.wp P o a w K Q else E := by
  have hw : Region.wanted o (yielded ops a.tmps) = true := by simp [Region.wanted, hgd]
  rw [if_pos hw]
  obtain ⟨v', w', hrun, hown, hgr⟩ := run_append_arg_grows (P := P) (w := w) t o.type e i z 1 bytes ht hi hz hsize hby hzs (by omega) b n n olds (by omega) holds ⟨g, 0, none⟩ 1 1 [y] rfl (fun j v hv => by
    cases j with
    | zero => simp at hv; subst hv; rw [Addr.add_mid]; exact hy
    | succ j => simp at hv) (by omega) h63 hbytes
  have hb' : Below w.heap.size w w' := (Below.refl _ w).grown hgr (Nat.le_refl _) (fun k e => by cases e)
  rcases hown.2 with ⟨rfl, h0⟩ | ⟨G, cap, cur, rfl, hG, hh, h1, h2, h3, h4⟩
  · omega
  · unfold Oper.wp
    simp [execOp, ho, resolve, invoke, builtin, hs, hx, hrun, Result.andThen]
    refine h G cap (cur.toList.drop (n + 1)) w' h1 hG ?_ hb'
    rw [Nat.mul_one] at h4
    have e1 : (olds ++ [y] ++ cur.toList.drop (n + 1)).toArray = cur := by rw [← h4, List.take_append_drop]
    rw [e1]; exact hh
set_option maxRecDepth 100000 in
theorem newClock_bad (n : Int) (h : nrB n = false) (w : World) : Calls Try.prog 45 #[.int .i64 n] w fun e w' => e = .returned (.tuple #[.pointer none, .int .i64 1]) ∧ w = w' := by
  have HC : Hid (Calls Try.prog 69 #[.int .i64 n] w fun e w' => e = .returned (.bool false) ∧ w = w') := Lib.hid (by rw [← h]; exact agesNumber_is n w)
  clear h
  go_enter Try.func45, Try.ntmps45
  go_wp2_with (go_at_call 69; (with_reducible refine HC.out.mono ?_); rintro e w1 ⟨rfl, rfl⟩)
  go_ret2
  exact ⟨rfl, rfl⟩
set_option maxRecDepth 100000 in
set_option maxHeartbeats 2000000 in
theorem newClock_is (N : Nat) (hN : 4 ≤ N ∧ N ≤ 16) (w : World) : Calls Try.prog 45 #[.int .i64 (N : Int)] w fun e w' => ∃ b, e = .returned (.tuple #[.pointer (some ⟨b, 0, none⟩), .int .i64 0]) ∧ w.heap.size ≤ b ∧ ClkA w' b (2 * N) (fun _ => -1) ∧ Below w.heap.size w w' := by
  have HC : Hid (Calls Try.prog 69 #[.int .i64 (N : Int)] w fun e w' => e = .returned (.bool true) ∧ w = w') := Lib.hid (by
    have h := agesNumber_is (N : Int) w
    rwa [show nrB (N : Int) = true by unfold nrB; simp; omega] at h)
  obtain ⟨M, hM⟩ : ∃ M, M = 2 * N := ⟨_, rfl⟩
  have eM : (2 : Int) * (N : Int) = (M : Int) := by omega
  have wM : IntKind.i64.wrap (M : Int) = (M : Int) := IntWalk.i64_in _ (by omega)
  rw [← hM]
  have HR := Lib.hid (repeat_is w.heap.size M (by omega) (w.alloc (.cells #[.int .i64 (-1)] 2)) ((Blk.new w 2 #[.int .i64 (-1)]).cell 0))
  have HMM : Hid (1 ≤ M) := Lib.hid (by omega)
  clear hM
  go_enter Try.func45, Try.ntmps45
  go_wp2_with (first
    | (go_at_call 69; (with_reducible refine HC.out.mono ?_); rintro e w1 ⟨rfl, rfl⟩)
    | (go_at_call 72; (with_reducible refine HR.out.mono ?_); rintro e w2 ⟨g, rfl, q1, q2, q3⟩; have HQ1 := Lib.hid q1; have HQ2 := Lib.hid q2; have HQ3 := Lib.hid q3; clear q1 q2 q3))
  go_ret2
  have hb2 := below_al (Below.refl w2.heap.size w2) (.cells #[.slice (some ⟨g, 0, none⟩) M M] 123)
  have hlow : Below w.heap.size w w2 := below_then (below_al (Below.refl _ w) _) HQ3.out
  refine ⟨w2.heap.size, rfl, hlow.size, ⟨g, 0, M, Blk.new w2 _ _, Nat.le_refl _, Nat.lt_of_lt_of_le HQ2.out.lt hb2.size, by have := HQ2.out.lt; omega, fun i hi => ?_⟩, below_then hlow hb2⟩
  rw [(HQ2.out.on hb2).cell, List.getElem?_toArray, Nat.zero_add, List.getElem?_replicate, if_pos hi]
set_option maxRecDepth 100000 in
theorem step_nil (x y : Int) (w : World) : Calls Try.prog 47 #[.pointer none, .int .i64 x, .int .i64 y] w fun e w' => e = .returned (.tuple #[.int .i64 (-1), .int .i64 (-1)]) ∧ w = w' := by
  go_enter Try.func47, Try.ntmps47
  go_wp2_with fail
  go_ret2
  exact ⟨rfl, rfl⟩
set_option maxRecDepth 100000 in
theorem step_zero (x y : Int) (b : Nat) (w : World) (hB : w.cell? ⟨b, 0, none⟩ = some (.slice none 0 0)) : Calls Try.prog 47 #[.pointer (some ⟨b, 0, none⟩), .int .i64 x, .int .i64 y] w fun e w' => e = .returned (.tuple #[.int .i64 (-1), .int .i64 (-1)]) ∧ w = w' := by
  have lb := cell_lt' hB
  go_enter Try.func47, Try.ntmps47
  go_wp2_with fail
  go_ret2
  exact ⟨rfl, rfl⟩
theorem ageC_in (m : Nat) (x y : Int) : -1 ≤ ageC m x y ∧ ageC m x y ≤ 1099511627776 := by
  have h : ∀ z, -1 ≤ orN z ∧ orN z ≤ 1099511627776 := fun z => by
    unfold orN agB
    split
    · rename_i h; simp at h; omega
    · omega
  unfold ageC
  split
  · exact h _
  · exact h _
theorem pushA_in {a : Nat → Int} {M : Nat} {z : Int} (ha : ∀ i, i < M → -1 ≤ a i ∧ a i ≤ 1099511627776) (hz : -1 ≤ z ∧ z ≤ 1099511627776) : ∀ i, i < M → -1 ≤ pushA a M z i ∧ pushA a M z i ≤ 1099511627776 := fun i hi => by
  unfold pushA
  split
  · exact ha _ (by assumption)
  · exact hz
set_option maxRecDepth 100000 in
set_option maxHeartbeats 4000000 in
theorem step_is (b M : Nat) (hM : 2 ≤ M ∧ M ≤ 65536) (a : Nat → Int) (ha : ∀ i, i < M → -1 ≤ a i ∧ a i ≤ 1099511627776) (x y : Int) (w : World) (hK : ClkA w b M a) :
    Calls Try.prog 47 #[.pointer (some ⟨b, 0, none⟩), .int .i64 x, .int .i64 y] w fun e w' => e = .returned (.tuple #[.int .i64 (ageC M x y), .int .i64 (orN (shM (pushA a M (ageC M x y)) M M))]) ∧ (∃ G, w.heap.size ≤ G ∧ ClkG w' G b M (pushA a M (ageC M x y))) ∧ But b w w' := by
  obtain ⟨g, o, c, hB, hc, hg, hgb, hL⟩ := hK
  obtain ⟨i0, hi0, hz0, hz1, hz2⟩ := info_parts infoI64
  have HI := Lib.hid hi0
  have HZ0 := Lib.hid hz0
  have HZ1 := Lib.hid hz1
  have HZ2 := Lib.hid hz2
  have HA := Lib.hid (age_is b (some ⟨g, o, none⟩) M c x y hM.2 w hB)
  obtain ⟨z, hz⟩ : ∃ z, z = ageC M x y := ⟨_, rfl⟩
  have HZB : Hid (-1 ≤ z ∧ z ≤ 1099511627776) := Lib.hid (by rw [hz]; exact ageC_in _ _ _)
  rw [← hz] at HA ⊢
  obtain ⟨a', ha'⟩ : ∃ a', a' = pushA a M z := ⟨_, rfl⟩
  have HAB : Hid (∀ i, i < M → -1 ≤ a' i ∧ a' i ≤ 1099511627776) := Lib.hid (by rw [ha']; exact pushA_in ha HZB.out)
  have HPL : Hid (agsL (fun i => a (i + 1)) (M - 1) ++ [.int .i64 z] = agsL a' M) := Lib.hid (by
    rw [ha']
    apply List.ext_getElem?
    intro j
    by_cases hj : j < M
    · rw [agsL_get hj]
      by_cases h1 : j + 1 < M
      · rw [List.getElem?_append_left (by rw [agsL_len]; omega), agsL_get (by omega)]
        simp [pushA, h1]
      · obtain rfl : j = M - 1 := by omega
        rw [List.getElem?_append_right (by rw [agsL_len]; omega), agsL_len, Nat.sub_self]
        simp [pushA]; omega
    · rw [List.getElem?_eq_none (by rw [List.length_append, agsL_len]; simp; omega), List.getElem?_eq_none (by rw [agsL_len]; omega)])
  rw [← ha']
  have HB := Lib.hid hB
  have HG := Lib.hid hg
  have HGB := Lib.hid hgb
  have HL := Lib.hid hL
  have c0 : w.cell? ⟨b, 0, none⟩ = some (.slice (some ⟨g, o, none⟩) M c) := hB.cell 0
  have l0 := hB.lt
  have dM : ((M : Int) == 0) = false := by simp; omega
  have dM0 : (M == 0) = false := by simp; omega
  clear hB hg hgb hL hz ha' hi0 hz0 hz1 hz2 ha
  go_enter Try.func47, Try.ntmps47
  go_upto_region 4 with (go_at_call 73; (with_reducible refine HA.out.mono ?_); rintro e w1 ⟨rfl, rfl⟩)
  clear c0 l0 dM dM0
  refine Reg.wp_prefix 21 (by kernel_rfl) (fun tt => decide (22 ≤ tt) && decide (tt ≤ 42)) (Reg.KJ w.heap.size [] []) (Reg.KJ.drew _ (by simp)) Reg.KJ.trans (by kernel_rfl) (by kernel_rfl) (by kernel_rfl) (by kernel_rfl) (fun zz => (Reg.tblK [
    (22, .is (.pointer (some ⟨b, 0, none⟩))),
    (23, .is (.pointer (some ⟨b, 0, none⟩))),
    (24, .is (.pointer (some ⟨b, 0, none⟩))),
    (25, .is (.pointer (some ⟨b, 0, none⟩))),
    (26, .is (.slice (some ⟨g, o, none⟩) M c)),
    (27, .is (.pointer (some ⟨b, 0, none⟩))),
    (28, .is (.pointer (some ⟨b, 0, none⟩))),
    (29, .is (.pointer (some ⟨b, 0, none⟩))),
    (30, .is (.slice (some ⟨g, o, none⟩) M c)),
    (31, .is (.int .i64 (M : Int))),
    (32, .is (.pointer (some ⟨b, 0, none⟩))),
    (33, .is (.pointer (some ⟨b, 0, none⟩))),
    (34, .is (.pointer (some ⟨b, 0, none⟩))),
    (35, .is (.slice (some ⟨g, o, none⟩) M c)),
    (36, .is (.int .i64 (M : Int))),
    (37, .is (.slice (some ⟨g, o + 1, none⟩) (M - 1) (M - 1))),
    (38, .is (.int .i64 z)),
    (39, .bz z),
    (40, .ap w.heap.size M (agsL a' M)),
    (41, .is (.pointer (some ⟨b, 0, none⟩))),
    (42, .is (.pointer (some ⟨b, 0, none⟩)))] zz).P) (fun zz => (Reg.tblK _ zz).on) (fun zz => (Reg.memK [] zz).P) (fun zz => (Reg.memK _ zz).on) ?_ ?_
  · simp only [Reg.frame, Reg.over, Nat.reduceAdd, Nat.reduceLeDiff, decide_true, decide_false, if_true, Bool.false_eq_true, if_false, Bool.and_true, Bool.and_false]
    refine ⟨?_, ?_, ?_, ?_, ?_, ?_, ?_, ?_, ?_, ?_, ?_, ?_, ?_, ?_, ?_, ?_, ?_, ?_, ?_, ?_, ?_, trivial⟩
    · intro y' u hku hd
      refine wpOp_step rfl fun KK hK => ?_
      go_simp
      exact hK _ _ ⟨_, rfl, Reg.KJ.refl _, fun d hd => by cases hd; exact rfl, fun h => by cases h⟩
    · intro y' u hku hd
      refine wpOp_step rfl fun KK hK => ?_
      go_simp
      exact hK _ _ ⟨_, rfl, Reg.KJ.refl _, fun d hd => by cases hd; exact rfl, fun h => by cases h⟩
    · intro y' u hku hd
      have h23 : y' 23 = .pointer (some ⟨b, 0, none⟩) := hd 1 (by decide)
      refine wpOp_step rfl fun KK hK => ?_
      simp only [h23] at hK ⊢
      go_simp
      exact hK _ _ ⟨_, rfl, Reg.KJ.refl _, fun d hd => by cases hd; exact rfl, fun h => by cases h⟩
    · intro y' u hku hd
      have h24 : y' 24 = .pointer (some ⟨b, 0, none⟩) := hd 2 (by decide)
      refine wpOp_step rfl fun KK hK => ?_
      simp only [h24] at hK ⊢
      go_simp
      exact hK _ _ ⟨_, rfl, Reg.KJ.refl _, fun d hd => by cases hd; exact rfl, fun h => by cases h⟩
    · intro y' u hku hd
      have h25 : y' 25 = .pointer (some ⟨b, 0, none⟩) := hd 3 (by decide)
      have cb := (HB.out.on hku.below).cell 0
      have lb := (HB.out.on hku.below).lt
      refine wpOp_step rfl fun KK hK => ?_
      simp only [h25] at hK ⊢
      go_simp
      exact hK _ _ ⟨_, rfl, Reg.KJ.refl _, fun d hd => by cases hd; exact rfl, fun h => by cases h⟩
    · intro y' u hku hd
      refine wpOp_step rfl fun KK hK => ?_
      go_simp
      exact hK _ _ ⟨_, rfl, Reg.KJ.refl _, fun d hd => by cases hd; exact rfl, fun h => by cases h⟩
    · intro y' u hku hd
      have h27 : y' 27 = .pointer (some ⟨b, 0, none⟩) := hd 5 (by decide)
      refine wpOp_step rfl fun KK hK => ?_
      simp only [h27] at hK ⊢
      go_simp
      exact hK _ _ ⟨_, rfl, Reg.KJ.refl _, fun d hd => by cases hd; exact rfl, fun h => by cases h⟩
    · intro y' u hku hd
      have h28 : y' 28 = .pointer (some ⟨b, 0, none⟩) := hd 6 (by decide)
      refine wpOp_step rfl fun KK hK => ?_
      simp only [h28] at hK ⊢
      go_simp
      exact hK _ _ ⟨_, rfl, Reg.KJ.refl _, fun d hd => by cases hd; exact rfl, fun h => by cases h⟩
    · intro y' u hku hd
      have h29 : y' 29 = .pointer (some ⟨b, 0, none⟩) := hd 7 (by decide)
      have cb := (HB.out.on hku.below).cell 0
      have lb := (HB.out.on hku.below).lt
      refine wpOp_step rfl fun KK hK => ?_
      simp only [h29] at hK ⊢
      go_simp
      exact hK _ _ ⟨_, rfl, Reg.KJ.refl _, fun d hd => by cases hd; exact rfl, fun h => by cases h⟩
    · intro y' u hku hd
      have h30 : y' 30 = .slice (some ⟨g, o, none⟩) M c := hd 8 (by decide)
      refine wpOp_step rfl fun KK hK => ?_
      simp only [h30] at hK ⊢
      go_simp
      exact hK _ _ ⟨_, rfl, Reg.KJ.refl _, fun d hd => by cases hd; exact rfl, fun h => by cases h⟩
    · intro y' u hku hd
      refine wpOp_step rfl fun KK hK => ?_
      go_simp
      exact hK _ _ ⟨_, rfl, Reg.KJ.refl _, fun d hd => by cases hd; exact rfl, fun h => by cases h⟩
    · intro y' u hku hd
      have h32 : y' 32 = .pointer (some ⟨b, 0, none⟩) := hd 10 (by decide)
      refine wpOp_step rfl fun KK hK => ?_
      simp only [h32] at hK ⊢
      go_simp
      exact hK _ _ ⟨_, rfl, Reg.KJ.refl _, fun d hd => by cases hd; exact rfl, fun h => by cases h⟩
    · intro y' u hku hd
      have h33 : y' 33 = .pointer (some ⟨b, 0, none⟩) := hd 11 (by decide)
      refine wpOp_step rfl fun KK hK => ?_
      simp only [h33] at hK ⊢
      go_simp
      exact hK _ _ ⟨_, rfl, Reg.KJ.refl _, fun d hd => by cases hd; exact rfl, fun h => by cases h⟩
    · intro y' u hku hd
      have h34 : y' 34 = .pointer (some ⟨b, 0, none⟩) := hd 12 (by decide)
      have cb := (HB.out.on hku.below).cell 0
      have lb := (HB.out.on hku.below).lt
      refine wpOp_step rfl fun KK hK => ?_
      simp only [h34] at hK ⊢
      go_simp
      exact hK _ _ ⟨_, rfl, Reg.KJ.refl _, fun d hd => by cases hd; exact rfl, fun h => by cases h⟩
    · intro y' u hku hd
      have h35 : y' 35 = .slice (some ⟨g, o, none⟩) M c := hd 13 (by decide)
      refine wpOp_step rfl fun KK hK => ?_
      simp only [h35] at hK ⊢
      go_simp
      exact hK _ _ ⟨_, rfl, Reg.KJ.refl _, fun d hd => by cases hd; exact rfl, fun h => by cases h⟩
    · intro y' u hku hd
      have h26 : y' 26 = .slice (some ⟨g, o, none⟩) M c := hd 4 (by decide)
      have h31 : y' 31 = .int .i64 (M : Int) := hd 9 (by decide)
      have h36 : y' 36 = .int .i64 (M : Int) := hd 14 (by decide)
      have hsl := fun W => cutI64 g o M c hM.1 hc W
      refine wpOp_step rfl fun KK hK => ?_
      simp only [h26, h31, h36] at hK ⊢
      go_simp
      exact hK _ _ ⟨_, rfl, Reg.KJ.refl _, fun d hd => by cases hd; exact rfl, fun h => by cases h⟩
    · intro y' u hku hd
      refine wpOp_step rfl fun KK hK => ?_
      go_simp
      exact hK _ _ ⟨_, rfl, Reg.KJ.refl _, fun d hd => by cases hd; exact rfl, fun h => by cases h⟩
    · intro y' u hku hd
      have h38 : y' 38 = .int .i64 z := hd 16 (by decide)
      refine wpOp_step rfl fun KK hK => ?_
      refine Reg.step_bsl (by rfl) 121 1 _ (by rfl) #[(0, .int .i64 z)] (by simp [Act.eval, h38]) _ _ (run_bsl_i64 z u) ?_
      exact hK _ _ ⟨_, rfl, Reg.KJ.grow (by simp) hku.size (below_al (Below.refl _ u) _), fun d hd => by cases hd; exact ⟨_, rfl, Blk.new u _ _⟩, fun h => by cases h⟩
    · intro y' u hku hd
      have h37 : y' 37 = .slice (some ⟨g, o + 1, none⟩) (M - 1) (M - 1) := hd 15 (by decide)
      have k39 : (Reg.FactK.bz z : Reg.FactK (Reg.KJ w.heap.size [] [])).P (y' 39) u := hd 17 (by decide)
      obtain ⟨g39, h39, hB39⟩ := k39
      have HOL : ∀ j v, (agsL (fun i => a (i + 1)) (M - 1))[j]? = some v → u.cell? ((⟨g, o + 1, none⟩ : Addr).add j) = some v := fun j v hv => by
        have hj : j < M - 1 := by have := (List.getElem?_eq_some_iff.1 hv).1; rwa [agsL_len] at this
        rw [agsL_get hj] at hv
        rw [Addr.add_mid, show o + 1 + j = o + (j + 1) by omega]
        exact ((hku.below.cell (p := ⟨g, _, none⟩) HG.out).trans (HL.out (j + 1) (by omega))).trans hv
      refine wpOp_step rfl fun KK hK => ?_
      refine Reg.step_append_grow (by rfl) (.tmp 37) (.tmp 39) 121 (by rfl) 2 i0 _ 8 elemI64 HI.out HZ0.out HZ1.out HZ2.out ⟨g, o + 1, none⟩ (M - 1) (agsL (fun i => a (i + 1)) (M - 1)) (by exact h37) (agsL_len _ _) HOL g39 (.int .i64 z) (by exact h39) (hB39.cell 0) (by unfold maxLen; omega) (by omega) (by rfl) ?_
      intro G' c' Z w' hcc hGG hB' hb'
      rw [HPL.out] at hB'
      exact hK _ _ ⟨_, rfl, Reg.KJ.grow (by simp) hku.size hb', fun d hd => by cases hd; exact ⟨_, c', Z, by rw [show M - 1 + 1 = M by omega], by omega, Nat.le_trans hku.size hGG, hB'⟩, fun h => by cases h⟩
    · intro y' u hku hd
      have h22 : y' 22 = .pointer (some ⟨b, 0, none⟩) := hd 0 (by decide)
      refine wpOp_step rfl fun KK hK => ?_
      simp only [h22] at hK ⊢
      go_simp
      exact hK _ _ ⟨_, rfl, Reg.KJ.refl _, fun d hd => by cases hd; exact rfl, fun h => by cases h⟩
    · intro y' u hku hd
      have h41 : y' 41 = .pointer (some ⟨b, 0, none⟩) := hd 19 (by decide)
      refine wpOp_step rfl fun KK hK => ?_
      simp only [h41] at hK ⊢
      go_simp
      exact hK _ _ ⟨_, rfl, Reg.KJ.refl _, fun d hd => by cases hd; exact rfl, fun h => by cases h⟩
  · intro y' u hku hall
    have e42 : y' 42 = .pointer (some ⟨b, 0, none⟩) := hall 20 (by decide)
    obtain ⟨G, c', Z, e40, q0, q1, q2⟩ : (Reg.FactK.ap w.heap.size M (agsL a' M) : Reg.FactK (Reg.KJ w.heap.size [] [])).P (y' 40) u := hall 18 (by decide)
    simp only [Reg.frame, Reg.over, Nat.reduceAdd, Nat.reduceLeDiff, decide_true, decide_false, if_true, Bool.false_eq_true, if_false, Bool.and_true, Bool.and_false, e42, e40, List.drop_succ_cons, List.drop_zero]
    have HKU := Lib.hid hku.below
    have HQ0 := Lib.hid q0
    have HQ1 := Lib.hid q1
    have HQ2 := Lib.hid q2
    have HBU := Lib.hid (HB.out.on hku.below)
    have cb := HBU.out.cell 0
    have fb := HBU.out.frozen 0
    have lb := HBU.out.lt
    clear hku hall q0 q1 q2
    go_upto_region 5 with fail
    refine wp_at (fun V => Blk V b 123 #[.slice (some ⟨G, 0, none⟩) M c'] ∧ Blk V G 2 (agsL a' M ++ Z).toArray ∧ But b w V) ⟨HBU.out.set_ 0 _, (But.one 0 _).blk HQ2.out (by have := HB.out.lt; have := HQ1.out; omega), (But.grow (Nat.le_of_lt HB.out.lt) HKU.out).trans (But.one 0 _)⟩ ?_
    rintro V ⟨v1, v2, v3⟩
    have hcl : ∀ i, i < M → V.cell? ⟨G, 0 + i, none⟩ = some (.int .i64 (a' i)) := fun i hi => by
      rw [v2.cell, List.getElem?_toArray, Nat.zero_add, List.getElem?_append_left (by rw [agsL_len]; exact hi), agsL_get hi]
    have HSH := Lib.hid (shown_is b (some ⟨G, 0, none⟩) M c' a' hM.2 V v1 (fun _ => ⟨G, 0, rfl, v2.lt, hcl⟩) HAB.out)
    have HK : Hid (∃ G, w.heap.size ≤ G ∧ ClkG V G b M a') := Lib.hid ⟨G, HQ1.out, 0, c', v1, HQ0.out, v2.lt, by have := HB.out.lt; have := HQ1.out; omega, hcl⟩
    have HV3 := Lib.hid v3
    clear v1 v2 v3 hcl cb fb lb
    go_wp2_with (go_at_call 74; (with_reducible refine HSH.out.mono ?_); rintro e w5 ⟨rfl, rfl⟩)
    go_ret2
    exact ⟨rfl, HK.out, HV3.out⟩
end Go.Proofs.Ytcangipaoancnaa

