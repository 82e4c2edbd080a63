/-
  A lane's track: the row of a source in a direction at a tick. Conditions: the lane's and the tick's reading.
-/
import Derived.Test.YtcangipaoancnaaRegI
import Derived.RangeFuncNested
import Derived.RangeFuncBound
import Derived.RangeFuncCalls
import Derived.RangeFuncLeaves
import Derived.Shelf.Abstract
import Derived.Shelf.RegionOpen
import Derived.WalkKit
import Derived.OwnWalkIn
import Derived.TacticsInMore
import Derived.LoopNIn
import Derived.LoopIn
import Derived.Sort.CutIn
import Derived.Test.YtcangipaoancnaaReg2
import Derived.Test.YtcangipaoancnaaWdR4
import Derived.Test.YtcangipaoancnaaWdC1
import Derived.Deep.MidRow
namespace Go.Proofs.Ytcangipaoancnaa
open Go.RowKit
set_option linter.unusedVariables false
set_option linter.unusedSimpArgs false
attribute [local go_sem] Oper.semAt_some

/-- These blocks alone are kept. -/
def KeepB (gs : List Nat) (W W' : World) : Prop := ∀ g ∈ gs, W'.heap[g]? = W.heap[g]?
theorem KeepB.refl (gs : List Nat) (W : World) : KeepB gs W W := fun _ _ => rfl
theorem KeepB.trans {gs : List Nat} {A B C : World} (h : KeepB gs A B) (k : KeepB gs B C) : KeepB gs A C := fun g hg => (k g hg).trans (h g hg)
theorem KeepB.cell {gs : List Nat} {A B : World} (h : KeepB gs A B) {b i : Nat} (hb : b ∈ gs) : B.cell? ⟨b, i, none⟩ = A.cell? ⟨b, i, none⟩ := by
  simp only [World.cell?, h b hb]
theorem KeepB.drew (gs : List Nat) (W : World) : KeepB gs W W.drew := fun _ _ => rfl
/-- Nothing turns but the order's tape, once. -/
def Reg.KQ (w0 w w' : World) : Prop := w = w' ∨ (w = w0 ∧ w' = w0.drew)
theorem Reg.KQ.trans {w0 : World} (a b c : World) (h : Reg.KQ w0 a b) (k : Reg.KQ w0 b c) : Reg.KQ w0 a c := by
  rcases h with rfl | ⟨rfl, rfl⟩
  · exact k
  · rcases k with rfl | ⟨e, rfl⟩
    · exact .inr ⟨rfl, rfl⟩
    · exact .inr ⟨rfl, rfl⟩
theorem Reg.KQ.refl {w0 : World} (w : World) : Reg.KQ w0 w w := .inl rfl
theorem grown_drew1 (w : World) (row : Option Nat) : w.grownBy w.drew row := ⟨rfl, rfl, rfl, Nat.le_refl _, fun _ _ _ => rfl⟩
theorem cell_lt' {w : World} {p : Addr} {v : Value} (h : w.cell? p = some v) : p.block < w.heap.size := by
  by_cases hb : p.block < w.heap.size
  · exact hb
  · simp [World.cell?, Array.getElem?_eq_none (by omega : w.heap.size ≤ p.block)] at h
theorem Reg.KQ.cell {w0 u : World} {p : Addr} (h : Reg.KQ w0 w0 u) : u.cell? p = w0.cell? p := by
  rcases h with rfl | ⟨_, rfl⟩ <;> rfl
set_option maxRecDepth 100000 in
theorem elemTick : Try.prog.underlying 136 = some (.array 16 135) := by kernel_rfl
set_option maxRecDepth 100000 in
theorem sizeTick (w : World) : (sizeOf 135).run Try.prog w = .ok 62 w := by kernel_rfl
set_option maxRecDepth 100000 in
theorem elemTickA : Try.prog.underlying 136 = some (.array (Try.prog.arrayLen 136) (Try.prog.elem 136)) := by kernel_rfl
set_option maxRecDepth 100000 in
theorem sizeTickE (w : World) : (sizeOf (Try.prog.elem 136)).run Try.prog w = .ok 62 w := by kernel_rfl
set_option maxRecDepth 100000 in
theorem idxTick (b : Nat) (j : Nat) (hj : j < 16) (w : World) :
    (Instr.indexAt 136 (.pointer (some ⟨b, 64, none⟩)) (.int .i64 (j : Int))).run Try.prog w = .ok (.pointer (some ⟨b, 64 + j * 62, none⟩)) w := by
  rw [run_indexAt_array (h := elemTickA), show Try.prog.arrayLen 136 = 16 by kernel_rfl, if_pos (by omega), sizeTickE]
  simp [Result.andThen, Addr.add_lit]
set_option maxRecDepth 100000 in
set_option maxHeartbeats 4000000 in
theorem round1_in (F : Fence) (n : Nat) (hF : F.fn 115) (hro : F.round = none) (hn : 1 ≤ n) (l Bn b N o : Nat) (hN : 4 ≤ N ∧ N ≤ 16) (ho : o < N) (J Jx : List Nat → World → Prop) (hJd : ∀ s W, J s W → J s W.drew)
    (hY : ∀ (pre : List Nat) (x : Nat) (W : World), J pre W → pre.length < N → YieldAt F (n - 1) Try.prog l #[.int .i64 (x : Int), .pointer (some ⟨b, 64 + (o + x) % N * 62, none⟩)] W fun e W' => (e = .returned (.bool true) ∧ J (pre ++ [x]) W' ∧ KeepB [b, Bn] W W') ∨ (e = .returned (.bool false) ∧ Jx (pre ++ [x]) W'))
    (W : World) (hb : W.cell? ⟨Bn, 0, none⟩ = some (.pointer (some ⟨b, 0, none⟩))) (h0 : W.cell? ⟨b, 0, none⟩ = some (.int .i64 (N : Int))) (h4 : W.cell? ⟨b, 1056, none⟩ = some (.int .i64 (o : Int))) (hj : J [] W) :
    CallsIn F n Try.prog 115 #[.func (.yield l) #[] #[], .pointer (some ⟨Bn, 0, none⟩)] W fun e W' => (∃ v, e = .returned v) ∧ ((∃ ys, ys = List.range N ∧ J ys W') ∨ (∃ pre, (∃ k, k ≤ N ∧ pre = List.range k) ∧ Jx pre W')) := by
  refine callsIn_of_wp Try.func115 rfl hF ?_ hro
  have lb := cell_lt' hb
  have l0 := cell_lt' h0
  simp only [Try.ntmps115, List.size_toArray, List.length_cons, List.length_nil, Nat.reduceAdd, Nat.reduceSub, Array.replicate_succ, Array.replicate_zero, List.push_toArray, List.append_toArray, List.nil_append, List.cons_append]
  gi_upto_region 1 with fail
  have HJ0 := Lib.hid hj
  have HC := Lib.hid (And.intro hb (And.intro h0 h4))
  clear hj hb h0 h4 lb l0
  gi_loopw [8] (fun i wr => ∃ k : Nat, k ≤ N ∧ i = .int .i64 (k : Int) ∧ Hid (J (List.range k) wr) ∧ Hid (KeepB [b, Bn] W wr)) (fun i _ => N - (intOf i).toNat)
  case atStart => exact ⟨0, Nat.zero_le _, rfl, HJ0, Lib.hid (KeepB.refl _ _)⟩
  case round =>
    clear HJ0
    obtain ⟨k, hk, rfl, HJ, HK⟩ := hrel
    have HCB : Hid (wr.cell? ⟨Bn, 0, none⟩ = some (.pointer (some ⟨b, 0, none⟩))) := Lib.hid ((HK.out.cell (by simp)).trans HC.out.1)
    have HC0 : Hid (wr.cell? ⟨b, 0, none⟩ = some (.int .i64 (N : Int))) := Lib.hid ((HK.out.cell (by simp)).trans HC.out.2.1)
    have HC4 : Hid (wr.cell? ⟨b, 1056, none⟩ = some (.int .i64 (o : Int))) := Lib.hid ((HK.out.cell (by simp)).trans HC.out.2.2)
    by_cases hlt : k < N
    · have hkd : decide ((k : Int) < (N : Int)) = true := decide_eq_true (by omega)
      obtain ⟨q, hq⟩ : ∃ q, q = (o + k) % N := ⟨_, rfl⟩
      have HQ : Hid (q < N ∧ ((o : Int) + (k : Int)).tmod (N : Int) = (q : Int) ∧ (o + k) % N = q) := Lib.hid ⟨by rw [hq]; exact Nat.mod_lt _ (by omega), by rw [Int.tmod_eq_emod_of_nonneg (by omega), hq]; push_cast; rfl, hq.symm⟩
      clear hq
      gi_upto_region 3 with fail
      refine Reg.wpIn_prefixP 99 (fun _ => True) trivial 17 (by kernel_rfl) (fun t => decide (11 ≤ t) && decide (t ≤ 27)) (Reg.KQ wr) (.inr ⟨rfl, rfl⟩) Reg.KQ.trans (by kernel_rfl) (by kernel_rfl) (by kernel_rfl) (by kernel_rfl) (fun zz => (Reg.tblK [
        (11, .is (.func (.yield l) #[] #[])),
        (12, .is (.int .i64 (k : Int))),
        (13, .is (.pointer (some ⟨b, 0, none⟩))),
        (14, .is (.pointer (some ⟨b, 0, none⟩))),
        (15, .is (.pointer (some ⟨b, 0, none⟩))),
        (16, .is (.pointer (some ⟨b, 1056, none⟩))),
        (17, .is (.int .i64 (o : Int))),
        (18, .is (.int .i64 (k : Int))),
        (19, .is (.int .i64 ((o : Int) + (k : Int)))),
        (20, .is (.pointer (some ⟨b, 0, none⟩))),
        (21, .is (.pointer (some ⟨b, 0, none⟩))),
        (22, .is (.pointer (some ⟨b, 0, none⟩))),
        (23, .is (.int .i64 (N : Int))),
        (24, .is (.int .i64 (q : Int))),
        (25, .is (.pointer (some ⟨b, 0, none⟩))),
        (26, .is (.pointer (some ⟨b, 64, none⟩))),
        (27, .is (.pointer (some ⟨b, 64 + q * 62, none⟩)))] zz).P) (fun zz => (Reg.tblK _ zz).on) (fun zz => (Reg.memK [] zz).P) (fun zz => (Reg.memK _ zz).on) ?_ ?_
      · simp only [Reg.frame, Reg.over, Nat.reduceAdd, Nat.reduceLeDiff, decide_true, decide_false, if_true, Bool.false_eq_true, if_false, Bool.and_true, Bool.and_false]
        refine ⟨?_, ?_, ?_, ?_, ?_, ?_, ?_, ?_, ?_, ?_, ?_, ?_, ?_, ?_, ?_, ?_, ?_, trivial⟩
        · intro y u hku hd _
          refine wpOpIn_step rfl fun KK hK => ?_
          go_simp
          exact hK _ _ ⟨_, rfl, Reg.KQ.refl _, fun d hd => by cases hd; exact rfl, (fun h => by cases h), fun _ _ => trivial⟩
        · intro y u hku hd _
          refine wpOpIn_step rfl fun KK hK => ?_
          go_simp
          exact hK _ _ ⟨_, rfl, Reg.KQ.refl _, fun d hd => by cases hd; exact rfl, (fun h => by cases h), fun _ _ => trivial⟩
        · intro y u hku hd _
          have cb : u.cell? ⟨Bn, 0, none⟩ = some (.pointer (some ⟨b, 0, none⟩)) := hku.cell.trans HCB.out
          have lb : Bn < u.heap.size := cell_lt' cb
          refine wpOpIn_step rfl fun KK hK => ?_
          go_simp
          exact hK _ _ ⟨_, rfl, Reg.KQ.refl _, fun d hd => by cases hd; exact rfl, (fun h => by cases h), fun _ _ => trivial⟩
        · intro y u hku hd _
          have cb : u.cell? ⟨Bn, 0, none⟩ = some (.pointer (some ⟨b, 0, none⟩)) := hku.cell.trans HCB.out
          have lb : Bn < u.heap.size := cell_lt' cb
          refine wpOpIn_step rfl fun KK hK => ?_
          go_simp
          exact hK _ _ ⟨_, rfl, Reg.KQ.refl _, fun d hd => by cases hd; exact rfl, (fun h => by cases h), fun _ _ => trivial⟩
        · intro y u hku hd _
          have h14 : y 14 = .pointer (some ⟨b, 0, none⟩) := hd 3 (by decide)
          have c0 : u.cell? ⟨b, 0, none⟩ = some (.int .i64 (N : Int)) := hku.cell.trans HC0.out
          have l0 : b < u.heap.size := cell_lt' c0
          refine wpOpIn_step rfl fun KK hK => ?_
          simp only [h14] at hK ⊢
          go_simp
          exact hK _ _ ⟨_, rfl, Reg.KQ.refl _, fun d hd => by cases hd; exact rfl, (fun h => by cases h), fun _ _ => trivial⟩
        · intro y u hku hd _
          have h15 : y 15 = .pointer (some ⟨b, 0, none⟩) := hd 4 (by decide)
          have c4 : u.cell? ⟨b, 1056, none⟩ = some (.int .i64 (o : Int)) := hku.cell.trans HC4.out
          have l4 : b < u.heap.size := cell_lt' c4
          refine wpOpIn_step rfl fun KK hK => ?_
          simp only [h15] at hK ⊢
          go_simp
          exact hK _ _ ⟨_, rfl, Reg.KQ.refl _, fun d hd => by cases hd; exact rfl, (fun h => by cases h), fun _ _ => trivial⟩
        · intro y u hku hd _
          have h16 : y 16 = .pointer (some ⟨b, 1056, none⟩) := hd 5 (by decide)
          have c4 : u.cell? ⟨b, 1056, none⟩ = some (.int .i64 (o : Int)) := hku.cell.trans HC4.out
          have l4 : b < u.heap.size := cell_lt' c4
          refine wpOpIn_step rfl fun KK hK => ?_
          simp only [h16] at hK ⊢
          go_simp
          exact hK _ _ ⟨_, rfl, Reg.KQ.refl _, fun d hd => by cases hd; exact rfl, (fun h => by cases h), fun _ _ => trivial⟩
        · intro y u hku hd _
          refine wpOpIn_step rfl fun KK hK => ?_
          go_simp
          exact hK _ _ ⟨_, rfl, Reg.KQ.refl _, fun d hd => by cases hd; exact rfl, (fun h => by cases h), fun _ _ => trivial⟩
        · intro y u hku hd _
          have h17 : y 17 = .int .i64 (o : Int) := hd 6 (by decide)
          have h18 : y 18 = .int .i64 (k : Int) := hd 7 (by decide)
          have hw19 : IntKind.i64.wrap ((o : Int) + (k : Int)) = (o : Int) + (k : Int) := IntWalk.i64_in _ (by omega)
          refine wpOpIn_step rfl fun KK hK => ?_
          simp only [h17, h18] at hK ⊢
          go_simp
          exact hK _ _ ⟨_, rfl, Reg.KQ.refl _, fun d hd => by cases hd; exact rfl, (fun h => by cases h), fun _ _ => trivial⟩
        · intro y u hku hd _
          have cb : u.cell? ⟨Bn, 0, none⟩ = some (.pointer (some ⟨b, 0, none⟩)) := hku.cell.trans HCB.out
          have lb : Bn < u.heap.size := cell_lt' cb
          refine wpOpIn_step rfl fun KK hK => ?_
          go_simp
          exact hK _ _ ⟨_, rfl, Reg.KQ.refl _, fun d hd => by cases hd; exact rfl, (fun h => by cases h), fun _ _ => trivial⟩
        · intro y u hku hd _
          have h20 : y 20 = .pointer (some ⟨b, 0, none⟩) := hd 9 (by decide)
          have c0 : u.cell? ⟨b, 0, none⟩ = some (.int .i64 (N : Int)) := hku.cell.trans HC0.out
          have l0 : b < u.heap.size := cell_lt' c0
          refine wpOpIn_step rfl fun KK hK => ?_
          simp only [h20] at hK ⊢
          go_simp
          exact hK _ _ ⟨_, rfl, Reg.KQ.refl _, fun d hd => by cases hd; exact rfl, (fun h => by cases h), fun _ _ => trivial⟩
        · intro y u hku hd _
          have h21 : y 21 = .pointer (some ⟨b, 0, none⟩) := hd 10 (by decide)
          have c0 : u.cell? ⟨b, 0, none⟩ = some (.int .i64 (N : Int)) := hku.cell.trans HC0.out
          have l0 : b < u.heap.size := cell_lt' c0
          refine wpOpIn_step rfl fun KK hK => ?_
          simp only [h21] at hK ⊢
          go_simp
          exact hK _ _ ⟨_, rfl, Reg.KQ.refl _, fun d hd => by cases hd; exact rfl, (fun h => by cases h), fun _ _ => trivial⟩
        · intro y u hku hd _
          have h22 : y 22 = .pointer (some ⟨b, 0, none⟩) := hd 11 (by decide)
          have c0 : u.cell? ⟨b, 0, none⟩ = some (.int .i64 (N : Int)) := hku.cell.trans HC0.out
          have l0 : b < u.heap.size := cell_lt' c0
          refine wpOpIn_step rfl fun KK hK => ?_
          simp only [h22] at hK ⊢
          go_simp
          exact hK _ _ ⟨_, rfl, Reg.KQ.refl _, fun d hd => by cases hd; exact rfl, (fun h => by cases h), fun _ _ => trivial⟩
        · intro y u hku hd _
          have h19 : y 19 = .int .i64 ((o : Int) + (k : Int)) := hd 8 (by decide)
          have h23 : y 23 = .int .i64 (N : Int) := hd 12 (by decide)
          have hm24 := HQ.out.2.1
          have hm24b := HQ.out.2.2
          have hn24 : N ≠ 0 := by omega
          have hw24 : IntKind.i64.wrap (q : Int) = (q : Int) := IntWalk.i64_in _ (by have := HQ.out.1; omega)
          refine wpOpIn_step rfl fun KK hK => ?_
          simp only [h19, h23] at hK ⊢
          go_simp
          exact hK _ _ ⟨_, rfl, Reg.KQ.refl _, fun d hd => by cases hd; exact rfl, (fun h => by cases h), fun _ _ => trivial⟩
        · intro y u hku hd _
          have h13 : y 13 = .pointer (some ⟨b, 0, none⟩) := hd 2 (by decide)
          have c0 : u.cell? ⟨b, 0, none⟩ = some (.int .i64 (N : Int)) := hku.cell.trans HC0.out
          have l0 : b < u.heap.size := cell_lt' c0
          refine wpOpIn_step rfl fun KK hK => ?_
          simp only [h13] at hK ⊢
          go_simp
          exact hK _ _ ⟨_, rfl, Reg.KQ.refl _, fun d hd => by cases hd; exact rfl, (fun h => by cases h), fun _ _ => trivial⟩
        · intro y u hku hd _
          have h25 : y 25 = .pointer (some ⟨b, 0, none⟩) := hd 14 (by decide)
          have c0 : u.cell? ⟨b, 0, none⟩ = some (.int .i64 (N : Int)) := hku.cell.trans HC0.out
          have l0 : b < u.heap.size := cell_lt' c0
          refine wpOpIn_step rfl fun KK hK => ?_
          simp only [h25] at hK ⊢
          go_simp
          exact hK _ _ ⟨_, rfl, Reg.KQ.refl _, fun d hd => by cases hd; exact rfl, (fun h => by cases h), fun _ _ => trivial⟩
        · intro y u hku hd _
          have h26 : y 26 = .pointer (some ⟨b, 64, none⟩) := hd 15 (by decide)
          have h24 : y 24 = .int .i64 (q : Int) := hd 13 (by decide)
          have hix := fun W => idxTick b q (by have := HQ.out.1; omega) W
          refine wpOpIn_step rfl fun KK hK => ?_
          simp only [h26, h24] at hK ⊢
          go_simp
          exact hK _ _ ⟨_, rfl, Reg.KQ.refl _, fun d hd => by cases hd; exact rfl, (fun h => by cases h), fun _ _ => trivial⟩
      · intro y u hku hd
        have e11 : y 11 = .func (.yield l) #[] #[] := hd 0 (by decide)
        have e12 : y 12 = .int .i64 (k : Int) := hd 1 (by decide)
        have e27 : y 27 = .pointer (some ⟨b, 64 + q * 62, none⟩) := hd 16 (by decide)
        have hJu : J (List.range k) u := by
          rcases hku with rfl | ⟨_, rfl⟩
          · exact HJ.out
          · exact hJd _ _ HJ.out
        have HKu : Hid (KeepB [b, Bn] W u) := Lib.hid (HK.out.trans (by rcases hku with rfl | ⟨_, rfl⟩ <;> exact fun _ _ => rfl))
        have hYk := hY (List.range k) k u hJu (by rw [List.length_range]; exact hlt)
        rw [HQ.out.2.2] at hYk
        obtain ⟨fn, tmps, assign, body, hy, hR⟩ := hYk
        have hw1 : IntKind.i64.wrap ((k : Int) + 1) = ((k + 1 : Nat) : Int) := by rw [IntWalk.i64_in _ (by omega)]; omega
        clear hku hd HJ HK HCB HC0 HC4
        simp only [Reg.frame, Reg.over, Nat.reduceAdd, Nat.reduceLeDiff, decide_true, decide_false, if_true, Bool.false_eq_true, if_false, Bool.and_true, Bool.and_false, e11, e12, e27, List.drop_succ_cons, List.drop_zero]
        gi_wp2
        refine hR.mono ?_
        rintro e W3 (⟨rfl, hJ3, hk3⟩ | ⟨rfl, hJx3⟩)
        · gi_wp2
          go_roundw
          case rel => exact ⟨k + 1, by omega, by simp, Lib.hid (by rw [List.range_succ]; exact hJ3), Lib.hid (HKu.out.trans hk3)⟩
          case measure => simp [intOf]; omega
        · gi_wp2
          refine bodyPost_ret (results_none rfl _ _ _) rfl ?_
          exact ⟨⟨_, rfl⟩, .inr ⟨_, ⟨k + 1, by omega, (List.range_succ).symm⟩, hJx3⟩⟩
    · obtain rfl : k = N := by omega
      gi_wp2
      go_end0
      exact ⟨⟨_, rfl⟩, .inl ⟨_, rfl, HJ.out⟩⟩
end Go.Proofs.Ytcangipaoancnaa

namespace Go.Proofs.Ytcangipaoancnaa
open Go.RowKit
set_option linter.unusedVariables false
set_option linter.unusedSimpArgs false

theorem cell_ltT {w : World} {b i : Nat} {v : Value} (h : w.cell? ⟨b, i, none⟩ = some v) : b < w.heap.size := cell_lt' h
theorem belowW {w u : World} {b i : Nat} {v : Value} (h : Below w.heap.size w u) (hc : w.cell? ⟨b, i, none⟩ = some v) : u.cell? ⟨b, i, none⟩ = some v := (h.cell (p := ⟨b, i, none⟩) (cell_ltT hc)).trans hc
/-- At what distance a source stands. -/
def distM (N me : Nat) (d : Int) (s : Nat) : Nat := if d = 0 then (me + N - s) % N else (s + N - me) % N
set_option maxRecDepth 100000 in
theorem distance_is (b N me : Nat) (d : Int) (s r : Nat) (hN : 4 ≤ N ∧ N ≤ 16) (hm : me < N) (hs : s < N) (hr : distM N me d s = r) (w : World) (h0 : w.cell? ⟨b, 0, none⟩ = some (.int .i64 (N : Int))) (h1 : w.cell? ⟨b, 1, none⟩ = some (.int .i64 (me : Int))) :
    Calls Try.prog 98 #[.pointer (some ⟨b, 0, none⟩), .int .u8 d, .int .i64 (s : Int)] w fun e w' => e = .returned (.int .i64 (r : Int)) ∧ Below w.heap.size w w' := by
  have HC0 := Lib.hid h0
  have HC1 := Lib.hid h1
  clear h0 h1
  go_enter Try.func98, Try.ntmps98
  by_cases hd : d = 0
  · subst hd
    have HWA : Hid (IntKind.i64.wrap ((me : Int) - (s : Int)) = (me : Int) - (s : Int)) := Lib.hid (IntWalk.i64_in _ (by omega))
    have HWB : Hid (IntKind.i64.wrap ((me : Int) - (s : Int) + (N : Int)) = (me : Int) - (s : Int) + (N : Int)) := Lib.hid (IntWalk.i64_in _ (by omega))
    have HWC : Hid (((me : Int) - (s : Int) + (N : Int)).tmod (N : Int) = (r : Int)) := Lib.hid (by rw [Int.tmod_eq_emod_of_nonneg (by omega), ← hr, distM, if_pos rfl, show (me : Int) - (s : Int) + (N : Int) = ((me + N - s : Nat) : Int) by omega]; rfl)
    clear hr
    go_upto_region 2 with fail
    refine Reg.wp_slots (fun t => t == 6 || (decide (9 ≤ t) && decide (t ≤ 24))) (by kernel_rfl) (by kernel_rfl) (by kernel_rfl) (fun zz => (Reg.tbl [
      (9, .is (.pointer (some ⟨b, 0, none⟩))),
      (10, .is (.pointer (some ⟨b, 0, none⟩))),
      (11, .is (.pointer (some ⟨b, 1, none⟩))),
      (12, .is (.int .i64 (me : Int))),
      (13, .is (.int .i64 (s : Int))),
      (14, .is (.int .i64 ((me : Int) - (s : Int)))),
      (15, .is (.pointer (some ⟨b, 0, none⟩))),
      (16, .is (.pointer (some ⟨b, 0, none⟩))),
      (17, .is (.pointer (some ⟨b, 0, none⟩))),
      (18, .is (.int .i64 (N : Int))),
      (19, .is (.int .i64 ((me : Int) - (s : Int) + (N : Int)))),
      (20, .is (.pointer (some ⟨b, 0, none⟩))),
      (21, .is (.pointer (some ⟨b, 0, none⟩))),
      (22, .is (.pointer (some ⟨b, 0, none⟩))),
      (23, .is (.int .i64 (N : Int))),
      (24, .is (.int .i64 (r : Int))),
      (6, .is (.int .i64 (r : Int)))] zz).P) (fun zz => (Reg.tbl _ zz).on) ?_ ?_
    · simp only [Reg.frame, Reg.over, Nat.reduceAdd, Nat.reduceBEq, Nat.reduceLeDiff, decide_true, decide_false, Bool.or_true, Bool.or_false, if_true, Bool.false_eq_true, if_false, Bool.and_true, Bool.and_false]
      refine ⟨?_, ?_, ?_, ?_, ?_, ?_, ?_, ?_, ?_, ?_, ?_, ?_, ?_, ?_, ?_, ?_, ?_, trivial⟩
      · intro y u hbu hd
        refine wpOp_step rfl fun K hK => ?_
        go_simp
        exact hK _ _ ⟨_, rfl, Below.refl _ _, fun d hd => by cases hd; exact rfl⟩
      · intro y u hbu hd
        have h9 : y 9 = .pointer (some ⟨b, 0, none⟩) := hd 0 (by decide)
        have c0 := belowW hbu HC0.out
        have l0 := cell_ltT c0
        refine wpOp_step rfl fun K hK => ?_
        simp only [h9] at hK ⊢
        go_simp
        exact hK _ _ ⟨_, rfl, Below.refl _ _, fun d hd => by cases hd; exact rfl⟩
      · intro y u hbu hd
        have h10 : y 10 = .pointer (some ⟨b, 0, none⟩) := hd 1 (by decide)
        have c0 := belowW hbu HC0.out
        have l0 := cell_ltT c0
        refine wpOp_step rfl fun K hK => ?_
        simp only [h10] at hK ⊢
        go_simp
        exact hK _ _ ⟨_, rfl, Below.refl _ _, fun d hd => by cases hd; exact rfl⟩
      · intro y u hbu hd
        have h11 : y 11 = .pointer (some ⟨b, 1, none⟩) := hd 2 (by decide)
        have c0 := belowW hbu HC0.out
        have l0 := cell_ltT c0
        have c1 := belowW hbu HC1.out
        have l1 := cell_ltT c1
        refine wpOp_step rfl fun K hK => ?_
        simp only [h11] at hK ⊢
        go_simp
        exact hK _ _ ⟨_, rfl, Below.refl _ _, fun d hd => by cases hd; exact rfl⟩
      · intro y u hbu hd
        refine wpOp_step rfl fun K hK => ?_
        go_simp
        exact hK _ _ ⟨_, rfl, Below.refl _ _, fun d hd => by cases hd; exact rfl⟩
      · intro y u hbu hd
        have h12 : y 12 = .int .i64 (me : Int) := hd 3 (by decide)
        have h13 : y 13 = .int .i64 (s : Int) := hd 4 (by decide)
        have hwa := HWA.out
        refine wpOp_step rfl fun K hK => ?_
        simp only [h12, h13] at hK ⊢
        go_simp
        exact hK _ _ ⟨_, rfl, Below.refl _ _, fun d hd => by cases hd; exact rfl⟩
      · intro y u hbu hd
        refine wpOp_step rfl fun K hK => ?_
        go_simp
        exact hK _ _ ⟨_, rfl, Below.refl _ _, fun d hd => by cases hd; exact rfl⟩
      · intro y u hbu hd
        have h15 : y 15 = .pointer (some ⟨b, 0, none⟩) := hd 6 (by decide)
        have c0 := belowW hbu HC0.out
        have l0 := cell_ltT c0
        refine wpOp_step rfl fun K hK => ?_
        simp only [h15] at hK ⊢
        go_simp
        exact hK _ _ ⟨_, rfl, Below.refl _ _, fun d hd => by cases hd; exact rfl⟩
      · intro y u hbu hd
        have h16 : y 16 = .pointer (some ⟨b, 0, none⟩) := hd 7 (by decide)
        have c0 := belowW hbu HC0.out
        have l0 := cell_ltT c0
        refine wpOp_step rfl fun K hK => ?_
        simp only [h16] at hK ⊢
        go_simp
        exact hK _ _ ⟨_, rfl, Below.refl _ _, fun d hd => by cases hd; exact rfl⟩
      · intro y u hbu hd
        have h17 : y 17 = .pointer (some ⟨b, 0, none⟩) := hd 8 (by decide)
        have c0 := belowW hbu HC0.out
        have l0 := cell_ltT c0
        have c1 := belowW hbu HC1.out
        have l1 := cell_ltT c1
        refine wpOp_step rfl fun K hK => ?_
        simp only [h17] at hK ⊢
        go_simp
        exact hK _ _ ⟨_, rfl, Below.refl _ _, fun d hd => by cases hd; exact rfl⟩
      · intro y u hbu hd
        have h14 : y 14 = .int .i64 ((me : Int) - (s : Int)) := hd 5 (by decide)
        have h18 : y 18 = .int .i64 (N : Int) := hd 9 (by decide)
        have hwb := HWB.out
        refine wpOp_step rfl fun K hK => ?_
        simp only [h14, h18] at hK ⊢
        go_simp
        exact hK _ _ ⟨_, rfl, Below.refl _ _, fun d hd => by cases hd; exact rfl⟩
      · intro y u hbu hd
        refine wpOp_step rfl fun K hK => ?_
        go_simp
        exact hK _ _ ⟨_, rfl, Below.refl _ _, fun d hd => by cases hd; exact rfl⟩
      · intro y u hbu hd
        have h20 : y 20 = .pointer (some ⟨b, 0, none⟩) := hd 11 (by decide)
        have c0 := belowW hbu HC0.out
        have l0 := cell_ltT c0
        refine wpOp_step rfl fun K hK => ?_
        simp only [h20] at hK ⊢
        go_simp
        exact hK _ _ ⟨_, rfl, Below.refl _ _, fun d hd => by cases hd; exact rfl⟩
      · intro y u hbu hd
        have h21 : y 21 = .pointer (some ⟨b, 0, none⟩) := hd 12 (by decide)
        have c0 := belowW hbu HC0.out
        have l0 := cell_ltT c0
        refine wpOp_step rfl fun K hK => ?_
        simp only [h21] at hK ⊢
        go_simp
        exact hK _ _ ⟨_, rfl, Below.refl _ _, fun d hd => by cases hd; exact rfl⟩
      · intro y u hbu hd
        have h22 : y 22 = .pointer (some ⟨b, 0, none⟩) := hd 13 (by decide)
        have c0 := belowW hbu HC0.out
        have l0 := cell_ltT c0
        have c1 := belowW hbu HC1.out
        have l1 := cell_ltT c1
        refine wpOp_step rfl fun K hK => ?_
        simp only [h22] at hK ⊢
        go_simp
        exact hK _ _ ⟨_, rfl, Below.refl _ _, fun d hd => by cases hd; exact rfl⟩
      · intro y u hbu hd
        have h19 : y 19 = .int .i64 ((me : Int) - (s : Int) + (N : Int)) := hd 10 (by decide)
        have h23 : y 23 = .int .i64 (N : Int) := hd 14 (by decide)
        have hwc := HWC.out
        have hn0 : N ≠ 0 := by omega
        refine wpOp_step rfl fun K hK => ?_
        simp only [h19, h23] at hK ⊢
        go_simp
        exact hK _ _ ⟨_, rfl, Below.refl _ _, fun d hd => by cases hd; exact rfl⟩
      · intro y u hbu hd
        have h24 : y 24 = .int .i64 (r : Int) := hd 15 (by decide)
        refine wpOp_step rfl fun K hK => ?_
        simp only [h24] at hK ⊢
        go_simp
        exact hK _ _ ⟨_, rfl, Below.refl _ _, fun d hd => by cases hd; exact rfl⟩
    · intro y u hbu hd
      have e6 : y 6 = .int .i64 (r : Int) := hd 16 (by decide)
      simp only [Reg.frame, Reg.over, Nat.reduceAdd, Nat.reduceBEq, Nat.reduceLeDiff, decide_true, decide_false, Bool.or_true, Bool.or_false, Bool.true_or, Bool.false_or, if_true, Bool.false_eq_true, if_false, Bool.and_true, Bool.and_false, e6]
      go_wp2_with fail
      go_ret
      exact ⟨rfl, hbu⟩
  · have hdd : (d == 0) = false := by simpa using hd
    have HWA : Hid (IntKind.i64.wrap ((s : Int) - (me : Int)) = (s : Int) - (me : Int)) := Lib.hid (IntWalk.i64_in _ (by omega))
    have HWB : Hid (IntKind.i64.wrap ((s : Int) - (me : Int) + (N : Int)) = (s : Int) - (me : Int) + (N : Int)) := Lib.hid (IntWalk.i64_in _ (by omega))
    have HWC : Hid (((s : Int) - (me : Int) + (N : Int)).tmod (N : Int) = (r : Int)) := Lib.hid (by rw [Int.tmod_eq_emod_of_nonneg (by omega), ← hr, distM, if_neg hd, show (s : Int) - (me : Int) + (N : Int) = ((s + N - me : Nat) : Int) by omega]; rfl)
    clear hr
    go_upto_region 3 with fail
    refine Reg.wp_slots (fun t => t == 6 || (decide (25 ≤ t) && decide (t ≤ 40))) (by kernel_rfl) (by kernel_rfl) (by kernel_rfl) (fun zz => (Reg.tbl [
      (25, .is (.int .i64 (s : Int))),
      (26, .is (.pointer (some ⟨b, 0, none⟩))),
      (27, .is (.pointer (some ⟨b, 0, none⟩))),
      (28, .is (.pointer (some ⟨b, 1, none⟩))),
      (29, .is (.int .i64 (me : Int))),
      (30, .is (.int .i64 ((s : Int) - (me : Int)))),
      (31, .is (.pointer (some ⟨b, 0, none⟩))),
      (32, .is (.pointer (some ⟨b, 0, none⟩))),
      (33, .is (.pointer (some ⟨b, 0, none⟩))),
      (34, .is (.int .i64 (N : Int))),
      (35, .is (.int .i64 ((s : Int) - (me : Int) + (N : Int)))),
      (36, .is (.pointer (some ⟨b, 0, none⟩))),
      (37, .is (.pointer (some ⟨b, 0, none⟩))),
      (38, .is (.pointer (some ⟨b, 0, none⟩))),
      (39, .is (.int .i64 (N : Int))),
      (40, .is (.int .i64 (r : Int))),
      (6, .is (.int .i64 (r : Int)))] zz).P) (fun zz => (Reg.tbl _ zz).on) ?_ ?_
    · simp only [Reg.frame, Reg.over, Nat.reduceAdd, Nat.reduceBEq, Nat.reduceLeDiff, decide_true, decide_false, Bool.or_true, Bool.or_false, if_true, Bool.false_eq_true, if_false, Bool.and_true, Bool.and_false]
      refine ⟨?_, ?_, ?_, ?_, ?_, ?_, ?_, ?_, ?_, ?_, ?_, ?_, ?_, ?_, ?_, ?_, ?_, trivial⟩
      · intro y u hbu hd
        refine wpOp_step rfl fun K hK => ?_
        go_simp
        exact hK _ _ ⟨_, rfl, Below.refl _ _, fun d hd => by cases hd; exact rfl⟩
      · intro y u hbu hd
        refine wpOp_step rfl fun K hK => ?_
        go_simp
        exact hK _ _ ⟨_, rfl, Below.refl _ _, fun d hd => by cases hd; exact rfl⟩
      · intro y u hbu hd
        have h26 : y 26 = .pointer (some ⟨b, 0, none⟩) := hd 1 (by decide)
        have c0 := belowW hbu HC0.out
        have l0 := cell_ltT c0
        refine wpOp_step rfl fun K hK => ?_
        simp only [h26] at hK ⊢
        go_simp
        exact hK _ _ ⟨_, rfl, Below.refl _ _, fun d hd => by cases hd; exact rfl⟩
      · intro y u hbu hd
        have h27 : y 27 = .pointer (some ⟨b, 0, none⟩) := hd 2 (by decide)
        have c0 := belowW hbu HC0.out
        have l0 := cell_ltT c0
        refine wpOp_step rfl fun K hK => ?_
        simp only [h27] at hK ⊢
        go_simp
        exact hK _ _ ⟨_, rfl, Below.refl _ _, fun d hd => by cases hd; exact rfl⟩
      · intro y u hbu hd
        have h28 : y 28 = .pointer (some ⟨b, 1, none⟩) := hd 3 (by decide)
        have c0 := belowW hbu HC0.out
        have l0 := cell_ltT c0
        have c1 := belowW hbu HC1.out
        have l1 := cell_ltT c1
        refine wpOp_step rfl fun K hK => ?_
        simp only [h28] at hK ⊢
        go_simp
        exact hK _ _ ⟨_, rfl, Below.refl _ _, fun d hd => by cases hd; exact rfl⟩
      · intro y u hbu hd
        have h25 : y 25 = .int .i64 (s : Int) := hd 0 (by decide)
        have h29 : y 29 = .int .i64 (me : Int) := hd 4 (by decide)
        have hwa := HWA.out
        refine wpOp_step rfl fun K hK => ?_
        simp only [h25, h29] at hK ⊢
        go_simp
        exact hK _ _ ⟨_, rfl, Below.refl _ _, fun d hd => by cases hd; exact rfl⟩
      · intro y u hbu hd
        refine wpOp_step rfl fun K hK => ?_
        go_simp
        exact hK _ _ ⟨_, rfl, Below.refl _ _, fun d hd => by cases hd; exact rfl⟩
      · intro y u hbu hd
        have h31 : y 31 = .pointer (some ⟨b, 0, none⟩) := hd 6 (by decide)
        have c0 := belowW hbu HC0.out
        have l0 := cell_ltT c0
        refine wpOp_step rfl fun K hK => ?_
        simp only [h31] at hK ⊢
        go_simp
        exact hK _ _ ⟨_, rfl, Below.refl _ _, fun d hd => by cases hd; exact rfl⟩
      · intro y u hbu hd
        have h32 : y 32 = .pointer (some ⟨b, 0, none⟩) := hd 7 (by decide)
        have c0 := belowW hbu HC0.out
        have l0 := cell_ltT c0
        refine wpOp_step rfl fun K hK => ?_
        simp only [h32] at hK ⊢
        go_simp
        exact hK _ _ ⟨_, rfl, Below.refl _ _, fun d hd => by cases hd; exact rfl⟩
      · intro y u hbu hd
        have h33 : y 33 = .pointer (some ⟨b, 0, none⟩) := hd 8 (by decide)
        have c0 := belowW hbu HC0.out
        have l0 := cell_ltT c0
        have c1 := belowW hbu HC1.out
        have l1 := cell_ltT c1
        refine wpOp_step rfl fun K hK => ?_
        simp only [h33] at hK ⊢
        go_simp
        exact hK _ _ ⟨_, rfl, Below.refl _ _, fun d hd => by cases hd; exact rfl⟩
      · intro y u hbu hd
        have h30 : y 30 = .int .i64 ((s : Int) - (me : Int)) := hd 5 (by decide)
        have h34 : y 34 = .int .i64 (N : Int) := hd 9 (by decide)
        have hwb := HWB.out
        refine wpOp_step rfl fun K hK => ?_
        simp only [h30, h34] at hK ⊢
        go_simp
        exact hK _ _ ⟨_, rfl, Below.refl _ _, fun d hd => by cases hd; exact rfl⟩
      · intro y u hbu hd
        refine wpOp_step rfl fun K hK => ?_
        go_simp
        exact hK _ _ ⟨_, rfl, Below.refl _ _, fun d hd => by cases hd; exact rfl⟩
      · intro y u hbu hd
        have h36 : y 36 = .pointer (some ⟨b, 0, none⟩) := hd 11 (by decide)
        have c0 := belowW hbu HC0.out
        have l0 := cell_ltT c0
        refine wpOp_step rfl fun K hK => ?_
        simp only [h36] at hK ⊢
        go_simp
        exact hK _ _ ⟨_, rfl, Below.refl _ _, fun d hd => by cases hd; exact rfl⟩
      · intro y u hbu hd
        have h37 : y 37 = .pointer (some ⟨b, 0, none⟩) := hd 12 (by decide)
        have c0 := belowW hbu HC0.out
        have l0 := cell_ltT c0
        refine wpOp_step rfl fun K hK => ?_
        simp only [h37] at hK ⊢
        go_simp
        exact hK _ _ ⟨_, rfl, Below.refl _ _, fun d hd => by cases hd; exact rfl⟩
      · intro y u hbu hd
        have h38 : y 38 = .pointer (some ⟨b, 0, none⟩) := hd 13 (by decide)
        have c0 := belowW hbu HC0.out
        have l0 := cell_ltT c0
        have c1 := belowW hbu HC1.out
        have l1 := cell_ltT c1
        refine wpOp_step rfl fun K hK => ?_
        simp only [h38] at hK ⊢
        go_simp
        exact hK _ _ ⟨_, rfl, Below.refl _ _, fun d hd => by cases hd; exact rfl⟩
      · intro y u hbu hd
        have h35 : y 35 = .int .i64 ((s : Int) - (me : Int) + (N : Int)) := hd 10 (by decide)
        have h39 : y 39 = .int .i64 (N : Int) := hd 14 (by decide)
        have hwc := HWC.out
        have hn0 : N ≠ 0 := by omega
        refine wpOp_step rfl fun K hK => ?_
        simp only [h35, h39] at hK ⊢
        go_simp
        exact hK _ _ ⟨_, rfl, Below.refl _ _, fun d hd => by cases hd; exact rfl⟩
      · intro y u hbu hd
        have h40 : y 40 = .int .i64 (r : Int) := hd 15 (by decide)
        refine wpOp_step rfl fun K hK => ?_
        simp only [h40] at hK ⊢
        go_simp
        exact hK _ _ ⟨_, rfl, Below.refl _ _, fun d hd => by cases hd; exact rfl⟩
    · intro y u hbu hd
      have e6 : y 6 = .int .i64 (r : Int) := hd 16 (by decide)
      simp only [Reg.frame, Reg.over, Nat.reduceAdd, Nat.reduceBEq, Nat.reduceLeDiff, decide_true, decide_false, Bool.or_true, Bool.or_false, Bool.true_or, Bool.false_or, if_true, Bool.false_eq_true, if_false, Bool.and_true, Bool.and_false, e6]
      go_wp2_with fail
      go_ret
      exact ⟨rfl, hbu⟩
/-- What a round of the ring is handed: how many ticks later, and where the tick lies. -/
def ringV (b N o : Nat) (x : Nat) : Array Value := #[.int .i64 (x : Int), .pointer (some ⟨b, 64 + (o + x) % N * 62, none⟩)]
theorem round1_stops (F : Fence) (n : Nat) (hF : F.fn 115) (hro : F.round = none) (hn : 1 ≤ n) (Bn b N o : Nat) (hN : 4 ≤ N ∧ N ≤ 16) (ho : o < N) (w : World) (hb : w.cell? ⟨Bn, 0, none⟩ = some (.pointer (some ⟨b, 0, none⟩))) (h0 : w.cell? ⟨b, 0, none⟩ = some (.int .i64 (N : Int))) (h4 : w.cell? ⟨b, 1056, none⟩ = some (.int .i64 (o : Int))) :
    SeqStopsK F n Try.prog 115 #[.pointer (some ⟨Bn, 0, none⟩)] (ringV b N o) (KeepB [b, Bn]) (fun ys => ys = List.range N) (fun pre => ∃ k, k ≤ N ∧ pre = List.range k) N w := by
  intro l J Jx W hW hJ hJx hY hj
  exact round1_in F n hF hro hn l Bn b N o hN ho J Jx (fun s W h => hJ s W W.drew none h (grown_drew1 W none) (fun r e => by cases e)) hY W (belowW hW hb) (belowW hW h0) (belowW hW h4) hj
set_option maxRecDepth 100000 in
theorem round_is (b : Nat) (w : World) :
    Calls Try.prog 97 #[.pointer (some ⟨b, 0, none⟩)] w fun e w' => e = .returned (.func (.func 115) #[] #[.pointer (some ⟨w.heap.size, 0, none⟩)]) ∧ w' = w.alloc (.cells #[.pointer (some ⟨b, 0, none⟩)] 25) := by
  go_enter Try.func97, Try.ntmps97
  go_wp2_with fail
  go_ret
  exact ⟨rfl, rfl⟩
end Go.Proofs.Ytcangipaoancnaa

namespace Go.Proofs.Ytcangipaoancnaa
open Go.RowKit
set_option linter.unusedVariables false
set_option linter.unusedSimpArgs false

/-- A tick: whether it has begun; by directions the rows of the near and of the far link; what the node said. -/
structure Tk where
  g : Bool
  nA : Nat → Option Addr
  nc : Nat → Nat
  nR : Nat → Nat → Rw
  fA : Nat → Option Addr
  fc : Nat → Nat
  fR : Nat → Nat → Rw
  o : Rw
/-- The tick's cells lie in block b from off on; each list is of N rows. -/
structure TkIn (w : World) (B b off N : Nat) (t : Tk) : Prop where
  n : ∀ d, d < 2 → w.cell? ⟨b, off + 1 + d * 2, none⟩ = some (.slice (t.nA d) N (t.nc d)) ∧ w.cell? ⟨b, off + 1 + d * 2 + 1, none⟩ = some (.slice (t.fA d) N (t.fc d))
  o : w.rangeAt b (off + 5) t.o.l
  nl : ∀ d, d < 2 → LiesR w B (t.nA d) N (t.nR d)
  fl : ∀ d, d < 2 → LiesR w B (t.fA d) N (t.fR d)
  lt : b < B
/-- The row of a source, at a distance. -/
def Tk.at (t : Tk) (r d s : Nat) : Rw := if r = 0 then t.o else if r = 1 then t.nR d s else t.fR d s
set_option maxRecDepth 100000 in
theorem elemWay : Try.prog.underlying 133 = some (.array (Try.prog.arrayLen 133) (Try.prog.elem 133)) := by kernel_rfl
set_option maxRecDepth 100000 in
theorem sizeWay (w : World) : (sizeOf (Try.prog.elem 133)).run Try.prog w = .ok 2 w := by kernel_rfl
set_option maxRecDepth 100000 in
theorem idxWay (b e : Nat) (d : Nat) (hd : d < 2) (w : World) :
    (Instr.indexAt 133 (.pointer (some ⟨b, e, none⟩)) (.int .u8 (d : Int))).run Try.prog w = .ok (.pointer (some ⟨b, e + d * 2, none⟩)) w := by
  rw [run_indexAt_array (h := elemWay), show Try.prog.arrayLen 133 = 2 by kernel_rfl, if_pos (by omega), sizeWay]
  simp [Result.andThen, Addr.add_lit]
set_option maxRecDepth 100000 in
set_option maxHeartbeats 2000000 in
theorem track_is (b off N me : Nat) (t : Tk) (d s r : Nat) (hN : 4 ≤ N ∧ N ≤ 16) (hm : me < N) (hd : d < 2) (hs : s < N) (hr : distM N me d s = r) (w : World) (h0 : w.cell? ⟨b, 0, none⟩ = some (.int .i64 (N : Int))) (h1 : w.cell? ⟨b, 1, none⟩ = some (.int .i64 (me : Int))) (hT : TkIn w w.heap.size b off N t) :
    Calls Try.prog 84 #[.pointer (some ⟨b, 0, none⟩), .pointer (some ⟨b, off, none⟩), .int .u8 (d : Int), .int .i64 (s : Int)] w fun e w' => e = .returned (.agg (t.at r d s).l.toArray) ∧ Below w.heap.size w w' := by
  have HD : Hid (∀ u, Below w.heap.size w u → Calls Try.prog 98 #[.pointer (some ⟨b, 0, none⟩), .int .u8 (d : Int), .int .i64 (s : Int)] u fun e w' => e = .returned (.int .i64 (r : Int)) ∧ Below u.heap.size u w') := Lib.hid (fun u hu => distance_is b N me d s r hN hm hs hr u (belowW hu h0) (belowW hu h1))
  have HTN := Lib.hid (hT.n d hd)
  have HTO := Lib.hid hT.o
  have HTF := Lib.hid (hT.fl d hd).f
  have HTL := Lib.hid (hT.nl d hd).f
  have HLT := Lib.hid hT.lt
  clear hr h0 h1 hT
  go_enter Try.func84, Try.ntmps84
  go_upto_region 1 with fail
  refine wp_at (fun U => (∃ Z : List Value, Z.length = 57 ∧ PIn U w.heap.size 0 54 [] [] Z) ∧ Below w.heap.size w U) ⟨⟨_, by rfl, Blk.pin (Blk.new w _ _)⟩, below_al (Below.refl _ w) _⟩ ?_
  rintro U ⟨⟨Z, hZl, hZ⟩, hU⟩
  have HZ := Lib.hid hZ
  have HZL := Lib.hid hZl
  have HU := Lib.hid hU
  clear hZ hZl hU
  go_upto_region 2 with (go_at_call 98; (with_reducible refine (HD.out _ HU.out).mono ?_); rintro e U1 ⟨rfl, q1⟩; have HV := Lib.hid (HU.out.trans (q1.mono HU.out.size)); have HZ1 := Lib.hid (HZ.out.on q1); clear q1)
  have hsz : w.heap.size < U1.heap.size := HZ1.out.blk.lt
  by_cases hr0 : r = 0
  · subst hr0
    have HRG : Hid (U1.rangeAt b (off + 5) t.o.l) := Lib.hid (fun j v hv => (HV.out.cell (p := ⟨b, _, none⟩) HLT.out).trans (HTO.out j v hv))
    go_wp2_with (first
      | (refine wpList_load_mid rfl 54 (.tmp 17) rfl b (off + 5) (by simp [Act.eval, Act.put]) t.o.l _ HRG.out Try.underlying54 rfl (by rw [size_row, Rw.l_len]) ?_)
      | (refine wpList_store_pin rfl 54 (.tmp 8) (.tmp 18) rfl HZ1.out t.o.l (by simp [Act.eval, Act.put]) (by simp [Act.eval, Act.put]) 57 size_row HZL.out (Rw.l_len _) (roL_one _ _ _ _ _) ?_; intro w1 p1 b1))
    have hld := p1.var 54 _ Try.underlying54 rfl 57 size_row (Rw.l_len _)
    exact bodyPost_ret (v := .agg t.o.l.toArray) (by simp [results, Try.results84, asAddr, Act.put, hld]) rfl ⟨rfl, HV.out.trans (b1.low (Nat.le_refl _))⟩
  · have e0 : ((r : Int) == 0) = false := by simp; omega
    have HCN : Hid (U1.cell? ⟨b, off + 1 + d * 2, none⟩ = some (.slice (t.nA d) N (t.nc d)) ∧ U1.cell? ⟨b, off + 1 + d * 2 + 1, none⟩ = some (.slice (t.fA d) N (t.fc d))) := Lib.hid ⟨(HV.out.cell (p := ⟨b, _, none⟩) HLT.out).trans HTN.out.1, (HV.out.cell (p := ⟨b, _, none⟩) HLT.out).trans HTN.out.2⟩
    obtain ⟨c1, c2⟩ := HCN.out
    have lb : b < U1.heap.size := cell_ltT c1
    have hiw := fun W => idxWay b (off + 1) d hd W
    by_cases hr1 : r = 1
    · subst hr1
      obtain ⟨gb, go, hA, hgb, hcs⟩ := HTL.out (by omega)
      have HRG : Hid (U1.rangeAt gb (go + s * 57) (t.nR d s).l) := Lib.hid (fun j v hv => (HV.out.cell (p := ⟨gb, _, none⟩) hgb).trans (hcs s hs j v hv))
      have hix := fun W => idxRows (A := t.nA d) (n := N) (t.nc d) hA hs W
      have lg : gb < U1.heap.size := Nat.lt_of_lt_of_le hgb HV.out.size
      clear hcs hA c2
      go_wp2_with (first
        | (refine wpList_load_mid rfl 54 (.tmp 29) rfl gb (go + s * 57) (by simp [Act.eval, Act.put]) (t.nR d s).l _ HRG.out Try.underlying54 rfl (by rw [size_row, Rw.l_len]) ?_)
        | (refine wpList_store_pin rfl 54 (.tmp 8) (.tmp 30) rfl HZ1.out (t.nR d s).l (by simp [Act.eval, Act.put]) (by simp [Act.eval, Act.put]) 57 size_row HZL.out (Rw.l_len _) (roL_one _ _ _ _ _) ?_; intro w1 p1 b1))
      have hld := p1.var 54 _ Try.underlying54 rfl 57 size_row (Rw.l_len _)
      exact bodyPost_ret (v := .agg (t.nR d s).l.toArray) (by simp [results, Try.results84, asAddr, Act.put, hld]) rfl ⟨rfl, HV.out.trans (b1.low (Nat.le_refl _))⟩
    · have e1 : ((r : Int) == 1) = false := by simp; omega
      obtain ⟨gb, go, hA, hgb, hcs⟩ := HTF.out (by omega)
      have HRG : Hid (U1.rangeAt gb (go + s * 57) (t.fR d s).l) := Lib.hid (fun j v hv => (HV.out.cell (p := ⟨gb, _, none⟩) hgb).trans (hcs s hs j v hv))
      have hix := fun W => idxRows (A := t.fA d) (n := N) (t.fc d) hA hs W
      have lg : gb < U1.heap.size := Nat.lt_of_lt_of_le hgb HV.out.size
      have hat := Lib.hid (show t.fR d s = t.at r d s by rw [Tk.at, if_neg hr0, if_neg hr1])
      clear hcs hA c1
      go_wp2_with (first
        | (refine wpList_load_mid rfl 54 (.tmp 39) rfl gb (go + s * 57) (by simp [Act.eval, Act.put]) (t.fR d s).l _ HRG.out Try.underlying54 rfl (by rw [size_row, Rw.l_len]) ?_)
        | (refine wpList_store_pin rfl 54 (.tmp 8) (.tmp 40) rfl HZ1.out (t.fR d s).l (by simp [Act.eval, Act.put]) (by simp [Act.eval, Act.put]) 57 size_row HZL.out (Rw.l_len _) (roL_one _ _ _ _ _) ?_; intro w1 p1 b1))
      have hld := p1.var 54 _ Try.underlying54 rfl 57 size_row (Rw.l_len _)
      exact bodyPost_ret (v := .agg (t.fR d s).l.toArray) (by simp [results, Try.results84, asAddr, Act.put, hld]) rfl ⟨by rw [hat.out], HV.out.trans (b1.low (Nat.le_refl _))⟩
end Go.Proofs.Ytcangipaoancnaa

