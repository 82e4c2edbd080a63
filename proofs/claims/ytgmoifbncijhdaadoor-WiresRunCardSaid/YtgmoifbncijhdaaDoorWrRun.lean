/-
  The law WiresRun, walked: of however many nodes, whatever links are given, and taken, tick by tick, the program's wires and the reference's answer alike: true; nothing that was there has turned. Conditions: the arguments' readings; the table of directions is as the program's text lays it.
-/
import Derived.Test.YtgmoifbncijhdaaDoorWrJ
import Derived.Test.YtgmoifbncijhdaaDoorOpenW
import Derived.Test.YtgmoifbncijhdaaDoorReg4
import Derived.Deep.CutRange
import Derived.Deep.CutBlock
namespace Go.Proofs.YtgmoifbncijhdaaDoor
open Go.RowKit Rg
set_option linter.unusedVariables false

theorem hR_one : hR [noneW] = noneW := by
  funext i
  have := hopN_ok i
  simp only [hR, List.length_singleton, noneW]; rw [if_neg (by omega)]
theorem xR_one : xR [noneW] = noneW := by
  funext i
  simp only [xR, List.length_singleton, noneW]; rw [if_neg (by omega)]
theorem gR_one : gR [noneW] = noneW := rfl
theorem setR_pos {n : Nat} {R : List (Nat → Option Int)} {k : Int} {o : Option Int} (h : 0 < R.length) : 0 < (setR n R k o).length := by rw [setR_len]; exact h
/-- What holds at a round's beginning. -/
def Both (w : World) (L : Lay) (g n : Nat) (u : World) (R : List (Nat → Option Int)) : Prop := Hold w L u ((R.length : Int) - 1) (hR R) (xR R) (gR R) ∧ ∃ rb A c, RefW u g L.b1 n rb R A c
theorem wiresRun_long (x : Int) (A1 : Option Addr) (m c1 : Nat) (w : World) (hw : Ways w) (hm : 300 < m) :
    Calls Tryd.prog 3 #[.int .i64 x, .slice A1 m c1] w fun e w' => e = .returned (.bool true) ∧ Below w.heap.size w w' := by
  have HV := Lib.hid (lives_wr w hw)
  have hd : decide ((300 : Int) < (m : Int)) = true := decide_eq_true (by omega)
  clear hw
  go_enter Tryd.func3, Tryd.ntmps3
  go_wp2_with (go_at_call 8; (with_reducible refine HV.out.mono ?_); rintro e v1 ⟨rfl, b1⟩)
  go_ret
  exact ⟨rfl, b1⟩
theorem wiresRun_bad (x : Int) (A1 : Option Addr) (m c1 : Nat) (w : World) (hw : Ways w) (hm : m ≤ 300) (hx : ¬ (4 ≤ x ∧ x ≤ 16)) :
    Calls Tryd.prog 3 #[.int .i64 x, .slice A1 m c1] w fun e w' => e = .returned (.bool true) ∧ Below w.heap.size w w' := by
  have HN := Lib.hid (new_no x hx w hw)
  have HR := Lib.hid (fun W => refNew_no x hx W)
  have HW := Lib.hid hw
  have hd : decide ((300 : Int) < (m : Int)) = false := decide_eq_false (by omega)
  have hd' : decide (300 < m) = false := decide_eq_false (by omega)
  clear hw hx hm
  go_enter Tryd.func3, Tryd.ntmps3
  go_wp2_with (first
    | (go_at_call 9; (with_reducible refine HN.out.mono ?_); rintro e u0 ⟨rfl, b0⟩)
    | (go_at_call 10; (with_reducible refine (HR.out _).mono ?_); rintro e w' ⟨rfl, rfl⟩)
    | (go_at_call 8; (with_reducible refine (lives_wr _ (HW.out.on b0)).mono ?_); rintro e v1 ⟨rfl, b1⟩))
  go_ret
  exact ⟨rfl, below_then b0 b1⟩
set_option maxRecDepth 100000 in
set_option maxHeartbeats 8000000 in
theorem wiresRun_main (n : Nat) (A1 : Option Addr) (m c1 : Nat) (ss : List Ac) (w : World) (hw : Ways w) (hl : LiesA w w.heap.size A1 m ss) (hm : m ≤ 300) (hn1 : 4 ≤ n) (hn2 : n ≤ 16) :
    Calls Tryd.prog 3 #[.int .i64 (n : Int), .slice A1 m c1] w fun e w' => e = .returned (.bool true) ∧ Below w.heap.size w w' := by
  have HN := Lib.hid (hNew n hn1 hn2 w w hw (Below.refl _ _))
  have HRN := Lib.hid (fun W => refNew_is n hn1 hn2 W)
  have HLL := Lib.hid hl
  have HM := Lib.hid (And.intro hm (And.intro hn1 hn2))
  have hd : decide ((300 : Int) < (m : Int)) = false := decide_eq_false (by omega)
  have hd' : decide (300 < m) = false := decide_eq_false (by omega)
  clear hw hl hm hn1 hn2
  go_enter Tryd.func3, Tryd.ntmps3
  go_wp2_with (first
    | (go_at_call 9; (with_reducible refine HN.out.mono ?_); rintro e u0 ⟨L, rfl, hn, hb1, h0, -⟩; have HLn := Lib.hid hn; have HL1 := Lib.hid hb1; have H0 := Lib.hid h0; clear hn hb1 h0)
    | (go_at_call 10; (with_reducible refine (HRN.out u0).mono ?_); rintro e u1 ⟨g, rb, A, c, rfl, hr, b1⟩; have HR := Lib.hid hr; have H1 := Lib.hid (H0.out.on b1); clear hr b1))
  clear H0 HN HRN hd hd'
  go_loopw [9] (fun s9 wr => ∃ i : Nat, i ≤ m ∧ s9 = .int .i64 (i : Int) ∧ Hid (∃ R, 0 < R.length ∧ R.length ≤ i + 1 ∧ Both w L g n wr R)) (fun s9 _ => m - (intOf s9).toNat)
  case atStart =>
    refine ⟨0, by omega, rfl, Lib.hid ⟨[noneW], by simp, by simp, ?_, rb, A, c, ?_⟩⟩
    · rw [hR_one, xR_one, gR_one]; exact H1.out
    · rw [HL1.out]; exact HR.out
  case round =>
    obtain ⟨i, hi, rfl, HI⟩ := hrel
    clear H1 HR
    by_cases hlt : i < m
    · obtain ⟨R, hR0, hRi, hB⟩ := HI.out
      have hdl : decide ((i : Int) < (m : Int)) = true := decide_eq_true (by omega)
      have hdn : decide (i < m) = true := decide_eq_true hlt
      have hwi : IntKind.i64.wrap ((i : Int) + 1) = ((i + 1 : Nat) : Int) := by have := HM.out; rw [IntWalk.i64_in _ (by omega)]; omega
      obtain ⟨bl, ol, hA, hbl, hcl⟩ := HLL.out.2 (by omega)
      obtain ⟨ha0, hok⟩ := hcl i hlt
      have ha := ha0.low hB.1.low hbl
      have hbw : bl < wr.heap.size := Nat.lt_of_lt_of_le hbl hB.1.low.size
      have hix := fun W => idxActs (n := m) c1 hA hlt W
      have hxb : L.b1 ≤ wr.heap.size := by
        obtain ⟨rb', A', c', hr⟩ := hB.2
        exact Nat.le_trans hr.lo (Nat.le_of_lt hr.blk.lt)
      obtain ⟨a, ea⟩ : ∃ a, a = ss.getD i Ac.zero := ⟨_, rfl⟩
      rw [← ea] at ha hok
      obtain ⟨ka, la, xa, da, na, ha6⟩ := a
      have q0 := ha.k
      have q1 := ha.l
      have q2 := ha.x
      have q3 := ha.d
      have q4 := ha.n
      have q5 := ha.h
      simp only at q0 q1 q2 q3 q4 q5
      have hkb := hok.k
      have hlb := hok.l
      have hdb := hok.d
      simp only at hkb hlb hdb
      have HJO := Lib.hid (show JOk L n wr.heap.size from ⟨HM.out.2.1, HM.out.2.2, HLn.out, hxb⟩)
      obtain ⟨W, hW⟩ : ∃ W, W = wr.alloc (.cells #[.int .u8 ka, .int .i64 la, .int .i64 xa, .int .u8 da, .int .i64 na, .int .i64 ha6] 32) := ⟨_, rfl⟩
      have HJ := Lib.hid (show JJ w L g n wr.heap.size #[.int .u8 ka, .int .i64 la, .int .i64 xa, .int .u8 da, .int .i64 na, .int .i64 ha6] W R R by
        have hbb : Below wr.heap.size wr W := by rw [hW]; exact (Below.refl _ _).alloc (Nat.le_refl _) _
        obtain ⟨rb', A', c', hr⟩ := hB.2
        exact ⟨hB.1.on hbb, ⟨rb', A', c', hr.on hbb⟩, by rw [hW]; exact Blk.new _ _ _⟩)
      obtain ⟨kq, ekq⟩ : ∃ kq, kq = ka.tmod 6 := ⟨_, rfl⟩
      have hkq : kq = 0 ∨ kq = 1 ∨ kq = 2 ∨ kq = 3 ∨ kq = 4 ∨ kq = 5 := by rw [ekq, Int.tmod_eq_emod_of_nonneg hkb.1]; omega
      have hkt := ekq.symm
      have HKQ := Lib.hid hkq
      have HLB := Lib.hid hlb
      have HDB := Lib.hid hdb
      have HRR := Lib.hid (And.intro hR0 hRi)
      clear ha0 hok ha hB hcl hA hbl ea hR0 hRi hkb hlb hdb hkq ekq hxb HI hi
      go_upto_region 13 with fail
      rw [← hW]
      clear hW q0 q1 q2 q3 q4 q5 hix hbw
      have q0 := HJ.out.blk.cell 0
      have ql := HJ.out.blk.lt
      simp only [List.getElem?_toArray, List.getElem?_cons_zero] at q0
      go_upto_block 2 with fail
      clear hkt q0 ql
      go_cut [64] from 59 to 92 (fun s64 wx => ∃ R', 0 < R'.length ∧ R'.length ≤ i + 2 ∧ JJ w L g n wr.heap.size #[.int .u8 ka, .int .i64 la, .int .i64 xa, .int .u8 da, .int .i64 na, .int .i64 ha6] wx R' R')
      case first =>
        as_aux_lemma =>
          rcases HKQ.out with rfl | rfl | rfl | rfl | rfl | rfl
          · obtain ⟨R1, eR1⟩ : ∃ R1, setR n R la (some xa) = R1 := ⟨_, rfl⟩
            have HR1 := Lib.hid eR1
            have hlen1 : R1.length = R.length := by rw [← eR1, setR_len]
            obtain ⟨r, er⟩ : ∃ r, errW n la = r := ⟨_, rfl⟩
            have HER := Lib.hid er
            have HL1' := Lib.hid (show 0 < R1.length ∧ R1.length ≤ i + 2 by have := HRR.out; omega)
            have HPL := Lib.hid (show ∀ b, 0 < (pk R R1 b).length ∧ (pk R R1 b).length ≤ 65536 by intro b; have := HRR.out; have := HM.out; cases b <;> simp only [pk, if_true, Bool.false_eq_true, if_false] <;> omega)
            clear eR1 er hlen1
            go_upto_region 19 with fail
            refine Reg.wp_marks (fun t => decide (67 ≤ t) && decide (t ≤ 80)) [5, 12] (fun f u => JJ w L g n wr.heap.size #[.int .u8 ka, .int .i64 la, .int .i64 xa, .int .u8 da, .int .i64 na, .int .i64 ha6] u (pk R R1 (f 5)) (pk R R1 (f 12))) (fun f g u hk h => by rw [← hk 5 (by decide), ← hk 12 (by decide)]; exact h) HJ.out.drew (by kernel_rfl) (by kernel_rfl) (by kernel_rfl) (by kernel_rfl) (fun zz => Reg.tblM [
              (67, fun v => v = .pointer (some ⟨L.g, 0, none⟩)),
              (68, fun v => v = .pointer (some ⟨wr.heap.size, 1, none⟩)),
              (69, fun v => v = .int .i64 la),
              (70, fun v => v = .pointer (some ⟨wr.heap.size, 2, none⟩)),
              (71, fun v => v = .int .i64 xa),
              (72, fun v => v = .int .i64 r),
              (73, fun v => v = .pointer (some ⟨g, 0, none⟩)),
              (74, fun v => v = .pointer (some ⟨wr.heap.size, 1, none⟩)),
              (75, fun v => v = .int .i64 la),
              (76, fun v => v = .pointer (some ⟨wr.heap.size, 2, none⟩)),
              (77, fun v => v = .int .i64 xa),
              (78, fun v => v = .agg #[.int .i64 xa, .bool true]),
              (79, fun v => v = .int .i64 r),
              (80, fun v => v = .bool false)] zz) ?_ ?_
            · simp only [Reg.frame, Reg.over, Nat.reduceAdd, Nat.reduceLeDiff, decide_true, decide_false, if_true, Bool.false_eq_true, if_false, Bool.and_true, Bool.and_false]
              refine ⟨?_, ?_, ?_, ?_, ?_, ?_, ?_, ?_, ?_, ?_, ?_, ?_, ?_, ?_, trivial⟩
              · intro x f u hM hfi hfd hd
                refine wpOp_step rfl fun KK hK => ?_
                go_simp
                exact hK _ _ ⟨_, rfl, fun h => absurd h (by decide), fun _ => rfl, fun d hd => by cases hd; exact rfl⟩
              · intro x f u hM hfi hfd hd
                refine wpOp_step rfl fun KK hK => ?_
                go_simp
                exact hK _ _ ⟨_, rfl, fun h => absurd h (by decide), fun _ => rfl, fun d hd => by cases hd; exact rfl⟩
              · intro x f u hM hfi hfd hd
                have h68 : x 68 = .pointer (some ⟨wr.heap.size, 1, none⟩) := hd 1 (by decide)
                have qx := hM.blk.cell 1
                have ql := hM.blk.lt
                simp only [List.getElem?_toArray, List.getElem?_cons_zero, List.getElem?_cons_succ] at qx
                refine wpOp_step rfl fun KK hK => ?_
                simp only [h68] at hK ⊢
                go_simp
                exact hK _ _ ⟨_, rfl, fun h => absurd h (by decide), fun _ => rfl, fun d hd => by cases hd; exact rfl⟩
              · intro x f u hM hfi hfd hd
                refine wpOp_step rfl fun KK hK => ?_
                go_simp
                exact hK _ _ ⟨_, rfl, fun h => absurd h (by decide), fun _ => rfl, fun d hd => by cases hd; exact rfl⟩
              · intro x f u hM hfi hfd hd
                have h70 : x 70 = .pointer (some ⟨wr.heap.size, 2, none⟩) := hd 3 (by decide)
                have qx := hM.blk.cell 2
                have ql := hM.blk.lt
                simp only [List.getElem?_toArray, List.getElem?_cons_zero, List.getElem?_cons_succ] at qx
                refine wpOp_step rfl fun KK hK => ?_
                simp only [h70] at hK ⊢
                go_simp
                exact hK _ _ ⟨_, rfl, fun h => absurd h (by decide), fun _ => rfl, fun d hd => by cases hd; exact rfl⟩
              · intro x f u hM hfi hfd hd
                have h67 : x 67 = .pointer (some ⟨L.g, 0, none⟩) := hd 0 (by decide)
                have h69 : x 69 = .int .i64 la := hd 2 (by decide)
                have h71 : x 71 = .int .i64 xa := hd 4 (by decide)
                have hM0 := hM
                rw [show f 5 = false from hfi (by decide)] at hM0
                have hM1 : JJ w L g n wr.heap.size #[.int .u8 ka, .int .i64 la, .int .i64 xa, .int .u8 da, .int .i64 na, .int .i64 ha6] u R (pk R R1 (f 12)) := hM0
                refine wpOp_step rfl fun KK hK => ?_
                simp only [h67, h69, h71] at hK ⊢
                go_simp
                with_reducible refine (jGive hM1 HJO.out HRR.out.1 la xa HLB.out r HER.out R1 HR1.out).mono ?_
                rintro e u' ⟨rfl, hM2⟩
                have hM' : ((fun f u => JJ w L g n wr.heap.size #[.int .u8 ka, .int .i64 la, .int .i64 xa, .int .u8 da, .int .i64 na, .int .i64 ha6] u (pk R R1 (f 5)) (pk R R1 (f 12))) : (Nat → Bool) → World → Prop) (Reg.mark f 5) u' := hM2
                exact hK _ _ ⟨_, rfl, fun _ => hM', fun h => absurd (by decide) h, fun d hd => by cases hd; exact rfl⟩
              · intro x f u hM hfi hfd hd
                refine wpOp_step rfl fun KK hK => ?_
                go_simp
                exact hK _ _ ⟨_, rfl, fun h => absurd h (by decide), fun _ => rfl, fun d hd => by cases hd; exact rfl⟩
              · intro x f u hM hfi hfd hd
                refine wpOp_step rfl fun KK hK => ?_
                go_simp
                exact hK _ _ ⟨_, rfl, fun h => absurd h (by decide), fun _ => rfl, fun d hd => by cases hd; exact rfl⟩
              · intro x f u hM hfi hfd hd
                have h74 : x 74 = .pointer (some ⟨wr.heap.size, 1, none⟩) := hd 7 (by decide)
                have qx := hM.blk.cell 1
                have ql := hM.blk.lt
                simp only [List.getElem?_toArray, List.getElem?_cons_zero, List.getElem?_cons_succ] at qx
                refine wpOp_step rfl fun KK hK => ?_
                simp only [h74] at hK ⊢
                go_simp
                exact hK _ _ ⟨_, rfl, fun h => absurd h (by decide), fun _ => rfl, fun d hd => by cases hd; exact rfl⟩
              · intro x f u hM hfi hfd hd
                refine wpOp_step rfl fun KK hK => ?_
                go_simp
                exact hK _ _ ⟨_, rfl, fun h => absurd h (by decide), fun _ => rfl, fun d hd => by cases hd; exact rfl⟩
              · intro x f u hM hfi hfd hd
                have h76 : x 76 = .pointer (some ⟨wr.heap.size, 2, none⟩) := hd 9 (by decide)
                have qx := hM.blk.cell 2
                have ql := hM.blk.lt
                simp only [List.getElem?_toArray, List.getElem?_cons_zero, List.getElem?_cons_succ] at qx
                refine wpOp_step rfl fun KK hK => ?_
                simp only [h76] at hK ⊢
                go_simp
                exact hK _ _ ⟨_, rfl, fun h => absurd h (by decide), fun _ => rfl, fun d hd => by cases hd; exact rfl⟩
              · intro x f u hM hfi hfd hd
                have h77 : x 77 = .int .i64 xa := hd 10 (by decide)
                refine wpOp_step rfl fun KK hK => ?_
                simp only [h77] at hK ⊢
                go_simp
                exact hK _ _ ⟨_, rfl, fun h => absurd h (by decide), fun _ => rfl, fun d hd => by cases hd; exact rfl⟩
              · intro x f u hM hfi hfd hd
                have h73 : x 73 = .pointer (some ⟨g, 0, none⟩) := hd 6 (by decide)
                have h75 : x 75 = .int .i64 la := hd 8 (by decide)
                have h78 : x 78 = .agg #[.int .i64 xa, .bool true] := hd 11 (by decide)
                have hM0 := hM
                rw [show f 12 = false from hfi (by decide)] at hM0
                have hM1 : JJ w L g n wr.heap.size #[.int .u8 ka, .int .i64 la, .int .i64 xa, .int .u8 da, .int .i64 na, .int .i64 ha6] u (pk R R1 (f 5)) R := hM0
                refine wpOp_step rfl fun KK hK => ?_
                simp only [h73, h75, h78] at hK ⊢
                go_simp
                with_reducible refine (jSetS hM1 HJO.out HRR.out.1 (by have := HRR.out; have := HM.out; omega) la xa r HER.out R1 HR1.out).mono ?_
                rintro e u' ⟨rfl, hM2⟩
                have hM' : ((fun f u => JJ w L g n wr.heap.size #[.int .u8 ka, .int .i64 la, .int .i64 xa, .int .u8 da, .int .i64 na, .int .i64 ha6] u (pk R R1 (f 5)) (pk R R1 (f 12))) : (Nat → Bool) → World → Prop) (Reg.mark f 12) u' := hM2
                exact hK _ _ ⟨_, rfl, fun _ => hM', fun h => absurd (by decide) h, fun d hd => by cases hd; exact rfl⟩
              · intro x f u hM hfi hfd hd
                have h72 : x 72 = .int .i64 r := hd 5 (by decide)
                have h79 : x 79 = .int .i64 r := hd 12 (by decide)
                refine wpOp_step rfl fun KK hK => ?_
                simp only [h72, h79] at hK ⊢
                go_simp
                exact hK _ _ ⟨_, rfl, fun h => absurd h (by decide), fun _ => rfl, fun d hd => by cases hd; exact rfl⟩
            · intro x u hM hall
              have h80 : x 80 = .bool false := hall 13 (by decide)
              have hM' : JJ w L g n wr.heap.size #[.int .u8 ka, .int .i64 la, .int .i64 xa, .int .u8 da, .int .i64 na, .int .i64 ha6] u R1 R1 := hM
              have HMM := Lib.hid hM'
              clear hM hM' hall
              simp only [Reg.frame, Reg.over, Nat.reduceAdd, Nat.reduceLeDiff, decide_true, decide_false, if_true, Bool.false_eq_true, if_false, Bool.and_true, Bool.and_false, h80]
              go_wp2_with fail
              go_meet
              exact ⟨R1, HL1'.out.1, HL1'.out.2, HMM.out⟩
          · obtain ⟨R1, eR1⟩ : ∃ R1, setR n R la (some xa) = R1 := ⟨_, rfl⟩
            have HR1 := Lib.hid eR1
            have hlen1 : R1.length = R.length := by rw [← eR1, setR_len]
            obtain ⟨r, er⟩ : ∃ r, errW n la = r := ⟨_, rfl⟩
            have HER := Lib.hid er
            have HL1' := Lib.hid (show 0 < R1.length ∧ R1.length ≤ i + 2 by have := HRR.out; omega)
            have HPL := Lib.hid (show ∀ b, 0 < (pk R R1 b).length ∧ (pk R R1 b).length ≤ 65536 by intro b; have := HRR.out; have := HM.out; cases b <;> simp only [pk, if_true, Bool.false_eq_true, if_false] <;> omega)
            clear eR1 er hlen1
            go_upto_region 19 with fail
            refine Reg.wp_marks (fun t => decide (67 ≤ t) && decide (t ≤ 80)) [5, 12] (fun f u => JJ w L g n wr.heap.size #[.int .u8 ka, .int .i64 la, .int .i64 xa, .int .u8 da, .int .i64 na, .int .i64 ha6] u (pk R R1 (f 5)) (pk R R1 (f 12))) (fun f g u hk h => by rw [← hk 5 (by decide), ← hk 12 (by decide)]; exact h) HJ.out.drew (by kernel_rfl) (by kernel_rfl) (by kernel_rfl) (by kernel_rfl) (fun zz => Reg.tblM [
              (67, fun v => v = .pointer (some ⟨L.g, 0, none⟩)),
              (68, fun v => v = .pointer (some ⟨wr.heap.size, 1, none⟩)),
              (69, fun v => v = .int .i64 la),
              (70, fun v => v = .pointer (some ⟨wr.heap.size, 2, none⟩)),
              (71, fun v => v = .int .i64 xa),
              (72, fun v => v = .int .i64 r),
              (73, fun v => v = .pointer (some ⟨g, 0, none⟩)),
              (74, fun v => v = .pointer (some ⟨wr.heap.size, 1, none⟩)),
              (75, fun v => v = .int .i64 la),
              (76, fun v => v = .pointer (some ⟨wr.heap.size, 2, none⟩)),
              (77, fun v => v = .int .i64 xa),
              (78, fun v => v = .agg #[.int .i64 xa, .bool true]),
              (79, fun v => v = .int .i64 r),
              (80, fun v => v = .bool false)] zz) ?_ ?_
            · simp only [Reg.frame, Reg.over, Nat.reduceAdd, Nat.reduceLeDiff, decide_true, decide_false, if_true, Bool.false_eq_true, if_false, Bool.and_true, Bool.and_false]
              refine ⟨?_, ?_, ?_, ?_, ?_, ?_, ?_, ?_, ?_, ?_, ?_, ?_, ?_, ?_, trivial⟩
              · intro x f u hM hfi hfd hd
                refine wpOp_step rfl fun KK hK => ?_
                go_simp
                exact hK _ _ ⟨_, rfl, fun h => absurd h (by decide), fun _ => rfl, fun d hd => by cases hd; exact rfl⟩
              · intro x f u hM hfi hfd hd
                refine wpOp_step rfl fun KK hK => ?_
                go_simp
                exact hK _ _ ⟨_, rfl, fun h => absurd h (by decide), fun _ => rfl, fun d hd => by cases hd; exact rfl⟩
              · intro x f u hM hfi hfd hd
                have h68 : x 68 = .pointer (some ⟨wr.heap.size, 1, none⟩) := hd 1 (by decide)
                have qx := hM.blk.cell 1
                have ql := hM.blk.lt
                simp only [List.getElem?_toArray, List.getElem?_cons_zero, List.getElem?_cons_succ] at qx
                refine wpOp_step rfl fun KK hK => ?_
                simp only [h68] at hK ⊢
                go_simp
                exact hK _ _ ⟨_, rfl, fun h => absurd h (by decide), fun _ => rfl, fun d hd => by cases hd; exact rfl⟩
              · intro x f u hM hfi hfd hd
                refine wpOp_step rfl fun KK hK => ?_
                go_simp
                exact hK _ _ ⟨_, rfl, fun h => absurd h (by decide), fun _ => rfl, fun d hd => by cases hd; exact rfl⟩
              · intro x f u hM hfi hfd hd
                have h70 : x 70 = .pointer (some ⟨wr.heap.size, 2, none⟩) := hd 3 (by decide)
                have qx := hM.blk.cell 2
                have ql := hM.blk.lt
                simp only [List.getElem?_toArray, List.getElem?_cons_zero, List.getElem?_cons_succ] at qx
                refine wpOp_step rfl fun KK hK => ?_
                simp only [h70] at hK ⊢
                go_simp
                exact hK _ _ ⟨_, rfl, fun h => absurd h (by decide), fun _ => rfl, fun d hd => by cases hd; exact rfl⟩
              · intro x f u hM hfi hfd hd
                have h67 : x 67 = .pointer (some ⟨L.g, 0, none⟩) := hd 0 (by decide)
                have h69 : x 69 = .int .i64 la := hd 2 (by decide)
                have h71 : x 71 = .int .i64 xa := hd 4 (by decide)
                have hM0 := hM
                rw [show f 5 = false from hfi (by decide)] at hM0
                have hM1 : JJ w L g n wr.heap.size #[.int .u8 ka, .int .i64 la, .int .i64 xa, .int .u8 da, .int .i64 na, .int .i64 ha6] u R (pk R R1 (f 12)) := hM0
                refine wpOp_step rfl fun KK hK => ?_
                simp only [h67, h69, h71] at hK ⊢
                go_simp
                with_reducible refine (jGive hM1 HJO.out HRR.out.1 la xa HLB.out r HER.out R1 HR1.out).mono ?_
                rintro e u' ⟨rfl, hM2⟩
                have hM' : ((fun f u => JJ w L g n wr.heap.size #[.int .u8 ka, .int .i64 la, .int .i64 xa, .int .u8 da, .int .i64 na, .int .i64 ha6] u (pk R R1 (f 5)) (pk R R1 (f 12))) : (Nat → Bool) → World → Prop) (Reg.mark f 5) u' := hM2
                exact hK _ _ ⟨_, rfl, fun _ => hM', fun h => absurd (by decide) h, fun d hd => by cases hd; exact rfl⟩
              · intro x f u hM hfi hfd hd
                refine wpOp_step rfl fun KK hK => ?_
                go_simp
                exact hK _ _ ⟨_, rfl, fun h => absurd h (by decide), fun _ => rfl, fun d hd => by cases hd; exact rfl⟩
              · intro x f u hM hfi hfd hd
                refine wpOp_step rfl fun KK hK => ?_
                go_simp
                exact hK _ _ ⟨_, rfl, fun h => absurd h (by decide), fun _ => rfl, fun d hd => by cases hd; exact rfl⟩
              · intro x f u hM hfi hfd hd
                have h74 : x 74 = .pointer (some ⟨wr.heap.size, 1, none⟩) := hd 7 (by decide)
                have qx := hM.blk.cell 1
                have ql := hM.blk.lt
                simp only [List.getElem?_toArray, List.getElem?_cons_zero, List.getElem?_cons_succ] at qx
                refine wpOp_step rfl fun KK hK => ?_
                simp only [h74] at hK ⊢
                go_simp
                exact hK _ _ ⟨_, rfl, fun h => absurd h (by decide), fun _ => rfl, fun d hd => by cases hd; exact rfl⟩
              · intro x f u hM hfi hfd hd
                refine wpOp_step rfl fun KK hK => ?_
                go_simp
                exact hK _ _ ⟨_, rfl, fun h => absurd h (by decide), fun _ => rfl, fun d hd => by cases hd; exact rfl⟩
              · intro x f u hM hfi hfd hd
                have h76 : x 76 = .pointer (some ⟨wr.heap.size, 2, none⟩) := hd 9 (by decide)
                have qx := hM.blk.cell 2
                have ql := hM.blk.lt
                simp only [List.getElem?_toArray, List.getElem?_cons_zero, List.getElem?_cons_succ] at qx
                refine wpOp_step rfl fun KK hK => ?_
                simp only [h76] at hK ⊢
                go_simp
                exact hK _ _ ⟨_, rfl, fun h => absurd h (by decide), fun _ => rfl, fun d hd => by cases hd; exact rfl⟩
              · intro x f u hM hfi hfd hd
                have h77 : x 77 = .int .i64 xa := hd 10 (by decide)
                refine wpOp_step rfl fun KK hK => ?_
                simp only [h77] at hK ⊢
                go_simp
                exact hK _ _ ⟨_, rfl, fun h => absurd h (by decide), fun _ => rfl, fun d hd => by cases hd; exact rfl⟩
              · intro x f u hM hfi hfd hd
                have h73 : x 73 = .pointer (some ⟨g, 0, none⟩) := hd 6 (by decide)
                have h75 : x 75 = .int .i64 la := hd 8 (by decide)
                have h78 : x 78 = .agg #[.int .i64 xa, .bool true] := hd 11 (by decide)
                have hM0 := hM
                rw [show f 12 = false from hfi (by decide)] at hM0
                have hM1 : JJ w L g n wr.heap.size #[.int .u8 ka, .int .i64 la, .int .i64 xa, .int .u8 da, .int .i64 na, .int .i64 ha6] u (pk R R1 (f 5)) R := hM0
                refine wpOp_step rfl fun KK hK => ?_
                simp only [h73, h75, h78] at hK ⊢
                go_simp
                with_reducible refine (jSetS hM1 HJO.out HRR.out.1 (by have := HRR.out; have := HM.out; omega) la xa r HER.out R1 HR1.out).mono ?_
                rintro e u' ⟨rfl, hM2⟩
                have hM' : ((fun f u => JJ w L g n wr.heap.size #[.int .u8 ka, .int .i64 la, .int .i64 xa, .int .u8 da, .int .i64 na, .int .i64 ha6] u (pk R R1 (f 5)) (pk R R1 (f 12))) : (Nat → Bool) → World → Prop) (Reg.mark f 12) u' := hM2
                exact hK _ _ ⟨_, rfl, fun _ => hM', fun h => absurd (by decide) h, fun d hd => by cases hd; exact rfl⟩
              · intro x f u hM hfi hfd hd
                have h72 : x 72 = .int .i64 r := hd 5 (by decide)
                have h79 : x 79 = .int .i64 r := hd 12 (by decide)
                refine wpOp_step rfl fun KK hK => ?_
                simp only [h72, h79] at hK ⊢
                go_simp
                exact hK _ _ ⟨_, rfl, fun h => absurd h (by decide), fun _ => rfl, fun d hd => by cases hd; exact rfl⟩
            · intro x u hM hall
              have h80 : x 80 = .bool false := hall 13 (by decide)
              have hM' : JJ w L g n wr.heap.size #[.int .u8 ka, .int .i64 la, .int .i64 xa, .int .u8 da, .int .i64 na, .int .i64 ha6] u R1 R1 := hM
              have HMM := Lib.hid hM'
              clear hM hM' hall
              simp only [Reg.frame, Reg.over, Nat.reduceAdd, Nat.reduceLeDiff, decide_true, decide_false, if_true, Bool.false_eq_true, if_false, Bool.and_true, Bool.and_false, h80]
              go_wp2_with fail
              go_meet
              exact ⟨R1, HL1'.out.1, HL1'.out.2, HMM.out⟩
          · obtain ⟨R1, eR1⟩ : ∃ R1, setR n R la none = R1 := ⟨_, rfl⟩
            have HR1 := Lib.hid eR1
            have hlen1 : R1.length = R.length := by rw [← eR1, setR_len]
            obtain ⟨r, er⟩ : ∃ r, errW n la = r := ⟨_, rfl⟩
            have HER := Lib.hid er
            have HL1' := Lib.hid (show 0 < R1.length ∧ R1.length ≤ i + 2 by have := HRR.out; omega)
            have HPL := Lib.hid (show ∀ b, 0 < (pk R R1 b).length ∧ (pk R R1 b).length ≤ 65536 by intro b; have := HRR.out; have := HM.out; cases b <;> simp only [pk, if_true, Bool.false_eq_true, if_false] <;> omega)
            clear eR1 er hlen1
            go_upto_region 22 with fail
            refine Reg.wp_marks (fun t => decide (83 ≤ t) && decide (t ≤ 92)) [3, 8] (fun f u => JJ w L g n wr.heap.size #[.int .u8 ka, .int .i64 la, .int .i64 xa, .int .u8 da, .int .i64 na, .int .i64 ha6] u (pk R R1 (f 3)) (pk R R1 (f 8))) (fun f g u hk h => by rw [← hk 3 (by decide), ← hk 8 (by decide)]; exact h) HJ.out.drew (by kernel_rfl) (by kernel_rfl) (by kernel_rfl) (by kernel_rfl) (fun zz => Reg.tblM [
              (83, fun v => v = .pointer (some ⟨L.g, 0, none⟩)),
              (84, fun v => v = .pointer (some ⟨wr.heap.size, 1, none⟩)),
              (85, fun v => v = .int .i64 la),
              (86, fun v => v = .int .i64 r),
              (87, fun v => v = .pointer (some ⟨g, 0, none⟩)),
              (88, fun v => v = .pointer (some ⟨wr.heap.size, 1, none⟩)),
              (89, fun v => v = .int .i64 la),
              (90, fun v => v = .agg #[.int .i64 0, .bool false]),
              (91, fun v => v = .int .i64 r),
              (92, fun v => v = .bool false)] zz) ?_ ?_
            · simp only [Reg.frame, Reg.over, Nat.reduceAdd, Nat.reduceLeDiff, decide_true, decide_false, if_true, Bool.false_eq_true, if_false, Bool.and_true, Bool.and_false]
              refine ⟨?_, ?_, ?_, ?_, ?_, ?_, ?_, ?_, ?_, ?_, trivial⟩
              · intro x f u hM hfi hfd hd
                refine wpOp_step rfl fun KK hK => ?_
                go_simp
                exact hK _ _ ⟨_, rfl, fun h => absurd h (by decide), fun _ => rfl, fun d hd => by cases hd; exact rfl⟩
              · intro x f u hM hfi hfd hd
                refine wpOp_step rfl fun KK hK => ?_
                go_simp
                exact hK _ _ ⟨_, rfl, fun h => absurd h (by decide), fun _ => rfl, fun d hd => by cases hd; exact rfl⟩
              · intro x f u hM hfi hfd hd
                have h84 : x 84 = .pointer (some ⟨wr.heap.size, 1, none⟩) := hd 1 (by decide)
                have qx := hM.blk.cell 1
                have ql := hM.blk.lt
                simp only [List.getElem?_toArray, List.getElem?_cons_zero, List.getElem?_cons_succ] at qx
                refine wpOp_step rfl fun KK hK => ?_
                simp only [h84] at hK ⊢
                go_simp
                exact hK _ _ ⟨_, rfl, fun h => absurd h (by decide), fun _ => rfl, fun d hd => by cases hd; exact rfl⟩
              · intro x f u hM hfi hfd hd
                have h83 : x 83 = .pointer (some ⟨L.g, 0, none⟩) := hd 0 (by decide)
                have h85 : x 85 = .int .i64 la := hd 2 (by decide)
                have hM0 := hM
                rw [show f 3 = false from hfi (by decide)] at hM0
                have hM1 : JJ w L g n wr.heap.size #[.int .u8 ka, .int .i64 la, .int .i64 xa, .int .u8 da, .int .i64 na, .int .i64 ha6] u R (pk R R1 (f 8)) := hM0
                refine wpOp_step rfl fun KK hK => ?_
                simp only [h83, h85] at hK ⊢
                go_simp
                with_reducible refine (jTake hM1 HJO.out HRR.out.1 la HLB.out r HER.out R1 HR1.out).mono ?_
                rintro e u' ⟨rfl, hM2⟩
                have hM' : ((fun f u => JJ w L g n wr.heap.size #[.int .u8 ka, .int .i64 la, .int .i64 xa, .int .u8 da, .int .i64 na, .int .i64 ha6] u (pk R R1 (f 3)) (pk R R1 (f 8))) : (Nat → Bool) → World → Prop) (Reg.mark f 3) u' := hM2
                exact hK _ _ ⟨_, rfl, fun _ => hM', fun h => absurd (by decide) h, fun d hd => by cases hd; exact rfl⟩
              · intro x f u hM hfi hfd hd
                refine wpOp_step rfl fun KK hK => ?_
                go_simp
                exact hK _ _ ⟨_, rfl, fun h => absurd h (by decide), fun _ => rfl, fun d hd => by cases hd; exact rfl⟩
              · intro x f u hM hfi hfd hd
                refine wpOp_step rfl fun KK hK => ?_
                go_simp
                exact hK _ _ ⟨_, rfl, fun h => absurd h (by decide), fun _ => rfl, fun d hd => by cases hd; exact rfl⟩
              · intro x f u hM hfi hfd hd
                have h88 : x 88 = .pointer (some ⟨wr.heap.size, 1, none⟩) := hd 5 (by decide)
                have qx := hM.blk.cell 1
                have ql := hM.blk.lt
                simp only [List.getElem?_toArray, List.getElem?_cons_zero, List.getElem?_cons_succ] at qx
                refine wpOp_step rfl fun KK hK => ?_
                simp only [h88] at hK ⊢
                go_simp
                exact hK _ _ ⟨_, rfl, fun h => absurd h (by decide), fun _ => rfl, fun d hd => by cases hd; exact rfl⟩
              · intro x f u hM hfi hfd hd
                refine wpOp_step rfl fun KK hK => ?_
                go_simp
                exact hK _ _ ⟨_, rfl, fun h => absurd h (by decide), fun _ => rfl, fun d hd => by cases hd; exact rfl⟩
              · intro x f u hM hfi hfd hd
                have h87 : x 87 = .pointer (some ⟨g, 0, none⟩) := hd 4 (by decide)
                have h89 : x 89 = .int .i64 la := hd 6 (by decide)
                have h90 : x 90 = .agg #[.int .i64 0, .bool false] := hd 7 (by decide)
                have hM0 := hM
                rw [show f 8 = false from hfi (by decide)] at hM0
                have hM1 : JJ w L g n wr.heap.size #[.int .u8 ka, .int .i64 la, .int .i64 xa, .int .u8 da, .int .i64 na, .int .i64 ha6] u (pk R R1 (f 3)) R := hM0
                refine wpOp_step rfl fun KK hK => ?_
                simp only [h87, h89, h90] at hK ⊢
                go_simp
                with_reducible refine (jSetN hM1 HJO.out HRR.out.1 (by have := HRR.out; have := HM.out; omega) la r HER.out R1 HR1.out).mono ?_
                rintro e u' ⟨rfl, hM2⟩
                have hM' : ((fun f u => JJ w L g n wr.heap.size #[.int .u8 ka, .int .i64 la, .int .i64 xa, .int .u8 da, .int .i64 na, .int .i64 ha6] u (pk R R1 (f 3)) (pk R R1 (f 8))) : (Nat → Bool) → World → Prop) (Reg.mark f 8) u' := hM2
                exact hK _ _ ⟨_, rfl, fun _ => hM', fun h => absurd (by decide) h, fun d hd => by cases hd; exact rfl⟩
              · intro x f u hM hfi hfd hd
                have h86 : x 86 = .int .i64 r := hd 3 (by decide)
                have h91 : x 91 = .int .i64 r := hd 8 (by decide)
                refine wpOp_step rfl fun KK hK => ?_
                simp only [h86, h91] at hK ⊢
                go_simp
                exact hK _ _ ⟨_, rfl, fun h => absurd h (by decide), fun _ => rfl, fun d hd => by cases hd; exact rfl⟩
            · intro x u hM hall
              have h92 : x 92 = .bool false := hall 9 (by decide)
              have hM' : JJ w L g n wr.heap.size #[.int .u8 ka, .int .i64 la, .int .i64 xa, .int .u8 da, .int .i64 na, .int .i64 ha6] u R1 R1 := hM
              have HMM := Lib.hid hM'
              clear hM hM' hall
              simp only [Reg.frame, Reg.over, Nat.reduceAdd, Nat.reduceLeDiff, decide_true, decide_false, if_true, Bool.false_eq_true, if_false, Bool.and_true, Bool.and_false, h92]
              go_wp2_with fail
              go_meet
              exact ⟨R1, HL1'.out.1, HL1'.out.2, HMM.out⟩
          · have HRL := Lib.hid (show R.length ≤ 65535 by have := HRR.out; have := HM.out; omega)
            go_wp2_with (first
              | (go_at_call 14; (with_reducible refine (jEnd HJ.out HJO.out HRR.out.1 HRL.out).mono ?_); rintro e v1 ⟨rfl, h1⟩; have V1 := Lib.hid h1; clear h1)
              | (go_at_call 15; (with_reducible refine (jRefEnd V1.out HJO.out HRL.out (R ++ [noneW]) rfl).mono ?_); rintro e v2 ⟨rfl, h2⟩; have V2 := Lib.hid h2; clear h2))
            go_meet
            exact ⟨R ++ [noneW], by simp, by have := HRR.out; simp; omega, V2.out⟩
          · have HRL := Lib.hid (show R.length ≤ 65535 by have := HRR.out; have := HM.out; omega)
            go_wp2_with (first
              | (go_at_call 14; (with_reducible refine (jEnd HJ.out HJO.out HRR.out.1 HRL.out).mono ?_); rintro e v1 ⟨rfl, h1⟩; have V1 := Lib.hid h1; clear h1)
              | (go_at_call 15; (with_reducible refine (jRefEnd V1.out HJO.out HRL.out (R ++ [noneW]) rfl).mono ?_); rintro e v2 ⟨rfl, h2⟩; have V2 := Lib.hid h2; clear h2))
            go_meet
            exact ⟨R ++ [noneW], by simp, by have := HRR.out; simp; omega, V2.out⟩
          · have HRL := Lib.hid (show R.length ≤ 65535 by have := HRR.out; have := HM.out; omega)
            go_wp2_with (first
              | (go_at_call 14; (with_reducible refine (jEnd HJ.out HJO.out HRR.out.1 HRL.out).mono ?_); rintro e v1 ⟨rfl, h1⟩; have V1 := Lib.hid h1; clear h1)
              | (go_at_call 15; (with_reducible refine (jRefEnd V1.out HJO.out HRL.out (R ++ [noneW]) rfl).mono ?_); rintro e v2 ⟨rfl, h2⟩; have V2 := Lib.hid h2; clear h2))
            go_meet
            exact ⟨R ++ [noneW], by simp, by have := HRR.out; simp; omega, V2.out⟩
      case rest =>
        obtain ⟨R1, hR1, hRl, hJ1⟩ := hcut
        have HJ1 := Lib.hid hJ1
        have HRR1 := Lib.hid (show 0 < R1.length ∧ R1.length ≤ i + 2 ∧ R1.length ≤ 65536 by have := HM.out; omega)
        clear hR1 hRl hJ1 HJ HRR HKQ
        obtain ⟨y1, ey1⟩ : ∃ y, (hereW n (hR R1) da na ha6).getD 0 = y := ⟨_, rfl⟩
        obtain ⟨b1, eb1⟩ : ∃ y, (hereW n (hR R1) da na ha6).isSome = y := ⟨_, rfl⟩
        obtain ⟨y2, ey2⟩ : ∃ y, (givW n (gR R1) la).getD 0 = y := ⟨_, rfl⟩
        obtain ⟨b2, eb2⟩ : ∃ y, (givW n (gR R1) la).isSome = y := ⟨_, rfl⟩
        have Y1 := Lib.hid ey1
        have B1 := Lib.hid eb1
        have Y2 := Lib.hid ey2
        have B2 := Lib.hid eb2
        clear ey1 eb1 ey2 eb2
        have c3 := HJ1.out.blk.cell 3
        have c4 := HJ1.out.blk.cell 4
        have c5 := HJ1.out.blk.cell 5
        have cl := HJ1.out.blk.lt
        simp only [List.getElem?_toArray, List.getElem?_cons_zero, List.getElem?_cons_succ] at c3 c4 c5
        go_upto_region 28 with (first
          | (go_at_call 16; (with_reducible refine (jHere HJ1.out HJO.out da na ha6 HDB.out y1 b1 Y1.out B1.out).mono ?_); rintro e v1 ⟨rfl, h1⟩; have V1 := Lib.hid h1; clear h1; have c3 := V1.out.blk.cell 3; have c4 := V1.out.blk.cell 4; have c5 := V1.out.blk.cell 5; have cl := V1.out.blk.lt; simp only [List.getElem?_toArray, List.getElem?_cons_zero, List.getElem?_cons_succ] at c3 c4 c5)
          | (go_at_call 17; (with_reducible refine (jRefHere V1.out HRR1.out.1 HRR1.out.2.2 da na ha6 HDB.out y1 b1 Y1.out B1.out).mono ?_); rintro e v2 ⟨rfl, h2⟩; have V2 := Lib.hid h2; clear h2; have c1 := V2.out.blk.cell 1; have cl := V2.out.blk.lt; simp only [List.getElem?_toArray, List.getElem?_cons_zero, List.getElem?_cons_succ] at c1)
          | (go_at_call 18; (with_reducible refine (jGiven V2.out HJO.out la HLB.out y2 b2 Y2.out B2.out).mono ?_); rintro e v3 ⟨rfl, h3⟩; have V3 := Lib.hid h3; clear h3; have c1 := V3.out.blk.cell 1; have cl := V3.out.blk.lt; simp only [List.getElem?_toArray, List.getElem?_cons_zero, List.getElem?_cons_succ] at c1)
          | (go_at_call 19; (with_reducible refine (jRefGiven V3.out HJO.out HRR1.out.1 HRR1.out.2.2 la y2 b2 Y2.out B2.out).mono ?_); rintro e v4 ⟨rfl, h4⟩; have V4 := Lib.hid h4; clear h4))
        obtain ⟨tt, ett⟩ : ∃ tt, (R1.length : Int) - 1 = tt := ⟨_, rfl⟩
        have HTk := Lib.hid (fun k => jTicks (V4.out.on (below_same k)) tt ett)
        have hwl : IntKind.i64.wrap ((R1.length : Int) - 1) = tt := by rw [ett]; have := HRR1.out; exact IntWalk.i64_in _ (by omega)
        obtain ⟨rb4, A4, c4, hr4⟩ := V4.out.ref
        have z1 := hr4.blk.cell 1
        have zl := hr4.blk.lt
        simp only [List.getElem?_toArray, List.getElem?_cons_zero, List.getElem?_cons_succ] at z1
        obtain ⟨ll, ell⟩ : ∃ ll, ll = R1.length := ⟨_, rfl⟩
        rw [← ell] at z1 hwl
        clear ett ell hr4
        go_quiet ((go_at_call 20; exact Calls.quiet_of_same (HTk.out _)))
        go_wp2_with fail
        go_roundw
        case rel =>
          obtain ⟨rb5, A5, c5, hr5⟩ := (V4.out.on (below_same _)).ref
          exact ⟨i + 1, by omega, by go_num, Lib.hid ⟨R1, HRR1.out.1, HRR1.out.2.1, (V4.out.on (below_same _)).hold, rb5, A5, c5, hr5⟩⟩
        case measure => simp [intOf]; omega
    · have hdl : decide ((i : Int) < (m : Int)) = false := decide_eq_false (by omega)
      have hdn : decide (i < m) = false := decide_eq_false hlt
      obtain ⟨R, hR0, hRi, hB⟩ := HI.out
      have HV := Lib.hid (lives_wr wr hB.1.way)
      have HLOW := Lib.hid hB.1.low
      clear hlt hi hR0 hRi hB HI
      go_wp2_with (go_at_call 8; (with_reducible refine HV.out.mono ?_); rintro e v1 ⟨rfl, b1⟩)
      go_ret
      exact ⟨rfl, below_then HLOW.out b1⟩
theorem wiresRun_walk (x : Int) (A1 : Option Addr) (m c1 : Nat) (ss : List Ac) (w : World) (hw : Ways w) (hx : (Lit.int .i64 x).wf = true) (hl : LiesA w w.heap.size A1 m ss) :
    Calls Tryd.prog 3 #[.int .i64 x, .slice A1 m c1] w fun e w' => e = .returned (.bool true) ∧ Below w.heap.size w w' := by
  by_cases h1 : 300 < m
  · exact wiresRun_long x A1 m c1 w hw h1
  · by_cases h2 : 4 ≤ x ∧ x ≤ 16
    · obtain ⟨n, rfl⟩ : ∃ n : Nat, x = (n : Int) := ⟨x.toNat, by omega⟩
      exact wiresRun_main n A1 m c1 ss w hw hl (by omega) (by omega) (by omega)
    · exact wiresRun_bad x A1 m c1 w hw (by omega) h2
end Go.Proofs.YtgmoifbncijhdaaDoor
