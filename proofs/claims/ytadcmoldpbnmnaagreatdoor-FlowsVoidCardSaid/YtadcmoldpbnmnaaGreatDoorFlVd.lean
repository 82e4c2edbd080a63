/-
  The law FlowsVoid, walked: without a net there is no flow; one that is not there, that no call made, or that is in no slot, gives none, and hears nothing: true; nothing that was there has turned. Condition: both tables are as the program's text lays them.
-/
import Derived.Test.YtadcmoldpbnmnaaGreatDoorFlL
namespace Go.Proofs.YtadcmoldpbnmnaaGreatDoor
open Go.RowKit Rg
set_option linter.unusedVariables false

theorem elemNets : Tryz.prog.underlying 63 = some (.slice (Tryz.prog.elem 63)) := by kernel_rfl
theorem sizeNets (w : World) : (sizeOf (Tryz.prog.elem 63)).run Tryz.prog w = .ok 1 w := by kernel_rfl
theorem idxNets {A : Option Addr} {n : Nat} (c : Nat) {k b off : Nat} (hA : A = some ⟨b, off, none⟩) (hk : k < n) (w : World) :
    (Instr.indexAt 63 (.slice A n c) (.int .i64 (k : Int))).run Tryz.prog w = .ok (.pointer (some ⟨b, off + k, none⟩)) w := by
  subst hA
  rw [run_indexAt_slice (h := elemNets), if_pos (by omega), sizeNets]
  simp [Result.andThen, Addr.add_lit]
theorem idxFls {k : Nat} (b : Nat) (hk : k < 3) (w : World) :
    (Instr.indexAt 69 (.slice (some ⟨b, 0, none⟩) 3 3) (.int .i64 (k : Int))).run Tryz.prog w = .ok (.pointer (some ⟨b, k, none⟩)) w := by
  rw [run_indexAt_slice (h := elemFlp), if_pos (by omega), show (sizeOf (Tryz.prog.elem 69)).run Tryz.prog w = .ok 1 w by kernel_rfl]
  simp [Result.andThen, Addr.add_lit]
theorem Blk.sy4 {w : World} {g : Nat} {i0 i1 i2 i3 : Int} (h : Blk w g 53 #[.int .u8 i0, .int .u8 i1, .int .u8 i2, .int .u8 i3]) : w.cell? ⟨g, 0, none⟩ = some (.int .u8 i0) ∧ w.cell? ⟨g, 1, none⟩ = some (.int .u8 i1) ∧ w.cell? ⟨g, 2, none⟩ = some (.int .u8 i2) ∧ w.cell? ⟨g, 3, none⟩ = some (.int .u8 i3) ∧ g < w.heap.size :=
  ⟨(h.cell 0).trans rfl, (h.cell 1).trans rfl, (h.cell 2).trans rfl, (h.cell 3).trans rfl, h.lt⟩
theorem ins12_is (i0 i1 i2 i3 : Int) (w : World) :
    Calls Tryz.prog 12 #[.agg #[.int .u8 i0, .int .u8 i1, .int .u8 i2, .int .u8 i3]] w fun e w' => e = .returned (.agg #[.int .u8 i0, .int .u8 i1, .int .u8 i2, .int .u8 i3]) ∧ Below w.heap.size w w' := by
  have HB := Lib.hid (below_al (below_al (Below.refl w.heap.size w) (.cells #[.int .u8 i0, .int .u8 i1, .int .u8 i2, .int .u8 i3] 53)) (.cells #[.int .u8 i0, .int .u8 i1, .int .u8 i2, .int .u8 i3] 51))
  have HB2 := Lib.hid (below_al (below_al (Below.refl w.heap.size w) (.cells #[.int .u8 i0, .int .u8 i1, .int .u8 i2, .int .u8 i3] 53)) (.cells #[.int .u8 0, .int .u8 0, .int .u8 0, .int .u8 0] 51))
  go_enter Tryz.func12, Tryz.ntmps12
  go_wp2_with fail
  refine bodyPost_ret (v := .agg #[.int .u8 i0, .int .u8 i1, .int .u8 i2, .int .u8 i3]) (by simp [results, Tryz.results12, go_sem]) rfl ⟨rfl, ?_⟩
  first
    | exact HB.out
    | exact below_four HB2.out (by simp) _ _ _ _
theorem pay_zero (w : World) : (binOp .neq 40 (.agg #[.int .u8 0, .int .u8 0, .int .u32 0, .int .u32 0]) (.agg #[.int .u8 0, .int .u8 0, .int .u32 0, .int .u32 0])).run Tryz.prog w = .ok (.bool false) w := by kernel_rfl
theorem two_zero (w : World) : (binOp .neq 48 (.agg #[.int .u8 0, .int .u8 0]) (.agg #[.int .u8 0, .int .u8 0])).run Tryz.prog w = .ok (.bool false) w := by kernel_rfl
theorem bools_no (w : World) : (binOp .neq 57 (.agg #[.bool false, .bool false]) (.agg #[.bool false, .bool false])).run Tryz.prog w = .ok (.bool false) w := by kernel_rfl
section
variable {w : World}
theorem fl_none_heard (v : Value) (w : World) (h : NowF w v .no) : Calls Tryz.prog 14 #[v] w fun e w' => e = .returned (.tuple #[.agg #[.int .u8 0, .int .u8 0, .int .u32 0, .int .u32 0], .bool false]) ∧ Below w.heap.size w w' :=
  fHeard_of .no trivial catN catN rfl catC_none catC_none Fr.zero Fr.zero false false hiC_none hiC_none v w h Fr.zero rfl false rfl
theorem fl_none_high (v : Value) (w : World) (h : NowF w v .no) : Calls Tryz.prog 18 #[v] w fun e w' => e = .returned (.agg #[.bool false, .bool false]) ∧ Below w.heap.size w w' :=
  fHigh_of .no trivial catN catN rfl catC_none catC_none Fr.zero Fr.zero false false hiC_none hiC_none v w h
theorem fl_none_sent (v : Value) (w : World) (h : NowF w v .no) : Calls Tryz.prog 16 #[v] w fun e w' => e = .returned (.tuple #[.agg #[.int .u8 0, .int .u8 0, .int .u32 0, .int .u32 0], .bool false]) ∧ Below w.heap.size w w' :=
  fSent_is .no trivial (by simp [PSt.each, catN_len]) (fun v hv => by rcases List.mem_append.1 hv with q | q <;> exact catN_one v q) v w h Fr.zero false fun u hu => sends_mute _ u (.inl rfl)
/-- A flow that no call made, put in a slot: an error, and all is as it was. -/
theorem begin_zero {f B : Nat} {x q : Int} {a b : Sd} (h : FlowN w f B 0 [] x .no) (hw : Laid2 w) :
    Calls Tryz.prog 9 #[.pointer (some ⟨f, 0, none⟩), .int .i64 q, .agg #[.bool a.i, .int .i64 a.a, .int .u8 a.k, .int .u8 a.s, .int .u32 a.q, .int .u32 a.v], .agg #[.bool b.i, .int .i64 b.a, .int .u8 b.k, .int .u8 b.s, .int .u32 b.q, .int .u32 b.v]] w fun e w' => e = .returned (.int .i64 2) ∧ Below w.heap.size w w' := by
  refine (begin_bad (E := 2) (of_nil [] 0 q x).2 (by decide) h hw).mono fun e w' ⟨q1, _, u, q2, q3, q4⟩ => ⟨q1, ?_⟩
  obtain ⟨fb, c, k1, _⟩ := q3
  have k2 := Blk.set_ k1 19 .nilIface
  have e1 : (u.setCell ⟨f, 19, none⟩ .nilIface).heap[f]? = u.heap[f]? := k2.trans (Eq.trans (by rfl) k1.symm)
  have hk := But.one (u := u) (g := f) 19 .nilIface
  rw [← q4] at e1 hk
  refine ⟨hk.1.os.trans q2.os, hk.1.tape.trans q2.tape, hk.1.output.trans q2.output, Nat.le_trans q2.size hk.1.size, fun j hj => ?_⟩
  by_cases e2 : j = f
  · subst e2
    exact e1.trans (q2.block j hj)
  · exact (hk.2 j (Nat.lt_of_lt_of_le hj q2.size) e2).trans (q2.block j hj)
end
/-- What the law has made first. -/
structure Void0 (w : World) (x0 x1 x2 : Int) (o : Sd) (i0 i1 i2 i3 : Int) (u : World) : Prop where
  x : Blk u w.heap.size 60 #[.int .i64 x0, .int .i64 x1, .int .i64 x2]
  o : Blk u (w.heap.size + 1) 42 #[.bool o.i, .int .i64 o.a, .int .u8 o.k, .int .u8 o.s, .int .u32 o.q, .int .u32 o.v]
  i : Blk u (w.heap.size + 2) 53 #[.int .u8 i0, .int .u8 i1, .int .u8 i2, .int .u8 i3]
  n : Blk u (w.heap.size + 3) 62 #[.int .i64 zeroCf.N, .slice zeroCf.pA zeroCf.pn zeroCf.pc, .slice zeroCf.sA zeroCf.sn zeroCf.sc, .int .i64 zeroCf.L, .slice zeroCf.bA zeroCf.bn zeroCf.bc, .slice zeroCf.tA zeroCf.tn zeroCf.tc, .int .i64 zeroCf.M, .int .i64 zeroCf.G, .int .i64 zeroCf.F, .int .i64 zeroCf.N, .slice zeroCf.pA zeroCf.pn zeroCf.pc, .slice zeroCf.sA zeroCf.sn zeroCf.sc, .int .i64 zeroCf.L, .slice zeroCf.bA zeroCf.bn zeroCf.bc, .slice zeroCf.tA zeroCf.tn zeroCf.tc, .int .i64 zeroCf.M, .int .i64 zeroCf.G, .int .i64 zeroCf.F]
  v : Blk u (w.heap.size + 4) 27 #[.pointer none, .pointer (some ⟨w.heap.size + 3, 0, none⟩)]
  z : FlowN u (w.heap.size + 5) (w.heap.size + 5) 0 [] 0 .no
  b : Below w.heap.size w u
theorem Void0.on {w : World} {x0 x1 x2 : Int} {o : Sd} {i0 i1 i2 i3 : Int} {u u' : World} (h : Void0 w x0 x1 x2 o i0 i1 i2 i3 u) (hb : Below u.heap.size u u') : Void0 w x0 x1 x2 o i0 i1 i2 i3 u' :=
  ⟨h.x.on hb, h.o.on hb, h.i.on hb, h.n.on hb, h.v.on hb, h.z.on hb, below_then h.b hb⟩
theorem Blk.newAt {w : World} {t : TypeId} {cs : Array Value} {g : Nat} (hg : g = w.heap.size) : Blk (w.alloc (.cells cs t)) g t cs := by subst hg; exact Blk.new w t cs
theorem void0_of (w : World) (x0 x1 x2 : Int) (o : Sd) (i0 i1 i2 i3 : Int) : Void0 w x0 x1 x2 o i0 i1 i2 i3 ((((((w.alloc (.cells #[.int .i64 x0, .int .i64 x1, .int .i64 x2] 60)).alloc (.cells #[.bool o.i, .int .i64 o.a, .int .u8 o.k, .int .u8 o.s, .int .u32 o.q, .int .u32 o.v] 42)).alloc (.cells #[.int .u8 i0, .int .u8 i1, .int .u8 i2, .int .u8 i3] 53)).alloc (.cells #[.int .i64 zeroCf.N, .slice zeroCf.pA zeroCf.pn zeroCf.pc, .slice zeroCf.sA zeroCf.sn zeroCf.sc, .int .i64 zeroCf.L, .slice zeroCf.bA zeroCf.bn zeroCf.bc, .slice zeroCf.tA zeroCf.tn zeroCf.tc, .int .i64 zeroCf.M, .int .i64 zeroCf.G, .int .i64 zeroCf.F, .int .i64 zeroCf.N, .slice zeroCf.pA zeroCf.pn zeroCf.pc, .slice zeroCf.sA zeroCf.sn zeroCf.sc, .int .i64 zeroCf.L, .slice zeroCf.bA zeroCf.bn zeroCf.bc, .slice zeroCf.tA zeroCf.tn zeroCf.tc, .int .i64 zeroCf.M, .int .i64 zeroCf.G, .int .i64 zeroCf.F] 62)).alloc (.cells #[.pointer none, .pointer (some ⟨w.heap.size + 3, 0, none⟩)] 27)).alloc (.cells #[.int .i64 zeroCf.N, .slice zeroCf.pA zeroCf.pn zeroCf.pc, .slice zeroCf.sA zeroCf.sn zeroCf.sc, .int .i64 zeroCf.L, .slice zeroCf.bA zeroCf.bn zeroCf.bc, .slice zeroCf.tA zeroCf.tn zeroCf.tc, .int .i64 zeroCf.M, .int .i64 zeroCf.G, .int .i64 zeroCf.F, .int .i64 zeroCf.N, .slice zeroCf.pA zeroCf.pn zeroCf.pc, .slice zeroCf.sA zeroCf.sn zeroCf.sc, .int .i64 zeroCf.L, .slice zeroCf.bA zeroCf.bn zeroCf.bc, .slice zeroCf.tA zeroCf.tn zeroCf.tc, .int .i64 zeroCf.M, .int .i64 zeroCf.G, .int .i64 zeroCf.F, .int .i64 0, .nilIface] 67)) where
  x := ((((Blk.new w _ _).alloc _).alloc _).alloc _).alloc _ |>.alloc _
  o := ((((Blk.newAt (by simp)).alloc _).alloc _).alloc _).alloc _
  i := (((Blk.newAt (by simp)).alloc _).alloc _).alloc _
  n := ((Blk.newAt (by simp)).alloc _).alloc _
  v := (Blk.newAt (by simp)).alloc _
  z := ⟨zeroCf, zeroCf, Blk.newAt (by simp), ⟨Lies.nil_, Lies.nil_, Lies.nil_, LiesT.nil_, by simp [zeroCf]⟩, rfl, rfl, .inl rfl, Nat.le_refl _⟩
  b := below_al (below_al (below_al (below_al (below_al (below_al (Below.refl _ _) _) _) _) _) _) _

set_option maxRecDepth 100000 in
set_option maxHeartbeats 4000000 in
theorem flowsVoid_walk (x0 x1 x2 : Int) (o : Sd) (i0 i1 i2 i3 : Int) (w : World) (hw : Laid2 w) :
    Calls Tryz.prog 4 #[.agg #[.int .i64 x0, .int .i64 x1, .int .i64 x2], .agg #[.bool o.i, .int .i64 o.a, .int .u8 o.k, .int .u8 o.s, .int .u32 o.q, .int .u32 o.v], .agg #[.int .u8 i0, .int .u8 i1, .int .u8 i2, .int .u8 i3]] w fun e w' => e = .returned (.bool true) ∧ Below w.heap.size w w' := by
  have HW := Lib.hid hw
  have HOE := Lib.hid (of_nil [] 0 0 x0).2
  have HV0 := Lib.hid (void0_of w x0 x1 x2 o i0 i1 i2 i3)
  clear hw
  go_enter Tryz.func4, Tryz.ntmps4
  go_upto_region 4 with fail
  refine wp_at (fun U => Hid (Void0 w x0 x1 x2 o i0 i1 i2 i3 U)) HV0 ?_
  clear HV0
  intro U HV0
  have HWU := Lib.hid (HW.out.on HV0.out.b)
  go_upto_region 6 with (first
    | (go_at_call 20; (with_reducible refine (net12_is _ HWU.out).mono ?_); rintro e w2 ⟨gN, rfl, hN, -, b2⟩; have HB2 := Lib.hid b2; have HNN := Lib.hid hN; clear b2 hN)
    | (go_at_call 7; (with_reducible refine (fNew_yes gN w2.heap.size 4 [0, 2] 1 rfl _ (NetQ.of HNN.out) (HWU.out.on HB2.out)).mono ?_); rintro e w3 ⟨f, rfl, -, hF, b3⟩; have HF3 := Lib.hid hF; have HB3 := Lib.hid (below_then HB2.out b3); clear b3 hF))
  obtain ⟨gl, hgl⟩ : ∃ g, g = w3.heap.size := ⟨_, rfl⟩
  have HL4 := Lib.hid (Blk.new w3 30 #[.pointer none, .pointer (some ⟨w.heap.size + 5, 0, none⟩), .pointer (some ⟨f, 0, none⟩)])
  rw [← hgl] at HL4 ⊢
  have HB4 := Lib.hid (below_al (Below.refl w3.heap.size w3) (.cells #[.pointer none, .pointer (some ⟨w.heap.size + 5, 0, none⟩), .pointer (some ⟨f, 0, none⟩)] 30))
  have HF4 := Lib.hid (HF3.out.on HB4.out)
  have HV4 := Lib.hid ((HV0.out.on HB3.out).on HB4.out)
  clear hgl HB4 HF3 HB3 HNN HB2 HV0 HWU
  refine wp_at (fun U => Hid (Void0 w x0 x1 x2 o i0 i1 i2 i3 U) ∧ Hid (FlowN U f w2.heap.size 4 [0, 2] 1 .no) ∧ Hid (Blk U gl 30 #[.pointer none, .pointer (some ⟨w.heap.size + 5, 0, none⟩), .pointer (some ⟨f, 0, none⟩)])) ⟨HV4, HF4, HL4⟩ ?_
  clear HV4 HF4 HL4
  rintro U4 ⟨HV4, HF4, HL4⟩
  obtain ⟨Bf, hBf⟩ : ∃ b, b = w2.heap.size := ⟨_, rfl⟩
  rw [← hBf] at HF4
  clear hBf
  go_wp2_with fail
  go_loopw [13] (fun s13 wr => ∃ k : Nat, k ≤ 2 ∧ s13 = .int .i64 k ∧ Hid (Void0 w x0 x1 x2 o i0 i1 i2 i3 wr) ∧ Hid (FlowN wr f Bf 4 [0, 2] 1 .no) ∧ Hid (Blk wr gl 30 #[.pointer none, .pointer (some ⟨w.heap.size + 5, 0, none⟩), .pointer (some ⟨f, 0, none⟩)])) (fun s13 _ => 2 - (intOf s13).toNat)
  case atStart => exact ⟨0, by omega, rfl, HV4, HF4, HL4⟩
  case round =>
    clear HV4 HF4 HL4
    obtain ⟨k, hk, rfl, HV1, HF1, HL1⟩ := hrel
    have HW1 := Lib.hid (HW.out.on HV1.out.b)
    by_cases hlt : k < 2
    · obtain ⟨v, hv, hn⟩ : ∃ v, wr.cell? ⟨w.heap.size + 4, k, none⟩ = some v ∧ NetP wr v 0 [] := by
        rcases (show k = 0 ∨ k = 1 by omega) with rfl | rfl
        · exact ⟨_, HV1.out.v.cell 0, zeroCf, .inl ⟨rfl, rfl⟩, rfl, rfl, .inl rfl⟩
        · exact ⟨_, HV1.out.v.cell 1, zeroCf, .inr ⟨_, zeroCf, rfl, ⟨_, [], HV1.out.n⟩, zero_in wr⟩, rfl, rfl, .inl rfl⟩
      obtain ⟨fv, hfv, hbg⟩ : ∃ fv, wr.cell? ⟨gl, k, none⟩ = some fv ∧ ∀ u, Below wr.heap.size wr u → Calls Tryz.prog 9 #[fv, .int .i64 x1, .agg #[.bool o.i, .int .i64 o.a, .int .u8 o.k, .int .u8 o.s, .int .u32 o.q, .int .u32 o.v], .agg #[.bool o.i, .int .i64 o.a, .int .u8 o.k, .int .u8 o.s, .int .u32 o.q, .int .u32 o.v]] u fun e w' => e = .returned (.int .i64 2) ∧ Below u.heap.size u w' := by
        rcases (show k = 0 ∨ k = 1 by omega) with rfl | rfl
        · exact ⟨_, HL1.out.cell 0, fun u hu => begin_nil x1 o o u⟩
        · exact ⟨_, HL1.out.cell 1, fun u hu => begin_zero (HV1.out.z.on hu) (HW1.out.on hu)⟩
      have hix := fun W => idxNets (n := 2) 2 (b := w.heap.size + 4) (off := 0) rfl hlt W
      have hif := fun W => idxFls (k := k) gl (by omega) W
      simp only [Nat.zero_add] at hix
      have HVC := Lib.hid hv
      have HVL := Lib.hid HV1.out.v.lt
      have HFC := Lib.hid hfv
      have HFL := Lib.hid HL1.out.lt
      have HN1 := Lib.hid hn
      have HBG := Lib.hid hbg
      have HKT := Lib.hid hlt
      clear hn hv hfv hbg hk
      have hkd : decide ((k : Int) < 2) = true := decide_eq_true (by omega)
      have hwk : IntKind.i64.wrap ((k : Int) + 1) = ((k + 1 : Nat) : Int) := by rw [IntWalk.i64_in _ (by omega)]; omega
      clear hlt
      go_wp2_with fail
      refine Reg.wp_slots (fun t => t == 14 || t == 15 || (decide (33 ≤ t) && decide (t ≤ 42))) (by kernel_rfl) (by kernel_rfl) (by kernel_rfl) (fun zz => (Reg.tbl [
        (34, .is (.slice (some ⟨w.heap.size + 4, 0, none⟩) 2 2)),
        (35, .is (.int .i64 k)),
        (36, .is (.pointer (some ⟨w.heap.size + 4, k, none⟩))),
        (37, .is (v)),
        (38, .is (.pointer (some ⟨w.heap.size, 0, none⟩))),
        (39, .is (.int .i64 x0)),
        (40, .is (.tuple #[.pointer none, .int .i64 2])),
        (33, .is (.tuple #[.pointer none, .int .i64 2])),
        (41, .is (.pointer none)),
        (42, .is (.int .i64 2)),
        (14, .is (.pointer none)),
        (15, .is (.int .i64 2))] zz).P) (fun zz => (Reg.tbl _ zz).on) ?_ ?_
      · simp only [Reg.frame, Reg.over, Nat.reduceAdd, Nat.reduceBEq, Nat.reduceLeDiff, decide_true, decide_false, Bool.or_true, Bool.or_false, if_true, Bool.false_eq_true, if_false, Bool.and_true, Bool.and_false]
        refine ⟨?_, ?_, ?_, ?_, ?_, ?_, ?_, ?_, ?_, ?_, ?_, ?_, trivial⟩
        · intro x u hbu hd
          refine wpOp_step rfl fun K hK => ?_
          go_simp
          exact hK _ _ ⟨_, rfl, Below.refl _ _, fun d hd => by cases hd; exact rfl⟩
        · intro x u hbu hd
          refine wpOp_step rfl fun K hK => ?_
          go_simp
          exact hK _ _ ⟨_, rfl, Below.refl _ _, fun d hd => by cases hd; exact rfl⟩
        · intro x u hbu hd
          have h34 : x 34 = .slice (some ⟨w.heap.size + 4, 0, none⟩) 2 2 := hd 0 (by decide)
          have h35 : x 35 = .int .i64 k := hd 1 (by decide)
          refine wpOp_step rfl fun K hK => ?_
          simp only [h34, h35] at hK ⊢
          go_simp
          exact hK _ _ ⟨_, rfl, Below.refl _ _, fun d hd => by cases hd; exact rfl⟩
        · intro x u hbu hd
          have h36 : x 36 = .pointer (some ⟨w.heap.size + 4, k, none⟩) := hd 2 (by decide)
          have hv := (hbu.cell (p := ⟨w.heap.size + 4, k, none⟩) HVL.out).trans HVC.out
          refine wpOp_step rfl fun K hK => ?_
          simp only [h36] at hK ⊢
          go_simp
          exact hK _ _ ⟨_, rfl, Below.refl _ _, fun d hd => by cases hd; exact rfl⟩
        · intro x u hbu hd
          refine wpOp_step rfl fun K hK => ?_
          go_simp
          exact hK _ _ ⟨_, rfl, Below.refl _ _, fun d hd => by cases hd; exact rfl⟩
        · intro x u hbu hd
          have h38 : x 38 = .pointer (some ⟨w.heap.size, 0, none⟩) := hd 4 (by decide)
          have xc := ((HV1.out.x.on hbu).cell 0).trans rfl
          have xl := (HV1.out.x.on hbu).lt
          refine wpOp_step rfl fun K hK => ?_
          simp only [h38] at hK ⊢
          go_simp
          exact hK _ _ ⟨_, rfl, Below.refl _ _, fun d hd => by cases hd; exact rfl⟩
        · intro x u hbu hd
          have h37 : x 37 = v := hd 3 (by decide)
          have h39 : x 39 = .int .i64 x0 := hd 5 (by decide)
          refine wpOp_step rfl fun K hK => ?_
          simp only [h37, h39] at hK ⊢
          go_simp
          with_reducible refine (fNew_no v 0 [] x0 2 HOE.out (by decide) _ (HN1.out.on hbu) (HW1.out.on hbu)).mono ?_
          rintro e u' ⟨rfl, hb'⟩
          exact hK _ _ ⟨_, rfl, hb', fun d hd => by cases hd; exact rfl⟩
        · intro x u hbu hd
          have h40 : x 40 = .tuple #[.pointer none, .int .i64 2] := hd 6 (by decide)
          refine wpOp_step rfl fun K hK => ?_
          simp only [h40] at hK ⊢
          go_simp
          exact hK _ _ ⟨_, rfl, Below.refl _ _, fun d hd => by cases hd; exact rfl⟩
        · intro x u hbu hd
          have h33 : x 33 = .tuple #[.pointer none, .int .i64 2] := hd 7 (by decide)
          refine wpOp_step rfl fun K hK => ?_
          simp only [h33] at hK ⊢
          go_simp
          exact hK _ _ ⟨_, rfl, Below.refl _ _, fun d hd => by cases hd; exact rfl⟩
        · intro x u hbu hd
          have h33 : x 33 = .tuple #[.pointer none, .int .i64 2] := hd 7 (by decide)
          refine wpOp_step rfl fun K hK => ?_
          simp only [h33] at hK ⊢
          go_simp
          exact hK _ _ ⟨_, rfl, Below.refl _ _, fun d hd => by cases hd; exact rfl⟩
        · intro x u hbu hd
          have h41 : x 41 = .pointer none := hd 8 (by decide)
          refine wpOp_step rfl fun K hK => ?_
          simp only [h41] at hK ⊢
          go_simp
          exact hK _ _ ⟨_, rfl, Below.refl _ _, fun d hd => by cases hd; exact rfl⟩
        · intro x u hbu hd
          have h42 : x 42 = .int .i64 2 := hd 9 (by decide)
          refine wpOp_step rfl fun K hK => ?_
          simp only [h42] at hK ⊢
          go_simp
          exact hK _ _ ⟨_, rfl, Below.refl _ _, fun d hd => by cases hd; exact rfl⟩
      · intro y u2 hbu hall
        have h14 : y 14 = .pointer none := hall 10 (by decide)
        have h15 : y 15 = .int .i64 2 := hall 11 (by decide)
        simp only [Reg.frame, Reg.over, Nat.reduceAdd, Nat.reduceBEq, Nat.reduceLeDiff, decide_true, decide_false, Bool.or_true, Bool.or_false, if_true, Bool.false_eq_true, if_false, Bool.and_true, Bool.and_false, h14, h15]
        have HA1 := Lib.hid hbu
        clear hbu hall h14 h15 hix
        go_wp2_with fail
        refine Reg.wp_slots (fun t => decide (43 ≤ t) && decide (t ≤ 60)) (by kernel_rfl) (by kernel_rfl) (by kernel_rfl) (fun zz => (Reg.tbl [
          (43, .is (.pointer none)),
          (44, .is (.bool false)),
          (45, .is (.bool false)),
          (46, .is (.int .i64 2)),
          (47, .is (.bool false)),
          (48, .is (.bool false)),
          (49, .is (.bool false)),
          (50, .is (.slice (some ⟨gl, 0, none⟩) 3 3)),
          (51, .is (.int .i64 k)),
          (52, .is (.pointer (some ⟨gl, k, none⟩))),
          (53, .is (fv)),
          (54, .is (.pointer (some ⟨w.heap.size, 1, none⟩))),
          (55, .is (.int .i64 x1)),
          (56, .is (.agg #[.bool o.i, .int .i64 o.a, .int .u8 o.k, .int .u8 o.s, .int .u32 o.q, .int .u32 o.v])),
          (57, .is (.agg #[.bool o.i, .int .i64 o.a, .int .u8 o.k, .int .u8 o.s, .int .u32 o.q, .int .u32 o.v])),
          (58, .is (.int .i64 2)),
          (59, .is (.bool false)),
          (60, .is (.bool false))] zz).P) (fun zz => (Reg.tbl _ zz).on) ?_ ?_
        · simp only [Reg.frame, Reg.over, Nat.reduceAdd, Nat.reduceLeDiff, decide_true, decide_false, if_true, Bool.false_eq_true, if_false, Bool.and_true, Bool.and_false]
          refine ⟨?_, ?_, ?_, ?_, ?_, ?_, ?_, ?_, ?_, ?_, ?_, ?_, ?_, ?_, ?_, ?_, ?_, ?_, trivial⟩
          · intro x u hbu hd
            refine wpOp_step rfl fun K hK => ?_
            go_simp
            exact hK _ _ ⟨_, rfl, Below.refl _ _, fun d hd => by cases hd; exact rfl⟩
          · intro x u hbu hd
            have h43 : x 43 = .pointer none := hd 0 (by decide)
            refine wpOp_step rfl fun K hK => ?_
            simp only [h43] at hK ⊢
            go_simp
            exact hK _ _ ⟨_, rfl, Below.refl _ _, fun d hd => by cases hd; exact rfl⟩
          · intro x u hbu hd
            have h44 : x 44 = .bool false := hd 1 (by decide)
            refine wpOp_step rfl fun K hK => ?_
            simp only [h44] at hK ⊢
            go_simp
            exact hK _ _ ⟨_, rfl, Below.refl _ _, fun d hd => by cases hd; exact rfl⟩
          · intro x u hbu hd
            have h45 : x 45 = .bool false := hd 2 (by decide)
            refine wpOp_step rfl fun K hK => ?_
            simp only [h45] at hK ⊢
            go_simp
            exact hK _ _ ⟨_, rfl, Below.refl _ _, fun d hd => by cases hd; exact rfl⟩
          · intro x u hbu hd
            have h46 : x 46 = .int .i64 2 := hd 3 (by decide)
            have h45 : x 45 = .bool false := hd 2 (by decide)
            refine wpOp_step rfl fun K hK => ?_
            simp only [h46, h45] at hK ⊢
            go_simp
            exact hK _ _ ⟨_, rfl, Below.refl _ _, fun d hd => by cases hd; exact rfl⟩
          · intro x u hbu hd
            have h45 : x 45 = .bool false := hd 2 (by decide)
            have h47 : x 47 = .bool false := hd 4 (by decide)
            refine wpOp_step rfl fun K hK => ?_
            simp only [h45, h47] at hK ⊢
            go_simp
            exact hK _ _ ⟨_, rfl, Below.refl _ _, fun d hd => by cases hd; exact rfl⟩
          · intro x u hbu hd
            have h48 : x 48 = .bool false := hd 5 (by decide)
            refine wpOp_step rfl fun K hK => ?_
            simp only [h48] at hK ⊢
            go_simp
            exact hK _ _ ⟨_, rfl, Below.refl _ _, fun d hd => by cases hd; exact rfl⟩
          · intro x u hbu hd
            have h49 : x 49 = .bool false := hd 6 (by decide)
            refine wpOp_step rfl fun K hK => ?_
            simp only [h49] at hK ⊢
            go_simp
            exact hK _ _ ⟨_, rfl, Below.refl _ _, fun d hd => by cases hd; exact rfl⟩
          · intro x u hbu hd
            have h49 : x 49 = .bool false := hd 6 (by decide)
            refine wpOp_step rfl fun K hK => ?_
            simp only [h49] at hK ⊢
            go_simp
            exact hK _ _ ⟨_, rfl, Below.refl _ _, fun d hd => by cases hd; exact rfl⟩
          · intro x u hbu hd
            have h50 : x 50 = .slice (some ⟨gl, 0, none⟩) 3 3 := hd 7 (by decide)
            have h51 : x 51 = .int .i64 k := hd 8 (by decide)
            have h49 : x 49 = .bool false := hd 6 (by decide)
            refine wpOp_step rfl fun K hK => ?_
            simp only [h50, h51, h49] at hK ⊢
            go_simp
            exact hK _ _ ⟨_, rfl, Below.refl _ _, fun d hd => by cases hd; exact rfl⟩
          · intro x u hbu hd
            have h52 : x 52 = .pointer (some ⟨gl, k, none⟩) := hd 9 (by decide)
            have h49 : x 49 = .bool false := hd 6 (by decide)
            have hv := ((below_then HA1.out hbu).cell (p := ⟨gl, k, none⟩) HFL.out).trans HFC.out
            refine wpOp_step rfl fun K hK => ?_
            simp only [h52, h49] at hK ⊢
            go_simp
            exact hK _ _ ⟨_, rfl, Below.refl _ _, fun d hd => by cases hd; exact rfl⟩
          · intro x u hbu hd
            have h49 : x 49 = .bool false := hd 6 (by decide)
            refine wpOp_step rfl fun K hK => ?_
            simp only [h49] at hK ⊢
            go_simp
            exact hK _ _ ⟨_, rfl, Below.refl _ _, fun d hd => by cases hd; exact rfl⟩
          · intro x u hbu hd
            have h54 : x 54 = .pointer (some ⟨w.heap.size, 1, none⟩) := hd 11 (by decide)
            have h49 : x 49 = .bool false := hd 6 (by decide)
            have xc := (((HV1.out.on HA1.out).x.on hbu).cell 1).trans rfl
            have xl := ((HV1.out.on HA1.out).x.on hbu).lt
            refine wpOp_step rfl fun K hK => ?_
            simp only [h54, h49] at hK ⊢
            go_simp
            exact hK _ _ ⟨_, rfl, Below.refl _ _, fun d hd => by cases hd; exact rfl⟩
          · intro x u hbu hd
            have h49 : x 49 = .bool false := hd 6 (by decide)
            obtain ⟨o0, o1, o2, o3, o4, o5, ol⟩ := ((HV1.out.on HA1.out).o.on hbu).sd
            refine wpOp_step rfl fun K hK => ?_
            simp only [h49] at hK ⊢
            go_simp
            exact hK _ _ ⟨_, rfl, Below.refl _ _, fun d hd => by cases hd; exact rfl⟩
          · intro x u hbu hd
            have h49 : x 49 = .bool false := hd 6 (by decide)
            obtain ⟨o0, o1, o2, o3, o4, o5, ol⟩ := ((HV1.out.on HA1.out).o.on hbu).sd
            refine wpOp_step rfl fun K hK => ?_
            simp only [h49] at hK ⊢
            go_simp
            exact hK _ _ ⟨_, rfl, Below.refl _ _, fun d hd => by cases hd; exact rfl⟩
          · intro x u hbu hd
            have h53 : x 53 = fv := hd 10 (by decide)
            have h55 : x 55 = .int .i64 x1 := hd 12 (by decide)
            have h56 : x 56 = .agg #[.bool o.i, .int .i64 o.a, .int .u8 o.k, .int .u8 o.s, .int .u32 o.q, .int .u32 o.v] := hd 13 (by decide)
            have h57 : x 57 = .agg #[.bool o.i, .int .i64 o.a, .int .u8 o.k, .int .u8 o.s, .int .u32 o.q, .int .u32 o.v] := hd 14 (by decide)
            have h49 : x 49 = .bool false := hd 6 (by decide)
            refine wpOp_step rfl fun K hK => ?_
            simp only [h53, h55, h56, h57, h49] at hK ⊢
            go_simp
            with_reducible refine (HBG.out _ (below_then HA1.out hbu)).mono ?_
            rintro e u' ⟨rfl, hb'⟩
            exact hK _ _ ⟨_, rfl, hb', fun d hd => by cases hd; exact rfl⟩
          · intro x u hbu hd
            have h58 : x 58 = .int .i64 2 := hd 15 (by decide)
            have h49 : x 49 = .bool false := hd 6 (by decide)
            refine wpOp_step rfl fun K hK => ?_
            simp only [h58, h49] at hK ⊢
            go_simp
            exact hK _ _ ⟨_, rfl, Below.refl _ _, fun d hd => by cases hd; exact rfl⟩
          · intro x u hbu hd
            have h49 : x 49 = .bool false := hd 6 (by decide)
            have h59 : x 59 = .bool false := hd 16 (by decide)
            refine wpOp_step rfl fun K hK => ?_
            simp only [h49, h59] at hK ⊢
            go_simp
            exact hK _ _ ⟨_, rfl, Below.refl _ _, fun d hd => by cases hd; exact rfl⟩
        · intro z u3 hbu hall
          have h60 : z 60 = .bool false := hall 17 (by decide)
          simp only [Reg.frame, Reg.over, Nat.reduceAdd, Nat.reduceLeDiff, decide_true, decide_false, if_true, Bool.false_eq_true, if_false, Bool.and_true, Bool.and_false, h60]
          have HA2 := Lib.hid (below_then HA1.out hbu)
          clear hbu hall h60
          go_wp2_with fail
          go_roundw
          case rel => exact ⟨k + 1, by have := HKT.out; omega, rfl, Lib.hid (HV1.out.on HA2.out), Lib.hid (HF1.out.on HA2.out), Lib.hid (HL1.out.on HA2.out)⟩
          case measure => have := HKT.out; simp [intOf]; omega
    · obtain rfl : k = 2 := by omega
      clear hlt hk HW1
      go_wp2_with fail
      go_loopw [16] (fun s16 wr => ∃ k : Nat, k ≤ 3 ∧ s16 = .int .i64 k ∧ Hid (Void0 w x0 x1 x2 o i0 i1 i2 i3 wr) ∧ Hid (FlowN wr f Bf 4 [0, 2] 1 .no) ∧ Hid (Blk wr gl 30 #[.pointer none, .pointer (some ⟨w.heap.size + 5, 0, none⟩), .pointer (some ⟨f, 0, none⟩)])) (fun s16 _ => 3 - (intOf s16).toNat)
      case atStart => exact ⟨0, by omega, rfl, HV1, HF1, HL1⟩
      case round =>
        clear HV1 HF1 HL1
        obtain ⟨k, hk, rfl, HV1, HF1, HL1⟩ := hrel
        by_cases hlt : k < 3
        · obtain ⟨fv, hfv, hnw⟩ : ∃ fv, wr.cell? ⟨gl, k, none⟩ = some fv ∧ NowF wr fv .no := by
            rcases (show k = 0 ∨ k = 1 ∨ k = 2 by omega) with rfl | rfl | rfl
            · exact ⟨_, HL1.out.cell 0, .inl ⟨rfl, rfl⟩⟩
            · exact ⟨_, HL1.out.cell 1, HV1.out.z.now⟩
            · exact ⟨_, HL1.out.cell 2, HF1.out.now⟩
          have hif := fun W => idxFls (k := k) gl hlt W
          have hfl := HL1.out.lt
          have HFC := Lib.hid hfv
          have HFL := Lib.hid hfl
          have HN1 := Lib.hid hnw
          have HKT := Lib.hid hlt
          have hkd : decide ((k : Int) < 3) = true := decide_eq_true (by omega)
          have hwk : IntKind.i64.wrap ((k : Int) + 1) = ((k + 1 : Nat) : Int) := by rw [IntWalk.i64_in _ (by omega)]; omega
          have q1 := pay_zero
          have q2 := two_zero
          have q3 := bools_no
          clear hnw hk hlt
          go_upto_region 17 with (first
            | (go_at_call 14; (with_reducible refine (fl_none_heard fv _ HN1.out).mono ?_); rintro e w4 ⟨rfl, b4⟩; have HB4 := Lib.hid (below_al b4 (.cells #[.int .u8 0, .int .u8 0, .int .u32 0, .int .u32 0] 40)); have HP1 := Lib.hid (Blk.new w4 40 #[.int .u8 0, .int .u8 0, .int .u32 0, .int .u32 0]); have hfw := below_cell HB4.out HFC.out; have hlw := cell_lt' hfw; clear b4 hfv hfl)
            | (go_at_call 16; (with_reducible refine (fl_none_sent fv _ (HN1.out.on HB4.out)).mono ?_); rintro e w5 ⟨rfl, b5⟩; have HB5 := Lib.hid (below_al b5 (.cells #[.int .u8 0, .int .u8 0, .int .u32 0, .int .u32 0] 40)); have HP2 := Lib.hid (Blk.new w5 40 #[.int .u8 0, .int .u8 0, .int .u32 0, .int .u32 0]); clear b5 hfw hlw))
          have HB45 := Lib.hid (below_then HB4.out HB5.out)
          have HP1 := Lib.hid (HP1.out.on HB5.out)
          have HFC2 := Lib.hid (below_cell HB45.out HFC.out)
          have HFL2 := Lib.hid (cell_lt' HFC2.out)
          have HNW := Lib.hid (HN1.out.on HB45.out)
          have HV2 := Lib.hid (HV1.out.on HB45.out)
          clear HFC HFL HN1 HB4 HB5
          refine Reg.wp_slots (fun t => decide (81 ≤ t) && decide (t ≤ 116)) (by kernel_rfl) (by kernel_rfl) (by kernel_rfl) (fun zz => (Reg.tbl [
            (81, .is (.slice (some ⟨gl, 0, none⟩) 3 3)),
            (82, .is (.int .i64 k)),
            (83, .is (.pointer (some ⟨gl, k, none⟩))),
            (84, .is (fv)),
            (85, .is (.pointer (some ⟨w.heap.size, 2, none⟩))),
            (86, .is (.int .i64 x2)),
            (87, .is (.agg #[.int .u8 i0, .int .u8 i1, .int .u8 i2, .int .u8 i3])),
            (88, .is (.agg #[.int .u8 i0, .int .u8 i1, .int .u8 i2, .int .u8 i3])),
            (89, .is (.agg #[.int .u8 0, .int .u8 0])),
            (90, .is (.agg #[.int .u8 0, .int .u8 0])),
            (91, .is (.bool false)),
            (92, .is (.bool false)),
            (93, .is (.bool false)),
            (94, .is (.bool false)),
            (95, .is (.bool false)),
            (96, .is (.bool false)),
            (97, .is (.bool false)),
            (98, .is (.bool false)),
            (99, .is (.agg #[.int .u8 0, .int .u8 0, .int .u32 0, .int .u32 0])),
            (100, .is (.agg #[.int .u8 0, .int .u8 0, .int .u32 0, .int .u32 0])),
            (101, .is (.bool false)),
            (102, .is (.bool false)),
            (103, .is (.bool false)),
            (104, .is (.agg #[.int .u8 0, .int .u8 0, .int .u32 0, .int .u32 0])),
            (105, .is (.agg #[.int .u8 0, .int .u8 0, .int .u32 0, .int .u32 0])),
            (106, .is (.bool false)),
            (107, .is (.bool false)),
            (108, .is (.bool false)),
            (109, .is (.slice (some ⟨gl, 0, none⟩) 3 3)),
            (110, .is (.int .i64 k)),
            (111, .is (.pointer (some ⟨gl, k, none⟩))),
            (112, .is (fv)),
            (113, .is (.agg #[.bool false, .bool false])),
            (114, .is (.agg #[.bool false, .bool false])),
            (115, .is (.bool false)),
            (116, .is (.bool false))] zz).P) (fun zz => (Reg.tbl _ zz).on) ?_ ?_
          · simp only [Reg.frame, Reg.over, Nat.reduceAdd, Nat.reduceLeDiff, decide_true, decide_false, if_true, Bool.false_eq_true, if_false, Bool.and_true, Bool.and_false]
            refine ⟨?_, ?_, ?_, ?_, ?_, ?_, ?_, ?_, ?_, ?_, ?_, ?_, ?_, ?_, ?_, ?_, ?_, ?_, ?_, ?_, ?_, ?_, ?_, ?_, ?_, ?_, ?_, ?_, ?_, ?_, ?_, ?_, ?_, ?_, ?_, ?_, trivial⟩
            · intro x u hbu hd
              refine wpOp_step rfl fun K hK => ?_
              go_simp
              exact hK _ _ ⟨_, rfl, Below.refl _ _, fun d hd => by cases hd; exact rfl⟩
            · intro x u hbu hd
              refine wpOp_step rfl fun K hK => ?_
              go_simp
              exact hK _ _ ⟨_, rfl, Below.refl _ _, fun d hd => by cases hd; exact rfl⟩
            · intro x u hbu hd
              have h81 : x 81 = .slice (some ⟨gl, 0, none⟩) 3 3 := hd 0 (by decide)
              have h82 : x 82 = .int .i64 k := hd 1 (by decide)
              refine wpOp_step rfl fun K hK => ?_
              simp only [h81, h82] at hK ⊢
              go_simp
              exact hK _ _ ⟨_, rfl, Below.refl _ _, fun d hd => by cases hd; exact rfl⟩
            · intro x u hbu hd
              have h83 : x 83 = .pointer (some ⟨gl, k, none⟩) := hd 2 (by decide)
              have hv := (hbu.cell (p := ⟨gl, k, none⟩) HFL2.out).trans HFC2.out
              refine wpOp_step rfl fun K hK => ?_
              simp only [h83] at hK ⊢
              go_simp
              exact hK _ _ ⟨_, rfl, Below.refl _ _, fun d hd => by cases hd; exact rfl⟩
            · intro x u hbu hd
              refine wpOp_step rfl fun K hK => ?_
              go_simp
              exact hK _ _ ⟨_, rfl, Below.refl _ _, fun d hd => by cases hd; exact rfl⟩
            · intro x u hbu hd
              have h85 : x 85 = .pointer (some ⟨w.heap.size, 2, none⟩) := hd 4 (by decide)
              have xc := ((HV2.out.x.on hbu).cell 2).trans rfl
              have xl := (HV2.out.x.on hbu).lt
              refine wpOp_step rfl fun K hK => ?_
              simp only [h85] at hK ⊢
              go_simp
              exact hK _ _ ⟨_, rfl, Below.refl _ _, fun d hd => by cases hd; exact rfl⟩
            · intro x u hbu hd
              obtain ⟨n0, n1, n2, n3, nl⟩ := (HV2.out.i.on hbu).sy4
              refine wpOp_step rfl fun K hK => ?_
              go_simp
              exact hK _ _ ⟨_, rfl, Below.refl _ _, fun d hd => by cases hd; exact rfl⟩
            · intro x u hbu hd
              have h87 : x 87 = .agg #[.int .u8 i0, .int .u8 i1, .int .u8 i2, .int .u8 i3] := hd 6 (by decide)
              refine wpOp_step rfl fun K hK => ?_
              simp only [h87] at hK ⊢
              go_simp
              with_reducible refine (ins12_is i0 i1 i2 i3 _).mono ?_
              rintro e u' ⟨rfl, hb'⟩
              exact hK _ _ ⟨_, rfl, hb', fun d hd => by cases hd; exact rfl⟩
            · intro x u hbu hd
              have h84 : x 84 = fv := hd 3 (by decide)
              have h86 : x 86 = .int .i64 x2 := hd 5 (by decide)
              have h88 : x 88 = .agg #[.int .u8 i0, .int .u8 i1, .int .u8 i2, .int .u8 i3] := hd 7 (by decide)
              refine wpOp_step rfl fun K hK => ?_
              simp only [h84, h86, h88] at hK ⊢
              go_simp
              with_reducible refine (tick_no fv x2 i0 i1 i2 i3 _ (HNW.out.on hbu)).mono ?_
              rintro e u' ⟨rfl, hb'⟩
              exact hK _ _ ⟨_, rfl, hb', fun d hd => by cases hd; exact rfl⟩
            · intro x u hbu hd
              refine wpOp_step rfl fun K hK => ?_
              go_simp
              exact hK _ _ ⟨_, rfl, Below.refl _ _, fun d hd => by cases hd; exact rfl⟩
            · intro x u hbu hd
              have h89 : x 89 = .agg #[.int .u8 0, .int .u8 0] := hd 8 (by decide)
              have h90 : x 90 = .agg #[.int .u8 0, .int .u8 0] := hd 9 (by decide)
              refine wpOp_step rfl fun K hK => ?_
              simp only [h89, h90] at hK ⊢
              go_simp
              exact hK _ _ ⟨_, rfl, Below.refl _ _, fun d hd => by cases hd; exact rfl⟩
            · intro x u hbu hd
              have h91 : x 91 = .bool false := hd 10 (by decide)
              refine wpOp_step rfl fun K hK => ?_
              simp only [h91] at hK ⊢
              go_simp
              exact hK _ _ ⟨_, rfl, Below.refl _ _, fun d hd => by cases hd; exact rfl⟩
            · intro x u hbu hd
              have h92 : x 92 = .bool false := hd 11 (by decide)
              refine wpOp_step rfl fun K hK => ?_
              simp only [h92] at hK ⊢
              go_simp
              exact hK _ _ ⟨_, rfl, Below.refl _ _, fun d hd => by cases hd; exact rfl⟩
            · intro x u hbu hd
              have h92 : x 92 = .bool false := hd 11 (by decide)
              have h93 : x 93 = .bool false := hd 12 (by decide)
              refine wpOp_step rfl fun K hK => ?_
              simp only [h92, h93] at hK ⊢
              go_simp
              exact hK _ _ ⟨_, rfl, Below.refl _ _, fun d hd => by cases hd; exact rfl⟩
            · intro x u hbu hd
              have h94 : x 94 = .bool false := hd 13 (by decide)
              refine wpOp_step rfl fun K hK => ?_
              simp only [h94] at hK ⊢
              go_simp
              exact hK _ _ ⟨_, rfl, Below.refl _ _, fun d hd => by cases hd; exact rfl⟩
            · intro x u hbu hd
              have h95 : x 95 = .bool false := hd 14 (by decide)
              refine wpOp_step rfl fun K hK => ?_
              simp only [h95] at hK ⊢
              go_simp
              exact hK _ _ ⟨_, rfl, Below.refl _ _, fun d hd => by cases hd; exact rfl⟩
            · intro x u hbu hd
              have h95 : x 95 = .bool false := hd 14 (by decide)
              have h96 : x 96 = .bool false := hd 15 (by decide)
              refine wpOp_step rfl fun K hK => ?_
              simp only [h95, h96] at hK ⊢
              go_simp
              exact hK _ _ ⟨_, rfl, Below.refl _ _, fun d hd => by cases hd; exact rfl⟩
            · intro x u hbu hd
              have h97 : x 97 = .bool false := hd 16 (by decide)
              refine wpOp_step rfl fun K hK => ?_
              simp only [h97] at hK ⊢
              go_simp
              exact hK _ _ ⟨_, rfl, Below.refl _ _, fun d hd => by cases hd; exact rfl⟩
            · intro x u hbu hd
              have h98 : x 98 = .bool false := hd 17 (by decide)
              obtain ⟨y0, y1, y2, y3, yl⟩ := (HP1.out.on hbu).pay4
              refine wpOp_step rfl fun K hK => ?_
              simp only [h98] at hK ⊢
              go_simp
              exact hK _ _ ⟨_, rfl, Below.refl _ _, fun d hd => by cases hd; exact rfl⟩
            · intro x u hbu hd
              have h98 : x 98 = .bool false := hd 17 (by decide)
              refine wpOp_step rfl fun K hK => ?_
              simp only [h98] at hK ⊢
              go_simp
              exact hK _ _ ⟨_, rfl, Below.refl _ _, fun d hd => by cases hd; exact rfl⟩
            · intro x u hbu hd
              have h99 : x 99 = .agg #[.int .u8 0, .int .u8 0, .int .u32 0, .int .u32 0] := hd 18 (by decide)
              have h100 : x 100 = .agg #[.int .u8 0, .int .u8 0, .int .u32 0, .int .u32 0] := hd 19 (by decide)
              have h98 : x 98 = .bool false := hd 17 (by decide)
              refine wpOp_step rfl fun K hK => ?_
              simp only [h99, h100, h98] at hK ⊢
              go_simp
              exact hK _ _ ⟨_, rfl, Below.refl _ _, fun d hd => by cases hd; exact rfl⟩
            · intro x u hbu hd
              have h98 : x 98 = .bool false := hd 17 (by decide)
              have h101 : x 101 = .bool false := hd 20 (by decide)
              refine wpOp_step rfl fun K hK => ?_
              simp only [h98, h101] at hK ⊢
              go_simp
              exact hK _ _ ⟨_, rfl, Below.refl _ _, fun d hd => by cases hd; exact rfl⟩
            · intro x u hbu hd
              have h102 : x 102 = .bool false := hd 21 (by decide)
              refine wpOp_step rfl fun K hK => ?_
              simp only [h102] at hK ⊢
              go_simp
              exact hK _ _ ⟨_, rfl, Below.refl _ _, fun d hd => by cases hd; exact rfl⟩
            · intro x u hbu hd
              have h103 : x 103 = .bool false := hd 22 (by decide)
              obtain ⟨y0, y1, y2, y3, yl⟩ := (HP2.out.on hbu).pay4
              refine wpOp_step rfl fun K hK => ?_
              simp only [h103] at hK ⊢
              go_simp
              exact hK _ _ ⟨_, rfl, Below.refl _ _, fun d hd => by cases hd; exact rfl⟩
            · intro x u hbu hd
              have h103 : x 103 = .bool false := hd 22 (by decide)
              refine wpOp_step rfl fun K hK => ?_
              simp only [h103] at hK ⊢
              go_simp
              exact hK _ _ ⟨_, rfl, Below.refl _ _, fun d hd => by cases hd; exact rfl⟩
            · intro x u hbu hd
              have h104 : x 104 = .agg #[.int .u8 0, .int .u8 0, .int .u32 0, .int .u32 0] := hd 23 (by decide)
              have h105 : x 105 = .agg #[.int .u8 0, .int .u8 0, .int .u32 0, .int .u32 0] := hd 24 (by decide)
              have h103 : x 103 = .bool false := hd 22 (by decide)
              refine wpOp_step rfl fun K hK => ?_
              simp only [h104, h105, h103] at hK ⊢
              go_simp
              exact hK _ _ ⟨_, rfl, Below.refl _ _, fun d hd => by cases hd; exact rfl⟩
            · intro x u hbu hd
              have h103 : x 103 = .bool false := hd 22 (by decide)
              have h106 : x 106 = .bool false := hd 25 (by decide)
              refine wpOp_step rfl fun K hK => ?_
              simp only [h103, h106] at hK ⊢
              go_simp
              exact hK _ _ ⟨_, rfl, Below.refl _ _, fun d hd => by cases hd; exact rfl⟩
            · intro x u hbu hd
              have h107 : x 107 = .bool false := hd 26 (by decide)
              refine wpOp_step rfl fun K hK => ?_
              simp only [h107] at hK ⊢
              go_simp
              exact hK _ _ ⟨_, rfl, Below.refl _ _, fun d hd => by cases hd; exact rfl⟩
            · intro x u hbu hd
              have h108 : x 108 = .bool false := hd 27 (by decide)
              refine wpOp_step rfl fun K hK => ?_
              simp only [h108] at hK ⊢
              go_simp
              exact hK _ _ ⟨_, rfl, Below.refl _ _, fun d hd => by cases hd; exact rfl⟩
            · intro x u hbu hd
              have h108 : x 108 = .bool false := hd 27 (by decide)
              refine wpOp_step rfl fun K hK => ?_
              simp only [h108] at hK ⊢
              go_simp
              exact hK _ _ ⟨_, rfl, Below.refl _ _, fun d hd => by cases hd; exact rfl⟩
            · intro x u hbu hd
              have h109 : x 109 = .slice (some ⟨gl, 0, none⟩) 3 3 := hd 28 (by decide)
              have h110 : x 110 = .int .i64 k := hd 29 (by decide)
              have h108 : x 108 = .bool false := hd 27 (by decide)
              refine wpOp_step rfl fun K hK => ?_
              simp only [h109, h110, h108] at hK ⊢
              go_simp
              exact hK _ _ ⟨_, rfl, Below.refl _ _, fun d hd => by cases hd; exact rfl⟩
            · intro x u hbu hd
              have h111 : x 111 = .pointer (some ⟨gl, k, none⟩) := hd 30 (by decide)
              have h108 : x 108 = .bool false := hd 27 (by decide)
              have hv := (hbu.cell (p := ⟨gl, k, none⟩) HFL2.out).trans HFC2.out
              refine wpOp_step rfl fun K hK => ?_
              simp only [h111, h108] at hK ⊢
              go_simp
              exact hK _ _ ⟨_, rfl, Below.refl _ _, fun d hd => by cases hd; exact rfl⟩
            · intro x u hbu hd
              have h112 : x 112 = fv := hd 31 (by decide)
              have h108 : x 108 = .bool false := hd 27 (by decide)
              refine wpOp_step rfl fun K hK => ?_
              simp only [h112, h108] at hK ⊢
              go_simp
              with_reducible refine (fl_none_high fv _ (HNW.out.on hbu)).mono ?_
              rintro e u' ⟨rfl, hb'⟩
              exact hK _ _ ⟨_, rfl, hb', fun d hd => by cases hd; exact rfl⟩
            · intro x u hbu hd
              have h108 : x 108 = .bool false := hd 27 (by decide)
              refine wpOp_step rfl fun K hK => ?_
              simp only [h108] at hK ⊢
              go_simp
              exact hK _ _ ⟨_, rfl, Below.refl _ _, fun d hd => by cases hd; exact rfl⟩
            · intro x u hbu hd
              have h113 : x 113 = .agg #[.bool false, .bool false] := hd 32 (by decide)
              have h114 : x 114 = .agg #[.bool false, .bool false] := hd 33 (by decide)
              have h108 : x 108 = .bool false := hd 27 (by decide)
              refine wpOp_step rfl fun K hK => ?_
              simp only [h113, h114, h108] at hK ⊢
              go_simp
              exact hK _ _ ⟨_, rfl, Below.refl _ _, fun d hd => by cases hd; exact rfl⟩
            · intro x u hbu hd
              have h108 : x 108 = .bool false := hd 27 (by decide)
              have h115 : x 115 = .bool false := hd 34 (by decide)
              refine wpOp_step rfl fun K hK => ?_
              simp only [h108, h115] at hK ⊢
              go_simp
              exact hK _ _ ⟨_, rfl, Below.refl _ _, fun d hd => by cases hd; exact rfl⟩
          · intro y u2 hbu hall
            have h116 : y 116 = .bool false := hall 35 (by decide)
            simp only [Reg.frame, Reg.over, Nat.reduceAdd, Nat.reduceLeDiff, decide_true, decide_false, if_true, Bool.false_eq_true, if_false, Bool.and_true, Bool.and_false, h116]
            have HA2 := Lib.hid (below_then HB45.out hbu)
            clear hbu hall h116
            go_wp2_with fail
            go_roundw
            case rel => exact ⟨k + 1, by have := HKT.out; omega, rfl, Lib.hid (HV1.out.on HA2.out), Lib.hid (HF1.out.on HA2.out), Lib.hid (HL1.out.on HA2.out)⟩
            case measure => have := HKT.out; simp [intOf]; omega
        · obtain rfl : k = 3 := by omega
          clear hlt hk
          go_wp2_with (go_at_call 6; (with_reducible refine (lives_fl _ (HW.out.on HV1.out.b)).mono ?_); rintro e w9 ⟨rfl, b9⟩; have HB9 := Lib.hid (below_then HV1.out.b b9); clear b9)
          go_ret
          exact ⟨rfl, HB9.out⟩
end Go.Proofs.YtadcmoldpbnmnaaGreatDoor

