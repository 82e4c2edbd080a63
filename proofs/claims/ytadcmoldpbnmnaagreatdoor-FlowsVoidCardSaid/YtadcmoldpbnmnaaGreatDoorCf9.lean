/-
  The contract of configs.New with what the embedded config's numbers are, and the law's example net by it. Conditions: the config's reading; the table of directions is as the program's text lays it.
-/
import Derived.Test.YtadcmoldpbnmnaaGreatDoorLawNet
namespace Go.Proofs.YtadcmoldpbnmnaaGreatDoor
open Go.RowKit Rg
set_option linter.unusedVariables false

def NewPostN (c : Cf) (w : World) (e : Ending) (w' : World) : Prop := Below w.heap.size w w' ∧ ((newE c ≠ 0 ∧ e = .returned (.tuple #[.pointer none, .int .i64 (newE c)])) ∨
  (newE c = 0 ∧ ∃ (g : Nat) (b : Cf) (A1 A2 A3 A4 : Option Addr), e = .returned (.tuple #[.pointer (some ⟨g, 0, none⟩), .int .i64 0]) ∧ w.heap.size ≤ g ∧
    Blk w' g 62 #[.int .i64 b.N, .slice b.pA b.pn b.pc, .slice b.sA b.sn b.sc, .int .i64 b.L, .slice b.bA b.bn b.bc, .slice b.tA b.tn b.tc, .int .i64 b.M, .int .i64 b.G, .int .i64 b.F, .int .i64 c.N, .slice A1 c.pn c.pn, .slice A2 c.sn c.sn, .int .i64 c.L, .slice A3 c.bn c.bn, .slice A4 c.tn c.tn, .int .i64 c.M, .int .i64 c.G, .int .i64 c.F] ∧ (b.N = c.N ∧ b.L = c.L) ∧ CfOwn w' w.heap.size (c.to A1 A2 A3 A4)))

def Reg.Fact.netN (c : Cf) (base : Nat) : Reg.Fact := ⟨fun v w => ∃ (b : Cf) (A1 A2 A3 A4 : Option Addr), v = .agg #[.int .i64 b.N, .slice b.pA b.pn b.pc, .slice b.sA b.sn b.sc, .int .i64 b.L, .slice b.bA b.bn b.bc, .slice b.tA b.tn b.tc, .int .i64 b.M, .int .i64 b.G, .int .i64 b.F, .int .i64 c.N, .slice A1 c.pn c.pn, .slice A2 c.sn c.sn, .int .i64 c.L, .slice A3 c.bn c.bn, .slice A4 c.tn c.tn, .int .i64 c.M, .int .i64 c.G, .int .i64 c.F] ∧ (b.N = c.N ∧ b.L = c.L) ∧ CfOwn w base (c.to A1 A2 A3 A4), fun _ _ _ hb h => by
  obtain ⟨b, A1, A2, A3, A4, e, hq, ho⟩ := h
  exact ⟨b, A1, A2, A3, A4, e, hq, ho.on hb⟩⟩
def Reg.Fact.netpN (c : Cf) (base : Nat) : Reg.Fact := ⟨fun v w => ∃ (g : Nat) (b : Cf) (A1 A2 A3 A4 : Option Addr), v = .pointer (some ⟨g, 0, none⟩) ∧ base ≤ g ∧ Blk w g 62 #[.int .i64 b.N, .slice b.pA b.pn b.pc, .slice b.sA b.sn b.sc, .int .i64 b.L, .slice b.bA b.bn b.bc, .slice b.tA b.tn b.tc, .int .i64 b.M, .int .i64 b.G, .int .i64 b.F, .int .i64 c.N, .slice A1 c.pn c.pn, .slice A2 c.sn c.sn, .int .i64 c.L, .slice A3 c.bn c.bn, .slice A4 c.tn c.tn, .int .i64 c.M, .int .i64 c.G, .int .i64 c.F] ∧ (b.N = c.N ∧ b.L = c.L) ∧ CfOwn w base (c.to A1 A2 A3 A4), fun _ _ _ hb h => by
  obtain ⟨g, b, A1, A2, A3, A4, e, hg, hB, hq, ho⟩ := h
  exact ⟨g, b, A1, A2, A3, A4, e, hg, hB.on hb, hq, ho.on hb⟩⟩

set_option maxRecDepth 100000 in
theorem new_anyN (c : Cf) (w : World) (hc : CfIn w c) (hw : Ways w) :
    Calls Tryz.prog 23 #[.agg #[.int .i64 c.N, .slice c.pA c.pn c.pc, .slice c.sA c.sn c.sc, .int .i64 c.L, .slice c.bA c.bn c.bc, .slice c.tA c.tn c.tc, .int .i64 c.M, .int .i64 c.G, .int .i64 c.F]] w (NewPostN c w) := by
  have HC := Lib.hid hc
  have HW := Lib.hid hw
  have HLE := Lib.hid (show (errs c).length = 10 from rfl)
  clear hc hw
  go_enter Tryz.func23, Tryz.ntmps23
  go_wp2_with (go_at_call 42; (with_reducible refine (rules_any _).mono ?_); rintro e w1 ⟨rfl, rfl⟩)
  go_loopw [9] (fun i wr => ∃ k : Nat, k ≤ 10 ∧ i = .int .i64 k ∧ Hid (newE c = firstE ((errs c).drop k)) ∧ Hid (∀ j, j < k → (errs c).getD j 0 = 0) ∧ Blk wr w.heap.size 25 #[.int .i64 c.N, .slice c.pA c.pn c.pc, .slice c.sA c.sn c.sc, .int .i64 c.L, .slice c.bA c.bn c.bc, .slice c.tA c.tn c.tc, .int .i64 c.M, .int .i64 c.G, .int .i64 c.F] ∧ Blk wr (w.heap.size + 1) 138 ruleCells ∧ Below w.heap.size w wr) (fun i _ => 10 - (intOf i).toNat)
  case atStart =>
    refine ⟨0, Nat.zero_le _, rfl, Lib.hid rfl, Lib.hid fun j hj => absurd hj (by omega), (Blk.new w _ _).alloc _, ?_, below_al (below_al (Below.refl _ _) _) _⟩
    have := Blk.new (w.alloc (.cells #[.int .i64 c.N, .slice c.pA c.pn c.pc, .slice c.sA c.sn c.sc, .int .i64 c.L, .slice c.bA c.bn c.bc, .slice c.tA c.tn c.tc, .int .i64 c.M, .int .i64 c.G, .int .i64 c.F] 25)) 138 ruleCells
    rw [alloc_size] at this
    exact this
  case round =>
    obtain ⟨k, hk, rfl, ht, hp, hB1, hB2, hb⟩ := hrel
    have hz := hb.size
    obtain ⟨k0, k1, k2, k3, k4, k5, k6, k7, k8⟩ := hB1.cf
    have hbk : w.heap.size < wr.heap.size := hB1.lt
    have hbk2 : w.heap.size + 1 < wr.heap.size := hB2.lt
    by_cases hlt : k < 10
    · have hcell := (hB2.cell k).trans (ruleCells_at k hlt)
      have hix := fun W => idxRule (n := 10) 10 (b := w.heap.size + 1) (off := 0) rfl hlt W
      have HD := Lib.hid (firstE_drop (errs c) k (by have := HLE.out; omega))
      have HS := Lib.hid (firstE_stop (errs c) k (by have := HLE.out; omega))
      have HN := Lib.hid (show (errs c).getD k 0 = 0 → ∀ j, j < k + 1 → (errs c).getD j 0 = 0 from fun h j hj => by
        rcases Nat.lt_succ_iff_lt_or_eq.1 hj with q | q
        · exact hp.out j q
        · rw [q]; exact h)
      have HR := Lib.hid (fun W hW hw => rule_any k hlt c W hW hw hp.out)
      obtain ⟨v, hv⟩ : ∃ v, v = (errs c).getD k 0 := ⟨_, rfl⟩
      obtain ⟨f, hf⟩ : ∃ f, f = ruleF k := ⟨_, rfl⟩
      rw [← hv] at HD HS HN HR
      have hcf := fun args W => ruleF_enter k hlt args W
      rw [← hf] at HR hcell hcf
      clear hv hf
      simp only [Nat.zero_add] at hix
      have hst : ∀ (W : World) (a : Addr), (store a (.func (.func f) #[] #[])).run Tryz.prog W = stored Tryz.prog W a (.func (.func f) #[] #[]) .plain := fun W a => run_store Tryz.prog W a _ _ rfl
      by_cases hv0 : v = 0
      · subst hv0
        have HD0 := Lib.hid (ht.out.trans (HD.out rfl))
        have HN0 := Lib.hid (HN.out rfl)
        clear HD HN HS
        go_wp2_with ((with_reducible refine (HR.out _ ((HC.out.on hb).al _) ((HW.out.on hb).al _)).mono ?_); rintro e w1 ⟨rfl, hb1⟩)
        go_roundw
        case rel => exact ⟨k + 1, by omega, by go_num, HD0, HN0, (hB1.alloc _).on hb1, (hB2.alloc _).on hb1, below_then (hb.alloc hz _) hb1⟩
        case measure => simp [intOf]; omega
      · have hvb := beq_eq_false_iff_ne.2 hv0
        have HV := Lib.hid hv0
        have HE := Lib.hid (ht.out.trans (HS.out hv0))
        clear hv0
        go_wp2_with ((with_reducible refine (HR.out _ ((HC.out.on hb).al _) ((HW.out.on hb).al _)).mono ?_); rintro e w1 ⟨rfl, hb1⟩)
        go_ret2
        exact ⟨below_then (hb.alloc hz _) hb1, .inl ⟨by rw [HE.out]; exact HV.out, by rw [HE.out]; rfl⟩⟩
    · have HX := Lib.hid (show newE c = 0 by rw [ht.out, List.drop_of_length_le (by have := HLE.out; omega)]; rfl)
      clear ht hp
      go_wp2_with fail
      refine Reg.wp_slots (fun t => t == 2 || t == 3 || decide (21 ≤ t)) (by kernel_rfl) (by kernel_rfl) (by kernel_rfl) (fun zz => (Reg.tbl [
        (21, .is (.agg #[.int .i64 c.N, .slice c.pA c.pn c.pc, .slice c.sA c.sn c.sc, .int .i64 c.L, .slice c.bA c.bn c.bc, .slice c.tA c.tn c.tc, .int .i64 c.M, .int .i64 c.G, .int .i64 c.F])),
        (22, .cpy c w.heap.size),
        (23, .is (.agg #[.int .i64 c.N, .slice c.pA c.pn c.pc, .slice c.sA c.sn c.sc, .int .i64 c.L, .slice c.bA c.bn c.bc, .slice c.tA c.tn c.tc, .int .i64 c.M, .int .i64 c.G, .int .i64 c.F])),
        (24, .cpy c w.heap.size),
        (25, .netN c w.heap.size),
        (26, .netpN c w.heap.size),
        (2, .netpN c w.heap.size),
        (3, .is (.int .i64 0))] zz).P) (fun zz => (Reg.tbl _ zz).on) ?_ ?_
      · simp only [Reg.frame, Reg.over, Nat.reduceAdd, Nat.reduceBEq, Nat.reduceLeDiff, decide_true, decide_false, Bool.or_true, Bool.or_false, if_true, Bool.false_eq_true, if_false]
        refine ⟨?_, ?_, ?_, ?_, ?_, ?_, ?_, ?_, trivial⟩
        · intro x u hbu hd
          obtain ⟨q0, q1, q2, q3, q4, q5, q6, q7, q8⟩ := (hB1.on hbu).cf
          refine wpOp_step rfl fun K hK => ?_
          go_simp
          exact hK _ _ ⟨_, rfl, Below.refl _ _, fun d hd => by cases hd; exact rfl⟩
        · intro x u hbu hd
          have h21 : x 21 = .agg #[.int .i64 c.N, .slice c.pA c.pn c.pc, .slice c.sA c.sn c.sc, .int .i64 c.L, .slice c.bA c.bn c.bc, .slice c.tA c.tn c.tc, .int .i64 c.M, .int .i64 c.G, .int .i64 c.F] := hd 0 (by decide)
          refine wpOp_step rfl fun K hK => ?_
          simp only [h21] at hK ⊢
          go_simp
          refine (copied_any c u (HC.out.on (below_then hb hbu))).mono ?_
          rintro e w2 ⟨A1, A2, A3, A4, rfl, o1, b1⟩
          exact hK _ _ ⟨_, rfl, b1, fun d hd => by cases hd; exact ⟨A1, A2, A3, A4, rfl, o1.mono (Nat.le_trans hz hbu.size)⟩⟩
        · intro x u hbu hd
          obtain ⟨q0, q1, q2, q3, q4, q5, q6, q7, q8⟩ := (hB1.on hbu).cf
          refine wpOp_step rfl fun K hK => ?_
          go_simp
          exact hK _ _ ⟨_, rfl, Below.refl _ _, fun d hd => by cases hd; exact rfl⟩
        · intro x u hbu hd
          have h23 : x 23 = .agg #[.int .i64 c.N, .slice c.pA c.pn c.pc, .slice c.sA c.sn c.sc, .int .i64 c.L, .slice c.bA c.bn c.bc, .slice c.tA c.tn c.tc, .int .i64 c.M, .int .i64 c.G, .int .i64 c.F] := hd 2 (by decide)
          refine wpOp_step rfl fun K hK => ?_
          simp only [h23] at hK ⊢
          go_simp
          refine (copied_any c u (HC.out.on (below_then hb hbu))).mono ?_
          rintro e w2 ⟨A1, A2, A3, A4, rfl, o1, b1⟩
          exact hK _ _ ⟨_, rfl, b1, fun d hd => by cases hd; exact ⟨A1, A2, A3, A4, rfl, o1.mono (Nat.le_trans hz hbu.size)⟩⟩
        · intro x u hbu hd
          have k22 : (Reg.Fact.cpy c w.heap.size).P (x 22) u := hd 1 (by decide)
          have k24 : (Reg.Fact.cpy c w.heap.size).P (x 24) u := hd 3 (by decide)
          obtain ⟨A1, A2, A3, A4, h22, o1⟩ := k22
          obtain ⟨B1, B2, B3, B4, h24, o2⟩ := k24
          refine wpOp_step rfl fun K hK => ?_
          simp only [h22, h24] at hK ⊢
          go_simp
          exact hK _ _ ⟨_, rfl, Below.refl _ _, fun d hd => by cases hd; exact ⟨c.to A1 A2 A3 A4, B1, B2, B3, B4, rfl, ⟨rfl, rfl⟩, o2⟩⟩
        · intro x u hbu hd
          have k25 : (Reg.Fact.netN c w.heap.size).P (x 25) u := hd 4 (by decide)
          obtain ⟨b, A1, A2, A3, A4, h25, hq, o1⟩ := k25
          have HQ := Lib.hid hq; clear hq
          refine wpOp_step rfl fun K hK => ?_
          simp only [h25] at hK ⊢
          go_simp
          exact hK _ _ ⟨_, rfl, below_al (Below.refl _ _) _, fun d hd => by cases hd; exact ⟨u.heap.size, b, A1, A2, A3, A4, rfl, Nat.le_trans hz hbu.size, Blk.new _ _ _, HQ.out, o1.on (below_al (Below.refl _ _) _)⟩⟩
        · intro x u hbu hd
          have k26 : (Reg.Fact.netpN c w.heap.size).P (x 26) u := hd 5 (by decide)
          obtain ⟨g, b, A1, A2, A3, A4, h26, hg, hN, hq, o1⟩ := k26
          have HQ := Lib.hid hq; clear hq
          refine wpOp_step rfl fun K hK => ?_
          simp only [h26] at hK ⊢
          go_simp
          exact hK _ _ ⟨_, rfl, Below.refl _ _, fun d hd => by cases hd; exact ⟨g, b, A1, A2, A3, A4, rfl, hg, hN, HQ.out, o1⟩⟩
        · intro x u hbu hd
          refine wpOp_step rfl fun K hK => ?_
          go_simp
          exact hK _ _ ⟨_, rfl, Below.refl _ _, fun d hd => by cases hd; exact rfl⟩
      · intro x u hbu hd
        have k2 : (Reg.Fact.netpN c w.heap.size).P (x 2) u := hd 6 (by decide)
        have h3 : x 3 = .int .i64 0 := hd 7 (by decide)
        obtain ⟨g, b, A1, A2, A3, A4, h2, hg, hN, hq, o1⟩ := k2
        have HQ := Lib.hid hq; clear hq
        simp only [Reg.frame, Reg.over, Nat.reduceAdd, Nat.reduceBEq, Nat.reduceLeDiff, decide_true, decide_false, Bool.or_true, Bool.or_false, if_true, Bool.false_eq_true, if_false, h2, h3]
        go_wp2_with fail
        go_ret2
        exact ⟨below_then hb hbu, .inr ⟨HX.out, g, b, A1, A2, A3, A4, rfl, hg, hN, HQ.out, o1⟩⟩

theorem new_yesN (c : Cf) (w : World) (hc : CfIn w c) (hw : Ways w) (h0 : newE c = 0) :
    Calls Tryz.prog 23 #[.agg #[.int .i64 c.N, .slice c.pA c.pn c.pc, .slice c.sA c.sn c.sc, .int .i64 c.L, .slice c.bA c.bn c.bc, .slice c.tA c.tn c.tc, .int .i64 c.M, .int .i64 c.G, .int .i64 c.F]] w fun e w' => ∃ (g : Nat) (A1 A2 A3 A4 : Option Addr), e = .returned (.tuple #[.pointer (some ⟨g, 0, none⟩), .int .i64 0]) ∧ w.heap.size ≤ g ∧ NetIs w' (.pointer (some ⟨g, 0, none⟩)) (c.to A1 A2 A3 A4) ∧ (w'.cell? ⟨g, 0, none⟩ = some (.int .i64 c.N) ∧ w'.cell? ⟨g, 3, none⟩ = some (.int .i64 c.L)) ∧ Below w.heap.size w w' := by
  refine (new_anyN c w hc hw).mono fun e w' h => ?_
  obtain ⟨hb, ⟨h1, _⟩ | ⟨_, g, b, A1, A2, A3, A4, rfl, hg, hB, hq, ho⟩⟩ := h
  · exact absurd h0 h1
  · refine ⟨g, A1, A2, A3, A4, rfl, hg, .inr ⟨g, b, rfl, ⟨_, [], hB⟩, ho.in_⟩, ⟨?_, ?_⟩, hb⟩
    · rw [← hq.1]; exact (hB.cell 0).trans rfl
    · rw [← hq.2]; exact (hB.cell 3).trans rfl
/-- The chapter's example. -/
def exC (A1 A2 A3 : Option Addr) : Cf := ⟨4, 120, 3, 3, 3, A1, 2, 2, A2, 2, 2, A3, 4, 4, none, 0, 0, [0, 2], [0, 1], [0, 0, 0, 0], []⟩
end Go.Proofs.YtadcmoldpbnmnaaGreatDoor

