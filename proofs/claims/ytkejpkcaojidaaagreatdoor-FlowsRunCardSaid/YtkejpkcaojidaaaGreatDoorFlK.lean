/-
  What the law's ring of the chapter's example begins with, and what its single steps leave. No condition but those that are named.
-/
import Derived.Test.YtkejpkcaojidaaaGreatDoorKinds
import Derived.Test.YtkejpkcaojidaaaGreatDoorKeep
import Derived.Test.YtkejpkcaojidaaaGreatDoorLawNet
import Derived.Test.YtkejpkcaojidaaaGreatDoorFl8
import Derived.Test.YtkejpkcaojidaaaGreatDoorCaH
import Derived.Test.YtkejpkcaojidaaaGreatDoorWyM
import Derived.Test.YtkejpkcaojidaaaGreatDoorWn4
import Derived.Test.YtkejpkcaojidaaaGreatDoorSnOut
import Derived.Test.YtkejpkcaojidaaaGreatDoorReg6
namespace Go.Proofs.YtkejpkcaojidaaaGreatDoor
set_option linter.unusedVariables false
set_option linter.unusedSimpArgs false
set_option linter.unusedVariables false
set_option linter.unusedSimpArgs false
open Go.RowKit
set_option linter.unusedVariables false

structure Rows2 (w : World) (base : Nat) (A : Option Addr) (n c : Nat) (xs : List Int) (B : Option Addr) (m d : Nat) (ys : List Int) : Prop where
  ra : w.ownsRow base 47 1 (.slice A n c) n (xs.map (Value.int .u8))
  rb : w.ownsRow base 47 1 (.slice B m d) m (ys.map (Value.int .u8))
  ne : ∀ q, (Value.slice A n c).ownBlock = some q → (Value.slice B m d).ownBlock ≠ some q
section
variable {w w' : World} {base n c m d : Nat} {A B : Option Addr} {xs ys : List Int}
theorem Rows2.none_ : Rows2 w base none 0 0 [] none 0 0 [] := ⟨owns_none, owns_none, fun q h => by cases h⟩
theorem Rows2.swap (h : Rows2 w base A n c xs B m d ys) : Rows2 w base B m d ys A n c xs := ⟨h.rb, h.ra, fun q h1 h2 => h.ne q h2 h1⟩
theorem Rows2.on (h : Rows2 w base A n c xs B m d ys) (hb : Below w.heap.size w w') : Rows2 w' base A n c xs B m d ys :=
  ⟨owns_kept h.ra (KeptBut.below hb []) (by simp), owns_kept h.rb (KeptBut.below hb []) (by simp), h.ne⟩
theorem rows_grown {n : Nat} {e : TypeId} {v : Value} {xs : List Value} {row : Option Nat} (h : w.ownsRow base e 1 v n xs) (hg : w.grownBy w' row) (hne : ∀ q, v.ownBlock = some q → row ≠ some q) : w'.ownsRow base e 1 v n xs := by
  refine ⟨h.1, ?_⟩
  rcases h.2 with q | ⟨g', cap, cur, hv, hb, hh, r⟩
  · exact .inl q
  · have hlt : g' < w.heap.size := Blk.lt (t := e) (cs := cur) hh
    exact .inr ⟨g', cap, cur, hv, hb, (hg.block g' hlt (fun q => hne g' (by rw [hv]; rfl) q.symm)).trans hh, r⟩
/-- One more on the first row. -/
theorem Rows2.push (h : Rows2 w base A n c xs B m d ys) {A' : Option Addr} {c' : Nat} {zs : List Int} (hr : w'.ownsRow base 47 1 (.slice A' (n + 1) c') (n + 1) (zs.map (Value.int .u8))) (hg : w.grownBy w' (Value.slice A n c).ownBlock)
    (ho : (Value.slice A' (n + 1) c').ownBlock = (Value.slice A n c).ownBlock ∨ (Value.slice A' (n + 1) c').ownBlock = some w.heap.size) : Rows2 w' base A' (n + 1) c' zs B m d ys := by
  refine ⟨hr, rows_grown h.rb hg fun q hq h1 => h.ne q h1 hq, fun q hq hB => ?_⟩
  rcases ho with e | e
  · exact h.ne q (e.symm.trans hq) hB
  · have := (h.rb.lt q hB).2
    rw [e] at hq
    injection hq with hq
    omega
theorem Rows2.below {a : World} (h : Rows2 w base A n c xs B m d ys) (hb : Below base a w) (hg : w.grownBy w' (Value.slice A n c).ownBlock) (hs : base ≤ w.heap.size) : Below base a w' :=
  hb.grown hg hs fun g hq => (h.ra.lt g hq).1
end
end Go.Proofs.YtkejpkcaojidaaaGreatDoor

namespace Go.Proofs.YtkejpkcaojidaaaGreatDoor
set_option linter.unusedVariables false
set_option linter.unusedSimpArgs false
open Go.RowKit Rg
set_option linter.unusedVariables false

def NewPostN (c : Cf) (w : World) (e : Ending) (w' : World) : Prop := Below w.heap.size w w' ∧ ((newE c ≠ 0 ∧ e = .returned (.tuple #[.pointer none, .int .i64 (newE c)])) ∨
  (newE c = 0 ∧ ∃ (g : Nat) (b : Cf) (A1 A2 A3 A4 : Option Addr), e = .returned (.tuple #[.pointer (some ⟨g, 0, none⟩), .int .i64 0]) ∧ w.heap.size ≤ g ∧
    Blk w' g 78 #[.int .i64 b.N, .slice b.pA b.pn b.pc, .slice b.sA b.sn b.sc, .int .i64 b.L, .slice b.bA b.bn b.bc, .slice b.tA b.tn b.tc, .int .i64 b.M, .int .i64 b.G, .int .i64 b.F, .int .i64 c.N, .slice A1 c.pn c.pn, .slice A2 c.sn c.sn, .int .i64 c.L, .slice A3 c.bn c.bn, .slice A4 c.tn c.tn, .int .i64 c.M, .int .i64 c.G, .int .i64 c.F] ∧ (b.N = c.N ∧ b.L = c.L) ∧ CfOwn w' w.heap.size (c.to A1 A2 A3 A4)))

def Reg.Fact.netN (c : Cf) (base : Nat) : Reg.Fact := ⟨fun v w => ∃ (b : Cf) (A1 A2 A3 A4 : Option Addr), v = .agg #[.int .i64 b.N, .slice b.pA b.pn b.pc, .slice b.sA b.sn b.sc, .int .i64 b.L, .slice b.bA b.bn b.bc, .slice b.tA b.tn b.tc, .int .i64 b.M, .int .i64 b.G, .int .i64 b.F, .int .i64 c.N, .slice A1 c.pn c.pn, .slice A2 c.sn c.sn, .int .i64 c.L, .slice A3 c.bn c.bn, .slice A4 c.tn c.tn, .int .i64 c.M, .int .i64 c.G, .int .i64 c.F] ∧ (b.N = c.N ∧ b.L = c.L) ∧ CfOwn w base (c.to A1 A2 A3 A4), fun _ _ _ hb h => by
  obtain ⟨b, A1, A2, A3, A4, e, hq, ho⟩ := h
  exact ⟨b, A1, A2, A3, A4, e, hq, ho.on hb⟩⟩
def Reg.Fact.netpN (c : Cf) (base : Nat) : Reg.Fact := ⟨fun v w => ∃ (g : Nat) (b : Cf) (A1 A2 A3 A4 : Option Addr), v = .pointer (some ⟨g, 0, none⟩) ∧ base ≤ g ∧ Blk w g 78 #[.int .i64 b.N, .slice b.pA b.pn b.pc, .slice b.sA b.sn b.sc, .int .i64 b.L, .slice b.bA b.bn b.bc, .slice b.tA b.tn b.tc, .int .i64 b.M, .int .i64 b.G, .int .i64 b.F, .int .i64 c.N, .slice A1 c.pn c.pn, .slice A2 c.sn c.sn, .int .i64 c.L, .slice A3 c.bn c.bn, .slice A4 c.tn c.tn, .int .i64 c.M, .int .i64 c.G, .int .i64 c.F] ∧ (b.N = c.N ∧ b.L = c.L) ∧ CfOwn w base (c.to A1 A2 A3 A4), fun _ _ _ hb h => by
  obtain ⟨g, b, A1, A2, A3, A4, e, hg, hB, hq, ho⟩ := h
  exact ⟨g, b, A1, A2, A3, A4, e, hg, hB.on hb, hq, ho.on hb⟩⟩

set_option maxRecDepth 100000 in
theorem new_anyN (c : Cf) (w : World) (hc : CfIn w c) (hw : Ways w) :
    Calls Tryz.prog 21 #[.agg #[.int .i64 c.N, .slice c.pA c.pn c.pc, .slice c.sA c.sn c.sc, .int .i64 c.L, .slice c.bA c.bn c.bc, .slice c.tA c.tn c.tc, .int .i64 c.M, .int .i64 c.G, .int .i64 c.F]] w (NewPostN c w) := by
  have HC := Lib.hid hc
  have HW := Lib.hid hw
  have HLE := Lib.hid (show (errs c).length = 10 from rfl)
  clear hc hw
  go_enter Tryz.func21, Tryz.ntmps21
  go_wp2_with (go_at_call 41; (with_reducible refine (rules_any _).mono ?_); rintro e w1 ⟨rfl, rfl⟩)
  go_loopw [9] (fun i wr => ∃ k : Nat, k ≤ 10 ∧ i = .int .i64 k ∧ Hid (newE c = firstE ((errs c).drop k)) ∧ Hid (∀ j, j < k → (errs c).getD j 0 = 0) ∧ Blk wr w.heap.size 25 #[.int .i64 c.N, .slice c.pA c.pn c.pc, .slice c.sA c.sn c.sc, .int .i64 c.L, .slice c.bA c.bn c.bc, .slice c.tA c.tn c.tc, .int .i64 c.M, .int .i64 c.G, .int .i64 c.F] ∧ Blk wr (w.heap.size + 1) 135 ruleCells ∧ Below w.heap.size w wr) (fun i _ => 10 - (intOf i).toNat)
  case atStart =>
    refine ⟨0, Nat.zero_le _, rfl, Lib.hid rfl, Lib.hid fun j hj => absurd hj (by omega), (Blk.new w _ _).alloc _, ?_, below_al (below_al (Below.refl _ _) _) _⟩
    have := Blk.new (w.alloc (.cells #[.int .i64 c.N, .slice c.pA c.pn c.pc, .slice c.sA c.sn c.sc, .int .i64 c.L, .slice c.bA c.bn c.bc, .slice c.tA c.tn c.tc, .int .i64 c.M, .int .i64 c.G, .int .i64 c.F] 25)) 135 ruleCells
    rw [alloc_size] at this
    exact this
  case round =>
    obtain ⟨k, hk, rfl, ht, hp, hB1, hB2, hb⟩ := hrel
    have hz := hb.size
    obtain ⟨k0, k1, k2, k3, k4, k5, k6, k7, k8⟩ := hB1.cf
    have hbk : w.heap.size < wr.heap.size := hB1.lt
    have hbk2 : w.heap.size + 1 < wr.heap.size := hB2.lt
    by_cases hlt : k < 10
    · have hcell := (hB2.cell k).trans (ruleCells_at k hlt)
      have hix := fun W => idxRule (n := 10) 10 (b := w.heap.size + 1) (off := 0) rfl hlt W
      have HD := Lib.hid (firstE_drop (errs c) k (by have := HLE.out; omega))
      have HS := Lib.hid (firstE_stop (errs c) k (by have := HLE.out; omega))
      have HN := Lib.hid (show (errs c).getD k 0 = 0 → ∀ j, j < k + 1 → (errs c).getD j 0 = 0 from fun h j hj => by
        rcases Nat.lt_succ_iff_lt_or_eq.1 hj with q | q
        · exact hp.out j q
        · rw [q]; exact h)
      have HR := Lib.hid (fun W hW hw => rule_any k hlt c W hW hw hp.out)
      obtain ⟨v, hv⟩ : ∃ v, v = (errs c).getD k 0 := ⟨_, rfl⟩
      obtain ⟨f, hf⟩ : ∃ f, f = ruleF k := ⟨_, rfl⟩
      rw [← hv] at HD HS HN HR
      have hcf := fun args W => ruleF_enter k hlt args W
      rw [← hf] at HR hcell hcf
      clear hv hf
      simp only [Nat.zero_add] at hix
      have hst : ∀ (W : World) (a : Addr), (store a (.func (.func f) #[] #[])).run Tryz.prog W = stored Tryz.prog W a (.func (.func f) #[] #[]) .plain := fun W a => run_store Tryz.prog W a _ _ rfl
      by_cases hv0 : v = 0
      · subst hv0
        have HD0 := Lib.hid (ht.out.trans (HD.out rfl))
        have HN0 := Lib.hid (HN.out rfl)
        clear HD HN HS
        go_wp2_with ((with_reducible refine (HR.out _ ((HC.out.on hb).al _) ((HW.out.on hb).al _)).mono ?_); rintro e w1 ⟨rfl, hb1⟩)
        go_roundw
        case rel => exact ⟨k + 1, by omega, by go_num, HD0, HN0, (hB1.alloc _).on hb1, (hB2.alloc _).on hb1, below_then (hb.alloc hz _) hb1⟩
        case measure => simp [intOf]; omega
      · have hvb := beq_eq_false_iff_ne.2 hv0
        have HV := Lib.hid hv0
        have HE := Lib.hid (ht.out.trans (HS.out hv0))
        clear hv0
        go_wp2_with ((with_reducible refine (HR.out _ ((HC.out.on hb).al _) ((HW.out.on hb).al _)).mono ?_); rintro e w1 ⟨rfl, hb1⟩)
        go_ret2
        exact ⟨below_then (hb.alloc hz _) hb1, .inl ⟨by rw [HE.out]; exact HV.out, by rw [HE.out]; rfl⟩⟩
    · have HX := Lib.hid (show newE c = 0 by rw [ht.out, List.drop_of_length_le (by have := HLE.out; omega)]; rfl)
      clear ht hp
      go_wp2_with fail
      refine Reg.wp_slots (fun t => t == 2 || t == 3 || decide (21 ≤ t)) (by kernel_rfl) (by kernel_rfl) (by kernel_rfl) (fun zz => (Reg.tbl [
        (21, .is (.agg #[.int .i64 c.N, .slice c.pA c.pn c.pc, .slice c.sA c.sn c.sc, .int .i64 c.L, .slice c.bA c.bn c.bc, .slice c.tA c.tn c.tc, .int .i64 c.M, .int .i64 c.G, .int .i64 c.F])),
        (22, .cpy c w.heap.size),
        (23, .is (.agg #[.int .i64 c.N, .slice c.pA c.pn c.pc, .slice c.sA c.sn c.sc, .int .i64 c.L, .slice c.bA c.bn c.bc, .slice c.tA c.tn c.tc, .int .i64 c.M, .int .i64 c.G, .int .i64 c.F])),
        (24, .cpy c w.heap.size),
        (25, .netN c w.heap.size),
        (26, .netpN c w.heap.size),
        (2, .netpN c w.heap.size),
        (3, .is (.int .i64 0))] zz).P) (fun zz => (Reg.tbl _ zz).on) ?_ ?_
      · simp only [Reg.frame, Reg.over, Nat.reduceAdd, Nat.reduceBEq, Nat.reduceLeDiff, decide_true, decide_false, Bool.or_true, Bool.or_false, if_true, Bool.false_eq_true, if_false]
        refine ⟨?_, ?_, ?_, ?_, ?_, ?_, ?_, ?_, trivial⟩
        · intro x u hbu hd
          obtain ⟨q0, q1, q2, q3, q4, q5, q6, q7, q8⟩ := (hB1.on hbu).cf
          refine wpOp_step rfl fun K hK => ?_
          go_simp
          exact hK _ _ ⟨_, rfl, Below.refl _ _, fun d hd => by cases hd; exact rfl⟩
        · intro x u hbu hd
          have h21 : x 21 = .agg #[.int .i64 c.N, .slice c.pA c.pn c.pc, .slice c.sA c.sn c.sc, .int .i64 c.L, .slice c.bA c.bn c.bc, .slice c.tA c.tn c.tc, .int .i64 c.M, .int .i64 c.G, .int .i64 c.F] := hd 0 (by decide)
          refine wpOp_step rfl fun K hK => ?_
          simp only [h21] at hK ⊢
          go_simp
          refine (copied_any c u (HC.out.on (below_then hb hbu))).mono ?_
          rintro e w2 ⟨A1, A2, A3, A4, rfl, o1, b1⟩
          exact hK _ _ ⟨_, rfl, b1, fun d hd => by cases hd; exact ⟨A1, A2, A3, A4, rfl, o1.mono (Nat.le_trans hz hbu.size)⟩⟩
        · intro x u hbu hd
          obtain ⟨q0, q1, q2, q3, q4, q5, q6, q7, q8⟩ := (hB1.on hbu).cf
          refine wpOp_step rfl fun K hK => ?_
          go_simp
          exact hK _ _ ⟨_, rfl, Below.refl _ _, fun d hd => by cases hd; exact rfl⟩
        · intro x u hbu hd
          have h23 : x 23 = .agg #[.int .i64 c.N, .slice c.pA c.pn c.pc, .slice c.sA c.sn c.sc, .int .i64 c.L, .slice c.bA c.bn c.bc, .slice c.tA c.tn c.tc, .int .i64 c.M, .int .i64 c.G, .int .i64 c.F] := hd 2 (by decide)
          refine wpOp_step rfl fun K hK => ?_
          simp only [h23] at hK ⊢
          go_simp
          refine (copied_any c u (HC.out.on (below_then hb hbu))).mono ?_
          rintro e w2 ⟨A1, A2, A3, A4, rfl, o1, b1⟩
          exact hK _ _ ⟨_, rfl, b1, fun d hd => by cases hd; exact ⟨A1, A2, A3, A4, rfl, o1.mono (Nat.le_trans hz hbu.size)⟩⟩
        · intro x u hbu hd
          have k22 : (Reg.Fact.cpy c w.heap.size).P (x 22) u := hd 1 (by decide)
          have k24 : (Reg.Fact.cpy c w.heap.size).P (x 24) u := hd 3 (by decide)
          obtain ⟨A1, A2, A3, A4, h22, o1⟩ := k22
          obtain ⟨B1, B2, B3, B4, h24, o2⟩ := k24
          refine wpOp_step rfl fun K hK => ?_
          simp only [h22, h24] at hK ⊢
          go_simp
          exact hK _ _ ⟨_, rfl, Below.refl _ _, fun d hd => by cases hd; exact ⟨c.to A1 A2 A3 A4, B1, B2, B3, B4, rfl, ⟨rfl, rfl⟩, o2⟩⟩
        · intro x u hbu hd
          have k25 : (Reg.Fact.netN c w.heap.size).P (x 25) u := hd 4 (by decide)
          obtain ⟨b, A1, A2, A3, A4, h25, hq, o1⟩ := k25
          have HQ := Lib.hid hq; clear hq
          refine wpOp_step rfl fun K hK => ?_
          simp only [h25] at hK ⊢
          go_simp
          exact hK _ _ ⟨_, rfl, below_al (Below.refl _ _) _, fun d hd => by cases hd; exact ⟨u.heap.size, b, A1, A2, A3, A4, rfl, Nat.le_trans hz hbu.size, Blk.new _ _ _, HQ.out, o1.on (below_al (Below.refl _ _) _)⟩⟩
        · intro x u hbu hd
          have k26 : (Reg.Fact.netpN c w.heap.size).P (x 26) u := hd 5 (by decide)
          obtain ⟨g, b, A1, A2, A3, A4, h26, hg, hN, hq, o1⟩ := k26
          have HQ := Lib.hid hq; clear hq
          refine wpOp_step rfl fun K hK => ?_
          simp only [h26] at hK ⊢
          go_simp
          exact hK _ _ ⟨_, rfl, Below.refl _ _, fun d hd => by cases hd; exact ⟨g, b, A1, A2, A3, A4, rfl, hg, hN, HQ.out, o1⟩⟩
        · intro x u hbu hd
          refine wpOp_step rfl fun K hK => ?_
          go_simp
          exact hK _ _ ⟨_, rfl, Below.refl _ _, fun d hd => by cases hd; exact rfl⟩
      · intro x u hbu hd
        have k2 : (Reg.Fact.netpN c w.heap.size).P (x 2) u := hd 6 (by decide)
        have h3 : x 3 = .int .i64 0 := hd 7 (by decide)
        obtain ⟨g, b, A1, A2, A3, A4, h2, hg, hN, hq, o1⟩ := k2
        have HQ := Lib.hid hq; clear hq
        simp only [Reg.frame, Reg.over, Nat.reduceAdd, Nat.reduceBEq, Nat.reduceLeDiff, decide_true, decide_false, Bool.or_true, Bool.or_false, if_true, Bool.false_eq_true, if_false, h2, h3]
        go_wp2_with fail
        go_ret2
        exact ⟨below_then hb hbu, .inr ⟨HX.out, g, b, A1, A2, A3, A4, rfl, hg, hN, HQ.out, o1⟩⟩

theorem new_yesN (c : Cf) (w : World) (hc : CfIn w c) (hw : Ways w) (h0 : newE c = 0) :
    Calls Tryz.prog 21 #[.agg #[.int .i64 c.N, .slice c.pA c.pn c.pc, .slice c.sA c.sn c.sc, .int .i64 c.L, .slice c.bA c.bn c.bc, .slice c.tA c.tn c.tc, .int .i64 c.M, .int .i64 c.G, .int .i64 c.F]] w fun e w' => ∃ (g : Nat) (A1 A2 A3 A4 : Option Addr), e = .returned (.tuple #[.pointer (some ⟨g, 0, none⟩), .int .i64 0]) ∧ w.heap.size ≤ g ∧ NetIs w' (.pointer (some ⟨g, 0, none⟩)) (c.to A1 A2 A3 A4) ∧ (w'.cell? ⟨g, 0, none⟩ = some (.int .i64 c.N) ∧ w'.cell? ⟨g, 3, none⟩ = some (.int .i64 c.L)) ∧ Below w.heap.size w w' := by
  refine (new_anyN c w hc hw).mono fun e w' h => ?_
  obtain ⟨hb, ⟨h1, _⟩ | ⟨_, g, b, A1, A2, A3, A4, rfl, hg, hB, hq, ho⟩⟩ := h
  · exact absurd h0 h1
  · refine ⟨g, A1, A2, A3, A4, rfl, hg, .inr ⟨g, b, rfl, ⟨_, [], hB⟩, ho.in_⟩, ⟨?_, ?_⟩, hb⟩
    · rw [← hq.1]; exact (hB.cell 0).trans rfl
    · rw [← hq.2]; exact (hB.cell 3).trans rfl
end Go.Proofs.YtkejpkcaojidaaaGreatDoor

namespace Go.Proofs.YtkejpkcaojidaaaGreatDoor
set_option linter.unusedVariables false
set_option linter.unusedSimpArgs false
open Go.RowKit Rg
set_option linter.unusedVariables false

def exF : Fr := ⟨0, 2, 0, 3, 5⟩
theorem exF_fit : exF.Fit := ⟨by decide, by decide, by decide, by decide, by decide, by decide, by decide, by decide⟩
theorem exF_may : mayB exF.o exF.k = true := by decide
/-- The example's symbols, counted. -/
def sy : Nat → Int := knF (goodL exF)
/-- What is given at a place of the direction, in a tick. -/
def Zv (p t : Nat) : Int := if 1 + p ≤ t ∧ t < 115 + p then (goodL exF).getD (t - (1 + p)) 0 else 0
/-- How many pairs a catch at that place has had by then. -/
def cnt (p t : Nat) : Nat := min (t - (1 + p)) 114
theorem cnt_le (p t : Nat) : cnt p t ≤ 114 := Nat.min_le_right _ _
theorem cnt_zero (p : Nat) : cnt p 0 = 0 := by unfold cnt; omega
theorem op_iff (p t : Nat) : opB (wnM (p : Int)) (t : Int) = decide (1 + p ≤ t ∧ t < 115 + p) := by
  unfold opB wnM
  by_cases h : 1 + p ≤ t ∧ t < 115 + p
  · rw [decide_eq_true h, decide_eq_true (by simp only; omega)]
  · rw [decide_eq_false h, decide_eq_false (by simp only; omega)]
theorem cnt_step (p t : Nat) : stepN (opB (wnM (p : Int)) (t : Int)) (cnt p t) = cnt p (t + 1) := by
  rw [op_iff]
  unfold stepN cnt
  by_cases h : 1 + p ≤ t ∧ t < 115 + p
  · rw [decide_eq_true h, if_pos ⟨rfl, by omega⟩]; omega
  · rw [decide_eq_false h, if_neg (by simp)]; omega
theorem outC_good {n : Nat} (h : n < 114) : outC sy sy 0 n = (goodL exF).getD n 0 := by
  have := goodL_out exF_fit exF_may
  rw [← outL_at sy sy 0 114 n h]
  exact congrArg (fun l => l.getD n 0) this
theorem out_step (p t : Nat) : stepR (opB (wnM (p : Int)) (t : Int)) sy sy 0 (cnt p t) = Zv p t := by
  rw [op_iff]
  unfold stepR Zv
  by_cases h : 1 + p ≤ t ∧ t < 115 + p
  · rw [decide_eq_true h, if_pos ⟨rfl, by unfold cnt; omega⟩, if_pos h, outC_good (by unfold cnt; omega)]
    congr 1
    unfold cnt; omega
  · rw [decide_eq_false h, if_neg (by simp), if_neg h]
theorem in_step {p t h : Nat} (hh : h ≤ p) (ho : opB (wnM (p : Int)) (t : Int) = true) : kn (Zv (p - h) (t - h)) = sy (cnt p t) := by
  rw [op_iff, decide_eq_true_eq] at ho
  unfold Zv
  rw [if_pos (by omega)]
  unfold sy knF cnt
  congr 2
  omega
theorem half_out (s : Bool) (t : Nat) : outM (symF exF) (wb s) (t : Int) = Zv (if s then 1 else 0) t := by
  have e : symF exF = goodL exF := rfl
  unfold outM Zv
  rw [e]
  cases s
  · have : opB (wb false) (t : Int) = decide (1 + 0 ≤ t ∧ t < 115 + 0) := by
      unfold opB wb
      by_cases h : 1 + 0 ≤ t ∧ t < 115 + 0
      · rw [decide_eq_true h, decide_eq_true (by simp only [Bool.false_eq_true, if_false]; omega)]
      · rw [decide_eq_false h, decide_eq_false (by simp only [Bool.false_eq_true, if_false]; omega)]
    rw [opI, this]
    by_cases h : 1 + 0 ≤ t ∧ t < 115 + 0
    · simp only [decide_eq_true h, if_true, Bool.false_eq_true, if_false, if_pos h]
      congr 1
      unfold wb; simp only [Bool.false_eq_true, if_false]; omega
    · simp only [decide_eq_false h, Bool.false_eq_true, if_false, if_neg h]
  · have : opB (wb true) (t : Int) = decide (1 + 1 ≤ t ∧ t < 115 + 1) := by
      unfold opB wb
      by_cases h : 1 + 1 ≤ t ∧ t < 115 + 1
      · rw [decide_eq_true h, decide_eq_true (by simp only [if_true]; omega)]
      · rw [decide_eq_false h, decide_eq_false (by simp only [if_true]; omega)]
    rw [opI, this]
    by_cases h : 1 + 1 ≤ t ∧ t < 115 + 1
    · simp only [decide_eq_true h, if_true, if_pos h]
      congr 1
      unfold wb; simp only [if_true]; omega
    · simp only [decide_eq_false h, Bool.false_eq_true, if_false, if_true, if_neg h]

/-- A node's place in a direction. -/
def plc (d j : Nat) : Nat := if d = 0 then j else if j = 0 then 1 else if j = 1 then 0 else if j = 2 then 3 else 2
/-- What is given on a link in a tick. -/
def GZ (t k : Nat) : Option Int := some (Zv (plc (k / 2 % 2) (k / 4)) t)
def GP (t K : Nat) : Nat → Option Int := fun k => if k < K then GZ t k else none
def HZ (t : Nat) : Nat → Option Int := fun k => if k < 16 then (if k % 2 = 0 then (if 1 ≤ t then GZ (t - 1) k else none) else (if 2 ≤ t then GZ (t - 2) k else none)) else none
def XZ (t : Nat) : Nat → Option Int := fun k => if k < 16 ∧ k % 2 = 1 ∧ 1 ≤ t then GZ (t - 1) k else none
theorem HZ_zero : HZ 0 = noneW := by
  funext k
  unfold HZ noneW
  split
  · split
    · rw [if_neg (by omega)]
    · rw [if_neg (by omega)]
  · rfl
theorem XZ_zero : XZ 0 = noneW := by
  funext k
  unfold XZ noneW
  rw [if_neg (by omega)]
theorem GP_zero (t : Nat) : GP t 0 = noneW := by
  funext k
  unfold GP noneW
  rw [if_neg (by omega)]
theorem GP_give {t K : Nat} (hK : K < 16) : updW 4 (GP t K) (K : Int) (some (Zv (plc (K / 2 % 2) (K / 4)) t)) = GP t (K + 1) := by
  rw [upd_in _ _ (by omega)]
  funext k
  unfold upd GP
  by_cases e : k = K
  · subst e; rw [if_pos rfl, if_pos (by omega)]; rfl
  · rw [if_neg e]
    by_cases h : k < K
    · rw [if_pos h, if_pos (by omega)]
    · rw [if_neg h, if_neg (by omega)]
theorem now_Z (t : Nat) : nowW (XZ t) (GP t 16) = HZ (t + 1) := by
  funext k
  unfold nowW nowL hopN XZ GP HZ
  by_cases hk : k < 16
  · rw [if_pos hk, if_pos hk]
    by_cases h2 : k % 2 = 0
    · rw [if_pos (by omega), if_pos h2, if_pos (by omega), Nat.add_sub_cancel]
    · rw [if_neg (by omega), if_neg h2]
      by_cases h3 : 1 ≤ t
      · rw [if_pos ⟨hk, by omega, h3⟩, if_pos (by omega), show t + 1 - 2 = t - 1 by omega]
      · rw [if_neg (by omega), if_neg (by omega)]
  · simp only [hk, if_false, false_and, ite_self]
theorem next_Z (t : Nat) : nextW (XZ t) (GP t 16) = XZ (t + 1) := by
  funext k
  unfold nextW nextL hopN XZ GP
  by_cases hk : k < 16
  · rw [if_pos hk]
    by_cases h2 : k % 2 = 0
    · rw [if_pos (by omega), if_neg (by omega), if_neg (by omega)]
    · rw [if_neg (by omega), if_pos ⟨hk, by omega, by omega⟩, Nat.add_sub_cancel]
  · simp only [hk, if_false, false_and, ite_self]
/-- What comes to a node that is no half, while its window is open: what stood at the places ahead gave as many ticks ago. -/
theorem here_Z (t : Nat) (i d h : Nat) (hi : i = 2 ∨ i = 3) (hd : d = 0 ∨ d = 1) (hh : h = 1 ∨ h = 2) (ho : opB (wnM (plc d i : Int)) (t : Int) = true) : (hereW 4 (HZ t) (d : Int) (i : Int) (h : Int)).getD 0 = Zv (plc d i - h) (t - h) ∧ h ≤ plc d i := by
  rw [op_iff, decide_eq_true_eq] at ho
  rcases hi with rfl | rfl <;> rcases hd with rfl | rfl <;> rcases hh with rfl | rfl
  · have e : hereW 4 (HZ t) (0 : Int) (2 : Int) (1 : Int) = HZ t 4 := rfl
    refine ⟨?_, by decide⟩
    show (hereW 4 (HZ t) (0 : Int) (2 : Int) (1 : Int)).getD 0 = _
    rw [e, HZ, if_pos (by decide), if_pos (by decide), if_pos (by omega)]; rfl
  · have e : hereW 4 (HZ t) (0 : Int) (2 : Int) (2 : Int) = HZ t 1 := rfl
    refine ⟨?_, by decide⟩
    show (hereW 4 (HZ t) (0 : Int) (2 : Int) (2 : Int)).getD 0 = _
    rw [e, HZ, if_pos (by decide), if_neg (by decide), if_pos (by simp [plc] at ho; omega)]; rfl
  · have e : hereW 4 (HZ t) (1 : Int) (2 : Int) (1 : Int) = HZ t 14 := rfl
    refine ⟨?_, by decide⟩
    show (hereW 4 (HZ t) (1 : Int) (2 : Int) (1 : Int)).getD 0 = _
    rw [e, HZ, if_pos (by decide), if_pos (by decide), if_pos (by omega)]; rfl
  · have e : hereW 4 (HZ t) (1 : Int) (2 : Int) (2 : Int) = HZ t 3 := rfl
    refine ⟨?_, by decide⟩
    show (hereW 4 (HZ t) (1 : Int) (2 : Int) (2 : Int)).getD 0 = _
    rw [e, HZ, if_pos (by decide), if_neg (by decide), if_pos (by simp [plc] at ho; omega)]; rfl
  · have e : hereW 4 (HZ t) (0 : Int) (3 : Int) (1 : Int) = HZ t 8 := rfl
    refine ⟨?_, by decide⟩
    show (hereW 4 (HZ t) (0 : Int) (3 : Int) (1 : Int)).getD 0 = _
    rw [e, HZ, if_pos (by decide), if_pos (by decide), if_pos (by omega)]; rfl
  · have e : hereW 4 (HZ t) (0 : Int) (3 : Int) (2 : Int) = HZ t 5 := rfl
    refine ⟨?_, by decide⟩
    show (hereW 4 (HZ t) (0 : Int) (3 : Int) (2 : Int)).getD 0 = _
    rw [e, HZ, if_pos (by decide), if_neg (by decide), if_pos (by simp [plc] at ho; omega)]; rfl
  · have e : hereW 4 (HZ t) (1 : Int) (3 : Int) (1 : Int) = HZ t 2 := rfl
    refine ⟨?_, by decide⟩
    show (hereW 4 (HZ t) (1 : Int) (3 : Int) (1 : Int)).getD 0 = _
    rw [e, HZ, if_pos (by decide), if_pos (by decide), if_pos (by omega)]; rfl
  · have e : hereW 4 (HZ t) (1 : Int) (3 : Int) (2 : Int) = HZ t 7 := rfl
    refine ⟨?_, by decide⟩
    show (hereW 4 (HZ t) (1 : Int) (3 : Int) (2 : Int)).getD 0 = _
    rw [e, HZ, if_pos (by decide), if_neg (by decide), if_pos (by simp [plc] at ho; omega)]; rfl
/-- At the end each is high with the example's frame. -/
theorem end_high : hiB sy sy 0 (cnt 2 120) = true ∧ hiF sy sy 0 (cnt 2 120) = exF ∧ hiB sy sy 0 (cnt 3 120) = true ∧ hiF sy sy 0 (cnt 3 120) = exF := by
  have e1 : cnt 2 120 = 114 := by decide
  have e2 : cnt 3 120 = 114 := by decide
  rw [e1, e2]
  exact ⟨goodL_high exF_fit exF_may, goodL_frame exF_fit exF_may, goodL_high exF_fit exF_may, goodL_frame exF_fit exF_may⟩
theorem exW (d i : Nat) (hd : d = 0 ∨ d = 1) (hi : i < 4) : ofW 4 [0, 2] (d : Int) 0 (i : Int) = wnM (plc d i : Int) ∧ ofWE 4 [0, 2] (d : Int) 0 (i : Int) = 0 := by
  rcases (show i = 0 ∨ i = 1 ∨ i = 2 ∨ i = 3 by omega) with rfl | rfl | rfl | rfl <;> rcases hd with rfl | rfl <;> exact ⟨rfl, rfl⟩
end Go.Proofs.YtkejpkcaojidaaaGreatDoor

namespace Go.Proofs.YtkejpkcaojidaaaGreatDoor
set_option linter.unusedVariables false
set_option linter.unusedSimpArgs false
open Go.RowKit Rg
set_option linter.unusedVariables false

/-- What another node runs behind t ticks of the slot. -/
def stO (j t : Nat) : PSt := .oth (wnM (plc 0 j : Int)) (wnM (plc 1 j : Int)) (catS sy sy 0 (cnt (plc 0 j) t)) (catS sy sy 0 (cnt (plc 1 j) t))
def stN (pv : Nat → Option Addr) (j t : Nat) : PSt := if j < 2 then .half (pv j) else stO j t
/-- The flow of node j, behind t ticks of the slot. -/
def FSt (w : World) (f B : Nat) (pv : Nat → Option Addr) (j t : Nat) : Prop := FlowN w f B 4 [0, 2] (j : Int) (stN pv j t)
theorem plc_le {d j : Nat} (hd : d = 0 ∨ d = 1) (hj : j < 4) : plc d j ≤ 3 := by
  rcases (show j = 0 ∨ j = 1 ∨ j = 2 ∨ j = 3 by omega) with rfl | rfl | rfl | rfl <;> rcases hd with rfl | rfl <;> decide
theorem wnM_fit {p : Nat} (h : p ≤ 3) : WnFit (wnM (p : Int)) := by
  unfold WnFit wnM
  simp only
  omega
theorem FlowN.ticked {w w' : World} {f B : Nat} {N : Int} {P : List Int} {x : Int} {s' : PSt} {fb c : Cf} (h2 : CfLow w B c) (h3 : c.N = N) (h4 : c.P = P) (h5 : N = 0 ∨ 4 ≤ N ∧ N ≤ 16) (h6 : B ≤ f) (hF : FlowB w' f fb c x s') (hk : But f w w') : FlowN w' f B N P x s' :=
  ⟨fb, c, hF, h2.keep (Nat.le_refl _) (hk.1.mono h6), h3, h4, h5, h6⟩
theorem node_half {w : World} {f B : Nat} {N : Int} {P : List Int} {x : Int} {p : Option Addr} (h : FlowN w f B N P x (.half p)) (q a0 a1 b0 b1 : Int) (ra rb : Int) (HO : ∀ u, Below w.heap.size w u → Calls Tryz.prog 171 #[.pointer p, .int .i64 q] u fun e w' => e = .returned (.tuple #[.int .u8 ra, .int .u8 rb]) ∧ Below u.heap.size u w') :
    Calls Tryz.prog 10 #[.pointer (some ⟨f, 0, none⟩), .int .i64 q, .agg #[.int .u8 a0, .int .u8 a1, .int .u8 b0, .int .u8 b1]] w fun e w' => e = .returned (.agg #[.int .u8 ra, .int .u8 rb]) ∧ FlowN w' f B N P x (.half p) ∧ But f w w' := by
  obtain ⟨fb, c, h1, h2, h3, h4, h5, h6⟩ := h
  refine (tick_half (.half p) (.half p) rfl (.agg #[.pointer p]) rfl q a0 a1 b0 b1 ra rb w h1 fun u hu => ?_).mono fun e w' ⟨q1, q2, q3⟩ => ⟨q1, FlowN.ticked h2 h3 h4 h5 h6 q2 q3, q3⟩
  exact halfTick_is p q a0 a1 b0 b1 ra rb u fun u' hu' => HO u' (below_then hu hu')
theorem node_oth {w : World} {f B : Nat} {N : Int} {P : List Int} {z : Int} {X Y : Wn} {x y x' y' : Nat → Int} {o : Int} {n m : Nat} (h : FlowN w f B N P z (.oth X Y (catS x y o n) (catS x' y' o m))) (hfX : WnFit X) (hfY : WnFit Y) (hn : n ≤ 114) (hm : m ≤ 114) (q a0 a1 b0 b1 : Int)
    (hxa : opB X q = true → n < 114 → kn a0 = x n ∧ kn a1 = y n) (hxb : opB Y q = true → m < 114 → kn b0 = x' m ∧ kn b1 = y' m) (ra rb : Int) (hra : stepR (opB X q) x y o n = ra) (hrb : stepR (opB Y q) x' y' o m = rb) (n' m' : Nat) (hn' : stepN (opB X q) n = n') (hm' : stepN (opB Y q) m = m') :
    Calls Tryz.prog 10 #[.pointer (some ⟨f, 0, none⟩), .int .i64 q, .agg #[.int .u8 a0, .int .u8 a1, .int .u8 b0, .int .u8 b1]] w fun e w' => e = .returned (.agg #[.int .u8 ra, .int .u8 rb]) ∧ FlowN w' f B N P z (.oth X Y (catS x y o n') (catS x' y' o m')) ∧ But f w w' := by
  obtain ⟨fb, c, h1, h2, h3, h4, h5, h6⟩ := h
  refine (tick_oth (.oth X Y (catS x y o n) (catS x' y' o m)) (.oth X Y (catS x y o n') (catS x' y' o m')) rfl (.agg (othL X Y (catS x y o n') (catS x' y' o m')).toArray) rfl q a0 a1 b0 b1 ra rb w h1 fun u hu => ?_).mono fun e w' ⟨q1, q2, q3⟩ => ⟨q1, FlowN.ticked h2 h3 h4 h5 h6 q2 q3, q3⟩
  exact othTick_is X Y hfX hfY x y x' y' o n m hn hm q a0 a1 b0 b1 _ _ rfl rfl hxa hxb ra rb hra hrb n' m' hn' hm' u
theorem node_tick {w : World} {f B : Nat} {pv : Nat → Option Addr} {j t : Nat} (hj : j < 4) (h : FSt w f B pv j t) (HS : j < 2 → Says (decide (j = 1)) exF w (.pointer (pv j))) (a0 a1 b0 b1 : Int)
    (ha : 2 ≤ j → opB (wnM (plc 0 j : Int)) (t : Int) = true → kn a0 = sy (cnt (plc 0 j) t) ∧ kn a1 = sy (cnt (plc 0 j) t)) (hb : 2 ≤ j → opB (wnM (plc 1 j : Int)) (t : Int) = true → kn b0 = sy (cnt (plc 1 j) t) ∧ kn b1 = sy (cnt (plc 1 j) t)) :
    Calls Tryz.prog 10 #[.pointer (some ⟨f, 0, none⟩), .int .i64 (t : Int), .agg #[.int .u8 a0, .int .u8 a1, .int .u8 b0, .int .u8 b1]] w fun e w' => e = .returned (.agg #[.int .u8 (Zv (plc 0 j) t), .int .u8 (Zv (plc 1 j) t)]) ∧ FSt w' f B pv j (t + 1) ∧ But f w w' := by
  unfold FSt at h ⊢
  by_cases h2 : j < 2
  · have e1 : stN pv j t = .half (pv j) := by rw [stN, if_pos h2]
    have e2 : stN pv j (t + 1) = .half (pv j) := by rw [stN, if_pos h2]
    rw [e1] at h
    rw [e2]
    refine node_half h (t : Int) a0 a1 b0 b1 _ _ fun u hu => out_says (decide (j = 1)) exF _ (t : Int) _ _ ?_ ?_ u ((HS h2).on hu)
    · rw [half_out]
      rcases (show j = 0 ∨ j = 1 by omega) with rfl | rfl <;> rfl
    · rw [half_out]
      rcases (show j = 0 ∨ j = 1 by omega) with rfl | rfl <;> rfl
  · have e1 : ∀ t, stN pv j t = stO j t := fun t => by rw [stN, if_neg h2]
    rw [e1] at h
    rw [e1]
    exact node_oth h (wnM_fit (plc_le (.inl rfl) hj)) (wnM_fit (plc_le (.inr rfl) hj)) (cnt_le _ _) (cnt_le _ _) (t : Int) a0 a1 b0 b1 (fun q _ => ha (by omega) q) (fun q _ => hb (by omega) q) _ _ (out_step _ _) (out_step _ _) _ _ (cnt_step _ _) (cnt_step _ _)
end Go.Proofs.YtkejpkcaojidaaaGreatDoor

namespace Go.Proofs.YtkejpkcaojidaaaGreatDoor
set_option linter.unusedVariables false
set_option linter.unusedSimpArgs false
open Go.RowKit Rg
set_option linter.unusedVariables false

theorem flow_cell {w : World} {f : Nat} {b c : Cf} {x : Int} {s : PSt} (h : FlowB w f b c x s) {i : Nat} (hi : 20 ≤ i) : w.cell? ⟨f, i, none⟩ = none := by
  rw [Blk.cell h i]
  exact Array.getElem?_eq_none hi
theorem blk_ne {w : World} {g f : Nat} {t t' : TypeId} {cs cs' : Array Value} (h : Blk w g t cs) (k : Blk w f t' cs') (hs : cs.size ≠ cs'.size) : g ≠ f := by
  rintro rfl
  have e := h.symm.trans k
  injection e with e
  injection e with e1 _
  exact hs (congrArg Array.size e1)
theorem blk_neT {w : World} {g f : Nat} {t t' : TypeId} {cs cs' : Array Value} (h : Blk w g t cs) (k : Blk w f t' cs') (hs : t ≠ t') : g ≠ f := by
  rintro rfl
  have e := h.symm.trans k
  injection e with e
  injection e with _ e1
  exact hs e1
section
variable {w w' : World} {f : Nat} {fb c : Cf} {x : Int} {q : PSt}
theorem Says.but {s : Bool} {F : Fr} {v : Value} (h : Says s F w v) (hf : FlowB w f fb c x q) (hk : But f w w') : Says s F w' v := by
  obtain ⟨g, k, A, rfl, h1, h2, h3⟩ := h
  refine ⟨g, k, A, rfl, hk.blk h1 (blk_ne h1 hf (by show (13 : Nat) ≠ 20; decide)), hk.blk h2 (blk_ne h2 hf (by show (1 : Nat) ≠ 20; decide)), h3.1, fun hn => ?_⟩
  obtain ⟨b, off, e, hb, hc⟩ := h3.2 hn
  have hbf : b ≠ f := by
    rintro rfl
    have := hc 113 (by omega)
    rw [flow_cell hf (by omega)] at this
    cases this
  refine ⟨b, off, e, Nat.lt_of_lt_of_le hb hk.1.size, fun j hj => ?_⟩
  rw [← hc j hj]
  simp only [World.cell?, hk.2 b hb hbf]
theorem SaysG.but {s : Bool} {F : Fr} {v : Value} (h : SaysG s F w v) (hf : FlowB w f fb c x q) (hk : But f w w') : SaysG s F w' v := by
  obtain ⟨g, k, gs, rfl, h1, h2, h3⟩ := h
  exact ⟨g, k, gs, rfl, hk.blk h1 (blk_neT h1 hf (by decide)), hk.blk h2 (blk_neT h2 hf (by decide)), hk.blk h3 (blk_neT h3 hf (by decide))⟩
theorem Mute.but {v : Value} (h : Mute w v) (hf : FlowB w f fb c x q) (hk : But f w w') : Mute w' v := by
  rcases h with rfl | ⟨g, rfl, h⟩
  · exact .inl rfl
  · exact .inr ⟨g, rfl, hk.blk h (blk_ne h hf (by show (13 : Nat) ≠ 20; decide))⟩
theorem Snd.but {t s : Bool} {F : Fr} {v : Value} (h : Snd t s F w v) (hf : FlowB w f fb c x q) (hk : But f w w') : Snd t s F w' v := by
  rcases h with ⟨e, h⟩ | ⟨e, e2, h⟩
  · exact .inl ⟨e, h.but hf hk⟩
  · exact .inr ⟨e, e2, h.but hf hk⟩
end
/-- What is left of a Begin: the flow runs that; beside it memory has grown alone. -/
def Begun (w w' : World) (f B : Nat) (N : Int) (P : List Int) (x : Int) (s : PSt) : Prop := FlowN w' f B N P x s ∧ ∃ u, Below w.heap.size w u ∧ But f u w'
section
variable {f B : Nat} {N : Int} {P : List Int} {x : Int} {s : PSt} {o : Int} {a b : Sd} {w : World}
theorem begin_err {E : Int} (h : FlowN w f B N P x s) (hw : Laid2 w)
    (HP : ∀ u, Below w.heap.size w u → FlowN u f B N P x s → Laid2 u → Calls Tryz.prog 25 #[.pointer (some ⟨f, 0, none⟩), .int .i64 o, .agg #[.bool a.i, .int .i64 a.a, .int .u8 a.k, .int .u8 a.s, .int .u32 a.q, .int .u32 a.v], .agg #[.bool b.i, .int .i64 b.a, .int .u8 b.k, .int .u8 b.s, .int .u32 b.q, .int .u32 b.v]] u fun e w' => e = .returned (.tuple #[.nilIface, .int .i64 E]) ∧ Below u.heap.size u w') :
    Calls Tryz.prog 8 #[.pointer (some ⟨f, 0, none⟩), .int .i64 o, .agg #[.bool a.i, .int .i64 a.a, .int .u8 a.k, .int .u8 a.s, .int .u32 a.q, .int .u32 a.v], .agg #[.bool b.i, .int .i64 b.a, .int .u8 b.k, .int .u8 b.s, .int .u32 b.q, .int .u32 b.v]] w fun e w' => e = .returned (.int .i64 E) ∧ Begun w w' f B N P x .no ∧ ∃ u, Below w.heap.size w u ∧ FlowN u f B N P x s ∧ w' = u.setCell ⟨f, 19, none⟩ .nilIface := by
  refine (begin_no f B N P x s o a b w h hw E HP).mono fun e w' ⟨u, q1, q2, q3, q4⟩ => ?_
  obtain ⟨k1, k2⟩ := q3.put .no .nilIface rfl
  exact ⟨q1, by rw [q4]; exact ⟨k1, u, q2, k2⟩, u, q2, q3, q4⟩
/-- No window: an error. -/
theorem begin_bad {E : Int} (hE : ofWE N P 0 o x = E) (h0 : E ≠ 0) (h : FlowN w f B N P x s) (hw : Laid2 w) :
    Calls Tryz.prog 8 #[.pointer (some ⟨f, 0, none⟩), .int .i64 o, .agg #[.bool a.i, .int .i64 a.a, .int .u8 a.k, .int .u8 a.s, .int .u32 a.q, .int .u32 a.v], .agg #[.bool b.i, .int .i64 b.a, .int .u8 b.k, .int .u8 b.s, .int .u32 b.q, .int .u32 b.v]] w fun e w' => e = .returned (.int .i64 E) ∧ Begun w w' f B N P x .no ∧ ∃ u, Below w.heap.size w u ∧ FlowN u f B N P x s ∧ w' = u.setCell ⟨f, 19, none⟩ .nilIface :=
  begin_err h hw fun u hu hf hl => partOf_bad f B N P x s o a b _ rfl u hf hl E hE h0
theorem ofW_half {sd : Bool} (hN : N ≠ 0) (hp : plM N P 0 o x = halfI sd) : (ofW N P 0 o x).r = 1 ∧ ofWE N P 0 o x = 0 := by
  obtain ⟨e1, e2⟩ := half_ofW hN hp
  rw [e1]
  exact ⟨by cases sd <;> rfl, e2⟩
/-- A half whose offers no sender may have. -/
theorem begin_kind {sd : Bool} (hN : N ≠ 0) (hp : plM N P 0 o x = halfI sd) (hs : sameB a b = true) (hm : mayB o a.k = false) (h : FlowN w f B N P x s) (hw : Laid2 w) :
    Calls Tryz.prog 8 #[.pointer (some ⟨f, 0, none⟩), .int .i64 o, .agg #[.bool a.i, .int .i64 a.a, .int .u8 a.k, .int .u8 a.s, .int .u32 a.q, .int .u32 a.v], .agg #[.bool b.i, .int .i64 b.a, .int .u8 b.k, .int .u8 b.s, .int .u32 b.q, .int .u32 b.v]] w fun e w' => e = .returned (.int .i64 1) ∧ Begun w w' f B N P x .no ∧ ∃ u, Below w.heap.size w u ∧ FlowN u f B N P x s ∧ w' = u.setCell ⟨f, 19, none⟩ .nilIface := by
  have hE : halfE N P o x = 0 := by rw [halfE, if_neg hN, hp]; cases sd <;> rfl
  obtain ⟨e1, e2⟩ := ofW_half hN hp
  refine begin_err h hw fun u hu hf hl => ?_
  refine (partOf_half f B N P x s o a b _ rfl u hf hl e2 (by simp [e1]) (fun V E' _ => V = .nilIface ∧ E' = 1) fun u' hf' hl' => ?_).mono fun e w' ⟨V, E', q1, ⟨q2, q3⟩, q4⟩ => ⟨by rw [q1, q2, q3], q4⟩
  refine (halfOf_no f B N P x s o a b u' hf' 1 (by decide) fun u2 h2 => ?_).mono fun e w' ⟨q1, q2⟩ => ⟨_, _, q1, ⟨rfl, rfl⟩, q2⟩
  exact new_kind _ N P x o a b hE hs hm u2 (hf'.on h2).net (hl'.on h2)
/-- A half: what is known of its sender is kept while the flow's block alone is written. -/
theorem begin_halfR {sd : Bool} (hN : N ≠ 0) (hp : plM N P 0 o x = halfI sd) (R : Option Addr → World → Prop) (hR : ∀ p u u' fb c q, R p u → FlowB u f fb c x q → But f u u' → R p u') (h : FlowN w f B N P x s) (hw : Laid2 w)
    (HS : ∀ u, NetP u (.pointer (some ⟨f, 0, none⟩)) N P → Laid2 u → Calls Tryz.prog 95 #[.pointer (some ⟨f, 0, none⟩), .int .i64 x, .int .i64 o, .agg #[.bool a.i, .int .i64 a.a, .int .u8 a.k, .int .u8 a.s, .int .u32 a.q, .int .u32 a.v], .agg #[.bool b.i, .int .i64 b.a, .int .u8 b.k, .int .u8 b.s, .int .u32 b.q, .int .u32 b.v]] u fun e w' => ∃ p, e = .returned (.tuple #[.pointer p, .int .i64 0]) ∧ R p w' ∧ Below u.heap.size u w') :
    Calls Tryz.prog 8 #[.pointer (some ⟨f, 0, none⟩), .int .i64 o, .agg #[.bool a.i, .int .i64 a.a, .int .u8 a.k, .int .u8 a.s, .int .u32 a.q, .int .u32 a.v], .agg #[.bool b.i, .int .i64 b.a, .int .u8 b.k, .int .u8 b.s, .int .u32 b.q, .int .u32 b.v]] w fun e w' => ∃ p, e = .returned (.int .i64 0) ∧ R p w' ∧ Begun w w' f B N P x (.half p) := by
  obtain ⟨e1, e2⟩ := ofW_half hN hp
  refine (begin_some f B N P x s o a b w h hw 161 (fun v u => ∃ p, v = .agg #[.pointer p] ∧ R p u) fun u hu hf hl => ?_).mono fun e w' ⟨u, v, q1, ⟨p, q2, q3⟩, q4, q5, q6⟩ => ?_
  · refine (partOf_half f B N P x s o a b _ rfl u hf hl e2 (by simp [e1]) (fun V E' u2 => ∃ p, V = (PSt.half p).val ∧ E' = 0 ∧ R p u2) fun u' hf' hl' => ?_).mono fun e w' ⟨V, E', q1, ⟨p, q2, q3, q5⟩, q4⟩ => ⟨.agg #[.pointer p], by rw [q1, q2, q3]; rfl, ⟨p, rfl, q5⟩, q4⟩
    exact (halfOf_yes f B N P x s o a b u' hf' R fun u2 h2 => HS u2 (hf'.on h2).net (hl'.on h2)).mono fun e w' ⟨p, q1, q2, q3⟩ => ⟨_, _, q1, ⟨p, rfl, rfl, q2⟩, q3⟩
  · obtain ⟨r1, r2⟩ := q5.put (.half p) (.iface 161 v) (by rw [q2]; rfl)
    obtain ⟨fb', c', m1, _⟩ := q5
    exact ⟨p, q1, by rw [q6]; exact hR p _ _ _ _ _ q3 m1 r2, by rw [q6]; exact ⟨r1, u, q4, r2⟩⟩
theorem begin_half {sd : Bool} (hN : N ≠ 0) (hp : plM N P 0 o x = halfI sd) (t : Bool) (ht : sameB a b = t) (ha : a.Fit) (hm : t = true → mayB o a.k = true) (F : Fr) (hF : F = if t = true then a.fr o else ⟨0, 0, 0, 0, 0⟩) (h : FlowN w f B N P x s) (hw : Laid2 w) :
    Calls Tryz.prog 8 #[.pointer (some ⟨f, 0, none⟩), .int .i64 o, .agg #[.bool a.i, .int .i64 a.a, .int .u8 a.k, .int .u8 a.s, .int .u32 a.q, .int .u32 a.v], .agg #[.bool b.i, .int .i64 b.a, .int .u8 b.k, .int .u8 b.s, .int .u32 b.q, .int .u32 b.v]] w fun e w' => ∃ p, e = .returned (.int .i64 0) ∧ Snd t sd F w' (.pointer p) ∧ Begun w w' f B N P x (.half p) := by
  obtain ⟨fb, c, k1, k2, rfl, rfl, k5⟩ := h
  refine begin_halfR hN hp (fun p u => Snd t sd F u (.pointer p)) (fun p u u' fb c q k m n => k.but m n) ⟨fb, c, k1, k2, rfl, rfl, k5⟩ hw fun u hu hl => ?_
  exact (snew_any _ c x o a b sd hN hp t ht ha hm F hF u hu hl).mono fun e w' ⟨g, r1, r2, r3⟩ => ⟨some ⟨g, 0, none⟩, r1, r2, r3⟩
theorem begin_says {sd : Bool} (hN : N ≠ 0) (hp : plM N P 0 o x = halfI sd) (ht : sameB a b = true) (ha : a.Fit) (hm : mayB o a.k = true) (h : FlowN w f B N P x s) (hw : Laid2 w) :
    Calls Tryz.prog 8 #[.pointer (some ⟨f, 0, none⟩), .int .i64 o, .agg #[.bool a.i, .int .i64 a.a, .int .u8 a.k, .int .u8 a.s, .int .u32 a.q, .int .u32 a.v], .agg #[.bool b.i, .int .i64 b.a, .int .u8 b.k, .int .u8 b.s, .int .u32 b.q, .int .u32 b.v]] w fun e w' => ∃ p, e = .returned (.int .i64 0) ∧ SaysG sd (a.fr o) w' (.pointer p) ∧ Begun w w' f B N P x (.half p) :=
  begin_halfR hN hp (fun p u => SaysG sd (a.fr o) u (.pointer p)) (fun p u u' fb c q k m n => k.but m n) h hw fun u hu hl => (new_saysG _ N P x o a b sd hN hp ht ha hm u hu hl).mono fun e w' ⟨v', h1, ⟨g, k, gs, h2, h3⟩, h4⟩ => ⟨some ⟨g, 0, none⟩, by rw [h1, h2], ⟨g, k, gs, rfl, h3⟩, h4⟩
/-- Another node. -/
theorem begin_oth (ho0 : 0 ≤ o) (ho1 : o < 8) (X Y : Wn) (hX : ofW N P 0 o x = X) (hY : ofW N P 1 o x = Y) (hE0 : ofWE N P 0 o x = 0) (hE1 : ofWE N P 1 o x = 0) (hr : X.r ≠ 1) (h : FlowN w f B N P x s) (hw : Laid2 w) :
    Calls Tryz.prog 8 #[.pointer (some ⟨f, 0, none⟩), .int .i64 o, .agg #[.bool a.i, .int .i64 a.a, .int .u8 a.k, .int .u8 a.s, .int .u32 a.q, .int .u32 a.v], .agg #[.bool b.i, .int .i64 b.a, .int .u8 b.k, .int .u8 b.s, .int .u32 b.q, .int .u32 b.v]] w fun e w' => e = .returned (.int .i64 0) ∧ Begun w w' f B N P x (.oth X Y (catZ (firstV o)) (catZ (firstV o))) := by
  refine (begin_some f B N P x s o a b w h hw 165 (fun v u => v = .agg (othL X Y (catZ (firstV o)) (catZ (firstV o))).toArray) fun u hu hf hl => ?_).mono fun e w' ⟨u, v, q1, q2, q4, q5, q6⟩ => ?_
  · refine (partOf_oth f B N P x s o a b X hX u hf hl hE0 (by simpa using hr) (fun V E' u2 => V = (PSt.oth X Y (catZ (firstV o)) (catZ (firstV o))).val ∧ E' = 0) fun u' hf' hl' => ?_).mono fun e w' ⟨V, E', q1, ⟨q2, q3⟩, q4⟩ => ⟨_, by rw [q1, q2, q3]; rfl, rfl, q4⟩
    exact (otherOf_is f B N P x s o ho0 ho1 X Y hX hY hE0 hE1 u' hf' hl').mono fun e w' ⟨q1, q2⟩ => ⟨_, _, q1, ⟨rfl, rfl⟩, q2⟩
  · obtain ⟨r1, r2⟩ := q5.put (.oth X Y (catZ (firstV o)) (catZ (firstV o))) (.iface 165 v) (by rw [q2]; rfl)
    exact ⟨q1, by rw [q6]; exact ⟨r1, u, q4, r2⟩⟩
end
end Go.Proofs.YtkejpkcaojidaaaGreatDoor

namespace Go.Proofs.YtkejpkcaojidaaaGreatDoor
set_option linter.unusedVariables false
set_option linter.unusedSimpArgs false
open Go.RowKit Rg
set_option linter.unusedVariables false

/-- What stays while the ring runs. -/
structure RD where
  w0 : World
  W : World
  L : Lay
  f : Nat → Nat
  pv : Nat → Option Addr
  Bn : Nat
  S : Nat
  base : Nat
  gN : Nat
  gW : Nat
  bl : Nat
structure RD.Ok (D : RD) : Prop where
  n4 : D.L.n = 4
  fl : ∀ j, j < 4 → D.w0.heap.size ≤ D.f j ∧ D.f j < D.W.heap.size
  ne : ∀ i j, i < 4 → j < 4 → i ≠ j → D.f i ≠ D.f j
  b0 : D.W.heap.size ≤ D.L.b0
  b01 : D.L.b0 < D.L.b1
  s : D.L.b1 ≤ D.S
  bs : D.S < D.base
  low0 : D.w0.heap.size ≤ D.W.heap.size
  bn : ∀ j, j < 4 → D.Bn ≤ D.f j
  flow : ∀ j, j < 4 → ∃ fb c x s, FlowB D.W (D.f j) fb c x s
  says : ∀ j, j < 2 → Says (decide (j = 1)) exF D.W (.pointer (D.pv j))
  net : D.W.cell? ⟨D.gN, 0, none⟩ = some (.int .i64 4) ∧ D.W.cell? ⟨D.gN, 3, none⟩ = some (.int .i64 120) ∧ ∀ j, j < 4 → D.gN < D.f j
  wrong : D.W.cell? ⟨D.gW, 0, none⟩ = some (.int .i64 (-1)) ∧ D.W.cell? ⟨D.gW, 1, none⟩ = some (.int .i64 (-1)) ∧ ∀ j, j < 4 → D.gW < D.f j
  list : ∃ cur, Blk D.W D.bl 30 cur ∧ ∀ j, j < 4 → cur[j]? = some (.pointer (some ⟨D.f j, 0, none⟩))
/-- Sixteen rows of the call's own, apart. -/
structure RowsN (w : World) (base : Nat) (V : Nat → Value) (n : Nat → Nat) : Prop where
  row : ∀ k, k < 16 → ∃ (A : Option Addr) (c : Nat) (xs : List Int), V k = .slice A (n k) c ∧ w.ownsRow base 47 1 (.slice A (n k) c) (n k) (xs.map (Value.int .u8))
  ne : ∀ k l, k < 16 → l < 16 → k ≠ l → ∀ q, (V k).ownBlock = some q → (V l).ownBlock ≠ some q
structure RingV (D : RD) (w : World) (t i K R : Nat) (V : Nat → Value) : Prop where
  low : Below D.w0.heap.size D.w0 w
  fix : ∀ x, x < D.W.heap.size → (∀ j, j < 4 → x ≠ D.f j) → w.heap[x]? = D.W.heap[x]?
  flow : ∀ j, j < 4 → FSt w (D.f j) D.Bn D.pv j (if j < i then t + 1 else t)
  wir : Hold D.w0 D.L w (t : Int) (HZ t) (XZ t) (GP t K)
  head : Blk w D.S 126 ((List.range 16).map V).toArray
  rows : RowsN w D.base V (fun k => if k < R then t + 1 else t)
  big : D.base ≤ w.heap.size
theorem Wir.same {L : Lay} {w w' : World} {t : Int} {H X G : Nat → Option Int} (h : Wir L w t H X G) (ok : L.Ok) (hs : ∀ x, L.b0 ≤ x → x < L.b1 → w'.heap[x]? = w.heap[x]?) : Wir L w' t H X G :=
  ⟨(hs _ ok.gin.1 ok.gin.2).trans h.blk, (hs _ ok.min.1 ok.min.2).trans h.map, (hs _ ok.ain.1 ok.ain.2).trans h.gfs, fun i hi => (hs _ (ok.pin i hi).1 (ok.pin i hi).2).trans (h.lns i hi)⟩
theorem FlowN.same {w w' : World} {f B : Nat} {N : Int} {P : List Int} {x : Int} {s : PSt} (h : FlowN w f B N P x s) (hf : w'.heap[f]? = w.heap[f]?) (hl : ∀ x, x < B → w'.heap[x]? = w.heap[x]?) : FlowN w' f B N P x s := by
  obtain ⟨fb, c, h1, h2, h3⟩ := h
  have hc : ∀ p : Addr, p.block < B → w'.cell? p = w.cell? p := fun p hp => by simp only [World.cell?, hl p.block hp]
  exact ⟨fb, c, hf.trans h1, ⟨h2.p.keep (Nat.le_refl _) hc, h2.s.keep (Nat.le_refl _) hc, h2.b.keep (Nat.le_refl _) hc, h2.t.keep (Nat.le_refl _) hc, h2.few⟩, h3⟩
theorem owns_same {w w' : World} {base n : Nat} {e : TypeId} {v : Value} {xs : List Value} (h : w.ownsRow base e 1 v n xs) (hs : ∀ x, v.ownBlock = some x → w'.heap[x]? = w.heap[x]?) : w'.ownsRow base e 1 v n xs := by
  refine ⟨h.1, ?_⟩
  rcases h.2 with q | ⟨g, cap, cur, hv, hb, hh, r⟩
  · exact .inl q
  · exact .inr ⟨g, cap, cur, hv, hb, (hs g (by rw [hv]; rfl)).trans hh, r⟩
section
variable {D : RD} {w w' : World} {t i K R : Nat} {V : Nat → Value}
theorem RingV.ord (ok : D.Ok) : D.W.heap.size ≤ D.S ∧ D.S < D.base := ⟨Nat.le_trans ok.b0 (Nat.le_trans (Nat.le_of_lt ok.b01) ok.s), ok.bs⟩
theorem RingV.on (h : RingV D w t i K R V) (hb : Below w.heap.size w w') (ok : D.Ok) : RingV D w' t i K R V where
  low := below_then h.low hb
  fix := fun x hx hn => (hb.block x (by have := RingV.ord ok; have := h.big; omega)).trans (h.fix x hx hn)
  flow := fun j hj => FlowN.on (h.flow j hj) hb
  wir := h.wir.on hb
  head := h.head.on hb
  rows := ⟨fun k hk => by
    obtain ⟨A, c, xs, e, ho⟩ := h.rows.row k hk
    exact ⟨A, c, xs, e, owns_kept ho (KeptBut.below hb []) (by simp)⟩, h.rows.ne⟩
  big := Nat.le_trans h.big hb.size
theorem cell_lt' {w : World} {p : Addr} {v : Value} (h : w.cell? p = some v) : p.block < w.heap.size := by
  apply Nat.lt_of_not_le
  intro hn
  have e : w.heap[p.block]? = none := Array.getElem?_eq_none hn
  simp [World.cell?, e] at h
theorem RingV.cellW (h : RingV D w t i K R V) {p : Addr} {v : Value} (hc : D.W.cell? p = some v) (hn : ∀ j, j < 4 → p.block ≠ D.f j) : w.cell? p = some v := by
  have e := h.fix p.block (cell_lt' hc) hn
  simp only [World.cell?, e] at hc ⊢
  exact hc
theorem RingV.net (h : RingV D w t i K R V) (ok : D.Ok) : w.cell? ⟨D.gN, 0, none⟩ = some (.int .i64 4) ∧ w.cell? ⟨D.gN, 3, none⟩ = some (.int .i64 120) ∧ D.gN < w.heap.size := by
  have h1 := h.cellW (p := ⟨D.gN, 0, none⟩) ok.net.1 fun j hj => by have := ok.net.2.2 j hj; show D.gN ≠ D.f j; omega
  exact ⟨h1, h.cellW (p := ⟨D.gN, 3, none⟩) ok.net.2.1 fun j hj => by have := ok.net.2.2 j hj; show D.gN ≠ D.f j; omega, cell_lt' h1⟩
theorem RingV.wrong (h : RingV D w t i K R V) (ok : D.Ok) : w.cell? ⟨D.gW, 0, none⟩ = some (.int .i64 (-1)) ∧ w.cell? ⟨D.gW, 1, none⟩ = some (.int .i64 (-1)) ∧ D.gW < w.heap.size := by
  have h1 := h.cellW (p := ⟨D.gW, 0, none⟩) ok.wrong.1 fun j hj => by have := ok.wrong.2.2 j hj; show D.gW ≠ D.f j; omega
  exact ⟨h1, h.cellW (p := ⟨D.gW, 1, none⟩) ok.wrong.2.1 fun j hj => by have := ok.wrong.2.2 j hj; show D.gW ≠ D.f j; omega, cell_lt' h1⟩
theorem RingV.lst (h : RingV D w t i K R V) (ok : D.Ok) {j : Nat} (hj : j < 4) : w.cell? ⟨D.bl, j, none⟩ = some (.pointer (some ⟨D.f j, 0, none⟩)) ∧ D.bl < w.heap.size := by
  obtain ⟨cur, hB, hc⟩ := ok.list
  have h1 : D.W.cell? ⟨D.bl, j, none⟩ = some (.pointer (some ⟨D.f j, 0, none⟩)) := (hB.cell j).trans (hc j hj)
  have h2 := h.cellW (p := ⟨D.bl, j, none⟩) h1 fun k hk e => by
    obtain ⟨fb, c, x, s, hF⟩ := ok.flow k hk
    have e : D.bl = D.f k := e
    rw [e] at hB
    have := hB.symm.trans hF
    injection this with this
    injection this with _ q
    exact absurd q (by decide)
  exact ⟨h2, cell_lt' h2⟩
theorem RingV.say (h : RingV D w t i K R V) (ok : D.Ok) {j : Nat} (hj : j < 2) : Says (decide (j = 1)) exF w (.pointer (D.pv j)) := by
  obtain ⟨g, k, A, e, h1, h2, h3⟩ := ok.says j hj
  have n1 : ∀ {x : Nat} {T : TypeId} {cs : Array Value}, Blk D.W x T cs → cs.size ≠ 20 → ∀ m, m < 4 → x ≠ D.f m := fun hB hs m hm => by
    obtain ⟨fb, c, x, s, hF⟩ := ok.flow m hm
    exact blk_ne hB hF (by show _ ≠ (20 : Nat); exact hs)
  refine ⟨g, k, A, e, (h.fix g h1.lt (n1 h1 (by show (13 : Nat) ≠ 20; decide))).trans h1, (h.fix k h2.lt (n1 h2 (by show (1 : Nat) ≠ 20; decide))).trans h2, h3.1, fun hn => ?_⟩
  obtain ⟨b, off, e2, hb, hc⟩ := h3.2 hn
  have hbf : ∀ m, m < 4 → b ≠ D.f m := fun m hm e3 => by
    obtain ⟨fb, c, x, s, hF⟩ := ok.flow m hm
    have := hc 113 (by omega)
    rw [e3, flow_cell hF (by omega)] at this
    cases this
  have hlt : D.W.heap.size ≤ w.heap.size := by have := RingV.ord ok; have := h.big; omega
  exact ⟨b, off, e2, Nat.lt_of_lt_of_le hb hlt, fun j hj => h.cellW (hc j hj) hbf⟩
/-- What a node's tick leaves. -/
theorem RingV.tick (h : RingV D w t i K R V) (ok : D.Ok) (hi : i < 4) (hk : But (D.f i) w w') (hf : FSt w' (D.f i) D.Bn D.pv i (t + 1)) : RingV D w' t (i + 1) K R V := by
  have hfi := ok.fl i hi
  have hord := RingV.ord ok
  have hsz := h.big
  have hs : ∀ x, x < w.heap.size → x ≠ D.f i → w'.heap[x]? = w.heap[x]? := hk.2
  have hwl := ok.b01
  have hws := ok.s
  have hb0 := ok.b0
  refine ⟨h.low.trans (hk.low hfi.1), fun x hx hn => (hs x (by omega) (hn i hi)).trans (h.fix x hx hn), fun j hj => ?_, ⟨h.wir.wir.same h.wir.ok fun x h1 h2 => hs x (by omega) (by omega), h.low.trans (hk.low hfi.1), h.wir.ok, h.wir.b0, h.wir.ways⟩, (hs _ (by omega) (by omega)).trans h.head, ⟨fun k hk' => ?_, h.rows.ne⟩, Nat.le_trans hsz hk.1.size⟩
  · by_cases e : j = i
    · subst e
      rw [if_pos (by omega)]
      exact hf
    · have := h.flow j hj
      have e2 : (if j < i + 1 then t + 1 else t) = (if j < i then t + 1 else t) := by
        by_cases q : j < i
        · rw [if_pos q, if_pos (by omega)]
        · rw [if_neg q, if_neg (by omega)]
      rw [e2]
      exact FlowN.same this (hs _ (by have := (ok.fl j hj).2; omega) (ok.ne j i hj hi e)) fun x hx => hk.1.block x (Nat.lt_of_lt_of_le hx (ok.bn i hi))
  · obtain ⟨A, c, xs, e, ho⟩ := h.rows.row k hk'
    exact ⟨A, c, xs, e, owns_same ho fun x hx => hs x (ho.lt x hx).2 (by have := (ho.lt x hx).1; omega)⟩
/-- What is known outside of the wires' blocks stays while these alone are written. -/
theorem RingV.span (h : RingV D w t i K R V) (ok : D.Ok) (hs : Span D.L.b0 D.L.b1 w w') {t' : Int} {H X G : Nat → Option Int} (hH : Hold D.w0 D.L w' t' H X G) :
    Below D.w0.heap.size D.w0 w' ∧ (∀ x, x < D.W.heap.size → (∀ j, j < 4 → x ≠ D.f j) → w'.heap[x]? = D.W.heap[x]?) ∧ (∀ j, j < 4 → FSt w' (D.f j) D.Bn D.pv j (if j < i then t + 1 else t)) ∧ Blk w' D.S 126 ((List.range 16).map V).toArray ∧ RowsN w' D.base V (fun k => if k < R then t + 1 else t) ∧ D.base ≤ w'.heap.size := by
  have hord := RingV.ord ok
  have hsz := h.big
  have hwl := ok.b01
  have hws := ok.s
  have hb0 := ok.b0
  refine ⟨hH.low, fun x hx hn => (hs.2 x (by omega) (.inl (by omega))).trans (h.fix x hx hn), fun j hj => ?_, hs.blk h.head (.inr (by omega)), ⟨fun k hk => ?_, h.rows.ne⟩, Nat.le_trans hsz hs.size⟩
  · have := (ok.fl j hj).2
    exact FlowN.same (h.flow j hj) (hs.2 _ (by omega) (.inl (by omega))) fun x hx => hs.1.block x (by have := ok.bn j hj; omega)
  · obtain ⟨A, c, xs, e, ho⟩ := h.rows.row k hk
    exact ⟨A, c, xs, e, owns_same ho fun x hx => hs.2 x (ho.lt x hx).2 (.inr (by have := (ho.lt x hx).1; omega))⟩
theorem RingV.give (h : RingV D w t i K R V) (ok : D.Ok) (hs : Span D.L.b0 D.L.b1 w w') (hH : Hold D.w0 D.L w' (t : Int) (HZ t) (XZ t) (GP t (K + 1))) : RingV D w' t i (K + 1) R V := by
  obtain ⟨q1, q2, q3, q4, q5, q6⟩ := h.span ok hs hH
  exact ⟨q1, q2, q3, hH, q4, q5, q6⟩
theorem RingV.done (h : RingV D w t 4 16 16 V) (ok : D.Ok) (hs : Span D.L.b0 D.L.b1 w w') (hH : Hold D.w0 D.L w' ((t : Int) + 1) (HZ (t + 1)) (XZ (t + 1)) noneW) : RingV D w' (t + 1) 0 0 0 V := by
  obtain ⟨q1, q2, q3, q4, q5, q6⟩ := h.span ok hs hH
  refine ⟨q1, q2, fun j hj => ?_, by rw [GP_zero]; exact hH, q4, ⟨fun k hk => ?_, q5.ne⟩, q6⟩
  · have := q3 j hj
    rw [if_pos hj] at this
    rw [if_neg (by omega)]
    exact this
  · have := q5.row k hk
    simp only [if_pos hk] at this
    simp only [Nat.not_lt_zero, if_false]
    exact this
/-- One more in a row, and the row's new header. -/
theorem RingV.push {w1 w2 : World} (h : RingV D w t i K R V) (ok : D.Ok) (hR : R < 16) (hb : Below w.heap.size w w1) (v' : Value) {A' : Option Addr} {c' : Nat} (hv' : v' = .slice A' (t + 1) c') {zs : List Int} (ho : w2.ownsRow D.base 47 1 (.slice A' (t + 1) c') (t + 1) (zs.map (Value.int .u8))) (hg : w1.grownBy w2 (V R).ownBlock)
    (hw : v'.ownBlock = (V R).ownBlock ∨ v'.ownBlock = some w1.heap.size) : ∃ V', RingV D (w2.setCell ⟨D.S, R, none⟩ v') t i K (R + 1) V' := by
  have h1 := h.on hb ok
  have hord := RingV.ord ok
  have hsz := h1.big
  have hwl := ok.b01
  have hws := ok.s
  have hb0 := ok.b0
  obtain ⟨A, c, xs, eV, hoV⟩ := h1.rows.row R hR
  rw [if_neg (Nat.lt_irrefl R)] at eV hoV
  have hrow : ∀ q, (V R).ownBlock = some q → D.base ≤ q ∧ q < w1.heap.size := fun q hq => by rw [eV] at hq; exact hoV.lt q hq
  have hlow : Below D.base w1 w2 := (Below.refl D.base w1).grown hg hsz fun q hq => (hrow q hq).1
  have hs : ∀ x, x < D.base → x ≠ D.S → (w2.setCell ⟨D.S, R, none⟩ v').heap[x]? = w1.heap[x]? := fun x hx hn => (Below.heap_setCell w2 ⟨D.S, R, none⟩ v' x hn).trans (hlow.block x hx)
  have hne : ∀ l, l < 16 → l ≠ R → ∀ q, (V l).ownBlock = some q → (w2.setCell ⟨D.S, R, none⟩ v').heap[q]? = w1.heap[q]? := fun l hl hn q hq => by
    obtain ⟨A, c, xs, eL, hoL⟩ := h1.rows.row l hl
    rw [eL] at hq
    have hb := hoL.lt q hq
    rw [← eL] at hq
    refine (Below.heap_setCell w2 ⟨D.S, R, none⟩ v' q (by show q ≠ D.S; omega)).trans (hg.block q hb.2 fun e => ?_)
    exact h1.rows.ne l R hl hR hn q hq e.symm
  refine ⟨fun k => if k = R then v' else V k, ?_, ?_, fun j hj => ?_, ?_, ?_, ⟨fun k hk => ?_, fun k l hk hl hkl q hq => ?_⟩, ?_⟩
  · exact (h1.low.trans (hlow.mono (by have := ok.low0; omega))).setCell (p := ⟨D.S, R, none⟩) (by show D.w0.heap.size ≤ D.S; have := ok.low0; omega) v'
  · exact fun x hx hn => (hs x (by omega) (by omega)).trans (h1.fix x hx hn)
  · have hfj := (ok.fl j hj).2
    exact FlowN.same (h1.flow j hj) (hs _ (by omega) (by omega)) fun x hx => hs x (by have := ok.bn j hj; omega) (by have := ok.bn j hj; omega)
  · exact ⟨h1.wir.wir.same h1.wir.ok fun x q1 q2 => hs x (by omega) (by omega), (h1.low.trans (hlow.mono (by have := ok.low0; omega))).setCell (p := ⟨D.S, R, none⟩) (by show D.w0.heap.size ≤ D.S; have := ok.low0; omega) v', h1.wir.ok, h1.wir.b0, h1.wir.ways⟩
  · have hB := (h1.head.below hlow hord.2).set_ R v'
    have e : ((List.range 16).map V).toArray.setIfInBounds R v' = ((List.range 16).map fun k => if k = R then v' else V k).toArray := by
      rw [List.setIfInBounds_toArray]
      congr 1
      refine List.ext_getElem (by simp) fun k h1 h2 => ?_
      rw [List.getElem_set]
      simp only [List.getElem_map, List.getElem_range]
      by_cases e : R = k
      · rw [if_pos e, if_pos e.symm]
      · rw [if_neg e, if_neg (fun q => e q.symm)]
    rw [e] at hB
    exact hB
  · by_cases e : k = R
    · subst e
      simp only [if_true]
      refine ⟨A', c', zs, ?_, ?_⟩
      · rw [if_pos (Nat.lt_succ_self k)]; exact hv'
      · rw [if_pos (Nat.lt_succ_self k)]
        exact owns_same ho fun x hx => Below.heap_setCell w2 ⟨D.S, k, none⟩ v' x (by show x ≠ D.S; have := (ho.lt x hx).1; omega)
    · obtain ⟨B, d, ys, eK, hoK⟩ := h1.rows.row k hk
      have e2 : (if k < R + 1 then t + 1 else t) = (if k < R then t + 1 else t) := by
        by_cases q : k < R
        · rw [if_pos q, if_pos (by omega)]
        · rw [if_neg q, if_neg (by omega)]
      simp only [if_neg e, e2]
      exact ⟨B, d, ys, eK, owns_same hoK fun x hx => hne k hk e x (by rw [eK]; exact hx)⟩
  · have hlast : ∀ k, k < 16 → k ≠ R → ∀ q, (V k).ownBlock = some q → v'.ownBlock ≠ some q := fun k hk e q hq hB => by
      rcases hw with q1 | q1
      · exact h1.rows.ne k R hk hR e q hq (q1.symm.trans hB)
      · obtain ⟨B, d, ys, eK, hoK⟩ := h1.rows.row k hk
        rw [eK] at hq
        have := (hoK.lt q hq).2
        rw [q1] at hB
        injection hB with hB
        omega
    by_cases e1 : k = R
    · have e2 : l ≠ R := fun e => hkl (e1.trans e.symm)
      simp only [if_pos e1] at hq
      simp only [if_neg e2]
      exact fun hB => hlast l hl e2 q hB hq
    · simp only [if_neg e1] at hq
      by_cases e2 : l = R
      · simp only [if_pos e2]
        exact hlast k hk e1 q hq
      · simp only [if_neg e2]
        exact h1.rows.ne k l hk hl hkl q hq
  · exact Nat.le_trans hsz (by simpa using hlow.size)
end
end Go.Proofs.YtkejpkcaojidaaaGreatDoor

namespace Go.Proofs.YtkejpkcaojidaaaGreatDoor
set_option linter.unusedVariables false
set_option linter.unusedSimpArgs false
open Go.RowKit Rg
set_option linter.unusedVariables false

set_option maxRecDepth 100000 in
set_option maxHeartbeats 4000000 in
theorem net12_is (w : World) (hw : Laid2 w) :
    Calls Tryz.prog 23 #[] w fun e w' => ∃ g, e = .returned (.pointer (some ⟨g, 0, none⟩)) ∧ NetP w' (.pointer (some ⟨g, 0, none⟩)) 4 [0, 2] ∧ (w'.cell? ⟨g, 0, none⟩ = some (.int .i64 4) ∧ w'.cell? ⟨g, 3, none⟩ = some (.int .i64 120)) ∧ Below w.heap.size w w' := by
  have hB0 : Below w.heap.size w (((w.alloc (.cells #[.int .i64 0, .int .i64 2] 3)).alloc (.cells #[.int .i64 0, .int .i64 1] 3)).alloc (.cells #[.int .i64 0, .int .i64 0, .int .i64 0, .int .i64 0] 3)) := below_al (below_al (below_al (Below.refl _ _) _) _) _
  have l1 := ((Lies.new w 3 .i64 [0, 2] 2 rfl #[.int .i64 0, .int .i64 2] rfl).al (.cells #[.int .i64 0, .int .i64 1] 3)).al (.cells #[.int .i64 0, .int .i64 0, .int .i64 0, .int .i64 0] 3)
  have l2 := (Lies.new (w.alloc (.cells #[.int .i64 0, .int .i64 2] 3)) 3 .i64 [0, 1] 2 rfl #[.int .i64 0, .int .i64 1] rfl).al (.cells #[.int .i64 0, .int .i64 0, .int .i64 0, .int .i64 0] 3)
  have l3 := Lies.new ((w.alloc (.cells #[.int .i64 0, .int .i64 2] 3)).alloc (.cells #[.int .i64 0, .int .i64 1] 3)) 3 .i64 [0, 0, 0, 0] 4 rfl #[.int .i64 0, .int .i64 0, .int .i64 0, .int .i64 0] rfl
  simp only [alloc_size] at l1 l2 l3
  have HCF := Lib.hid (show CfIn (((w.alloc (.cells #[.int .i64 0, .int .i64 2] 3)).alloc (.cells #[.int .i64 0, .int .i64 1] 3)).alloc (.cells #[.int .i64 0, .int .i64 0, .int .i64 0, .int .i64 0] 3)) (wnCf (some ⟨w.heap.size, 0, none⟩) (some ⟨w.heap.size + 1, 0, none⟩) (some ⟨w.heap.size + 1 + 1, 0, none⟩)) from ⟨by simpa only [alloc_size] using l1, by simpa only [alloc_size] using l2, by simpa only [alloc_size] using l3, LiesT.nil_, by simp⟩)
  have HW := Lib.hid (hw.on hB0)
  have HB0 := Lib.hid hB0
  have HOK := Lib.hid (wnCf_ok (some ⟨w.heap.size, 0, none⟩) (some ⟨w.heap.size + 1, 0, none⟩) (some ⟨w.heap.size + 1 + 1, 0, none⟩))
  clear hw hB0 l1 l2 l3
  go_enter Tryz.func23, Tryz.ntmps23
  go_wp2_with (go_at_call 21; (with_reducible refine (new_yesN (wnCf (some ⟨w.heap.size, 0, none⟩) (some ⟨w.heap.size + 1, 0, none⟩) (some ⟨w.heap.size + 1 + 1, 0, none⟩)) (((w.alloc (.cells #[.int .i64 0, .int .i64 2] 3)).alloc (.cells #[.int .i64 0, .int .i64 1] 3)).alloc (.cells #[.int .i64 0, .int .i64 0, .int .i64 0, .int .i64 0] 3)) HCF.out HW.out.ways HOK.out).mono ?_); rintro e w1 ⟨gN, N1, N2, N3, N4, rfl, -, hN0, hc, b1⟩; have HN := Lib.hid (netP_of hN0 HOK.out); have HC := Lib.hid hc; have HB1 := Lib.hid (below_then HB0.out b1); clear b1 hN0 hc HCF HW HOK)
  go_ret
  exact ⟨gN, rfl, HN.out, HC.out, HB1.out⟩
theorem netPart_is (v : Value) (N : Int) (P : List Int) (x p : Int) (hp : partM N P x = p) (w : World) (hn : NetP w v N P) (hw : Ways w) :
    Calls Tryz.prog 44 #[v, .int .i64 x] w fun e w' => e = .returned (.int .i64 p) ∧ Below w.heap.size w w' := by
  obtain ⟨c, h1, rfl, rfl, h4⟩ := hn
  exact partner_is v c x p hp w h1 hw
/-- What the chapter's halves offer. -/
abbrev exD : Sd := ⟨true, 0, 2, 0, 3, 5⟩
theorem begin_ex {f B : Nat} {i : Nat} (hi : i < 4) (w : World) (h : FlowN w f B 4 [0, 2] (i : Int) .no) (hw : Laid2 w) :
    Calls Tryz.prog 8 #[.pointer (some ⟨f, 0, none⟩), .int .i64 0, .agg #[.bool exD.i, .int .i64 exD.a, .int .u8 exD.k, .int .u8 exD.s, .int .u32 exD.q, .int .u32 exD.v], .agg #[.bool exD.i, .int .i64 exD.a, .int .u8 exD.k, .int .u8 exD.s, .int .u32 exD.q, .int .u32 exD.v]] w fun e w' => ∃ p, e = .returned (.int .i64 0) ∧ (i < 2 → SaysG (decide (i = 1)) exF w' (.pointer p)) ∧ Begun w w' f B 4 [0, 2] (i : Int) (stN (fun _ => p) i 0) := by
  by_cases h2 : i < 2
  · have hp : plM 4 [0, 2] 0 0 (i : Int) = halfI (decide (i = 1)) := by rcases (show i = 0 ∨ i = 1 by omega) with rfl | rfl <;> rfl
    refine (begin_says (o := 0) (a := exD) (b := exD) (by decide) hp (by decide) ⟨by decide, by decide, by decide, by decide, by decide, by decide, by decide, by decide⟩ (by decide) h hw).mono fun e w' ⟨p, q1, q2, q3⟩ => ⟨p, q1, fun _ => q2, ?_⟩
    unfold stN
    rw [if_pos h2]
    exact q3
  · obtain ⟨e1, e2⟩ := exW 0 i (.inl rfl) hi
    obtain ⟨e3, e4⟩ := exW 1 i (.inr rfl) hi
    refine (begin_oth (o := 0) (a := exD) (b := exD) (by decide) (by decide) _ _ e1 e3 e2 e4 (by rcases (show i = 2 ∨ i = 3 by omega) with rfl | rfl <;> decide) h hw).mono fun e w' ⟨q1, q2⟩ => ⟨none, q1, fun h => absurd h h2, ?_⟩
    unfold stN
    rw [if_neg h2]
    unfold stO
    rw [cnt_zero, cnt_zero, catS_zero]
    exact q2
/-- An offer is written over another one. -/
theorem put_sd {w u : World} {B g h : Nat} (d : Sd) {e e2 : Sd} (hg : Blk u g 42 #[.bool e.i, .int .i64 e.a, .int .u8 e.k, .int .u8 e.s, .int .u32 e.q, .int .u32 e.v]) (hh : Blk u h 42 #[.bool e2.i, .int .i64 e2.a, .int .u8 e2.k, .int .u8 e2.s, .int .u32 e2.q, .int .u32 e2.v]) (hn : h ≠ g) (hB : B ≤ g) (hb : Below B w u) :
    Below B w ((((((u.setCell ⟨g, 0, none⟩ (.bool d.i)).setCell ⟨g, 1, none⟩ (.int .i64 d.a)).setCell ⟨g, 2, none⟩ (.int .u8 d.k)).setCell ⟨g, 3, none⟩ (.int .u8 d.s)).setCell ⟨g, 4, none⟩ (.int .u32 d.q)).setCell ⟨g, 5, none⟩ (.int .u32 d.v)) ∧
      Blk ((((((u.setCell ⟨g, 0, none⟩ (.bool d.i)).setCell ⟨g, 1, none⟩ (.int .i64 d.a)).setCell ⟨g, 2, none⟩ (.int .u8 d.k)).setCell ⟨g, 3, none⟩ (.int .u8 d.s)).setCell ⟨g, 4, none⟩ (.int .u32 d.q)).setCell ⟨g, 5, none⟩ (.int .u32 d.v)) g 42 #[.bool d.i, .int .i64 d.a, .int .u8 d.k, .int .u8 d.s, .int .u32 d.q, .int .u32 d.v] ∧
      Blk ((((((u.setCell ⟨g, 0, none⟩ (.bool d.i)).setCell ⟨g, 1, none⟩ (.int .i64 d.a)).setCell ⟨g, 2, none⟩ (.int .u8 d.k)).setCell ⟨g, 3, none⟩ (.int .u8 d.s)).setCell ⟨g, 4, none⟩ (.int .u32 d.q)).setCell ⟨g, 5, none⟩ (.int .u32 d.v)) h 42 #[.bool e2.i, .int .i64 e2.a, .int .u8 e2.k, .int .u8 e2.s, .int .u32 e2.q, .int .u32 e2.v] := by
  have hk : But g u ((((((u.setCell ⟨g, 0, none⟩ (.bool d.i)).setCell ⟨g, 1, none⟩ (.int .i64 d.a)).setCell ⟨g, 2, none⟩ (.int .u8 d.k)).setCell ⟨g, 3, none⟩ (.int .u8 d.s)).setCell ⟨g, 4, none⟩ (.int .u32 d.q)).setCell ⟨g, 5, none⟩ (.int .u32 d.v)) :=
    (((((But.one 0 _).set 1 _).set 2 _).set 3 _).set 4 _).set 5 _
  exact ⟨hb.trans (hk.low hB), (((((hg.set_ 0 _).set_ 1 _).set_ 2 _).set_ 3 _).set_ 4 _).set_ 5 _, hk.blk hh hn⟩
/-- The flows of the nodes below i, in a list of the call's own. -/
structure GotR (w0 : World) (Bn : Nat) (f : Nat → Nat) (pv : Nat → Option Addr) (i : Nat) (v : Value) (w : World) : Prop where
  low : Below w0.heap.size w0 w
  fl : ∀ j, j < i → w0.heap.size ≤ f j ∧ FlowN w (f j) Bn 4 [0, 2] (j : Int) (stN pv j 0)
  ne : ∀ j k, j < i → k < i → j ≠ k → f j ≠ f k
  says : ∀ j, j < i → j < 2 → SaysG (decide (j = 1)) exF w (.pointer (pv j))
  row : w.ownsRow w0.heap.size 30 1 v i ((List.range i).map fun j => .pointer (some ⟨f j, 0, none⟩))
theorem GotR.none_ (w0 w : World) (Bn : Nat) (f : Nat → Nat) (pv : Nat → Option Addr) (hb : Below w0.heap.size w0 w) : GotR w0 Bn f pv 0 (.slice none 0 0) w :=
  ⟨hb, fun j h => absurd h (by omega), fun j k h => absurd h (by omega), fun j h => absurd h (by omega), ⟨rfl, .inl ⟨rfl, rfl⟩⟩⟩
theorem below_cell {w w' : World} (hb : Below w.heap.size w w') {p : Addr} {v : Value} (h : w.cell? p = some v) : w'.cell? p = some v := by
  have e := hb.block p.block (cell_lt' h)
  simp only [World.cell?, e] at h ⊢
  exact h
theorem row_type {w : World} {base n : Nat} {e : TypeId} {v : Value} {xs : List Value} (h : w.ownsRow base e 1 v n xs) {q : Nat} (hq : v.ownBlock = some q) : base ≤ q ∧ ∃ cs, Blk w q e cs := by
  rcases h.2 with ⟨e1, _⟩ | ⟨g, cap, cur, hv, hb, hh, _⟩
  · rw [e1] at hq; cases hq
  · rw [hv] at hq
    have hq : some g = some q := hq
    injection hq with hq
    subst hq
    exact ⟨hb, cur, hh⟩
/-- A block of another type stays, and what lies below the row's base. -/
theorem grown_blk {w w' : World} {base n : Nat} {e : TypeId} {v : Value} {xs : List Value} (h : w.ownsRow base e 1 v n xs) (hg : w.grownBy w' v.ownBlock) {b : Nat} {t : TypeId} {cs : Array Value} (hB : Blk w b t cs) (ht : t ≠ e) : Blk w' b t cs := by
  refine (hg.block b hB.lt fun e1 => ?_).trans hB
  obtain ⟨_, cs', hB'⟩ := row_type h e1.symm
  exact blk_neT hB hB' ht rfl
theorem FlowN.grown {w w' : World} {base n : Nat} {v : Value} {xs : List Value} (hr : w.ownsRow base 30 1 v n xs) (hg : w.grownBy w' v.ownBlock) {f B : Nat} {N : Int} {P : List Int} {x : Int} {s : PSt} (h : FlowN w f B N P x s) (hB : B ≤ base) (hb : base ≤ w.heap.size) : FlowN w' f B N P x s := by
  obtain ⟨fb, c, h1, h2, h3⟩ := h
  exact ⟨fb, c, grown_blk hr hg h1 (by decide), h2.keep (Nat.le_refl _) ((Below.refl _ _).grown hg (by omega) fun q hq => Nat.le_trans hB (row_type hr hq).1), h3⟩
theorem GotR.push {w0 w w1 w2 : World} {Bn i : Nat} {f : Nat → Nat} {pv : Nat → Option Addr} {v v' : Value} (h : GotR w0 Bn f pv i v w) (hBn : Bn ≤ w0.heap.size) {f' : Nat} {p : Option Addr} (hf : w.heap.size ≤ f') (hF : FlowN w1 f' Bn 4 [0, 2] (i : Int) (stN (fun _ => p) i 0)) (hS : i < 2 → SaysG (decide (i = 1)) exF w1 (.pointer p)) (hb : Below w.heap.size w w1)
    (hr : w2.ownsRow w0.heap.size 30 1 v' (i + 1) ((List.range i).map (fun j => .pointer (some ⟨f j, 0, none⟩)) ++ [.pointer (some ⟨f', 0, none⟩)])) (hg : w1.grownBy w2 v.ownBlock) : ∃ f2 pv2, GotR w0 Bn f2 pv2 (i + 1) v' w2 := by
  have hr1 : w1.ownsRow w0.heap.size 30 1 v i ((List.range i).map fun j => .pointer (some ⟨f j, 0, none⟩)) := owns_kept h.row (KeptBut.below hb []) (by simp)
  have hlow1 := h.low.trans (hb.mono h.low.size)
  have hz : w0.heap.size ≤ w1.heap.size := hlow1.size
  have est : ∀ (q q' : Nat → Option Addr) (j : Nat), q j = q' j → stN q j 0 = stN q' j 0 := fun q q' j e => by unfold stN; rw [e]
  have sg : ∀ {s F u}, SaysG s F w1 u → SaysG s F w2 u := fun h => by
    obtain ⟨g, k, gs, rfl, h1, h2, h3⟩ := h
    exact ⟨g, k, gs, rfl, grown_blk hr1 hg h1 (by decide), grown_blk hr1 hg h2 (by decide), grown_blk hr1 hg h3 (by decide)⟩
  refine ⟨fun j => if j = i then f' else f j, fun j => if j = i then p else pv j, hlow1.grown hg hz fun q hq => (row_type hr1 hq).1, fun j hj => ?_, fun j k hj hk hn => ?_, fun j hj h2 => ?_, ?_⟩
  · by_cases e : j = i
    · subst e
      simp only [if_true]
      refine ⟨Nat.le_trans h.low.size hf, ?_⟩
      rw [est _ (fun _ => p) j (by simp)]
      exact hF.grown hr1 hg hBn hz
    · simp only [if_neg e]
      obtain ⟨q1, q2⟩ := h.fl j (by omega)
      refine ⟨q1, ?_⟩
      rw [est _ pv j (by simp [e])]
      exact (q2.on hb).grown hr1 hg hBn hz
  · have hlt : ∀ j, j < i → f j < w.heap.size := fun j hj => (h.fl j hj).2.lt
    by_cases e : j = i
    · subst e
      rw [if_pos rfl, if_neg (fun q => hn q.symm)]
      have := hlt k (by omega)
      omega
    · rw [if_neg e]
      by_cases e2 : k = i
      · rw [if_pos e2]
        have := hlt j (by omega)
        omega
      · rw [if_neg e2]
        exact h.ne j k (by omega) (by omega) hn
  · by_cases e : j = i
    · subst e
      simp only [if_true]
      exact sg (hS h2)
    · simp only [if_neg e]
      exact sg ((h.says j (by omega) h2).on hb)
  · have e : (List.range (i + 1)).map (fun j => Value.pointer (some ⟨if j = i then f' else f j, 0, none⟩)) = (List.range i).map (fun j => .pointer (some ⟨f j, 0, none⟩)) ++ [.pointer (some ⟨f', 0, none⟩)] := by
      rw [List.range_succ, List.map_append]
      congr 1
      · refine List.map_congr_left fun j hj => ?_
        have := List.mem_range.1 hj
        rw [if_neg (by omega)]
      · simp
    rw [e]
    exact hr
end Go.Proofs.YtkejpkcaojidaaaGreatDoor

namespace Go.Proofs.YtkejpkcaojidaaaGreatDoor
set_option linter.unusedVariables false
set_option linter.unusedSimpArgs false
open Go.RowKit Rg
set_option linter.unusedVariables false

theorem infoFlowP : (Tryz.prog.info? 30).map (fun i => (i.zero, i.size, i.bytes)) = some (some (.pointer none), 1, 8) := by kernel_rfl
def payR : Array Value := #[.int .u8 2, .int .u8 0, .int .u32 3, .int .u32 5, .int .u8 2, .int .u8 0, .int .u32 3, .int .u32 5]
def wrongR : Array Value := #[.int .i64 (-1), .int .i64 (-1), .slice none 0 0]
theorem Blk.pay8 {w : World} {g : Nat} (h : Blk w g 67 payR) : w.cell? ⟨g, 0, none⟩ = some (.int .u8 2) ∧ w.cell? ⟨g, 1, none⟩ = some (.int .u8 0) ∧ w.cell? ⟨g, 2, none⟩ = some (.int .u32 3) ∧ w.cell? ⟨g, 3, none⟩ = some (.int .u32 5) ∧ w.cell? ⟨g, 4, none⟩ = some (.int .u8 2) ∧ w.cell? ⟨g, 5, none⟩ = some (.int .u8 0) ∧ w.cell? ⟨g, 6, none⟩ = some (.int .u32 3) ∧ w.cell? ⟨g, 7, none⟩ = some (.int .u32 5) ∧ g < w.heap.size :=
  ⟨(h.cell 0).trans rfl, (h.cell 1).trans rfl, (h.cell 2).trans rfl, (h.cell 3).trans rfl, (h.cell 4).trans rfl, (h.cell 5).trans rfl, (h.cell 6).trans rfl, (h.cell 7).trans rfl, h.lt⟩
/-- The list of rows, all empty. -/
def hdr0 : Array Value := ((List.range 16).map fun _ => Value.slice none 0 0).toArray
theorem infoRows : (Tryz.prog.info? 126).map (fun i => (i.zero, i.size, i.bytes)) = some (some (.slice none 0 0), 1, 24) := by kernel_rfl
theorem make16 (u : World) : (Instr.makeSlice 141 (.int .i64 16) (.int .i64 16)).run Tryz.prog u = .ok (.slice (some ⟨u.heap.size, 0, none⟩) 16 16) (u.alloc (.cells hdr0 126)) := by
  obtain ⟨i0, hi0, hz0, hz1, hz2⟩ := info_parts infoRows
  have h := run_make (P := Tryz.prog) u 141 126 i0 _ Tryz.underlying141 hi0 hz0 .i64 .i64 16 16 (by omega) (Int.le_refl _) (by rw [hz2]; omega) (by omega)
  have e : madeCells (Value.slice none 0 0).cells 16 = hdr0 := by kernel_rfl
  rw [hz1] at h
  simpa [e] using h
theorem elemRow : Tryz.prog.underlying 141 = some (.slice (Tryz.prog.elem 141)) := by kernel_rfl
theorem idxRow {k : Nat} (b : Nat) (hk : k < 16) (w : World) :
    (Instr.indexAt 141 (.slice (some ⟨b, 0, none⟩) 16 16) (.int .i64 (k : Int))).run Tryz.prog w = .ok (.pointer (some ⟨b, k, none⟩)) w := by
  rw [run_indexAt_slice (h := elemRow), if_pos (by omega), show (sizeOf (Tryz.prog.elem 141)).run Tryz.prog w = .ok 1 w by kernel_rfl]
  simp [Result.andThen, Addr.add_lit]
theorem elemFlp : Tryz.prog.underlying 64 = some (.slice (Tryz.prog.elem 64)) := by kernel_rfl
theorem idxFlp {k : Nat} (b c : Nat) (hk : k < 4) (w : World) :
    (Instr.indexAt 64 (.slice (some ⟨b, 0, none⟩) 4 c) (.int .i64 (k : Int))).run Tryz.prog w = .ok (.pointer (some ⟨b, k, none⟩)) w := by
  rw [run_indexAt_slice (h := elemFlp), if_pos (by omega), show (sizeOf (Tryz.prog.elem 64)).run Tryz.prog w = .ok 1 w by kernel_rfl]
  simp [Result.andThen, Addr.add_lit]
/-- What comes to a node in a tick, of what is on the wires. -/
def cmZ (t i d h : Nat) : Int := (hereW 4 (HZ t) (d : Int) (i : Int) (h : Int)).getD 0
/-- What was asked by now. -/
def insA (t i d : Nat) : Array Value := #[.int .u8 (if 0 < d then cmZ t i 0 1 else 0), .int .u8 (if 0 < d then cmZ t i 0 2 else 0), .int .u8 (if 1 < d then cmZ t i 1 1 else 0), .int .u8 (if 1 < d then cmZ t i 1 2 else 0)]
theorem list_at {w : World} {base : Nat} {v : Value} {f : Nat → Nat} (h : w.ownsRow base 30 1 v 4 ((List.range 4).map fun j => .pointer (some ⟨f j, 0, none⟩))) : ∃ bl c cur, v = .slice (some ⟨bl, 0, none⟩) 4 c ∧ base ≤ bl ∧ Blk w bl 30 cur ∧ ∀ j, j < 4 → cur[j]? = some (.pointer (some ⟨f j, 0, none⟩)) := by
  rcases h.2 with ⟨e, h0⟩ | ⟨g, cap, cur, hv, hb, hh, hnc, _, hcs, htk⟩
  · cases h0
  · refine ⟨g, cap, cur, hv, hb, hh, fun j hj => ?_⟩
    have e : cur.toList[j]? = ((List.range 4).map fun j => Value.pointer (some ⟨f j, 0, none⟩))[j]? := by
      rw [← htk, List.getElem?_take_of_lt (by omega)]
    rw [Array.getElem?_toList] at e
    rw [e]
    simp [hj]
theorem range_cell (V : Nat → Value) {k : Nat} (hk : k < 16) : ((List.range 16).map V).toArray[k]? = some (V k) := by simp [hk]
/-- What the ring begins with. -/
theorem ring_start {W0 W : World} {L : Lay} {f : Nat → Nat} {pv : Nat → Option Addr} {gP gN gW bl : Nat} {v : Value} {cur : Array Value} {u : World} (hG : GotR W0 gP f pv 4 v W) (hP : gP < W0.heap.size) (hgN : gN < W0.heap.size) (hgW : gW < W0.heap.size)
    (hc : W0.cell? ⟨gN, 0, none⟩ = some (.int .i64 4) ∧ W0.cell? ⟨gN, 3, none⟩ = some (.int .i64 120)) (hw : Blk W0 gW 70 wrongR) (hok : L.Ok) (hn : L.n = 4) (hb0 : L.b0 = W.heap.size) (hb1 : L.b1 = u.heap.size) (hwir : Wir L u 0 noneW noneW noneW) (hu : Below W.heap.size W u) (hways : Ways W0)
    (hbl : Blk W bl 30 cur) (hcur : ∀ j, j < 4 → cur[j]? = some (.pointer (some ⟨f j, 0, none⟩))) :
    RD.Ok ⟨W0, W, L, f, pv, gP, u.heap.size, u.heap.size + 1, gN, gW, bl⟩ ∧ RingV ⟨W0, W, L, f, pv, gP, u.heap.size, u.heap.size + 1, gN, gW, bl⟩ (u.alloc (.cells hdr0 126)) 0 0 0 0 fun _ => .slice none 0 0 := by
  have hz := hG.low.size
  have hg := hok.gin
  have hu1 := below_al hu (.cells hdr0 126)
  constructor
  · refine ⟨hn, fun j hj => ⟨(hG.fl j hj).1, (hG.fl j hj).2.lt⟩, fun i j hi hj h => hG.ne i j hi hj h, by show W.heap.size ≤ L.b0; omega, by show L.b0 < L.b1; omega, by show L.b1 ≤ u.heap.size; omega, Nat.lt_succ_self _, hz, fun j hj => ?_, fun j hj => ?_, fun j hj => (hG.says j (by omega) hj).says, ⟨below_cell hG.low hc.1, below_cell hG.low hc.2, fun j hj => Nat.lt_of_lt_of_le hgN (hG.fl j hj).1⟩, ⟨?_, ?_, fun j hj => Nat.lt_of_lt_of_le hgW (hG.fl j hj).1⟩, ⟨cur, hbl, hcur⟩⟩
    · exact Nat.le_trans (Nat.le_of_lt hP) (hG.fl j hj).1
    · obtain ⟨fb, c, h1, _⟩ := (hG.fl j hj).2
      exact ⟨fb, c, _, _, h1⟩
    · exact ((hw.on hG.low).cell 0).trans rfl
    · exact ((hw.on hG.low).cell 1).trans rfl
  · refine ⟨below_then hG.low hu1, fun x hx _ => hu1.block x hx, fun j hj => ?_, ?_, Blk.new u _ _, ⟨fun k hk => ⟨none, 0, [], rfl, owns_none⟩, fun k l _ _ _ q h => by cases h⟩, by show u.heap.size + 1 ≤ _; simp⟩
    · show FlowN _ _ _ _ _ _ _
      rw [if_neg (by omega)]
      exact (hG.fl j hj).2.on hu1
    · rw [HZ_zero, XZ_zero, GP_zero]
      exact ⟨hwir.al _, below_then hG.low hu1, hok, by show W0.heap.size ≤ L.b0; omega, hways⟩
theorem here_cm {w0 u : World} {L : Lay} {t : Nat} {X G : Nat → Option Int} (h : Hold w0 L u (t : Int) (HZ t) X G) (hn : L.n = 4) (i d k : Nat) (hd : d ≤ 1) :
    Calls Tryz.prog 46 #[.pointer (some ⟨L.g, 0, none⟩), .int .u8 (d : Int), .int .i64 (i : Int), .int .i64 (k : Int)] u fun e w' => ∃ b, e = .returned (.tuple #[.int .u8 (cmZ t i d k), .bool b]) ∧ Below u.heap.size u w' :=
  (hHere h hn (d : Int) (i : Int) (k : Int) (by omega) (by omega) _ rfl).mono fun e w' ⟨q1, _, q2⟩ => ⟨_, q1, q2⟩
theorem cm_in {t i d k : Nat} (hi : i = 2 ∨ i = 3) (hd : d = 0 ∨ d = 1) (hk : k = 1 ∨ k = 2) (ho : opB (wnM (plc d i : Int)) (t : Int) = true) : kn (cmZ t i d k) = sy (cnt (plc d i) t) := by
  obtain ⟨e1, e2⟩ := here_Z t i d k hi hd hk ho
  rw [cmZ, e1]
  exact in_step e2 ho
theorem idxOut {g d : Nat} (hd : d < 2) (w : World) : (Instr.indexAt 48 (.pointer (some ⟨g, 0, none⟩)) (.int .u8 (d : Int))).run Tryz.prog w = .ok (.pointer (some ⟨g, d, none⟩)) w := by
  rw [run_indexAt_array (h := by kernel_rfl), show Tryz.prog.arrayLen 48 = 2 by kernel_rfl, if_pos (by omega), show (sizeOf (Tryz.prog.elem 48)).run Tryz.prog w = .ok 1 w by kernel_rfl]
  simp [Result.andThen, Addr.add_lit]
/-- What a tick gives, in its block. -/
def outZ (t i : Nat) : Array Value := #[.int .u8 (Zv (plc 0 i) t), .int .u8 (Zv (plc 1 i) t)]
theorem outZ_at {w : World} {g t i d : Nat} (h : Blk w g 48 (outZ t i)) (hd : d < 2) : w.cell? ⟨g, d, none⟩ = some (.int .u8 (Zv (plc d i) t)) := by
  rcases (show d = 0 ∨ d = 1 by omega) with rfl | rfl
  · exact (h.cell 0).trans rfl
  · exact (h.cell 1).trans rfl
section
variable {D : RD} {w w' : World} {t i K R : Nat} {V : Nat → Value}
/-- A block of another type, made behind the rows' base, is written. -/
theorem RingV.put (h : RingV D w t i K R V) (ok : D.Ok) {g : Nat} {T : TypeId} {cs : Array Value} (hB : Blk w g T cs) (hT : T ≠ 47) (hg : D.base ≤ g) (j : Nat) (v : Value) : RingV D (w.setCell ⟨g, j, none⟩ v) t i K R V := by
  have hord := RingV.ord ok
  have hwl := ok.b01
  have hws := ok.s
  have hb0 := ok.b0
  have hs : ∀ x, x ≠ g → (w.setCell ⟨g, j, none⟩ v).heap[x]? = w.heap[x]? := fun x hx => Below.heap_setCell w ⟨g, j, none⟩ v x hx
  have hlow : Below D.w0.heap.size D.w0 (w.setCell ⟨g, j, none⟩ v) := h.low.setCell (p := ⟨g, j, none⟩) (by show D.w0.heap.size ≤ g; have := ok.low0; omega) v
  refine ⟨hlow, fun x hx hn => (hs x (by omega)).trans (h.fix x hx hn), fun j hj => ?_, ⟨h.wir.wir.same h.wir.ok fun x q1 q2 => hs x (by omega), hlow, h.wir.ok, h.wir.b0, h.wir.ways⟩, (hs _ (by omega)).trans h.head, ⟨fun k hk => ?_, h.rows.ne⟩, by simpa using h.big⟩
  · have := (ok.fl j hj).2
    exact FlowN.same (h.flow j hj) (hs _ (by omega)) fun x hx => hs x (by have := ok.bn j hj; omega)
  · obtain ⟨A, c, xs, e, ho⟩ := h.rows.row k hk
    refine ⟨A, c, xs, e, owns_same ho fun x hx => hs x fun e2 => ?_⟩
    obtain ⟨_, cs', hB'⟩ := row_type ho hx
    rw [e2] at hB'
    exact blk_neT hB hB' hT rfl
theorem RingV.ticked {u : World} (h : RingV D w t i K R V) (ok : D.Ok) (hi : i < 4) (hu : Below w.heap.size w u) (hk : But (D.f i) u w') (hf : FSt w' (D.f i) D.Bn D.pv i (t + 1)) : RingV D w' t (i + 1) K R V := (h.on hu ok).tick ok hi hk hf
theorem RingV.flowAt (h : RingV D w t i K R V) (hi : i < 4) : FSt w (D.f i) D.Bn D.pv i t := by
  have := h.flow i hi
  rwa [if_neg (Nat.lt_irrefl i)] at this
theorem RingV.fi_lt (ok : D.Ok) (hi : i < 4) (h : RingV D w t i K R V) : D.f i < D.base := by
  have := (ok.fl i hi).2
  have := RingV.ord ok
  omega
/-- A block behind the base stays while a row grows, and while its header is written. -/
theorem RingV.kept {w1 w2 : World} (h : RingV D w t i K R V) (ok : D.Ok) (hR : R < 16) (hb : Below w.heap.size w w1) (hg : w1.grownBy w2 (V R).ownBlock) {g : Nat} {T : TypeId} {cs : Array Value} (hB : Blk w g T cs) (hT : T ≠ 47) (hgb : D.base ≤ g) (v' : Value) : Blk (w2.setCell ⟨D.S, R, none⟩ v') g T cs := by
  obtain ⟨A, c, xs, e, ho⟩ := (h.on hb ok).rows.row R hR
  rw [e] at hg
  have hord := RingV.ord ok
  exact (grown_blk ho hg (hB.on hb) hT).far (p := ⟨D.S, R, none⟩) (by show g ≠ D.S; omega) v'
/-- The rows' header stands while a row grows. -/
theorem RingV.headAt {w1 w2 : World} (h : RingV D w t i K R V) (ok : D.Ok) (hR : R < 16) (hb : Below w.heap.size w w1) (hg : w1.grownBy w2 (V R).ownBlock) : Blk w2 D.S 126 ((List.range 16).map V).toArray := by
  have h1 := h.on hb ok
  obtain ⟨A, c, xs, e, ho⟩ := h1.rows.row R hR
  rw [e] at hg
  exact h1.head.below ((Below.refl D.base w1).grown hg h1.big fun q hq => (ho.lt q hq).1) (RingV.ord ok).2
end
/-- Where memory stands while a row grows by one: operations 5 (the row is read), 9 (the new one lies in a block), 10 (append), 12 (the header is written). -/
def MM46 (E0 E1 E2 E3 : World) (f : Nat → Bool) (u : World) : Prop := (f 10 = true → f 5 = true ∧ f 9 = true) ∧ (f 12 = true → f 10 = true) ∧ u = if f 12 = true then E3 else if f 10 = true then E2 else if f 9 = true then E1 else E0
section
variable {E0 E1 E2 E3 u : World} {f : Nat → Bool}
theorem mm_cong (f g : Nat → Bool) (w : World) (h : ∀ k, k ∈ [5, 9, 10, 12] → f k = g k) (hM : MM46 E0 E1 E2 E3 f w) : MM46 E0 E1 E2 E3 g w := by
  unfold MM46 at hM ⊢
  rw [← h 5 (by decide), ← h 9 (by decide), ← h 10 (by decide), ← h 12 (by decide)]
  exact hM
theorem mm_0 : MM46 E0 E1 E2 E3 (fun _ => false) E0 := ⟨fun h => (by cases h), fun h => (by cases h), (by simp)⟩
theorem mm_5 (hM : MM46 E0 E1 E2 E3 f u) (h : f 5 = false) : (u = E0 ∨ u = E1) ∧ MM46 E0 E1 E2 E3 (Reg.mark f 5) u := by
  obtain ⟨h1, h2, h3⟩ := hM
  have h10 : f 10 = false := by
    cases h10 : f 10 with
    | false => rfl
    | true => have := (h1 h10).1; rw [h] at this; cases this
  have h12 : f 12 = false := by
    cases h12 : f 12 with
    | false => rfl
    | true => have := h2 h12; rw [h10] at this; cases this
  rw [h12, h10] at h3
  refine ⟨?_, ?_⟩
  · cases h9 : f 9 with
    | false => rw [h9] at h3; exact .inl (by simpa using h3)
    | true => rw [h9] at h3; exact .inr (by simpa using h3)
  · refine ⟨fun h => ?_, fun h => ?_, ?_⟩
    · simp [Reg.mark, h10] at h
    · simp [Reg.mark, h12] at h
    · simpa [Reg.mark, h10, h12] using h3
theorem mm_9 (hM : MM46 E0 E1 E2 E3 f u) (h : f 9 = false) : u = E0 ∧ MM46 E0 E1 E2 E3 (Reg.mark f 9) E1 := by
  obtain ⟨h1, h2, h3⟩ := hM
  have h10 : f 10 = false := by
    cases h10 : f 10 with
    | false => rfl
    | true => have := (h1 h10).2; rw [h] at this; cases this
  have h12 : f 12 = false := by
    cases h12 : f 12 with
    | false => rfl
    | true => have := h2 h12; rw [h10] at this; cases this
  rw [h12, h10, h] at h3
  refine ⟨by simpa using h3, ?_⟩
  refine ⟨fun h => ?_, fun h => ?_, ?_⟩
  · simp [Reg.mark, h10] at h
  · simp [Reg.mark, h12] at h
  · simp [Reg.mark, h10, h12]
theorem mm_10 (hM : MM46 E0 E1 E2 E3 f u) (h : f 10 = false) (h5 : f 5 = true) (h9 : f 9 = true) : u = E1 ∧ MM46 E0 E1 E2 E3 (Reg.mark f 10) E2 := by
  obtain ⟨h1, h2, h3⟩ := hM
  have h12 : f 12 = false := by
    cases h12 : f 12 with
    | false => rfl
    | true => have := h2 h12; rw [h] at this; cases this
  rw [h12, h, h9] at h3
  refine ⟨by simpa using h3, ?_⟩
  refine ⟨fun _ => ?_, fun h => ?_, ?_⟩
  · simp [Reg.mark, h5, h9]
  · simp [Reg.mark, h12] at h
  · simp [Reg.mark, h12]
theorem mm_12 (hM : MM46 E0 E1 E2 E3 f u) (h : f 12 = false) (h10 : f 10 = true) : u = E2 ∧ MM46 E0 E1 E2 E3 (Reg.mark f 12) E3 := by
  obtain ⟨h1, h2, h3⟩ := hM
  rw [h, h10] at h3
  refine ⟨by simpa using h3, ?_⟩
  refine ⟨fun _ => ?_, fun _ => ?_, ?_⟩
  · simpa [Reg.mark] using h1 h10
  · simp [Reg.mark, h10]
  · simp [Reg.mark]
theorem mm_any (hM : MM46 E0 E1 E2 E3 f u) : u = E0 ∨ u = E1 ∨ u = E2 ∨ u = E3 := by
  obtain ⟨_, _, h3⟩ := hM
  split at h3
  · exact .inr (.inr (.inr h3))
  · split at h3
    · exact .inr (.inr (.inl h3))
    · split at h3
      · exact .inr (.inl h3)
      · exact .inl h3
theorem mm_end (hM : MM46 E0 E1 E2 E3 (fun _ => true) u) : u = E3 := by
  obtain ⟨_, _, h3⟩ := hM
  simpa using h3
end
/-- append as one step of a region, its run known ahead. -/
theorem step_append_run {P : Program} {ops : Array Oper} {o : Oper} {a : Act} {w : World} {K : Act → World → Prop} {Q : Exit → Act → World → Prop} {E : Prop} (hgd : o.guard = none) (s x : Operand) (t ty : TypeId)
    (ho : o.op = .call { callee := .builtin .append, args := #[s, x], argTypes := #[t, t] }) (hty : o.type = ty) (v1 v2 v : Value) (w' : World) (hs : a.eval s = v1) (hx : a.eval x = v2) (hrun : (Builtin.append_ #[t, t] ty #[v1, v2]).run P w = .ok v w')
    (h : K (a.put o.dst v) w') : if Region.wanted o (yielded ops a.tmps) = true then Oper.wp P o a w K Q else E := by
  have hw : Region.wanted o (yielded ops a.tmps) = true := by simp [Region.wanted, hgd]
  rw [if_pos hw]
  subst hty
  unfold Oper.wp
  simp only [execOp, ho, resolve, invoke, builtin, Sem.run_bind, Sem.run_pure, Result.andThen_ok, List.map_toArray, List.map_cons, List.map_nil, hs, hx, hrun]
  exact h
/-- One symbol more in a row of the call's own. -/
theorem row_grows {w : World} {base n c b : Nat} {A : Option Addr} {xs : List Int} {z : Int} (hown : w.ownsRow base 47 1 (.slice A n c) n (xs.map (Value.int .u8))) (hB : Blk w b 47 #[.int .u8 z]) (hn : n ≤ 65536) (hbase : base ≤ w.heap.size) :
    ∃ A' c' w', (Builtin.append_ #[126, 126] 126 #[.slice A n c, .slice (some ⟨b, 0, none⟩) 1 1]).run Tryz.prog w = .ok (.slice A' (n + 1) c') w' ∧ w'.ownsRow base 47 1 (.slice A' (n + 1) c') (n + 1) ((xs ++ [z]).map (Value.int .u8)) ∧ w.grownBy w' (Value.slice A n c).ownBlock ∧
      ((Value.slice A' (n + 1) c').ownBlock = (Value.slice A n c).ownBlock ∨ (Value.slice A' (n + 1) c').ownBlock = some w.heap.size) := by
  obtain ⟨i0, hi0, hz0, hz1, hz2⟩ := info_parts infoSyms
  have hr : Lies .u8 w w.heap.size (some ⟨b, 0, none⟩) 1 [z] := Blk.lies (k := .u8) (xs := [z]) hB rfl
  exact run_append_lies (P := Tryz.prog) w base 126 126 47 i0 _ 1 Tryz.underlying126 hi0 hz0 hz1 hz2 rfl .u8 (.slice A n c) n xs hown (some ⟨b, 0, none⟩) 1 1 [z] hr (by unfold maxLen; omega) (by omega) hbase
end Go.Proofs.YtkejpkcaojidaaaGreatDoor

