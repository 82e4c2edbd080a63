/-
  Rows of which one part is turned: what they are, and that they are others. Nothing of the program's run is in it; no condition.
-/
import Derived.Test.YtcangipaoancnaaWdR4
import Derived.Test.YtcangipaoancnaaRegI
namespace Go.Proofs.Ytcangipaoancnaa
open Go.RowKit
set_option linter.unusedVariables false
set_option linter.unusedSimpArgs false

/-- Boxes of the row, of the result, of what is to be: the law's. -/
structure OT (w : World) (o : Nat) (b : Bool) (c : Ce) (A : Option Addr) (m p : Nat) (L : List Value) (U : World) : Prop where
  x : Blk U w.heap.size 54 (roL b c A m p).toArray
  z : ∃ Z : List Value, Z.length = 57 ∧ PIn U (w.heap.size + 1) 0 74 [] [] Z
  q : PIn U o 0 74 [] [] L
  b : Below w.heap.size w U
  lo : w.heap.size + 1 < o
theorem OT.turn {w U V : World} {o : Nat} {b : Bool} {c : Ce} {A : Option Addr} {m p : Nat} {L M : List Value} (h : OT w o b c A m p L U) (q : PIn V o 0 74 [] [] M) (k : But o U V) : OT w o b c A m p M V := by
  obtain ⟨Z, h2, h3⟩ := h.z
  have := h.lo
  exact ⟨k.blk h.x (by omega), ⟨Z, h2, h3.but k (by omega)⟩, q, h.b.trans (k.low (by omega)), h.lo⟩
theorem OT.on {w U V : World} {o : Nat} {b : Bool} {c : Ce} {A : Option Addr} {m p : Nat} {L : List Value} (h : OT w o b c A m p L U) (k : Below (o + 1) U V) : OT w o b c A m p L V := by
  obtain ⟨Z, h2, h3⟩ := h.z
  have := h.lo
  exact ⟨h.x.below k (by omega), ⟨Z, h2, ⟨h3.blk.below k (by omega), h3.len⟩⟩, ⟨h.q.blk.below k (by omega), h.q.len⟩, h.b.trans (k.mono (by omega)), h.lo⟩
theorem OT.drew {w U : World} {o : Nat} {b : Bool} {c : Ce} {A : Option Addr} {m p : Nat} {L : List Value} (h : OT w o b c A m p L U) : OT w o b c A m p L U.drew := h.on (Below.refl _ U).drew
theorem Reg.KJ.pin {B : Nat} {Js : List (World → Prop)} {w w' : World} {g O : Nat} {T : TypeId} {A Z L : List Value} (h : Reg.KJ B [] Js w w') (hp : PIn w g O T A Z L) : PIn w' g O T A Z L := ⟨h.blk (by simp) hp.blk, hp.len⟩
def Reg.FactK.he {B : Nat} {Js : List (World → Prop)} (X : He) : Reg.FactK (Reg.KJ B [] Js) := ⟨fun v w => ∃ g, v = .slice (some ⟨g, 0, none⟩) 1 1 ∧ Blk w g 106 (heL X).toArray, fun _ _ _ hb h => by
  obtain ⟨g, e, hB⟩ := h
  exact ⟨g, e, hb.blk (by simp) hB⟩⟩
set_option maxRecDepth 100000 in
set_option maxHeartbeats 4000000 in
theorem other_is (r : Rw) (hm : r.n ≤ 65536) (w : World) (hT : LiesH w w.heap.size r.A r.n r.T) :
    Calls Try.prog 25 #[.agg r.l.toArray] w fun e w' => ∃ Q : Rw, e = .returned (.agg Q.l.toArray) ∧ Q.ro = r.ro ∧ OwnT w' Q ∧ Below w.heap.size w w' := by
  obtain ⟨b, c, A, m, p, T⟩ := r
  have hT' : LiesH w w.heap.size A m T := hT
  have hm' : m ≤ 65536 := hm
  have HT := Lib.hid hT'
  obtain ⟨i0, hi0, hz0, hz1, hz2⟩ := info_parts infoRHeld
  have HI := Lib.hid hi0
  have HZ0 := Lib.hid hz0
  have HZ1 := Lib.hid hz1
  have HZ2 := Lib.hid hz2
  have HBR := Lib.hid (built_rrow b c)
  clear hT hT' hm hi0 hz0 hz1 hz2
  go_enter Try.func25, Try.ntmps25
  go_upto_region 1 with fail
  refine wp_at (Boxed w 54 74 (roL b c A m p) 57) (Boxed.mk_ _ _ _ _ _ _ rfl) ?_
  intro U hU
  have HU := Lib.hid hU
  have HZN : Hid (∀ Z : Array Value, Z.size = 57 → PIn (U.alloc (.cells Z 74)) U.heap.size 0 74 [] [] Z.toList ∧ Z.toList.length = 57) := Lib.hid (fun Z hZ => ⟨Blk.pin (by simpa using Blk.new U 74 Z), by simpa using hZ⟩)
  have hlt := hU.lt
  have c0 : U.cell? ⟨w.heap.size, 0, none⟩ = some (.bool b) := (hU.x.pin.cell0 (by simp [roL])).trans rfl
  have lx := hU.x.lt
  clear hU
  go_upto_region 2 with (first
    | (refine wpList_load_mid rfl 51 (.tmp 7) rfl w.heap.size 1 (by simp [Act.eval, Act.put]) (ceL c) _ HU.out.x.rowCell Try.underlying51 rfl (by rw [size_ce, ceL_len]) ?_)
    | (refine wpList_build rfl 74 _ rfl (roL b c none 0 0).toArray (by simpa [Act.eval, Act.put] using HBR.out) ?_)
    | (refine wpList_store_pin rfl 74 (.tmp 3) (.tmp 9) rfl (HZN.out _ rfl).1 (roL b c none 0 0) (by simp [Act.eval, Act.put]) (by simp [Act.eval, Act.put]) 57 size_rrow (HZN.out _ rfl).2 (roL_len _ _ _ _ _) (roL_one _ _ _ _ _) ?_; intro w1 p1 b1; have HP1 := Lib.hid p1; have HB1 := Lib.hid b1; clear p1 b1))
  refine wp_at (OT w U.heap.size b c A m p (roL b c none 0 0)) ⟨(HB1.out.blk ((HU.out.x).alloc _) (by omega)), (by obtain ⟨Z, z1, z2⟩ := HU.out.res; exact ⟨Z, z1, (z2.on (below_al (Below.refl _ U) _)).but HB1.out (by omega)⟩), HP1.out, (below_al HU.out.b _).trans (HB1.out.low (by have := HU.out.b.size; omega)), hlt⟩ ?_
  intro V hV
  obtain ⟨o, ho⟩ : ∃ o, o = U.heap.size := ⟨_, rfl⟩
  rw [← ho] at hV ⊢
  clear ho HZN HU HP1 HB1 hlt c0 lx
  have HV := Lib.hid hV
  clear hV
  go_wp2_with fail
  go_loopw [4] (fun s wr => ∃ k : Nat, k ≤ m ∧ s = .int .i64 (k : Int) ∧ ∃ (A' : Option Addr) (p' : Nat), Hid (OT w o b c A m p (roL b c A' k p') wr) ∧ Hid (wr.ownsRow (o + 1) 106 56 (.slice A' k p') k (hesL T k))) (fun s _ => m - (intOf s).toNat)
  case atStart => exact ⟨0, by omega, rfl, none, 0, HV, Lib.hid ownsF_nil⟩
  case round =>
    clear HV
    obtain ⟨k, hk, rfl, A', p', HR, HO⟩ := hrel
    have c56 := HR.out.x.rowTab
    have lx := HR.out.x.lt
    by_cases hlt : k < m
    · obtain ⟨tb, toff, rfl, htb, hct⟩ := HT.out (by omega)
      have HTB := Lib.hid htb
      have HCT := Lib.hid (hct k hlt)
      have hix := fun W => idxHelds (A := some ⟨tb, toff, none⟩) (n := m) p rfl hlt W
      have HBH := Lib.hid (built_rheld (T k).i (T k).c)
      have HLO := Lib.hid HR.out.q.lt
      have HBW := Lib.hid HR.out.b
      clear htb hct
      go_wp2_with fail
      refine Reg.wp_prefix 16 (by kernel_rfl) (fun t => decide (17 ≤ t) && decide (t ≤ 32)) (Reg.KJ wr.heap.size [] []) (Reg.KJ.drew _ (by simp)) Reg.KJ.trans (by kernel_rfl) (by kernel_rfl) (by kernel_rfl) (by kernel_rfl) (fun zz => (Reg.tblK [
        (17, .is (.pointer (some ⟨o, 56, none⟩))),
        (18, .is (.slice A' k p')),
        (19, .is (.pointer (some ⟨w.heap.size, 56, none⟩))),
        (20, .is (.slice (some ⟨tb, toff, none⟩) m p)),
        (21, .is (.int .i64 (k : Int))),
        (22, .is (.pointer (some ⟨tb, toff + k * 56, none⟩))),
        (23, .is (.pointer (some ⟨tb, toff + k * 56, none⟩))),
        (24, .is (.bool (T k).i)),
        (25, .is (.pointer (some ⟨w.heap.size, 56, none⟩))),
        (26, .is (.slice (some ⟨tb, toff, none⟩) m p)),
        (27, .is (.int .i64 (k : Int))),
        (28, .is (.pointer (some ⟨tb, toff + k * 56, none⟩))),
        (29, .is (.pointer (some ⟨tb, toff + k * 56 + 1, none⟩))),
        (30, .is (.agg (ceL (T k).c).toArray)),
        (31, .is (.agg (heL (T k)).toArray)),
        (32, .he (T k))] zz).P) (fun zz => (Reg.tblK _ zz).on) (fun zz => (Reg.memK [] zz).P) (fun zz => (Reg.memK _ zz).on) ?_ ?_
      · simp only [Reg.frame, Reg.over, Nat.reduceAdd, Nat.reduceLeDiff, decide_true, decide_false, if_true, Bool.false_eq_true, if_false, Bool.and_true, Bool.and_false]
        refine ⟨?_, ?_, ?_, ?_, ?_, ?_, ?_, ?_, ?_, ?_, ?_, ?_, ?_, ?_, ?_, ?_, trivial⟩
        · intro x u hku hd
          refine wpOp_step rfl fun KK hK => ?_
          go_simp
          exact hK _ _ ⟨_, rfl, Reg.KJ.refl _, fun d hd => by cases hd; exact rfl, fun h => by cases h⟩
        · intro x u hku hd
          have h17 : x 17 = .pointer (some ⟨o, 56, none⟩) := hd 0 (by decide)
          have co : u.cell? ⟨o, 56, none⟩ = some (.slice A' k p') := by have := (hku.pin HR.out.q).cell 56 (by rw [roL_len]; omega); rw [Nat.zero_add] at this; rw [this, ro_tab]
          have lo2 := (hku.pin HR.out.q).lt
          refine wpOp_step rfl fun KK hK => ?_
          simp only [h17] at hK ⊢
          go_simp
          exact hK _ _ ⟨_, rfl, Reg.KJ.refl _, fun d hd => by cases hd; exact rfl, fun h => by cases h⟩
        · intro x u hku hd
          refine wpOp_step rfl fun KK hK => ?_
          go_simp
          exact hK _ _ ⟨_, rfl, Reg.KJ.refl _, fun d hd => by cases hd; exact rfl, fun h => by cases h⟩
        · intro x u hku hd
          have h19 : x 19 = .pointer (some ⟨w.heap.size, 56, none⟩) := hd 2 (by decide)
          have cx := (hku.blk (by simp) HR.out.x).rowTab
          have lx2 := (hku.blk (by simp) HR.out.x).lt
          refine wpOp_step rfl fun KK hK => ?_
          simp only [h19] at hK ⊢
          go_simp
          exact hK _ _ ⟨_, rfl, Reg.KJ.refl _, fun d hd => by cases hd; exact rfl, fun h => by cases h⟩
        · intro x u hku hd
          refine wpOp_step rfl fun KK hK => ?_
          go_simp
          exact hK _ _ ⟨_, rfl, Reg.KJ.refl _, fun d hd => by cases hd; exact rfl, fun h => by cases h⟩
        · intro x u hku hd
          have h20 : x 20 = .slice (some ⟨tb, toff, none⟩) m p := hd 3 (by decide)
          have h21 : x 21 = .int .i64 (k : Int) := hd 4 (by decide)
          refine wpOp_step rfl fun KK hK => ?_
          simp only [h20, h21] at hK ⊢
          go_simp
          exact hK _ _ ⟨_, rfl, Reg.KJ.refl _, fun d hd => by cases hd; exact rfl, fun h => by cases h⟩
        · intro x u hku hd
          have h22 : x 22 = .pointer (some ⟨tb, toff + k * 56, none⟩) := hd 5 (by decide)
          refine wpOp_step rfl fun KK hK => ?_
          simp only [h22] at hK ⊢
          go_simp
          exact hK _ _ ⟨_, rfl, Reg.KJ.refl _, fun d hd => by cases hd; exact rfl, fun h => by cases h⟩
        · intro x u hku hd
          have h23 : x 23 = .pointer (some ⟨tb, toff + k * 56, none⟩) := hd 6 (by decide)
          have ct : u.cell? ⟨tb, toff + k * 56, none⟩ = some (.bool (T k).i) := ((HBW.out.trans (hku.below.mono HBW.out.size)).cell (p := ⟨tb, _, none⟩) HTB.out).trans (HCT.out 0 _ rfl)
          have lt2 : tb < u.heap.size := Nat.lt_of_lt_of_le HTB.out (HBW.out.trans (hku.below.mono HBW.out.size)).size
          refine wpOp_step rfl fun KK hK => ?_
          simp only [h23] at hK ⊢
          go_simp
          exact hK _ _ ⟨_, rfl, Reg.KJ.refl _, fun d hd => by cases hd; exact rfl, fun h => by cases h⟩
        · intro x u hku hd
          refine wpOp_step rfl fun KK hK => ?_
          go_simp
          exact hK _ _ ⟨_, rfl, Reg.KJ.refl _, fun d hd => by cases hd; exact rfl, fun h => by cases h⟩
        · intro x u hku hd
          have h25 : x 25 = .pointer (some ⟨w.heap.size, 56, none⟩) := hd 8 (by decide)
          have cx := (hku.blk (by simp) HR.out.x).rowTab
          have lx2 := (hku.blk (by simp) HR.out.x).lt
          refine wpOp_step rfl fun KK hK => ?_
          simp only [h25] at hK ⊢
          go_simp
          exact hK _ _ ⟨_, rfl, Reg.KJ.refl _, fun d hd => by cases hd; exact rfl, fun h => by cases h⟩
        · intro x u hku hd
          refine wpOp_step rfl fun KK hK => ?_
          go_simp
          exact hK _ _ ⟨_, rfl, Reg.KJ.refl _, fun d hd => by cases hd; exact rfl, fun h => by cases h⟩
        · intro x u hku hd
          have h26 : x 26 = .slice (some ⟨tb, toff, none⟩) m p := hd 9 (by decide)
          have h27 : x 27 = .int .i64 (k : Int) := hd 10 (by decide)
          refine wpOp_step rfl fun KK hK => ?_
          simp only [h26, h27] at hK ⊢
          go_simp
          exact hK _ _ ⟨_, rfl, Reg.KJ.refl _, fun d hd => by cases hd; exact rfl, fun h => by cases h⟩
        · intro x u hku hd
          have h28 : x 28 = .pointer (some ⟨tb, toff + k * 56, none⟩) := hd 11 (by decide)
          refine wpOp_step rfl fun KK hK => ?_
          simp only [h28] at hK ⊢
          go_simp
          exact hK _ _ ⟨_, rfl, Reg.KJ.refl _, fun d hd => by cases hd; exact rfl, fun h => by cases h⟩
        · intro x u hku hd
          have h29 : x 29 = .pointer (some ⟨tb, toff + k * 56 + 1, none⟩) := hd 12 (by decide)
          refine wpOp_step rfl fun KK hK => ?_
          refine Reg.step_load_mid (by rfl) 51 (.tmp 29) (by rfl) tb (toff + k * 56 + 1) (by exact h29) (ceL (T k).c) (fun j v hv => by rw [Nat.add_assoc]; exact ((HBW.out.trans (hku.below.mono HBW.out.size)).cell (p := ⟨tb, _, none⟩) HTB.out).trans (HCT.out (1 + j) v (by rw [Nat.add_comm]; exact hv))) _ Try.underlying51 rfl (by rw [size_ce, ceL_len]) ?_
          exact hK _ _ ⟨_, rfl, Reg.KJ.refl _, fun d hd => by cases hd; exact rfl, fun h => by cases h⟩
        · intro x u hku hd
          have h24 : x 24 = .bool (T k).i := hd 7 (by decide)
          have h30 : x 30 = .agg (ceL (T k).c).toArray := hd 13 (by decide)
          refine wpOp_step rfl fun KK hK => ?_
          refine Reg.step_build (by rfl) 106 _ (by rfl) _ (by simpa [Act.eval, h24, h30] using HBH.out) ?_
          exact hK _ _ ⟨_, rfl, Reg.KJ.refl _, fun d hd => by cases hd; exact rfl, fun h => by cases h⟩
        · intro x u hku hd
          have h31 : x 31 = .agg (heL (T k)).toArray := hd 14 (by decide)
          refine wpOp_step rfl fun KK hK => ?_
          refine Reg.step_bsl (by rfl) 72 1 _ (by rfl) #[(0, .agg (heL (T k)).toArray)] (by simp [Act.eval, h31]) _ _ (run_bsl_one (P := Try.prog) u 72 106 i0 (heL heN) 56 elemRHelds HI.out HZ0.out HZ1.out (heL_len _) (by decide) (by decide) (heL (T k)) (heL_len _)) ?_
          exact hK _ _ ⟨_, rfl, Reg.KJ.grow (by simp) hku.size (below_al (Below.refl _ u) _), fun d hd => by cases hd; exact ⟨_, rfl, Blk.new u _ _⟩, fun h => by cases h⟩
      · intro x u hku hd
        obtain ⟨gb, e32, hgb⟩ : (∃ g, x 32 = .slice (some ⟨g, 0, none⟩) 1 1 ∧ Blk u g 106 (heL (T k)).toArray) := hd 15 (by decide)
        have e18 : x 18 = .slice A' k p' := hd 1 (by decide)
        have e17 : x 17 = .pointer (some ⟨o, 56, none⟩) := hd 0 (by decide)
        have HGB := Lib.hid hgb
        have HKU := Lib.hid hku.below
        have HOU := Lib.hid (ownsF_on HO.out hku.below)
        have HRU := Lib.hid (HR.out.on (hku.below.mono HLO.out))
        clear hgb c56
        simp only [Reg.frame, Reg.over, Nat.reduceAdd, Nat.reduceLeDiff, decide_true, decide_false, if_true, Bool.false_eq_true, if_false, Bool.and_true, Bool.and_false, e32, e18, List.drop_succ_cons, List.drop_zero]
        go_wp2_with (at_builtin; refine wpList_append_G rfl (.tmp 18) (.tmp 32) 72 rfl (o + 1) 106 i0 _ 56 136 elemRHelds HI.out HZ0.out HZ1.out HZ2.out (by simp [Value.cells, heL_len]) (by decide) A' k p' (hesL T k) (by simp [Act.eval, Act.put]) HOU.out gb 1 1 (heL (T k)) (by simp [Act.eval, Act.put]) HGB.out (heL_len _) (heL_one _) (by decide) (by unfold maxLen; omega) (by omega) (Nat.le_trans HLO.out hku.size) ?_; intro A2 p2 w2 hO2 hb2 _; have HO2 := Lib.hid hO2; have hr2 := HRU.out.on hb2; have HR2 := Lib.hid hr2; have o56' : w2.cell? ⟨o, 56, none⟩ = some (.slice A' k p') := (by have := hr2.q.cell 56 (by rw [roL_len]; omega); rw [Nat.zero_add] at this; rw [this, ro_tab]); have fo56' := hr2.q.frozen 56; have lo2' := hr2.q.lt; clear hO2 hr2 hb2)
        go_roundw
        case rel =>
          refine ⟨k + 1, by omega, by go_num, A2, p2, Lib.hid ?_, Lib.hid (ownsF_but (by rw [hesL_succ]; exact HO2.out) (But.one 56 _) (fun g hg => by have := ownsF_lt HO2.out hg; omega))⟩
          have := HR2.out.q.set_ 56 (.slice A2 (k + 1) p2) (by rw [roL_len]; omega)
          rw [ro_setTab, Nat.zero_add] at this
          exact HR2.out.turn this (But.one 56 _)
        case measure => simp [intOf]; omega
    · obtain rfl : k = m := by omega
      obtain ⟨Z, hzl, hz⟩ := HR.out.z
      have HZ := Lib.hid hz
      have HZL := Lib.hid hzl
      clear hz hzl
      go_upto_region 6 with fail
      refine wp_region_lit ?_
      go_wp2_with (first
        | (refine wpList_load_pin rfl 74 (.tmp 3) rfl HR.out.q (by simp [Act.eval, Act.put]) _ Try.underlying74 rfl 57 size_rrow (roL_len _ _ _ _ _) ?_)
        | (refine wpList_store_pin rfl 74 (.tmp 2) (.tmp 35) rfl HZ.out (roL b c A' k p') (by simp [Act.eval, Act.put]) (by simp [Act.eval, Act.put]) 57 size_rrow HZL.out (roL_len _ _ _ _ _) (roL_one _ _ _ _ _) ?_; intro w2 p2 b2))
      have hld := p2.var 74 _ Try.underlying74 rfl 57 size_rrow (roL_len _ _ _ _ _)
      exact bodyPost_ret (v := .agg (roL b c A' k p').toArray) (by simp [results, Try.results25, asAddr, Act.put, hld]) rfl ⟨⟨b, c, A', k, p', T⟩, rfl, rfl, ownsF_mono (ownsF_but HO.out b2 (fun g hg => by have := ownsF_lt HO.out hg; have := HR.out.lo; omega)) (Nat.zero_le _), HR.out.b.trans (b2.low (Nat.le_succ _))⟩
end Go.Proofs.Ytcangipaoancnaa

namespace Go.Proofs.Ytcangipaoancnaa
open Go.RowKit
set_option linter.unusedVariables false
set_option linter.unusedSimpArgs false

theorem wpList_build_want {P : Program} {ops : Array Oper} {rest : List Oper} {o : Oper} {a : Act} {w : World} {Q : Exit → Act → World → Prop} (t : TypeId) (parts : Array (Nat × Operand)) (ho : o.op = .build t parts) (cells : Array Value) (hb : P.built t (parts.map fun (i, x) => (i, a.eval x)).toList = some cells) (hw : Region.wanted o (yielded ops a.tmps) = true)
    (h : wpList P ops Q rest (a.put o.dst (.agg cells)) w) : wpList P ops Q (o :: rest) a w := by
  refine wpList_want hw fun K hK => ?_
  unfold Oper.wp execOp
  simp only [ho, Sem.run_bind, run_build w t _ cells hb, Result.andThen_ok, Sem.run_pure]
  exact hK _ _ h
def exC : Ce := ⟨-5, ⟨true, 0, 9, 0, 0, 0⟩, saN, { vwN with c := 99 }⟩
def exD : Ce := ⟨-1, saN, saN, { vwN with c := -1 }⟩
def exE : Ce := { ceN with a := 5 }
def exF13 : Ce := { ceN with a := 7 }
theorem exC_pl : plC exC = exD := rfl
theorem exF_pl : plC exF13 = exF13 := rfl
def exRow : Rw := ⟨false, exE, none, 0, 0, fun _ => heN⟩
theorem exRow_lies {w : World} {g : Nat} (h : Blk w g 54 exRow.l.toArray) : LiesR w w.heap.size (some ⟨g, 0, none⟩) 1 (fun _ => exRow) := by
  refine ⟨?_, fun i hi => LiesH.nil_⟩
  refine Blk.liesF (f := fun _ => exRow.l) (n := 1) (m := 57) (t := 54) (by decide) (fun _ => Rw.l_len _) ?_
  rw [show flL (fun _ => exRow.l) 1 = exRow.l by simp [flL, List.range_succ]]
  exact h
/-- Behind the three calls. -/
structure LV (w : World) (g1 g2 g3 G : Nat) (Ls : Nat → List Value) (L3 : List Value) (U : World) : Prop where
  a : Blk U g1 51 (ceL exD).toArray
  b : Blk U g2 34 #[.slice (some ⟨G, 0, none⟩) 2 2]
  c : Blk U G 54 (flL Ls 2).toArray
  l : ∀ i, (Ls i).length = 57
  z : ∀ i, i < 2 → ∃ A p, Ls i = roL false ceN A 0 p
  d : Blk U g3 54 L3.toArray
  e : ∃ A p, L3 = roL true exF13 A 1 p
  k : Below w.heap.size w U
end Go.Proofs.Ytcangipaoancnaa

namespace Go.Proofs.Ytcangipaoancnaa
open Go.RowKit
set_option linter.unusedVariables false
set_option linter.unusedSimpArgs false

def setV (v : Vector Int 8) (j : Nat) (x : Int) : Vector Int 8 := v.setIfInBounds j x
theorem nuL_set (k : IntKind) (v : Vector Int 8) (j : Nat) (x : Int) : nuL k (setV v j x) = (nuL k v).set j (.int k x) := by
  unfold nuL setV
  rw [← List.map_set]
  congr 1
  obtain ⟨⟨l⟩, h⟩ := v
  simp
theorem nuL_at (k : IntKind) (v : Vector Int 8) (j : Nat) (hj : j < 8) : (nuL k v)[j]? = some (.int k (v.toList.getD j 0)) := by
  unfold nuL
  simp [List.getD, hj]
theorem setV_ne (v : Vector Int 8) (j : Nat) (hj : j < 8) (x : Int) (hx : x ≠ v.toList.getD j 0) : setV v j x ≠ v := by
  intro e
  have h := nuL_at .u8 (setV v j x) j hj
  have hl := nuL_len .u8 v
  rw [nuL_set, List.getElem?_set_self (by omega)] at h
  rw [e] at h
  injection h with h
  injection h with _ h
  exact hx h
/-- A cell of which Miss of a pair is another one, Score of a pair. -/
def Ce.miss (c : Ce) (j : Nat) (x : Int) : Ce := { c with v := { c.v with m := setV c.v.m j x } }
def Ce.score (c : Ce) (j : Nat) (x : Int) : Ce := { c with v := { c.v with s := setV c.v.s j x } }
theorem ce_parts (c : Ce) : ceL c = (.int .i64 c.a :: (saL c.o ++ (saL c.r ++ boL c.v.n))) ++ (nuL .u8 c.v.m ++ (nuL .u8 c.v.g ++ (nuL .u16 c.v.s ++ (boL c.v.t ++ [.int .i8 c.v.c, .int .u8 c.v.d])))) := by
  simp [ceL, vwL, vrL]
theorem ce_miss (c : Ce) (j : Nat) (hj : j < 8) (x : Int) : (ceL c).set (21 + j) (.int .u8 x) = ceL (c.miss j x) := by
  rw [ce_parts, ce_parts, List.set_append_right _ _ (by simp [saL_len, boL_len]), List.set_append_left _ _ (by simp [saL_len, boL_len, nuL_len]; omega)]
  congr 2
  rw [show 21 + j - (Value.int .i64 c.a :: (saL c.o ++ (saL c.r ++ boL c.v.n))).length = j by simp [saL_len, boL_len]]
  exact (nuL_set .u8 c.v.m j x).symm
theorem ce_score (c : Ce) (j : Nat) (hj : j < 8) (x : Int) : (ceL c).set (37 + j) (.int .u16 x) = ceL (c.score j x) := by
  have e : ∀ c : Ce, ceL c = (.int .i64 c.a :: (saL c.o ++ (saL c.r ++ (boL c.v.n ++ (nuL .u8 c.v.m ++ nuL .u8 c.v.g))))) ++ (nuL .u16 c.v.s ++ (boL c.v.t ++ [.int .i8 c.v.c, .int .u8 c.v.d])) := fun c => by simp [ceL, vwL, vrL]
  rw [e, e, List.set_append_right _ _ (by simp [saL_len, boL_len, nuL_len]), List.set_append_left _ _ (by simp [saL_len, boL_len, nuL_len]; omega)]
  congr 2
  rw [show 37 + j - (Value.int .i64 c.a :: (saL c.o ++ (saL c.r ++ (boL c.v.n ++ (nuL .u8 c.v.m ++ nuL .u8 c.v.g))))).length = j by simp [saL_len, boL_len, nuL_len]]
  exact (nuL_set .u16 c.v.s j x).symm
theorem ce_miss_at (c : Ce) (j : Nat) (hj : j < 8) : (ceL c)[21 + j]? = some (.int .u8 (c.v.m.toList.getD j 0)) := by
  rw [ce_parts, List.getElem?_append_right (by simp [saL_len, boL_len]), List.getElem?_append_left (by simp [saL_len, boL_len, nuL_len]; omega)]
  rw [show 21 + j - (Value.int .i64 c.a :: (saL c.o ++ (saL c.r ++ boL c.v.n))).length = j by simp [saL_len, boL_len]]
  exact nuL_at _ _ j hj
theorem ce_score_at (c : Ce) (j : Nat) (hj : j < 8) : (ceL c)[37 + j]? = some (.int .u16 (c.v.s.toList.getD j 0)) := by
  have e : ceL c = (.int .i64 c.a :: (saL c.o ++ (saL c.r ++ (boL c.v.n ++ (nuL .u8 c.v.m ++ nuL .u8 c.v.g))))) ++ (nuL .u16 c.v.s ++ (boL c.v.t ++ [.int .i8 c.v.c, .int .u8 c.v.d])) := by simp [ceL, vwL, vrL]
  rw [e, List.getElem?_append_right (by simp [saL_len, boL_len, nuL_len]), List.getElem?_append_left (by simp [saL_len, boL_len, nuL_len]; omega)]
  rw [show 37 + j - (Value.int .i64 c.a :: (saL c.o ++ (saL c.r ++ (boL c.v.n ++ (nuL .u8 c.v.m ++ nuL .u8 c.v.g))))).length = j by simp [saL_len, boL_len, nuL_len]]
  exact nuL_at _ _ j hj
theorem ro_set (b : Bool) (c d : Ce) (A : Option Addr) (n p i : Nat) (v : Value) (hi : i < 55) (h : (ceL c).set i v = ceL d) : (roL b c A n p).set (i + 1) v = roL b d A n p := by
  unfold roL
  rw [List.set_cons_succ, List.set_append_left _ _ (by rw [ceL_len]; exact hi), h]
theorem ro_at (b : Bool) (c : Ce) (A : Option Addr) (n p i : Nat) (hi : i < 55) : (roL b c A n p)[i + 1]? = (ceL c)[i]? := by
  unfold roL
  rw [List.getElem?_cons_succ, List.getElem?_append_left (by rw [ceL_len]; exact hi)]
theorem wrap_ne (k : IntKind) (hk : k = .i64 ∨ k = .u32 ∨ k = .u16 ∨ k = .u8) (x : Int) : k.wrap (x + 1) ≠ x := by
  intro h
  rcases hk with rfl | rfl | rfl | rfl <;> simp [IntKind.wrap, IntKind.bits, IntKind.signed] at h <;> omega
theorem eqR_self (a : Ro) : eqR a a = true := (eqR_iff a a).2 ⟨rfl, rfl, rfl, fun _ _ => rfl⟩
theorem eqR_no {a b : Ro} (h : a.b ≠ b.b ∨ a.c ≠ b.c ∨ a.n ≠ b.n ∨ ∃ i, i < a.n ∧ a.T i ≠ b.T i) : eqR a b = false ∧ eqR b a = false := by
  constructor
  · cases e : eqR a b
    · rfl
    · obtain ⟨h1, h2, h3, h4⟩ := (eqR_iff a b).1 e
      rcases h with h | h | h | ⟨i, hi, h⟩
      · exact absurd h1 h
      · exact absurd h2 h
      · exact absurd h3 h
      · exact absurd (h4 i hi) h
  · cases e : eqR b a
    · rfl
    · obtain ⟨h1, h2, h3, h4⟩ := (eqR_iff b a).1 e
      rcases h with h | h | h | ⟨i, hi, h⟩
      · exact absurd h1.symm h
      · exact absurd h2.symm h
      · exact absurd h3.symm h
      · exact absurd (h4 i (by omega)).symm h
theorem copy_any (r : Rw) (hn : r.A = none → r.n = 0 ∧ r.p = 0) (hm : r.n ≤ 65536) (w : World) (hT : LiesH w w.heap.size r.A r.n r.T) :
    Calls Try.prog 78 #[.agg r.l.toArray] w fun e w' => ∃ L : List Value, e = .returned (.agg L.toArray) ∧ RowO w' w.heap.size r.ro L ∧ Below w.heap.size w w' := by
  obtain ⟨b, c, A, n, p, T⟩ := r
  cases A with
  | none => exact (copy_nil b c n p w).mono fun e w' ⟨h1, h2⟩ => ⟨_, h1, ⟨none, p, rfl, .inl ⟨rfl, hn rfl⟩⟩, h2⟩
  | some ad => exact copy_some b c ad n p hm T w hT
theorem Blk.ownsF {w : World} {g n size : Nat} {e : TypeId} {xs : List Value} (h : Blk w g e xs.toArray) (hl : xs.length = n * size) (hm : n ≤ maxLen) : w.ownsRow 0 e size (.slice (some ⟨g, 0, none⟩) n n) n xs :=
  ⟨hl, .inr ⟨g, n, xs.toArray, rfl, Nat.zero_le _, h, Nat.le_refl _, hm, by simp [hl], by simp [← hl]⟩⟩
end Go.Proofs.Ytcangipaoancnaa

