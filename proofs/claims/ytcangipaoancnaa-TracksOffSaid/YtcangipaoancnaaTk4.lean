/-
  A lane's certificates: the row that two of the copies at least have. Conditions: the rows' reading, their lengths; the list's room.
-/
import Derived.Test.YtcangipaoancnaaTk2
import Derived.Test.YtcangipaoancnaaWd9
namespace Go.Proofs.Ytcangipaoancnaa
open Go.RowKit
set_option linter.unusedVariables false
set_option linter.unusedSimpArgs false

/-- Is a row among the first m of others? -/
def amongM (x : Ro) (R : Nat → Rw) : Nat → Bool
  | 0 => false
  | m + 1 => amongM x R m || eqR x (R m).ro
theorem amongM_step {x : Ro} {R : Nat → Rw} : ∀ {m k : Nat}, k ≤ m → (∀ i, i < k → eqR x (R i).ro = false) → amongM x R k = false
  | _, 0, _, _ => rfl
  | m, k + 1, h, hs => by rw [amongM, amongM_step (m := m) (by omega) fun i hi => hs i (by omega), hs k (by omega)]; rfl
theorem amongM_hit {x : Ro} {R : Nat → Rw} : ∀ {m k : Nat}, k < m → eqR x (R k).ro = true → amongM x R m = true
  | 0, k, h, _ => by omega
  | m + 1, k, h, he => by
    by_cases e : k = m
    · subst e; rw [amongM, he, Bool.or_true]
    · rw [amongM, amongM_hit (by omega) he, Bool.true_or]
set_option maxRecDepth 100000 in
set_option maxHeartbeats 2000000 in
theorem isAmong_is (x : Rw) (hx : x.n ≤ 65536) (A : Option Addr) (m c : Nat) (hm : m ≤ 65536) (R : Nat → Rw) (hRn : ∀ i, i < m → (R i).n ≤ 65536) (w : World) (hR : LiesR w w.heap.size A m R) (hT : LiesH w w.heap.size x.A x.n x.T) :
    Calls Try.prog 101 #[.agg x.l.toArray, .slice A m c] w fun e w' => e = .returned (.bool (amongM x.ro R m)) ∧ Below w.heap.size w w' := by
  have HR := Lib.hid hR
  have HS : Hid (∀ u i, Below w.heap.size w u → i < m → Calls Try.prog 50 #[.agg x.l.toArray, .agg (R i).l.toArray] u fun e w' => e = .returned (.bool (eqR x.ro (R i).ro)) ∧ Below u.heap.size u w') := Lib.hid (fun u i hu hi => same_rows x (R i) hx (hRn i hi) u (hT.on hu) ((hR.t i hi).on hu))
  clear hR hT hRn hx
  go_enter Try.func101, Try.ntmps101
  go_upto_region 1 with fail
  refine wp_at (fun U => Blk U w.heap.size 54 x.l.toArray ∧ Below w.heap.size w U) ⟨Blk.new w _ _, below_al (Below.refl _ w) _⟩ ?_
  rintro U ⟨h1, h2⟩
  have HX := Lib.hid h1
  have HB := Lib.hid h2
  clear h1 h2
  go_wp2_with fail
  go_loopw [9] (fun s wr => ∃ k : Nat, k ≤ m ∧ s = .int .i64 (k : Int) ∧ Hid (∀ i, i < k → eqR x.ro (R i).ro = false) ∧ Hid (Below U.heap.size U wr)) (fun s _ => m - (intOf s).toNat)
  case atStart => exact ⟨0, by omega, rfl, Lib.hid (fun i hi => absurd hi (by omega)), Lib.hid (Below.refl _ _)⟩
  case round =>
    obtain ⟨k, hk, rfl, HN, HU⟩ := hrel
    by_cases hlt : k < m
    · have hkd : decide ((k : Int) < (m : Int)) = true := decide_eq_true (by omega)
      obtain ⟨gb, go, hA, hgb, hcs⟩ := HR.out.f (by omega)
      have HW := Lib.hid (HB.out.trans (HU.out.mono HB.out.size))
      have HRG : Hid (wr.rangeAt gb (go + k * 57) (R k).l) := Lib.hid (fun j v hv => (HW.out.cell (p := ⟨gb, _, none⟩) hgb).trans (hcs k hlt j v hv))
      have hix := fun W => idxRows (A := A) (n := m) c hA hlt W
      have lg : gb < wr.heap.size := Nat.lt_of_lt_of_le hgb HW.out.size
      have HZN : Hid (∀ Z : Array Value, Z.size = 57 → PIn (wr.alloc (.cells Z 54)) wr.heap.size 0 54 [] [] Z.toList ∧ Z.toList.length = 57) := Lib.hid (fun Z hZ => ⟨Blk.pin (by simpa using Blk.new wr 54 Z), by simpa using hZ⟩)
      clear hcs hA
      go_upto_region 4 with (first
        | (refine wpList_load_mid rfl 54 (.tmp 11) rfl gb (go + k * 57) (by simp [Act.eval, Act.put]) (R k).l _ HRG.out Try.underlying54 rfl (by rw [size_row, Rw.l_len]) ?_)
        | (refine wpList_store_pin rfl 54 (.tmp 6) (.tmp 12) rfl (HZN.out _ rfl).1 (R k).l (by simp [Act.eval, Act.put]) (by simp [Act.eval, Act.put]) 57 size_row (HZN.out _ rfl).2 (R k).l_len (roL_one _ _ _ _ _) ?_; intro w2 p2 b2; have HP2 := Lib.hid p2; have HB2 := Lib.hid b2; clear p2 b2))
      refine wp_at (fun V => Blk V w.heap.size 54 x.l.toArray ∧ Blk V wr.heap.size 54 (R k).l.toArray ∧ Below U.heap.size U V) ⟨HX.out.on (below_then HU.out ((below_al (Below.refl _ wr) _).trans (HB2.out.low (Nat.le_refl _)))), HP2.out.blk_, below_then HU.out ((below_al (Below.refl _ wr) _).trans (HB2.out.low (Nat.le_refl _)))⟩ ?_
      obtain ⟨g9, hg9⟩ : ∃ g9, g9 = wr.heap.size := ⟨_, rfl⟩
      rw [← hg9]
      clear HZN HP2 HB2 HRG hix lg hg9 HW HU
      rintro V ⟨v1, v2, v3⟩
      have HV1 := Lib.hid v1.pin
      have HV2 := Lib.hid v2.pin
      have HV3 := Lib.hid v3
      clear v1 v2 v3
      cases he : eqR x.ro (R k).ro
      · have HE := Lib.hid he
        have HSk : Hid (∀ u, Below w.heap.size w u → Calls Try.prog 50 #[.agg x.l.toArray, .agg (R k).l.toArray] u fun e w' => e = .returned (.bool false) ∧ Below u.heap.size u w') := Lib.hid (fun u hu => by have := HS.out u k hu hlt; rw [he] at this; exact this)
        clear he
        go_wp2_with (first
          | (refine wpList_load_pin rfl 54 (.tmp 2) rfl HV1.out (by simp [Act.eval, Act.put]) _ Try.underlying54 rfl 57 size_row x.l_len ?_)
          | (refine wpList_load_pin rfl 54 (.tmp 6) rfl HV2.out (by simp [Act.eval, Act.put]) _ Try.underlying54 rfl 57 size_row (R k).l_len ?_)
          | (go_at_call 50; (with_reducible refine (HSk.out _ (HB.out.trans (HV3.out.mono HB.out.size))).mono ?_); rintro e V2 ⟨rfl, q1⟩; have HV4 := Lib.hid (below_then HV3.out q1); clear q1))
        go_roundw
        case rel => exact ⟨k + 1, by omega, by go_num, Lib.hid (fun i hi => by
          by_cases e : i = k
          · rw [e]; exact HE.out
          · exact HN.out i (by omega)), HV4⟩
        case measure => simp [intOf]; omega
      · have HE := Lib.hid he
        have HSk : Hid (∀ u, Below w.heap.size w u → Calls Try.prog 50 #[.agg x.l.toArray, .agg (R k).l.toArray] u fun e w' => e = .returned (.bool true) ∧ Below u.heap.size u w') := Lib.hid (fun u hu => by have := HS.out u k hu hlt; rw [he] at this; exact this)
        clear he
        go_wp2_with (first
          | (refine wpList_load_pin rfl 54 (.tmp 2) rfl HV1.out (by simp [Act.eval, Act.put]) _ Try.underlying54 rfl 57 size_row x.l_len ?_)
          | (refine wpList_load_pin rfl 54 (.tmp 6) rfl HV2.out (by simp [Act.eval, Act.put]) _ Try.underlying54 rfl 57 size_row (R k).l_len ?_)
          | (go_at_call 50; (with_reducible refine (HSk.out _ (HB.out.trans (HV3.out.mono HB.out.size))).mono ?_); rintro e V2 ⟨rfl, q1⟩; have HV4 := Lib.hid (below_then HV3.out q1); clear q1))
        go_ret
        exact ⟨congrArg (fun b => Ending.returned (.bool b)) (amongM_hit hlt HE.out).symm, HB.out.trans (HV4.out.mono HB.out.size)⟩
    · obtain rfl : k = m := by omega
      go_wp2_with fail
      go_ret
      exact ⟨congrArg (fun b => Ending.returned (.bool b)) (amongM_step (Nat.le_refl _) HN.out).symm, HB.out.trans (HU.out.mono HB.out.size)⟩
end Go.Proofs.Ytcangipaoancnaa

namespace Go.Proofs.Ytcangipaoancnaa
open Go.RowKit
set_option linter.unusedVariables false
set_option linter.unusedSimpArgs false

namespace Reg
theorem step_load_wantT {P : Program} {ops : Array Oper} {o : Oper} {a : Act} {w : World} {K : Act → World → Prop} {Q : Exit → Act → World → Prop} {E : Prop} (hw : Region.wanted o (yielded ops a.tmps) = true) (T : TypeId) (x : Operand) (ho : o.op = .load T x) (g off : Nat) (hx : a.eval x = .pointer (some ⟨g, off, none⟩)) (cs : List Value) (hc : w.rangeAt g off cs) (d : TypeDesc)
    (hu : P.underlying T = some d) (hd : d.isRow = true) (hi : (P.info? T).map (·.size) = some cs.length) (h : K (a.put o.dst (.agg cs.toArray)) w) :
    if Region.wanted o (yielded ops a.tmps) = true then Oper.wp P o a w K Q else E := by
  rw [if_pos hw]
  exact wp_load_mid T x ho g off hx cs d hc hu hd hi h
end Reg
set_option maxRecDepth 100000 in
theorem headRows (g off n c h : Nat) (h2 : h ≤ c) (w : World) :
    (Instr.sliceAt 32 (.slice (some ⟨g, off, none⟩) n c) none (some (.int .i64 (h : Int))) none).run Try.prog w = .ok (.slice (some ⟨g, off, none⟩) h c) w := by
  rw [run_sliceAt_slice w _ _ _ _ _ elemRows, run_slice_h w 32 _ n c elemRows .i64 (h : Int) (by omega) (by omega), show Try.prog.elem 32 = 54 by kernel_rfl, sizeRows]
  simp only [Result.andThen, sliced]
  simp [Addr.add]
/-- What is certified behind the first k copies: none, if there are two such rows. -/
def certS (R : Nat → Rw) : Nat → Option Rw
  | 0 => some rwN
  | k + 1 => match certS R k with
    | none => none
    | some o => if (R k).b && amongM (R k).ro R k then (if o.b && !eqR o.ro (R k).ro then none else some (R k)) else some o
def certM (R : Nat → Rw) (m : Nat) : Rw := (certS R m).getD rwN
theorem certS_none {R : Nat → Rw} {k : Nat} (h : certS R k = none) : ∀ {m : Nat}, k ≤ m → certS R m = none
  | 0, hm => by obtain rfl : k = 0 := by omega
                exact h
  | m + 1, hm => by
    by_cases e : k = m + 1
    · rw [← e]; exact h
    · rw [certS, certS_none h (by omega)]
theorem certS_step {R : Nat → Rw} {k : Nat} {o : Rw} (h : certS R k = some o) (hb : (R k).b = true) (hq : amongM (R k).ro R k = true) : certS R (k + 1) = if o.b && !eqR o.ro (R k).ro then none else some (R k) := by
  rw [certS, h]
  simp only [hb, hq, Bool.and_true, if_true]
/-- The copies' boxes: the result's, what is certified so far. -/
structure CE (w : World) (o : Rw) (U : World) : Prop where
  z : ∃ Z : List Value, Z.length = 57 ∧ PIn U w.heap.size 0 54 [] [] Z
  o : Blk U (w.heap.size + 1) 54 o.l.toArray
  b : Below w.heap.size w U
theorem CE.on {w U V : World} {o : Rw} (h : CE w o U) (hb : Below U.heap.size U V) : CE w o V := by
  obtain ⟨Z, h1, h2⟩ := h.z
  exact ⟨⟨Z, h1, h2.on hb⟩, h.o.on hb, below_then h.b hb⟩
theorem CE.turn {w U V : World} {o r : Rw} (h : CE w o U) (hp : Blk V (w.heap.size + 1) 54 r.l.toArray) (hb : But (w.heap.size + 1) U V) : CE w r V := by
  obtain ⟨Z, h1, h2⟩ := h.z
  exact ⟨⟨Z, h1, h2.but hb (by omega)⟩, hp, h.b.trans (hb.low (Nat.le_succ _))⟩
set_option maxRecDepth 100000 in
theorem built_row0 : (Try.prog).built 54 [] = some rwN.l.toArray := by kernel_rfl
set_option maxRecDepth 100000 in
set_option maxHeartbeats 4000000 in
theorem certified_is (ga go : Nat) (A : Option Addr) (hA : A = some ⟨ga, go, none⟩) (m c : Nat) (hm : m ≤ 65536) (hmc : m ≤ c) (R : Nat → Rw) (hRn : ∀ i, i < m → (R i).n ≤ 65536) (w : World) (hR : LiesR w w.heap.size A m R) :
    Calls Try.prog 79 #[.slice A m c] w fun e w' => e = .returned (.agg (certM R m).l.toArray) ∧ Below w.heap.size w w' := by
  have HR := Lib.hid hR
  have HAM0 : Hid (∀ u k, Below w.heap.size w u → k < m → Calls Try.prog 101 #[.agg (R k).l.toArray, .slice (some ⟨ga, go, none⟩) k c] u fun e w' => e = .returned (.bool (amongM (R k).ro R k)) ∧ Below u.heap.size u w') := Lib.hid (fun u k hu hk => by
    have hr := hR.on hu
    rw [hA] at hr
    exact isAmong_is (R k) (hRn k hk) _ k c (by omega) R (fun i hi => hRn i (by omega)) u ⟨fun h0 => by
      obtain ⟨b, off, e, h1, h2⟩ := hr.f (by omega)
      exact ⟨b, off, e, h1, fun i hi => h2 i (by omega)⟩, fun i hi => hr.t i (by omega)⟩ (hr.t k hk))
  have HS : Hid (∀ (u : World) (o : Rw) (k : Nat), Below w.heap.size w u → k < m → o.n ≤ 65536 → LiesH w w.heap.size o.A o.n o.T → Calls Try.prog 50 #[.agg o.l.toArray, .agg (R k).l.toArray] u fun e w' => e = .returned (.bool (eqR o.ro (R k).ro)) ∧ Below u.heap.size u w') := Lib.hid (fun u o k hu hk hn hl => same_rows o (R k) hn (hRn k hk) u (hl.on hu) ((hR.t k hk).on hu))
  have HRN := Lib.hid hRn
  subst hA
  clear hR hRn
  go_enter Try.func79, Try.ntmps79
  go_upto_region 2 with fail
  refine wp_at (CE w rwN) ⟨⟨_, by rfl, (Blk.pin (Blk.new w 54 _)).on (below_al (Below.refl _ _) _)⟩, ?_, below_al (below_al (Below.refl _ w) _) _⟩ ?_
  · have := Blk.new (w.alloc (.cells rwN.l.toArray 54)) 54 rwN.l.toArray
    rw [alloc_size] at this
    exact this
  intro U hU
  have HU := Lib.hid hU
  clear hU
  go_wp2_with fail
  go_loopw [8] (fun s wr => ∃ (k : Nat) (o : Rw), k ≤ m ∧ s = .int .i64 (k : Int) ∧ Hid (certS R k = some o ∧ o.n ≤ 65536 ∧ LiesH w w.heap.size o.A o.n o.T) ∧ Hid (CE w o wr)) (fun s _ => m - (intOf s).toNat)
  case atStart => exact ⟨0, rwN, by omega, rfl, Lib.hid ⟨rfl, by show (0 : Nat) ≤ 65536; omega, fun h => absurd h (by show ¬ (0 < 0); omega)⟩, HU⟩
  case round =>
    clear HU
    obtain ⟨k, o, hk, rfl, HO, HU⟩ := hrel
    by_cases hlt : k < m
    · have hkd : decide ((k : Int) < (m : Int)) = true := decide_eq_true (by omega)
      obtain ⟨gb, gf, hA, hgb, hcs⟩ := HR.out.f (by omega)
      obtain ⟨rfl, rfl⟩ : ga = gb ∧ go = gf := by cases hA; exact ⟨rfl, rfl⟩
      have HRG : Hid (wr.rangeAt ga (go + k * 57) (R k).l) := Lib.hid (fun j v hv => (HU.out.b.cell (p := ⟨ga, _, none⟩) hgb).trans (hcs k hlt j v hv))
      have hix := fun W => idxRows (A := some ⟨ga, go, none⟩) (n := m) c rfl hlt W
      have lg : ga < wr.heap.size := Nat.lt_of_lt_of_le hgb HU.out.b.size
      have HZN : Hid (∀ Z : Array Value, Z.size = 57 → PIn (wr.alloc (.cells Z 54)) wr.heap.size 0 54 [] [] Z.toList ∧ Z.toList.length = 57) := Lib.hid (fun Z hZ => ⟨Blk.pin (by simpa using Blk.new wr 54 Z), by simpa using hZ⟩)
      clear hcs hA
      go_upto_region 5 with (first
        | (refine wpList_load_mid rfl 54 (.tmp 11) rfl ga (go + k * 57) (by simp [Act.eval, Act.put]) (R k).l _ HRG.out Try.underlying54 rfl (by rw [size_row, Rw.l_len]) ?_)
        | (refine wpList_store_pin rfl 54 (.tmp 5) (.tmp 12) rfl (HZN.out _ rfl).1 (R k).l (by simp [Act.eval, Act.put]) (by simp [Act.eval, Act.put]) 57 size_row (HZN.out _ rfl).2 (R k).l_len (roL_one _ _ _ _ _) ?_; intro w2 p2 b2; have HP2 := Lib.hid p2; have HB2 := Lib.hid b2; clear p2 b2))
      refine wp_at (fun V => CE w o V ∧ Blk V wr.heap.size 54 (R k).l.toArray) ⟨HU.out.on ((below_al (Below.refl _ wr) _).trans (HB2.out.low (Nat.le_refl _))), HP2.out.blk_⟩ ?_
      have HG5 : Hid (w.heap.size + 1 < wr.heap.size) := Lib.hid HU.out.o.lt
      obtain ⟨g5, hg5⟩ : ∃ g5, g5 = wr.heap.size := ⟨_, rfl⟩
      rw [← hg5] at HG5
      rw [← hg5]
      clear HZN HP2 HB2 HRG hix lg hg5 HU
      rintro V ⟨v1, v2⟩
      have HV1 := Lib.hid v1
      have HV5 := Lib.hid v2
      clear v1 v2
      have HMC : Hid (k ≤ c) := Lib.hid (by omega)
      obtain ⟨q, hq⟩ : ∃ q, amongM (R k).ro R k = q := ⟨_, rfl⟩
      have HQ := Lib.hid hq
      have HAM : Hid (∀ u, Below V.heap.size V u → Calls Try.prog 101 #[.agg (R k).l.toArray, .slice (some ⟨ga, go, none⟩) k c] u fun e w' => e = .returned (.bool q) ∧ Below u.heap.size u w') := Lib.hid (fun u hu => by have := HAM0.out u k (below_then HV1.out.b hu) hlt; rw [hq] at this; exact this)
      clear hq
      have hw1 : IntKind.i64.wrap ((k : Int) + 1) = ((k + 1 : Nat) : Int) := by rw [IntWalk.i64_in _ (by omega)]; omega
      cases hb : (R k).b
      · have HBK := Lib.hid hb
        clear hb
        simp only [Act.put]
        refine Reg.wp_slots2 (fun t => decide (13 ≤ t) && decide (t ≤ 23)) (Reg.KJ V.heap.size [] []) (Reg.KJ.drew _ (by simp)) Reg.KJ.trans (by kernel_rfl) (by kernel_rfl) (by kernel_rfl) (fun zz => (Reg.tblK [
          (13, .is (.pointer (some ⟨g5, 0, none⟩))),
          (14, .is (.bool false)),
          (15, .is (.bool true)),
          (16, .is (.bool true)),
          (17, .is (undef)),
          (18, .is (undef)),
          (19, .is (undef)),
          (20, .is (undef)),
          (21, .is (undef)),
          (22, .is (undef)),
          (23, .is (.bool true))] zz).P) (fun zz => (Reg.tblK _ zz).on) (fun zz => (Reg.memK [] zz).P) (fun zz => (Reg.memK _ zz).on) ?_ ?_
        · simp only [Reg.frame, Reg.over, Nat.reduceAdd, Nat.reduceLeDiff, decide_true, decide_false, if_true, Bool.false_eq_true, if_false, Bool.and_true, Bool.and_false]
          refine ⟨?_, ?_, ?_, ?_, ?_, ?_, ?_, ?_, ?_, ?_, ?_, trivial⟩
          · intro y u hku hd
            have c5 : u.cell? ⟨g5, 0, none⟩ = some (.bool (R k).b) := ((HV5.out.on hku.below).cell 0).trans rfl
            have l5 := (HV5.out.on hku.below).lt
            have hb5 := HBK.out
            rw [hb5] at c5
            clear hb5
            refine wpOp_step rfl fun KK hK => ?_
            go_simp
            exact hK _ _ ⟨_, rfl, Reg.KJ.refl _, fun d hd => by cases hd; exact rfl, fun h => by cases h⟩
          · intro y u hku hd
            have h13 : y 13 = .pointer (some ⟨g5, 0, none⟩) := hd 0 (by decide)
            have c5 : u.cell? ⟨g5, 0, none⟩ = some (.bool (R k).b) := ((HV5.out.on hku.below).cell 0).trans rfl
            have l5 := (HV5.out.on hku.below).lt
            have hb5 := HBK.out
            rw [hb5] at c5
            clear hb5
            refine wpOp_step rfl fun KK hK => ?_
            simp only [h13] at hK ⊢
            go_simp
            exact hK _ _ ⟨_, rfl, Reg.KJ.refl _, fun d hd => by cases hd; exact rfl, fun h => by cases h⟩
          · intro y u hku hd
            have h14 : y 14 = .bool false := hd 1 (by decide)
            refine wpOp_step rfl fun KK hK => ?_
            simp only [h14] at hK ⊢
            go_simp
            exact hK _ _ ⟨_, rfl, Reg.KJ.refl _, fun d hd => by cases hd; exact rfl, fun h => by cases h⟩
          · intro y u hku hd
            have h15 : y 15 = .bool true := hd 2 (by decide)
            refine wpOp_step rfl fun KK hK => ?_
            simp only [h15] at hK ⊢
            go_simp
            exact hK _ _ ⟨_, rfl, Reg.KJ.refl _, fun d hd => by cases hd; exact rfl, fun h => by cases h⟩
          · intro y u hku hd
            have h16 : y 16 = .bool true := hd 3 (by decide)
            refine wpOp_step rfl fun KK hK => ?_
            simp only [h16] at hK ⊢
            go_simp
            exact hK _ _ ⟨_, rfl, Reg.KJ.refl _, fun d hd => by cases hd; exact rfl, fun h => by cases h⟩
          · intro y u hku hd
            have h16 : y 16 = .bool true := hd 3 (by decide)
            refine wpOp_step rfl fun KK hK => ?_
            simp only [h16] at hK ⊢
            go_simp
            exact hK _ _ ⟨_, rfl, Reg.KJ.refl _, fun d hd => by cases hd; exact rfl, fun h => by cases h⟩
          · intro y u hku hd
            have h16 : y 16 = .bool true := hd 3 (by decide)
            refine wpOp_step rfl fun KK hK => ?_
            simp only [h16] at hK ⊢
            go_simp
            exact hK _ _ ⟨_, rfl, Reg.KJ.refl _, fun d hd => by cases hd; exact rfl, fun h => by cases h⟩
          · intro y u hku hd
            have h18 : y 18 = undef := hd 5 (by decide)
            have h19 : y 19 = undef := hd 6 (by decide)
            have h16 : y 16 = .bool true := hd 3 (by decide)
            refine wpOp_step rfl fun KK hK => ?_
            simp only [h18, h19, h16] at hK ⊢
            go_simp
            exact hK _ _ ⟨_, rfl, Reg.KJ.refl _, fun d hd => by cases hd; exact rfl, fun h => by cases h⟩
          · intro y u hku hd
            have h17 : y 17 = undef := hd 4 (by decide)
            have h20 : y 20 = undef := hd 7 (by decide)
            have h16 : y 16 = .bool true := hd 3 (by decide)
            refine wpOp_step rfl fun KK hK => ?_
            simp only [h17, h20, h16] at hK ⊢
            go_simp
            exact hK _ _ ⟨_, rfl, Reg.KJ.refl _, fun d hd => by cases hd; exact rfl, fun h => by cases h⟩
          · intro y u hku hd
            have h21 : y 21 = undef := hd 8 (by decide)
            have h16 : y 16 = .bool true := hd 3 (by decide)
            refine wpOp_step rfl fun KK hK => ?_
            simp only [h21, h16] at hK ⊢
            go_simp
            exact hK _ _ ⟨_, rfl, Reg.KJ.refl _, fun d hd => by cases hd; exact rfl, fun h => by cases h⟩
          · intro y u hku hd
            have h16 : y 16 = .bool true := hd 3 (by decide)
            have h22 : y 22 = undef := hd 9 (by decide)
            refine wpOp_step rfl fun KK hK => ?_
            simp only [h16, h22] at hK ⊢
            go_simp
            exact hK _ _ ⟨_, rfl, Reg.KJ.refl _, fun d hd => by cases hd; exact rfl, fun h => by cases h⟩
        · intro y u hku hd
          have e23 : y 23 = .bool true := hd 10 (by decide)
          have HW := Lib.hid (HV1.out.on hku.below)
          clear hku hd
          simp only [Reg.frame, Reg.over, Nat.reduceAdd, Nat.reduceLeDiff, decide_true, decide_false, if_true, Bool.false_eq_true, if_false, Bool.and_true, Bool.and_false, e23]
          go_wp2_with fail
          go_roundw
          case rel => exact ⟨k + 1, o, by omega, by go_num, Lib.hid ⟨by rw [certS, HO.out.1, HBK.out]; rfl, HO.out.2⟩, HW⟩
          case measure => simp [intOf]; omega
      · have HBK := Lib.hid hb
        clear hb
        simp only [Act.put]
        refine Reg.wp_slots2 (fun t => decide (13 ≤ t) && decide (t ≤ 23)) (Reg.KJ V.heap.size [] []) (Reg.KJ.drew _ (by simp)) Reg.KJ.trans (by kernel_rfl) (by kernel_rfl) (by kernel_rfl) (fun zz => (Reg.tblK [
          (13, .is (.pointer (some ⟨g5, 0, none⟩))),
          (14, .is (.bool true)),
          (15, .is (.bool false)),
          (16, .is (.bool false)),
          (17, .is (.agg (R k).l.toArray)),
          (18, .is (.slice (some ⟨ga, go, none⟩) m c)),
          (19, .is (.int .i64 (k : Int))),
          (20, .is (.slice (some ⟨ga, go, none⟩) k c)),
          (21, .is (.bool q)),
          (22, .is (.bool !q)),
          (23, .is (.bool !q))] zz).P) (fun zz => (Reg.tblK _ zz).on) (fun zz => (Reg.memK [] zz).P) (fun zz => (Reg.memK _ zz).on) ?_ ?_
        · simp only [Reg.frame, Reg.over, Nat.reduceAdd, Nat.reduceLeDiff, decide_true, decide_false, if_true, Bool.false_eq_true, if_false, Bool.and_true, Bool.and_false]
          refine ⟨?_, ?_, ?_, ?_, ?_, ?_, ?_, ?_, ?_, ?_, ?_, trivial⟩
          · intro y u hku hd
            have c5 : u.cell? ⟨g5, 0, none⟩ = some (.bool (R k).b) := ((HV5.out.on hku.below).cell 0).trans rfl
            have l5 := (HV5.out.on hku.below).lt
            have hb5 := HBK.out
            rw [hb5] at c5
            clear hb5
            refine wpOp_step rfl fun KK hK => ?_
            go_simp
            exact hK _ _ ⟨_, rfl, Reg.KJ.refl _, fun d hd => by cases hd; exact rfl, fun h => by cases h⟩
          · intro y u hku hd
            have h13 : y 13 = .pointer (some ⟨g5, 0, none⟩) := hd 0 (by decide)
            have c5 : u.cell? ⟨g5, 0, none⟩ = some (.bool (R k).b) := ((HV5.out.on hku.below).cell 0).trans rfl
            have l5 := (HV5.out.on hku.below).lt
            have hb5 := HBK.out
            rw [hb5] at c5
            clear hb5
            refine wpOp_step rfl fun KK hK => ?_
            simp only [h13] at hK ⊢
            go_simp
            exact hK _ _ ⟨_, rfl, Reg.KJ.refl _, fun d hd => by cases hd; exact rfl, fun h => by cases h⟩
          · intro y u hku hd
            have h14 : y 14 = .bool true := hd 1 (by decide)
            refine wpOp_step rfl fun KK hK => ?_
            simp only [h14] at hK ⊢
            go_simp
            exact hK _ _ ⟨_, rfl, Reg.KJ.refl _, fun d hd => by cases hd; exact rfl, fun h => by cases h⟩
          · intro y u hku hd
            have h15 : y 15 = .bool false := hd 2 (by decide)
            refine wpOp_step rfl fun KK hK => ?_
            simp only [h15] at hK ⊢
            go_simp
            exact hK _ _ ⟨_, rfl, Reg.KJ.refl _, fun d hd => by cases hd; exact rfl, fun h => by cases h⟩
          · intro y u hku hd
            have h16 : y 16 = .bool false := hd 3 (by decide)
            refine wpOp_step rfl fun KK hK => ?_
            refine Reg.step_load_wantT (by simp only [h16]; kernel_rfl) 54 (.tmp 5) (by rfl) g5 0 (by rfl) (R k).l (HV5.out.on hku.below).pin.range _ Try.underlying54 rfl (by rw [size_row, Rw.l_len]) ?_
            exact hK _ _ ⟨_, rfl, Reg.KJ.refl _, fun d hd => by cases hd; exact rfl, fun h => by cases h⟩
          · intro y u hku hd
            have h16 : y 16 = .bool false := hd 3 (by decide)
            refine wpOp_step rfl fun KK hK => ?_
            simp only [h16] at hK ⊢
            go_simp
            exact hK _ _ ⟨_, rfl, Reg.KJ.refl _, fun d hd => by cases hd; exact rfl, fun h => by cases h⟩
          · intro y u hku hd
            have h16 : y 16 = .bool false := hd 3 (by decide)
            refine wpOp_step rfl fun KK hK => ?_
            simp only [h16] at hK ⊢
            go_simp
            exact hK _ _ ⟨_, rfl, Reg.KJ.refl _, fun d hd => by cases hd; exact rfl, fun h => by cases h⟩
          · intro y u hku hd
            have h18 : y 18 = .slice (some ⟨ga, go, none⟩) m c := hd 5 (by decide)
            have h19 : y 19 = .int .i64 (k : Int) := hd 6 (by decide)
            have h16 : y 16 = .bool false := hd 3 (by decide)
            have hsl := fun W : World => headRows ga go m c k HMC.out W
            refine wpOp_step rfl fun KK hK => ?_
            simp only [h18, h19, h16] at hK ⊢
            go_simp
            exact hK _ _ ⟨_, rfl, Reg.KJ.refl _, fun d hd => by cases hd; exact rfl, fun h => by cases h⟩
          · intro y u hku hd
            have h17 : y 17 = .agg (R k).l.toArray := hd 4 (by decide)
            have h20 : y 20 = .slice (some ⟨ga, go, none⟩) k c := hd 7 (by decide)
            have h16 : y 16 = .bool false := hd 3 (by decide)
            refine wpOp_step rfl fun KK hK => ?_
            simp only [h17, h20, h16] at hK ⊢
            go_simp
            (with_reducible refine (HAM.out _ hku.below).mono ?_)
            rintro e u' ⟨rfl, hb'⟩
            exact hK _ _ ⟨_, rfl, Reg.KJ.grow (by simp) hku.size hb', fun d hd => by cases hd; exact rfl, fun h => by cases h⟩
          · intro y u hku hd
            have h21 : y 21 = .bool q := hd 8 (by decide)
            have h16 : y 16 = .bool false := hd 3 (by decide)
            refine wpOp_step rfl fun KK hK => ?_
            simp only [h21, h16] at hK ⊢
            go_simp
            exact hK _ _ ⟨_, rfl, Reg.KJ.refl _, fun d hd => by cases hd; exact rfl, fun h => by cases h⟩
          · intro y u hku hd
            have h16 : y 16 = .bool false := hd 3 (by decide)
            have h22 : y 22 = .bool !q := hd 9 (by decide)
            refine wpOp_step rfl fun KK hK => ?_
            simp only [h16, h22] at hK ⊢
            go_simp
            exact hK _ _ ⟨_, rfl, Reg.KJ.refl _, fun d hd => by cases hd; exact rfl, fun h => by cases h⟩
        · intro y u hku hd
          have e23 : y 23 = .bool !q := hd 10 (by decide)
          have HW := Lib.hid (HV1.out.on hku.below)
          have HW5 := Lib.hid (HV5.out.on hku.below)
          clear hku hd HV1 HV5
          simp only [Reg.frame, Reg.over, Nat.reduceAdd, Nat.reduceLeDiff, decide_true, decide_false, if_true, Bool.false_eq_true, if_false, Bool.and_true, Bool.and_false, e23]
          cases q
          · go_wp2_with fail
            go_roundw
            case rel => exact ⟨k + 1, o, by omega, by go_num, Lib.hid ⟨by rw [certS, HO.out.1, HBK.out, HQ.out]; rfl, HO.out.2⟩, HW⟩
            case measure => simp [intOf]; omega
          · have cO : u.cell? ⟨w.heap.size + 1, 0, none⟩ = some (.bool o.b) := (HW.out.o.cell 0).trans rfl
            have lO := HW.out.o.lt
            have HSk : Hid (∀ v g, Below w.heap.size w v → eqR o.ro (R k).ro = g → Calls Try.prog 50 #[.agg o.l.toArray, .agg (R k).l.toArray] v fun e w' => e = .returned (.bool g) ∧ Below v.heap.size v w') := Lib.hid (fun v g hv hg => by have := HS.out v o k hv hlt HO.out.2.1 HO.out.2.2; rw [hg] at this; exact this)
            cases hob : o.b
            · rw [hob] at cO
              have HOB := Lib.hid hob
              clear hob
              go_wp2_with (first
                | (refine wpList_load_pin rfl 54 (.tmp 5) rfl HW5.out.pin (by simp [Act.eval, Act.put]) _ Try.underlying54 rfl 57 size_row (R k).l_len ?_)
                | (refine wpList_store_pin rfl 54 (.tmp 3) (.tmp 33) rfl HW.out.o.pin (R k).l (by simp [Act.eval, Act.put]) (by simp [Act.eval, Act.put]) 57 size_row o.l_len (Rw.l_len _) (roL_one _ _ _ _ _) ?_; intro w1 p1 b1; have HP1 := Lib.hid p1; have HB1 := Lib.hid b1; clear p1 b1))
              go_roundw
              case rel => exact ⟨k + 1, R k, by omega, by go_num, Lib.hid ⟨by rw [certS_step HO.out.1 HBK.out HQ.out, HOB.out]; rfl, HRN.out k hlt, HR.out.t k hlt⟩, Lib.hid (HW.out.turn HP1.out.blk_ HB1.out)⟩
              case measure => simp [intOf]; omega
            · rw [hob] at cO
              have HOB := Lib.hid hob
              clear hob
              cases he : eqR o.ro (R k).ro
              · have HE := Lib.hid he
                clear he
                obtain ⟨Z, hZl, hZ⟩ := HW.out.z
                have HZ := Lib.hid hZ
                have HZL := Lib.hid hZl
                clear hZ hZl
                go_wp2_with (first
                  | (refine wpList_load_want 54 (.tmp 3) rfl (w.heap.size + 1) 0 o.l HW.out.o.pin.range (by simp [Act.eval, Act.put]) (by kernel_rfl) _ Try.underlying54 rfl (by rw [size_row, o.l_len]) ?_)
                  | (refine wpList_load_want 54 (.tmp 5) rfl g5 0 (R k).l HW5.out.pin.range (by simp [Act.eval, Act.put]) (by kernel_rfl) _ Try.underlying54 rfl (by rw [size_row, (R k).l_len]) ?_)
                  | (go_at_call 50; (with_reducible refine (HSk.out _ false HW.out.b HE.out).mono ?_); rintro e v2 ⟨rfl, q1⟩; have HV2 := Lib.hid q1; have HZ2 := Lib.hid (HZ.out.on q1); clear q1)
                  | (refine wpList_build rfl 54 _ rfl rwN.l.toArray (by simpa [Act.eval, Act.put] using built_row0) ?_)
                  | (refine wpList_store_pin rfl 54 (.tmp 2) (.tmp 32) rfl HZ2.out rwN.l (by simp [Act.eval, Act.put]) (by simp [Act.eval, Act.put]) 57 size_row HZL.out (Rw.l_len _) (roL_one _ _ _ _ _) ?_; intro w1 p1 b1))
                have hld := p1.var 54 _ Try.underlying54 rfl 57 size_row (Rw.l_len _)
                have hcm : rwN = certM R m := by rw [certM, certS_none (k := k + 1) (by rw [certS_step HO.out.1 HBK.out HQ.out, HOB.out, HE.out]; rfl) (by omega)]; rfl
                exact bodyPost_ret (v := .agg rwN.l.toArray) (by simp [results, Try.results79, asAddr, Act.put, hld]) rfl ⟨by rw [← hcm], (HW.out.b.trans (HV2.out.mono HW.out.b.size)).trans (b1.low (Nat.le_refl _))⟩
              · have HE := Lib.hid he
                clear he
                go_wp2_with (first
                  | (refine wpList_load_want 54 (.tmp 3) rfl (w.heap.size + 1) 0 o.l HW.out.o.pin.range (by simp [Act.eval, Act.put]) (by kernel_rfl) _ Try.underlying54 rfl (by rw [size_row, o.l_len]) ?_)
                  | (refine wpList_load_want 54 (.tmp 5) rfl g5 0 (R k).l HW5.out.pin.range (by simp [Act.eval, Act.put]) (by kernel_rfl) _ Try.underlying54 rfl (by rw [size_row, (R k).l_len]) ?_)
                  | (go_at_call 50; (with_reducible refine (HSk.out _ true HW.out.b HE.out).mono ?_); rintro e v2 ⟨rfl, q1⟩; have HW2 := Lib.hid (HW.out.on q1); have HW25 := Lib.hid (HW5.out.on q1); clear q1)
                  | (refine wpList_load_pin rfl 54 (.tmp 5) rfl HW25.out.pin (by simp [Act.eval, Act.put]) _ Try.underlying54 rfl 57 size_row (R k).l_len ?_)
                  | (refine wpList_store_pin rfl 54 (.tmp 3) (.tmp 33) rfl HW2.out.o.pin (R k).l (by simp [Act.eval, Act.put]) (by simp [Act.eval, Act.put]) 57 size_row o.l_len (Rw.l_len _) (roL_one _ _ _ _ _) ?_; intro w1 p1 b1; have HP1 := Lib.hid p1; have HB1 := Lib.hid b1; clear p1 b1))
                go_roundw
                case rel => exact ⟨k + 1, R k, by omega, by go_num, Lib.hid ⟨by rw [certS_step HO.out.1 HBK.out HQ.out, HOB.out, HE.out]; rfl, HRN.out k hlt, HR.out.t k hlt⟩, Lib.hid (HW2.out.turn HP1.out.blk_ HB1.out)⟩
                case measure => simp [intOf]; omega
    · obtain rfl : k = m := by omega
      obtain ⟨Z, hZl, hZ⟩ := HU.out.z
      have HZ := Lib.hid hZ
      have HZL := Lib.hid hZl
      clear hZ hZl
      go_wp2_with (first
        | (refine wpList_load_pin rfl 54 (.tmp 3) rfl HU.out.o.pin (by simp [Act.eval, Act.put]) _ Try.underlying54 rfl 57 size_row o.l_len ?_)
        | (refine wpList_store_pin rfl 54 (.tmp 2) (.tmp 35) rfl HZ.out o.l (by simp [Act.eval, Act.put]) (by simp [Act.eval, Act.put]) 57 size_row HZL.out (Rw.l_len _) (roL_one _ _ _ _ _) ?_; intro w1 p1 b1))
      have hld := p1.var 54 _ Try.underlying54 rfl 57 size_row (Rw.l_len _)
      have hcm : o = certM R k := by rw [certM, HO.out.1]; rfl
      exact bodyPost_ret (v := .agg o.l.toArray) (by simp [results, Try.results79, asAddr, Act.put, hld]) rfl ⟨by rw [← hcm], HU.out.b.trans (b1.low (Nat.le_refl _))⟩
end Go.Proofs.Ytcangipaoancnaa

