/-
  The walk of the law AgesCommon: it returns true, and nothing that was there has turned. Conditions: the vector's reading.
-/
import Derived.Test.YtcangipaoancnaaAsC1
import Derived.Test.YtcangipaoancnaaAs10
import Derived.Test.YtcangipaoancnaaWdEq
import Derived.Deep.RegionWith
namespace Go.Proofs.Ytcangipaoancnaa
open Go.RowKit
set_option linter.unusedVariables false
set_option linter.unusedSimpArgs false

def Reg.FactK.rz {B : Nat} {Js : List (World → Prop)} (X : He) : Reg.FactK (Reg.KJ B [] Js) := ⟨fun v w => ∃ g, v = .slice (some ⟨g, 0, none⟩) 1 1 ∧ Blk w g 106 (heL X).toArray, fun _ _ _ hb h => by
  obtain ⟨g, e, hB⟩ := h
  exact ⟨g, e, hb.blk (by simp) hB⟩⟩
theorem ageAt_owns {W : World} {base m c : Nat} {A : Option Addr} {T : Nat → He} (h : W.ownsRow base 106 56 (.slice A m c) m (hesL T m)) : AgeAt W A m T := fun hm => by
  obtain ⟨g, hA, _, lg, hc⟩ := ownsF_get h hm
  refine ⟨g, 0, hA, lg, fun i hi => ⟨?_, ?_⟩⟩
  · have := hc (i * 56 + 0) _ (by rw [hesL_get T hi 0 (by omega)]; rfl)
    rwa [Nat.zero_add]
  · have := hc (i * 56 + 1) _ (by rw [hesL_get T hi 1 (by omega)]; rfl)
    rwa [Nat.zero_add]
theorem ageAt_on {w u : World} {A : Option Addr} {m : Nat} {T : Nat → He} (h : AgeAt w A m T) (k : Below w.heap.size w u) : AgeAt u A m T := fun hm => by
  obtain ⟨g, o, e, l, hc⟩ := h hm
  exact ⟨g, o, e, Nat.lt_of_lt_of_le l k.size, fun i hi => ⟨(k.cell (p := ⟨g, _, none⟩) l).trans (hc i hi).1, (k.cell (p := ⟨g, _, none⟩) l).trans (hc i hi).2⟩⟩
theorem owns_row2 {W : World} {base k size : Nat} {e : TypeId} {v : Value} {xs : List Value} (h : W.ownsRow base e size v k xs) : ∃ A c, v = .slice A k c := by
  rcases h.2 with ⟨hv, h0⟩ | ⟨g, cap, cur, hv, _⟩
  · exact ⟨none, 0, by rw [hv, h0]⟩
  · exact ⟨_, _, hv⟩
set_option maxRecDepth 100000 in
set_option maxHeartbeats 8000000 in
theorem agesCommon_walk (n0 : Int) (A : Option Addr) (m c : Nat) (T : Nat → He) (w : World) (hT : LiesH w w.heap.size A m T) (hm : m ≤ 9223372036854775807) (hmc : m ≤ c) (hA : A = none → m = 0 ∧ c = 0) :
    Calls Try.prog 8 #[.int .i64 n0, .slice A m c] w fun e w' => e = .returned (.bool true) ∧ Below w.heap.size w w' := by
  by_cases h100 : 100 < m
  · have d100 : decide ((100 : Int) < (m : Int)) = true := decide_eq_true (by omega)
    clear hT hA
    go_enter Try.func8, Try.ntmps8
    go_wp2_with (go_at_call 42; (with_reducible refine (lives16_is _).mono ?_); rintro e w7 ⟨rfl, b7⟩)
    go_ret
    exact ⟨rfl, b7⟩
  have d100 : decide ((100 : Int) < (m : Int)) = false := decide_eq_false (by omega)
  have hm100 : m ≤ 100 := by omega
  clear h100 hm
  obtain ⟨i1, hi1, hz3, hz4, hz5⟩ := info_parts infoHeld
  obtain ⟨i0, hi0, hz0, hz1, hz2⟩ := info_parts infoRHeld
  have HI := Lib.hid hi0
  have HZ0 := Lib.hid hz0
  have HZ1 := Lib.hid hz1
  have HZ2 := Lib.hid hz2
  have HT := Lib.hid hT
  have HAN := Lib.hid hA
  -- what both say
  have HSAY : Hid (∃ K : Int, (∀ u A' c', (A' = none ∧ m = 0 ∧ c' = 0 ∨ ∃ g o, A' = some ⟨g, o, none⟩) → m ≤ c' → LiesH u u.heap.size A' m T → Calls Try.prog 43 #[.int .i64 n0, .slice A' m c'] u fun e w' => e = .returned (.int .i64 K) ∧ Below u.heap.size u w') ∧ (∀ u A' c', AgeAt u A' m T → Calls Try.prog 44 #[.int .i64 n0, .slice A' m c'] u fun e w' => e = .returned (.int .i64 K) ∧ Below u.heap.size u w')) := Lib.hid (by
    cases hnr : nrB n0 with
    | false =>
      refine ⟨-1, fun u A' c' _ _ _ => (common_bad n0 hnr _ u).mono ?_, fun u A' c' _ => (refCommon_bad n0 hnr _ u).mono ?_⟩
      · rintro e w' ⟨rfl, rfl⟩; exact ⟨rfl, Below.refl _ _⟩
      · rintro e w' ⟨rfl, rfl⟩; exact ⟨rfl, Below.refl _ _⟩
    | true =>
      obtain ⟨N, rfl, lN⟩ : ∃ N : Nat, n0 = (N : Int) ∧ 4 ≤ N ∧ N ≤ 16 := by
        unfold nrB at hnr
        simp at hnr
        exact ⟨n0.toNat, by omega, by omega, by omega⟩
      exact ⟨comM N (min N m) T, fun u A' c' h1 h2 h3 => common_is N lN A' m c' _ rfl h1 h2 (by omega) T u h3, fun u A' c' h => refCommon_is N lN A' m c' _ rfl T u h⟩)
  obtain ⟨KK, hk1, hk2⟩ := HSAY.out
  have HK1 := Lib.hid hk1
  have HK2 := Lib.hid hk2
  clear hk1 hk2 HSAY hT hA hi0 hz0 hz1 hz2
  go_enter Try.func8, Try.ntmps8
  go_upto_region 3 with fail
  go_cut [5] from 13 to 14 (fun s5 wx => ∃ A5 c5, s5 = .slice A5 m c5 ∧ Hid (wx.ownsRow w.heap.size 102 56 (.slice A5 m c5) m (flL (fun i => heL (T i)) m)) ∧ Hid (Below w.heap.size w wx))
  case first =>
    cases A with
    | none =>
      obtain ⟨rfl, rfl⟩ := HAN.out rfl
      go_wp2_with fail
      go_meet
      exact ⟨none, 0, rfl, Lib.hid ownsF_nil, Lib.hid (Below.refl _ _)⟩
    | some ad =>
      have hsrc : ∀ j u, (flL (fun i => heL (T i)) m)[j]? = some u → w.cell? (ad.add j) = some u := by
        intro j u hu
        by_cases h0 : 0 < m
        · have hl : LiesF w w.heap.size (some ad) m 56 (fun i => heL (T i)) := HT.out
          obtain ⟨ad', e, h⟩ := hl.src (by decide) (fun i => heL_len _) (List.length_pos_of_mem (List.mem_of_getElem? hu))
          cases e
          exact h j u hu
        · obtain rfl : m = 0 := by omega
          cases hu
      have HSRC := Lib.hid hsrc
      clear hsrc
      go_wp2_with (at_builtin; refine wpList_append_own _ rfl (.const (.slice none 0 0)) (.tmp 13) 52 rfl w.heap.size 102 i1 _ 56 136 elemHelds hi1 hz3 hz4 hz5 (by simp [Value.cells, heL_len]) (by decide) (.slice none 0 0) 0 [] rfl ownsF_nil ad m c (flL (fun i => heL (T i)) m) rfl (flL_len (fun _ => heL_len _) _) HSRC.out (flL_one fun _ _ => heL_one _) (by unfold maxLen; omega) (by omega) (Nat.le_refl _) ?_; intro v' u2 hown' hgrow hnil; rw [Nat.zero_add, List.nil_append] at hown'; obtain ⟨A5, c5, rfl⟩ := owns_row2 hown'; have HO2 := Lib.hid hown'; have HGR := Lib.hid hgrow; clear hown' hgrow hnil)
      go_meet
      exact ⟨A5, c5, rfl, HO2, Lib.hid ((Below.refl _ w).grown HGR.out (Nat.le_refl _) (fun k e => by cases e))⟩
  obtain ⟨A5, c5, rfl, HO5, HB5⟩ := hcut
  go_wp2_with fail
  go_loopw [7, 6] (fun iv sv wr => ∃ k : Nat, k ≤ m ∧ iv = .int .i64 (k : Int) ∧ ∃ A' p', sv = .slice A' k p' ∧ Hid (wr.ownsRow wc.heap.size 106 56 (.slice A' k p') k (hesL T k)) ∧ Hid (Below wc.heap.size wc wr)) (fun iv _ _ => m - (intOf iv).toNat)
  case atStart => exact ⟨0, by omega, rfl, none, 0, rfl, Lib.hid ownsF_nil, Lib.hid (Below.refl _ _)⟩
  case round =>
    obtain ⟨k, hk, rfl, A', p', rfl, HO, HB⟩ := hrel
    by_cases hlt : k < m
    · have dk : decide ((k : Int) < (m : Int)) = true := decide_eq_true (by omega)
      obtain ⟨tb, toff, rfl, htb, hct⟩ := HT.out (by omega)
      have HTB := Lib.hid htb
      have HCT := Lib.hid (hct k hlt)
      have hix := fun W => idxHelds (A := some ⟨tb, toff, none⟩) (n := m) c rfl hlt W
      have HBH := Lib.hid (built_rheld (T k).i (T k).c)
      have HBW := Lib.hid (HB5.out.trans (HB.out.mono HB5.out.size))
      clear htb hct
      go_upto_region 8 with fail
      refine Reg.wp_prefix 13 (by kernel_rfl) (fun t => decide (21 ≤ t) && decide (t ≤ 33)) (Reg.KJ wr.heap.size [] []) (Reg.KJ.drew _ (by simp)) Reg.KJ.trans (by kernel_rfl) (by kernel_rfl) (by kernel_rfl) (by kernel_rfl) (fun zz => (Reg.tblK [
        (21, .is (.slice A' k p')),
        (22, .is (.slice (some ⟨tb, toff, none⟩) m c)),
        (23, .is (.int .i64 (k : Int))),
        (24, .is (.pointer (some ⟨tb, toff + k * 56, none⟩))),
        (25, .is (.pointer (some ⟨tb, toff + k * 56, none⟩))),
        (26, .is (.bool (T k).i)),
        (27, .is (.slice (some ⟨tb, toff, none⟩) m c)),
        (28, .is (.int .i64 (k : Int))),
        (29, .is (.pointer (some ⟨tb, toff + k * 56, none⟩))),
        (30, .is (.pointer (some ⟨tb, toff + k * 56 + 1, none⟩))),
        (31, .is (.agg (ceL (T k).c).toArray)),
        (32, .is (.agg (heL (T k)).toArray)),
        (33, .rz (T k))] zz).P) (fun zz => (Reg.tblK _ zz).on) (fun zz => (Reg.memK [] zz).P) (fun zz => (Reg.memK _ zz).on) ?_ ?_
      · simp only [Reg.frame, Reg.over, Nat.reduceAdd, Nat.reduceLeDiff, decide_true, decide_false, if_true, Bool.false_eq_true, if_false, Bool.and_true, Bool.and_false]
        refine ⟨?_, ?_, ?_, ?_, ?_, ?_, ?_, ?_, ?_, ?_, ?_, ?_, ?_, trivial⟩
        · intro x u hku hd
          refine wpOp_step rfl fun KK hK => ?_
          go_simp
          exact hK _ _ ⟨_, rfl, Reg.KJ.refl _, fun d hd => by cases hd; exact rfl, fun h => by cases h⟩
        · intro x u hku hd
          refine wpOp_step rfl fun KK hK => ?_
          go_simp
          exact hK _ _ ⟨_, rfl, Reg.KJ.refl _, fun d hd => by cases hd; exact rfl, fun h => by cases h⟩
        · intro x u hku hd
          refine wpOp_step rfl fun KK hK => ?_
          go_simp
          exact hK _ _ ⟨_, rfl, Reg.KJ.refl _, fun d hd => by cases hd; exact rfl, fun h => by cases h⟩
        · intro x u hku hd
          have h22 : x 22 = .slice (some ⟨tb, toff, none⟩) m c := hd 1 (by decide)
          have h23 : x 23 = .int .i64 (k : Int) := hd 2 (by decide)
          refine wpOp_step rfl fun KK hK => ?_
          simp only [h22, h23] at hK ⊢
          go_simp
          exact hK _ _ ⟨_, rfl, Reg.KJ.refl _, fun d hd => by cases hd; exact rfl, fun h => by cases h⟩
        · intro x u hku hd
          have h24 : x 24 = .pointer (some ⟨tb, toff + k * 56, none⟩) := hd 3 (by decide)
          refine wpOp_step rfl fun KK hK => ?_
          simp only [h24] at hK ⊢
          go_simp
          exact hK _ _ ⟨_, rfl, Reg.KJ.refl _, fun d hd => by cases hd; exact rfl, fun h => by cases h⟩
        · intro x u hku hd
          have h25 : x 25 = .pointer (some ⟨tb, toff + k * 56, none⟩) := hd 4 (by decide)
          have ct : u.cell? ⟨tb, toff + k * 56, none⟩ = some (.bool (T k).i) := ((HBW.out.trans (hku.below.mono HBW.out.size)).cell (p := ⟨tb, _, none⟩) HTB.out).trans (HCT.out 0 _ rfl)
          have lt2 : tb < u.heap.size := Nat.lt_of_lt_of_le HTB.out (HBW.out.trans (hku.below.mono HBW.out.size)).size
          refine wpOp_step rfl fun KK hK => ?_
          simp only [h25] at hK ⊢
          go_simp
          exact hK _ _ ⟨_, rfl, Reg.KJ.refl _, fun d hd => by cases hd; exact rfl, fun h => by cases h⟩
        · intro x u hku hd
          refine wpOp_step rfl fun KK hK => ?_
          go_simp
          exact hK _ _ ⟨_, rfl, Reg.KJ.refl _, fun d hd => by cases hd; exact rfl, fun h => by cases h⟩
        · intro x u hku hd
          refine wpOp_step rfl fun KK hK => ?_
          go_simp
          exact hK _ _ ⟨_, rfl, Reg.KJ.refl _, fun d hd => by cases hd; exact rfl, fun h => by cases h⟩
        · intro x u hku hd
          have h27 : x 27 = .slice (some ⟨tb, toff, none⟩) m c := hd 6 (by decide)
          have h28 : x 28 = .int .i64 (k : Int) := hd 7 (by decide)
          refine wpOp_step rfl fun KK hK => ?_
          simp only [h27, h28] at hK ⊢
          go_simp
          exact hK _ _ ⟨_, rfl, Reg.KJ.refl _, fun d hd => by cases hd; exact rfl, fun h => by cases h⟩
        · intro x u hku hd
          have h29 : x 29 = .pointer (some ⟨tb, toff + k * 56, none⟩) := hd 8 (by decide)
          refine wpOp_step rfl fun KK hK => ?_
          simp only [h29] at hK ⊢
          go_simp
          exact hK _ _ ⟨_, rfl, Reg.KJ.refl _, fun d hd => by cases hd; exact rfl, fun h => by cases h⟩
        · intro x u hku hd
          have h30 : x 30 = .pointer (some ⟨tb, toff + k * 56 + 1, none⟩) := hd 9 (by decide)
          refine wpOp_step rfl fun KK hK => ?_
          refine Reg.step_load_mid (by rfl) 51 (.tmp 30) (by rfl) tb (toff + k * 56 + 1) (by exact h30) (ceL (T k).c) (fun j v hv => by rw [Nat.add_assoc]; exact ((HBW.out.trans (hku.below.mono HBW.out.size)).cell (p := ⟨tb, _, none⟩) HTB.out).trans (HCT.out (1 + j) v (by rw [Nat.add_comm]; exact hv))) _ Try.underlying51 rfl (by rw [size_ce, ceL_len]) ?_
          exact hK _ _ ⟨_, rfl, Reg.KJ.refl _, fun d hd => by cases hd; exact rfl, fun h => by cases h⟩
        · intro x u hku hd
          have h26 : x 26 = .bool (T k).i := hd 5 (by decide)
          have h31 : x 31 = .agg (ceL (T k).c).toArray := hd 10 (by decide)
          refine wpOp_step rfl fun KK hK => ?_
          refine Reg.step_build (by rfl) 106 _ (by rfl) _ (by simpa [Act.eval, h26, h31] using HBH.out) ?_
          exact hK _ _ ⟨_, rfl, Reg.KJ.refl _, fun d hd => by cases hd; exact rfl, fun h => by cases h⟩
        · intro x u hku hd
          have h32 : x 32 = .agg (heL (T k)).toArray := hd 11 (by decide)
          refine wpOp_step rfl fun KK hK => ?_
          refine Reg.step_bsl (by rfl) 72 1 _ (by rfl) #[(0, .agg (heL (T k)).toArray)] (by simp [Act.eval, h32]) _ _ (run_bsl_one (P := Try.prog) u 72 106 i0 (heL heN) 56 elemRHelds HI.out HZ0.out HZ1.out (heL_len _) (by decide) (by decide) (heL (T k)) (heL_len _)) ?_
          exact hK _ _ ⟨_, rfl, Reg.KJ.grow (by simp) hku.size (below_al (Below.refl _ u) _), fun d hd => by cases hd; exact ⟨_, rfl, Blk.new u _ _⟩, fun h => by cases h⟩
      · intro x u hku hd
        obtain ⟨gb, e33, hgb⟩ : (∃ g, x 33 = .slice (some ⟨g, 0, none⟩) 1 1 ∧ Blk u g 106 (heL (T k)).toArray) := hd 12 (by decide)
        have e21 : x 21 = .slice A' k p' := hd 0 (by decide)
        have HGB := Lib.hid hgb
        have HOU := Lib.hid (ownsF_on HO.out hku.below)
        have HBU := Lib.hid (HB.out.trans (hku.below.mono HB.out.size))
        clear hgb
        simp only [Reg.frame, Reg.over, Nat.reduceAdd, Nat.reduceLeDiff, decide_true, decide_false, if_true, Bool.false_eq_true, if_false, Bool.and_true, Bool.and_false, e33, e21, List.drop_succ_cons, List.drop_zero]
        go_wp2_with (at_builtin; refine wpList_append_G rfl (.tmp 21) (.tmp 33) 72 rfl wc.heap.size 106 i0 _ 56 136 elemRHelds HI.out HZ0.out HZ1.out HZ2.out (by simp [Value.cells, heL_len]) (by decide) A' k p' (hesL T k) (by simp [Act.eval, Act.put]) HOU.out gb 1 1 (heL (T k)) (by simp [Act.eval, Act.put]) HGB.out (heL_len _) (heL_one _) (by decide) (by unfold maxLen; omega) (by omega) HBU.out.size ?_; intro A2 p2 w2 hO2 hb2 _; have HO2 := Lib.hid hO2; have HB2 := Lib.hid hb2; clear hO2 hb2)
        go_roundw
        case rel => exact ⟨k + 1, by omega, by go_num, A2, p2, rfl, Lib.hid (by rw [hesL_succ]; exact HO2.out), Lib.hid (HBU.out.trans HB2.out)⟩
        case measure => simp [intOf]; omega
    · obtain rfl : k = m := by omega
      have dk : decide ((k : Int) < (k : Int)) = false := decide_eq_false (by omega)
      have HO5W := Lib.hid (ownsF_on HO5.out HB.out)
      have HLW : Hid (LiesH wr wr.heap.size A5 k T) := Lib.hid (liesH_owns HO5W.out)
      have HAW : Hid (AgeAt wr A' k T) := Lib.hid (ageAt_owns HO.out)
      have hkk : (KK != KK) = false := by simp
      have HBW := Lib.hid (HB5.out.trans (HB.out.mono HB5.out.size))
      have HSH := Lib.hid (owns_shapeF HO5.out)
      have HCP := Lib.hid (owns_cap HO5.out)
      go_upto_region 11 with (first
        | (go_at_call 43; (with_reducible refine (HK1.out _ A5 c5 HSH.out HCP.out HLW.out).mono ?_); rintro e u1 ⟨rfl, q1⟩; have HQ1 := Lib.hid q1; have HAU := Lib.hid (ageAt_on HAW.out q1); clear q1)
        | (go_at_call 44; (with_reducible refine (HK2.out _ A' p' HAU.out).mono ?_); rintro e u2 ⟨rfl, q2⟩; have HQ2 := Lib.hid q2; clear q2))
      have HB2 := Lib.hid (below_then HQ1.out HQ2.out)
      have HL2 := Lib.hid (HLW.out.on HB2.out)
      have HT2 : Hid (LiesH u2 u2.heap.size A k T) := Lib.hid ((HT.out.on (below_then HBW.out HB2.out)))
      have HW2 := Lib.hid (below_then HBW.out HB2.out)
      clear HLW HAW HQ1 HQ2 HAU HO HB HSH HCP HO5W HO5 HBW HB2
      go_wp2_with fail
      go_loopw [8] (fun iv wr2 => ∃ j : Nat, j ≤ k ∧ iv = .int .i64 (j : Int) ∧ Hid (Below u2.heap.size u2 wr2)) (fun iv _ => k - (intOf iv).toNat)
      case atStart => exact ⟨0, by omega, rfl, Lib.hid (Below.refl _ _)⟩
      case round =>
        obtain ⟨j, hj, rfl, HV⟩ := hrel
        by_cases hjl : j < k
        · have dj : decide ((j : Int) < (k : Int)) = true := decide_eq_true (by omega)
          obtain ⟨ga, oa, rfl, hga, hca⟩ := HL2.out (by omega)
          obtain ⟨tb, toff, rfl, htb, hct⟩ := HT2.out (by omega)
          obtain ⟨Y, hY⟩ : ∃ Y : He, Y = T j := ⟨_, rfl⟩
          have HRG : Hid (∀ u, Below wr.heap.size wr u → u.rangeAt ga (oa + j * 56) (heL Y) ∧ u.rangeAt tb (toff + j * 56) (heL Y)) := Lib.hid (fun u hu => by
            have hb := below_then HV.out hu
            refine ⟨fun i v hv => (hb.cell (p := ⟨ga, _, none⟩) hga).trans (hca j hjl i v (by rw [← hY]; exact hv)), fun i v hv => (hb.cell (p := ⟨tb, _, none⟩) htb).trans (hct j hjl i v (by rw [← hY]; exact hv))⟩)
          have HEY : Hid (∀ W', (binOp .neq 102 (.agg (heL Y).toArray) (.agg (heL Y).toArray)).run Try.prog W' = .ok (.bool false) W') := Lib.hid (fun W' => (held_neq Y Y W').trans (by rw [heE_refl]; rfl))
          have hixa := fun W => idxHelds (A := some ⟨ga, oa, none⟩) (n := k) c5 rfl hjl W
          have hixt := fun W => idxHelds (A := some ⟨tb, toff, none⟩) (n := k) c rfl hjl W
          clear hY hca hct
          go_upto_region 14 with fail
          refine Reg.wp_slots2 (fun t => decide (48 ≤ t) && decide (t ≤ 56)) (Reg.KJ wr.heap.size [] []) (Reg.KJ.drew _ (by simp)) Reg.KJ.trans (by kernel_rfl) (by kernel_rfl) (by kernel_rfl) (fun zz => (Reg.tblK [
            (48, .is (.slice (some ⟨ga, oa, none⟩) k c5)),
            (49, .is (.int .i64 (j : Int))),
            (50, .is (.pointer (some ⟨ga, oa + j * 56, none⟩))),
            (51, .is (.agg (heL Y).toArray)),
            (52, .is (.slice (some ⟨tb, toff, none⟩) k c)),
            (53, .is (.int .i64 (j : Int))),
            (54, .is (.pointer (some ⟨tb, toff + j * 56, none⟩))),
            (55, .is (.agg (heL Y).toArray)),
            (56, .is (.bool false))] zz).P) (fun zz => (Reg.tblK _ zz).on) (fun zz => (Reg.memK [] zz).P) (fun zz => (Reg.memK _ zz).on) ?_ ?_
          · simp only [Reg.frame, Reg.over, Nat.reduceAdd, Nat.reduceLeDiff, decide_true, decide_false, if_true, Bool.false_eq_true, if_false, Bool.and_true, Bool.and_false]
            refine ⟨?_, ?_, ?_, ?_, ?_, ?_, ?_, ?_, ?_, trivial⟩
            · intro x u hku hd
              refine wpOp_step rfl fun KK hK => ?_
              go_simp
              exact hK _ _ ⟨_, rfl, Reg.KJ.refl _, fun d hd => by cases hd; exact rfl, fun h => by cases h⟩
            · intro x u hku hd
              refine wpOp_step rfl fun KK hK => ?_
              go_simp
              exact hK _ _ ⟨_, rfl, Reg.KJ.refl _, fun d hd => by cases hd; exact rfl, fun h => by cases h⟩
            · intro x u hku hd
              have h48 : x 48 = .slice (some ⟨ga, oa, none⟩) k c5 := hd 0 (by decide)
              have h49 : x 49 = .int .i64 (j : Int) := hd 1 (by decide)
              refine wpOp_step rfl fun KK hK => ?_
              simp only [h48, h49] at hK ⊢
              go_simp
              exact hK _ _ ⟨_, rfl, Reg.KJ.refl _, fun d hd => by cases hd; exact rfl, fun h => by cases h⟩
            · intro x u hku hd
              have h50 : x 50 = .pointer (some ⟨ga, oa + j * 56, none⟩) := hd 2 (by decide)
              refine wpOp_step rfl fun KK hK => ?_
              refine Reg.step_load_mid (by rfl) 102 (.tmp 50) (by rfl) ga (oa + j * 56) (by exact h50) (heL Y) (HRG.out u hku.below).1 _ Try.underlying102 rfl (by rw [size_he, heL_len]) ?_
              exact hK _ _ ⟨_, rfl, Reg.KJ.refl _, fun d hd => by cases hd; exact rfl, fun h => by cases h⟩
            · intro x u hku hd
              refine wpOp_step rfl fun KK hK => ?_
              go_simp
              exact hK _ _ ⟨_, rfl, Reg.KJ.refl _, fun d hd => by cases hd; exact rfl, fun h => by cases h⟩
            · intro x u hku hd
              refine wpOp_step rfl fun KK hK => ?_
              go_simp
              exact hK _ _ ⟨_, rfl, Reg.KJ.refl _, fun d hd => by cases hd; exact rfl, fun h => by cases h⟩
            · intro x u hku hd
              have h52 : x 52 = .slice (some ⟨tb, toff, none⟩) k c := hd 4 (by decide)
              have h53 : x 53 = .int .i64 (j : Int) := hd 5 (by decide)
              refine wpOp_step rfl fun KK hK => ?_
              simp only [h52, h53] at hK ⊢
              go_simp
              exact hK _ _ ⟨_, rfl, Reg.KJ.refl _, fun d hd => by cases hd; exact rfl, fun h => by cases h⟩
            · intro x u hku hd
              have h54 : x 54 = .pointer (some ⟨tb, toff + j * 56, none⟩) := hd 6 (by decide)
              refine wpOp_step rfl fun KK hK => ?_
              refine Reg.step_load_mid (by rfl) 102 (.tmp 54) (by rfl) tb (toff + j * 56) (by exact h54) (heL Y) (HRG.out u hku.below).2 _ Try.underlying102 rfl (by rw [size_he, heL_len]) ?_
              exact hK _ _ ⟨_, rfl, Reg.KJ.refl _, fun d hd => by cases hd; exact rfl, fun h => by cases h⟩
            · intro x u hku hd
              have h51 : x 51 = .agg (heL Y).toArray := hd 3 (by decide)
              have h55 : x 55 = .agg (heL Y).toArray := hd 7 (by decide)
              have he := HEY.out
              refine wpOp_step rfl fun KK hK => ?_
              simp only [h51, h55] at hK ⊢
              go_simp
              exact hK _ _ ⟨_, rfl, Reg.KJ.refl _, fun d hd => by cases hd; exact rfl, fun h => by cases h⟩
          · intro x u hku hall
            have e56 : x 56 = .bool false := hall 8 (by decide)
            simp only [Reg.frame, Reg.over, Nat.reduceAdd, Nat.reduceLeDiff, decide_true, decide_false, if_true, Bool.false_eq_true, if_false, Bool.and_true, Bool.and_false, e56]
            have HKU := Lib.hid hku.below
            clear hku hall
            go_wp2_with fail
            go_roundw
            case rel => exact ⟨j + 1, by omega, by go_num, Lib.hid (below_then HV.out HKU.out)⟩
            case measure => simp [intOf]; omega
        · obtain rfl : j = k := by omega
          have dj : decide ((j : Int) < (j : Int)) = false := decide_eq_false (by omega)
          go_wp2_with (go_at_call 42; (with_reducible refine (lives16_is _).mono ?_); rintro e w7 ⟨rfl, b7⟩)
          go_ret
          exact ⟨rfl, below_then (below_then HW2.out HV.out) b7⟩
end Go.Proofs.Ytcangipaoancnaa

