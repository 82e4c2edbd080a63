/-
  The document's answer of stage 15: what a node's row has of a source; its Table. Conditions: the rows' readings, their lengths.
-/
import Derived.Test.YtdbljggjddnjcaaAgR1
import Derived.Test.YtdbljggjddnjcaaAg4
import Derived.Test.YtdbljggjddnjcaaWdN2
import Derived.Test.YtdbljggjddnjcaaRegI
namespace Go.Proofs.Ytdbljggjddnjcaa
open Go.RowKit
set_option linter.unusedVariables false
set_option linter.unusedSimpArgs false

theorem ro_cellR {b : Bool} {c : Ce} {A : Option Addr} {n p j : Nat} {v : Value} (hv : (ceL c)[j]? = some v) : (roL b c A n p)[1 + j]? = some v := by
  have hj : j < (ceL c).length := (List.getElem?_eq_some_iff.1 hv).1
  rw [show roL b c A n p = [.bool b] ++ (ceL c ++ [.slice A n p]) from rfl, List.getElem?_append_right (by simp), show 1 + j - [Value.bool b].length = j by simp, List.getElem?_append_left hj]
  exact hv
set_option maxRecDepth 100000 in
theorem builtRHeld0 : (Try.prog).built 147 [] = some (heL heN).toArray := by kernel_rfl
set_option maxRecDepth 100000 in
set_option maxHeartbeats 2000000 in
theorem has_is (A : Option Addr) (m c k s : Nat) (hm : m ≤ 65536) (hs : s ≤ 65536) (R : Nat → Rw) (hRn : ∀ i, i < m → (R i).n ≤ 65536) (w : World) (hR : LiesR w w.heap.size A m R) :
    Calls Try.prog 63 #[.slice A m c, .int .i64 (k : Int), .int .i64 (s : Int)] w fun e w' => e = .returned (.agg (heL (hasM m s (fun j => (R j).ro) k)).toArray) ∧ Below w.heap.size w w' := by
  have HR := Lib.hid hR
  have HRN := Lib.hid hRn
  have HBT := Lib.hid builtRHeld0
  have HZN : Hid (∀ Z : Array Value, Z.size = 56 → PIn (w.alloc (.cells Z 147)) w.heap.size 0 147 [] [] Z.toList ∧ Z.toList.length = 56) := Lib.hid (fun Z hZ => ⟨Blk.pin (by simpa using Blk.new w 147 Z), by simpa using hZ⟩)
  obtain ⟨H, hH⟩ : ∃ H, H = hasM m s (fun j => (R j).ro) k := ⟨_, rfl⟩
  rw [← hH]
  have HH := Lib.hid hH
  clear hR hRn hH
  go_enter Try.func63, Try.ntmps63
  go_upto_region 1 with fail
  refine wp_at (fun U => (∃ Z : List Value, Z.length = 56 ∧ PIn U w.heap.size 0 147 [] [] Z) ∧ Below w.heap.size w U) ⟨⟨_, (HZN.out _ rfl).2, (HZN.out _ rfl).1⟩, below_al (Below.refl _ w) _⟩ ?_
  rintro U ⟨⟨Z, hZl, hZ⟩, hb⟩
  have HZ := Lib.hid hZ
  have HZL := Lib.hid hZl
  have HB := Lib.hid hb
  clear hZ hZl hb HZN
  by_cases hkm : k < m
  · have d0 : decide ((m : Int) ≤ (k : Int)) = false := decide_eq_false (by omega)
    obtain ⟨ba, oa, rfl, hba, hca⟩ := (HR.out.on HB.out).f (by omega)
    have hix := fun W => idxRRows (A := some ⟨ba, oa, none⟩) (n := m) c rfl hkm W
    obtain ⟨X, hX⟩ : ∃ X, X = R k := ⟨_, rfl⟩
    have HX := Lib.hid hX
    have c0 : U.cell? ⟨ba, oa + k * 57, none⟩ = some (.bool X.b) := by rw [hX]; exact hca k hkm 0 _ rfl
    have c56 : U.cell? ⟨ba, oa + k * 57 + 56, none⟩ = some (.slice X.A X.n X.p) := by rw [hX]; exact hca k hkm 56 _ (ro_tab _ _ _ _ _)
    have HT : Hid (LiesH U U.heap.size X.A X.n X.T) := Lib.hid (by rw [hX]; exact (HR.out.on HB.out).t k hkm)
    clear hca hX
    obtain ⟨b, hb⟩ : ∃ b, b = X.b := ⟨_, rfl⟩
    rw [← hb] at c0
    have HBB := Lib.hid hb
    clear hb
    cases b with
    | false =>
      have HE : Hid (H = heN) := Lib.hid (by rw [HH.out]; unfold hasM; rw [if_pos hkm]; unfold tolM; rw [if_neg]; intro h; have h1 := h.1; rw [show (R k).ro.b = (R k).b from rfl, ← HX.out, ← HBB.out] at h1; exact absurd h1 (by decide))
      go_wp2_with (first
        | (refine wpList_build rfl 147 _ rfl (heL heN).toArray (by simpa [Act.eval, Act.put] using HBT.out) ?_)
        | (refine wpList_store_pin rfl 147 (.tmp 6) (.tmp 29) rfl HZ.out (heL heN) (by simp [Act.eval, Act.put]) (by simp [Act.eval, Act.put]) 56 size_rhe HZL.out (heL_len _) (heL_one _) ?_; intro w1 p1 b1))
      have hld := p1.var 147 _ Try.underlying147 rfl 56 size_rhe (heL_len _)
      exact bodyPost_ret (v := .agg (heL heN).toArray) (by simp [results, Try.results63, asAddr, Act.put, hld]) rfl ⟨by rw [HE.out], HB.out.trans (b1.low (Nat.le_refl _))⟩
    | true =>
      by_cases hsn : s < X.n
      · have d1 : decide ((X.n : Int) ≤ (s : Int)) = false := decide_eq_false (by omega)
        have HE : Hid (H = X.T s) := Lib.hid (by rw [HH.out]; unfold hasM; rw [if_pos hkm]; unfold tolM; rw [if_pos ⟨by rw [show (R k).ro.b = (R k).b from rfl, ← HX.out, ← HBB.out], by rw [show (R k).ro.n = (R k).n from rfl, ← HX.out]; exact hsn⟩, show (R k).ro.T = (R k).T from rfl, ← HX.out])
        obtain ⟨gb, go, hA, hgb, hcs⟩ := HT.out (by omega)
        have HRG := Lib.hid (hcs s hsn)
        have hix2 := fun W => idxRHelds (A := X.A) (n := X.n) X.p hA hsn W
        clear hcs hA
        go_wp2_with (first
          | (refine wpList_load_mid rfl 147 (.tmp 36) rfl gb (go + s * 56) (by simp [Act.eval, Act.put]) (heL (X.T s)) _ HRG.out Try.underlying147 rfl (by rw [size_rhe, heL_len]) ?_)
          | (refine wpList_store_pin rfl 147 (.tmp 6) (.tmp 37) rfl HZ.out (heL (X.T s)) (by simp [Act.eval, Act.put]) (by simp [Act.eval, Act.put]) 56 size_rhe HZL.out (heL_len _) (heL_one _) ?_; intro w1 p1 b1))
        have hld := p1.var 147 _ Try.underlying147 rfl 56 size_rhe (heL_len _)
        exact bodyPost_ret (v := .agg (heL (X.T s)).toArray) (by simp [results, Try.results63, asAddr, Act.put, hld]) rfl ⟨by rw [HE.out], HB.out.trans (b1.low (Nat.le_refl _))⟩
      · have d1 : decide ((X.n : Int) ≤ (s : Int)) = true := decide_eq_true (by omega)
        have HE : Hid (H = heN) := Lib.hid (by rw [HH.out]; unfold hasM; rw [if_pos hkm]; unfold tolM; rw [if_neg]; intro h; have h1 := h.2; rw [show (R k).ro.n = (R k).n from rfl, ← HX.out] at h1; exact hsn h1)
        go_wp2_with (first
          | (refine wpList_build rfl 147 _ rfl (heL heN).toArray (by simpa [Act.eval, Act.put] using HBT.out) ?_)
          | (refine wpList_store_pin rfl 147 (.tmp 6) (.tmp 29) rfl HZ.out (heL heN) (by simp [Act.eval, Act.put]) (by simp [Act.eval, Act.put]) 56 size_rhe HZL.out (heL_len _) (heL_one _) ?_; intro w1 p1 b1))
        have hld := p1.var 147 _ Try.underlying147 rfl 56 size_rhe (heL_len _)
        exact bodyPost_ret (v := .agg (heL heN).toArray) (by simp [results, Try.results63, asAddr, Act.put, hld]) rfl ⟨by rw [HE.out], HB.out.trans (b1.low (Nat.le_refl _))⟩
  · have d0 : decide ((m : Int) ≤ (k : Int)) = true := decide_eq_true (by omega)
    have HE : Hid (H = heN) := Lib.hid (by rw [HH.out]; unfold hasM; rw [if_neg hkm])
    go_wp2_with (first
      | (refine wpList_build rfl 147 _ rfl (heL heN).toArray (by simpa [Act.eval, Act.put] using HBT.out) ?_)
      | (refine wpList_store_pin rfl 147 (.tmp 6) (.tmp 29) rfl HZ.out (heL heN) (by simp [Act.eval, Act.put]) (by simp [Act.eval, Act.put]) 56 size_rhe HZL.out (heL_len _) (heL_one _) ?_; intro w1 p1 b1))
    have hld := p1.var 147 _ Try.underlying147 rfl 56 size_rhe (heL_len _)
    exact bodyPost_ret (v := .agg (heL heN).toArray) (by simp [results, Try.results63, asAddr, Act.put, hld]) rfl ⟨by rw [HE.out], HB.out.trans (b1.low (Nat.le_refl _))⟩
set_option maxRecDepth 100000 in
set_option maxHeartbeats 4000000 in
theorem rtable_is (A : Option Addr) (m c : Nat) (hm : m ≤ 65536) (R : Nat → Rw) (w : World) (hR : LiesR w w.heap.size A m R) :
    Calls Try.prog 41 #[.slice A m c] w fun e w' => ∃ (A' : Option Addr) (c' : Nat), e = .returned (.slice A' m c') ∧ w'.ownsRow w.heap.size 147 56 (.slice A' m c') m (hesL (fun i => tblM (R i).ro) m) ∧ Below w.heap.size w w' := by
  have HR := Lib.hid hR
  have HM := Lib.hid hm
  obtain ⟨i0, hi0, hz0, hz1, hz2⟩ := info_parts infoRHeld
  have HI := Lib.hid hi0
  have HZ0 := Lib.hid hz0
  have HZ1 := Lib.hid hz1
  have HZ2 := Lib.hid hz2
  clear hR hm hi0 hz0 hz1 hz2
  go_enter Try.func41, Try.ntmps41
  go_wp2_with fail
  go_loopw [3, 4] (fun sv iv wr => ∃ k : Nat, k ≤ m ∧ iv = .int .i64 (k : Int) ∧ ∃ (A' : Option Addr) (c' : Nat), sv = .slice A' k c' ∧ Hid (wr.ownsRow w.heap.size 147 56 (.slice A' k c') k (hesL (fun i => tblM (R i).ro) k)) ∧ Hid (Below w.heap.size w wr)) (fun _ iv _ => m - (intOf iv).toNat)
  case atStart => exact ⟨0, by omega, rfl, none, 0, rfl, Lib.hid ownsF_nil, Lib.hid (Below.refl _ _)⟩
  case round =>
    obtain ⟨k, hk, rfl, A', c', rfl, HO, HB⟩ := hrel
    by_cases hlt : k < m
    · obtain ⟨tb, toff, rfl, htb, hct⟩ := HR.out.f (by omega)
      have HTB := Lib.hid htb
      obtain ⟨X, hX⟩ : ∃ X, X = R k := ⟨_, rfl⟩
      have HCT : Hid (w.rangeAt tb (toff + k * 57) (roL X.b X.c X.A X.n X.p)) := Lib.hid (by rw [hX]; exact hct k hlt)
      have HRC : Hid (w.rangeAt tb (toff + k * 57 + 1) (ceL X.c)) := Lib.hid (fun j v hv => by
        have := HCT.out (1 + j) v (ro_cellR hv)
        rwa [← Nat.add_assoc] at this)
      have HTE : Hid (tblM (R k).ro = ⟨X.b, X.c⟩) := Lib.hid (by rw [hX]; rfl)
      have hix := fun W => idxRRows (A := some ⟨tb, toff, none⟩) (n := m) c rfl hlt W
      have HBH := Lib.hid (built_rheld X.b X.c)
      have HBW := Lib.hid HB.out.size
      clear htb hct hX
      go_wp2_with fail
      refine Reg.wp_prefix 13 (by kernel_rfl) (fun t => decide (11 ≤ t) && decide (t ≤ 23)) (Reg.KJ wr.heap.size [] []) (Reg.KJ.drew _ (by simp)) Reg.KJ.trans (by kernel_rfl) (by kernel_rfl) (by kernel_rfl) (by kernel_rfl) (fun zz => (Reg.tblK [
        (11, .is (.slice A' k c')),
        (12, .is (.slice (some ⟨tb, toff, none⟩) m c)),
        (13, .is (.int .i64 (k : Int))),
        (14, .is (.pointer (some ⟨tb, toff + k * 57, none⟩))),
        (15, .is (.pointer (some ⟨tb, toff + k * 57, none⟩))),
        (16, .is (.bool X.b)),
        (17, .is (.slice (some ⟨tb, toff, none⟩) m c)),
        (18, .is (.int .i64 (k : Int))),
        (19, .is (.pointer (some ⟨tb, toff + k * 57, none⟩))),
        (20, .is (.pointer (some ⟨tb, toff + k * 57 + 1, none⟩))),
        (21, .is (.agg (ceL X.c).toArray)),
        (22, .is (.agg (heL ⟨X.b, X.c⟩).toArray)),
        (23, .he ⟨X.b, X.c⟩)] zz).P) (fun zz => (Reg.tblK _ zz).on) (fun zz => (Reg.memK [] zz).P) (fun zz => (Reg.memK _ zz).on) ?_ ?_
      · simp only [Reg.frame, Reg.over, Nat.reduceAdd, Nat.reduceLeDiff, decide_true, decide_false, if_true, Bool.false_eq_true, if_false, Bool.and_true, Bool.and_false]
        refine ⟨?_, ?_, ?_, ?_, ?_, ?_, ?_, ?_, ?_, ?_, ?_, ?_, ?_, trivial⟩
        · intro x u hku hd
          refine wpOp_step rfl fun KK hK => ?_
          go_simp
          exact hK _ _ ⟨_, rfl, Reg.KJ.refl _, fun d hd => by cases hd; exact rfl, fun h => by cases h⟩
        · intro x u hku hd
          refine wpOp_step rfl fun KK hK => ?_
          go_simp
          exact hK _ _ ⟨_, rfl, Reg.KJ.refl _, fun d hd => by cases hd; exact rfl, fun h => by cases h⟩
        · intro x u hku hd
          refine wpOp_step rfl fun KK hK => ?_
          go_simp
          exact hK _ _ ⟨_, rfl, Reg.KJ.refl _, fun d hd => by cases hd; exact rfl, fun h => by cases h⟩
        · intro x u hku hd
          have h12 : x 12 = .slice (some ⟨tb, toff, none⟩) m c := hd 1 (by decide)
          have h13 : x 13 = .int .i64 (k : Int) := hd 2 (by decide)
          refine wpOp_step rfl fun KK hK => ?_
          simp only [h12, h13] at hK ⊢
          go_simp
          exact hK _ _ ⟨_, rfl, Reg.KJ.refl _, fun d hd => by cases hd; exact rfl, fun h => by cases h⟩
        · intro x u hku hd
          have h14 : x 14 = .pointer (some ⟨tb, toff + k * 57, none⟩) := hd 3 (by decide)
          refine wpOp_step rfl fun KK hK => ?_
          simp only [h14] at hK ⊢
          go_simp
          exact hK _ _ ⟨_, rfl, Reg.KJ.refl _, fun d hd => by cases hd; exact rfl, fun h => by cases h⟩
        · intro x u hku hd
          have h15 : x 15 = .pointer (some ⟨tb, toff + k * 57, none⟩) := hd 4 (by decide)
          have ct : u.cell? ⟨tb, toff + k * 57, none⟩ = some (.bool X.b) := ((HB.out.trans (hku.below.mono HB.out.size)).cell (p := ⟨tb, _, none⟩) HTB.out).trans (HCT.out 0 _ rfl)
          have lt2 : tb < u.heap.size := Nat.lt_of_lt_of_le HTB.out (HB.out.trans (hku.below.mono HB.out.size)).size
          refine wpOp_step rfl fun KK hK => ?_
          simp only [h15] at hK ⊢
          go_simp
          exact hK _ _ ⟨_, rfl, Reg.KJ.refl _, fun d hd => by cases hd; exact rfl, fun h => by cases h⟩
        · intro x u hku hd
          refine wpOp_step rfl fun KK hK => ?_
          go_simp
          exact hK _ _ ⟨_, rfl, Reg.KJ.refl _, fun d hd => by cases hd; exact rfl, fun h => by cases h⟩
        · intro x u hku hd
          refine wpOp_step rfl fun KK hK => ?_
          go_simp
          exact hK _ _ ⟨_, rfl, Reg.KJ.refl _, fun d hd => by cases hd; exact rfl, fun h => by cases h⟩
        · intro x u hku hd
          have h17 : x 17 = .slice (some ⟨tb, toff, none⟩) m c := hd 6 (by decide)
          have h18 : x 18 = .int .i64 (k : Int) := hd 7 (by decide)
          refine wpOp_step rfl fun KK hK => ?_
          simp only [h17, h18] at hK ⊢
          go_simp
          exact hK _ _ ⟨_, rfl, Reg.KJ.refl _, fun d hd => by cases hd; exact rfl, fun h => by cases h⟩
        · intro x u hku hd
          have h19 : x 19 = .pointer (some ⟨tb, toff + k * 57, none⟩) := hd 8 (by decide)
          refine wpOp_step rfl fun KK hK => ?_
          simp only [h19] at hK ⊢
          go_simp
          exact hK _ _ ⟨_, rfl, Reg.KJ.refl _, fun d hd => by cases hd; exact rfl, fun h => by cases h⟩
        · intro x u hku hd
          have h20 : x 20 = .pointer (some ⟨tb, toff + k * 57 + 1, none⟩) := hd 9 (by decide)
          refine wpOp_step rfl fun KK hK => ?_
          refine Reg.step_load_mid (by rfl) 51 (.tmp 20) (by rfl) tb (toff + k * 57 + 1) (by exact h20) (ceL X.c) (fun j v hv => ((HB.out.trans (hku.below.mono HB.out.size)).cell (p := ⟨tb, _, none⟩) HTB.out).trans (HRC.out j v hv)) _ Try.underlying51 rfl (by rw [size_ce, ceL_len]) ?_
          exact hK _ _ ⟨_, rfl, Reg.KJ.refl _, fun d hd => by cases hd; exact rfl, fun h => by cases h⟩
        · intro x u hku hd
          have h16 : x 16 = .bool X.b := hd 5 (by decide)
          have h21 : x 21 = .agg (ceL X.c).toArray := hd 10 (by decide)
          refine wpOp_step rfl fun KK hK => ?_
          refine Reg.step_build (by rfl) 147 _ (by rfl) _ (by simpa [Act.eval, h16, h21] using HBH.out) ?_
          exact hK _ _ ⟨_, rfl, Reg.KJ.refl _, fun d hd => by cases hd; exact rfl, fun h => by cases h⟩
        · intro x u hku hd
          have h22 : x 22 = .agg (heL ⟨X.b, X.c⟩).toArray := hd 11 (by decide)
          refine wpOp_step rfl fun KK hK => ?_
          refine Reg.step_bsl (by rfl) 72 1 _ (by rfl) #[(0, .agg (heL ⟨X.b, X.c⟩).toArray)] (by simp [Act.eval, h22]) _ _ (run_bsl_one (P := Try.prog) u 72 147 i0 (heL heN) 56 elemRHelds HI.out HZ0.out HZ1.out (heL_len _) (by decide) (by decide) (heL ⟨X.b, X.c⟩) (heL_len _)) ?_
          exact hK _ _ ⟨_, rfl, Reg.KJ.grow (by simp) hku.size (below_al (Below.refl _ u) _), fun d hd => by cases hd; exact ⟨_, rfl, Blk.new u _ _⟩, fun h => by cases h⟩
      · intro x u hku hd
        obtain ⟨gb, e23, hgb⟩ : (∃ g, x 23 = .slice (some ⟨g, 0, none⟩) 1 1 ∧ Blk u g 147 (heL ⟨X.b, X.c⟩).toArray) := hd 12 (by decide)
        have e11 : x 11 = .slice A' k c' := hd 0 (by decide)
        have HGB := Lib.hid hgb
        have HKU := Lib.hid hku.below
        have HOU := Lib.hid (ownsF_on HO.out hku.below)
        have HSZ := Lib.hid (Nat.le_trans HBW.out hku.size)
        have hmm : m ≤ 65536 := HM.out
        clear hgb
        simp only [Reg.frame, Reg.over, Nat.reduceAdd, Nat.reduceLeDiff, decide_true, decide_false, if_true, Bool.false_eq_true, if_false, Bool.and_true, Bool.and_false, e23, e11, List.drop_succ_cons, List.drop_zero]
        go_wp2_with (at_builtin; refine wpList_append_G rfl (.tmp 11) (.tmp 23) 72 rfl w.heap.size 147 i0 _ 56 136 elemRHelds HI.out HZ0.out HZ1.out HZ2.out (by simp [Value.cells, heL_len]) (by decide) A' k c' (hesL (fun i => tblM (R i).ro) k) (by simp [Act.eval, Act.put]) HOU.out gb 1 1 (heL ⟨X.b, X.c⟩) (by simp [Act.eval, Act.put]) HGB.out (heL_len _) (heL_one _) (by decide) (by unfold maxLen; have := HM.out; omega) (by have := HM.out; omega) HSZ.out ?_; intro A2 p2 w2 hO2 hb2 _; have HO2 := Lib.hid hO2; have HB2 := Lib.hid hb2; clear hO2 hb2)
        go_roundw
        case rel =>
          refine ⟨k + 1, by omega, by go_num, A2, p2, rfl, Lib.hid ?_, Lib.hid ?_⟩
          · rw [hesL_succ]
            show World.ownsRow _ _ _ _ _ _ (hesL (fun i => tblM (R i).ro) k ++ heL (tblM (R k).ro))
            rw [HTE.out]
            exact HO2.out
          · exact (HB.out.trans (HKU.out.mono HB.out.size)).trans HB2.out
        case measure => simp [intOf]; omega
    · obtain rfl : k = m := by omega
      go_wp2_with fail
      go_ret
      exact ⟨A', c', rfl, HO.out, HB.out⟩
end Go.Proofs.Ytdbljggjddnjcaa

