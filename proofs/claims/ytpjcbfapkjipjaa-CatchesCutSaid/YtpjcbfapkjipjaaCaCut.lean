/-
  The law CatchesCut: it returns true, and nothing that was there has turned. Conditions: numbers of their kinds.
-/
import Derived.Test.YtpjcbfapkjipjaaCaOwn
import Derived.Lib.MinMax
namespace Go.Proofs.Ytpjcbfapkjipjaa
open Go.RowKit Crc
set_option linter.unusedVariables false

section
variable {X : List Int} {p q : Nat} (hX : X.length = 114) (hw : wholeL X = true) (hp : p < 112) (hq : q < 112)
include hX hw hp hq
theorem cutN (j : Nat) (hj : j < 114) : knF ((X.set q 0).set p 7) j = if j = p then 0 else if j = q then 0 else X.getD j 0 := by
  unfold knF
  by_cases e1 : j = p
  · subst e1
    rw [if_pos rfl, List.getD, List.getElem?_set_self (by simp [hX]; omega)]
    rfl
  · rw [if_neg e1, List.getD, List.getElem?_set_ne (Ne.symm e1)]
    by_cases e2 : j = q
    · subst e2
      rw [if_pos rfl, List.getElem?_set_self (by omega)]
      rfl
    · rw [if_neg e2, List.getElem?_set_ne (Ne.symm e2)]
      exact (knF_whole hw (j := j) (by omega)).1
omit hq in
theorem cutFa (j : Nat) (hj : j < 114) : knF (X.set p 0) j = if j = p then 0 else X.getD j 0 := by
  unfold knF
  by_cases e1 : j = p
  · subst e1
    rw [if_pos rfl, List.getD, List.getElem?_set_self (by omega)]
    rfl
  · rw [if_neg e1, List.getD, List.getElem?_set_ne (Ne.symm e1)]
    exact (knF_whole hw (j := j) (by omega)).1
theorem cutBo (j : Nat) (hj : j < 114) (h : j ≠ p) : bo (knF ((X.set q 0).set p 7)) (knF (X.set p 0)) j = X.getD j 0 := by
  unfold bo
  rw [cutN hX hw hp hq j hj, cutFa hX hw hp j hj, if_neg h, if_neg h]
  by_cases e : j = q
  · rw [if_pos e, if_pos rfl]
  · rw [if_neg e]
    by_cases e0 : X.getD j 0 = 0
    · rw [if_pos e0]
    · rw [if_neg e0]
theorem cutOut_lo (j : Nat) (hj : j < p) (o : Int) : outC (knF ((X.set q 0).set p 7)) (knF (X.set p 0)) o j = X.getD j 0 := by
  unfold outC
  have e : cutF (knF ((X.set q 0).set p 7)) (knF (X.set p 0)) (j + 1) = false := (cutF_iff _).2 fun i hi _ => by
    rw [cutBo hX hw hp hq i (by omega) (by omega)]
    have := wh_at hw (j := i) (by omega)
    omega
  rw [e, if_neg (by decide), if_pos (by omega), cutBo hX hw hp hq j (by omega) (by omega)]
theorem cutOut_hi (j : Nat) (hj : p ≤ j) (o : Int) : outC (knF ((X.set q 0).set p 7)) (knF (X.set p 0)) o j = 0 := by
  unfold outC
  have hb : bo (knF ((X.set q 0).set p 7)) (knF (X.set p 0)) p = 0 := by
    unfold bo
    rw [cutN hX hw hp hq p (by omega), cutFa hX hw hp p (by omega), if_pos rfl, if_pos rfl, if_pos rfl]
  have e : cutF (knF ((X.set q 0).set p 7)) (knF (X.set p 0)) (j + 1) = true := by
    cases h : cutF (knF ((X.set q 0).set p 7)) (knF (X.set p 0)) (j + 1)
    · exact absurd hb ((cutF_iff _).1 h p (by omega) hp)
    · rfl
  rw [e, if_pos rfl]
theorem cutAl (j : Nat) (hj : j < 114) : al (knF ((X.set q 0).set p 7)) (knF (X.set p 0)) j = (decide (j ≠ p) && decide (j ≠ q)) := by
  have h12 := wh_at hw (j := j) (by omega)
  unfold al
  rw [cutN hX hw hp hq j hj, cutFa hX hw hp j hj]
  by_cases e1 : j = p
  · simp [e1]
  · rw [if_neg e1, if_neg e1]
    by_cases e2 : j = q
    · simp [e2]
    · rw [if_neg e2]
      simp only [e1, e2, ne_eq, not_false_eq_true, decide_true, Bool.and_self, beq_self_eq_true, Bool.true_and, bne_iff_ne]
      omega
theorem cutSame : sameF (knF ((X.set q 0).set p 7)) (knF (X.set p 0)) 114 = min q p := by
  refine sameF_min (by omega) (fun j hj => ?_) ?_
  · rw [cutAl hX hw hp hq j (by omega)]
    simp only [ne_eq, Bool.and_eq_true, decide_eq_true_eq]
    omega
  · rw [cutAl hX hw hp hq _ (by omega)]
    simp only [ne_eq, Bool.and_eq_false_iff, decide_eq_false_iff_not, Classical.not_not]
    omega
theorem cutUnl : unlF (knF ((X.set q 0).set p 7)) (knF (X.set p 0)) 114 = min (q : Int) (p : Int) := by
  unfold unlF
  rw [cutSame hX hw hp hq, if_neg (by omega)]
  omega
theorem cutHi (o : Int) : hiB (knF ((X.set q 0).set p 7)) (knF (X.set p 0)) o 114 = false := by
  unfold hiB highC
  rw [cutSame hX hw hp hq, decide_eq_false (show ¬ min q p = 114 by omega)]
  simp
theorem cutHiF (o : Int) : hiF (knF ((X.set q 0).set p 7)) (knF (X.set p 0)) o 114 = Fr.zero := by
  unfold hiF
  rw [cutHi hX hw hp hq]
  rfl
end
set_option maxRecDepth 100000 in
set_option maxHeartbeats 1000000 in
theorem cut_main (ow ky : Int) (f : Fr) (a b : Int) (w : World) (ho : ow % 8 = f.o) (hk : 1 + ky % 2 = f.k) (hf : f.Fit) (hm : mayB f.o f.k = true) (o0 : 0 ≤ ow) (o1 : ow ≤ 255) (k0 : 0 ≤ ky) (k1 : ky ≤ 255) (a0 : 0 ≤ a) (a1 : a ≤ 255) (b0 : 0 ≤ b) (b1 : b ≤ 255) :
    Calls Try.prog 7 #[.int .u8 ow, .agg #[.int .u8 ky, .int .u8 f.s, .int .u32 f.q, .int .u32 f.v], .agg #[.int .u8 a, .int .u8 b]] w fun e w' => e = .returned (.bool true) ∧ Below w.heap.size w w' := by
  obtain ⟨i0, hi0, hz0, hz1, hz2⟩ := info_parts infoSyms
  obtain ⟨p, hp⟩ : ∃ p : Nat, a % 112 = (p : Int) := ⟨(a % 112).toNat, by omega⟩
  obtain ⟨q, hq⟩ : ∃ q : Nat, b % 112 = (q : Int) := ⟨(b % 112).toNat, by omega⟩
  have hp1 : p < 112 := by omega
  have hq1 : q < 112 := by omega
  have hoo := (mayB_iff _ _).1 hm
  have HG := Lib.hid (fun u => good_is f u hf hm)
  have HXL := Lib.hid (goodL_length f)
  have HXW := Lib.hid (goodL_whole f)
  obtain ⟨X, hX⟩ : ∃ X, X = goodL f := ⟨_, rfl⟩
  rw [← hX] at HG HXL HXW
  have HNW := Lib.hid (fun (x y : Nat → Int) u => cNewE x y f.o u hoo.1 hoo.2.1)
  obtain ⟨N, hN⟩ : ∃ N, N = (X.set q 0).set p 7 := ⟨_, rfl⟩
  obtain ⟨F, hF⟩ : ∃ F, F = X.set p 0 := ⟨_, rfl⟩
  have HLO := Lib.hid (fun j hj => cutOut_lo HXL.out HXW.out hp1 hq1 j hj f.o)
  have HHI := Lib.hid (fun j hj => cutOut_hi HXL.out HXW.out hp1 hq1 j hj f.o)
  have HUN := Lib.hid (cutUnl HXL.out HXW.out hp1 hq1)
  have HH := Lib.hid (cutHi HXL.out HXW.out hp1 hq1 f.o)
  have HHF := Lib.hid (cutHiF HXL.out HXW.out hp1 hq1 f.o)
  rw [← hN, ← hF] at HLO HHI HUN HH HHF
  have hpi : (p : Int) < 114 := by omega
  have hqi : (q : Int) < 114 := by omega
  have hbe := below_al (below_al (Below.refl w.heap.size w) (.cells #[.int .u8 f.k, .int .u8 f.s, .int .u32 f.q, .int .u32 f.v] 40)) (.cells #[.int .u8 a, .int .u8 b] 71)
  have HZ2 := Blk.new (w.alloc (.cells #[.int .u8 f.k, .int .u8 f.s, .int .u32 f.q, .int .u32 f.v] 40)) 71 #[.int .u8 a, .int .u8 b]
  rw [alloc_size] at HZ2
  clear hX hm hf
  go_enter Try.func7, Try.ntmps7
  go_wp2_with (first
    | (go_at_call 24; (with_reducible refine (HG.out _).mono ?_); rintro e w1 ⟨gs, rfl, hgs, hS, b1'⟩; have hz := HZ2.on b1'; have z0 := hz.cell 0; have z1 := hz.cell 1; have zl := hz.lt; simp only [List.getElem?_toArray, List.getElem?_cons_zero, List.getElem?_cons_succ] at z0 z1; have hlS := hS.lies HXL.out)
    | (at_builtin; with_reducible refine wpList_append_lies rfl (.const (.slice none 0 0)) (.tmp 41) 22 rfl w1.heap.size 31 i0 _ 1 Try.underlying22 hi0 hz0 hz1 hz2 rfl .u8 (.slice none 0 0) 0 [] rfl owns_none _ 114 114 X rfl hlS 114 rfl (by unfold maxLen; omega) (by omega) (Nat.le_refl _) ?_))
  intro A1 c1 w2 hown hg2 _
  have hb1 := below_then hbe b1'
  have hb2 := hb1.grown hg2 hb1.size (fun r hr => by cases hr)
  have hbb2 : Below w1.heap.size w1 w2 := (Below.refl _ _).grown hg2 (Nat.le_refl _) (fun r hr => by cases hr)
  obtain ⟨gn, rfl, hgn, hO1, hcn⟩ := own1_of hown (by omega)
  have hS2 := hS.on hbb2
  have hlS2 := hS2.lies HXL.out
  clear hown hg2 hlS z0 z1 zl hz HZ2 hbe
  go_wp2_with (first
    | (at_builtin; with_reducible refine wpList_append_lies rfl (.const (.slice none 0 0)) (.tmp 43) 22 rfl w2.heap.size 31 i0 _ 1 Try.underlying22 hi0 hz0 hz1 hz2 rfl .u8 (.slice none 0 0) 0 [] rfl owns_none _ 114 114 X rfl hlS2 114 rfl (by unfold maxLen; omega) (by omega) (Nat.le_refl _) ?_))
  intro A2 c2 w3 hown3 hg3 _
  have hb3 := hb2.grown hg3 hb2.size (fun r hr => by cases hr)
  have hbb3 : Below w2.heap.size w2 w3 := (Below.refl _ _).grown hg3 (Nat.le_refl _) (fun r hr => by cases hr)
  obtain ⟨gf, rfl, hgf, hO2, hcf⟩ := own1_of hown3 (by omega)
  have hne : gn ≠ gf := Nat.ne_of_lt (Nat.lt_of_lt_of_le hO1.lt hgf)
  have hO1 := hO1.on hbb3
  have hS3 := hS2.on hbb3
  have hgn0 : w.heap.size ≤ gn := Nat.le_trans hb1.size hgn
  have hgf0 : w.heap.size ≤ gf := Nat.le_trans hb2.size hgf
  have hsn : gs ≠ gn := Nat.ne_of_lt (Nat.lt_of_lt_of_le hS.lt hgn)
  have hsf : gs ≠ gf := Nat.ne_of_lt (Nat.lt_of_lt_of_le hS2.lt hgf)
  have hixq := fun W => idxSym (n := 114) c1 (b := gn) (off := 0) (k := q) rfl (by omega) W
  have hixp := fun W => idxSym (n := 114) c1 (b := gn) (off := 0) (k := p) rfl (by omega) W
  have hixf := fun W => idxSym (n := 114) c2 (b := gf) (off := 0) (k := p) rfl (by omega) W
  simp only [Nat.zero_add] at hixq hixp hixf
  have n1 := hO1.cell (j := q) (by omega)
  have fn1 := hO1.frozen q
  have nl := hO1.lt
  clear hS hS2 hlS2 hown3 hg3 hb1 hb2 hbb2 hbb3 hgs hgn hgf
  have H1 := Lib.hid (hO1.set q 0)
  have H2 := Lib.hid (hO2.far hne.symm q (.int .u8 0))
  have H3 := Lib.hid (hS3.far (p := ⟨gn, q, none⟩) hsn (.int .u8 0))
  have H4 := Lib.hid (hb3.setCell (p := ⟨gn, q, none⟩) hgn0 (.int .u8 0))
  clear hO1 hO2 hS3 hb3
  go_upto_region 11 with fail
  obtain ⟨w4, hw4⟩ : ∃ w4, w4 = w3.setCell ⟨gn, q, none⟩ (.int .u8 0) := ⟨_, rfl⟩
  rw [← hw4] at H1 H2 H3 H4 ⊢
  clear hw4 n1 fn1 nl hixq
  have n1 := H1.out.cell (j := p) (by omega)
  have fn1 := H1.out.frozen p
  have nl := H1.out.lt
  have K1 := Lib.hid (H1.out.set p 7)
  have K2 := Lib.hid (H2.out.far hne.symm p (.int .u8 7))
  have K3 := Lib.hid (H3.out.far (p := ⟨gn, p, none⟩) hsn (.int .u8 7))
  have K4 := Lib.hid (H4.out.setCell (p := ⟨gn, p, none⟩) hgn0 (.int .u8 7))
  rw [← hN] at K1
  clear H1 H2 H3 H4
  go_upto_region 12 with fail
  obtain ⟨w5, hw5⟩ : ∃ w5, w5 = w4.setCell ⟨gn, p, none⟩ (.int .u8 7) := ⟨_, rfl⟩
  rw [← hw5] at K1 K2 K3 K4 ⊢
  clear hw5 n1 fn1 nl hixp
  have n1 := K2.out.cell (j := p) (by omega)
  have fn1 := K2.out.frozen p
  have nl := K2.out.lt
  have H1 := Lib.hid (K1.out.far hne p (.int .u8 0))
  have H2 := Lib.hid (K2.out.set p 0)
  have H3 := Lib.hid (K3.out.far (p := ⟨gf, p, none⟩) hsf (.int .u8 0))
  have H4 := Lib.hid (K4.out.setCell (p := ⟨gf, p, none⟩) hgf0 (.int .u8 0))
  rw [← hF] at H2
  clear K1 K2 K3 K4
  go_upto_region 13 with fail
  obtain ⟨w6, hw6⟩ : ∃ w6, w6 = w5.setCell ⟨gf, p, none⟩ (.int .u8 0) := ⟨_, rfl⟩
  rw [← hw6] at H1 H2 H3 H4 ⊢
  clear hw6 n1 fn1 nl hixf hN hF hgn0 hgf0 hsn hsf hne
  go_wp2_with (go_at_call 9; (with_reducible refine (HNW.out (knF N) (knF F) _).mono ?_); rintro e w7 ⟨gc, rfl, hgc, hC, b7⟩; have hO1 := H1.out.on b7; have hO2 := H2.out.on b7; have hS := H3.out.on b7; have hb := below_then H4.out b7; have hgc0 := Nat.le_trans H4.out.size hgc)
  clear H1 H2 H3 H4 b7 hgc HNW
  go_loopw [15] (fun iv wr => ∃ i : Nat, i ≤ 114 ∧ iv = .int .i64 i ∧ Cat wr gc (knF N) (knF F) f.o i ∧ Own1 wr gn 114 N ∧ Own1 wr gf 114 F ∧ Blk wr gs 31 (cellsOf .u8 X) ∧ Below w.heap.size w wr) (fun iv _ => 114 - (intOf iv).toNat)
  case atStart => exact ⟨0, Nat.zero_le _, rfl, hC, hO1, hO2, hS, hb⟩
  case round =>
    clear hC hO1 hO2 hS hb
    obtain ⟨i, hi, rfl, hC, hO1, hO2, hS, hb⟩ := hrel
    by_cases hlt : i < 114
    · have hlti : (i : Int) < 114 := by omega
      have n1 := hO1.cell hlt
      have m1 := hO2.cell hlt
      have nl := hO1.lt
      have ml := hO2.lt
      have hixn := fun W => idxSym (n := 114) c1 (b := gn) (off := 0) (k := i) rfl hlt W
      have hixf := fun W => idxSym (n := 114) c2 (b := gf) (off := 0) (k := i) rfl hlt W
      have hixs := fun W => idxSym (n := 114) 114 (b := gs) (off := 0) (k := i) rfl hlt W
      simp only [Nat.zero_add] at hixn hixf hixs
      obtain ⟨u, hu⟩ : ∃ u, u = N.getD i 0 := ⟨_, rfl⟩
      obtain ⟨v, hv⟩ : ∃ v, v = F.getD i 0 := ⟨_, rfl⟩
      obtain ⟨t, ht⟩ : ∃ t, t = X.getD i 0 := ⟨_, rfl⟩
      rw [← hu] at n1
      rw [← hv] at m1
      have HS := Lib.hid (show Cat wr.drew gc (knF N) (knF F) f.o i from hC)
      have HST := Lib.hid (fun r hr => cStep u v HS.out hlt (by rw [hu]; rfl) (by rw [hv]; rfl) r hr)
      have HKP := Lib.hid (show ∀ w2, Cat w2 gc (knF N) (knF F) f.o (i + 1) → But gc wr.drew w2 → Cat w2 gc (knF N) (knF F) f.o (i + 1) ∧ Own1 w2 gn 114 N ∧ Own1 w2 gf 114 F ∧ Blk w2 gs 31 (cellsOf .u8 X) ∧ Below w.heap.size w w2 from fun w2 h1 h2 =>
        ⟨h1, Own1.but (w := wr.drew) (hO1.on (Below.refl _ _).drew) h2 HS.out (by decide), Own1.but (w := wr.drew) (hO2.on (Below.refl _ _).drew) h2 HS.out (by decide), Blk.but (w := wr.drew) (hS.on (Below.refl _ _).drew) h2 HS.out (by decide), hb.drew.trans (h2.low hgc0)⟩)
      have hsc := (hS.cell i).trans (cellsOf_at .u8 X i (by rw [HXL.out]; exact hlt))
      rw [← ht] at hsc
      have HSC := Lib.hid (show ∀ w2, Blk w2 gs 31 (cellsOf .u8 X) → w2.cell? ⟨gs, i, none⟩ = some (.int .u8 t) from fun w2 h => by
        rw [ht]; exact (h.cell i).trans (cellsOf_at .u8 X i (by rw [HXL.out]; exact hlt)))
      by_cases hip : i < p
      · have hipi : (i : Int) < (p : Int) := by omega
        have hout := HLO.out i hip
        rw [← ht] at hout
        have HSU := Lib.hid (HST.out t hout)
        have hnp : ¬ p ≤ i := by omega
        clear hC hO1 hO2 hS hb hu hv ht hsc hout HST HS
        go_wp2_with fail
        go_region_law (go_simp; go_at_call 12; with_reducible refine (HSU.out).mono ?_; rintro e w2 ⟨rfl, hC2, hk2⟩; have HQ := Lib.hid (HKP.out w2 hC2 hk2); clear hC2 hk2)
        all_goals (
          have hsc := HSC.out _ HQ.out.2.2.2.1
          have hsl := HQ.out.2.2.2.1.lt
          go_wp2_with fail
          go_roundw
          case rel => exact ⟨i + 1, by omega, by go_num, HQ.out⟩
          case measure => simp [intOf]; omega)
      · have hipi : (p : Int) ≤ (i : Int) := by omega
        have hout := HHI.out i (by omega)
        have HSU := Lib.hid (HST.out 0 hout)
        have hnp : p ≤ i := by omega
        clear hC hO1 hO2 hS hb hu hv ht hsc hout HST HS
        go_wp2_with fail
        go_region_law (go_simp; go_at_call 12; with_reducible refine (HSU.out).mono ?_; rintro e w2 ⟨rfl, hC2, hk2⟩; have HQ := Lib.hid (HKP.out w2 hC2 hk2); clear hC2 hk2)
        all_goals (
          have hsc := HSC.out _ HQ.out.2.2.2.1
          have hsl := HQ.out.2.2.2.1.lt
          go_wp2_with fail
          go_roundw
          case rel => exact ⟨i + 1, by omega, by go_num, HQ.out⟩
          case measure => simp [intOf]; omega)
    · have hlti : (114 : Int) ≤ (i : Int) := by omega
      obtain rfl : i = 114 := by omega
      have HCH := Lib.hid (cHigh hC _ HH.out _ HHF.out)
      clear hlt hi hO1 hO2 hS
      go_wp2_with (first
        | (go_at_call 15; (with_reducible refine HCH.out.mono ?_); rintro e w2 ⟨rfl, b2⟩; have b2 := below_al b2 (.cells #[.int .i64 Fr.zero.o, .int .u8 Fr.zero.k, .int .u8 Fr.zero.s, .int .u32 Fr.zero.q, .int .u32 Fr.zero.v] 42); have hC := hC.on b2; have hb := below_then hb b2)
        | (go_at_call 18; (with_reducible refine (cUnlike hC _ HUN.out).mono ?_); rintro e w3 ⟨rfl, b3⟩; have hC := hC.on b3; have hb := below_then hb b3)
        | (go_at_call 14; (with_reducible refine (cHad hC).mono ?_); rintro e w4 ⟨rfl, rfl⟩)
        | (go_at_call 12; (with_reducible refine (cDone 2 2 hC).mono ?_); rintro e w5 ⟨rfl, rfl⟩)
        | (go_at_call 8; (with_reducible refine (lives_ca _).mono ?_); rintro e w9 ⟨rfl, b9⟩; have hb := below_then hb b9))
      go_ret
      exact ⟨rfl, hb⟩
theorem catchesCut.catchesCut_walk (x ky sy qy zy a b : Int) (w : World) (hx : (Lit.int .u8 x).wf = true) (hp : (Lit.int .u8 ky).wf = true ∧ (Lit.int .u8 sy).wf = true ∧ (Lit.int .u32 qy).wf = true ∧ (Lit.int .u32 zy).wf = true) (ha : (Lit.int .u8 a).wf = true) (hb : (Lit.int .u8 b).wf = true) :
    Calls Try.prog 7 #[.int .u8 x, .agg #[.int .u8 ky, .int .u8 sy, .int .u32 qy, .int .u32 zy], .agg #[.int .u8 a, .int .u8 b]] w fun e w' => e = .returned (.bool true) ∧ Below w.heap.size w w' := by
  obtain ⟨x0, x1⟩ := bounds_u8 hx
  obtain ⟨k0, k1⟩ := bounds_u8 hp.1
  obtain ⟨s0, s1⟩ := bounds_u8 hp.2.1
  obtain ⟨q0, q1⟩ := bounds_u32 hp.2.2.1
  obtain ⟨z0, z1⟩ := bounds_u32 hp.2.2.2
  obtain ⟨a0, a1⟩ := bounds_u8 ha
  obtain ⟨b0, b1⟩ := bounds_u8 hb
  exact cut_main x ky ⟨x % 8, 1 + ky % 2, sy, qy, zy⟩ a b w rfl rfl ⟨by simp only; omega, by simp only; omega, s0, s1, q0, by simp only; omega, z0, by simp only; omega⟩ ((mayB_iff _ _).2 ⟨by simp only; omega, by simp only; omega, by simp only; omega⟩) x0 x1 k0 k1 a0 a1 b0 b1
end Go.Proofs.Ytpjcbfapkjipjaa

