/-
  The law WiresApart, walked: what one link is given changes nothing of what is here of others; what is taken is as if it never had been given; the last thing that is given counts: true; nothing that was there has turned. Condition: the table of directions is as the program's text lays it.
-/
import Derived.Test.YtgmoifbncijhdaaDoorWrM
import Derived.Deep.CutRange
namespace Go.Proofs.YtgmoifbncijhdaaDoor
open Go.RowKit Rg
set_option linter.unusedVariables false

/-- One link alone was given something. -/
def oneF (a : Nat) (x : Int) : Nat → Option Int := fun i => if i = a then some x else none
theorem oneF_of {a b : Nat} (x0 x1 x2 : Int) (h : a ≠ b) : upd (upd (upd (upd noneW a (some x0)) b (some x1)) a (some x2)) b none = oneF a x2 := by
  funext i
  simp only [upd, oneF, noneW]
  by_cases e1 : i = b
  · subst e1
    rw [if_pos rfl, if_neg (fun e => h e.symm)]
  · rw [if_neg e1]
    by_cases e2 : i = a
    · rw [if_pos e2, if_pos e2]
    · rw [if_neg e2, if_neg e1, if_neg e2, if_neg e2]
theorem err_end (n : Nat) : errW n ((4 * n : Nat) : Int) = 1 := by
  rw [errW, if_neg]
  simp only [inB, decide_eq_true_eq]; omega
theorem upd_end (n : Nat) (G : Nat → Option Int) (o : Option Int) : updW n G ((4 * n : Nat) : Int) o = G := by
  rw [updW, if_neg]
  simp only [inB, decide_eq_true_eq]; omega
theorem err_neg (n : Nat) : errW n (-1) = 1 := by
  rw [errW, if_neg]
  simp only [inB, decide_eq_true_eq]; omega
theorem upd_neg (n : Nat) (G : Nat → Option Int) (o : Option Int) : updW n G (-1) o = G := by
  rw [updW, if_neg]
  simp only [inB, decide_eq_true_eq]; omega
theorem cell_low {w0 u : World} {g : Nat} {t : TypeId} {cs : Array Value} (h : Blk w0 g t cs) (hb : Below w0.heap.size w0 u) (i : Nat) : u.cell? ⟨g, i, none⟩ = cs[i]? := (h.on hb).cell i
theorem rem_nat {x : Int} {N : Nat} (h0 : 0 ≤ x) (hN : 0 < N) : ∃ a : Nat, x.tmod (N : Int) = (a : Int) ∧ a < N := by
  have h1 := Int.emod_nonneg x (show (N : Int) ≠ 0 by omega)
  have h2 := Int.emod_lt_of_pos x (show (0 : Int) < N by omega)
  exact ⟨(x % N).toNat, by rw [Int.tmod_eq_emod_of_nonneg h0]; omega, by omega⟩
set_option maxRecDepth 100000 in
set_option maxHeartbeats 4000000 in
theorem wiresApart_walk (x a0 b0 x0 x1 x2 : Int) (w : World) (hw : Ways w) (hx : (Lit.int .u8 x).wf = true) (ha : (Lit.int .u8 a0).wf = true) (hb0 : (Lit.int .u8 b0).wf = true) (hx0 : (Lit.int .i64 x0).wf = true) (hx1 : (Lit.int .i64 x1).wf = true) (hx2 : (Lit.int .i64 x2).wf = true) :
    Calls Tryd.prog 7 #[.int .u8 x, .agg #[.int .u8 a0, .int .u8 b0], .agg #[.int .i64 x0, .int .i64 x1, .int .i64 x2]] w fun e w' => e = .returned (.bool true) ∧ Below w.heap.size w w' := by
  have hb := bounds_u8 hx
  have hba := bounds_u8 ha
  have hbb := bounds_u8 hb0
  obtain ⟨n, en⟩ : ∃ n : Nat, 4 + x % 13 = (n : Int) := ⟨(4 + x % 13).toNat, by omega⟩
  have HND := Lib.hid (fun W => show Calls Tryd.prog 21 #[.int .u8 x] W fun e w' => e = .returned (.int .i64 (n : Int)) ∧ W = w' from en ▸ nodes_any x W hb.1 hb.2)
  have hm1 : 4 ≤ n := by omega
  have hm2 : n ≤ 16 := by omega
  obtain ⟨N, hN⟩ : ∃ N, N = 4 * n := ⟨_, rfl⟩
  have hNb : N ≤ 64 := by omega
  have hN0 : (N : Int) ≠ 0 := by omega
  have hN0' : ((N : Int) == 0) = false := beq_eq_false_iff_ne.2 hN0
  have hw4 : IntKind.i64.wrap (4 * (n : Int)) = (N : Int) := by rw [IntWalk.i64_in _ (by omega)]; omega
  obtain ⟨a, hra, haN⟩ := rem_nat (N := N) hba.1 (by omega)
  obtain ⟨b, hrb, hbN⟩ := rem_nat (N := N) hbb.1 (by omega)
  have hwa : IntKind.i64.wrap (a : Int) = (a : Int) := IntWalk.i64_in _ (by omega)
  have hwb : IntKind.i64.wrap (b : Int) = (b : Int) := IntWalk.i64_in _ (by omega)
  have hza : IntKind.i64.wrap a0 = a0 := IntWalk.i64_in _ (by omega)
  have hzb : IntKind.i64.wrap b0 = b0 := IntWalk.i64_in _ (by omega)
  obtain ⟨W2, hW2⟩ : ∃ W2, W2 = (w.alloc (.cells #[.int .u8 a0, .int .u8 b0] 60)).alloc (.cells #[.int .i64 x0, .int .i64 x1, .int .i64 x2] 63) := ⟨_, rfl⟩
  have hB4 : Blk W2 w.heap.size 60 #[.int .u8 a0, .int .u8 b0] := by rw [hW2]; exact (Blk.new w _ _).alloc _
  have hB5 : Blk W2 (w.heap.size + 1) 63 #[.int .i64 x0, .int .i64 x1, .int .i64 x2] := by
    rw [hW2]
    have := Blk.new (w.alloc (.cells #[.int .u8 a0, .int .u8 b0] 60)) 63 #[.int .i64 x0, .int .i64 x1, .int .i64 x2]
    simpa only [alloc_size] using this
  have hbw : Below w.heap.size w W2 := by rw [hW2]; exact below_al (below_al (Below.refl _ _) _) _
  have HN0 := Lib.hid (hNew n hm1 hm2 W2 W2 (hw.on hbw) (Below.refl _ _))
  have k40 := hB4.cell 0
  have k41 := hB4.cell 1
  have k4l := hB4.lt
  have k5l := hB5.lt
  simp only [List.getElem?_toArray, List.getElem?_cons_zero, List.getElem?_cons_succ] at k40 k41
  have HB5 := Lib.hid hB5
  have HBW := Lib.hid hbw
  have HNN := Lib.hid hN
  have HM := Lib.hid (And.intro hm1 hm2)
  have HAB := Lib.hid (And.intro haN hbN)
  have HLT := Lib.hid (fun (u : World) (h : Below W2.heap.size W2 u) => Nat.lt_of_lt_of_le hB5.lt h.size)
  clear hw hb hba hbb en hm1 hm2 hx ha hb0 hx0 hx1 hx2 hB4 hB5 hbw hN haN hbN
  go_enter Tryd.func7, Tryd.ntmps7
  go_upto_region 1 with fail
  rw [← hW2]
  clear hW2
  by_cases hab : a = b
  · have hq : ((a : Int) == (b : Int)) = true := beq_iff_eq.2 (by omega)
    have hq' : (a == b) = true := beq_iff_eq.2 hab
    subst hab
    go_wp2_with (first
      | (go_at_call 21; (with_reducible refine (HND.out _).mono ?_); rintro e w' ⟨rfl, rfl⟩)
      | (go_at_call 9; (with_reducible refine HN0.out.mono ?_); rintro e u0 ⟨L, rfl, hn, -, h0, -⟩; have H0 := Lib.hid h0; clear hn h0)
      | (go_at_call 8; (with_reducible refine (lives_wr _ H0.out.way).mono ?_); rintro e v1 ⟨rfl, b1⟩))
    go_ret
    exact ⟨rfl, below_then HBW.out (H0.out.on b1).low⟩
  · have hq : ((a : Int) == (b : Int)) = false := beq_eq_false_iff_ne.2 (by omega)
    have hq' : (a == b) = false := beq_eq_false_iff_ne.2 hab
    have HF := Lib.hid (oneF_of (a := a) (b := b) x0 x1 x2 hab)
    clear hab
    obtain ⟨G1, g1⟩ : ∃ G, upd noneW a (some x0) = G := ⟨_, rfl⟩
    obtain ⟨G2, g2⟩ : ∃ G, upd G1 b (some x1) = G := ⟨_, rfl⟩
    obtain ⟨G3, g3⟩ : ∃ G, upd G2 a (some x2) = G := ⟨_, rfl⟩
    rw [g1, g2, g3] at HF
    have D1 := Lib.hid (show updW n noneW (a : Int) (some x0) = G1 by rw [upd_in _ _ (by have := HAB.out; have := HNN.out; omega), g1])
    have D2 := Lib.hid (show updW n G1 (b : Int) (some x1) = G2 by rw [upd_in _ _ (by have := HAB.out; have := HNN.out; omega), g2])
    have D3 := Lib.hid (show updW n G2 (a : Int) (some x2) = G3 by rw [upd_in _ _ (by have := HAB.out; have := HNN.out; omega), g3])
    have D4 := Lib.hid (show updW n G3 (b : Int) none = oneF a x2 by rw [upd_in _ _ (by have := HAB.out; have := HNN.out; omega), HF.out])
    have RA := Lib.hid (show errW n (a : Int) = 0 from err_in (by have := HAB.out; have := HNN.out; omega))
    have RB := Lib.hid (show errW n (b : Int) = 0 from err_in (by have := HAB.out; have := HNN.out; omega))
    have VA := Lib.hid (show givW n (oneF a x2) (a : Int) = some x2 by rw [giv_in _ (by have := HAB.out; have := HNN.out; omega)]; simp [oneF])
    have VB := Lib.hid (show givW n (oneF a x2) (b : Int) = none by rw [giv_in _ (by have := HAB.out; have := HNN.out; omega)]; simp only [oneF]; rw [if_neg]; intro e; subst e; simp at hq')
    have R4 := Lib.hid (show errW n (N : Int) = 1 by rw [HNN.out]; exact err_end n)
    have D5 := Lib.hid (show updW n (oneF a x2) (N : Int) (some 1) = oneF a x2 by rw [HNN.out]; exact upd_end n _ _)
    have BA := Lib.hid (show -9223372036854775808 ≤ (a : Int) ∧ (a : Int) ≤ 9223372036854775807 by have := HAB.out; omega)
    have BB := Lib.hid (show -9223372036854775808 ≤ (b : Int) ∧ (b : Int) ≤ 9223372036854775807 by have := HAB.out; omega)
    have BN := Lib.hid (show -9223372036854775808 ≤ (N : Int) ∧ (N : Int) ≤ 9223372036854775807 by omega)
    have BM := Lib.hid (show -9223372036854775808 ≤ (-1 : Int) ∧ (-1 : Int) ≤ 9223372036854775807 by decide)
    clear g1 g2 g3
    go_wp2_with (first
      | (go_at_call 21; (with_reducible refine (HND.out _).mono ?_); rintro e w' ⟨rfl, rfl⟩)
      | (go_at_call 9; (with_reducible refine HN0.out.mono ?_); rintro e u0 ⟨L, rfl, hn, -, h0, -⟩; have H0 := Lib.hid h0; have HL := Lib.hid hn; clear hn h0; have c5 := cell_low HB5.out H0.out.low 0; have l5 := HLT.out _ H0.out.low; simp only [List.getElem?_toArray, List.getElem?_cons_zero] at c5)
      | (go_at_call 11; (with_reducible refine (hGive H0.out HL.out (a : Int) BA.out x0 0 RA.out G1 D1.out).mono ?_); rintro e u1 ⟨rfl, hh, -⟩; have H1 := Lib.hid hh; clear hh; try clear c5; try clear l5; have c5 := cell_low HB5.out H1.out.low 1; have l5 := HLT.out _ H1.out.low; simp only [List.getElem?_toArray, List.getElem?_cons_zero, List.getElem?_cons_succ] at c5)
      | (go_at_call 11; (with_reducible refine (hGive H1.out HL.out (b : Int) BB.out x1 0 RB.out G2 D2.out).mono ?_); rintro e u2 ⟨rfl, hh, -⟩; have H2 := Lib.hid hh; clear hh; try clear c5; try clear l5; have c5 := cell_low HB5.out H2.out.low 2; have l5 := HLT.out _ H2.out.low; simp only [List.getElem?_toArray, List.getElem?_cons_zero, List.getElem?_cons_succ] at c5)
      | (go_at_call 11; (with_reducible refine (hGive H2.out HL.out (a : Int) BA.out x2 0 RA.out G3 D3.out).mono ?_); rintro e u3 ⟨rfl, hh, -⟩; have H3 := Lib.hid hh; clear hh)
      | (go_at_call 13; (with_reducible refine (hTake H3.out HL.out (b : Int) BB.out 0 RB.out (oneF a x2) D4.out).mono ?_); rintro e u4 ⟨rfl, hh, -⟩; have H4 := Lib.hid hh; clear hh)
      | (go_at_call 18; (with_reducible refine (hGiven H4.out HL.out (a : Int) BA.out (some x2) VA.out).mono ?_); rintro e u5 ⟨rfl, hh, -⟩; have H5 := Lib.hid hh; clear hh)
      | (go_at_call 18; (with_reducible refine (hGiven H5.out HL.out (b : Int) BB.out none VB.out).mono ?_); rintro e u6 ⟨rfl, hh, -⟩; have H6 := Lib.hid hh; clear hh; try clear c5; try clear l5; have c5 := cell_low HB5.out H6.out.low 2; have l5 := HLT.out _ H6.out.low; simp only [List.getElem?_toArray, List.getElem?_cons_zero, List.getElem?_cons_succ] at c5)
      | (go_at_call 11; (with_reducible refine (hGive H6.out HL.out (N : Int) BN.out 1 1 R4.out (oneF a x2) D5.out).mono ?_); rintro e u7 ⟨rfl, hh, -⟩; have H7 := Lib.hid hh; clear hh)
      | (go_at_call 13; (with_reducible refine (hTake H7.out HL.out (-1) BM.out 1 (err_neg n) (oneF a x2) (upd_neg n _ _)).mono ?_); rintro e u8 ⟨rfl, hh, -⟩; have H8 := Lib.hid hh; clear hh))
    clear H0 H1 H2 H3 H4 H5 H6 H7 D1 D2 D3 D4 D5 VA VB RA RB R4 c5 l5 HF k40 k41
    go_loopw [16] (fun s16 wr => ∃ T : Nat, T ≤ 3 ∧ s16 = .int .i64 ((T + 1 : Nat) : Int) ∧ Hid (Hold W2 L wr (T : Int) (HT (oneF a x2) T) (XT (oneF a x2) T) (GT (oneF a x2) T))) (fun s16 _ => 4 - (intOf s16).toNat)
    case atStart => exact ⟨0, by omega, rfl, Lib.hid (by rw [HT_zero, XT_zero, GT_zero]; exact H8.out)⟩
    case round =>
      obtain ⟨T, hT, rfl, HI⟩ := hrel
      clear H8
      by_cases hlt : T < 3
      · have hdT : decide (((T + 1 : Nat) : Int) ≤ 3) = true := decide_eq_true (by omega)
        have hdT' : decide (T + 1 ≤ 3) = true := decide_eq_true (by omega)
        have hwT : IntKind.i64.wrap (((T + 1 : Nat) : Int) + 1) = ((T + 1 + 1 : Nat) : Int) := by rw [IntWalk.i64_in _ (by omega)]; omega
        have HE := Lib.hid (hEnd HI.out (by omega) ((T + 1 : Nat) : Int) (by omega) (HT (oneF a x2) (T + 1)) (XT (oneF a x2) (T + 1)) (now_T _ _) (next_T _ _))
        obtain ⟨T1, eT⟩ : ∃ T1, T1 = T + 1 := ⟨_, rfl⟩
        rw [← eT] at hdT hdT' hwT HE ⊢
        have HT1 := Lib.hid (show 1 ≤ T1 ∧ T1 ≤ 3 by omega)
        have HTT := Lib.hid eT
        clear eT
        go_wp2_with (go_at_call 14; (with_reducible refine HE.out.mono ?_); rintro e u1 ⟨rfl, h1, -⟩; have H1 := Lib.hid h1; clear h1)
        clear HE HI
        go_loopw [17] (fun s17 wr => ∃ j : Nat, j ≤ N ∧ s17 = .int .i64 (j : Int) ∧ Hid (Hold W2 L wr (T1 : Int) (HT (oneF a x2) T1) (XT (oneF a x2) T1) noneW)) (fun s17 _ => N - (intOf s17).toNat)
        case atStart => exact ⟨0, by omega, rfl, H1⟩
        case round =>
          obtain ⟨j, hj, rfl, HJ⟩ := hrel
          clear H1
          by_cases hlj : j < N
          · have hdj : decide ((j : Int) < (N : Int)) = true := decide_eq_true (by omega)
            have hdj' : decide (j < N) = true := decide_eq_true hlj
            have hwj : IntKind.i64.wrap ((j : Int) + 1) = ((j + 1 : Nat) : Int) := by rw [IntWalk.i64_in _ (by omega)]; omega
            have hj4 : 4 ≤ n ∧ n ≤ 16 ∧ j < 4 * n := by have := HM.out; have := HNN.out; omega
            have hj4' : 4 ≤ (n : Int) ∧ (n : Int) ≤ 16 ∧ (j : Int) < 4 * n := by omega
            have eh : endHop n j = hopN j := ends_hop (by omega) (by omega) (by omega)
            have hd3 := dir_ok hj4'
            have HE := Lib.hid (ends_is n j _ _ _ (hopN j) rfl rfl rfl eh wr (HJ.out.way) (by omega) (by omega))
            obtain ⟨o, ho⟩ : ∃ o, HT (oneF a x2) T1 j = o := ⟨_, rfl⟩
            have HH := Lib.hid (fun (v : World) (h : Hold W2 L v (T1 : Int) (HT (oneF a x2) T1) (XT (oneF a x2) T1) noneW) => hHere h HL.out (endDir n j) (endTo n j) (hopN j) hd3.1 (by omega) o (by rw [← eh, here_ends _ hj4, ho]))
            have hcase : (j = a ∧ (T1 : Int) = hopN j ∧ o = some x2) ∨ (j = a ∧ (T1 : Int) ≠ hopN j ∧ o = none) ∨ (j ≠ a ∧ o = none) := by
              rw [← ho]
              simp only [HT, oneF]
              by_cases q : j = a
              · by_cases c : (T1 : Int) = hopN j
                · left; exact ⟨q, c, by rw [if_pos c, if_pos q]⟩
                · right; left; exact ⟨q, c, by rw [if_neg c]⟩
              · right; right; refine ⟨q, ?_⟩
                rw [if_neg q]; split <;> rfl
            obtain ⟨p1, e1⟩ : ∃ p, p = endFrom n j := ⟨_, rfl⟩
            obtain ⟨p2, e2⟩ : ∃ p, p = endTo n j := ⟨_, rfl⟩
            obtain ⟨p3, e3⟩ : ∃ p, p = endDir n j := ⟨_, rfl⟩
            obtain ⟨h, e4⟩ : ∃ p, p = hopN j := ⟨_, rfl⟩
            rw [← e1, ← e2, ← e3, ← e4] at HE
            rw [← e2, ← e3, ← e4] at HH
            rw [← e4] at hcase
            clear e1 e2 e3 e4 hj4 hj4' eh hd3 ho
            rcases hcase with ⟨ha, hc, rfl⟩ | ⟨ha, hc, rfl⟩ | ⟨ha, rfl⟩
            · have hq1 : ((j : Int) == (a : Int)) = true := beq_iff_eq.2 (by omega)
              have hq2 : (j == a) = true := beq_iff_eq.2 ha
              have hq3 : ((T1 : Int) == h) = true := beq_iff_eq.2 hc
              simp only [Option.getD_some, Option.isSome_some] at HH
              clear ha hc
              go_wp2_with (first
                | (go_at_call 22; (with_reducible refine HE.out.mono ?_); rintro e v1 ⟨rfl, b1⟩; have V1 := Lib.hid (HJ.out.on b1); clear b1)
                | (go_at_call 16; (with_reducible refine (HH.out _ V1.out).mono ?_); rintro e v2 ⟨rfl, h2, -⟩; have V2 := Lib.hid h2; clear h2; have c5 := cell_low HB5.out V2.out.low 2; have l5 := HLT.out _ V2.out.low; simp only [List.getElem?_toArray, List.getElem?_cons_zero, List.getElem?_cons_succ] at c5))
              go_roundw
              case rel => exact ⟨j + 1, by omega, rfl, V2⟩
              case measure => simp [intOf]; omega
            · have hq1 : ((j : Int) == (a : Int)) = true := beq_iff_eq.2 (by omega)
              have hq2 : (j == a) = true := beq_iff_eq.2 ha
              have hq3 : ((T1 : Int) == h) = false := beq_eq_false_iff_ne.2 hc
              simp only [Option.getD_none, Option.isSome_none] at HH
              clear ha hc
              go_wp2_with (first
                | (go_at_call 22; (with_reducible refine HE.out.mono ?_); rintro e v1 ⟨rfl, b1⟩; have V1 := Lib.hid (HJ.out.on b1); clear b1)
                | (go_at_call 16; (with_reducible refine (HH.out _ V1.out).mono ?_); rintro e v2 ⟨rfl, h2, -⟩; have V2 := Lib.hid h2; clear h2; have c5 := cell_low HB5.out V2.out.low 2; have l5 := HLT.out _ V2.out.low; simp only [List.getElem?_toArray, List.getElem?_cons_zero, List.getElem?_cons_succ] at c5))
              go_roundw
              case rel => exact ⟨j + 1, by omega, rfl, V2⟩
              case measure => simp [intOf]; omega
            · have hq1 : ((j : Int) == (a : Int)) = false := beq_eq_false_iff_ne.2 (by omega)
              have hq2 : (j == a) = false := beq_eq_false_iff_ne.2 ha
              simp only [Option.getD_none, Option.isSome_none] at HH
              clear ha
              go_wp2_with (first
                | (go_at_call 22; (with_reducible refine HE.out.mono ?_); rintro e v1 ⟨rfl, b1⟩; have V1 := Lib.hid (HJ.out.on b1); clear b1)
                | (go_at_call 16; (with_reducible refine (HH.out _ V1.out).mono ?_); rintro e v2 ⟨rfl, h2, -⟩; have V2 := Lib.hid h2; clear h2; have c5 := cell_low HB5.out V2.out.low 2; have l5 := HLT.out _ V2.out.low; simp only [List.getElem?_toArray, List.getElem?_cons_zero, List.getElem?_cons_succ] at c5))
              go_roundw
              case rel => exact ⟨j + 1, by omega, rfl, V2⟩
              case measure => simp [intOf]; omega
          · have hdj : decide ((j : Int) < (N : Int)) = false := decide_eq_false (by omega)
            have hdj' : decide (j < N) = false := decide_eq_false hlj
            have HQ := Lib.hid (show Hold W2 L wr (T1 : Int) (HT (oneF a x2) T1) (XT (oneF a x2) T1) (GT (oneF a x2) T1) by rw [GT_pos _ (by have := HT1.out; omega)]; exact HJ.out)
            clear hlj
            go_wp2_with fail
            go_roundw
            case rel => exact ⟨T1, by have := HT1.out; omega, rfl, HQ⟩
            case measure => have := HTT.out; simp [intOf]; omega
      · obtain rfl : T = 3 := by omega
        have HV := Lib.hid (lives_wr wr HI.out.way)
        clear hlt hT
        go_wp2_with (go_at_call 8; (with_reducible refine HV.out.mono ?_); rintro e v1 ⟨rfl, b1⟩)
        go_ret
        exact ⟨rfl, below_then HBW.out (HI.out.on b1).low⟩
end Go.Proofs.YtgmoifbncijhdaaDoor
