/-
  The law WindowsOver, walked: all windows are closed two places ahead of the slot's end at least; the last one just when all is told to be over; windows of two slots are two ticks apart: true; nothing that was there has turned. Conditions: the config's reading; both tables are as the program's text lays them.
-/
import Derived.Test.YtajkpbmjgncbbaaDoorWnMt
namespace Go.Proofs.YtajkpbmjgncbbaaDoor
open Go.RowKit Rg
set_option linter.unusedVariables false

/-- Somebody is at each place. -/
theorem place_some {n d f t : Int} (h : 4 ≤ n ∧ n ≤ 16 ∧ 0 ≤ d ∧ d < 2 ∧ 0 ≤ f ∧ f < n ∧ 0 ≤ t ∧ t < n) : ∃ y, 0 ≤ y ∧ y < n ∧ placeM n d f y = t := by
  have hd : d = 0 ∨ d = 1 := by omega
  rcases hd with rfl | rfl
  · have hb := mod_bd (f + t) n (by omega)
    refine ⟨(f + t) % n, hb.1, hb.2, ?_⟩
    rw [place_of (by omega), sg0]
    have e1 := mod_near n (f + t) (by omega) (by omega)
    have e2 := mod_near n ((f + t) % n - f + 0) (by omega) (by omega)
    omega
  · have hb := mod_bd (f + 1 - t) n (by omega)
    refine ⟨(f + 1 - t) % n, hb.1, hb.2, ?_⟩
    rw [place_of (by omega), sg1]
    have e1 := mod_near n (f + 1 - t) (by omega) (by omega)
    have e2 := mod_near n (-((f + 1 - t) % n - f) + 1) (by omega) (by omega)
    omega
/-- The end that was last, of the nodes below i. -/
def LastW (n d f i last : Int) : Prop := (∀ j, 0 ≤ j → j < i → 1 + placeM n d f j + 114 ≤ last) ∧ (last = 0 ∨ ∃ j, 0 ≤ j ∧ j < i ∧ last = 1 + placeM n d f j + 114)
theorem last_none (n d f : Int) : LastW n d f 0 0 := ⟨fun j h0 h1 => absurd h1 (by omega), .inl rfl⟩
theorem last_next {n d f i last k : Int} (h : LastW n d f i last) (hi : 0 ≤ i) (hk : placeM n d f i = k) : LastW n d f (i + 1) (max last (1 + k + 114)) := by
  refine ⟨fun j h0 h1 => ?_, ?_⟩
  · rcases (show j < i ∨ j = i by omega) with hj | rfl
    · have := h.1 j h0 hj; omega
    · rw [hk]; omega
  · rcases (show last ≤ 1 + k + 114 ∨ 1 + k + 114 < last by omega) with hm | hm
    · exact .inr ⟨i, hi, by omega, by rw [hk]; omega⟩
    · rcases h.2 with h2 | ⟨j, h0, h1, h2⟩
      · exact .inl (by omega)
      · exact .inr ⟨j, h0, by omega, by omega⟩
theorem last_all {n d f last : Int} (hn : 4 ≤ n ∧ n ≤ 16 ∧ 0 ≤ d ∧ d < 2 ∧ 0 ≤ f ∧ f < n) (h : LastW n d f n last) : last = n + 114 := by
  obtain ⟨y, y0, y1, hy⟩ := place_some (n := n) (d := d) (f := f) (t := n - 1) (by omega)
  have h1 := h.1 y y0 y1
  rw [hy] at h1
  rcases h.2 with h2 | ⟨j, j0, j1, h2⟩
  · omega
  · have := place_in (n := n) (d := d) (f := f) (x := j) (by omega)
    omega
theorem ok_long {c : Cf} (h0 : newE c = 0) : c.N + 116 ≤ c.L ∧ c.L ≤ 4096 := (newE_ok.1 h0).long

theorem windowsOver_none (c : Cf) (x0 x1 x2 : Int) (w : World) (hw : Laid2 w) (HN : ∀ u, Below w.heap.size w u → Calls Tryd.prog 8 #[.agg #[.int .i64 c.N, .slice c.pA c.pn c.pc, .slice c.sA c.sn c.sc, .int .i64 c.L, .slice c.bA c.bn c.bc, .slice c.tA c.tn c.tc, .int .i64 c.M, .int .i64 c.G, .int .i64 c.F]] u fun e w' => e = .returned (.pointer none) ∧ Below u.heap.size u w') :
    Calls Tryd.prog 6 #[.agg #[.int .i64 c.N, .slice c.pA c.pn c.pc, .slice c.sA c.sn c.sc, .int .i64 c.L, .slice c.bA c.bn c.bc, .slice c.tA c.tn c.tc, .int .i64 c.M, .int .i64 c.G, .int .i64 c.F], .agg #[.int .u8 x0, .int .u8 x1, .int .u8 x2]] w fun e w' => e = .returned (.bool true) ∧ Below w.heap.size w w' := by
  have hB0 : Below w.heap.size w ((w.alloc (.cells #[.int .i64 c.N, .slice c.pA c.pn c.pc, .slice c.sA c.sn c.sc, .int .i64 c.L, .slice c.bA c.bn c.bc, .slice c.tA c.tn c.tc, .int .i64 c.M, .int .i64 c.G, .int .i64 c.F] 25)).alloc (.cells #[.int .u8 x0, .int .u8 x1, .int .u8 x2] 57)) := below_al (below_al (Below.refl w.heap.size w) (.cells #[.int .i64 c.N, .slice c.pA c.pn c.pc, .slice c.sA c.sn c.sc, .int .i64 c.L, .slice c.bA c.bn c.bc, .slice c.tA c.tn c.tc, .int .i64 c.M, .int .i64 c.G, .int .i64 c.F] 25)) (.cells #[.int .u8 x0, .int .u8 x1, .int .u8 x2] 57)
  have HM := Lib.hid HN
  clear HN
  go_enter Tryd.func6, Tryd.ntmps6
  go_wp2_with (first
    | (go_at_call 8; (with_reducible refine (HM.out _ hB0).mono ?_); rintro e w1 ⟨rfl, b1⟩; have hB1 := below_then hB0 b1)
    | (go_at_call 9; (with_reducible refine (lives_wn _ (hw.on hB1)).mono ?_); rintro e w2 ⟨rfl, b2⟩))
  go_ret
  exact ⟨rfl, below_then hB1 b2⟩
set_option maxRecDepth 100000 in
set_option maxHeartbeats 4000000 in
theorem windowsOver_yes (c : Cf) (x0 x1 x2 : Int) (w : World) (hw : Laid2 w) (hc : CfIn w c) (hg : greatB c = false) (h0 : newE c = 0)
    (h00 : 0 ≤ x0) (h01 : x0 ≤ 255) (h10 : 0 ≤ x1) (h11 : x1 ≤ 255) (h20 : 0 ≤ x2) (h21 : x2 ≤ 255) :
    Calls Tryd.prog 6 #[.agg #[.int .i64 c.N, .slice c.pA c.pn c.pc, .slice c.sA c.sn c.sc, .int .i64 c.L, .slice c.bA c.bn c.bc, .slice c.tA c.tn c.tc, .int .i64 c.M, .int .i64 c.G, .int .i64 c.F], .agg #[.int .u8 x0, .int .u8 x1, .int .u8 x2]] w fun e w' => e = .returned (.bool true) ∧ Below w.heap.size w w' := by
  have hB0 : Below w.heap.size w ((w.alloc (.cells #[.int .i64 c.N, .slice c.pA c.pn c.pc, .slice c.sA c.sn c.sc, .int .i64 c.L, .slice c.bA c.bn c.bc, .slice c.tA c.tn c.tc, .int .i64 c.M, .int .i64 c.G, .int .i64 c.F] 25)).alloc (.cells #[.int .u8 x0, .int .u8 x1, .int .u8 x2] 57)) := below_al (below_al (Below.refl w.heap.size w) (.cells #[.int .i64 c.N, .slice c.pA c.pn c.pc, .slice c.sA c.sn c.sc, .int .i64 c.L, .slice c.bA c.bn c.bc, .slice c.tA c.tn c.tc, .int .i64 c.M, .int .i64 c.G, .int .i64 c.F] 25)) (.cells #[.int .u8 x0, .int .u8 x1, .int .u8 x2] 57)
  have HC0 := Lib.hid ((Blk.new w 25 #[.int .i64 c.N, .slice c.pA c.pn c.pc, .slice c.sA c.sn c.sc, .int .i64 c.L, .slice c.bA c.bn c.bc, .slice c.tA c.tn c.tc, .int .i64 c.M, .int .i64 c.G, .int .i64 c.F]).alloc (.cells #[.int .u8 x0, .int .u8 x1, .int .u8 x2] 57))
  have HT0 : Hid (Blk ((w.alloc (.cells #[.int .i64 c.N, .slice c.pA c.pn c.pc, .slice c.sA c.sn c.sc, .int .i64 c.L, .slice c.bA c.bn c.bc, .slice c.tA c.tn c.tc, .int .i64 c.M, .int .i64 c.G, .int .i64 c.F] 25)).alloc (.cells #[.int .u8 x0, .int .u8 x1, .int .u8 x2] 57)) (w.heap.size + 1) 57 #[.int .u8 x0, .int .u8 x1, .int .u8 x2]) := Lib.hid (by
    have h := Blk.new (w.alloc (.cells #[.int .i64 c.N, .slice c.pA c.pn c.pc, .slice c.sA c.sn c.sc, .int .i64 c.L, .slice c.bA c.bn c.bc, .slice c.tA c.tn c.tc, .int .i64 c.M, .int .i64 c.G, .int .i64 c.F] 25)) 57 #[.int .u8 x0, .int .u8 x1, .int .u8 x2]
    rwa [alloc_size] at h)
  have HW0 := Lib.hid (hw.on hB0)
  have HIN0 := Lib.hid (hc.on hB0)
  have HB0 := Lib.hid hB0
  have HG := Lib.hid hg
  have H0 := Lib.hid h0
  have ok := newE_ok.1 h0
  have hp2 := ok.pairs.1
  have hp8 := ok.pairs.2
  have hN4 := ok.nodes.1
  have hN16 := ok.nodes.2
  have hL1 := ok.long.1
  have hL2 := ok.long.2
  have hpl := hc.p.len
  have ho := tmod_in (n := (c.pn : Int)) h00 (by omega)
  have hp := tmod_in (n := (c.pn : Int)) h10 (by omega)
  have hx := tmod_in (n := c.N) h20 (by omega)
  obtain ⟨o, eo⟩ : ∃ o, o = x0.tmod (c.pn : Int) := ⟨_, rfl⟩
  obtain ⟨p, ep⟩ : ∃ p, p = x1.tmod (c.pn : Int) := ⟨_, rfl⟩
  obtain ⟨x, ex⟩ : ∃ x, x = x2.tmod c.N := ⟨_, rfl⟩
  rw [← eo] at ho
  rw [← ep] at hp
  rw [← ex] at hx
  have HA := Lib.hid (show ∀ d : Int, d = 0 ∨ d = 1 → ∃ k f, atM c.P o = f ∧ 0 ≤ f ∧ f < c.N ∧ placeM c.N d f x = k ∧ 0 ≤ k ∧ k < c.N ∧ ofW c.N c.P d o x = wnM k ∧ ofWE c.N c.P d o x = 0 from fun d hd => of_ok h0 hpl hd ho hx)
  have HBB := Lib.hid (show ∀ d : Int, d = 0 ∨ d = 1 → ∃ k f, atM c.P p = f ∧ 0 ≤ f ∧ f < c.N ∧ placeM c.N d f x = k ∧ 0 ≤ k ∧ k < c.N ∧ ofW c.N c.P d p x = wnM k ∧ ofWE c.N c.P d p x = 0 from fun d hd => of_ok h0 hpl hd hp hx)
  have HI := Lib.hid (show ∀ d y : Int, d = 0 ∨ d = 1 → 0 ≤ y ∧ y < c.N → ∃ k f, atM c.P o = f ∧ 0 ≤ f ∧ f < c.N ∧ placeM c.N d f y = k ∧ 0 ≤ k ∧ k < c.N ∧ ofW c.N c.P d o y = wnM k ∧ ofWE c.N c.P d o y = 0 from fun d y hd hy => of_ok h0 hpl hd ho hy)
  have HO : Hid (ovM c.N = c.N + 114) := Lib.hid (by rw [ovM, if_neg (by omega)])
  have m1 : x0.tmod (c.pn : Int) = o := eo.symm
  have m2 : x1.tmod (c.pn : Int) = p := ep.symm
  have m3 : x2.tmod c.N = x := ex.symm
  have u1 : IntKind.i64.wrap o = o := IntWalk.i64_in _ (by omega)
  have u2 : IntKind.i64.wrap p = p := IntWalk.i64_in _ (by omega)
  have u3 : IntKind.i64.wrap x = x := IntWalk.i64_in _ (by omega)
  have n1 : (c.pn : Int) ≠ 0 := by omega
  have n2 : ((c.pn : Int) == 0) = false := beq_eq_false_iff_ne.2 n1
  have n3 : c.N ≠ 0 := by omega
  have n4 : (c.N == 0) = false := beq_eq_false_iff_ne.2 n3
  have u4 : IntKind.i64.wrap (c.L - 2) = c.L - 2 := IntWalk.i64_in _ (by omega)
  have v1 : decide (c.L - 2 < c.N + 114) = false := decide_eq_false (by omega)
  clear eo ep ex ho hp hx hw hc hg h0 ok hpl hB0
  go_enter Tryd.func6, Tryd.ntmps6
  go_wp2_with (first
    | (go_at_call 8; (with_reducible refine (netWn c _ HW0.out HIN0.out HG.out H0.out).mono ?_); rintro e w1 ⟨gN, rfl, hN1, b1⟩; have hB1 := below_then HB0.out b1; have hW1 := HW0.out.on b1; have hC1 := HC0.out.on b1; have hT1 := HT0.out.on b1; have t0 := hT1.cell 0; have t1 := hT1.cell 1; have t2 := hT1.cell 2; have tl := hT1.lt; simp only [List.getElem?_toArray, List.getElem?_cons_zero, List.getElem?_cons_succ] at t0 t1 t2; obtain ⟨k0, k1, k2, k3, k4, k5, k6, k7, k8⟩ := hC1.cf; have kl := hC1.lt)
    | (go_at_call 18; (with_reducible refine (winOver_is _ c.N c.P (c.N + 114) HO.out w1 hN1 hW1).mono ?_); rintro e w2 ⟨rfl, b2⟩; clear k0 k1 k2 k3 k4 k5 k6 k7 k8 kl t0 t1 t2 tl; have hT2 := hT1.on b2; have hN2 := hN1.on b2; have hW2 := hW1.on b2; have hC2 := hC1.on b2; have hB2 := below_then hB1 b2; obtain ⟨k0, k1, k2, k3, k4, k5, k6, k7, k8⟩ := hC2.cf; have kl := hC2.lt))
  clear k0 k1 k2 k3 k4 k5 k6 k7 k8 kl hT1 hN1 hW1 hC1 hB1 b2 b1
  obtain ⟨gC, hgC⟩ : ∃ gC, gC = w.heap.size := ⟨_, rfl⟩
  rw [← hgC] at hC2 hT2 ⊢
  clear hgC
  go_loopw [8] (fun s8 wr => ∃ d : Int, 0 ≤ d ∧ d ≤ 2 ∧ s8 = .int .u8 d ∧ Blk wr (gC + 1) 57 #[.int .u8 x0, .int .u8 x1, .int .u8 x2] ∧ Blk wr gC 25 #[.int .i64 c.N, .slice c.pA c.pn c.pc, .slice c.sA c.sn c.sc, .int .i64 c.L, .slice c.bA c.bn c.bc, .slice c.tA c.tn c.tc, .int .i64 c.M, .int .i64 c.G, .int .i64 c.F] ∧ NetP wr (.pointer (some ⟨gN, 0, none⟩)) c.N c.P ∧ Laid2 wr ∧ Below w.heap.size w wr) (fun s8 _ => (2 - intOf s8).toNat)
  case atStart => exact ⟨0, by omega, by omega, rfl, hT2, hC2, hN2, hW2, hB2⟩
  case round =>
    clear hT2 hC2 hN2 hW2 hB2
    obtain ⟨d, d0, d2, rfl, hT, hC, hN, hW, hB⟩ := hrel
    by_cases hd1 : d ≤ 1
    · obtain ⟨ka, f, hf, hf0, hf1, hka, ka0, ka1, hWa, hEa⟩ := HA.out d (by omega)
      obtain ⟨kb, f', -, -, -, -, kb0, kb1, hWb, hEb⟩ := HBB.out d (by omega)
      obtain ⟨ra, hra⟩ : ∃ ra, ra = roleM ka := ⟨_, rfl⟩
      obtain ⟨rb, hrb⟩ : ∃ rb, rb = roleM kb := ⟨_, rfl⟩
      have HWA : Hid (ofW c.N c.P d o x = ⟨ra, ka, 1 + ka, 1 + ka + 114⟩) := Lib.hid (by rw [hWa, hra]; rfl)
      have HWB : Hid (ofW c.N c.P d p x = ⟨rb, kb, 1 + kb, 1 + kb + 114⟩) := Lib.hid (by rw [hWb, hrb]; rfl)
      have HEA := Lib.hid hEa
      have HEB := Lib.hid hEb
      have HF := Lib.hid hf
      have HFB := Lib.hid (show 4 ≤ c.N ∧ c.N ≤ 16 ∧ 0 ≤ d ∧ d < 2 ∧ 0 ≤ f ∧ f < c.N by omega)
      have v2 : decide (c.N + 114 < 1 + ka + 114) = false := decide_eq_false (by omega)
      have u5 : IntKind.i64.wrap (c.L + (1 + kb)) = c.L + (1 + kb) := IntWalk.i64_in _ (by omega)
      have u6 : IntKind.i64.wrap (c.L + (1 + kb) - (1 + ka + 114)) = c.L + (1 + kb) - (1 + ka + 114) := IntWalk.i64_in _ (by omega)
      have v3 : decide (c.L + (1 + kb) - (1 + ka + 114) < 2) = false := decide_eq_false (by omega)
      clear hWa hEa hWb hEb hra hrb hf hf0 hf1 hka
      have t0 := hT.cell 0
      have tl := hT.lt
      simp only [List.getElem?_toArray, List.getElem?_cons_zero] at t0
      obtain ⟨k0, k1, k2, k3, k4, k5, k6, k7, k8⟩ := hC.cf
      have kl := hC.lt
      go_wp2_with (first
        | (go_at_call 10; (with_reducible refine (winOf_is _ c.N c.P d o x ⟨ra, ka, 1 + ka, 1 + ka + 114⟩ HWA.out 0 HEA.out wr hN hW d0 (by omega)).mono ?_); rintro e w3 ⟨rfl, b3⟩; clear k0 k1 k2 k3 k4 k5 k6 k7 k8 kl t0 tl; have b3' := below_al b3 (.cells #[.int .u8 ra, .int .i64 ka, .int .i64 (1 + ka), .int .i64 (1 + ka + 114)] 33); have hX3 := Blk.new w3 33 #[.int .u8 ra, .int .i64 ka, .int .i64 (1 + ka), .int .i64 (1 + ka + 114)]; have hT3 := hT.on b3'; have hC3 := hC.on b3'; have t1 := hT3.cell 1; have tl := hT3.lt; simp only [List.getElem?_toArray, List.getElem?_cons_zero, List.getElem?_cons_succ] at t1; obtain ⟨k0, k1, k2, k3, k4, k5, k6, k7, k8⟩ := hC3.cf; have kl := hC3.lt)
        | (go_at_call 10; (with_reducible refine (winOf_is _ c.N c.P d p x ⟨rb, kb, 1 + kb, 1 + kb + 114⟩ HWB.out 0 HEB.out _ (hN.on b3') (hW.on b3') d0 (by omega)).mono ?_); rintro e w4 ⟨rfl, b4⟩; clear k0 k1 k2 k3 k4 k5 k6 k7 k8 kl t1 tl; have b4' := below_al b4 (.cells #[.int .u8 rb, .int .i64 kb, .int .i64 (1 + kb), .int .i64 (1 + kb + 114)] 33); have hY4 := Blk.new w4 33 #[.int .u8 rb, .int .i64 kb, .int .i64 (1 + kb), .int .i64 (1 + kb + 114)]; have hX4 := hX3.on b4'; have hT4 := hT3.on b4'; have hC4 := hC3.on b4'; have b34 := below_then b3' b4'; have y0 := hX4.cell 0; have y1 := hX4.cell 1; have y2 := hX4.cell 2; have y3 := hX4.cell 3; have yl := hX4.lt; have z0 := hY4.cell 0; have z1 := hY4.cell 1; have z2 := hY4.cell 2; have z3 := hY4.cell 3; have zl := hY4.lt; simp only [List.getElem?_toArray, List.getElem?_cons_zero, List.getElem?_cons_succ] at y0 y1 y2 y3 z0 z1 z2 z3; obtain ⟨k0, k1, k2, k3, k4, k5, k6, k7, k8⟩ := hC4.cf; have kl := hC4.lt))
      have hN4' := hN.on b34
      have hW4 := hW.on b34
      have hB4 := below_then hB b34
      clear k0 k1 k2 k3 k4 k5 k6 k7 k8 kl y0 y1 y2 y3 yl z0 z1 z2 z3 zl hX3 hX4 hY4 hT3 hC3 hT hC hN hW hB b3 b4 b3' b4' b34
      obtain ⟨w5, hw5⟩ : ∃ w5, w5 = w4.alloc (.cells #[.int .u8 rb, .int .i64 kb, .int .i64 (1 + kb), .int .i64 (1 + kb + 114)] 33) := ⟨_, rfl⟩
      rw [← hw5] at hN4' hW4 hB4 hT4 hC4 ⊢
      clear hw5
      go_loopw [13, 14] (fun s13 s14 wr => ∃ i last : Int, 0 ≤ i ∧ i ≤ c.N ∧ 0 ≤ last ∧ last ≤ 1000 ∧ s13 = .int .i64 last ∧ s14 = .int .i64 i ∧ Hid (LastW c.N d f i last) ∧ Blk wr (gC + 1) 57 #[.int .u8 x0, .int .u8 x1, .int .u8 x2] ∧ Blk wr gC 25 #[.int .i64 c.N, .slice c.pA c.pn c.pc, .slice c.sA c.sn c.sc, .int .i64 c.L, .slice c.bA c.bn c.bc, .slice c.tA c.tn c.tc, .int .i64 c.M, .int .i64 c.G, .int .i64 c.F] ∧ NetP wr (.pointer (some ⟨gN, 0, none⟩)) c.N c.P ∧ Laid2 wr ∧ Below w.heap.size w wr) (fun _ s14 _ => (c.N - intOf s14).toNat)
      case atStart => exact ⟨0, 0, by omega, by omega, by omega, by omega, rfl, rfl, Lib.hid (last_none _ _ _), hT4, hC4, hN4', hW4, hB4⟩
      case round =>
        clear hT4 hC4 hN4' hW4 hB4
        obtain ⟨i, last, i0, iN, l0, l1, rfl, rfl, HL, hT, hC, hN, hW, hB⟩ := hrel
        obtain ⟨k0, k1, k2, k3, k4, k5, k6, k7, k8⟩ := hC.cf
        have kl := hC.lt
        by_cases hi : i < c.N
        · obtain ⟨k, f2, hf2, -, -, hk, kk0, kk1, hWi, hEi⟩ := HI.out d i (by omega) ⟨i0, hi⟩
          obtain rfl : f2 = f := hf2.symm.trans HF.out
          obtain ⟨r, hr⟩ : ∃ r, r = roleM k := ⟨_, rfl⟩
          have HWI : Hid (ofW c.N c.P d o i = ⟨r, k, 1 + k, 1 + k + 114⟩) := Lib.hid (by rw [hWi, hr]; rfl)
          have HEI := Lib.hid hEi
          have HL2 := Lib.hid (last_next HL.out i0 hk)
          clear hf2 hk hWi hEi hr
          have t0 := hT.cell 0
          have tl := hT.lt
          simp only [List.getElem?_toArray, List.getElem?_cons_zero] at t0
          go_wp2_with (go_at_call 10; (with_reducible refine (winOf_is _ c.N c.P d o i ⟨r, k, 1 + k, 1 + k + 114⟩ HWI.out 0 HEI.out wr hN hW d0 (by omega)).mono ?_); rintro e w6 ⟨rfl, b6⟩; clear k0 k1 k2 k3 k4 k5 k6 k7 k8 kl t0 tl; have b6' := below_al b6 (.cells #[.int .u8 r, .int .i64 k, .int .i64 (1 + k), .int .i64 (1 + k + 114)] 33); have hX6 := Blk.new w6 33 #[.int .u8 r, .int .i64 k, .int .i64 (1 + k), .int .i64 (1 + k + 114)]; have y3 := hX6.cell 3; have yl := hX6.lt; simp only [List.getElem?_toArray, List.getElem?_cons_zero, List.getElem?_cons_succ] at y3)
          go_roundw
          case rel => exact ⟨i + 1, max last (1 + k + 114), by omega, by omega, by omega, by omega, rfl, rfl, HL2, hT.on b6', hC.on b6', hN.on b6', hW.on b6', below_then hB b6'⟩
          case measure => simp [intOf]; omega
        · obtain rfl : i = c.N := by omega
          obtain rfl : last = c.N + 114 := last_all HFB.out HL.out
          go_wp2_with fail
          go_roundw
          case rel => exact ⟨d + 1, by omega, by omega, rfl, hT, hC, hN, hW, hB⟩
          case measure => simp [intOf]; omega
    · go_wp2_with (go_at_call 9; (with_reducible refine (lives_wn _ hW).mono ?_); rintro e w9 ⟨rfl, b9⟩)
      go_ret
      exact ⟨rfl, below_then hB b9⟩
theorem windowsOver_walk (c : Cf) (x0 x1 x2 : Int) (w : World) (hw : Laid2 w) (hr : CfRaw w c) (h0 : (Lit.int .u8 x0).wf = true) (h1 : (Lit.int .u8 x1).wf = true) (h2 : (Lit.int .u8 x2).wf = true) :
    Calls Tryd.prog 6 #[.agg #[.int .i64 c.N, .slice c.pA c.pn c.pc, .slice c.sA c.sn c.sc, .int .i64 c.L, .slice c.bA c.bn c.bc, .slice c.tA c.tn c.tc, .int .i64 c.M, .int .i64 c.G, .int .i64 c.F], .agg #[.int .u8 x0, .int .u8 x1, .int .u8 x2]] w fun e w' => e = .returned (.bool true) ∧ Below w.heap.size w w' := by
  have q0 := bounds_u8 h0
  have q1 := bounds_u8 h1
  have q2 := bounds_u8 h2
  rcases raw_cases hr with hn | ⟨hc, hg, h0⟩
  · exact windowsOver_none c x0 x1 x2 w hw hn
  · exact windowsOver_yes c x0 x1 x2 w hw hc hg h0 q0.1 q0.2 q1.1 q1.2 q2.1 q2.2
end Go.Proofs.YtajkpbmjgncbbaaDoor

