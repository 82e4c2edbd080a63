/-
  The law WindowsMeet, walked: what a source sends while its window is open is there while the node's own is, at the same tick; each node has a window each way: true; nothing that was there has turned. Conditions: the config's reading; both tables are as the program's text lays them.
-/
import Derived.Test.YtajkpbmjgncbbaaDoorWn4
import Derived.Test.YtajkpbmjgncbbaaDoorCfH
namespace Go.Proofs.YtajkpbmjgncbbaaDoor
open Go.RowKit Rg
set_option linter.unusedVariables false

theorem source_any_is (n d x h p : Int) (hp : sourceM n d x h = p) (w : World) (hw : Ways w) (hd : 0 ≤ d) (hd' : d ≤ 255) :
    Calls Tryd.prog 20 #[.int .i64 n, .int .u8 d, .int .i64 x, .int .i64 h] w fun e w' => e = .returned (.int .i64 p) ∧ Below w.heap.size w w' := by
  subst hp; exact source_any n d x h w hw hd hd'
/-- Of a config that may be: a node's window in a slot of a pair. -/
theorem of_ok {c : Cf} (h0 : newE c = 0) (hl : c.P.length = c.pn) {d o x : Int} (hd : d = 0 ∨ d = 1) (ho : 0 ≤ o ∧ o < c.pn) (hx : 0 ≤ x ∧ x < c.N) :
    ∃ k f, atM c.P o = f ∧ 0 ≤ f ∧ f < c.N ∧ placeM c.N d f x = k ∧ 0 ≤ k ∧ k < c.N ∧ ofW c.N c.P d o x = wnM k ∧ ofWE c.N c.P d o x = 0 := by
  have ok := newE_ok.1 h0
  have hN := ok.nodes
  have hf : 0 ≤ atM c.P o ∧ atM c.P o < c.N := by
    obtain ⟨q, rfl⟩ : ∃ q : Nat, o = q := ⟨o.toNat, by omega⟩
    rw [atM_nat c.P q (by omega)]
    exact okP_at ok.okP q (by omega)
  have hp := pl_of (N := c.N) (P := c.P) (d := d) (o := o) (x := x) rfl ⟨hN.1, hN.2, by omega, by omega, hf.1, hf.2, hx.1, hx.2⟩
  have hy := of_yes (N := c.N) (P := c.P) (d := d) (o := o) (x := x) (by omega) rfl (by omega)
  exact ⟨_, _, rfl, hf.1, hf.2, hp.1.symm, hp.2.1, hp.2.2, hy.1, hy.2⟩
theorem tmod_in {x n : Int} (h0 : 0 ≤ x) (hn : 0 < n) : 0 ≤ x.tmod n ∧ x.tmod n < n := by
  rw [Int.tmod_eq_emod_of_nonneg h0]
  exact mod_bd x n hn

theorem windowsMeet_none (c : Cf) (x0 x1 x2 : Int) (ccw : Bool) (w : World) (hw : Laid2 w) (HN : ∀ u, Below w.heap.size w u → Calls Tryd.prog 8 #[.agg #[.int .i64 c.N, .slice c.pA c.pn c.pc, .slice c.sA c.sn c.sc, .int .i64 c.L, .slice c.bA c.bn c.bc, .slice c.tA c.tn c.tc, .int .i64 c.M, .int .i64 c.G, .int .i64 c.F]] u fun e w' => e = .returned (.pointer none) ∧ Below u.heap.size u w') :
    Calls Tryd.prog 5 #[.agg #[.int .i64 c.N, .slice c.pA c.pn c.pc, .slice c.sA c.sn c.sc, .int .i64 c.L, .slice c.bA c.bn c.bc, .slice c.tA c.tn c.tc, .int .i64 c.M, .int .i64 c.G, .int .i64 c.F], .agg #[.int .u8 x0, .int .u8 x1, .int .u8 x2], .bool ccw] w fun e w' => e = .returned (.bool true) ∧ Below w.heap.size w w' := by
  have hB0 : Below w.heap.size w ((w.alloc (.cells #[.int .i64 c.N, .slice c.pA c.pn c.pc, .slice c.sA c.sn c.sc, .int .i64 c.L, .slice c.bA c.bn c.bc, .slice c.tA c.tn c.tc, .int .i64 c.M, .int .i64 c.G, .int .i64 c.F] 25)).alloc (.cells #[.int .u8 x0, .int .u8 x1, .int .u8 x2] 57)) := below_al (below_al (Below.refl w.heap.size w) (.cells #[.int .i64 c.N, .slice c.pA c.pn c.pc, .slice c.sA c.sn c.sc, .int .i64 c.L, .slice c.bA c.bn c.bc, .slice c.tA c.tn c.tc, .int .i64 c.M, .int .i64 c.G, .int .i64 c.F] 25)) (.cells #[.int .u8 x0, .int .u8 x1, .int .u8 x2] 57)
  have HM := Lib.hid HN
  clear HN
  go_enter Tryd.func5, Tryd.ntmps5
  go_wp2_with (first
    | (go_at_call 8; (with_reducible refine (HM.out _ hB0).mono ?_); rintro e w1 ⟨rfl, b1⟩; have hB1 := below_then hB0 b1)
    | (go_at_call 9; (with_reducible refine (lives_wn _ (hw.on hB1)).mono ?_); rintro e w2 ⟨rfl, b2⟩))
  go_ret
  exact ⟨rfl, below_then hB1 b2⟩
set_option maxRecDepth 100000 in
set_option maxHeartbeats 4000000 in
theorem windowsMeet_yes (c : Cf) (x0 x1 x2 : Int) (ccw : Bool) (d : Int) (hdc : (d = 0 ∧ ccw = false) ∨ (d = 1 ∧ ccw = true)) (w : World) (hw : Laid2 w) (hc : CfIn w c) (hg : greatB c = false) (h0 : newE c = 0)
    (h00 : 0 ≤ x0) (h01 : x0 ≤ 255) (h10 : 0 ≤ x1) (h11 : x1 ≤ 255) (h20 : 0 ≤ x2) (h21 : x2 ≤ 255) :
    Calls Tryd.prog 5 #[.agg #[.int .i64 c.N, .slice c.pA c.pn c.pc, .slice c.sA c.sn c.sc, .int .i64 c.L, .slice c.bA c.bn c.bc, .slice c.tA c.tn c.tc, .int .i64 c.M, .int .i64 c.G, .int .i64 c.F], .agg #[.int .u8 x0, .int .u8 x1, .int .u8 x2], .bool ccw] w fun e w' => e = .returned (.bool true) ∧ Below w.heap.size w w' := by
  have hB0 : Below w.heap.size w ((w.alloc (.cells #[.int .i64 c.N, .slice c.pA c.pn c.pc, .slice c.sA c.sn c.sc, .int .i64 c.L, .slice c.bA c.bn c.bc, .slice c.tA c.tn c.tc, .int .i64 c.M, .int .i64 c.G, .int .i64 c.F] 25)).alloc (.cells #[.int .u8 x0, .int .u8 x1, .int .u8 x2] 57)) := below_al (below_al (Below.refl w.heap.size w) (.cells #[.int .i64 c.N, .slice c.pA c.pn c.pc, .slice c.sA c.sn c.sc, .int .i64 c.L, .slice c.bA c.bn c.bc, .slice c.tA c.tn c.tc, .int .i64 c.M, .int .i64 c.G, .int .i64 c.F] 25)) (.cells #[.int .u8 x0, .int .u8 x1, .int .u8 x2] 57)
  have HC0 := Lib.hid ((Blk.new w 25 #[.int .i64 c.N, .slice c.pA c.pn c.pc, .slice c.sA c.sn c.sc, .int .i64 c.L, .slice c.bA c.bn c.bc, .slice c.tA c.tn c.tc, .int .i64 c.M, .int .i64 c.G, .int .i64 c.F]).alloc (.cells #[.int .u8 x0, .int .u8 x1, .int .u8 x2] 57))
  have HT0 : Hid (Blk ((w.alloc (.cells #[.int .i64 c.N, .slice c.pA c.pn c.pc, .slice c.sA c.sn c.sc, .int .i64 c.L, .slice c.bA c.bn c.bc, .slice c.tA c.tn c.tc, .int .i64 c.M, .int .i64 c.G, .int .i64 c.F] 25)).alloc (.cells #[.int .u8 x0, .int .u8 x1, .int .u8 x2] 57)) (w.heap.size + 1) 57 #[.int .u8 x0, .int .u8 x1, .int .u8 x2]) := Lib.hid (by
    have h := Blk.new (w.alloc (.cells #[.int .i64 c.N, .slice c.pA c.pn c.pc, .slice c.sA c.sn c.sc, .int .i64 c.L, .slice c.bA c.bn c.bc, .slice c.tA c.tn c.tc, .int .i64 c.M, .int .i64 c.G, .int .i64 c.F] 25)) 57 #[.int .u8 x0, .int .u8 x1, .int .u8 x2]
    rwa [alloc_size] at h)
  have HW0 := Lib.hid (hw.on hB0)
  have HIN0 := Lib.hid (hc.on hB0)
  have HB0 := Lib.hid hB0
  have HG := Lib.hid hg
  have H0 := Lib.hid h0
  have ok := newE_ok.1 h0
  have hp2 := ok.pairs.1
  have hp8 := ok.pairs.2
  have hN4 := ok.nodes.1
  have hN16 := ok.nodes.2
  have hpl := hc.p.len
  have ho := tmod_in (n := (c.pn : Int)) h00 (by omega)
  have hx := tmod_in (n := c.N) h10 (by omega)
  have hi := tmod_in (n := 114) h20 (by omega)
  obtain ⟨o, eo⟩ : ∃ o, o = x0.tmod (c.pn : Int) := ⟨_, rfl⟩
  obtain ⟨x, ex⟩ : ∃ x, x = x1.tmod c.N := ⟨_, rfl⟩
  obtain ⟨i, ei⟩ : ∃ i, i = x2.tmod 114 := ⟨_, rfl⟩
  rw [← eo] at ho
  rw [← ex] at hx
  rw [← ei] at hi
  have hdd : d = 0 ∨ d = 1 := by rcases hdc with ⟨rfl, _⟩ | ⟨rfl, _⟩ <;> simp
  obtain ⟨k, f, hf, hf0, hf1, hk, hk0, hk1, hW, hE⟩ := of_ok h0 hpl (d := d) (o := o) (x := x) hdd ho hx
  have hb0 := fun t ht (htk : t ≤ k) => place_back (n := c.N) (d := d) (f := f) (x := x) (t := t) ⟨hN4, hN16, by omega, by omega, hf0, hf1, hx.1, hx.2⟩ ht (by omega)
  have HBK := Lib.hid (show ∀ t : Int, t = 1 ∨ t = 2 → t ≤ k → ∃ y, sourceM c.N d x t = y ∧ ofW c.N c.P d o y = wnM (k - t) ∧ ofWE c.N c.P d o y = 0 from fun t ht htk => by
    have hb := hb0 t ht htk
    rw [hk] at hb
    refine ⟨_, rfl, ?_⟩
    exact of_yes (by omega) (by rw [plM, hf, hb]) (by omega))
  have HW := Lib.hid hW
  have HE := Lib.hid hE
  obtain ⟨r, hr⟩ : ∃ r, r = roleM k := ⟨_, rfl⟩
  have HWM : Hid (ofW c.N c.P d o x = ⟨r, k, 1 + k, 1 + k + 114⟩) := Lib.hid (by rw [hW, hr]; rfl)
  have i0 : 0 ≤ i := hi.1
  have i1 : i < 114 := hi.2
  have HI0 := Lib.hid i0
  have HI1 := Lib.hid i1
  have HFit : Hid (WnFit ⟨r, k, 1 + k, 1 + k + 114⟩) := Lib.hid ⟨by simp only; omega, by simp only; omega, by simp only; omega, by simp only; omega⟩
  have HAI : Hid (opI ⟨r, k, 1 + k, 1 + k + 114⟩ (1 + k + i) = i) := Lib.hid (by
    have : opB ⟨r, k, 1 + k, 1 + k + 114⟩ (1 + k + i) = true := by simp only [opB, decide_eq_true_eq]; omega
    rw [opI, if_pos this]; simp only; omega)
  have HAB : Hid (opB ⟨r, k, 1 + k, 1 + k + 114⟩ (1 + k + i) = true) := Lib.hid (by simp only [opB, decide_eq_true_eq]; omega)
  have HP1 : Hid (passM ⟨r, k, 1 + k, 1 + k + 114⟩ (1 + k + i) 2 = 2) := Lib.hid (by rw [passM, if_pos HAB.out])
  have HP2 : Hid (passM ⟨r, k, 1 + k, 1 + k + 114⟩ k 2 = 0) := Lib.hid (by rw [passM, if_neg]; simp only [opB, decide_eq_true_eq]; omega)
  have HP3 : Hid (passM ⟨r, k, 1 + k, 1 + k + 114⟩ (1 + k + 114) 2 = 0) := Lib.hid (by rw [passM, if_neg]; simp only [opB, decide_eq_true_eq]; omega)
  have m1 : x0.tmod (c.pn : Int) = o := eo.symm
  have m2 : x1.tmod c.N = x := ex.symm
  have m3 : x2.tmod 114 = i := ei.symm
  have u1 : IntKind.i64.wrap o = o := IntWalk.i64_in _ (by omega)
  have u2 : IntKind.i64.wrap x = x := IntWalk.i64_in _ (by omega)
  have u3 : IntKind.i64.wrap i = i := IntWalk.i64_in _ (by omega)
  have n1 : (c.pn : Int) ≠ 0 := by omega
  have n2 : ((c.pn : Int) == 0) = false := beq_eq_false_iff_ne.2 n1
  have n3 : c.N ≠ 0 := by omega
  have n4 : (c.N == 0) = false := beq_eq_false_iff_ne.2 n3
  have u4 : IntKind.i64.wrap (1 + k + 114 - (1 + k)) = 114 := by rw [show 1 + k + 114 - (1 + k) = 114 by omega]; rfl
  have u5 : IntKind.i64.wrap (1 + k + i) = 1 + k + i := IntWalk.i64_in _ (by omega)
  have u6 : IntKind.i64.wrap (1 + k - 1) = k := by rw [show 1 + k - 1 = k by omega]; exact IntWalk.i64_in _ (by omega)
  have v1 : decide (1 + k < 1) = false := decide_eq_false (by omega)
  clear hb0 hW hE hr eo ex ei ho hx hi hf hf0 hf1 hk hw hc hg h0 ok hpl hB0 hdd
  rcases hdc with ⟨rfl, rfl⟩ | ⟨rfl, rfl⟩
  all_goals
    go_enter Tryd.func5, Tryd.ntmps5
    go_wp2_with (first
      | (go_at_call 8; (with_reducible refine (netWn c _ HW0.out HIN0.out HG.out H0.out).mono ?_); rintro e w1 ⟨gN, rfl, hN1, b1⟩; have hB1 := below_then HB0.out b1; have hW1 := HW0.out.on b1; have hC1 := HC0.out.on b1; have hT1 := HT0.out.on b1; have t0 := hT1.cell 0; have t1 := hT1.cell 1; have t2 := hT1.cell 2; have tl := hT1.lt; simp only [List.getElem?_toArray, List.getElem?_cons_zero, List.getElem?_cons_succ] at t0 t1 t2; obtain ⟨k0, k1, k2, k3, k4, k5, k6, k7, k8⟩ := hC1.cf; have kl := hC1.lt)
      | (go_at_call 10; (with_reducible refine (winOf_is _ c.N c.P _ o x ⟨r, k, 1 + k, 1 + k + 114⟩ HWM.out 0 HE.out w1 hN1 hW1 (by decide) (by decide)).mono ?_); rintro e w2 ⟨rfl, b2⟩; clear k0 k1 k2 k3 k4 k5 k6 k7 k8 kl t0 t1 t2 tl hT1; have b2' := below_al b2 (.cells #[.int .u8 r, .int .i64 k, .int .i64 (1 + k), .int .i64 (1 + k + 114)] 33); have hX2 := Blk.new w2 33 #[.int .u8 r, .int .i64 k, .int .i64 (1 + k), .int .i64 (1 + k + 114)]; have hN2 := hN1.on b2'; have hW2 := hW1.on b2'; have hC2 := hC1.on b2'; have hB2 := below_then hB1 b2'; clear b2 b2' hB1 hN1 hW1 hC1; have y0 := hX2.cell 0; have y1 := hX2.cell 1; have y2 := hX2.cell 2; have y3 := hX2.cell 3; have yl := hX2.lt; simp only [List.getElem?_toArray, List.getElem?_cons_zero, List.getElem?_cons_succ] at y0 y1 y2 y3)
      | (go_at_call 13; (with_reducible refine (winAt_is ⟨r, k, 1 + k, 1 + k + 114⟩ (1 + k + i) i HAI.out true HAB.out _ HFit.out).mono ?_); rintro e w3 ⟨rfl, b3⟩; clear y0 y1 y2 y3 yl; have hX3 := hX2.on b3; have B3 := below_then hB2 b3; have y0 := hX3.cell 0; have y1 := hX3.cell 1; have y2 := hX3.cell 2; have y3 := hX3.cell 3; have yl := hX3.lt; simp only [List.getElem?_toArray, List.getElem?_cons_zero, List.getElem?_cons_succ] at y0 y1 y2 y3)
      | (go_at_call 17; (with_reducible refine (winPass_is ⟨r, k, 1 + k, 1 + k + 114⟩ (1 + k + i) 2 2 HP1.out _ HFit.out).mono ?_); rintro e w4 ⟨rfl, b4⟩; clear y0 y1 y2 y3 yl; have hX4 := hX3.on b4; have y0 := hX4.cell 0; have y1 := hX4.cell 1; have y2 := hX4.cell 2; have y3 := hX4.cell 3; have yl := hX4.lt; simp only [List.getElem?_toArray, List.getElem?_cons_zero, List.getElem?_cons_succ] at y0 y1 y2 y3)
      | (go_at_call 17; (with_reducible refine (winPass_is ⟨r, k, 1 + k, 1 + k + 114⟩ k 2 0 HP2.out _ HFit.out).mono ?_); rintro e w5 ⟨rfl, b5⟩; clear y0 y1 y2 y3 yl; have hX5 := hX4.on b5; have y0 := hX5.cell 0; have y1 := hX5.cell 1; have y2 := hX5.cell 2; have y3 := hX5.cell 3; have yl := hX5.lt; simp only [List.getElem?_toArray, List.getElem?_cons_zero, List.getElem?_cons_succ] at y0 y1 y2 y3)
      | (go_at_call 17; (with_reducible refine (winPass_is ⟨r, k, 1 + k, 1 + k + 114⟩ (1 + k + 114) 2 0 HP3.out _ HFit.out).mono ?_); rintro e w6 ⟨rfl, b6⟩; have hX6 := hX5.on b6; have b36 := below_then (below_then (below_then b3 b4) b5) b6))
    have hN6 := hN2.on b36
    have hW6 := hW2.on b36
    have hC6 := hC2.on b36
    have hB6 := below_then hB2 b36
    clear hX2 hX3 hX4 hX5 y0 y1 y2 y3 yl b3 b4 b5 b6 b36 B3 hN2 hW2 hC2 hB2
    obtain ⟨gX, hgX⟩ : ∃ gX, gX = w2.heap.size := ⟨_, rfl⟩
    rw [← hgX] at hX6 ⊢
    obtain ⟨gC, hgC⟩ : ∃ gC, gC = w.heap.size := ⟨_, rfl⟩
    have HGC := Lib.hid hgC
    rw [← hgC] at hC6 ⊢
    clear hgX hgC
    go_loopw [16] (fun s16 wr => ∃ h : Int, 1 ≤ h ∧ h ≤ 3 ∧ s16 = .int .i64 h ∧ Blk wr gX 33 #[.int .u8 r, .int .i64 k, .int .i64 (1 + k), .int .i64 (1 + k + 114)] ∧ Blk wr gC 25 #[.int .i64 c.N, .slice c.pA c.pn c.pc, .slice c.sA c.sn c.sc, .int .i64 c.L, .slice c.bA c.bn c.bc, .slice c.tA c.tn c.tc, .int .i64 c.M, .int .i64 c.G, .int .i64 c.F] ∧ NetP wr (.pointer (some ⟨gN, 0, none⟩)) c.N c.P ∧ Laid2 wr ∧ Below w.heap.size w wr) (fun s16 _ => (3 - intOf s16).toNat)
    case atStart => exact ⟨1, by omega, by omega, rfl, hX6, hC6, hN6, hW6, hB6⟩
    case round =>
      clear hX6 hC6 hN6 hW6 hB6
      obtain ⟨h, hh1, hh3, rfl, hX, hC, hN, hW, hB⟩ := hrel
      by_cases hl2 : h ≤ 2
      · by_cases hlk : h ≤ k
        · obtain ⟨y, hs, hwy, hey⟩ := HBK.out h (by omega) hlk
          have HS := Lib.hid hs
          have HEY := Lib.hid hey
          obtain ⟨r2, hr2⟩ : ∃ r2, r2 = roleM (k - h) := ⟨_, rfl⟩
          have HWY : Hid (ofW c.N c.P _ o y = ⟨r2, k - h, 1 + (k - h), 1 + (k - h) + 114⟩) := Lib.hid (by rw [hwy, hr2]; rfl)
          have HF2 : Hid (WnFit ⟨r2, k - h, 1 + (k - h), 1 + (k - h) + 114⟩) := Lib.hid ⟨by simp only; omega, by simp only; omega, by simp only; omega, by simp only; omega⟩
          have HB2 : Hid (opB ⟨r2, k - h, 1 + (k - h), 1 + (k - h) + 114⟩ (1 + k + i - h) = true) := Lib.hid (by simp only [opB, decide_eq_true_eq]; omega)
          have HI2 : Hid (opI ⟨r2, k - h, 1 + (k - h), 1 + (k - h) + 114⟩ (1 + k + i - h) = i) := Lib.hid (by rw [opI, if_pos HB2.out]; simp only; omega)
          have u7 : IntKind.i64.wrap (1 + k + i - h) = 1 + k + i - h := IntWalk.i64_in _ (by omega)
          have u8 : IntKind.i64.wrap (k - h) = k - h := IntWalk.i64_in _ (by omega)
          have y0 := hX.cell 0
          have y1 := hX.cell 1
          have y2 := hX.cell 2
          have y3 := hX.cell 3
          have yl := hX.lt
          simp only [List.getElem?_toArray, List.getElem?_cons_zero, List.getElem?_cons_succ] at y0 y1 y2 y3
          obtain ⟨k0, k1, k2, k3, k4, k5, k6, k7, k8⟩ := hC.cf
          have kl := hC.lt
          clear hs hwy hey hr2
          go_wp2_with (first
            | (go_at_call 20; (with_reducible refine (source_any_is c.N _ x h y HS.out _ hW.ways (by decide) (by decide)).mono ?_); rintro e w7 ⟨rfl, b7⟩)
            | (go_at_call 10; (with_reducible refine (winOf_is _ c.N c.P _ o y ⟨r2, k - h, 1 + (k - h), 1 + (k - h) + 114⟩ HWY.out 0 HEY.out _ (hN.on b7) (hW.on b7) (by decide) (by decide)).mono ?_); rintro e w8 ⟨rfl, b8⟩; clear k0 k1 k2 k3 k4 k5 k6 k7 k8 kl y0 y1 y2 y3 yl; have b8' := below_al (below_then b7 b8) (.cells #[.int .u8 r2, .int .i64 (k - h), .int .i64 (1 + (k - h)), .int .i64 (1 + (k - h) + 114)] 33); have hX8 := hX.on b8'; have y0 := hX8.cell 0; have y1 := hX8.cell 1; have y2 := hX8.cell 2; have y3 := hX8.cell 3; have yl := hX8.lt; have hY8 := Blk.new w8 33 #[.int .u8 r2, .int .i64 (k - h), .int .i64 (1 + (k - h)), .int .i64 (1 + (k - h) + 114)]; have z0 := hY8.cell 0; have z1 := hY8.cell 1; have z2 := hY8.cell 2; have z3 := hY8.cell 3; have zl := hY8.lt; simp only [List.getElem?_toArray, List.getElem?_cons_zero, List.getElem?_cons_succ] at y0 y1 y2 y3 z0 z1 z2 z3)
            | (go_at_call 13; (with_reducible refine (winAt_is ⟨r2, k - h, 1 + (k - h), 1 + (k - h) + 114⟩ (1 + k + i - h) i HI2.out true HB2.out _ HF2.out).mono ?_); rintro e w9 ⟨rfl, b9⟩; clear y0 y1 y2 y3 yl z0 z1 z2 z3 zl; have hX9 := hX8.on b9; have hY9 := hY8.on b9; have y0 := hX9.cell 0; have y1 := hX9.cell 1; have y2 := hX9.cell 2; have y3 := hX9.cell 3; have yl := hX9.lt; have z0 := hY9.cell 0; have z1 := hY9.cell 1; have z2 := hY9.cell 2; have z3 := hY9.cell 3; have zl := hY9.lt; simp only [List.getElem?_toArray, List.getElem?_cons_zero, List.getElem?_cons_succ] at y0 y1 y2 y3 z0 z1 z2 z3))
          have b9' := below_then b8' b9
          go_roundw
          case rel => exact ⟨h + 1, by omega, by omega, rfl, hX9, hC.on b9', hN.on b9', hW.on b9', below_then hB b9'⟩
          case measure => simp [intOf]; omega
        · have dk : decide (h ≤ k) = false := decide_eq_false hlk
          have y1 := hX.cell 1
          have yl := hX.lt
          simp only [List.getElem?_toArray, List.getElem?_cons_zero, List.getElem?_cons_succ] at y1
          go_wp2_with (go_at_call 9; (with_reducible refine (lives_wn _ hW).mono ?_); rintro e w9 ⟨rfl, b9⟩)
          go_ret
          exact ⟨rfl, below_then hB b9⟩
      · have d2 : decide (h ≤ 2) = false := decide_eq_false hl2
        go_wp2_with (go_at_call 9; (with_reducible refine (lives_wn _ hW).mono ?_); rintro e w9 ⟨rfl, b9⟩)
        go_ret
        exact ⟨rfl, below_then hB b9⟩
theorem windowsMeet_walk (c : Cf) (x0 x1 x2 : Int) (ccw : Bool) (w : World) (hw : Laid2 w) (hr : CfRaw w c) (h0 : (Lit.int .u8 x0).wf = true) (h1 : (Lit.int .u8 x1).wf = true) (h2 : (Lit.int .u8 x2).wf = true) :
    Calls Tryd.prog 5 #[.agg #[.int .i64 c.N, .slice c.pA c.pn c.pc, .slice c.sA c.sn c.sc, .int .i64 c.L, .slice c.bA c.bn c.bc, .slice c.tA c.tn c.tc, .int .i64 c.M, .int .i64 c.G, .int .i64 c.F], .agg #[.int .u8 x0, .int .u8 x1, .int .u8 x2], .bool ccw] w fun e w' => e = .returned (.bool true) ∧ Below w.heap.size w w' := by
  have q0 := bounds_u8 h0
  have q1 := bounds_u8 h1
  have q2 := bounds_u8 h2
  rcases raw_cases hr with hn | ⟨hc, hg, h0⟩
  · exact windowsMeet_none c x0 x1 x2 ccw w hw hn
  · cases ccw
    · exact windowsMeet_yes c x0 x1 x2 false 0 (.inl ⟨rfl, rfl⟩) w hw hc hg h0 q0.1 q0.2 q1.1 q1.2 q2.1 q2.2
    · exact windowsMeet_yes c x0 x1 x2 true 1 (.inr ⟨rfl, rfl⟩) w hw hc hg h0 q0.1 q0.2 q1.1 q1.2 q2.1 q2.2
end Go.Proofs.YtajkpbmjgncbbaaDoor

