/-
  The law ConfigsAsk, walked: of whatever config that may be all answers are the chapter's, whatever is done to what was handed in, or answered: true; nothing that was there has turned. Conditions: the config's reading; the table of directions is as the program's text lays it.
-/
import Derived.Test.YtibniadebbgjcaaDoorCfA
import Derived.Test.YtibniadebbgjcaaDoorCfRef3
import Derived.Test.YtibniadebbgjcaaDoorCfRef5
import Derived.Test.YtibniadebbgjcaaDoorCfLt
namespace Go.Proofs.YtibniadebbgjcaaDoor
open Go.RowKit Rg

theorem askNew_is (c : Cf) (r : Int) (hr : newE c = r) (w : World) (hc : CfIn w c) :
    Calls Tryd.prog 13 #[.agg #[.int .i64 c.N, .slice c.pA c.pn c.pc, .slice c.sA c.sn c.sc, .int .i64 c.L, .slice c.bA c.bn c.bc, .slice c.tA c.tn c.tc, .int .i64 c.M, .int .i64 c.G, .int .i64 c.F]] w fun e w' => e = .returned (.int .i64 r) ∧ Below w.heap.size w w' := by
  subst hr; exact refNew_any c w hc
theorem askTw_new (c : Cf) (g1 c1 g2 c2 g3 c3 g4 c4 : Nat) : newE (c.tw g1 c1 g2 c2 g3 c3 g4 c4) = newE c := rfl
theorem ofEnts_self (l : List (Option Addr × Nat)) : OfEnts (fun g => ∃ p ∈ l, 0 < p.2 ∧ p.1 = some ⟨g, 0, none⟩) l := fun i hi g m e hm =>
  ⟨l.getD i (none, 0), by rw [List.getD, List.getElem?_eq_getElem hi]; exact List.getElem_mem _, by rw [← e]; exact hm, by rw [← e]⟩
theorem ofEnts_nil (E : Nat → Prop) : OfEnts E [] := fun i hi => absurd hi (Nat.not_lt_zero i)
theorem ne_range {A B : Option Addr} {b n m : Nat} (hA : 0 < n → ∃ g, A = some ⟨g, 0, none⟩ ∧ g < b) (hB : 0 < m → ∃ g, B = some ⟨g, 0, none⟩ ∧ b ≤ g) : 0 < n → 0 < m → A ≠ B := fun hn hm e => by
  obtain ⟨g, e1, h1⟩ := hA hn
  obtain ⟨g', e2, h2⟩ := hB hm
  rw [e1, e2] at e
  injection e with e
  injection e with e
  omega
theorem OwnN.at_ {w : World} {base n : Nat} {A : Option Addr} {xs : List Int} (h : OwnN w base A n xs) {B : Nat} (hB : w.heap.size ≤ B) : 0 < n → ∃ g, A = some ⟨g, 0, none⟩ ∧ base ≤ g ∧ g < B := fun hn => by
  obtain ⟨g, e, hg, hb⟩ := h.2 hn
  have := hb.lt
  exact ⟨g, e, hg, by omega⟩
set_option maxRecDepth 100000 in
theorem ask_great (c : Cf) (x0 x1 slot : Int) (w : World) (hw : Ways w) (hg : greatB c = true) :
    Calls Tryd.prog 4 #[.agg #[.int .i64 c.N, .slice c.pA c.pn c.pc, .slice c.sA c.sn c.sc, .int .i64 c.L, .slice c.bA c.bn c.bc, .slice c.tA c.tn c.tc, .int .i64 c.M, .int .i64 c.G, .int .i64 c.F], .agg #[.int .i64 x0, .int .i64 x1], .int .i64 slot] w fun e w' => e = .returned (.bool true) ∧ Below w.heap.size w w' := by
  have HG := Lib.hid hg
  clear hg
  go_enter Tryd.func4, Tryd.ntmps4
  go_wp2_with (first
    | (go_at_call 9; (with_reducible refine (great_is c true HG.out _).mono ?_); rintro e w1 ⟨rfl, b1⟩)
    | (go_at_call 10; (with_reducible refine (lives_any w1 (((hw.al _).al _).on b1)).mono ?_); rintro e w2 ⟨rfl, b2⟩))
  go_ret
  exact ⟨rfl, below_then (below_then (below_al (below_al (Below.refl _ _) _) _) b1) b2⟩
set_option maxRecDepth 100000 in
theorem ask_no (c : Cf) (x0 x1 slot : Int) (w : World) (hw : Ways w) (hc : CfIn w c) (hg : greatB c = false) (h0 : newE c ≠ 0) :
    Calls Tryd.prog 4 #[.agg #[.int .i64 c.N, .slice c.pA c.pn c.pc, .slice c.sA c.sn c.sc, .int .i64 c.L, .slice c.bA c.bn c.bc, .slice c.tA c.tn c.tc, .int .i64 c.M, .int .i64 c.G, .int .i64 c.F], .agg #[.int .i64 x0, .int .i64 x1], .int .i64 slot] w fun e w' => e = .returned (.bool true) ∧ Below w.heap.size w w' := by
  have HG := Lib.hid hg
  obtain ⟨r, hr⟩ : ∃ r, r = newE c := ⟨_, rfl⟩
  rw [← hr] at h0
  have HR := Lib.hid hr.symm
  have e1 := beq_eq_false_iff_ne.2 h0
  have e2 : (r != 0) = true := by simpa using h0
  clear hg hr h0
  go_enter Tryd.func4, Tryd.ntmps4
  go_wp2_with (first
    | (go_at_call 9; (with_reducible refine (great_is c false HG.out _).mono ?_); rintro e w1 ⟨rfl, b1⟩; have B1 := below_then (below_al (below_al (Below.refl _ w) _) _) b1; obtain ⟨k0, k1, k2, k3, k4, k5, k6, k7, k8⟩ := (((Blk.new w _ _).alloc _).on b1).cf)
    | (go_at_call 13; (with_reducible refine (askNew_is c r HR.out w1 (hc.on B1)).mono ?_); rintro e w2 ⟨rfl, b2⟩; have B2 := below_then B1 b2)
    | (go_at_call 10; (with_reducible refine (lives_any w2 (hw.on B2)).mono ?_); rintro e w3 ⟨rfl, b3⟩))
  go_ret
  exact ⟨rfl, below_then B2 b3⟩
set_option maxRecDepth 100000 in
set_option maxHeartbeats 16000000 in
theorem ask_yes (c : Cf) (x0 x1 slot : Int) (w : World) (hw : Ways w) (hc : CfIn w c) (hg : greatB c = false) (h0 : newE c = 0) :
    Calls Tryd.prog 4 #[.agg #[.int .i64 c.N, .slice c.pA c.pn c.pc, .slice c.sA c.sn c.sc, .int .i64 c.L, .slice c.bA c.bn c.bc, .slice c.tA c.tn c.tc, .int .i64 c.M, .int .i64 c.G, .int .i64 c.F], .agg #[.int .i64 x0, .int .i64 x1], .int .i64 slot] w fun e w' => e = .returned (.bool true) ∧ Below w.heap.size w w' := by
  have HG := Lib.hid hg
  have HN0 := Lib.hid h0
  have HOK := Lib.hid (newE_ok.1 h0)
  obtain ⟨f1, f2, f3, f4⟩ := hc.few
  have hfew := hc.few
  have hL0 : 0 ≤ c.L := by have := HOK.out.long; have := HOK.out.nodes; omega
  have hL1 : c.L ≤ 4096 := HOK.out.long.2
  have HC := Lib.hid hc
  have HW := Lib.hid hw
  obtain ⟨R, hR⟩ : ∃ v, v = (c.sn : Int) * c.L := ⟨_, rfl⟩
  obtain ⟨o0, ho⟩ : ∃ v, v = atM c.S x0 := ⟨_, rfl⟩
  obtain ⟨f0, hf⟩ : ∃ v, v = atM c.P x0 := ⟨_, rfl⟩
  obtain ⟨p0, hp⟩ : ∃ v, v = pairM c.N c.P x0 := ⟨_, rfl⟩
  obtain ⟨q0, hq⟩ : ∃ v, v = partM c.N c.P x0 := ⟨_, rfl⟩
  obtain ⟨nx, hn⟩ : ∃ v, v = nextM c.S slot x1 := ⟨_, rfl⟩
  have HR := Lib.hid hR.symm
  have HO0 := Lib.hid ho.symm
  have HF0 := Lib.hid hf.symm
  have HP0 := Lib.hid hp.symm
  have HQ0 := Lib.hid hq.symm
  have HNX := Lib.hid hn.symm
  clear hg h0 hc hw hR ho hf hp hq hn
  go_enter Tryd.func4, Tryd.ntmps4
  go_wp2_with (first
    | (go_at_call 9; (with_reducible refine (great_is c false HG.out _).mono ?_); rintro e w1 ⟨rfl, b1⟩
       have B1 := below_then (below_al (below_al (Below.refl _ w) _) _) b1
       have hB1 : Blk w1 w.heap.size 25 #[.int .i64 c.N, .slice c.pA c.pn c.pc, .slice c.sA c.sn c.sc, .int .i64 c.L, .slice c.bA c.bn c.bc, .slice c.tA c.tn c.tc, .int .i64 c.M, .int .i64 c.G, .int .i64 c.F] := ((Blk.new w _ _).alloc _).on b1
       have hX1 := Blk.new (w.alloc (.cells #[.int .i64 c.N, .slice c.pA c.pn c.pc, .slice c.sA c.sn c.sc, .int .i64 c.L, .slice c.bA c.bn c.bc, .slice c.tA c.tn c.tc, .int .i64 c.M, .int .i64 c.G, .int .i64 c.F] 25)) 35 #[.int .i64 x0, .int .i64 x1]
       rw [alloc_size] at hX1
       replace hX1 := hX1.on b1
       clear b1
       obtain ⟨k0, k1, k2, k3, k4, k5, k6, k7, k8⟩ := hB1.cf)
    | (go_at_call 13; (with_reducible refine (askNew_is c 0 HN0.out w1 (HC.out.on B1)).mono ?_); rintro e w2 ⟨rfl, b2⟩
       have B2 := below_then B1 b2
       have hB2 := hB1.on b2
       have hX2 := hX1.on b2
       clear b2 B1 hB1 hX1 k0 k1 k2 k3 k4 k5 k6 k7 k8
       obtain ⟨k0, k1, k2, k3, k4, k5, k6, k7, k8⟩ := hB2.cf)
    | (go_at_call 11; (with_reducible refine (twinConfig_any c w2 (HC.out.on B2)).mono ?_); rintro e w4 ⟨g1, c1, g2, c2, g3, c3, g4, c4, rfl, hT4, b4⟩
       have B4 := below_then B2 b4
       have hB4 := hB2.on b4
       have hX4 := hX2.on b4
       have hxl := hX2.lt
       clear b4 B2 hB2 hX2 k0 k1 k2 k3 k4 k5 k6 k7 k8)
    | (go_at_call 12; (with_reducible refine (new_yes (c.tw g1 c1 g2 c2 g3 c3 g4 c4) _ ((hT4.al _).in_ hfew) (HW.out.on (below_al B4 _)) ((askTw_new c g1 c1 g2 c2 g3 c3 g4 c4).trans HN0.out)).mono ?_); rintro e w5 ⟨gN, A1, A2, A3, A4, rfl, hgN, hN5, oN5, b5⟩
       have B5 := below_then (below_al B4 _) b5
       have hB5 := (hB4.alloc _).on b5
       have hX5 := (hX4.alloc _).on b5
       have hT5 := (hT4.al _).on b5
       have hV5 : Blk w5 w4.heap.size 25 #[.int .i64 c.N, .slice (some ⟨g1, 0, none⟩) c.pn c1, .slice (some ⟨g2, 0, none⟩) c.sn c2, .int .i64 c.L, .slice (some ⟨g3, 0, none⟩) c.bn c3, .slice (some ⟨g4, 0, none⟩) c.tn c4, .int .i64 c.M, .int .i64 c.G, .int .i64 c.F] := (Blk.new w4 _ _).on b5
       have hlt4 := hT4.t.2.2.2
       clear b5 B4 hB4 hX4))
  obtain ⟨cs4, hB44, -, -⟩ := hlt4
  have hg4 := hB44.lt
  clear hB44
  rcases hN5 with ⟨e, _⟩ | ⟨gN', bN, e, hBN, hin⟩
  · cases e
  injection e with e
  injection e with e
  injection e with e
  subst e
  obtain ⟨hlo1, hlo2, hlo3, hlo4⟩ := hT5.lo
  rw [alloc_size] at hgN oN5
  have hl5 : w4.heap.size < w5.heap.size := hV5.lt
  have hgi : g1 < w5.heap.size ∧ g2 < w5.heap.size ∧ g3 < w5.heap.size ∧ g4 < w5.heap.size := by omega
  have hne4 : g1 ≠ g4 ∧ g2 ≠ g4 ∧ g3 ≠ g4 := by omega
  have hw5 : w.heap.size < w5.heap.size := hB5.lt
  have hxw : w.heap.size + 1 < w2.heap.size := hxl
  have hcp1 := hT5.p.cap
  have hcp2 := hT5.s.cap
  have hcp3 := hT5.b.cap
  have hct1 := fun W => cut3Nums g1 c.pn c1 (by omega) W
  have hct2 := fun W => cut3Nums g2 c.sn c2 (by omega) W
  have hct3 := fun W => cut3Nums g3 c.bn c3 (by omega) W
  have hF5 : AskF w w5 w5 c g1 g2 g3 g4 := ⟨B5, Nat.le_refl _, fun _ _ _ _ _ _ => rfl,
    by obtain ⟨_, _, _, cs, h4, h5, _⟩ := hT5.p; exact ⟨cs, h4, by omega⟩,
    by obtain ⟨_, _, _, cs, h4, h5, _⟩ := hT5.s; exact ⟨cs, h4, by omega⟩,
    by obtain ⟨_, _, _, cs, h4, h5, _⟩ := hT5.b; exact ⟨cs, h4, by omega⟩,
    by obtain ⟨_, _, _, cs, h4, h5, _⟩ := hT5.t; exact ⟨cs, h4, by omega⟩⟩
  have HNET := Lib.hid (fun W (h : AskF w w5 W c g1 g2 g3 g4) => show NetIs W (.pointer (some ⟨gN, 0, none⟩)) (c.to A1 A2 A3 A4) from .inr ⟨gN, bN, rfl, h.blk hBN (by omega) (by omega) (by omega) (by omega), (h.own oN5 (by omega)).in_⟩)
  have HB0 := Lib.hid (fun W (h : AskF w w5 W c g1 g2 g3 g4) => h.blk hB5 (by omega) (by omega) (by omega) (by omega))
  have HX0 := Lib.hid (fun W (h : AskF w w5 W c g1 g2 g3 g4) => h.blk hX5 (by omega) (by omega) (by omega) (by omega))
  have HV0 := Lib.hid (fun W (h : AskF w w5 W c g1 g2 g3 g4) => h.blk hV5 (by omega) (by omega) (by omega) (by omega))
  clear hT4 hT5 hin hBN oN5 hB5 hX5 hV5 hxl B5
  go_loopw [10] (fun s wr => ∃ r : Nat, r ≤ 2 ∧ s = .int .i64 r ∧ AskF w w5 wr c g1 g2 g3 g4) (fun s _ => 2 - (intOf s).toNat)
  case atStart => exact ⟨0, by omega, rfl, hF5⟩
  case round =>
    clear hF5
    obtain ⟨r, hr, rfl, hr0⟩ := hrel
    have hNr := HNET.out _ hr0
    have hB0 := HB0.out _ hr0
    have hX0 := HX0.out _ hr0
    have hCr := HC.out.on hr0.below
    have hWr := HW.out.on hr0.below
    by_cases hlt : r < 2
    · have hlti : (r : Int) < 2 := by omega
      go_wp2_with fail
      refine Reg.wp_slots (fun t => decide (36 ≤ t) && decide (t ≤ 97)) (by kernel_rfl) (by kernel_rfl) (by kernel_rfl) (fun zz => (Reg.tbl [
        (36, .is (.pointer (some ⟨gN, 0, none⟩))),
        (37, .is (.int .i64 R)),
        (38, .is (.agg #[.int .i64 c.N, .slice c.pA c.pn c.pc, .slice c.sA c.sn c.sc, .int .i64 c.L, .slice c.bA c.bn c.bc, .slice c.tA c.tn c.tc, .int .i64 c.M, .int .i64 c.G, .int .i64 c.F])),
        (39, .is (.int .i64 R)),
        (40, .is (.bool false)),
        (41, .is (.bool false)),
        (42, .is (.pointer (some ⟨gN, 0, none⟩))),
        (43, .is (.pointer (some ⟨w.heap.size + 1, 0, none⟩))),
        (44, .is (.int .i64 x0)),
        (45, .is (.int .i64 o0)),
        (46, .is (.agg #[.int .i64 c.N, .slice c.pA c.pn c.pc, .slice c.sA c.sn c.sc, .int .i64 c.L, .slice c.bA c.bn c.bc, .slice c.tA c.tn c.tc, .int .i64 c.M, .int .i64 c.G, .int .i64 c.F])),
        (47, .is (.pointer (some ⟨w.heap.size + 1, 0, none⟩))),
        (48, .is (.int .i64 x0)),
        (49, .is (.int .i64 o0)),
        (50, .is (.bool false)),
        (51, .is (.bool false)),
        (52, .is (.bool false)),
        (53, .is (.pointer (some ⟨gN, 0, none⟩))),
        (54, .is (.pointer (some ⟨w.heap.size + 1, 0, none⟩))),
        (55, .is (.int .i64 x0)),
        (56, .is (.int .i64 f0)),
        (57, .is (.agg #[.int .i64 c.N, .slice c.pA c.pn c.pc, .slice c.sA c.sn c.sc, .int .i64 c.L, .slice c.bA c.bn c.bc, .slice c.tA c.tn c.tc, .int .i64 c.M, .int .i64 c.G, .int .i64 c.F])),
        (58, .is (.pointer (some ⟨w.heap.size + 1, 0, none⟩))),
        (59, .is (.int .i64 x0)),
        (60, .is (.int .i64 f0)),
        (61, .is (.bool false)),
        (62, .is (.bool false)),
        (63, .is (.bool false)),
        (64, .is (.pointer (some ⟨gN, 0, none⟩))),
        (65, .is (.pointer (some ⟨w.heap.size + 1, 0, none⟩))),
        (66, .is (.int .i64 x0)),
        (67, .is (.int .i64 p0)),
        (68, .is (.agg #[.int .i64 c.N, .slice c.pA c.pn c.pc, .slice c.sA c.sn c.sc, .int .i64 c.L, .slice c.bA c.bn c.bc, .slice c.tA c.tn c.tc, .int .i64 c.M, .int .i64 c.G, .int .i64 c.F])),
        (69, .is (.pointer (some ⟨w.heap.size + 1, 0, none⟩))),
        (70, .is (.int .i64 x0)),
        (71, .is (.int .i64 p0)),
        (72, .is (.bool false)),
        (73, .is (.bool false)),
        (74, .is (.bool false)),
        (75, .is (.pointer (some ⟨gN, 0, none⟩))),
        (76, .is (.pointer (some ⟨w.heap.size + 1, 0, none⟩))),
        (77, .is (.int .i64 x0)),
        (78, .is (.int .i64 q0)),
        (79, .is (.agg #[.int .i64 c.N, .slice c.pA c.pn c.pc, .slice c.sA c.sn c.sc, .int .i64 c.L, .slice c.bA c.bn c.bc, .slice c.tA c.tn c.tc, .int .i64 c.M, .int .i64 c.G, .int .i64 c.F])),
        (80, .is (.pointer (some ⟨w.heap.size + 1, 0, none⟩))),
        (81, .is (.int .i64 x0)),
        (82, .is (.int .i64 q0)),
        (83, .is (.bool false)),
        (84, .is (.bool false)),
        (85, .is (.bool false)),
        (86, .is (.pointer (some ⟨gN, 0, none⟩))),
        (87, .is (.int .i64 slot)),
        (88, .is (.pointer (some ⟨w.heap.size + 1, 1, none⟩))),
        (89, .is (.int .i64 x1)),
        (90, .is (.int .i64 nx)),
        (91, .is (.agg #[.int .i64 c.N, .slice c.pA c.pn c.pc, .slice c.sA c.sn c.sc, .int .i64 c.L, .slice c.bA c.bn c.bc, .slice c.tA c.tn c.tc, .int .i64 c.M, .int .i64 c.G, .int .i64 c.F])),
        (92, .is (.int .i64 slot)),
        (93, .is (.pointer (some ⟨w.heap.size + 1, 1, none⟩))),
        (94, .is (.int .i64 x1)),
        (95, .is (.int .i64 nx)),
        (96, .is (.bool false)),
        (97, .is (.bool false))] zz).P) (fun zz => (Reg.tbl _ zz).on) ?_ ?_
      · simp only [Reg.frame, Reg.over, Nat.reduceAdd, Nat.reduceLeDiff, decide_true, decide_false, Bool.and_true, Bool.and_false, if_true, Bool.false_eq_true, if_false]
        refine ⟨?_, ?_, ?_, ?_, ?_, ?_, ?_, ?_, ?_, ?_, ?_, ?_, ?_, ?_, ?_, ?_, ?_, ?_, ?_, ?_, ?_, ?_, ?_, ?_, ?_, ?_, ?_, ?_, ?_, ?_, ?_, ?_, ?_, ?_, ?_, ?_, ?_, ?_, ?_, ?_, ?_, ?_, ?_, ?_, ?_, ?_, ?_, ?_, ?_, ?_, ?_, ?_, ?_, ?_, ?_, ?_, ?_, ?_, ?_, ?_, ?_, ?_, trivial⟩
        · intro x u hbu hd
          refine wpOp_step rfl fun K hK => ?_
          go_simp
          exact hK _ _ ⟨_, rfl, Below.refl _ _, fun d hd => by cases hd; exact rfl⟩
        · intro x u hbu hd
          have h36 : x 36 = .pointer (some ⟨gN, 0, none⟩) := hd 0 (by decide)
          refine wpOp_step rfl fun K hK => ?_
          simp only [h36] at hK ⊢
          go_simp
          with_reducible refine (round_is _ (c.to A1 A2 A3 A4) R HR.out u (hNr.on hbu) hL0 hL1).mono ?_
          rintro e u' ⟨rfl, hb'⟩
          exact hK _ _ ⟨_, rfl, hb', fun d hd => by cases hd; exact rfl⟩
        · intro x u hbu hd
          obtain ⟨z0, z1, z2, z3, z4, z5, z6, z7, z8⟩ := (hB0.on hbu).cf
          refine wpOp_step rfl fun K hK => ?_
          go_simp
          exact hK _ _ ⟨_, rfl, Below.refl _ _, fun d hd => by cases hd; exact rfl⟩
        · intro x u hbu hd
          have h38 : x 38 = .agg #[.int .i64 c.N, .slice c.pA c.pn c.pc, .slice c.sA c.sn c.sc, .int .i64 c.L, .slice c.bA c.bn c.bc, .slice c.tA c.tn c.tc, .int .i64 c.M, .int .i64 c.G, .int .i64 c.F] := hd 2 (by decide)
          refine wpOp_step rfl fun K hK => ?_
          simp only [h38] at hK ⊢
          go_simp
          with_reducible refine (refRound_is c R HR.out u (hCr.on hbu) hL0 hL1).mono ?_
          rintro e u' ⟨rfl, hb'⟩
          exact hK _ _ ⟨_, rfl, hb', fun d hd => by cases hd; exact rfl⟩
        · intro x u hbu hd
          have h37 : x 37 = .int .i64 R := hd 1 (by decide)
          have h39 : x 39 = .int .i64 R := hd 3 (by decide)
          refine wpOp_step rfl fun K hK => ?_
          simp only [h37, h39] at hK ⊢
          go_simp
          exact hK _ _ ⟨_, rfl, Below.refl _ _, fun d hd => by cases hd; exact rfl⟩
        · intro x u hbu hd
          have h40 : x 40 = .bool false := hd 4 (by decide)
          refine wpOp_step rfl fun K hK => ?_
          simp only [h40] at hK ⊢
          go_simp
          exact hK _ _ ⟨_, rfl, Below.refl _ _, fun d hd => by cases hd; exact rfl⟩
        · intro x u hbu hd
          have h41 : x 41 = .bool false := hd 5 (by decide)
          refine wpOp_step rfl fun K hK => ?_
          simp only [h41] at hK ⊢
          go_simp
          exact hK _ _ ⟨_, rfl, Below.refl _ _, fun d hd => by cases hd; exact rfl⟩
        · intro x u hbu hd
          have h41 : x 41 = .bool false := hd 5 (by decide)
          refine wpOp_step rfl fun K hK => ?_
          simp only [h41] at hK ⊢
          go_simp
          exact hK _ _ ⟨_, rfl, Below.refl _ _, fun d hd => by cases hd; exact rfl⟩
        · intro x u hbu hd
          have h43 : x 43 = .pointer (some ⟨w.heap.size + 1, 0, none⟩) := hd 7 (by decide)
          have h41 : x 41 = .bool false := hd 5 (by decide)
          have hxc := (hX0.on hbu).cell 0
          simp only [List.getElem?_toArray, List.getElem?_cons_zero] at hxc
          refine wpOp_step rfl fun K hK => ?_
          simp only [h43, h41] at hK ⊢
          go_simp
          exact hK _ _ ⟨_, rfl, Below.refl _ _, fun d hd => by cases hd; exact rfl⟩
        · intro x u hbu hd
          have h42 : x 42 = .pointer (some ⟨gN, 0, none⟩) := hd 6 (by decide)
          have h44 : x 44 = .int .i64 x0 := hd 8 (by decide)
          have h41 : x 41 = .bool false := hd 5 (by decide)
          refine wpOp_step rfl fun K hK => ?_
          simp only [h42, h44, h41] at hK ⊢
          go_simp
          with_reducible refine (owner_is _ (c.to A1 A2 A3 A4) x0 o0 HO0.out u (hNr.on hbu)).mono ?_
          rintro e u' ⟨rfl, hb'⟩
          exact hK _ _ ⟨_, rfl, hb', fun d hd => by cases hd; exact rfl⟩
        · intro x u hbu hd
          have h41 : x 41 = .bool false := hd 5 (by decide)
          obtain ⟨z0, z1, z2, z3, z4, z5, z6, z7, z8⟩ := (hB0.on hbu).cf
          refine wpOp_step rfl fun K hK => ?_
          simp only [h41] at hK ⊢
          go_simp
          exact hK _ _ ⟨_, rfl, Below.refl _ _, fun d hd => by cases hd; exact rfl⟩
        · intro x u hbu hd
          have h41 : x 41 = .bool false := hd 5 (by decide)
          refine wpOp_step rfl fun K hK => ?_
          simp only [h41] at hK ⊢
          go_simp
          exact hK _ _ ⟨_, rfl, Below.refl _ _, fun d hd => by cases hd; exact rfl⟩
        · intro x u hbu hd
          have h47 : x 47 = .pointer (some ⟨w.heap.size + 1, 0, none⟩) := hd 11 (by decide)
          have h41 : x 41 = .bool false := hd 5 (by decide)
          have hxc := (hX0.on hbu).cell 0
          simp only [List.getElem?_toArray, List.getElem?_cons_zero] at hxc
          refine wpOp_step rfl fun K hK => ?_
          simp only [h47, h41] at hK ⊢
          go_simp
          exact hK _ _ ⟨_, rfl, Below.refl _ _, fun d hd => by cases hd; exact rfl⟩
        · intro x u hbu hd
          have h46 : x 46 = .agg #[.int .i64 c.N, .slice c.pA c.pn c.pc, .slice c.sA c.sn c.sc, .int .i64 c.L, .slice c.bA c.bn c.bc, .slice c.tA c.tn c.tc, .int .i64 c.M, .int .i64 c.G, .int .i64 c.F] := hd 10 (by decide)
          have h48 : x 48 = .int .i64 x0 := hd 12 (by decide)
          have h41 : x 41 = .bool false := hd 5 (by decide)
          refine wpOp_step rfl fun K hK => ?_
          simp only [h46, h48, h41] at hK ⊢
          go_simp
          with_reducible refine (refOwner_is c x0 o0 HO0.out u (hCr.on hbu)).mono ?_
          rintro e u' ⟨rfl, hb'⟩
          exact hK _ _ ⟨_, rfl, hb', fun d hd => by cases hd; exact rfl⟩
        · intro x u hbu hd
          have h45 : x 45 = .int .i64 o0 := hd 9 (by decide)
          have h49 : x 49 = .int .i64 o0 := hd 13 (by decide)
          have h41 : x 41 = .bool false := hd 5 (by decide)
          refine wpOp_step rfl fun K hK => ?_
          simp only [h45, h49, h41] at hK ⊢
          go_simp
          exact hK _ _ ⟨_, rfl, Below.refl _ _, fun d hd => by cases hd; exact rfl⟩
        · intro x u hbu hd
          have h41 : x 41 = .bool false := hd 5 (by decide)
          have h50 : x 50 = .bool false := hd 14 (by decide)
          refine wpOp_step rfl fun K hK => ?_
          simp only [h41, h50] at hK ⊢
          go_simp
          exact hK _ _ ⟨_, rfl, Below.refl _ _, fun d hd => by cases hd; exact rfl⟩
        · intro x u hbu hd
          have h51 : x 51 = .bool false := hd 15 (by decide)
          refine wpOp_step rfl fun K hK => ?_
          simp only [h51] at hK ⊢
          go_simp
          exact hK _ _ ⟨_, rfl, Below.refl _ _, fun d hd => by cases hd; exact rfl⟩
        · intro x u hbu hd
          have h52 : x 52 = .bool false := hd 16 (by decide)
          refine wpOp_step rfl fun K hK => ?_
          simp only [h52] at hK ⊢
          go_simp
          exact hK _ _ ⟨_, rfl, Below.refl _ _, fun d hd => by cases hd; exact rfl⟩
        · intro x u hbu hd
          have h52 : x 52 = .bool false := hd 16 (by decide)
          refine wpOp_step rfl fun K hK => ?_
          simp only [h52] at hK ⊢
          go_simp
          exact hK _ _ ⟨_, rfl, Below.refl _ _, fun d hd => by cases hd; exact rfl⟩
        · intro x u hbu hd
          have h54 : x 54 = .pointer (some ⟨w.heap.size + 1, 0, none⟩) := hd 18 (by decide)
          have h52 : x 52 = .bool false := hd 16 (by decide)
          have hxc := (hX0.on hbu).cell 0
          simp only [List.getElem?_toArray, List.getElem?_cons_zero] at hxc
          refine wpOp_step rfl fun K hK => ?_
          simp only [h54, h52] at hK ⊢
          go_simp
          exact hK _ _ ⟨_, rfl, Below.refl _ _, fun d hd => by cases hd; exact rfl⟩
        · intro x u hbu hd
          have h53 : x 53 = .pointer (some ⟨gN, 0, none⟩) := hd 17 (by decide)
          have h55 : x 55 = .int .i64 x0 := hd 19 (by decide)
          have h52 : x 52 = .bool false := hd 16 (by decide)
          refine wpOp_step rfl fun K hK => ?_
          simp only [h53, h55, h52] at hK ⊢
          go_simp
          with_reducible refine (first_is _ (c.to A1 A2 A3 A4) x0 f0 HF0.out u (hNr.on hbu)).mono ?_
          rintro e u' ⟨rfl, hb'⟩
          exact hK _ _ ⟨_, rfl, hb', fun d hd => by cases hd; exact rfl⟩
        · intro x u hbu hd
          have h52 : x 52 = .bool false := hd 16 (by decide)
          obtain ⟨z0, z1, z2, z3, z4, z5, z6, z7, z8⟩ := (hB0.on hbu).cf
          refine wpOp_step rfl fun K hK => ?_
          simp only [h52] at hK ⊢
          go_simp
          exact hK _ _ ⟨_, rfl, Below.refl _ _, fun d hd => by cases hd; exact rfl⟩
        · intro x u hbu hd
          have h52 : x 52 = .bool false := hd 16 (by decide)
          refine wpOp_step rfl fun K hK => ?_
          simp only [h52] at hK ⊢
          go_simp
          exact hK _ _ ⟨_, rfl, Below.refl _ _, fun d hd => by cases hd; exact rfl⟩
        · intro x u hbu hd
          have h58 : x 58 = .pointer (some ⟨w.heap.size + 1, 0, none⟩) := hd 22 (by decide)
          have h52 : x 52 = .bool false := hd 16 (by decide)
          have hxc := (hX0.on hbu).cell 0
          simp only [List.getElem?_toArray, List.getElem?_cons_zero] at hxc
          refine wpOp_step rfl fun K hK => ?_
          simp only [h58, h52] at hK ⊢
          go_simp
          exact hK _ _ ⟨_, rfl, Below.refl _ _, fun d hd => by cases hd; exact rfl⟩
        · intro x u hbu hd
          have h57 : x 57 = .agg #[.int .i64 c.N, .slice c.pA c.pn c.pc, .slice c.sA c.sn c.sc, .int .i64 c.L, .slice c.bA c.bn c.bc, .slice c.tA c.tn c.tc, .int .i64 c.M, .int .i64 c.G, .int .i64 c.F] := hd 21 (by decide)
          have h59 : x 59 = .int .i64 x0 := hd 23 (by decide)
          have h52 : x 52 = .bool false := hd 16 (by decide)
          refine wpOp_step rfl fun K hK => ?_
          simp only [h57, h59, h52] at hK ⊢
          go_simp
          with_reducible refine (refFirst_is c x0 f0 HF0.out u (hCr.on hbu)).mono ?_
          rintro e u' ⟨rfl, hb'⟩
          exact hK _ _ ⟨_, rfl, hb', fun d hd => by cases hd; exact rfl⟩
        · intro x u hbu hd
          have h56 : x 56 = .int .i64 f0 := hd 20 (by decide)
          have h60 : x 60 = .int .i64 f0 := hd 24 (by decide)
          have h52 : x 52 = .bool false := hd 16 (by decide)
          refine wpOp_step rfl fun K hK => ?_
          simp only [h56, h60, h52] at hK ⊢
          go_simp
          exact hK _ _ ⟨_, rfl, Below.refl _ _, fun d hd => by cases hd; exact rfl⟩
        · intro x u hbu hd
          have h52 : x 52 = .bool false := hd 16 (by decide)
          have h61 : x 61 = .bool false := hd 25 (by decide)
          refine wpOp_step rfl fun K hK => ?_
          simp only [h52, h61] at hK ⊢
          go_simp
          exact hK _ _ ⟨_, rfl, Below.refl _ _, fun d hd => by cases hd; exact rfl⟩
        · intro x u hbu hd
          have h62 : x 62 = .bool false := hd 26 (by decide)
          refine wpOp_step rfl fun K hK => ?_
          simp only [h62] at hK ⊢
          go_simp
          exact hK _ _ ⟨_, rfl, Below.refl _ _, fun d hd => by cases hd; exact rfl⟩
        · intro x u hbu hd
          have h63 : x 63 = .bool false := hd 27 (by decide)
          refine wpOp_step rfl fun K hK => ?_
          simp only [h63] at hK ⊢
          go_simp
          exact hK _ _ ⟨_, rfl, Below.refl _ _, fun d hd => by cases hd; exact rfl⟩
        · intro x u hbu hd
          have h63 : x 63 = .bool false := hd 27 (by decide)
          refine wpOp_step rfl fun K hK => ?_
          simp only [h63] at hK ⊢
          go_simp
          exact hK _ _ ⟨_, rfl, Below.refl _ _, fun d hd => by cases hd; exact rfl⟩
        · intro x u hbu hd
          have h65 : x 65 = .pointer (some ⟨w.heap.size + 1, 0, none⟩) := hd 29 (by decide)
          have h63 : x 63 = .bool false := hd 27 (by decide)
          have hxc := (hX0.on hbu).cell 0
          simp only [List.getElem?_toArray, List.getElem?_cons_zero] at hxc
          refine wpOp_step rfl fun K hK => ?_
          simp only [h65, h63] at hK ⊢
          go_simp
          exact hK _ _ ⟨_, rfl, Below.refl _ _, fun d hd => by cases hd; exact rfl⟩
        · intro x u hbu hd
          have h64 : x 64 = .pointer (some ⟨gN, 0, none⟩) := hd 28 (by decide)
          have h66 : x 66 = .int .i64 x0 := hd 30 (by decide)
          have h63 : x 63 = .bool false := hd 27 (by decide)
          refine wpOp_step rfl fun K hK => ?_
          simp only [h64, h66, h63] at hK ⊢
          go_simp
          with_reducible refine (pair_is _ (c.to A1 A2 A3 A4) x0 p0 HP0.out u (hNr.on hbu) (hWr.on hbu)).mono ?_
          rintro e u' ⟨rfl, hb'⟩
          exact hK _ _ ⟨_, rfl, hb', fun d hd => by cases hd; exact rfl⟩
        · intro x u hbu hd
          have h63 : x 63 = .bool false := hd 27 (by decide)
          obtain ⟨z0, z1, z2, z3, z4, z5, z6, z7, z8⟩ := (hB0.on hbu).cf
          refine wpOp_step rfl fun K hK => ?_
          simp only [h63] at hK ⊢
          go_simp
          exact hK _ _ ⟨_, rfl, Below.refl _ _, fun d hd => by cases hd; exact rfl⟩
        · intro x u hbu hd
          have h63 : x 63 = .bool false := hd 27 (by decide)
          refine wpOp_step rfl fun K hK => ?_
          simp only [h63] at hK ⊢
          go_simp
          exact hK _ _ ⟨_, rfl, Below.refl _ _, fun d hd => by cases hd; exact rfl⟩
        · intro x u hbu hd
          have h69 : x 69 = .pointer (some ⟨w.heap.size + 1, 0, none⟩) := hd 33 (by decide)
          have h63 : x 63 = .bool false := hd 27 (by decide)
          have hxc := (hX0.on hbu).cell 0
          simp only [List.getElem?_toArray, List.getElem?_cons_zero] at hxc
          refine wpOp_step rfl fun K hK => ?_
          simp only [h69, h63] at hK ⊢
          go_simp
          exact hK _ _ ⟨_, rfl, Below.refl _ _, fun d hd => by cases hd; exact rfl⟩
        · intro x u hbu hd
          have h68 : x 68 = .agg #[.int .i64 c.N, .slice c.pA c.pn c.pc, .slice c.sA c.sn c.sc, .int .i64 c.L, .slice c.bA c.bn c.bc, .slice c.tA c.tn c.tc, .int .i64 c.M, .int .i64 c.G, .int .i64 c.F] := hd 32 (by decide)
          have h70 : x 70 = .int .i64 x0 := hd 34 (by decide)
          have h63 : x 63 = .bool false := hd 27 (by decide)
          refine wpOp_step rfl fun K hK => ?_
          simp only [h68, h70, h63] at hK ⊢
          go_simp
          with_reducible refine (refPair_is c x0 p0 HP0.out u (hCr.on hbu)).mono ?_
          rintro e u' ⟨rfl, hb'⟩
          exact hK _ _ ⟨_, rfl, hb', fun d hd => by cases hd; exact rfl⟩
        · intro x u hbu hd
          have h67 : x 67 = .int .i64 p0 := hd 31 (by decide)
          have h71 : x 71 = .int .i64 p0 := hd 35 (by decide)
          have h63 : x 63 = .bool false := hd 27 (by decide)
          refine wpOp_step rfl fun K hK => ?_
          simp only [h67, h71, h63] at hK ⊢
          go_simp
          exact hK _ _ ⟨_, rfl, Below.refl _ _, fun d hd => by cases hd; exact rfl⟩
        · intro x u hbu hd
          have h63 : x 63 = .bool false := hd 27 (by decide)
          have h72 : x 72 = .bool false := hd 36 (by decide)
          refine wpOp_step rfl fun K hK => ?_
          simp only [h63, h72] at hK ⊢
          go_simp
          exact hK _ _ ⟨_, rfl, Below.refl _ _, fun d hd => by cases hd; exact rfl⟩
        · intro x u hbu hd
          have h73 : x 73 = .bool false := hd 37 (by decide)
          refine wpOp_step rfl fun K hK => ?_
          simp only [h73] at hK ⊢
          go_simp
          exact hK _ _ ⟨_, rfl, Below.refl _ _, fun d hd => by cases hd; exact rfl⟩
        · intro x u hbu hd
          have h74 : x 74 = .bool false := hd 38 (by decide)
          refine wpOp_step rfl fun K hK => ?_
          simp only [h74] at hK ⊢
          go_simp
          exact hK _ _ ⟨_, rfl, Below.refl _ _, fun d hd => by cases hd; exact rfl⟩
        · intro x u hbu hd
          have h74 : x 74 = .bool false := hd 38 (by decide)
          refine wpOp_step rfl fun K hK => ?_
          simp only [h74] at hK ⊢
          go_simp
          exact hK _ _ ⟨_, rfl, Below.refl _ _, fun d hd => by cases hd; exact rfl⟩
        · intro x u hbu hd
          have h76 : x 76 = .pointer (some ⟨w.heap.size + 1, 0, none⟩) := hd 40 (by decide)
          have h74 : x 74 = .bool false := hd 38 (by decide)
          have hxc := (hX0.on hbu).cell 0
          simp only [List.getElem?_toArray, List.getElem?_cons_zero] at hxc
          refine wpOp_step rfl fun K hK => ?_
          simp only [h76, h74] at hK ⊢
          go_simp
          exact hK _ _ ⟨_, rfl, Below.refl _ _, fun d hd => by cases hd; exact rfl⟩
        · intro x u hbu hd
          have h75 : x 75 = .pointer (some ⟨gN, 0, none⟩) := hd 39 (by decide)
          have h77 : x 77 = .int .i64 x0 := hd 41 (by decide)
          have h74 : x 74 = .bool false := hd 38 (by decide)
          refine wpOp_step rfl fun K hK => ?_
          simp only [h75, h77, h74] at hK ⊢
          go_simp
          with_reducible refine (partner_is _ (c.to A1 A2 A3 A4) x0 q0 HQ0.out u (hNr.on hbu) (hWr.on hbu)).mono ?_
          rintro e u' ⟨rfl, hb'⟩
          exact hK _ _ ⟨_, rfl, hb', fun d hd => by cases hd; exact rfl⟩
        · intro x u hbu hd
          have h74 : x 74 = .bool false := hd 38 (by decide)
          obtain ⟨z0, z1, z2, z3, z4, z5, z6, z7, z8⟩ := (hB0.on hbu).cf
          refine wpOp_step rfl fun K hK => ?_
          simp only [h74] at hK ⊢
          go_simp
          exact hK _ _ ⟨_, rfl, Below.refl _ _, fun d hd => by cases hd; exact rfl⟩
        · intro x u hbu hd
          have h74 : x 74 = .bool false := hd 38 (by decide)
          refine wpOp_step rfl fun K hK => ?_
          simp only [h74] at hK ⊢
          go_simp
          exact hK _ _ ⟨_, rfl, Below.refl _ _, fun d hd => by cases hd; exact rfl⟩
        · intro x u hbu hd
          have h80 : x 80 = .pointer (some ⟨w.heap.size + 1, 0, none⟩) := hd 44 (by decide)
          have h74 : x 74 = .bool false := hd 38 (by decide)
          have hxc := (hX0.on hbu).cell 0
          simp only [List.getElem?_toArray, List.getElem?_cons_zero] at hxc
          refine wpOp_step rfl fun K hK => ?_
          simp only [h80, h74] at hK ⊢
          go_simp
          exact hK _ _ ⟨_, rfl, Below.refl _ _, fun d hd => by cases hd; exact rfl⟩
        · intro x u hbu hd
          have h79 : x 79 = .agg #[.int .i64 c.N, .slice c.pA c.pn c.pc, .slice c.sA c.sn c.sc, .int .i64 c.L, .slice c.bA c.bn c.bc, .slice c.tA c.tn c.tc, .int .i64 c.M, .int .i64 c.G, .int .i64 c.F] := hd 43 (by decide)
          have h81 : x 81 = .int .i64 x0 := hd 45 (by decide)
          have h74 : x 74 = .bool false := hd 38 (by decide)
          refine wpOp_step rfl fun K hK => ?_
          simp only [h79, h81, h74] at hK ⊢
          go_simp
          with_reducible refine (refPartner_is c x0 q0 HQ0.out u (hCr.on hbu) HOK.out).mono ?_
          rintro e u' ⟨rfl, hb'⟩
          exact hK _ _ ⟨_, rfl, hb', fun d hd => by cases hd; exact rfl⟩
        · intro x u hbu hd
          have h78 : x 78 = .int .i64 q0 := hd 42 (by decide)
          have h82 : x 82 = .int .i64 q0 := hd 46 (by decide)
          have h74 : x 74 = .bool false := hd 38 (by decide)
          refine wpOp_step rfl fun K hK => ?_
          simp only [h78, h82, h74] at hK ⊢
          go_simp
          exact hK _ _ ⟨_, rfl, Below.refl _ _, fun d hd => by cases hd; exact rfl⟩
        · intro x u hbu hd
          have h74 : x 74 = .bool false := hd 38 (by decide)
          have h83 : x 83 = .bool false := hd 47 (by decide)
          refine wpOp_step rfl fun K hK => ?_
          simp only [h74, h83] at hK ⊢
          go_simp
          exact hK _ _ ⟨_, rfl, Below.refl _ _, fun d hd => by cases hd; exact rfl⟩
        · intro x u hbu hd
          have h84 : x 84 = .bool false := hd 48 (by decide)
          refine wpOp_step rfl fun K hK => ?_
          simp only [h84] at hK ⊢
          go_simp
          exact hK _ _ ⟨_, rfl, Below.refl _ _, fun d hd => by cases hd; exact rfl⟩
        · intro x u hbu hd
          have h85 : x 85 = .bool false := hd 49 (by decide)
          refine wpOp_step rfl fun K hK => ?_
          simp only [h85] at hK ⊢
          go_simp
          exact hK _ _ ⟨_, rfl, Below.refl _ _, fun d hd => by cases hd; exact rfl⟩
        · intro x u hbu hd
          have h85 : x 85 = .bool false := hd 49 (by decide)
          refine wpOp_step rfl fun K hK => ?_
          simp only [h85] at hK ⊢
          go_simp
          exact hK _ _ ⟨_, rfl, Below.refl _ _, fun d hd => by cases hd; exact rfl⟩
        · intro x u hbu hd
          have h85 : x 85 = .bool false := hd 49 (by decide)
          refine wpOp_step rfl fun K hK => ?_
          simp only [h85] at hK ⊢
          go_simp
          exact hK _ _ ⟨_, rfl, Below.refl _ _, fun d hd => by cases hd; exact rfl⟩
        · intro x u hbu hd
          have h88 : x 88 = .pointer (some ⟨w.heap.size + 1, 1, none⟩) := hd 52 (by decide)
          have h85 : x 85 = .bool false := hd 49 (by decide)
          have hxc := (hX0.on hbu).cell 1
          simp only [List.getElem?_toArray, List.getElem?_cons_zero, List.getElem?_cons_succ] at hxc
          refine wpOp_step rfl fun K hK => ?_
          simp only [h88, h85] at hK ⊢
          go_simp
          exact hK _ _ ⟨_, rfl, Below.refl _ _, fun d hd => by cases hd; exact rfl⟩
        · intro x u hbu hd
          have h86 : x 86 = .pointer (some ⟨gN, 0, none⟩) := hd 50 (by decide)
          have h87 : x 87 = .int .i64 slot := hd 51 (by decide)
          have h89 : x 89 = .int .i64 x1 := hd 53 (by decide)
          have h85 : x 85 = .bool false := hd 49 (by decide)
          refine wpOp_step rfl fun K hK => ?_
          simp only [h86, h87, h89, h85] at hK ⊢
          go_simp
          with_reducible refine (next_is _ (c.to A1 A2 A3 A4) slot x1 nx HNX.out u (hNr.on hbu)).mono ?_
          rintro e u' ⟨rfl, hb'⟩
          exact hK _ _ ⟨_, rfl, hb', fun d hd => by cases hd; exact rfl⟩
        · intro x u hbu hd
          have h85 : x 85 = .bool false := hd 49 (by decide)
          obtain ⟨z0, z1, z2, z3, z4, z5, z6, z7, z8⟩ := (hB0.on hbu).cf
          refine wpOp_step rfl fun K hK => ?_
          simp only [h85] at hK ⊢
          go_simp
          exact hK _ _ ⟨_, rfl, Below.refl _ _, fun d hd => by cases hd; exact rfl⟩
        · intro x u hbu hd
          have h85 : x 85 = .bool false := hd 49 (by decide)
          refine wpOp_step rfl fun K hK => ?_
          simp only [h85] at hK ⊢
          go_simp
          exact hK _ _ ⟨_, rfl, Below.refl _ _, fun d hd => by cases hd; exact rfl⟩
        · intro x u hbu hd
          have h85 : x 85 = .bool false := hd 49 (by decide)
          refine wpOp_step rfl fun K hK => ?_
          simp only [h85] at hK ⊢
          go_simp
          exact hK _ _ ⟨_, rfl, Below.refl _ _, fun d hd => by cases hd; exact rfl⟩
        · intro x u hbu hd
          have h93 : x 93 = .pointer (some ⟨w.heap.size + 1, 1, none⟩) := hd 57 (by decide)
          have h85 : x 85 = .bool false := hd 49 (by decide)
          have hxc := (hX0.on hbu).cell 1
          simp only [List.getElem?_toArray, List.getElem?_cons_zero, List.getElem?_cons_succ] at hxc
          refine wpOp_step rfl fun K hK => ?_
          simp only [h93, h85] at hK ⊢
          go_simp
          exact hK _ _ ⟨_, rfl, Below.refl _ _, fun d hd => by cases hd; exact rfl⟩
        · intro x u hbu hd
          have h91 : x 91 = .agg #[.int .i64 c.N, .slice c.pA c.pn c.pc, .slice c.sA c.sn c.sc, .int .i64 c.L, .slice c.bA c.bn c.bc, .slice c.tA c.tn c.tc, .int .i64 c.M, .int .i64 c.G, .int .i64 c.F] := hd 55 (by decide)
          have h92 : x 92 = .int .i64 slot := hd 56 (by decide)
          have h94 : x 94 = .int .i64 x1 := hd 58 (by decide)
          have h85 : x 85 = .bool false := hd 49 (by decide)
          refine wpOp_step rfl fun K hK => ?_
          simp only [h91, h92, h94, h85] at hK ⊢
          go_simp
          with_reducible refine (refNext_is c slot x1 nx HNX.out u (hCr.on hbu) HOK.out).mono ?_
          rintro e u' ⟨rfl, hb'⟩
          exact hK _ _ ⟨_, rfl, hb', fun d hd => by cases hd; exact rfl⟩
        · intro x u hbu hd
          have h90 : x 90 = .int .i64 nx := hd 54 (by decide)
          have h95 : x 95 = .int .i64 nx := hd 59 (by decide)
          have h85 : x 85 = .bool false := hd 49 (by decide)
          refine wpOp_step rfl fun K hK => ?_
          simp only [h90, h95, h85] at hK ⊢
          go_simp
          exact hK _ _ ⟨_, rfl, Below.refl _ _, fun d hd => by cases hd; exact rfl⟩
        · intro x u hbu hd
          have h85 : x 85 = .bool false := hd 49 (by decide)
          have h96 : x 96 = .bool false := hd 60 (by decide)
          refine wpOp_step rfl fun K hK => ?_
          simp only [h85, h96] at hK ⊢
          go_simp
          exact hK _ _ ⟨_, rfl, Below.refl _ _, fun d hd => by cases hd; exact rfl⟩
      · intro x' U1 hU1 hd
        have h97 : x' 97 = .bool false := hd 61 (by decide)
        simp only [Reg.frame, Reg.over, Nat.reduceAdd, Nat.reduceLeDiff, decide_true, decide_false, Bool.and_true, Bool.and_false, if_true, Bool.false_eq_true, if_false, h97]
        replace hr0 := hr0.on hU1
        replace hNr := hNr.on hU1
        replace hB0 := hB0.on hU1
        replace hCr := hCr.on hU1
        have hzU := hr0.size
        clear hX0 hWr hU1
        go_wp2_with fail
        (with_reducible refine (net_given _ (c.to A1 A2 A3 A4) U1 hNr).mono ?_)
        rintro e u2 ⟨G1, G2, G3, G4, rfl, oG0, a2⟩
        have oG : CfOwn u2 U1.heap.size (c.to G1 G2 G3 G4) := oG0
        replace hr0 := hr0.on a2
        replace hNr := hNr.on a2
        replace hB0 := hB0.on a2
        replace hCr := hCr.on a2
        have hzu2 := a2.size
        have rG1 := oG.p.at_ (Nat.le_refl _)
        have rG2 := oG.s.at_ (Nat.le_refl _)
        have rG3 := oG.b.at_ (Nat.le_refl _)
        have apG := oG.ap
        clear a2 oG0
        have hal : Below u2.heap.size u2 (u2.alloc (.cells #[.int .i64 c.N, .slice G1 c.pn c.pn, .slice G2 c.sn c.sn, .int .i64 c.L, .slice G3 c.bn c.bn, .slice G4 c.tn c.tn, .int .i64 c.M, .int .i64 c.G, .int .i64 c.F] 25)) := below_al (Below.refl _ _) _
        go_wp2_with fail
        (with_reducible refine (net_given _ (c.to A1 A2 A3 A4) _ (hNr.on hal)).mono ?_)
        rintro e u3 ⟨H1, H2, H3, H4, rfl, oH0, a3⟩
        have oH : CfOwn u3 (u2.heap.size + 1) (c.to H1 H2 H3 H4) := by have h := oH0; rw [alloc_size] at h; exact h
        have a23 := below_then hal a3
        have BG : Blk u3 u2.heap.size 25 #[.int .i64 c.N, .slice G1 c.pn c.pn, .slice G2 c.sn c.sn, .int .i64 c.L, .slice G3 c.bn c.bn, .slice G4 c.tn c.tn, .int .i64 c.M, .int .i64 c.G, .int .i64 c.F] := (Blk.new u2 _ _).on a3
        replace hr0 := hr0.on a23
        replace hNr := hNr.on a23
        replace hB0 := hB0.on a23
        replace hCr := hCr.on a23
        replace oG := oG.on a23
        have hzu3 := BG.lt
        have rH1 := oH.p.at_ (Nat.le_refl _)
        have rH2 := oH.s.at_ (Nat.le_refl _)
        have rH3 := oH.b.at_ (Nat.le_refl _)
        have apH := oH.ap
        clear a3 oH0 hal a23
        have hal2 : Below u3.heap.size u3 ((u3.alloc (.cells #[.int .i64 c.N, .slice H1 c.pn c.pn, .slice H2 c.sn c.sn, .int .i64 c.L, .slice H3 c.bn c.bn, .slice H4 c.tn c.tn, .int .i64 c.M, .int .i64 c.G, .int .i64 c.F] 25)).alloc (.cells #[.slice none 0 0, .slice none 0 0, .slice none 0 0, .bool false] 47)) := below_al (below_al (Below.refl _ _) _) _
        have BH : Blk ((u3.alloc (.cells #[.int .i64 c.N, .slice H1 c.pn c.pn, .slice H2 c.sn c.sn, .int .i64 c.L, .slice H3 c.bn c.bn, .slice H4 c.tn c.tn, .int .i64 c.M, .int .i64 c.G, .int .i64 c.F] 25)).alloc (.cells #[.slice none 0 0, .slice none 0 0, .slice none 0 0, .bool false] 47)) u3.heap.size 25 #[.int .i64 c.N, .slice H1 c.pn c.pn, .slice H2 c.sn c.sn, .int .i64 c.L, .slice H3 c.bn c.bn, .slice H4 c.tn c.tn, .int .i64 c.M, .int .i64 c.G, .int .i64 c.F] := (Blk.new u3 _ _).alloc _
        have hk0 := Blk.new (u3.alloc (.cells #[.int .i64 c.N, .slice H1 c.pn c.pn, .slice H2 c.sn c.sn, .int .i64 c.L, .slice H3 c.bn c.bn, .slice H4 c.tn c.tn, .int .i64 c.M, .int .i64 c.G, .int .i64 c.F] 25)) 47 #[.slice none 0 0, .slice none 0 0, .slice none 0 0, .bool false]
        rw [alloc_size] at hk0
        have hk := BookIs.empty hk0 (Nat.le_refl _)
        replace hr0 := hr0.on hal2
        replace hNr := hNr.on hal2
        replace hB0 := hB0.on hal2
        replace hCr := hCr.on hal2
        replace oG := oG.on hal2
        replace oH := oH.on hal2
        replace BG := BG.on hal2
        have hkb1 : w.heap.size ≤ u3.heap.size + 1 := by omega
        have hkb2 : w5.heap.size ≤ u3.heap.size + 1 := by omega
        clear hal2 hk0
        clear hNr
        have y1 := BG.cell 1
        simp only [List.getElem?_toArray, List.getElem?_cons_zero, List.getElem?_cons_succ] at y1
        go_wp2_with fail
        (with_reducible refine (bookNums _ _ _ _ _ _ _ _ _ _ _ hk (by simp)).mono ?_)
        rintro e v1 ⟨rfl, ⟨b1, hk'⟩, hbb, hkk⟩
        replace hr0 := hr0.book hbb hkb1 hkb2 hgi
        replace oG := oG.kept hkk (by decide) (by decide)
        replace oH := oH.kept hkk (by decide) (by decide)
        replace BG := hkk _ _ _ (by decide) BG
        replace BH := hkk _ _ _ (by decide) BH
        replace hB0 := hkk _ _ _ (by decide) hB0
        replace hCr := HC.out.on hr0.below
        clear y1 hk hbb hkk
        simp only [List.nil_append] at hk'
        have hk := hk'
        clear hk'
        have y2 := BG.cell 2
        simp only [List.getElem?_toArray, List.getElem?_cons_zero, List.getElem?_cons_succ] at y2
        go_wp2_with fail
        (with_reducible refine (bookNums _ _ _ _ _ _ _ _ _ _ _ hk (by simp)).mono ?_)
        rintro e v2 ⟨rfl, ⟨b2, hk'⟩, hbb, hkk⟩
        replace hr0 := hr0.book hbb hkb1 hkb2 hgi
        replace oG := oG.kept hkk (by decide) (by decide)
        replace oH := oH.kept hkk (by decide) (by decide)
        replace BG := hkk _ _ _ (by decide) BG
        replace BH := hkk _ _ _ (by decide) BH
        replace hB0 := hkk _ _ _ (by decide) hB0
        replace hCr := HC.out.on hr0.below
        clear y2 hk hbb hkk
        simp only [List.nil_append, List.cons_append] at hk'
        have hk := hk'
        clear hk'
        have y4 := BG.cell 4
        simp only [List.getElem?_toArray, List.getElem?_cons_zero, List.getElem?_cons_succ] at y4
        go_wp2_with fail
        (with_reducible refine (bookNums _ _ _ _ _ _ _ _ _ _ _ hk (by simp)).mono ?_)
        rintro e v3 ⟨rfl, ⟨b3, hk'⟩, hbb, hkk⟩
        replace hr0 := hr0.book hbb hkb1 hkb2 hgi
        replace oG := oG.kept hkk (by decide) (by decide)
        replace oH := oH.kept hkk (by decide) (by decide)
        replace BG := hkk _ _ _ (by decide) BG
        replace BH := hkk _ _ _ (by decide) BH
        replace hB0 := hkk _ _ _ (by decide) hB0
        replace hCr := HC.out.on hr0.below
        clear y4 hk hbb hkk
        simp only [List.nil_append, List.cons_append] at hk'
        have hk := hk'
        clear hk'
        obtain ⟨k0, k1, k2, k3, k4, k5, k6, k7, k8⟩ := hB0.cf
        obtain ⟨j0, j1, j2, j3, j4, j5, j6, j7, j8⟩ := Blk.cf (c := c.to G1 G2 G3 G4) BG
        go_wp2_with fail
        (with_reducible refine (sameConfig_true (c.to G1 G2 G3 G4) c _ ⟨rfl, rfl, rfl, rfl, rfl, rfl, rfl, rfl, rfl, rfl, rfl, rfl, rfl⟩ oG.in_ hCr).mono ?_)
        rintro e v4 ⟨rfl, a4⟩
        replace hr0 := hr0.on a4
        replace oG := oG.on a4
        replace oH := oH.on a4
        replace BG := BG.on a4
        replace BH := BH.on a4
        replace hB0 := hB0.on a4
        replace hk := hk.below a4
        clear a4 k0 k1 k2 k3 k4 k5 k6 k7 k8 j0 j1 j2 j3 j4 j5 j6 j7 j8
        have y1 := BH.cell 1
        simp only [List.getElem?_toArray, List.getElem?_cons_zero, List.getElem?_cons_succ] at y1
        go_wp2_with fail
        (with_reducible refine (bookNums _ _ _ _ _ _ _ _ _ _ _ hk (by simp)).mono ?_)
        rintro e v5 ⟨rfl, ⟨b5, hk'⟩, hbb, hkk⟩
        replace hr0 := hr0.book hbb hkb1 hkb2 hgi
        replace oG := oG.kept hkk (by decide) (by decide)
        replace oH := oH.kept hkk (by decide) (by decide)
        replace BG := hkk _ _ _ (by decide) BG
        replace BH := hkk _ _ _ (by decide) BH
        replace hB0 := hkk _ _ _ (by decide) hB0
        replace hCr := HC.out.on hr0.below
        clear y1 hk hbb hkk
        simp only [List.nil_append, List.cons_append] at hk'
        have hk := hk'
        clear hk'
        have y2 := BH.cell 2
        simp only [List.getElem?_toArray, List.getElem?_cons_zero, List.getElem?_cons_succ] at y2
        go_wp2_with fail
        (with_reducible refine (bookNums _ _ _ _ _ _ _ _ _ _ _ hk (by simp)).mono ?_)
        rintro e v6 ⟨rfl, ⟨b6, hk'⟩, hbb, hkk⟩
        replace hr0 := hr0.book hbb hkb1 hkb2 hgi
        replace oG := oG.kept hkk (by decide) (by decide)
        replace oH := oH.kept hkk (by decide) (by decide)
        replace BG := hkk _ _ _ (by decide) BG
        replace BH := hkk _ _ _ (by decide) BH
        replace hB0 := hkk _ _ _ (by decide) hB0
        replace hCr := HC.out.on hr0.below
        clear y2 hk hbb hkk
        simp only [List.nil_append, List.cons_append] at hk'
        have hk := hk'
        clear hk'
        have y4 := BH.cell 4
        simp only [List.getElem?_toArray, List.getElem?_cons_zero, List.getElem?_cons_succ] at y4
        go_wp2_with fail
        (with_reducible refine (bookNums _ _ _ _ _ _ _ _ _ _ _ hk (by simp)).mono ?_)
        rintro e v7 ⟨rfl, ⟨b7, hk'⟩, hbb, hkk⟩
        replace hr0 := hr0.book hbb hkb1 hkb2 hgi
        replace oG := oG.kept hkk (by decide) (by decide)
        replace oH := oH.kept hkk (by decide) (by decide)
        replace BG := hkk _ _ _ (by decide) BG
        replace BH := hkk _ _ _ (by decide) BH
        replace hB0 := hkk _ _ _ (by decide) hB0
        replace hCr := HC.out.on hr0.below
        clear y4 hk hbb hkk
        simp only [List.nil_append, List.cons_append] at hk'
        have hk := hk'
        clear hk'
        have hV := HV0.out _ hr0
        have y1 := hV.cell 1
        simp only [List.getElem?_toArray, List.getElem?_cons_zero, List.getElem?_cons_succ] at y1
        have z1 := hB0.cell 1
        simp only [List.getElem?_toArray, List.getElem?_cons_zero, List.getElem?_cons_succ] at z1
        go_wp2_with fail
        (with_reducible refine (bookNums _ _ _ _ _ _ _ _ _ _ _ hk (by simp)).mono ?_)
        rintro e v8 ⟨rfl, ⟨b8, hk'⟩, hbb, hkk⟩
        replace hr0 := hr0.book hbb hkb1 hkb2 hgi
        replace oG := oG.kept hkk (by decide) (by decide)
        replace oH := oH.kept hkk (by decide) (by decide)
        replace BG := hkk _ _ _ (by decide) BG
        replace BH := hkk _ _ _ (by decide) BH
        replace hB0 := hkk _ _ _ (by decide) hB0
        replace hCr := HC.out.on hr0.below
        clear hV y1 z1 hk hbb hkk
        simp only [List.nil_append, List.cons_append] at hk'
        have hk := hk'
        clear hk'
        have hV := HV0.out _ hr0
        have y2 := hV.cell 2
        simp only [List.getElem?_toArray, List.getElem?_cons_zero, List.getElem?_cons_succ] at y2
        have z2 := hB0.cell 2
        simp only [List.getElem?_toArray, List.getElem?_cons_zero, List.getElem?_cons_succ] at z2
        go_wp2_with fail
        (with_reducible refine (bookNums _ _ _ _ _ _ _ _ _ _ _ hk (by simp)).mono ?_)
        rintro e v9 ⟨rfl, ⟨b9, hk'⟩, hbb, hkk⟩
        replace hr0 := hr0.book hbb hkb1 hkb2 hgi
        replace oG := oG.kept hkk (by decide) (by decide)
        replace oH := oH.kept hkk (by decide) (by decide)
        replace BG := hkk _ _ _ (by decide) BG
        replace BH := hkk _ _ _ (by decide) BH
        replace hB0 := hkk _ _ _ (by decide) hB0
        replace hCr := HC.out.on hr0.below
        clear hV y2 z2 hk hbb hkk
        simp only [List.nil_append, List.cons_append] at hk'
        have hk := hk'
        clear hk'
        have hV := HV0.out _ hr0
        have y4 := hV.cell 4
        simp only [List.getElem?_toArray, List.getElem?_cons_zero, List.getElem?_cons_succ] at y4
        have z4 := hB0.cell 4
        simp only [List.getElem?_toArray, List.getElem?_cons_zero, List.getElem?_cons_succ] at z4
        go_wp2_with fail
        (with_reducible refine (bookNums _ _ _ _ _ _ _ _ _ _ _ hk (by simp)).mono ?_)
        rintro e v10 ⟨rfl, ⟨b10, hk'⟩, hbb, hkk⟩
        replace hr0 := hr0.book hbb hkb1 hkb2 hgi
        replace oG := oG.kept hkk (by decide) (by decide)
        replace oH := oH.kept hkk (by decide) (by decide)
        replace BG := hkk _ _ _ (by decide) BG
        replace BH := hkk _ _ _ (by decide) BH
        replace hB0 := hkk _ _ _ (by decide) hB0
        replace hCr := HC.out.on hr0.below
        clear hV y4 z4 hk hbb hkk
        simp only [List.nil_append, List.cons_append] at hk'
        have hk := hk'
        clear hk'
        have hent : Ents _ 3 w.heap.size [(G1, c.pn), (G2, c.sn), (G3, c.bn), (H1, c.pn), (H2, c.sn), (H3, c.bn), (some ⟨g1, 0, none⟩, c.pn), (some ⟨g2, 0, none⟩, c.sn), (some ⟨g3, 0, none⟩, c.bn)] :=
          ents_cons (oG.p.ent (by omega)) (ents_cons (oG.s.ent (by omega)) (ents_cons (oG.b.ent (by omega)) (ents_cons (oH.p.ent (by omega)) (ents_cons (oH.s.ent (by omega)) (ents_cons (oH.b.ent (by omega))
            (ents_cons (fun _ => by obtain ⟨cs, hB, hl⟩ := hr0.n1; exact ⟨g1, cs, rfl, by omega, hB, hl⟩) (ents_cons (fun _ => by obtain ⟨cs, hB, hl⟩ := hr0.n2; exact ⟨g2, cs, rfl, by omega, hB, hl⟩) (ents_cons (fun _ => by obtain ⟨cs, hB, hl⟩ := hr0.n3; exact ⟨g3, cs, rfl, by omega, hB, hl⟩) ents0))))))))
        have hT1 : ∀ m, 0 < m → ∃ g, (some ⟨g1, 0, none⟩ : Option Addr) = some ⟨g, 0, none⟩ ∧ g < w5.heap.size := fun _ _ => ⟨g1, rfl, by omega⟩
        have hT2 : ∀ m, 0 < m → ∃ g, (some ⟨g2, 0, none⟩ : Option Addr) = some ⟨g, 0, none⟩ ∧ g < w5.heap.size := fun _ _ => ⟨g2, rfl, by omega⟩
        have hT3 : ∀ m, 0 < m → ∃ g, (some ⟨g3, 0, none⟩ : Option Addr) = some ⟨g, 0, none⟩ ∧ g < w5.heap.size := fun _ _ => ⟨g3, rfl, by omega⟩
        have loG : ∀ {A : Option Addr} {n : Nat}, (0 < n → ∃ g, A = some ⟨g, 0, none⟩ ∧ U1.heap.size ≤ g ∧ g < u2.heap.size) → 0 < n → ∃ g, A = some ⟨g, 0, none⟩ ∧ w5.heap.size ≤ g := fun h hn => by obtain ⟨g, e, q, _⟩ := h hn; exact ⟨g, e, by omega⟩
        have hiG : ∀ {A : Option Addr} {n : Nat}, (0 < n → ∃ g, A = some ⟨g, 0, none⟩ ∧ U1.heap.size ≤ g ∧ g < u2.heap.size) → 0 < n → ∃ g, A = some ⟨g, 0, none⟩ ∧ g < u2.heap.size + 1 := fun h hn => by obtain ⟨g, e, _, q⟩ := h hn; exact ⟨g, e, by omega⟩
        have loH : ∀ {A : Option Addr} {n : Nat}, (0 < n → ∃ g, A = some ⟨g, 0, none⟩ ∧ u2.heap.size + 1 ≤ g ∧ g < u3.heap.size) → 0 < n → ∃ g, A = some ⟨g, 0, none⟩ ∧ u2.heap.size + 1 ≤ g := fun h hn => by obtain ⟨g, e, q, _⟩ := h hn; exact ⟨g, e, q⟩
        have loH5 : ∀ {A : Option Addr} {n : Nat}, (0 < n → ∃ g, A = some ⟨g, 0, none⟩ ∧ u2.heap.size + 1 ≤ g ∧ g < u3.heap.size) → 0 < n → ∃ g, A = some ⟨g, 0, none⟩ ∧ w5.heap.size ≤ g := fun h hn => by obtain ⟨g, e, q, _⟩ := h hn; exact ⟨g, e, by omega⟩
        have sw : ∀ {A B : Option Addr} {n m : Nat}, (0 < n → 0 < m → A ≠ B) → 0 < m → 0 < n → B ≠ A := fun h a b e => h b a e.symm
        have hdist : Dist [(G1, c.pn), (G2, c.sn), (G3, c.bn), (H1, c.pn), (H2, c.sn), (H3, c.bn), (some ⟨g1, 0, none⟩, c.pn), (some ⟨g2, 0, none⟩, c.sn), (some ⟨g3, 0, none⟩, c.bn)] := (dist_cons (fun q hq => by
            simp only [List.mem_cons, List.not_mem_nil, or_false] at hq
            rcases hq with rfl | rfl | rfl | rfl | rfl | rfl | rfl | rfl
            · exact apG.1
            · exact apG.2.1
            · exact (ne_range (hiG rG1) (loH rH1))
            · exact (ne_range (hiG rG1) (loH rH2))
            · exact (ne_range (hiG rG1) (loH rH3))
            · exact (sw (ne_range (hT1 _) (loG rG1)))
            · exact (sw (ne_range (hT2 _) (loG rG1)))
            · exact (sw (ne_range (hT3 _) (loG rG1)))) (dist_cons (fun q hq => by
            simp only [List.mem_cons, List.not_mem_nil, or_false] at hq
            rcases hq with rfl | rfl | rfl | rfl | rfl | rfl | rfl
            · exact apG.2.2
            · exact (ne_range (hiG rG2) (loH rH1))
            · exact (ne_range (hiG rG2) (loH rH2))
            · exact (ne_range (hiG rG2) (loH rH3))
            · exact (sw (ne_range (hT1 _) (loG rG2)))
            · exact (sw (ne_range (hT2 _) (loG rG2)))
            · exact (sw (ne_range (hT3 _) (loG rG2)))) (dist_cons (fun q hq => by
            simp only [List.mem_cons, List.not_mem_nil, or_false] at hq
            rcases hq with rfl | rfl | rfl | rfl | rfl | rfl
            · exact (ne_range (hiG rG3) (loH rH1))
            · exact (ne_range (hiG rG3) (loH rH2))
            · exact (ne_range (hiG rG3) (loH rH3))
            · exact (sw (ne_range (hT1 _) (loG rG3)))
            · exact (sw (ne_range (hT2 _) (loG rG3)))
            · exact (sw (ne_range (hT3 _) (loG rG3)))) (dist_cons (fun q hq => by
            simp only [List.mem_cons, List.not_mem_nil, or_false] at hq
            rcases hq with rfl | rfl | rfl | rfl | rfl
            · exact apH.1
            · exact apH.2.1
            · exact (sw (ne_range (hT1 _) (loH5 rH1)))
            · exact (sw (ne_range (hT2 _) (loH5 rH1)))
            · exact (sw (ne_range (hT3 _) (loH5 rH1)))) (dist_cons (fun q hq => by
            simp only [List.mem_cons, List.not_mem_nil, or_false] at hq
            rcases hq with rfl | rfl | rfl | rfl
            · exact apH.2.2
            · exact (sw (ne_range (hT1 _) (loH5 rH2)))
            · exact (sw (ne_range (hT2 _) (loH5 rH2)))
            · exact (sw (ne_range (hT3 _) (loH5 rH2)))) (dist_cons (fun q hq => by
            simp only [List.mem_cons, List.not_mem_nil, or_false] at hq
            rcases hq with rfl | rfl | rfl
            · exact (sw (ne_range (hT1 _) (loH5 rH3)))
            · exact (sw (ne_range (hT2 _) (loH5 rH3)))
            · exact (sw (ne_range (hT3 _) (loH5 rH3)))) (dist_cons (fun q hq => by
            simp only [List.mem_cons, List.not_mem_nil, or_false] at hq
            rcases hq with rfl | rfl
            · exact (fun _ _ => addr_ne (by omega))
            · exact (fun _ _ => addr_ne (by omega))) (dist_cons (fun q hq => by
            simp only [List.mem_cons, List.not_mem_nil, or_false] at hq
            subst hq
            exact (fun _ _ => addr_ne (by omega))) (dist_cons (fun _ h => by cases h) dist0)))))))))
        have hEE : ∀ g, (∃ p ∈ [(G1, c.pn), (G2, c.sn), (G3, c.bn), (H1, c.pn), (H2, c.sn), (H3, c.bn), (some ⟨g1, 0, none⟩, c.pn), (some ⟨g2, 0, none⟩, c.sn), (some ⟨g3, 0, none⟩, c.bn)], 0 < p.2 ∧ p.1 = some ⟨g, 0, none⟩) → g = g1 ∨ g = g2 ∨ g = g3 ∨ w5.heap.size ≤ g := fun g hE => by
          obtain ⟨p, hp, hn, he⟩ := hE
          have key : ∀ {A : Option Addr} {n : Nat}, (0 < n → ∃ g, A = some ⟨g, 0, none⟩ ∧ w5.heap.size ≤ g) → 0 < n → A = some ⟨g, 0, none⟩ → w5.heap.size ≤ g := fun h hn e => by
            obtain ⟨g', e', q⟩ := h hn
            rw [e'] at e
            injection e with e
            injection e with e
            omega
          have key2 : ∀ g' : Nat, (some ⟨g', 0, none⟩ : Option Addr) = some ⟨g, 0, none⟩ → g = g' := fun g' e => by
            injection e with e
            injection e with e
            exact e.symm
          simp only [List.mem_cons, List.not_mem_nil, or_false] at hp
          rcases hp with rfl | rfl | rfl | rfl | rfl | rfl | rfl | rfl | rfl
          · exact .inr (.inr (.inr (key (loG rG1) hn he)))
          · exact .inr (.inr (.inr (key (loG rG2) hn he)))
          · exact .inr (.inr (.inr (key (loG rG3) hn he)))
          · exact .inr (.inr (.inr (key (loH5 rH1) hn he)))
          · exact .inr (.inr (.inr (key (loH5 rH2) hn he)))
          · exact .inr (.inr (.inr (key (loH5 rH3) hn he)))
          · exact .inl (key2 _ he)
          · exact .inr (.inl (key2 _ he))
          · exact .inr (.inr (.inl (key2 _ he)))
        have hsz9 : ∀ p ∈ [(G1, c.pn), (G2, c.sn), (G3, c.bn), (H1, c.pn), (H2, c.sn), (H3, c.bn), (some ⟨g1, 0, none⟩, c.pn), (some ⟨g2, 0, none⟩, c.sn), (some ⟨g3, 0, none⟩, c.bn)], p.2 ≤ 65536 := by
          simp only [List.forall_mem_cons]
          exact ⟨f1, f2, f3, f1, f2, f3, f1, f2, f3, by simp⟩
        clear hT1 hT2 hT3 sw
        go_wp2_with fail
        (with_reducible refine (apart_only _ _ _ w.heap.size _ _ _ _ _ _ (hk.mono hkb1) (by simp) (by simp) (by simp) (by simp) hsz9 (by simp) ents0 hent ents0 dist0 hdist dist0 (ofEnts_nil _) (ofEnts_self _) (ofEnts_nil _)).mono ?_)
        rintro e v11 ⟨rfl, hsm⟩
        replace hr0 := hr0.apart hsm hEE
        replace BG := hsm.other _ _ _ (by decide) BG
        have hS0 : 0 < c.tn → ∃ gS cs, G4 = some ⟨gS, 0, none⟩ ∧ w5.heap.size ≤ gS ∧ Blk v11 gS 51 cs ∧ cs.size = c.tn * 3 := fun h => by
          obtain ⟨gS, e, hgS, hBS⟩ := (oG.t.kept hsm.other (by decide)).2 h
          exact ⟨gS, _, e, by omega, hBS, by rw [List.size_toArray, stCells_len, oG.t.1]⟩
        clear hsm hEE hsz9 hent hdist hk oG oH BH hB0 hCr rG1 rG2 rG3 rH1 rH2 rH3 apG apH loG hiG loH loH5 hct1 hct2 hct3 HR HO0 HF0 HP0 HQ0 HNX hkb1 hkb2
        obtain ⟨j0, j1, j2, j3, j4, j5, j6, j7, j8⟩ := Blk.cf (c := c.to G1 G2 G3 G4) BG
        go_wp2_with fail
        clear j0 j1 j2 j3 j4 j5 j6 j7 j8
        have hz11 := hr0.size
        go_loopw [14] (fun s wy => ∃ i : Nat, i ≤ c.tn ∧ s = .int .i64 i ∧ AskF w w5 wy c g1 g2 g3 g4 ∧ Blk wy u2.heap.size 25 #[.int .i64 c.N, .slice G1 c.pn c.pn, .slice G2 c.sn c.sn, .int .i64 c.L, .slice G3 c.bn c.bn, .slice G4 c.tn c.tn, .int .i64 c.M, .int .i64 c.G, .int .i64 c.F] ∧ (0 < c.tn → ∃ gS cs, G4 = some ⟨gS, 0, none⟩ ∧ w5.heap.size ≤ gS ∧ Blk wy gS 51 cs ∧ cs.size = c.tn * 3)) (fun s _ => c.tn - (intOf s).toNat)
        case atStart => exact ⟨0, Nat.zero_le _, rfl, hr0, BG, hS0⟩
        case round =>
          clear hr0 BG hS0
          obtain ⟨i, hi, rfl, hr0, BG, hS0⟩ := hrel
          have hj5 := BG.cell 5
          simp only [List.getElem?_toArray, List.getElem?_cons_zero, List.getElem?_cons_succ] at hj5
          by_cases hlt : i < c.tn
          · have hlti : (i : Int) < (c.tn : Int) := by omega
            obtain ⟨gS, cs, hG4, hgS, hBS, hcs⟩ := hS0 (by omega)
            have hix1 := fun W => idxSts (n := c.tn) c.tn (k := i) hG4 hlt W
            have hix2 := fun W => idxSts (n := c.tn) c4 (k := i) (b := g4) (off := 0) rfl hlt W
            simp only [Nat.zero_add] at hix1 hix2
            have hc1 := hBS.cell (i * 3)
            rw [Array.getElem?_eq_getElem (by omega)] at hc1
            obtain ⟨old, hold⟩ : ∃ old, old = cs[i * 3]'(by omega) := ⟨_, rfl⟩
            rw [← hold] at hc1
            clear hold
            have hf1 := hBS.frozen (i * 3)
            have hne : u2.heap.size ≠ gS := BG.ne hBS (by decide)
            have hr1 := hr0.store (b := gS) (off := i * 3) (.inr hgS) (by omega) hgi hne4 (.int .i64 (-9))
            have hV := HV0.out _ hr1
            have hv5 := hV.cell 5
            simp only [List.getElem?_toArray, List.getElem?_cons_zero, List.getElem?_cons_succ] at hv5
            obtain ⟨cs', hB4', hl4⟩ := hr1.n4
            have hc2 := hB4'.cell (i * 3)
            rw [Array.getElem?_eq_getElem (by omega)] at hc2
            obtain ⟨old', hold⟩ : ∃ old, old = cs'[i * 3]'(by omega) := ⟨_, rfl⟩
            rw [← hold] at hc2
            clear hold
            have hf2 := hB4'.frozen (i * 3)
            have hr2 := hr1.store (b := g4) (off := i * 3) (.inl rfl) (by omega) hgi hne4 (.int .i64 (-9))
            have hBG2 := (BG.far_ (p := ⟨gS, i * 3, none⟩) hne (.int .i64 (-9))).far_ (p := ⟨g4, i * 3, none⟩) (by simp only; omega) (.int .i64 (-9))
            have hBS2 := (hBS.set_ (i * 3) (.int .i64 (-9))).far_ (p := ⟨g4, i * 3, none⟩) (by simp only; omega) (.int .i64 (-9))
            go_wp2_with fail
            go_roundw
            case rel => exact ⟨i + 1, by omega, by go_num, hr2, hBG2, fun _ => ⟨gS, _, hG4, hgS, hBS2, by simpa using hcs⟩⟩
            case measure => simp [intOf]; omega
          · have hlti : (c.tn : Int) ≤ (i : Int) := by omega
            obtain rfl : i = c.tn := by omega
            go_wp2_with fail
            go_roundw
            case rel => exact ⟨r + 1, by omega, by go_num, hr0⟩
            case measure => simp [intOf]; omega
    · have hlti : (2 : Int) ≤ (r : Int) := by omega
      obtain rfl : r = 2 := by omega
      go_wp2_with fail
      refine Reg.wp_slots (fun t => t == 6 || decide (174 ≤ t)) (by kernel_rfl) (by kernel_rfl) (by kernel_rfl) (fun zz => (Reg.tbl [
        (174, .is (.pointer (some ⟨gN, 0, none⟩))),
        (175, .cpy c w.heap.size),
        (176, .is (.agg #[.int .i64 c.N, .slice c.pA c.pn c.pc, .slice c.sA c.sn c.sc, .int .i64 c.L, .slice c.bA c.bn c.bc, .slice c.tA c.tn c.tc, .int .i64 c.M, .int .i64 c.G, .int .i64 c.F])),
        (177, .is (.bool true)),
        (178, .is (.bool true)),
        (179, .is (.bool true)),
        (180, .is (.bool true)),
        (6, .is (.bool true))] zz).P) (fun zz => (Reg.tbl _ zz).on) ?_ ?_
      · simp only [Reg.frame, Reg.over, Nat.reduceAdd, Nat.reduceBEq, Nat.reduceLeDiff, decide_true, decide_false, Bool.or_true, Bool.or_false, if_true, Bool.false_eq_true, if_false]
        refine ⟨?_, ?_, ?_, ?_, ?_, ?_, ?_, ?_, trivial⟩
        · intro x u hbu hd
          refine wpOp_step rfl fun K hK => ?_
          go_simp
          exact hK _ _ ⟨_, rfl, Below.refl _ _, fun d hd => by cases hd; exact rfl⟩
        · intro x u hbu hd
          have h174 : x 174 = .pointer (some ⟨gN, 0, none⟩) := hd 0 (by decide)
          refine wpOp_step rfl fun K hK => ?_
          simp only [h174] at hK ⊢
          go_simp
          with_reducible refine (net_given _ (c.to A1 A2 A3 A4) u (hNr.on hbu)).mono ?_
          rintro e u' ⟨K1, K2, K3, K4, rfl, oK, hb'⟩
          exact hK _ _ ⟨_, rfl, hb', fun d hd => by cases hd; exact ⟨K1, K2, K3, K4, rfl, CfOwn.mono oK (hr0.below.trans (hbu.mono (Nat.le_trans hr0.below.size (Nat.le_refl _)))).size⟩⟩
        · intro x u hbu hd
          obtain ⟨z0, z1, z2, z3, z4, z5, z6, z7, z8⟩ := (hB0.on hbu).cf
          refine wpOp_step rfl fun K hK => ?_
          go_simp
          exact hK _ _ ⟨_, rfl, Below.refl _ _, fun d hd => by cases hd; exact rfl⟩
        · intro x u hbu hd
          have k175 : (Reg.Fact.cpy c w.heap.size : Reg.Fact).P (x 175) u := hd 1 (by decide)
          obtain ⟨A175, B175, C175, D175, h175, o175⟩ := k175
          have h176 : x 176 = .agg #[.int .i64 c.N, .slice c.pA c.pn c.pc, .slice c.sA c.sn c.sc, .int .i64 c.L, .slice c.bA c.bn c.bc, .slice c.tA c.tn c.tc, .int .i64 c.M, .int .i64 c.G, .int .i64 c.F] := hd 2 (by decide)
          refine wpOp_step rfl fun K hK => ?_
          simp only [h175, h176] at hK ⊢
          go_simp
          with_reducible refine (sameConfig_true (c.to A175 B175 C175 D175) c u ⟨rfl, rfl, rfl, rfl, rfl, rfl, rfl, rfl, rfl, rfl, rfl, rfl, rfl⟩ o175.in_ (hCr.on hbu)).mono ?_
          rintro e u' ⟨rfl, hb'⟩
          exact hK _ _ ⟨_, rfl, hb', fun d hd => by cases hd; exact rfl⟩
        · intro x u hbu hd
          have h177 : x 177 = .bool true := hd 3 (by decide)
          refine wpOp_step rfl fun K hK => ?_
          simp only [h177] at hK ⊢
          go_simp
          exact hK _ _ ⟨_, rfl, Below.refl _ _, fun d hd => by cases hd; exact rfl⟩
        · intro x u hbu hd
          have h178 : x 178 = .bool true := hd 4 (by decide)
          refine wpOp_step rfl fun K hK => ?_
          simp only [h178] at hK ⊢
          go_simp
          with_reducible refine (lives_any u (hWr.on hbu)).mono ?_
          rintro e u' ⟨rfl, hb'⟩
          exact hK _ _ ⟨_, rfl, hb', fun d hd => by cases hd; exact rfl⟩
        · intro x u hbu hd
          have h178 : x 178 = .bool true := hd 4 (by decide)
          have h179 : x 179 = .bool true := hd 5 (by decide)
          refine wpOp_step rfl fun K hK => ?_
          simp only [h178, h179] at hK ⊢
          go_simp
          exact hK _ _ ⟨_, rfl, Below.refl _ _, fun d hd => by cases hd; exact rfl⟩
        · intro x u hbu hd
          have h180 : x 180 = .bool true := hd 6 (by decide)
          refine wpOp_step rfl fun K hK => ?_
          simp only [h180] at hK ⊢
          go_simp
          exact hK _ _ ⟨_, rfl, Below.refl _ _, fun d hd => by cases hd; exact rfl⟩
      · intro x' U1 hU1 hd
        have h6 : x' 6 = .bool true := hd 7 (by decide)
        simp only [Reg.frame, Reg.over, Nat.reduceAdd, Nat.reduceBEq, Nat.reduceLeDiff, decide_true, decide_false, Bool.or_true, Bool.or_false, if_true, Bool.false_eq_true, if_false, h6]
        go_wp2_with fail
        go_ret
        exact ⟨rfl, below_then hr0.below hU1⟩
theorem configsAsk_walk (c : Cf) (x0 x1 slot : Int) (w : World) (hw : Ways w) (hr : CfRaw w c) (_ : (Lit.int .i64 x0).wf = true) (_ : (Lit.int .i64 x1).wf = true) (_ : (Lit.int .i64 slot).wf = true) :
    Calls Tryd.prog 4 #[.agg #[.int .i64 c.N, .slice c.pA c.pn c.pc, .slice c.sA c.sn c.sc, .int .i64 c.L, .slice c.bA c.bn c.bc, .slice c.tA c.tn c.tc, .int .i64 c.M, .int .i64 c.G, .int .i64 c.F], .agg #[.int .i64 x0, .int .i64 x1], .int .i64 slot] w fun e w' => e = .returned (.bool true) ∧ Below w.heap.size w w' := by
  by_cases hg : greatB c = true
  · exact ask_great c x0 x1 slot w hw hg
  · have hg := bfalse hg
    obtain ⟨hc, _⟩ := hr.small hg
    by_cases h0 : newE c = 0
    · exact ask_yes c x0 x1 slot w hw hc hg h0
    · exact ask_no c x0 x1 slot w hw hc hg h0
end Go.Proofs.YtibniadebbgjcaaDoor
