/-
  The contract of the law's lives: the chapter's examples: true; nothing that was there has turned. Condition: the table of directions is as the program's text lays it.
-/
import Derived.Test.YtibniadebbgjcaaDoorCfL
namespace Go.Proofs.YtibniadebbgjcaaDoor
open Go.RowKit Rg

theorem NewPost.yes {c : Cf} {w : World} {e : Ending} {w' : World} (h : NewPost c w e w') (h0 : newE c = 0) : ∃ (g : Nat) (A1 A2 A3 A4 : Option Addr), e = .returned (.tuple #[.pointer (some ⟨g, 0, none⟩), .int .i64 0]) ∧ w.heap.size ≤ g ∧ NetIs w' (.pointer (some ⟨g, 0, none⟩)) (c.to A1 A2 A3 A4) ∧ CfOwn w' w.heap.size (c.to A1 A2 A3 A4) ∧ Below w.heap.size w w' := by
  obtain ⟨hb, ⟨h1, _⟩ | ⟨_, g, b, A1, A2, A3, A4, rfl, hg, hB, ho⟩⟩ := h
  · exact absurd h0 h1
  · exact ⟨g, A1, A2, A3, A4, rfl, hg, .inr ⟨g, b, rfl, hB, ho.in_⟩, ho, hb⟩
theorem new_yes (c : Cf) (w : World) (hc : CfIn w c) (hw : Ways w) (h0 : newE c = 0) :
    Calls Tryd.prog 12 #[.agg #[.int .i64 c.N, .slice c.pA c.pn c.pc, .slice c.sA c.sn c.sc, .int .i64 c.L, .slice c.bA c.bn c.bc, .slice c.tA c.tn c.tc, .int .i64 c.M, .int .i64 c.G, .int .i64 c.F]] w fun e w' => ∃ (g : Nat) (A1 A2 A3 A4 : Option Addr), e = .returned (.tuple #[.pointer (some ⟨g, 0, none⟩), .int .i64 0]) ∧ w.heap.size ≤ g ∧ NetIs w' (.pointer (some ⟨g, 0, none⟩)) (c.to A1 A2 A3 A4) ∧ CfOwn w' w.heap.size (c.to A1 A2 A3 A4) ∧ Below w.heap.size w w' :=
  (new_any c w hc hw).mono fun _ _ h => h.yes h0
theorem new_no (c : Cf) (w : World) (hc : CfIn w c) (hw : Ways w) (h0 : newE c ≠ 0) :
    Calls Tryd.prog 12 #[.agg #[.int .i64 c.N, .slice c.pA c.pn c.pc, .slice c.sA c.sn c.sc, .int .i64 c.L, .slice c.bA c.bn c.bc, .slice c.tA c.tn c.tc, .int .i64 c.M, .int .i64 c.G, .int .i64 c.F]] w fun e w' => e = .returned (.tuple #[.pointer none, .int .i64 (newE c)]) ∧ Below w.heap.size w w' :=
  (new_any c w hc hw).mono fun _ _ h => by
    obtain ⟨hb, ⟨_, e⟩ | ⟨h1, _⟩⟩ := h
    · exact ⟨e, hb⟩
    · exact absurd h1 h0
theorem wrong_is (c : Cf) (r : Int) (hr : newE c = r) (w : World) (hc : CfIn w c) (hw : Ways w) :
    Calls Tryd.prog 32 #[.agg #[.int .i64 c.N, .slice c.pA c.pn c.pc, .slice c.sA c.sn c.sc, .int .i64 c.L, .slice c.bA c.bn c.bc, .slice c.tA c.tn c.tc, .int .i64 c.M, .int .i64 c.G, .int .i64 c.F]] w fun e w' => e = .returned (.int .i64 r) ∧ Below w.heap.size w w' := by
  subst hr; exact wrong_any c w hc hw
theorem round_is (v : Value) (c : Cf) (r : Int) (hr : (c.sn : Int) * c.L = r) (w : World) (hn : NetIs w v c) (hL : 0 ≤ c.L) (hL2 : c.L ≤ 4096) :
    Calls Tryd.prog 15 #[v] w fun e w' => e = .returned (.int .i64 r) ∧ Below w.heap.size w w' := by
  subst hr; exact net_round v c w hn hL hL2
theorem owner_is (v : Value) (c : Cf) (x r : Int) (hr : atM c.S x = r) (w : World) (hn : NetIs w v c) :
    Calls Tryd.prog 17 #[v, .int .i64 x] w fun e w' => e = .returned (.int .i64 r) ∧ Below w.heap.size w w' := by
  subst hr; exact net_owner v c x w hn
theorem partner_is (v : Value) (c : Cf) (x r : Int) (hr : partM c.N c.P x = r) (w : World) (hn : NetIs w v c) (hw : Ways w) :
    Calls Tryd.prog 23 #[v, .int .i64 x] w fun e w' => e = .returned (.int .i64 r) ∧ Below w.heap.size w w' := by
  subst hr; exact net_partner v c x w hn hw
theorem next_is (v : Value) (c : Cf) (s p r : Int) (hr : nextM c.S s p = r) (w : World) (hn : NetIs w v c) :
    Calls Tryd.prog 25 #[v, .int .i64 s, .int .i64 p] w fun e w' => e = .returned (.int .i64 r) ∧ Below w.heap.size w w' := by
  subst hr; exact net_next v c s p w hn

theorem small_ok (A1 A2 A3 : Option Addr) : newE (smallCf A1 A2 A3) = 0 := rfl
theorem small_long (A1 A2 A3 : Option Addr) : newE { smallCf A1 A2 A3 with L := 119 } = 1 := rfl
theorem small_many (A1 A2 A3 : Option Addr) : newE { smallCf A1 A2 A3 with N := 17 } = 3 := rfl
theorem small_near (A1 A2 A3 : Option Addr) : newE { smallCf A1 A2 A3 with P := [0, 1] } = 1 := rfl
theorem small_over (A1 A2 A3 : Option Addr) : newE { smallCf A1 A2 A3 with P := [0, 3] } = 1 := rfl
theorem ex_owner : atM [0, 1, 1] 2 = 1 := by decide
theorem ex_pair : pairM 4 [0, 2] 3 = 1 := by decide
theorem ex_partner : partM 4 [0, 2] 3 = 2 := by decide
theorem ex_next : nextM [0, 1, 1] 3 1 = 4 := by decide
set_option maxRecDepth 100000 in
theorem lives_any (w : World) (hw : Ways w) :
    Calls Tryd.prog 10 #[] w fun e w' => e = .returned (.bool true) ∧ Below w.heap.size w w' := by
  go_enter Tryd.func10, Tryd.ntmps10
  go_wp2_with (first
    | (go_at_call 33; (with_reducible refine (small_any w).mono ?_); rintro e w1 ⟨A1, A2, A3, rfl, h1, b1⟩)
    | (go_at_call 12; (with_reducible refine (new_yes (smallCf A1 A2 A3) w1 h1 (hw.on b1) (small_ok _ _ _)).mono ?_); rintro e w2 ⟨g, N1, N2, N3, N4, rfl, -, hN2, -, b2⟩; have B2 := below_then b1 b2; clear b1 b2 h1)
    | (go_at_call 33; (with_reducible refine (small_any w2).mono ?_); rintro e w3 ⟨C1, C2, C3, rfl, h3, b3⟩; have B3 := below_then B2 b3; have hN3 := hN2.on b3; clear B2 hN2 b3)
    | (go_at_call 33; (with_reducible refine (small_any (w3.alloc _)).mono ?_); rintro e w4 ⟨D1, D2, D3, rfl, h4, b4⟩)
    | (go_at_call 33; (with_reducible refine (small_any (w4.alloc _)).mono ?_); rintro e w5 ⟨E1, E2, E3, rfl, h5, b5⟩)
    | (go_at_call 33; (with_reducible refine (small_any _).mono ?_); rintro e w6 ⟨F1, F2, F3, rfl, h6, b6⟩))
  have cS : CfIn w3 { smallCf C1 C2 C3 with L := 119 } := ⟨h3.p, h3.s, h3.b, h3.t, h3.few⟩
  have cM : CfIn w4 { smallCf D1 D2 D3 with N := 17 } := ⟨h4.p, h4.s, h4.b, h4.t, h4.few⟩
  have l5 := Lies.new (w5.alloc (.cells #[.int .i64 4, .slice (some ⟨w5.heap.size + 1, 0, none⟩) 2 2, .slice E2 3 3, .int .i64 120, .slice E3 4 4, .slice none 0 0, .int .i64 3, .int .i64 3, .int .i64 3] 25)) 3 .i64 [0, 1] 2 rfl #[.int .i64 0, .int .i64 1] rfl
  rw [alloc_size w5] at l5
  have l6 := Lies.new (w6.alloc (.cells #[.int .i64 4, .slice (some ⟨w6.heap.size + 1, 0, none⟩) 2 2, .slice F2 3 3, .int .i64 120, .slice F3 4 4, .slice none 0 0, .int .i64 3, .int .i64 3, .int .i64 3] 25)) 3 .i64 [0, 3] 2 rfl #[.int .i64 0, .int .i64 3] rfl
  rw [alloc_size w6] at l6
  have cR : CfIn ((w5.alloc (.cells #[.int .i64 4, .slice (some ⟨w5.heap.size + 1, 0, none⟩) 2 2, .slice E2 3 3, .int .i64 120, .slice E3 4 4, .slice none 0 0, .int .i64 3, .int .i64 3, .int .i64 3] 25)).alloc (.cells #[.int .i64 0, .int .i64 1] 3)) { smallCf (some ⟨w5.heap.size + 1, 0, none⟩) E2 E3 with P := [0, 1] } := ⟨l5, (h5.s.al _).al _, (h5.b.al _).al _, LiesT.nil_, h5.few⟩
  have cO : CfIn ((w6.alloc (.cells #[.int .i64 4, .slice (some ⟨w6.heap.size + 1, 0, none⟩) 2 2, .slice F2 3 3, .int .i64 120, .slice F3 4 4, .slice none 0 0, .int .i64 3, .int .i64 3, .int .i64 3] 25)).alloc (.cells #[.int .i64 0, .int .i64 3] 3)) { smallCf (some ⟨w6.heap.size + 1, 0, none⟩) F2 F3 with P := [0, 3] } := ⟨l6, (h6.s.al _).al _, (h6.b.al _).al _, LiesT.nil_, h6.few⟩
  have kS := (((((((Blk.new w3 25 _).on b4).alloc _).on b5).alloc _).alloc _).on b6).alloc (.cells #[.int .i64 4, .slice (some ⟨w6.heap.size + 1, 0, none⟩) 2 2, .slice F2 3 3, .int .i64 120, .slice F3 4 4, .slice none 0 0, .int .i64 3, .int .i64 3, .int .i64 3] 25) |>.alloc (.cells #[.int .i64 0, .int .i64 3] 3)
  have kM := (((((Blk.new w4 25 _).on b5).alloc _).alloc _).on b6).alloc (.cells #[.int .i64 4, .slice (some ⟨w6.heap.size + 1, 0, none⟩) 2 2, .slice F2 3 3, .int .i64 120, .slice F3 4 4, .slice none 0 0, .int .i64 3, .int .i64 3, .int .i64 3] 25) |>.alloc (.cells #[.int .i64 0, .int .i64 3] 3)
  have kR := (((Blk.new w5 25 _).alloc _).on b6).alloc (.cells #[.int .i64 4, .slice (some ⟨w6.heap.size + 1, 0, none⟩) 2 2, .slice F2 3 3, .int .i64 120, .slice F3 4 4, .slice none 0 0, .int .i64 3, .int .i64 3, .int .i64 3] 25) |>.alloc (.cells #[.int .i64 0, .int .i64 3] 3)
  have kO := (Blk.new w6 25 #[.int .i64 4, .slice (some ⟨w6.heap.size + 1, 0, none⟩) 2 2, .slice F2 3 3, .int .i64 120, .slice F3 4 4, .slice none 0 0, .int .i64 3, .int .i64 3, .int .i64 3]).alloc (.cells #[.int .i64 0, .int .i64 3] 3)
  have d4 := below_then (below_al (Below.refl w3.heap.size w3) _) b4
  have d5 := below_then (below_al (Below.refl w4.heap.size w4) _) b5
  have d6 := below_then (below_al (below_al (Below.refl w5.heap.size w5) _) _) b6
  have d7 := below_al (below_al (Below.refl w6.heap.size w6) (.cells #[.int .i64 4, .slice (some ⟨w6.heap.size + 1, 0, none⟩) 2 2, .slice F2 3 3, .int .i64 120, .slice F3 4 4, .slice none 0 0, .int .i64 3, .int .i64 3, .int .i64 3] 25)) (.cells #[.int .i64 0, .int .i64 3] 3)
  have cS := (((cS.on d4).on d5).on d6).on d7
  have cM := ((cM.on d5).on d6).on d7
  have cR := (cR.on b6).on d7
  have hN := (((hN3.on d4).on d5).on d6).on d7
  have hB := below_then (below_then (below_then (below_then B3 d4) d5) d6) d7
  have hW := hw.on hB
  clear d4 d5 d6 d7 b4 b5 b6 h3 h4 h5 h6 l5 l6 hN3 B3 hw
  obtain ⟨W, hWW⟩ : ∃ W, W = ((w6.alloc (.cells #[.int .i64 4, .slice (some ⟨w6.heap.size + 1, 0, none⟩) 2 2, .slice F2 3 3, .int .i64 120, .slice F3 4 4, .slice none 0 0, .int .i64 3, .int .i64 3, .int .i64 3] 25)).alloc (.cells #[.int .i64 0, .int .i64 3] 3)) := ⟨_, rfl⟩
  rw [← hWW] at cS cM cR cO kS kM kR kO hN hB hW ⊢
  clear hWW
  go_wp2_with (first
    | (go_at_call 15; (with_reducible refine (round_is _ ((smallCf A1 A2 A3).to N1 N2 N3 N4) 360 rfl W (hN) (show (0 : Int) ≤ 120 by decide) (show (120 : Int) ≤ 4096 by decide)).mono ?_); rintro e u1 ⟨rfl, a1⟩
       have B1 := a1
       clear a1)
    | (go_at_call 17; (with_reducible refine (owner_is _ ((smallCf A1 A2 A3).to N1 N2 N3 N4) 2 1 ex_owner u1 (hN.on B1)).mono ?_); rintro e u2 ⟨rfl, a2⟩
       have B2 := below_then B1 a2
       clear a2 B1)
    | (go_at_call 21; (with_reducible refine (pair_is _ ((smallCf A1 A2 A3).to N1 N2 N3 N4) 3 1 ex_pair u2 (hN.on B2) (hW.on B2)).mono ?_); rintro e u3 ⟨rfl, a3⟩
       have B3 := below_then B2 a3
       clear a3 B2)
    | (go_at_call 23; (with_reducible refine (partner_is _ ((smallCf A1 A2 A3).to N1 N2 N3 N4) 3 2 ex_partner u3 (hN.on B3) (hW.on B3)).mono ?_); rintro e u4 ⟨rfl, a4⟩
       have B4 := below_then B3 a4
       clear a4 B3)
    | (go_at_call 25; (with_reducible refine (next_is _ ((smallCf A1 A2 A3).to N1 N2 N3 N4) 3 1 4 ex_next u4 (hN.on B4)).mono ?_); rintro e u5 ⟨rfl, a5⟩
       have B5 := below_then B4 a5
       clear a5 B4
       obtain ⟨k0, k1, k2, k3, k4, k5, k6, k7, k8⟩ := Blk.cf (c := { smallCf C1 C2 C3 with L := 119 }) (kS.on B5))
    | (go_at_call 32; (with_reducible refine (wrong_is { smallCf C1 C2 C3 with L := 119 } 1 (small_long _ _ _) u5 (cS.on B5) (hW.on B5)).mono ?_); rintro e u6 ⟨rfl, a6⟩
       have B6 := below_then B5 a6
       clear a6 B5
       clear k0 k1 k2 k3 k4 k5 k6 k7 k8
       obtain ⟨k0, k1, k2, k3, k4, k5, k6, k7, k8⟩ := Blk.cf (c := { smallCf D1 D2 D3 with N := 17 }) (kM.on B6))
    | (go_at_call 32; (with_reducible refine (wrong_is { smallCf D1 D2 D3 with N := 17 } 3 (small_many _ _ _) u6 (cM.on B6) (hW.on B6)).mono ?_); rintro e u7 ⟨rfl, a7⟩
       have B7 := below_then B6 a7
       clear a7 B6
       clear k0 k1 k2 k3 k4 k5 k6 k7 k8
       obtain ⟨k0, k1, k2, k3, k4, k5, k6, k7, k8⟩ := Blk.cf (c := { smallCf (some ⟨w5.heap.size + 1, 0, none⟩) E2 E3 with P := [0, 1] }) (kR.on B7))
    | (go_at_call 32; (with_reducible refine (wrong_is { smallCf (some ⟨w5.heap.size + 1, 0, none⟩) E2 E3 with P := [0, 1] } 1 (small_near _ _ _) u7 (cR.on B7) (hW.on B7)).mono ?_); rintro e u8 ⟨rfl, a8⟩
       have B8 := below_then B7 a8
       clear a8 B7
       clear k0 k1 k2 k3 k4 k5 k6 k7 k8
       obtain ⟨k0, k1, k2, k3, k4, k5, k6, k7, k8⟩ := Blk.cf (c := { smallCf (some ⟨w6.heap.size + 1, 0, none⟩) F2 F3 with P := [0, 3] }) (kO.on B8))
    | (go_at_call 32; (with_reducible refine (wrong_is { smallCf (some ⟨w6.heap.size + 1, 0, none⟩) F2 F3 with P := [0, 3] } 1 (small_over _ _ _) u8 (cO.on B8) (hW.on B8)).mono ?_); rintro e u9 ⟨rfl, a9⟩
       have B9 := below_then B8 a9
       clear a9 B8))
  go_ret
  exact ⟨rfl, below_then hB B9⟩
end Go.Proofs.YtibniadebbgjcaaDoor
