/-
  The document's answer for layer 12: the contract of Tick for a node that is no half: each catch has its window's pair, or none. Conditions: the flow's, the catches' reading; both windows.
-/
import Derived.Test.YtkejpkcaojidaaaGreatDoorFlK
import Derived.Test.YtkejpkcaojidaaaGreatDoorCaR4
import Derived.Deep.RegionLaw
namespace Go.Proofs.YtkejpkcaojidaaaGreatDoor
set_option linter.unusedVariables false
set_option linter.unusedSimpArgs false
set_option linter.unusedVariables false
set_option linter.unusedSimpArgs false
open Go.RowKit Rg
set_option linter.unusedVariables false

/-- The reference's flow. -/
def RfB (w : World) (m : Nat) (c : Cf) (x o : Int) (S P0 P1 : Option Addr) : Prop := Blk w m 87 #[.int .i64 c.N, .slice c.pA c.pn c.pc, .slice c.sA c.sn c.sc, .int .i64 c.L, .slice c.bA c.bn c.bc, .slice c.tA c.tn c.tc, .int .i64 c.M, .int .i64 c.G, .int .i64 c.F, .int .i64 x, .int .i64 o, .pointer S, .pointer P0, .pointer P1]
theorem RfB.on {w w' : World} {m : Nat} {c : Cf} {x o : Int} {S P0 P1 : Option Addr} (h : RfB w m c x o S P0 P1) (hb : Below w.heap.size w w') : RfB w' m c x o S P0 P1 := Blk.on h hb
theorem RfB.cells {w : World} {m : Nat} {c : Cf} {x o : Int} {S P0 P1 : Option Addr} (h : RfB w m c x o S P0 P1) : w.cell? ⟨m, 9, none⟩ = some (.int .i64 x) ∧ w.cell? ⟨m, 10, none⟩ = some (.int .i64 o) ∧ w.cell? ⟨m, 11, none⟩ = some (.pointer S) ∧ w.cell? ⟨m, 12, none⟩ = some (.pointer P0) ∧ w.cell? ⟨m, 13, none⟩ = some (.pointer P1) ∧ m < w.heap.size :=
  ⟨(Blk.cell h 9).trans rfl, (Blk.cell h 10).trans rfl, (Blk.cell h 11).trans rfl, (Blk.cell h 12).trans rfl, (Blk.cell h 13).trans rfl, Blk.lt h⟩
theorem RfB.conf {w : World} {m : Nat} {c : Cf} {x o : Int} {S P0 P1 : Option Addr} (h : RfB w m c x o S P0 P1) : w.cell? ⟨m, 0, none⟩ = some (.int .i64 c.N) ∧ w.cell? ⟨m, 1, none⟩ = some (.slice c.pA c.pn c.pc) ∧ w.cell? ⟨m, 2, none⟩ = some (.slice c.sA c.sn c.sc) ∧ w.cell? ⟨m, 3, none⟩ = some (.int .i64 c.L) ∧ w.cell? ⟨m, 4, none⟩ = some (.slice c.bA c.bn c.bc) ∧ w.cell? ⟨m, 5, none⟩ = some (.slice c.tA c.tn c.tc) ∧ w.cell? ⟨m, 6, none⟩ = some (.int .i64 c.M) ∧ w.cell? ⟨m, 7, none⟩ = some (.int .i64 c.G) ∧ w.cell? ⟨m, 8, none⟩ = some (.int .i64 c.F) :=
  ⟨(Blk.cell h 0).trans rfl, (Blk.cell h 1).trans rfl, (Blk.cell h 2).trans rfl, (Blk.cell h 3).trans rfl, (Blk.cell h 4).trans rfl, (Blk.cell h 5).trans rfl, (Blk.cell h 6).trans rfl, (Blk.cell h 7).trans rfl, (Blk.cell h 8).trans rfl⟩
set_option maxRecDepth 100000 in
set_option maxHeartbeats 4000000 in
theorem rfNew_no (c : Cf) (x : Int) (h : x < 0 ∨ c.N ≤ x) (w : World) :
    Calls Tryz.prog 7 #[.agg #[.int .i64 c.N, .slice c.pA c.pn c.pc, .slice c.sA c.sn c.sc, .int .i64 c.L, .slice c.bA c.bn c.bc, .slice c.tA c.tn c.tc, .int .i64 c.M, .int .i64 c.G, .int .i64 c.F], .int .i64 x] w fun e w' => e = .returned (.tuple #[.pointer none, .int .i64 1]) ∧ Below w.heap.size w w' := by
  have hB0 := Blk.new w 25 #[.int .i64 c.N, .slice c.pA c.pn c.pc, .slice c.sA c.sn c.sc, .int .i64 c.L, .slice c.bA c.bn c.bc, .slice c.tA c.tn c.tc, .int .i64 c.M, .int .i64 c.G, .int .i64 c.F]
  have k0 := (hB0.cell 0).trans (show _ = some (Value.int .i64 c.N) from rfl)
  have kl := hB0.lt
  have HB := Lib.hid (below_al (Below.refl w.heap.size w) (.cells #[.int .i64 c.N, .slice c.pA c.pn c.pc, .slice c.sA c.sn c.sc, .int .i64 c.L, .slice c.bA c.bn c.bc, .slice c.tA c.tn c.tc, .int .i64 c.M, .int .i64 c.G, .int .i64 c.F] 25))
  clear hB0
  by_cases h1 : x < 0
  · clear h
    go_enter Tryz.func7, Tryz.ntmps7
    go_wp2_with fail
    go_ret2
    exact ⟨rfl, HB.out⟩
  · have h2 : c.N ≤ x := by omega
    clear h
    go_enter Tryz.func7, Tryz.ntmps7
    go_wp2_with fail
    go_ret2
    exact ⟨rfl, HB.out⟩
set_option maxRecDepth 100000 in
set_option maxHeartbeats 4000000 in
theorem rfNew_yes (c : Cf) (x : Int) (h0 : 0 ≤ x) (hN : x < c.N) (w : World) :
    Calls Tryz.prog 7 #[.agg #[.int .i64 c.N, .slice c.pA c.pn c.pc, .slice c.sA c.sn c.sc, .int .i64 c.L, .slice c.bA c.bn c.bc, .slice c.tA c.tn c.tc, .int .i64 c.M, .int .i64 c.G, .int .i64 c.F], .int .i64 x] w fun e w' => ∃ m, e = .returned (.tuple #[.pointer (some ⟨m, 0, none⟩), .int .i64 0]) ∧ w.heap.size ≤ m ∧ RfB w' m c x 0 none none none ∧ Below w.heap.size w w' := by
  have hB0 := Blk.new w 25 #[.int .i64 c.N, .slice c.pA c.pn c.pc, .slice c.sA c.sn c.sc, .int .i64 c.L, .slice c.bA c.bn c.bc, .slice c.tA c.tn c.tc, .int .i64 c.M, .int .i64 c.G, .int .i64 c.F]
  have k0 := (hB0.cell 0).trans (show _ = some (Value.int .i64 c.N) from rfl)
  have k1 := (hB0.cell 1).trans (show _ = some (Value.slice c.pA c.pn c.pc) from rfl)
  have k2 := (hB0.cell 2).trans (show _ = some (Value.slice c.sA c.sn c.sc) from rfl)
  have k3 := (hB0.cell 3).trans (show _ = some (Value.int .i64 c.L) from rfl)
  have k4 := (hB0.cell 4).trans (show _ = some (Value.slice c.bA c.bn c.bc) from rfl)
  have k5 := (hB0.cell 5).trans (show _ = some (Value.slice c.tA c.tn c.tc) from rfl)
  have k6 := (hB0.cell 6).trans (show _ = some (Value.int .i64 c.M) from rfl)
  have k7 := (hB0.cell 7).trans (show _ = some (Value.int .i64 c.G) from rfl)
  have k8 := (hB0.cell 8).trans (show _ = some (Value.int .i64 c.F) from rfl)
  have kl := hB0.lt
  have q1 : ¬ x < 0 := by omega
  have q2 : ¬ c.N ≤ x := by omega
  have HB := Lib.hid (below_al (below_al (Below.refl w.heap.size w) (.cells #[.int .i64 c.N, .slice c.pA c.pn c.pc, .slice c.sA c.sn c.sc, .int .i64 c.L, .slice c.bA c.bn c.bc, .slice c.tA c.tn c.tc, .int .i64 c.M, .int .i64 c.G, .int .i64 c.F] 25)) (.cells #[.int .i64 c.N, .slice c.pA c.pn c.pc, .slice c.sA c.sn c.sc, .int .i64 c.L, .slice c.bA c.bn c.bc, .slice c.tA c.tn c.tc, .int .i64 c.M, .int .i64 c.G, .int .i64 c.F, .int .i64 x, .int .i64 0, .pointer none, .pointer none, .pointer none] 87))
  clear hB0 h0 hN
  go_enter Tryz.func7, Tryz.ntmps7
  go_wp2_with fail
  go_ret2
  exact ⟨_, rfl, by simp, Blk.newIn (by simp), HB.out⟩
theorem idx_two0 (a b : Bool) (w : World) : (Instr.index 57 (.agg #[.bool a, .bool b]) (.int .i64 0)).run Tryz.prog w = .ok (.bool a) w := by kernel_rfl
theorem idx_two1 (a b : Bool) (w : World) : (Instr.index 57 (.agg #[.bool a, .bool b]) (.int .i64 1)).run Tryz.prog w = .ok (.bool b) w := by kernel_rfl
/-- What a place for a catch answers when asked whether it is high. -/
def HiR (w : World) (P : Option Addr) (F : Fr) (r : Bool) : Prop := (P = none ∧ r = false) ∨ ∃ g, P = some ⟨g, 0, none⟩ ∧ ∀ u, Below w.heap.size w u → Calls Tryz.prog 36 #[.pointer (some ⟨g, 0, none⟩)] u fun e w' => e = .returned (.tuple #[.agg #[.int .i64 F.o, .int .u8 F.k, .int .u8 F.s, .int .u32 F.q, .int .u32 F.v], .bool r]) ∧ Below u.heap.size u w'
theorem HiR.on {w w' : World} {P : Option Addr} {F : Fr} {r : Bool} (h : HiR w P F r) (hb : Below w.heap.size w w') : HiR w' P F r := by
  rcases h with h | ⟨g, e, h⟩
  · exact .inl h
  · exact .inr ⟨g, e, fun u hu => h u (below_then hb hu)⟩
set_option maxRecDepth 100000 in
set_option maxHeartbeats 4000000 in
theorem rfHigh_is (m : Nat) (c : Cf) (x o : Int) (S P0 P1 : Option Addr) (F0 F1 : Fr) (r0 r1 : Bool) (w : World) (h : RfB w m c x o S P0 P1) (h0 : HiR w P0 F0 r0) (h1 : HiR w P1 F1 r1) :
    Calls Tryz.prog 18 #[.pointer (some ⟨m, 0, none⟩)] w fun e w' => e = .returned (.agg #[.bool r0, .bool r1]) ∧ Below w.heap.size w w' := by
  have HB := Lib.hid h
  have H0 := Lib.hid h0
  have H1 := Lib.hid h1
  have hb2 : Below w.heap.size w ((w.alloc (.cells #[.bool false, .bool false] 57)).alloc (.cells #[.bool false, .bool false] 57)) := below_al (below_al (Below.refl w.heap.size w) (.cells #[.bool false, .bool false] 57)) (.cells #[.bool false, .bool false] 57)
  have hR : Blk ((w.alloc (.cells #[.bool false, .bool false] 57)).alloc (.cells #[.bool false, .bool false] 57)) w.heap.size 57 #[.bool false, .bool false] := (Blk.new w _ _).alloc _
  have HR := Lib.hid hR
  clear h h0 h1 hR
  go_enter Tryz.func18, Tryz.ntmps18
  go_wp2_with fail
  go_loopw [4] (fun s4 wr => ∃ k : Nat, k ≤ 2 ∧ s4 = .int .i64 (k : Int) ∧ Below w.heap.size w wr ∧ Hid (Blk wr w.heap.size 57 #[.bool false, .bool false]) ∧ Blk wr (w.heap.size + 1) 57 #[.bool (if 0 < k then r0 else false), .bool (if 1 < k then r1 else false)]) (fun s4 _ => 2 - (intOf s4).toNat)
  case atStart => exact ⟨0, by omega, rfl, hb2, HR, Blk.newIn (by simp)⟩
  case round =>
    clear hb2 HR
    obtain ⟨k, hk, rfl, hb, HR, hI⟩ := hrel
    rcases (show k = 0 ∨ k = 1 ∨ k = 2 by omega) with rfl | rfl | rfl
    · obtain ⟨x0, x1, xs, xp, xq, xl⟩ := (RfB.on HB.out hb).cells
      have HI : Hid (Blk wr (w.heap.size + 1) 57 #[.bool false, .bool false]) := Lib.hid hI
      have hI' : Blk wr (w.heap.size + 1) 57 #[.bool false, .bool false] := hI
      have i0 := (hI'.cell 0).trans (show _ = some (Value.bool false) from rfl)
      have i1 := (hI'.cell 1).trans (show _ = some (Value.bool false) from rfl)
      have il := hI'.lt
      have jf := hI'.frozen
      have HBB := Lib.hid hb
      clear hI hI' hb hk
      rw [show ((0 : Nat) : Int) = 0 from rfl]
      rcases H0.out with ⟨rfl, rfl⟩ | ⟨g, rfl, hg⟩
      · go_wp2_with fail
        go_roundw
        case rel => exact ⟨1, by omega, rfl, HBB.out, HR, HI.out⟩
        case measure => simp [intOf]
      · have HG := Lib.hid (hg wr HBB.out)
        clear hg
        go_wp2_with (go_at_call 36; (with_reducible refine HG.out.mono ?_); rintro e w2 ⟨rfl, b2⟩; have HI2 := Lib.hid (HI.out.on b2); have HR2 := Lib.hid (HR.out.on b2); have HB2 := Lib.hid (below_then HBB.out b2); have y0 := (HI2.out.cell 0).trans (show _ = some (Value.bool false) from rfl); have y1 := (HI2.out.cell 1).trans (show _ = some (Value.bool false) from rfl); have yl := HI2.out.lt; have yf := HI2.out.frozen; clear b2)
        go_roundw
        case rel => exact ⟨1, by omega, rfl, HB2.out.setCell (p := ⟨w.heap.size + 1, 0, none⟩) (by show w.heap.size ≤ w.heap.size + 1; omega) (.bool r0), Lib.hid (HR2.out.far (p := ⟨w.heap.size + 1, 0, none⟩) (by show w.heap.size ≠ w.heap.size + 1; omega) (.bool r0)), HI2.out.set_ 0 (.bool r0)⟩
        case measure => simp [intOf]
    · obtain ⟨x0, x1, xs, xp, xq, xl⟩ := (RfB.on HB.out hb).cells
      have HI : Hid (Blk wr (w.heap.size + 1) 57 #[.bool r0, .bool false]) := Lib.hid hI
      have hI' : Blk wr (w.heap.size + 1) 57 #[.bool r0, .bool false] := hI
      have i0 := (hI'.cell 0).trans (show _ = some (Value.bool r0) from rfl)
      have i1 := (hI'.cell 1).trans (show _ = some (Value.bool false) from rfl)
      have il := hI'.lt
      have jf := hI'.frozen
      have HBB := Lib.hid hb
      clear hI hI' hb hk
      rw [show ((1 : Nat) : Int) = 1 from rfl]
      rcases H1.out with ⟨rfl, rfl⟩ | ⟨g, rfl, hg⟩
      · go_wp2_with fail
        go_roundw
        case rel => exact ⟨2, by omega, rfl, HBB.out, HR, HI.out⟩
        case measure => simp [intOf]
      · have HG := Lib.hid (hg wr HBB.out)
        clear hg
        go_wp2_with (go_at_call 36; (with_reducible refine HG.out.mono ?_); rintro e w2 ⟨rfl, b2⟩; have HI2 := Lib.hid (HI.out.on b2); have HR2 := Lib.hid (HR.out.on b2); have HB2 := Lib.hid (below_then HBB.out b2); have y0 := (HI2.out.cell 0).trans (show _ = some (Value.bool r0) from rfl); have y1 := (HI2.out.cell 1).trans (show _ = some (Value.bool false) from rfl); have yl := HI2.out.lt; have yf := HI2.out.frozen; clear b2)
        go_roundw
        case rel => exact ⟨2, by omega, rfl, HB2.out.setCell (p := ⟨w.heap.size + 1, 1, none⟩) (by show w.heap.size ≤ w.heap.size + 1; omega) (.bool r1), Lib.hid (HR2.out.far (p := ⟨w.heap.size + 1, 1, none⟩) (by show w.heap.size ≠ w.heap.size + 1; omega) (.bool r1)), HI2.out.set_ 1 (.bool r1)⟩
        case measure => simp [intOf]
    · have HI : Hid (Blk wr (w.heap.size + 1) 57 #[.bool r0, .bool r1]) := Lib.hid hI
      have i0 := (HI.out.cell 0).trans (show _ = some (Value.bool r0) from rfl)
      have i1 := (HI.out.cell 1).trans (show _ = some (Value.bool r1) from rfl)
      have il := HI.out.lt
      have z0 := (HR.out.cell 0).trans (show _ = some (Value.bool false) from rfl)
      have z1 := (HR.out.cell 1).trans (show _ = some (Value.bool false) from rfl)
      have zl := HR.out.lt
      have zf := HR.out.frozen
      have HBB := Lib.hid hb
      clear hI hb
      rw [show ((2 : Nat) : Int) = 2 from rfl]
      go_wp2_with fail
      exact bodyPost_ret (v := .agg #[.bool r0, .bool r1]) (by simp [results, Tryz.results18, go_sem, z0, z1, zl]) rfl ⟨rfl, ((HBB.out.setCell (p := ⟨w.heap.size, 0, none⟩) (Nat.le_refl _) _).setCell (p := ⟨w.heap.size, 1, none⟩) (Nat.le_refl _) _)⟩
set_option maxRecDepth 100000 in
set_option maxHeartbeats 4000000 in
theorem rfHeard_is (m : Nat) (c : Cf) (x o : Int) (S P0 P1 : Option Addr) (F0 F1 : Fr) (r0 r1 : Bool) (w : World) (h : RfB w m c x o S P0 P1) (h0 : HiR w P0 F0 r0) (h1 : HiR w P1 F1 r1) (G : Fr) (hG : heardF F0 F1 r0 r1 = G) (r : Bool) (hr : (r0 || r1) = r) :
    Calls Tryz.prog 14 #[.pointer (some ⟨m, 0, none⟩)] w fun e w' => e = .returned (.tuple #[.agg #[.int .u8 G.k, .int .u8 G.s, .int .u32 G.q, .int .u32 G.v], .bool r]) ∧ Below w.heap.size w w' := by
  have HB := Lib.hid h
  have H0 := Lib.hid h0
  have H1 := Lib.hid h1
  have HG := Lib.hid hG
  have HRR := Lib.hid hr
  have HB2 := Lib.hid (below_al (Below.refl w.heap.size w) (.cells #[.int .u8 0, .int .u8 0, .int .u32 0, .int .u32 0] 40))
  have HZ0 := Lib.hid (Blk.new w 40 #[.int .u8 0, .int .u8 0, .int .u32 0, .int .u32 0])
  clear h h0 h1 hG hr
  go_enter Tryz.func14, Tryz.ntmps14
  go_wp2_with fail
  go_loopw [4] (fun s wr => ∃ k : Nat, k ≤ 2 ∧ s = .int .i64 (k : Int) ∧ Hid ((0 < k → r0 = false) ∧ (1 < k → r1 = false)) ∧ Hid (Blk wr w.heap.size 40 #[.int .u8 0, .int .u8 0, .int .u32 0, .int .u32 0]) ∧ Hid (Below w.heap.size w wr)) (fun s _ => 2 - (intOf s).toNat)
  case atStart => exact ⟨0, by omega, rfl, Lib.hid ⟨fun h => absurd h (by decide), fun h => absurd h (by decide)⟩, HZ0, HB2⟩
  case round =>
    clear HZ0 HB2
    obtain ⟨k, hk, rfl, HK, HB1, HBW⟩ := hrel
    rcases (show k = 0 ∨ k = 1 ∨ k = 2 by omega) with rfl | rfl | rfl
    · rw [show ((0 : Nat) : Int) = 0 from rfl]
      have ib := idx_two0
      have HH := Lib.hid (rfHigh_is m c x o S P0 P1 F0 F1 r0 r1 wr (HB.out.on HBW.out) (H0.out.on HBW.out) (H1.out.on HBW.out))
      cases r0 with
      | true =>
        rcases H0.out with ⟨_, e⟩ | ⟨g, rfl, hg⟩
        · cases e
        have HGF := Lib.hid (show G = F0 by rw [← HG.out, heardF]; rw [if_pos rfl])
        have HRT := Lib.hid (show r = true by rw [← HRR.out]; simp)
        have HGG := Lib.hid hg
        clear hg
        go_upto_region 7 with (first
          | (go_at_call 18; (with_reducible refine HH.out.mono ?_); rintro e w2 ⟨rfl, b2⟩; have HB2 := Lib.hid (below_al (below_then HBW.out b2) (.cells #[.int .i64 0, .int .u8 0, .int .u8 0, .int .u32 0, .int .u32 0] 123)); have HN2 := Lib.hid (Blk.new w2 123 #[.int .i64 0, .int .u8 0, .int .u8 0, .int .u32 0, .int .u32 0]); have HZ2 := Lib.hid ((HB1.out.on b2).alloc (.cells #[.int .i64 0, .int .u8 0, .int .u8 0, .int .u32 0, .int .u32 0] 123)); have HSZ2 := Lib.hid (show w.heap.size < w2.heap.size from Nat.lt_of_lt_of_le HB1.out.lt b2.size); obtain ⟨y0, y1, ys, yp, yq, yl⟩ := (RfB.on HB.out HB2.out).cells; clear b2)
          | (go_at_call 36; (with_reducible refine (HGG.out _ HB2.out).mono ?_); rintro e w3 ⟨rfl, b3⟩; clear y0 y1 ys yp yq yl; have HN3 := Lib.hid (HN2.out.on b3); have hN3 := HN3.out; have n0 := hN3.cell 0; have n1 := hN3.cell 1; have n2 := hN3.cell 2; have n3 := hN3.cell 3; have n4 := hN3.cell 4; have nl := hN3.lt; have nf := hN3.frozen; simp only [List.getElem?_toArray, List.getElem?_cons_zero, List.getElem?_cons_succ] at n0 n1 n2 n3 n4; have HZ3 := Lib.hid (HZ2.out.on b3); have HB3 := Lib.hid (below_then HB2.out b3); clear b3 hN3))
        refine wp_at (fun U => Hid (Below w.heap.size w U) ∧ Hid (Blk U w2.heap.size 123 #[.int .i64 F0.o, .int .u8 F0.k, .int .u8 F0.s, .int .u32 F0.q, .int .u32 F0.v]) ∧ Hid (Blk U w.heap.size 40 #[.int .u8 0, .int .u8 0, .int .u32 0, .int .u32 0])) ⟨Lib.hid (below_five HB3.out (Nat.le_of_lt HSZ2.out) _ _ _ _ _), Lib.hid (((((HN3.out.set_ 0 _).set_ 1 _).set_ 2 _).set_ 3 _).set_ 4 _), Lib.hid (But.blk (((((But.one 0 _).set 1 _).set 2 _).set 3 _).set 4 _) HZ3.out (Nat.ne_of_lt HSZ2.out))⟩ ?_
        clear n0 n1 n2 n3 n4 nl nf HN3 HZ3 HB3 HN2 HZ2 HB2
        rintro U ⟨HBU, HNU, HZU⟩
        have hNU := HNU.out
        have n1 := hNU.cell 1
        have n2 := hNU.cell 2
        have n3 := hNU.cell 3
        have n4 := hNU.cell 4
        have nl := hNU.lt
        have hZU := HZU.out
        have z0 := hZU.cell 0
        have z1 := hZU.cell 1
        have z2 := hZU.cell 2
        have z3 := hZU.cell 3
        have zl := hZU.lt
        have zf := hZU.frozen
        simp only [List.getElem?_toArray, List.getElem?_cons_zero, List.getElem?_cons_succ] at n1 n2 n3 n4 z0 z1 z2 z3
        clear hNU hZU
        go_wp2_with fail
        rw [HGF.out, HRT.out]
        exact bodyPost_ret (v := .tuple #[.agg #[.int .u8 F0.k, .int .u8 F0.s, .int .u32 F0.q, .int .u32 F0.v], .bool true]) (by simp [results, Tryz.results14, go_sem, z0, z1, z2, z3, zl]) rfl ⟨rfl, below_four HBU.out (Nat.le_refl _) _ _ _ _⟩
      | false =>
        go_wp2_with (go_at_call 18; (with_reducible refine HH.out.mono ?_); rintro e w2 ⟨rfl, b2⟩; have HB2 := Lib.hid (below_then HBW.out b2); have HZ2 := Lib.hid (HB1.out.on b2); clear b2)
        go_roundw
        case rel => exact ⟨1, by omega, rfl, Lib.hid (by refine ⟨?_, ?_⟩ <;> first | trivial | (intro h; first | rfl | exact absurd h (by decide) | exact HK.out.1 (by decide))), HZ2, HB2⟩
        case measure => simp [intOf]
    · rw [show ((1 : Nat) : Int) = 1 from rfl]
      have ib := idx_two1
      have HH := Lib.hid (rfHigh_is m c x o S P0 P1 F0 F1 r0 r1 wr (HB.out.on HBW.out) (H0.out.on HBW.out) (H1.out.on HBW.out))
      cases r1 with
      | true =>
        rcases H1.out with ⟨_, e⟩ | ⟨g, rfl, hg⟩
        · cases e
        have HGF := Lib.hid (show G = F1 by rw [← HG.out, heardF]; rw [HK.out.1 (by decide), if_neg (by decide), if_pos rfl])
        have HRT := Lib.hid (show r = true by rw [← HRR.out]; simp)
        have HGG := Lib.hid hg
        clear hg
        go_upto_region 7 with (first
          | (go_at_call 18; (with_reducible refine HH.out.mono ?_); rintro e w2 ⟨rfl, b2⟩; have HB2 := Lib.hid (below_al (below_then HBW.out b2) (.cells #[.int .i64 0, .int .u8 0, .int .u8 0, .int .u32 0, .int .u32 0] 123)); have HN2 := Lib.hid (Blk.new w2 123 #[.int .i64 0, .int .u8 0, .int .u8 0, .int .u32 0, .int .u32 0]); have HZ2 := Lib.hid ((HB1.out.on b2).alloc (.cells #[.int .i64 0, .int .u8 0, .int .u8 0, .int .u32 0, .int .u32 0] 123)); have HSZ2 := Lib.hid (show w.heap.size < w2.heap.size from Nat.lt_of_lt_of_le HB1.out.lt b2.size); obtain ⟨y0, y1, ys, yp, yq, yl⟩ := (RfB.on HB.out HB2.out).cells; clear b2)
          | (go_at_call 36; (with_reducible refine (HGG.out _ HB2.out).mono ?_); rintro e w3 ⟨rfl, b3⟩; clear y0 y1 ys yp yq yl; have HN3 := Lib.hid (HN2.out.on b3); have hN3 := HN3.out; have n0 := hN3.cell 0; have n1 := hN3.cell 1; have n2 := hN3.cell 2; have n3 := hN3.cell 3; have n4 := hN3.cell 4; have nl := hN3.lt; have nf := hN3.frozen; simp only [List.getElem?_toArray, List.getElem?_cons_zero, List.getElem?_cons_succ] at n0 n1 n2 n3 n4; have HZ3 := Lib.hid (HZ2.out.on b3); have HB3 := Lib.hid (below_then HB2.out b3); clear b3 hN3))
        refine wp_at (fun U => Hid (Below w.heap.size w U) ∧ Hid (Blk U w2.heap.size 123 #[.int .i64 F1.o, .int .u8 F1.k, .int .u8 F1.s, .int .u32 F1.q, .int .u32 F1.v]) ∧ Hid (Blk U w.heap.size 40 #[.int .u8 0, .int .u8 0, .int .u32 0, .int .u32 0])) ⟨Lib.hid (below_five HB3.out (Nat.le_of_lt HSZ2.out) _ _ _ _ _), Lib.hid (((((HN3.out.set_ 0 _).set_ 1 _).set_ 2 _).set_ 3 _).set_ 4 _), Lib.hid (But.blk (((((But.one 0 _).set 1 _).set 2 _).set 3 _).set 4 _) HZ3.out (Nat.ne_of_lt HSZ2.out))⟩ ?_
        clear n0 n1 n2 n3 n4 nl nf HN3 HZ3 HB3 HN2 HZ2 HB2
        rintro U ⟨HBU, HNU, HZU⟩
        have hNU := HNU.out
        have n1 := hNU.cell 1
        have n2 := hNU.cell 2
        have n3 := hNU.cell 3
        have n4 := hNU.cell 4
        have nl := hNU.lt
        have hZU := HZU.out
        have z0 := hZU.cell 0
        have z1 := hZU.cell 1
        have z2 := hZU.cell 2
        have z3 := hZU.cell 3
        have zl := hZU.lt
        have zf := hZU.frozen
        simp only [List.getElem?_toArray, List.getElem?_cons_zero, List.getElem?_cons_succ] at n1 n2 n3 n4 z0 z1 z2 z3
        clear hNU hZU
        go_wp2_with fail
        rw [HGF.out, HRT.out]
        exact bodyPost_ret (v := .tuple #[.agg #[.int .u8 F1.k, .int .u8 F1.s, .int .u32 F1.q, .int .u32 F1.v], .bool true]) (by simp [results, Tryz.results14, go_sem, z0, z1, z2, z3, zl]) rfl ⟨rfl, below_four HBU.out (Nat.le_refl _) _ _ _ _⟩
      | false =>
        go_wp2_with (go_at_call 18; (with_reducible refine HH.out.mono ?_); rintro e w2 ⟨rfl, b2⟩; have HB2 := Lib.hid (below_then HBW.out b2); have HZ2 := Lib.hid (HB1.out.on b2); clear b2)
        go_roundw
        case rel => exact ⟨2, by omega, rfl, Lib.hid (by refine ⟨?_, ?_⟩ <;> first | trivial | (intro h; first | rfl | exact absurd h (by decide) | exact HK.out.1 (by decide))), HZ2, HB2⟩
        case measure => simp [intOf]
    · have HGF := Lib.hid (show G = Fr.zero by rw [← HG.out, heardF, HK.out.1 (by decide), HK.out.2 (by decide)]; rfl)
      have HRT := Lib.hid (show r = false by rw [← HRR.out, HK.out.1 (by decide), HK.out.2 (by decide)]; rfl)
      have hZ3 := HB1.out
      have z0 := hZ3.cell 0; have z1 := hZ3.cell 1; have z2 := hZ3.cell 2; have z3 := hZ3.cell 3; have zl := hZ3.lt; simp only [List.getElem?_toArray, List.getElem?_cons_zero, List.getElem?_cons_succ] at z0 z1 z2 z3; have zf := hZ3.frozen
      rw [show ((2 : Nat) : Int) = 2 from rfl]
      go_wp2_with fail
      rw [HGF.out, HRT.out]
      exact bodyPost_ret (v := .tuple #[.agg #[.int .u8 0, .int .u8 0, .int .u32 0, .int .u32 0], .bool false]) (by simp [results, Tryz.results14, go_sem, z0, z1, z2, z3, zl]) rfl ⟨rfl, below_four HBW.out (Nat.le_refl _) _ _ _ _⟩
set_option maxRecDepth 100000 in
set_option maxHeartbeats 4000000 in
theorem rfSent_none (m : Nat) (c : Cf) (x o : Int) (P0 P1 : Option Addr) (w : World) (h : RfB w m c x o none P0 P1) :
    Calls Tryz.prog 16 #[.pointer (some ⟨m, 0, none⟩)] w fun e w' => e = .returned (.tuple #[.agg #[.int .u8 0, .int .u8 0, .int .u32 0, .int .u32 0], .bool false]) ∧ Below w.heap.size w w' := by
  have hb := below_al (Below.refl w.heap.size w) (.cells #[.int .u8 0, .int .u8 0, .int .u32 0, .int .u32 0] 40)
  have hZ3 := Blk.new w 40 #[.int .u8 0, .int .u8 0, .int .u32 0, .int .u32 0]
  have z0 := hZ3.cell 0; have z1 := hZ3.cell 1; have z2 := hZ3.cell 2; have z3 := hZ3.cell 3; have zl := hZ3.lt; simp only [List.getElem?_toArray, List.getElem?_cons_zero, List.getElem?_cons_succ] at z0 z1 z2 z3; have zf := hZ3.frozen
  obtain ⟨x0, x1, xs, xp, xq, xl⟩ := (RfB.on h hb).cells
  have HB := Lib.hid hb
  clear h hb hZ3
  go_enter Tryz.func16, Tryz.ntmps16
  go_wp2_with fail
  exact bodyPost_ret (v := .tuple #[.agg #[.int .u8 0, .int .u8 0, .int .u32 0, .int .u32 0], .bool false]) (by simp [results, Tryz.results16, go_sem, z0, z1, z2, z3, zl]) rfl ⟨rfl, by first | exact below_al (Below.refl _ _) _ | exact below_four HB.out (Nat.le_refl _) _ _ _ _⟩
set_option maxRecDepth 100000 in
set_option maxHeartbeats 4000000 in
theorem rfSent_some (m g : Nat) (c : Cf) (x o : Int) (P0 P1 : Option Addr) (w : World) (h : RfB w m c x o (some ⟨g, 0, none⟩) P0 P1) (c' : Cf) (x' o' : Int) (t : Bool) (f : Fr) (A : Option Addr) (n cp : Nat) (hS : Blk w g 128 #[.int .i64 c'.N, .slice c'.pA c'.pn c'.pc, .slice c'.sA c'.sn c'.sc, .int .i64 c'.L, .slice c'.bA c'.bn c'.bc, .slice c'.tA c'.tn c'.tc, .int .i64 c'.M, .int .i64 c'.G, .int .i64 c'.F, .int .i64 x', .int .i64 o', .bool t, .int .u8 f.k, .int .u8 f.s, .int .u32 f.q, .int .u32 f.v, .slice A n cp]) (ht : t = false → f = ⟨0, 0, 0, 0, 0⟩) :
    Calls Tryz.prog 16 #[.pointer (some ⟨m, 0, none⟩)] w fun e w' => e = .returned (.tuple #[.agg #[.int .u8 f.k, .int .u8 f.s, .int .u32 f.q, .int .u32 f.v], .bool t]) ∧ Below w.heap.size w w' := by
  have hb := below_al (Below.refl w.heap.size w) (.cells #[.int .u8 0, .int .u8 0, .int .u32 0, .int .u32 0] 40)
  have hZ3 := Blk.new w 40 #[.int .u8 0, .int .u8 0, .int .u32 0, .int .u32 0]
  have z0 := hZ3.cell 0; have z1 := hZ3.cell 1; have z2 := hZ3.cell 2; have z3 := hZ3.cell 3; have zl := hZ3.lt; simp only [List.getElem?_toArray, List.getElem?_cons_zero, List.getElem?_cons_succ] at z0 z1 z2 z3; have zf := hZ3.frozen
  obtain ⟨x0, x1, xs, xp, xq, xl⟩ := (RfB.on h hb).cells
  have hS2 := hS.on hb
  have s11 := (hS2.cell 11).trans (show _ = some (Value.bool t) from rfl)
  have s12 := (hS2.cell 12).trans (show _ = some (Value.int .u8 f.k) from rfl)
  have s13 := (hS2.cell 13).trans (show _ = some (Value.int .u8 f.s) from rfl)
  have s14 := (hS2.cell 14).trans (show _ = some (Value.int .u32 f.q) from rfl)
  have s15 := (hS2.cell 15).trans (show _ = some (Value.int .u32 f.v) from rfl)
  have sl := hS2.lt
  have HB := Lib.hid hb
  clear h hb hZ3 hS hS2
  cases t
  · obtain rfl := ht rfl
    clear s12 s13 s14 s15 ht
    go_enter Tryz.func16, Tryz.ntmps16
    go_wp2_with fail
    exact bodyPost_ret (v := .tuple #[.agg #[.int .u8 0, .int .u8 0, .int .u32 0, .int .u32 0], .bool false]) (by simp [results, Tryz.results16, go_sem, z0, z1, z2, z3, zl]) rfl ⟨rfl, by first | exact below_al (Below.refl _ _) _ | exact below_four HB.out (Nat.le_refl _) _ _ _ _⟩
  · clear ht
    go_enter Tryz.func16, Tryz.ntmps16
    go_wp2_with fail
    exact bodyPost_ret (v := .tuple #[.agg #[.int .u8 f.k, .int .u8 f.s, .int .u32 f.q, .int .u32 f.v], .bool true]) (by simp [results, Tryz.results16, go_sem, z0, z1, z2, z3, zl]) rfl ⟨rfl, by first | exact below_al (Below.refl _ _) _ | exact below_four HB.out (Nat.le_refl _) _ _ _ _⟩
end Go.Proofs.YtkejpkcaojidaaaGreatDoor

namespace Go.Proofs.YtkejpkcaojidaaaGreatDoor
set_option linter.unusedVariables false
set_option linter.unusedSimpArgs false
open Go.RowKit Rg
set_option linter.unusedVariables false

/-- What is known of what was made, and stays so while memory grows. -/
def Reg.Fact.made (E : Int) (R : Option Addr → World → Prop) (hR : ∀ s u u', R s u → Below u.heap.size u u' → R s u') : Reg.Fact := ⟨fun v w => ∃ s, v = .tuple #[.pointer s, .int .i64 E] ∧ R s w, fun _ _ _ hb h => by
  obtain ⟨s, e, h⟩ := h
  exact ⟨s, e, hR _ _ _ h hb⟩⟩
def Reg.Fact.madep (R : Option Addr → World → Prop) (hR : ∀ s u u', R s u → Below u.heap.size u u' → R s u') : Reg.Fact := ⟨fun v w => ∃ s, v = .pointer s ∧ R s w, fun _ _ _ hb h => by
  obtain ⟨s, e, h⟩ := h
  exact ⟨s, e, hR _ _ _ h hb⟩⟩
set_option maxRecDepth 100000 in
set_option maxHeartbeats 4000000 in
theorem rfBegin_bad (m : Nat) (c : Cf) (xn o0 o : Int) (S P0 P1 : Option Addr) (a b : Sd) (w : World) (h : RfB w m c xn o0 S P0 P1) (ho : o < 0 ∨ (c.pn : Int) ≤ o) :
    Calls Tryz.prog 9 #[.pointer (some ⟨m, 0, none⟩), .int .i64 o, .agg #[.bool a.i, .int .i64 a.a, .int .u8 a.k, .int .u8 a.s, .int .u32 a.q, .int .u32 a.v], .agg #[.bool b.i, .int .i64 b.a, .int .u8 b.k, .int .u8 b.s, .int .u32 b.q, .int .u32 b.v]] w fun e w' => e = .returned (.int .i64 1) ∧ RfB w' m c xn o none none none ∧ But m w w' := by
  have hb0 := below_al (below_al (Below.refl w.heap.size w) (.cells #[.bool a.i, .int .i64 a.a, .int .u8 a.k, .int .u8 a.s, .int .u32 a.q, .int .u32 a.v] 42)) (.cells #[.bool b.i, .int .i64 b.a, .int .u8 b.k, .int .u8 b.s, .int .u32 b.q, .int .u32 b.v] 42)
  have hA : Blk ((w.alloc (.cells #[.bool a.i, .int .i64 a.a, .int .u8 a.k, .int .u8 a.s, .int .u32 a.q, .int .u32 a.v] 42)).alloc (.cells #[.bool b.i, .int .i64 b.a, .int .u8 b.k, .int .u8 b.s, .int .u32 b.q, .int .u32 b.v] 42)) w.heap.size 42 #[.bool a.i, .int .i64 a.a, .int .u8 a.k, .int .u8 a.s, .int .u32 a.q, .int .u32 a.v] := Blk.alloc (Blk.new w _ _) _
  have hBb : Blk ((w.alloc (.cells #[.bool a.i, .int .i64 a.a, .int .u8 a.k, .int .u8 a.s, .int .u32 a.q, .int .u32 a.v] 42)).alloc (.cells #[.bool b.i, .int .i64 b.a, .int .u8 b.k, .int .u8 b.s, .int .u32 b.q, .int .u32 b.v] 42)) (w.heap.size + 1) 42 #[.bool b.i, .int .i64 b.a, .int .u8 b.k, .int .u8 b.s, .int .u32 b.q, .int .u32 b.v] := Blk.newIn (by simp)
  have hml : m < w.heap.size := Blk.lt h
  have hm0 := RfB.on h hb0
  obtain ⟨x0, x1, xs, xp, xq, xl⟩ := hm0.cells
  have xf := Blk.frozen hm0
  have HM0 := Lib.hid hm0
  have HBT := Lib.hid (((((But.grow (Nat.le_of_lt hml) hb0).set 11 (.pointer none)).set 12 (.pointer none)).set 13 (.pointer none)).set 10 (.int .i64 o))
  have HA0 := Lib.hid hA
  have HB0 := Lib.hid hBb
  have HNE := Lib.hid hml
  clear h hb0 hA hBb hm0 hml
  by_cases h1 : o < 0
  · have q3 : decide (o < 0) = true := decide_eq_true h1
    clear ho
    go_enter Tryz.func9, Tryz.ntmps9
    go_upto_region 4 with fail
    refine wp_at (fun U => Hid (But m w U) ∧ Hid (RfB U m c xn o none none none) ∧ Hid (Blk U w.heap.size 42 #[.bool a.i, .int .i64 a.a, .int .u8 a.k, .int .u8 a.s, .int .u32 a.q, .int .u32 a.v]) ∧ Hid (Blk U (w.heap.size + 1) 42 #[.bool b.i, .int .i64 b.a, .int .u8 b.k, .int .u8 b.s, .int .u32 b.q, .int .u32 b.v])) ⟨HBT, Lib.hid ((((Blk.set_ HM0.out 11 _).set_ 12 _).set_ 13 _).set_ 10 _), Lib.hid (But.blk ((((But.one 11 _).set 12 _).set 13 _).set 10 _) HA0.out (by have := HNE.out; omega)), Lib.hid (But.blk ((((But.one 11 _).set 12 _).set 13 _).set 10 _) HB0.out (by have := HNE.out; omega))⟩ ?_
    clear x0 x1 xs xp xq xl xf HM0 HBT HA0 HB0
    rintro U ⟨HBU, HMU, HAU, HBB⟩
    obtain ⟨x0, x1, xs, xp, xq, xl⟩ := HMU.out.cells
    obtain ⟨k0, k1, k2, k3, k4, k5, k6, k7, k8⟩ := HMU.out.conf
    have xf := Blk.frozen HMU.out
    go_wp2_with fail
    go_ret
    exact ⟨rfl, HMU.out, HBU.out⟩
  · have h2 : (c.pn : Int) ≤ o := by omega
    have q3 : decide (o < 0) = false := decide_eq_false h1
    have q4 : decide ((c.pn : Int) ≤ o) = true := decide_eq_true h2
    clear ho
    go_enter Tryz.func9, Tryz.ntmps9
    go_upto_region 4 with fail
    refine wp_at (fun U => Hid (But m w U) ∧ Hid (RfB U m c xn o none none none) ∧ Hid (Blk U w.heap.size 42 #[.bool a.i, .int .i64 a.a, .int .u8 a.k, .int .u8 a.s, .int .u32 a.q, .int .u32 a.v]) ∧ Hid (Blk U (w.heap.size + 1) 42 #[.bool b.i, .int .i64 b.a, .int .u8 b.k, .int .u8 b.s, .int .u32 b.q, .int .u32 b.v])) ⟨HBT, Lib.hid ((((Blk.set_ HM0.out 11 _).set_ 12 _).set_ 13 _).set_ 10 _), Lib.hid (But.blk ((((But.one 11 _).set 12 _).set 13 _).set 10 _) HA0.out (by have := HNE.out; omega)), Lib.hid (But.blk ((((But.one 11 _).set 12 _).set 13 _).set 10 _) HB0.out (by have := HNE.out; omega))⟩ ?_
    clear x0 x1 xs xp xq xl xf HM0 HBT HA0 HB0
    rintro U ⟨HBU, HMU, HAU, HBB⟩
    obtain ⟨x0, x1, xs, xp, xq, xl⟩ := HMU.out.cells
    obtain ⟨k0, k1, k2, k3, k4, k5, k6, k7, k8⟩ := HMU.out.conf
    have xf := Blk.frozen HMU.out
    go_wp2_with fail
    go_ret
    exact ⟨rfl, HMU.out, HBU.out⟩
set_option maxRecDepth 100000 in
set_option maxHeartbeats 4000000 in
theorem rfBegin_half (m : Nat) (c : Cf) (xn o0 o : Int) (S P0 P1 : Option Addr) (a b : Sd) (w : World) (h : RfB w m c xn o0 S P0 P1) {B : Nat} (hc : CfLow w B c) (hB : B ≤ m) (ho : 0 ≤ o) (ho' : o < (c.pn : Int)) (hp : pairM c.N c.P xn = o) (E : Int) (R : Option Addr → World → Prop) (hR : ∀ s u u', R s u → Below u.heap.size u u' → R s u')
    (HS : ∀ u, CfIn u c → Calls Tryz.prog 27 #[.agg #[.int .i64 c.N, .slice c.pA c.pn c.pc, .slice c.sA c.sn c.sc, .int .i64 c.L, .slice c.bA c.bn c.bc, .slice c.tA c.tn c.tc, .int .i64 c.M, .int .i64 c.G, .int .i64 c.F], .int .i64 xn, .int .i64 o, .agg #[.bool a.i, .int .i64 a.a, .int .u8 a.k, .int .u8 a.s, .int .u32 a.q, .int .u32 a.v], .agg #[.bool b.i, .int .i64 b.a, .int .u8 b.k, .int .u8 b.s, .int .u32 b.q, .int .u32 b.v]] u fun e w' => ∃ s, e = .returned (.tuple #[.pointer s, .int .i64 E]) ∧ R s w' ∧ Below u.heap.size u w') :
    Calls Tryz.prog 9 #[.pointer (some ⟨m, 0, none⟩), .int .i64 o, .agg #[.bool a.i, .int .i64 a.a, .int .u8 a.k, .int .u8 a.s, .int .u32 a.q, .int .u32 a.v], .agg #[.bool b.i, .int .i64 b.a, .int .u8 b.k, .int .u8 b.s, .int .u32 b.q, .int .u32 b.v]] w fun e w' => ∃ s u, e = .returned (.int .i64 E) ∧ R s u ∧ RfB u m c xn o none none none ∧ w' = u.setCell ⟨m, 11, none⟩ (.pointer s) ∧ But m w u := by
  have hb0 := below_al (below_al (Below.refl w.heap.size w) (.cells #[.bool a.i, .int .i64 a.a, .int .u8 a.k, .int .u8 a.s, .int .u32 a.q, .int .u32 a.v] 42)) (.cells #[.bool b.i, .int .i64 b.a, .int .u8 b.k, .int .u8 b.s, .int .u32 b.q, .int .u32 b.v] 42)
  have hA : Blk ((w.alloc (.cells #[.bool a.i, .int .i64 a.a, .int .u8 a.k, .int .u8 a.s, .int .u32 a.q, .int .u32 a.v] 42)).alloc (.cells #[.bool b.i, .int .i64 b.a, .int .u8 b.k, .int .u8 b.s, .int .u32 b.q, .int .u32 b.v] 42)) w.heap.size 42 #[.bool a.i, .int .i64 a.a, .int .u8 a.k, .int .u8 a.s, .int .u32 a.q, .int .u32 a.v] := Blk.alloc (Blk.new w _ _) _
  have hBb : Blk ((w.alloc (.cells #[.bool a.i, .int .i64 a.a, .int .u8 a.k, .int .u8 a.s, .int .u32 a.q, .int .u32 a.v] 42)).alloc (.cells #[.bool b.i, .int .i64 b.a, .int .u8 b.k, .int .u8 b.s, .int .u32 b.q, .int .u32 b.v] 42)) (w.heap.size + 1) 42 #[.bool b.i, .int .i64 b.a, .int .u8 b.k, .int .u8 b.s, .int .u32 b.q, .int .u32 b.v] := Blk.newIn (by simp)
  have hml : m < w.heap.size := Blk.lt h
  have hm0 := RfB.on h hb0
  obtain ⟨x0, x1, xs, xp, xq, xl⟩ := hm0.cells
  have xf := Blk.frozen hm0
  have HM0 := Lib.hid hm0
  have HBT := Lib.hid (((((But.grow (Nat.le_of_lt hml) hb0).set 11 (.pointer none)).set 12 (.pointer none)).set 13 (.pointer none)).set 10 (.int .i64 o))
  have HA0 := Lib.hid hA
  have HB0 := Lib.hid hBb
  have HNE := Lib.hid hml
  clear h hb0 hA hBb hm0 hml
  have HHS := Lib.hid HS
  have HRR := Lib.hid hR
  have HCL0 := Lib.hid hc
  have HCB0 := Lib.hid hB
  have HPP := Lib.hid hp
  have q1 : ¬ o < 0 := by omega
  have q2 : ¬ (c.pn : Int) ≤ o := by omega
  have q3 : decide (o < 0) = false := decide_eq_false q1
  have q4 : decide ((c.pn : Int) ≤ o) = false := decide_eq_false q2
  clear hc hB ho ho' hp HS hR
  go_enter Tryz.func9, Tryz.ntmps9
  go_upto_region 4 with fail
  refine wp_at (fun U => Hid (But m w U) ∧ Hid (RfB U m c xn o none none none) ∧ Hid (Blk U w.heap.size 42 #[.bool a.i, .int .i64 a.a, .int .u8 a.k, .int .u8 a.s, .int .u32 a.q, .int .u32 a.v]) ∧ Hid (Blk U (w.heap.size + 1) 42 #[.bool b.i, .int .i64 b.a, .int .u8 b.k, .int .u8 b.s, .int .u32 b.q, .int .u32 b.v])) ⟨HBT, Lib.hid ((((Blk.set_ HM0.out 11 _).set_ 12 _).set_ 13 _).set_ 10 _), Lib.hid (But.blk ((((But.one 11 _).set 12 _).set 13 _).set 10 _) HA0.out (by have := HNE.out; omega)), Lib.hid (But.blk ((((But.one 11 _).set 12 _).set 13 _).set 10 _) HB0.out (by have := HNE.out; omega))⟩ ?_
  clear x0 x1 xs xp xq xl xf HM0 HBT HA0 HB0
  rintro U ⟨HBU, HMU, HAU, HBB⟩
  obtain ⟨x0, x1, xs, xp, xq, xl⟩ := HMU.out.cells
  obtain ⟨k0, k1, k2, k3, k4, k5, k6, k7, k8⟩ := HMU.out.conf
  have xf := Blk.frozen HMU.out
  have HCB := Lib.hid (show B ≤ U.heap.size by have := HCB0.out; omega)
  have HCL := Lib.hid (HCL0.out.keep (Nat.le_refl _) (HBU.out.low HCB0.out))
  have hpq : (pairM c.N c.P xn == o) = true := by rw [beq_iff_eq]; exact HPP.out
  have hpd : decide (pairM c.N c.P xn = o) = true := decide_eq_true HPP.out
  have HPQ := Lib.hid (And.intro hpq hpd)
  go_upto_region 6 with fail
  clear k0 k1 k2 k3 k4 k5 k6 k7 k8 x0 x1 xs xp xq xl xf
  refine Reg.wp_slots (fun t => decide (35 ≤ t) && decide (t ≤ 45)) (by kernel_rfl) (by kernel_rfl) (by kernel_rfl) (fun zz => (Reg.tbl [
    (35, .is (.pointer (some ⟨m, 0, none⟩))),
    (36, .is (.pointer (some ⟨m, 0, none⟩))),
    (37, .is (.pointer (some ⟨m, 0, none⟩))),
    (38, .is (.agg #[.int .i64 c.N, .slice c.pA c.pn c.pc, .slice c.sA c.sn c.sc, .int .i64 c.L, .slice c.bA c.bn c.bc, .slice c.tA c.tn c.tc, .int .i64 c.M, .int .i64 c.G, .int .i64 c.F])),
    (39, .is (.pointer (some ⟨m, 0, none⟩))),
    (40, .is (.pointer (some ⟨m, 0, none⟩))),
    (41, .is (.pointer (some ⟨m, 9, none⟩))),
    (42, .is (.int .i64 xn)),
    (43, .is (.int .i64 (pairM c.N c.P xn))),
    (44, .is (.int .i64 o)),
    (45, .is (.bool true))] zz).P) (fun zz => (Reg.tbl _ zz).on) ?_ ?_
  · simp only [Reg.frame, Reg.over, Nat.reduceAdd, Nat.reduceLeDiff, decide_true, decide_false, if_true, Bool.false_eq_true, if_false, Bool.and_true, Bool.and_false]
    refine ⟨?_, ?_, ?_, ?_, ?_, ?_, ?_, ?_, ?_, ?_, ?_, trivial⟩
    · intro x u hbu hd
      refine wpOp_step rfl fun K hK => ?_
      go_simp
      exact hK _ _ ⟨_, rfl, Below.refl _ _, fun d hd => by cases hd; exact rfl⟩
    · intro x u hbu hd
      have h35 : x 35 = .pointer (some ⟨m, 0, none⟩) := hd 0 (by decide)
      refine wpOp_step rfl fun K hK => ?_
      simp only [h35] at hK ⊢
      go_simp
      exact hK _ _ ⟨_, rfl, Below.refl _ _, fun d hd => by cases hd; exact rfl⟩
    · intro x u hbu hd
      have h36 : x 36 = .pointer (some ⟨m, 0, none⟩) := hd 1 (by decide)
      refine wpOp_step rfl fun K hK => ?_
      simp only [h36] at hK ⊢
      go_simp
      exact hK _ _ ⟨_, rfl, Below.refl _ _, fun d hd => by cases hd; exact rfl⟩
    · intro x u hbu hd
      have h37 : x 37 = .pointer (some ⟨m, 0, none⟩) := hd 2 (by decide)
      obtain ⟨k0, k1, k2, k3, k4, k5, k6, k7, k8⟩ := (RfB.on HMU.out hbu).conf
      have xl := Blk.lt (RfB.on HMU.out hbu)
      refine wpOp_step rfl fun K hK => ?_
      simp only [h37] at hK ⊢
      go_simp
      exact hK _ _ ⟨_, rfl, Below.refl _ _, fun d hd => by cases hd; exact rfl⟩
    · intro x u hbu hd
      refine wpOp_step rfl fun K hK => ?_
      go_simp
      exact hK _ _ ⟨_, rfl, Below.refl _ _, fun d hd => by cases hd; exact rfl⟩
    · intro x u hbu hd
      have h39 : x 39 = .pointer (some ⟨m, 0, none⟩) := hd 4 (by decide)
      refine wpOp_step rfl fun K hK => ?_
      simp only [h39] at hK ⊢
      go_simp
      exact hK _ _ ⟨_, rfl, Below.refl _ _, fun d hd => by cases hd; exact rfl⟩
    · intro x u hbu hd
      have h40 : x 40 = .pointer (some ⟨m, 0, none⟩) := hd 5 (by decide)
      refine wpOp_step rfl fun K hK => ?_
      simp only [h40] at hK ⊢
      go_simp
      exact hK _ _ ⟨_, rfl, Below.refl _ _, fun d hd => by cases hd; exact rfl⟩
    · intro x u hbu hd
      have h41 : x 41 = .pointer (some ⟨m, 9, none⟩) := hd 6 (by decide)
      obtain ⟨x0, x1, xs, xp, xq, xl⟩ := (RfB.on HMU.out hbu).cells
      refine wpOp_step rfl fun K hK => ?_
      simp only [h41] at hK ⊢
      go_simp
      exact hK _ _ ⟨_, rfl, Below.refl _ _, fun d hd => by cases hd; exact rfl⟩
    · intro x u hbu hd
      have h38 : x 38 = .agg #[.int .i64 c.N, .slice c.pA c.pn c.pc, .slice c.sA c.sn c.sc, .int .i64 c.L, .slice c.bA c.bn c.bc, .slice c.tA c.tn c.tc, .int .i64 c.M, .int .i64 c.G, .int .i64 c.F] := hd 3 (by decide)
      have h42 : x 42 = .int .i64 xn := hd 7 (by decide)
      refine wpOp_step rfl fun K hK => ?_
      simp only [h38, h42] at hK ⊢
      go_simp
      with_reducible refine (refPair_any c xn _ (HCL.out.keep (Nat.le_refl _) (hbu.mono HCB.out) |>.in_ (Nat.le_trans HCB.out hbu.size))).mono ?_
      rintro e u' ⟨rfl, hb'⟩
      exact hK _ _ ⟨_, rfl, hb', fun d hd => by cases hd; exact rfl⟩
    · intro x u hbu hd
      refine wpOp_step rfl fun K hK => ?_
      go_simp
      exact hK _ _ ⟨_, rfl, Below.refl _ _, fun d hd => by cases hd; exact rfl⟩
    · intro x u hbu hd
      have h43 : x 43 = .int .i64 (pairM c.N c.P xn) := hd 8 (by decide)
      have h44 : x 44 = .int .i64 o := hd 9 (by decide)
      refine wpOp_step rfl fun K hK => ?_
      simp only [h43, h44] at hK ⊢
      go_simp
      exact hK _ _ ⟨_, rfl, Below.refl _ _, fun d hd => by cases hd; exact rfl⟩
  · intro y U2 hbu hall
    have h45 : y 45 = .bool true := hall 10 (by decide)
    simp only [Reg.frame, Reg.over, Nat.reduceAdd, Nat.reduceLeDiff, decide_true, decide_false, if_true, Bool.false_eq_true, if_false, Bool.and_true, Bool.and_false, h45]
    have HM1 := Lib.hid (RfB.on HMU.out hbu)
    have HA1 := Lib.hid (HAU.out.on hbu)
    have HB1B := Lib.hid (HBB.out.on hbu)
    have HBW := Lib.hid (HBU.out.on HNE.out hbu)
    have HCB1 := Lib.hid (Nat.le_trans HCB.out hbu.size)
    have HCL1 := Lib.hid (HCL.out.keep (Nat.le_refl _) (hbu.mono HCB.out))
    clear hbu hall h45 hpq hpd HMU HAU HBB HBU HCB HCL HPQ
    go_upto_region 7 with fail
    refine Reg.wp_slots (fun t => t == 9 || t == 10 || (decide (46 ≤ t) && decide (t ≤ 60))) (by kernel_rfl) (by kernel_rfl) (by kernel_rfl) (fun zz => (Reg.tbl [
      (47, .is (.pointer (some ⟨m, 0, none⟩))),
      (48, .is (.pointer (some ⟨m, 0, none⟩))),
      (49, .is (.pointer (some ⟨m, 0, none⟩))),
      (50, .is (.agg #[.int .i64 c.N, .slice c.pA c.pn c.pc, .slice c.sA c.sn c.sc, .int .i64 c.L, .slice c.bA c.bn c.bc, .slice c.tA c.tn c.tc, .int .i64 c.M, .int .i64 c.G, .int .i64 c.F])),
      (51, .is (.pointer (some ⟨m, 0, none⟩))),
      (52, .is (.pointer (some ⟨m, 0, none⟩))),
      (53, .is (.pointer (some ⟨m, 9, none⟩))),
      (54, .is (.int .i64 xn)),
      (55, .is (.int .i64 o)),
      (56, .is (.agg #[.bool a.i, .int .i64 a.a, .int .u8 a.k, .int .u8 a.s, .int .u32 a.q, .int .u32 a.v])),
      (57, .is (.agg #[.bool b.i, .int .i64 b.a, .int .u8 b.k, .int .u8 b.s, .int .u32 b.q, .int .u32 b.v])),
      (58, .made E R HRR.out),
      (46, .made E R HRR.out),
      (59, .madep R HRR.out),
      (60, .is (.int .i64 E)),
      (9, .madep R HRR.out),
      (10, .is (.int .i64 E))] zz).P) (fun zz => (Reg.tbl _ zz).on) ?_ ?_
    · simp only [Reg.frame, Reg.over, Nat.reduceAdd, Nat.reduceBEq, Nat.reduceLeDiff, decide_true, decide_false, Bool.or_true, Bool.or_false, if_true, Bool.false_eq_true, if_false, Bool.and_true, Bool.and_false]
      refine ⟨?_, ?_, ?_, ?_, ?_, ?_, ?_, ?_, ?_, ?_, ?_, ?_, ?_, ?_, ?_, ?_, ?_, trivial⟩
      · intro x u hbu hd
        refine wpOp_step rfl fun K hK => ?_
        go_simp
        exact hK _ _ ⟨_, rfl, Below.refl _ _, fun d hd => by cases hd; exact rfl⟩
      · intro x u hbu hd
        have h47 : x 47 = .pointer (some ⟨m, 0, none⟩) := hd 0 (by decide)
        refine wpOp_step rfl fun K hK => ?_
        simp only [h47] at hK ⊢
        go_simp
        exact hK _ _ ⟨_, rfl, Below.refl _ _, fun d hd => by cases hd; exact rfl⟩
      · intro x u hbu hd
        have h48 : x 48 = .pointer (some ⟨m, 0, none⟩) := hd 1 (by decide)
        refine wpOp_step rfl fun K hK => ?_
        simp only [h48] at hK ⊢
        go_simp
        exact hK _ _ ⟨_, rfl, Below.refl _ _, fun d hd => by cases hd; exact rfl⟩
      · intro x u hbu hd
        have h49 : x 49 = .pointer (some ⟨m, 0, none⟩) := hd 2 (by decide)
        obtain ⟨k0, k1, k2, k3, k4, k5, k6, k7, k8⟩ := (RfB.on HM1.out hbu).conf
        have xl := Blk.lt (RfB.on HM1.out hbu)
        refine wpOp_step rfl fun K hK => ?_
        simp only [h49] at hK ⊢
        go_simp
        exact hK _ _ ⟨_, rfl, Below.refl _ _, fun d hd => by cases hd; exact rfl⟩
      · intro x u hbu hd
        refine wpOp_step rfl fun K hK => ?_
        go_simp
        exact hK _ _ ⟨_, rfl, Below.refl _ _, fun d hd => by cases hd; exact rfl⟩
      · intro x u hbu hd
        have h51 : x 51 = .pointer (some ⟨m, 0, none⟩) := hd 4 (by decide)
        refine wpOp_step rfl fun K hK => ?_
        simp only [h51] at hK ⊢
        go_simp
        exact hK _ _ ⟨_, rfl, Below.refl _ _, fun d hd => by cases hd; exact rfl⟩
      · intro x u hbu hd
        have h52 : x 52 = .pointer (some ⟨m, 0, none⟩) := hd 5 (by decide)
        refine wpOp_step rfl fun K hK => ?_
        simp only [h52] at hK ⊢
        go_simp
        exact hK _ _ ⟨_, rfl, Below.refl _ _, fun d hd => by cases hd; exact rfl⟩
      · intro x u hbu hd
        have h53 : x 53 = .pointer (some ⟨m, 9, none⟩) := hd 6 (by decide)
        obtain ⟨x0, x1, xs, xp, xq, xl⟩ := (RfB.on HM1.out hbu).cells
        refine wpOp_step rfl fun K hK => ?_
        simp only [h53] at hK ⊢
        go_simp
        exact hK _ _ ⟨_, rfl, Below.refl _ _, fun d hd => by cases hd; exact rfl⟩
      · intro x u hbu hd
        refine wpOp_step rfl fun K hK => ?_
        go_simp
        exact hK _ _ ⟨_, rfl, Below.refl _ _, fun d hd => by cases hd; exact rfl⟩
      · intro x u hbu hd
        obtain ⟨v0, v1, v2, v3, v4, v5, vl⟩ := (HA1.out.on hbu).sd
        refine wpOp_step rfl fun K hK => ?_
        go_simp
        exact hK _ _ ⟨_, rfl, Below.refl _ _, fun d hd => by cases hd; exact rfl⟩
      · intro x u hbu hd
        obtain ⟨v0, v1, v2, v3, v4, v5, vl⟩ := (HB1B.out.on hbu).sd
        refine wpOp_step rfl fun K hK => ?_
        go_simp
        exact hK _ _ ⟨_, rfl, Below.refl _ _, fun d hd => by cases hd; exact rfl⟩
      · intro x u hbu hd
        have h50 : x 50 = .agg #[.int .i64 c.N, .slice c.pA c.pn c.pc, .slice c.sA c.sn c.sc, .int .i64 c.L, .slice c.bA c.bn c.bc, .slice c.tA c.tn c.tc, .int .i64 c.M, .int .i64 c.G, .int .i64 c.F] := hd 3 (by decide)
        have h54 : x 54 = .int .i64 xn := hd 7 (by decide)
        have h55 : x 55 = .int .i64 o := hd 8 (by decide)
        have h56 : x 56 = .agg #[.bool a.i, .int .i64 a.a, .int .u8 a.k, .int .u8 a.s, .int .u32 a.q, .int .u32 a.v] := hd 9 (by decide)
        have h57 : x 57 = .agg #[.bool b.i, .int .i64 b.a, .int .u8 b.k, .int .u8 b.s, .int .u32 b.q, .int .u32 b.v] := hd 10 (by decide)
        refine wpOp_step rfl fun K hK => ?_
        simp only [h50, h54, h55, h56, h57] at hK ⊢
        go_simp
        with_reducible refine (HHS.out u ((HCL1.out.keep (Nat.le_refl _) (hbu.mono HCB1.out)).in_ (Nat.le_trans HCB1.out hbu.size))).mono ?_
        rintro e u' ⟨s, rfl, hr, hb'⟩
        exact hK _ _ ⟨_, rfl, hb', fun d hd => by cases hd; exact ⟨s, rfl, hr⟩⟩
      · intro x u hbu hd
        have k58 : (Reg.Fact.made E R HRR.out : Reg.Fact).P (x 58) u := hd 11 (by decide)
        obtain ⟨s58, h58, hr58⟩ := k58
        refine wpOp_step rfl fun K hK => ?_
        simp only [h58] at hK ⊢
        go_simp
        exact hK _ _ ⟨_, rfl, Below.refl _ _, fun d hd => by cases hd; exact ⟨_, rfl, hr58⟩⟩
      · intro x u hbu hd
        have k46 : (Reg.Fact.made E R HRR.out : Reg.Fact).P (x 46) u := hd 12 (by decide)
        obtain ⟨s46, h46, hr46⟩ := k46
        refine wpOp_step rfl fun K hK => ?_
        simp only [h46] at hK ⊢
        go_simp
        exact hK _ _ ⟨_, rfl, Below.refl _ _, fun d hd => by cases hd; exact ⟨_, rfl, hr46⟩⟩
      · intro x u hbu hd
        have k46 : (Reg.Fact.made E R HRR.out : Reg.Fact).P (x 46) u := hd 12 (by decide)
        obtain ⟨s46, h46, hr46⟩ := k46
        refine wpOp_step rfl fun K hK => ?_
        simp only [h46] at hK ⊢
        go_simp
        exact hK _ _ ⟨_, rfl, Below.refl _ _, fun d hd => by cases hd; exact rfl⟩
      · intro x u hbu hd
        have k59 : (Reg.Fact.madep R HRR.out : Reg.Fact).P (x 59) u := hd 13 (by decide)
        obtain ⟨s59, h59, hr59⟩ := k59
        refine wpOp_step rfl fun K hK => ?_
        simp only [h59] at hK ⊢
        go_simp
        exact hK _ _ ⟨_, rfl, Below.refl _ _, fun d hd => by cases hd; exact ⟨_, rfl, hr59⟩⟩
      · intro x u hbu hd
        have h60 : x 60 = .int .i64 E := hd 14 (by decide)
        refine wpOp_step rfl fun K hK => ?_
        simp only [h60] at hK ⊢
        go_simp
        exact hK _ _ ⟨_, rfl, Below.refl _ _, fun d hd => by cases hd; exact rfl⟩
    · intro z U3 hbu hall
      have k9 : (Reg.Fact.madep R HRR.out : Reg.Fact).P (z 9) U3 := hall 15 (by decide)
      obtain ⟨s, h9, hr9⟩ := k9
      have h10 : z 10 = .int .i64 E := hall 16 (by decide)
      simp only [Reg.frame, Reg.over, Nat.reduceAdd, Nat.reduceBEq, Nat.reduceLeDiff, decide_true, decide_false, Bool.or_true, Bool.or_false, if_true, Bool.false_eq_true, if_false, Bool.and_true, Bool.and_false, h9, h10]
      have HM3 := Lib.hid (RfB.on HM1.out hbu)
      have HR3 := Lib.hid hr9
      have HB3 := Lib.hid (HBW.out.on HNE.out hbu)
      obtain ⟨x0, x1, xs, xp, xq, xl⟩ := HM3.out.cells
      have xf := Blk.frozen HM3.out
      clear hbu hall h9 hr9 h10
      go_wp2_with fail
      go_ret
      exact ⟨rfl, s, U3, HR3.out, HM3.out, rfl, HB3.out⟩
/-- The reference's catch, new, in its block. -/
def RcZ (w : World) (g : Nat) (o : Int) : Prop := Blk w g 155 #[.int .i64 o, .slice none 0 0, .slice none 0 0]
theorem rNewB (o : Int) (w : World) (h0 : 0 ≤ o) (h1 : o < 8) : Calls Tryz.prog 28 #[.int .i64 o] w fun e w' => ∃ g, e = .returned (.tuple #[.pointer (some ⟨g, 0, none⟩), .int .i64 0]) ∧ w.heap.size ≤ g ∧ RcZ w' g o ∧ Below w.heap.size w w' :=
  (rNew_yes (fun _ => 0) (fun _ => 0) o w h0 h1 w.heap.size (Nat.le_refl _)).mono fun e w' ⟨a, b, c⟩ => ⟨_, a, Nat.le_refl _, b.blk, c⟩
set_option maxRecDepth 100000 in
set_option maxHeartbeats 4000000 in
theorem rfBegin_oth (m : Nat) (c : Cf) (xn o0 o : Int) (S P0 P1 : Option Addr) (a b : Sd) (w : World) (h : RfB w m c xn o0 S P0 P1) {B : Nat} (hc : CfLow w B c) (hB : B ≤ m) (ho : 0 ≤ o) (ho' : o < (c.pn : Int)) (ho8 : o < 8) (hp : pairM c.N c.P xn ≠ o) :
    Calls Tryz.prog 9 #[.pointer (some ⟨m, 0, none⟩), .int .i64 o, .agg #[.bool a.i, .int .i64 a.a, .int .u8 a.k, .int .u8 a.s, .int .u32 a.q, .int .u32 a.v], .agg #[.bool b.i, .int .i64 b.a, .int .u8 b.k, .int .u8 b.s, .int .u32 b.q, .int .u32 b.v]] w fun e w' => ∃ g0 g1 : Nat, e = .returned (.int .i64 0) ∧ RfB w' m c xn o none (some ⟨g0, 0, none⟩) (some ⟨g1, 0, none⟩) ∧ RcZ w' g0 o ∧ RcZ w' g1 o ∧ g0 ≠ g1 ∧ w.heap.size ≤ g0 ∧ w.heap.size ≤ g1 ∧ But m w w' := by
  have hb0 := below_al (below_al (Below.refl w.heap.size w) (.cells #[.bool a.i, .int .i64 a.a, .int .u8 a.k, .int .u8 a.s, .int .u32 a.q, .int .u32 a.v] 42)) (.cells #[.bool b.i, .int .i64 b.a, .int .u8 b.k, .int .u8 b.s, .int .u32 b.q, .int .u32 b.v] 42)
  have hA : Blk ((w.alloc (.cells #[.bool a.i, .int .i64 a.a, .int .u8 a.k, .int .u8 a.s, .int .u32 a.q, .int .u32 a.v] 42)).alloc (.cells #[.bool b.i, .int .i64 b.a, .int .u8 b.k, .int .u8 b.s, .int .u32 b.q, .int .u32 b.v] 42)) w.heap.size 42 #[.bool a.i, .int .i64 a.a, .int .u8 a.k, .int .u8 a.s, .int .u32 a.q, .int .u32 a.v] := Blk.alloc (Blk.new w _ _) _
  have hBb : Blk ((w.alloc (.cells #[.bool a.i, .int .i64 a.a, .int .u8 a.k, .int .u8 a.s, .int .u32 a.q, .int .u32 a.v] 42)).alloc (.cells #[.bool b.i, .int .i64 b.a, .int .u8 b.k, .int .u8 b.s, .int .u32 b.q, .int .u32 b.v] 42)) (w.heap.size + 1) 42 #[.bool b.i, .int .i64 b.a, .int .u8 b.k, .int .u8 b.s, .int .u32 b.q, .int .u32 b.v] := Blk.newIn (by simp)
  have hml : m < w.heap.size := Blk.lt h
  have hm0 := RfB.on h hb0
  obtain ⟨x0, x1, xs, xp, xq, xl⟩ := hm0.cells
  have xf := Blk.frozen hm0
  have HM0 := Lib.hid hm0
  have HBT := Lib.hid (((((But.grow (Nat.le_of_lt hml) hb0).set 11 (.pointer none)).set 12 (.pointer none)).set 13 (.pointer none)).set 10 (.int .i64 o))
  have HA0 := Lib.hid hA
  have HB0 := Lib.hid hBb
  have HNE := Lib.hid hml
  clear h hb0 hA hBb hm0 hml
  have HNW := Lib.hid (fun u => rNewB o u ho ho8)
  have HCL0 := Lib.hid hc
  have HCB0 := Lib.hid hB
  have HPP := Lib.hid hp
  have q1 : ¬ o < 0 := by omega
  have q2 : ¬ (c.pn : Int) ≤ o := by omega
  have q3 : decide (o < 0) = false := decide_eq_false q1
  have q4 : decide ((c.pn : Int) ≤ o) = false := decide_eq_false q2
  clear hc hB ho ho' ho8 hp
  go_enter Tryz.func9, Tryz.ntmps9
  go_upto_region 4 with fail
  refine wp_at (fun U => Hid (But m w U) ∧ Hid (RfB U m c xn o none none none) ∧ Hid (Blk U w.heap.size 42 #[.bool a.i, .int .i64 a.a, .int .u8 a.k, .int .u8 a.s, .int .u32 a.q, .int .u32 a.v]) ∧ Hid (Blk U (w.heap.size + 1) 42 #[.bool b.i, .int .i64 b.a, .int .u8 b.k, .int .u8 b.s, .int .u32 b.q, .int .u32 b.v])) ⟨HBT, Lib.hid ((((Blk.set_ HM0.out 11 _).set_ 12 _).set_ 13 _).set_ 10 _), Lib.hid (But.blk ((((But.one 11 _).set 12 _).set 13 _).set 10 _) HA0.out (by have := HNE.out; omega)), Lib.hid (But.blk ((((But.one 11 _).set 12 _).set 13 _).set 10 _) HB0.out (by have := HNE.out; omega))⟩ ?_
  clear x0 x1 xs xp xq xl xf HM0 HBT HA0 HB0
  rintro U ⟨HBU, HMU, HAU, HBB⟩
  obtain ⟨x0, x1, xs, xp, xq, xl⟩ := HMU.out.cells
  obtain ⟨k0, k1, k2, k3, k4, k5, k6, k7, k8⟩ := HMU.out.conf
  have xf := Blk.frozen HMU.out
  have HCB := Lib.hid (show B ≤ U.heap.size by have := HCB0.out; omega)
  have HCL := Lib.hid (HCL0.out.keep (Nat.le_refl _) (HBU.out.low HCB0.out))
  have hpq : (pairM c.N c.P xn == o) = false := by rw [beq_eq_false_iff_ne]; exact HPP.out
  have hpd : decide (pairM c.N c.P xn = o) = false := decide_eq_false HPP.out
  go_upto_region 6 with fail
  clear k0 k1 k2 k3 k4 k5 k6 k7 k8 x0 x1 xs xp xq xl xf
  refine Reg.wp_slots (fun t => decide (35 ≤ t) && decide (t ≤ 45)) (by kernel_rfl) (by kernel_rfl) (by kernel_rfl) (fun zz => (Reg.tbl [
    (35, .is (.pointer (some ⟨m, 0, none⟩))),
    (36, .is (.pointer (some ⟨m, 0, none⟩))),
    (37, .is (.pointer (some ⟨m, 0, none⟩))),
    (38, .is (.agg #[.int .i64 c.N, .slice c.pA c.pn c.pc, .slice c.sA c.sn c.sc, .int .i64 c.L, .slice c.bA c.bn c.bc, .slice c.tA c.tn c.tc, .int .i64 c.M, .int .i64 c.G, .int .i64 c.F])),
    (39, .is (.pointer (some ⟨m, 0, none⟩))),
    (40, .is (.pointer (some ⟨m, 0, none⟩))),
    (41, .is (.pointer (some ⟨m, 9, none⟩))),
    (42, .is (.int .i64 xn)),
    (43, .is (.int .i64 (pairM c.N c.P xn))),
    (44, .is (.int .i64 o)),
    (45, .is (.bool false))] zz).P) (fun zz => (Reg.tbl _ zz).on) ?_ ?_
  · simp only [Reg.frame, Reg.over, Nat.reduceAdd, Nat.reduceLeDiff, decide_true, decide_false, if_true, Bool.false_eq_true, if_false, Bool.and_true, Bool.and_false]
    refine ⟨?_, ?_, ?_, ?_, ?_, ?_, ?_, ?_, ?_, ?_, ?_, trivial⟩
    · intro x u hbu hd
      refine wpOp_step rfl fun K hK => ?_
      go_simp
      exact hK _ _ ⟨_, rfl, Below.refl _ _, fun d hd => by cases hd; exact rfl⟩
    · intro x u hbu hd
      have h35 : x 35 = .pointer (some ⟨m, 0, none⟩) := hd 0 (by decide)
      refine wpOp_step rfl fun K hK => ?_
      simp only [h35] at hK ⊢
      go_simp
      exact hK _ _ ⟨_, rfl, Below.refl _ _, fun d hd => by cases hd; exact rfl⟩
    · intro x u hbu hd
      have h36 : x 36 = .pointer (some ⟨m, 0, none⟩) := hd 1 (by decide)
      refine wpOp_step rfl fun K hK => ?_
      simp only [h36] at hK ⊢
      go_simp
      exact hK _ _ ⟨_, rfl, Below.refl _ _, fun d hd => by cases hd; exact rfl⟩
    · intro x u hbu hd
      have h37 : x 37 = .pointer (some ⟨m, 0, none⟩) := hd 2 (by decide)
      obtain ⟨k0, k1, k2, k3, k4, k5, k6, k7, k8⟩ := (RfB.on HMU.out hbu).conf
      have xl := Blk.lt (RfB.on HMU.out hbu)
      refine wpOp_step rfl fun K hK => ?_
      simp only [h37] at hK ⊢
      go_simp
      exact hK _ _ ⟨_, rfl, Below.refl _ _, fun d hd => by cases hd; exact rfl⟩
    · intro x u hbu hd
      refine wpOp_step rfl fun K hK => ?_
      go_simp
      exact hK _ _ ⟨_, rfl, Below.refl _ _, fun d hd => by cases hd; exact rfl⟩
    · intro x u hbu hd
      have h39 : x 39 = .pointer (some ⟨m, 0, none⟩) := hd 4 (by decide)
      refine wpOp_step rfl fun K hK => ?_
      simp only [h39] at hK ⊢
      go_simp
      exact hK _ _ ⟨_, rfl, Below.refl _ _, fun d hd => by cases hd; exact rfl⟩
    · intro x u hbu hd
      have h40 : x 40 = .pointer (some ⟨m, 0, none⟩) := hd 5 (by decide)
      refine wpOp_step rfl fun K hK => ?_
      simp only [h40] at hK ⊢
      go_simp
      exact hK _ _ ⟨_, rfl, Below.refl _ _, fun d hd => by cases hd; exact rfl⟩
    · intro x u hbu hd
      have h41 : x 41 = .pointer (some ⟨m, 9, none⟩) := hd 6 (by decide)
      obtain ⟨x0, x1, xs, xp, xq, xl⟩ := (RfB.on HMU.out hbu).cells
      refine wpOp_step rfl fun K hK => ?_
      simp only [h41] at hK ⊢
      go_simp
      exact hK _ _ ⟨_, rfl, Below.refl _ _, fun d hd => by cases hd; exact rfl⟩
    · intro x u hbu hd
      have h38 : x 38 = .agg #[.int .i64 c.N, .slice c.pA c.pn c.pc, .slice c.sA c.sn c.sc, .int .i64 c.L, .slice c.bA c.bn c.bc, .slice c.tA c.tn c.tc, .int .i64 c.M, .int .i64 c.G, .int .i64 c.F] := hd 3 (by decide)
      have h42 : x 42 = .int .i64 xn := hd 7 (by decide)
      refine wpOp_step rfl fun K hK => ?_
      simp only [h38, h42] at hK ⊢
      go_simp
      with_reducible refine (refPair_any c xn _ (HCL.out.keep (Nat.le_refl _) (hbu.mono HCB.out) |>.in_ (Nat.le_trans HCB.out hbu.size))).mono ?_
      rintro e u' ⟨rfl, hb'⟩
      exact hK _ _ ⟨_, rfl, hb', fun d hd => by cases hd; exact rfl⟩
    · intro x u hbu hd
      refine wpOp_step rfl fun K hK => ?_
      go_simp
      exact hK _ _ ⟨_, rfl, Below.refl _ _, fun d hd => by cases hd; exact rfl⟩
    · intro x u hbu hd
      have h43 : x 43 = .int .i64 (pairM c.N c.P xn) := hd 8 (by decide)
      have h44 : x 44 = .int .i64 o := hd 9 (by decide)
      refine wpOp_step rfl fun K hK => ?_
      simp only [h43, h44] at hK ⊢
      go_simp
      exact hK _ _ ⟨_, rfl, Below.refl _ _, fun d hd => by cases hd; exact rfl⟩
  · intro y U2 hbu hall
    have h45 : y 45 = .bool false := hall 10 (by decide)
    simp only [Reg.frame, Reg.over, Nat.reduceAdd, Nat.reduceLeDiff, decide_true, decide_false, if_true, Bool.false_eq_true, if_false, Bool.and_true, Bool.and_false, h45]
    have HM1 := Lib.hid (RfB.on HMU.out hbu)
    have HBW := Lib.hid (HBU.out.on HNE.out hbu)
    clear hbu hall h45 hpq hpd HMU HAU HBB HBU HCB HCL
    go_wp2_with fail
    go_loopw [11] (fun s11 wr => ∃ (k g0 g1 : Nat), k ≤ 2 ∧ s11 = .int .i64 (k : Int) ∧ Hid (But m w wr) ∧ Hid (RfB wr m c xn o none (if 0 < k then some ⟨g0, 0, none⟩ else none) (if 1 < k then some ⟨g1, 0, none⟩ else none)) ∧ Hid ((0 < k → RcZ wr g0 o ∧ w.heap.size ≤ g0) ∧ (1 < k → RcZ wr g1 o ∧ w.heap.size ≤ g1 ∧ g0 ≠ g1))) (fun s11 _ => 2 - (intOf s11).toNat)
    case atStart => exact ⟨0, 0, 0, by omega, rfl, HBW, HM1, Lib.hid ⟨fun h => absurd h (by decide), fun h => absurd h (by decide)⟩⟩
    case round =>
      clear HM1 HBW
      obtain ⟨k, g0, g1, hk, rfl, HB1, HM1, HK⟩ := hrel
      rcases (show k = 0 ∨ k = 1 ∨ k = 2 by omega) with rfl | rfl | rfl
      · have HMK : Hid (RfB wr m c xn o none none none) := HM1
        have HZW := Lib.hid HB1.out.1.size
        have HG0 : Hid True := Lib.hid trivial
        clear hk HM1
        rw [show ((0 : Nat) : Int) = 0 from rfl]
        go_upto_region 13 with fail
        go_region_law (go_simp; go_at_call 28; (with_reducible refine (HNW.out _).mono ?_); rintro e w2 ⟨g, rfl, hg, hz, b2⟩; have hg' : wr.heap.size ≤ g := hg; have b2' : Below wr.heap.size wr w2 := (Below.refl wr.heap.size wr).drew.trans b2; have hM2 := RfB.on HMK.out b2'; have HW2 := Lib.hid (And.intro (HB1.out.on HNE.out b2') (And.intro hM2 (And.intro hz (show wr.heap.size ≤ g ∧ m < w.heap.size ∧ w.heap.size ≤ wr.heap.size from ⟨hg', HNE.out, HZW.out⟩))));  obtain ⟨x0, x1, xs, xp, xq, xl⟩ := hM2.cells; have xf := Blk.frozen hM2; clear hg hg' b2 b2' hM2 hz)
        all_goals
          go_wp2_with fail
          go_roundw
          case rel => exact ⟨1, g, 0, by omega, rfl, Lib.hid (HW2.out.1.set 12 _), Lib.hid (Blk.set_ HW2.out.2.1 12 _), Lib.hid ⟨fun _ => ⟨(But.one 12 _).blk HW2.out.2.2.1 (by have := HW2.out.2.2.2; omega), by have := HW2.out.2.2.2; omega⟩, fun h => absurd h (by decide)⟩⟩
          case measure => simp [intOf]
      · have HMK : Hid (RfB wr m c xn o none (some ⟨g0, 0, none⟩) none) := HM1
        have HZW := Lib.hid HB1.out.1.size
        have HG0 := Lib.hid (HK.out.1 (by decide))
        clear hk HM1
        rw [show ((1 : Nat) : Int) = 1 from rfl]
        go_upto_region 13 with fail
        go_region_law (go_simp; go_at_call 28; (with_reducible refine (HNW.out _).mono ?_); rintro e w2 ⟨g, rfl, hg, hz, b2⟩; have hg' : wr.heap.size ≤ g := hg; have b2' : Below wr.heap.size wr w2 := (Below.refl wr.heap.size wr).drew.trans b2; have hM2 := RfB.on HMK.out b2'; have HW2 := Lib.hid (And.intro (HB1.out.on HNE.out b2') (And.intro hM2 (And.intro hz (show wr.heap.size ≤ g ∧ m < w.heap.size ∧ w.heap.size ≤ wr.heap.size from ⟨hg', HNE.out, HZW.out⟩)))); have HG2 := Lib.hid (Blk.on HG0.out.1 b2'); have HG0L := Lib.hid (Blk.lt HG0.out.1); obtain ⟨x0, x1, xs, xp, xq, xl⟩ := hM2.cells; have xf := Blk.frozen hM2; clear hg hg' b2 b2' hM2 hz)
        all_goals
          go_wp2_with fail
          go_roundw
          case rel => exact ⟨2, g0, g, by omega, rfl, Lib.hid (HW2.out.1.set 13 _), Lib.hid (Blk.set_ HW2.out.2.1 13 _), Lib.hid ⟨fun _ => ⟨(But.one 13 _).blk (HG2.out) (by have := HG0.out.2; have := HNE.out; omega), HG0.out.2⟩, fun _ => ⟨(But.one 13 _).blk HW2.out.2.2.1 (by have := HW2.out.2.2.2; omega), by have := HW2.out.2.2.2; omega, by have := HG0L.out; have := HW2.out.2.2.2; omega⟩⟩⟩
          case measure => simp [intOf]
      · clear hk
        rw [show ((2 : Nat) : Int) = 2 from rfl]
        go_wp2_with fail
        go_ret
        obtain ⟨r1, r2⟩ := HK.out.1 (by decide)
        obtain ⟨r3, r4, r5⟩ := HK.out.2 (by decide)
        exact ⟨g0, g1, rfl, HM1.out, r1, r3, r5, r2, r4, HB1.out⟩
end Go.Proofs.YtkejpkcaojidaaaGreatDoor

namespace Go.Proofs.YtkejpkcaojidaaaGreatDoor
set_option linter.unusedVariables false
set_option linter.unusedSimpArgs false
open Go.RowKit Rg
set_option linter.unusedVariables false

set_option maxRecDepth 100000 in
set_option maxHeartbeats 4000000 in
theorem rfTick_none (m : Nat) (c : Cf) (x o : Int) (q a0 a1 b0 b1 : Int) (w : World) (h : RfB w m c x o none none none) :
    Calls Tryz.prog 12 #[.pointer (some ⟨m, 0, none⟩), .int .i64 q, .agg #[.int .u8 a0, .int .u8 a1, .int .u8 b0, .int .u8 b1]] w fun e w' => e = .returned (.agg #[.int .u8 0, .int .u8 0]) ∧ Below w.heap.size w w' := by
  have hb0 : Below w.heap.size w (((w.alloc (.cells #[.int .u8 a0, .int .u8 a1, .int .u8 b0, .int .u8 b1] 50)).alloc (.cells #[.int .u8 0, .int .u8 0] 48)).alloc (.cells #[.int .u8 0, .int .u8 0] 48)) := below_al (below_al (below_al (Below.refl w.heap.size w) _) _) _
  have HB := Lib.hid h
  have HBW := Lib.hid hb0
  have HR : Hid (Blk (((w.alloc (.cells #[.int .u8 a0, .int .u8 a1, .int .u8 b0, .int .u8 b1] 50)).alloc (.cells #[.int .u8 0, .int .u8 0] 48)).alloc (.cells #[.int .u8 0, .int .u8 0] 48)) (w.heap.size + 1) 48 #[.int .u8 0, .int .u8 0]) := Lib.hid ((Blk.newIn (by simp)).alloc _)
  have HO0 : Hid (Blk (((w.alloc (.cells #[.int .u8 a0, .int .u8 a1, .int .u8 b0, .int .u8 b1] 50)).alloc (.cells #[.int .u8 0, .int .u8 0] 48)).alloc (.cells #[.int .u8 0, .int .u8 0] 48)) (w.heap.size + 2) 48 #[.int .u8 0, .int .u8 0]) := Lib.hid (Blk.newIn (by simp))
  obtain ⟨x0, x1, xs, xp, xq, xl⟩ := (RfB.on h hb0).cells
  obtain ⟨ra, hra⟩ : ∃ r : Int, r = 0 := ⟨_, rfl⟩
  obtain ⟨rb, hrb⟩ : ∃ r : Int, r = 0 := ⟨_, rfl⟩
  have HO2 : Hid (Blk (((w.alloc (.cells #[.int .u8 a0, .int .u8 a1, .int .u8 b0, .int .u8 b1] 50)).alloc (.cells #[.int .u8 0, .int .u8 0] 48)).alloc (.cells #[.int .u8 0, .int .u8 0] 48)) (w.heap.size + 2) 48 #[.int .u8 ra, .int .u8 rb]) := by rw [hra, hrb]; exact HO0
  suffices hs : Calls Tryz.prog 12 #[.pointer (some ⟨m, 0, none⟩), .int .i64 q, .agg #[.int .u8 a0, .int .u8 a1, .int .u8 b0, .int .u8 b1]] w fun e w' => e = .returned (.agg #[.int .u8 ra, .int .u8 rb]) ∧ Below w.heap.size w w' by
    rw [hra, hrb] at hs; exact hs
  clear h hb0 HO0 hra hrb
  go_enter Tryz.func12, Tryz.ntmps12
  go_wp2_with fail
  go_loopw [8] (fun s8 wr => ∃ k : Nat, k ≤ 2 ∧ s8 = .int .u8 (k : Int) ∧ Hid (Blk wr (w.heap.size + 1) 48 #[.int .u8 0, .int .u8 0]) ∧ Hid (Blk wr (w.heap.size + 2) 48 #[.int .u8 ra, .int .u8 rb]) ∧ Hid (Below w.heap.size w wr)) (fun s8 _ => 2 - (intOf s8).toNat)
  case atStart => exact ⟨0, by omega, rfl, HR, HO2, HBW⟩
  case round =>
    clear HR HO2 HBW
    obtain ⟨k, hk, rfl, HR, HO2, HBW⟩ := hrel
    rcases (show k = 0 ∨ k = 1 ∨ k = 2 by omega) with rfl | rfl | rfl
    · rw [show ((0 : Nat) : Int) = 0 from rfl]
      obtain ⟨x0, x1, xs, xp, xq, xl⟩ := (RfB.on HB.out HBW.out).cells
      go_wp2_with fail
      go_roundw
      case rel => exact ⟨1, by omega, rfl, HR, HO2, HBW⟩
      case measure => simp [intOf]
    · rw [show ((1 : Nat) : Int) = 1 from rfl]
      obtain ⟨x0, x1, xs, xp, xq, xl⟩ := (RfB.on HB.out HBW.out).cells
      go_wp2_with fail
      go_roundw
      case rel => exact ⟨2, by omega, rfl, HR, HO2, HBW⟩
      case measure => simp [intOf]
    · rw [show ((2 : Nat) : Int) = 2 from rfl]
      have hO := HO2.out
      have o0 := hO.cell 0
      have o1 := hO.cell 1
      have ol := hO.lt
      have hR := HR.out
      have z0 := hR.cell 0
      have z1 := hR.cell 1
      have zl := hR.lt
      have zf := hR.frozen
      simp only [List.getElem?_toArray, List.getElem?_cons_zero, List.getElem?_cons_succ] at o0 o1 z0 z1
      clear hO hR
      go_wp2_with fail
      exact bodyPost_ret (v := .agg #[.int .u8 ra, .int .u8 rb]) (by simp [results, Tryz.results12, go_sem, z0, z1, zl]) rfl ⟨rfl, ((HBW.out.setCell (p := ⟨w.heap.size + 1, 0, none⟩) (by show w.heap.size ≤ w.heap.size + 1; omega) _).setCell (p := ⟨w.heap.size + 1, 1, none⟩) (by show w.heap.size ≤ w.heap.size + 1; omega) _)⟩
set_option maxRecDepth 100000 in
set_option maxHeartbeats 4000000 in
theorem rfTick_half (m : Nat) (c : Cf) (x o : Int) (g : Nat) (q a0 a1 b0 b1 ra rb : Int) (w : World) (h : RfB w m c x o (some ⟨g, 0, none⟩) none none) (HS : ∀ u, Below w.heap.size w u → Calls Tryz.prog 30 #[.pointer (some ⟨g, 0, none⟩), .int .i64 q] u fun e w' => e = .returned (.tuple #[.int .u8 ra, .int .u8 rb]) ∧ Below u.heap.size u w') :
    Calls Tryz.prog 12 #[.pointer (some ⟨m, 0, none⟩), .int .i64 q, .agg #[.int .u8 a0, .int .u8 a1, .int .u8 b0, .int .u8 b1]] w fun e w' => e = .returned (.agg #[.int .u8 ra, .int .u8 rb]) ∧ Below w.heap.size w w' := by
  have hb0 : Below w.heap.size w (((w.alloc (.cells #[.int .u8 a0, .int .u8 a1, .int .u8 b0, .int .u8 b1] 50)).alloc (.cells #[.int .u8 0, .int .u8 0] 48)).alloc (.cells #[.int .u8 0, .int .u8 0] 48)) := below_al (below_al (below_al (Below.refl w.heap.size w) _) _) _
  have HB := Lib.hid h
  have HBW := Lib.hid hb0
  have HR : Hid (Blk (((w.alloc (.cells #[.int .u8 a0, .int .u8 a1, .int .u8 b0, .int .u8 b1] 50)).alloc (.cells #[.int .u8 0, .int .u8 0] 48)).alloc (.cells #[.int .u8 0, .int .u8 0] 48)) (w.heap.size + 1) 48 #[.int .u8 0, .int .u8 0]) := Lib.hid ((Blk.newIn (by simp)).alloc _)
  have HO0 : Hid (Blk (((w.alloc (.cells #[.int .u8 a0, .int .u8 a1, .int .u8 b0, .int .u8 b1] 50)).alloc (.cells #[.int .u8 0, .int .u8 0] 48)).alloc (.cells #[.int .u8 0, .int .u8 0] 48)) (w.heap.size + 2) 48 #[.int .u8 0, .int .u8 0]) := Lib.hid (Blk.newIn (by simp))
  obtain ⟨x0, x1, xs, xp, xq, xl⟩ := (RfB.on h hb0).cells
  have HSN := Lib.hid (HS _ hb0)
  clear h hb0 HS
  go_enter Tryz.func12, Tryz.ntmps12
  go_upto_region 4 with (go_at_call 30; (with_reducible refine HSN.out.mono ?_); rintro e w2 ⟨rfl, b2⟩; have HO3 := Lib.hid (HO0.out.on b2); have HR3 := Lib.hid (HR.out.on b2); have HB3 := Lib.hid (below_then HBW.out b2); have hO3 := HO3.out; have o0 := hO3.cell 0; have o1 := hO3.cell 1; have ol := hO3.lt; have of := hO3.frozen; simp only [List.getElem?_toArray, List.getElem?_cons_zero, List.getElem?_cons_succ] at o0 o1; clear b2 hO3; clear x0 x1 xs xp xq xl)
  refine wp_at (fun U => Hid (Blk U (w.heap.size + 1) 48 #[.int .u8 0, .int .u8 0]) ∧ Hid (Blk U (w.heap.size + 2) 48 #[.int .u8 ra, .int .u8 rb]) ∧ Hid (Below w.heap.size w U)) ⟨Lib.hid (But.blk ((But.one 0 _).set 1 _) HR3.out (by omega)), Lib.hid ((HO3.out.set_ 0 _).set_ 1 _), Lib.hid ((HB3.out.setCell (p := ⟨w.heap.size + 2, 0, none⟩) (by show w.heap.size ≤ w.heap.size + 2; omega) _).setCell (p := ⟨w.heap.size + 2, 1, none⟩) (by show w.heap.size ≤ w.heap.size + 2; omega) _)⟩ ?_
  clear o0 o1 ol of HO3 HR3 HB3 HBW HR HO0 HSN
  rintro U ⟨HR, HO2, HBW⟩
  go_wp2_with fail
  go_loopw [8] (fun s8 wr => ∃ k : Nat, k ≤ 2 ∧ s8 = .int .u8 (k : Int) ∧ Hid (Blk wr (w.heap.size + 1) 48 #[.int .u8 0, .int .u8 0]) ∧ Hid (Blk wr (w.heap.size + 2) 48 #[.int .u8 ra, .int .u8 rb]) ∧ Hid (Below w.heap.size w wr)) (fun s8 _ => 2 - (intOf s8).toNat)
  case atStart => exact ⟨0, by omega, rfl, HR, HO2, HBW⟩
  case round =>
    clear HR HO2 HBW
    obtain ⟨k, hk, rfl, HR, HO2, HBW⟩ := hrel
    rcases (show k = 0 ∨ k = 1 ∨ k = 2 by omega) with rfl | rfl | rfl
    · rw [show ((0 : Nat) : Int) = 0 from rfl]
      obtain ⟨x0, x1, xs, xp, xq, xl⟩ := (RfB.on HB.out HBW.out).cells
      go_wp2_with fail
      go_roundw
      case rel => exact ⟨1, by omega, rfl, HR, HO2, HBW⟩
      case measure => simp [intOf]
    · rw [show ((1 : Nat) : Int) = 1 from rfl]
      obtain ⟨x0, x1, xs, xp, xq, xl⟩ := (RfB.on HB.out HBW.out).cells
      go_wp2_with fail
      go_roundw
      case rel => exact ⟨2, by omega, rfl, HR, HO2, HBW⟩
      case measure => simp [intOf]
    · rw [show ((2 : Nat) : Int) = 2 from rfl]
      have hO := HO2.out
      have o0 := hO.cell 0
      have o1 := hO.cell 1
      have ol := hO.lt
      have hR := HR.out
      have z0 := hR.cell 0
      have z1 := hR.cell 1
      have zl := hR.lt
      have zf := hR.frozen
      simp only [List.getElem?_toArray, List.getElem?_cons_zero, List.getElem?_cons_succ] at o0 o1 z0 z1
      clear hO hR
      go_wp2_with fail
      exact bodyPost_ret (v := .agg #[.int .u8 ra, .int .u8 rb]) (by simp [results, Tryz.results12, go_sem, z0, z1, zl]) rfl ⟨rfl, ((HBW.out.setCell (p := ⟨w.heap.size + 1, 0, none⟩) (by show w.heap.size ≤ w.heap.size + 1; omega) _).setCell (p := ⟨w.heap.size + 1, 1, none⟩) (by show w.heap.size ≤ w.heap.size + 1; omega) _)⟩
end Go.Proofs.YtkejpkcaojidaaaGreatDoor

namespace Go.Proofs.YtkejpkcaojidaaaGreatDoor
set_option linter.unusedVariables false
set_option linter.unusedSimpArgs false
open Go.RowKit Rg Crc
set_option linter.unusedVariables false

/-- A catch's blocks: its own, its rows'. -/
def ownOf (g : Nat) (A B : Option Addr) (q : Nat) : Prop := q = g ∨ A.map (·.block) = some q ∨ B.map (·.block) = some q
section
variable {w w' u : World} {g base n m c d : Nat} {o : Int} {x y : Nat → Int} {A B : Option Addr}
theorem RC.same (h : RC w g base o x y n m A c B d) (hs : ∀ q, ownOf g A B q → w'.heap[q]? = w.heap[q]?) : RC w' g base o x y n m A c B d :=
  ⟨h.lo, (hs g (.inl rfl)).trans h.blk, owns_same h.ra fun q hq => hs q (.inr (.inl ((own_map A n c).symm.trans hq))), owns_same h.rb fun q hq => hs q (.inr (.inr ((own_map B m d).symm.trans hq))), h.ne⟩
theorem RC.own_lt (h : RC w g base o x y n m A c B d) {q : Nat} (hq : ownOf g A B q) : q < w.heap.size := by
  rcases hq with rfl | hq | hq
  · exact h.blk.lt
  · exact (h.ra.lt q ((own_map A n c).trans hq)).2
  · exact (h.rb.lt q ((own_map B m d).trans hq)).2
end
/-- Two catches that have no block in common. -/
def TwoC (w : World) (base : Nat) (o : Int) (g0 : Nat) (xa ya : Nat → Int) (n : Nat) (g1 : Nat) (xb yb : Nat → Int) (k : Nat) : Prop := ∃ A0 c0 B0 d0 A1 c1 B1 d1, RC w g0 base o xa ya n n A0 c0 B0 d0 ∧ RC w g1 base o xb yb k k A1 c1 B1 d1 ∧ ∀ q, ownOf g0 A0 B0 q → ownOf g1 A1 B1 q → False
section
variable {w w' : World} {base : Nat} {o : Int} {g0 g1 n k : Nat} {xa ya xb yb : Nat → Int}
theorem TwoC.swap (h : TwoC w base o g0 xa ya n g1 xb yb k) : TwoC w base o g1 xb yb k g0 xa ya n := by
  obtain ⟨A0, c0, B0, d0, A1, c1, B1, d1, h1, h2, h3⟩ := h
  exact ⟨A1, c1, B1, d1, A0, c0, B0, d0, h2, h1, fun q a b => h3 q b a⟩
theorem TwoC.on (h : TwoC w base o g0 xa ya n g1 xb yb k) (hb : Below w.heap.size w w') : TwoC w' base o g0 xa ya n g1 xb yb k := by
  obtain ⟨A0, c0, B0, d0, A1, c1, B1, d1, h1, h2, h3⟩ := h
  exact ⟨A0, c0, B0, d0, A1, c1, B1, d1, h1.on hb, h2.on hb, h3⟩
/-- All but blocks of other types, and what was made since, is as it was. -/
theorem TwoC.but {f : Nat} {t : TypeId} {cs : Array Value} (h : TwoC w base o g0 xa ya n g1 xb yb k) (hf : Blk w f t cs) (h1 : t ≠ 155) (h2 : t ≠ 47) (hk : But f w w') : TwoC w' base o g0 xa ya n g1 xb yb k := by
  obtain ⟨A0, c0, B0, d0, A1, c1, B1, d1, r1, r2, r3⟩ := h
  have ne : ∀ {g n m c d : Nat} {x y : Nat → Int} {A B : Option Addr}, RC w g base o x y n m A c B d → ∀ q, ownOf g A B q → q ≠ f := fun h q hq e => by
    subst e
    rcases hq with rfl | hq | hq
    · exact blk_neT h.blk hf h1.symm rfl
    · obtain ⟨_, cs', hB⟩ := row_type h.ra ((own_map _ _ _).trans hq)
      exact blk_neT hB hf h2.symm rfl
    · obtain ⟨_, cs', hB⟩ := row_type h.rb ((own_map _ _ _).trans hq)
      exact blk_neT hB hf h2.symm rfl
  exact ⟨A0, c0, B0, d0, A1, c1, B1, d1, r1.same fun q hq => hk.2 q (r1.own_lt hq) (ne r1 q hq), r2.same fun q hq => hk.2 q (r2.own_lt hq) (ne r2 q hq), r3⟩
theorem TwoC.zero {w : World} {base g0 g1 : Nat} {o : Int} (xa ya xb yb : Nat → Int) (h0 : Blk w g0 155 #[.int .i64 o, .slice none 0 0, .slice none 0 0]) (h1 : Blk w g1 155 #[.int .i64 o, .slice none 0 0, .slice none 0 0]) (hn : g0 ≠ g1) (b0 : base ≤ g0) (b1 : base ≤ g1) : TwoC w base o g0 xa ya 0 g1 xb yb 0 := by
  refine ⟨none, 0, none, 0, none, 0, none, 0, ⟨b0, h0, ⟨rfl, .inl ⟨rfl, rfl⟩⟩, ⟨rfl, .inl ⟨rfl, rfl⟩⟩, fun q hq => by cases hq⟩, ⟨b1, h1, ⟨rfl, .inl ⟨rfl, rfl⟩⟩, ⟨rfl, .inl ⟨rfl, rfl⟩⟩, fun q hq => by cases hq⟩, fun q a b => ?_⟩
  rcases a with rfl | a | a
  · rcases b with b | b | b
    · exact hn b
    · cases b
    · cases b
  · cases a
  · cases a
/-- A Step of the first one. -/
theorem two_step (a b : Int) (h : TwoC w base o g0 xa ya n g1 xb yb k) (hn : n < 114) (hx : kn a = xa n) (hy : kn b = ya n) (r : Int) (hr : outC xa ya o n = r) :
    Calls Tryz.prog 33 #[.pointer (some ⟨g0, 0, none⟩), .int .u8 a, .int .u8 b] w fun e w' => e = .returned (.int .u8 r) ∧ TwoC w' base o g0 xa ya (n + 1) g1 xb yb k ∧ Below base w w' ∧ KeptBut w w' [155, 47] := by
  obtain ⟨A0, c0, B0, d0, A1, c1, B1, d1, h1, h2, h3⟩ := h
  refine (rStep_isX a b h1 hn hx hy r hr).mono fun e w' ⟨q1, ⟨A', c', B', d', q2, q3, q4⟩, q5, q6, q7⟩ => ⟨q1, ⟨A', c', B', d', A1, c1, B1, d1, q2, h2.same fun q hq => ?_, fun q a b => ?_⟩, q5, q6⟩
  · have hlt := h2.own_lt hq
    have hno : ¬ ownOf g0 A0 B0 q := fun e => h3 q e hq
    exact q7 q hlt (fun e => hno (.inl e)) (fun e => hno (.inr (.inl e))) (fun e => hno (.inr (.inr e)))
  · have hlt := h2.own_lt b
    rcases a with e | e | e
    · exact h3 q (.inl e) b
    · rcases q3 q e with e | e
      · exact h3 q (.inr (.inl e)) b
      · omega
    · rcases q4 q e with e | e
      · exact h3 q (.inr (.inr e)) b
      · omega
theorem two_done (a b : Int) (h : TwoC w base o g0 xa ya 114 g1 xb yb k) :
    Calls Tryz.prog 33 #[.pointer (some ⟨g0, 0, none⟩), .int .u8 a, .int .u8 b] w fun e w' => e = .returned (.int .u8 0) ∧ w = w' := by
  obtain ⟨A0, c0, B0, d0, A1, c1, B1, d1, h1, h2, h3⟩ := h
  exact rStep_done a b h1
/-- Both, as places that answer whether they are high. -/
theorem two_high (h : TwoC w base o g0 xa ya n g1 xb yb k) : HiR w (some ⟨g0, 0, none⟩) (hiF xa ya o n) (hiB xa ya o n) ∧ HiR w (some ⟨g1, 0, none⟩) (hiF xb yb o k) (hiB xb yb o k) := by
  obtain ⟨A0, c0, B0, d0, A1, c1, B1, d1, h1, h2, h3⟩ := h
  exact ⟨.inr ⟨g0, rfl, fun u hu => rHigh_is (h1.on hu) _ rfl _ rfl⟩, .inr ⟨g1, rfl, fun u hu => rHigh_is (h2.on hu) _ rfl _ rfl⟩⟩
/-- A Step, if the window is open. -/
theorem two_any (a b : Int) (op : Bool) (h : TwoC w base o g0 xa ya n g1 xb yb k) (hn : n ≤ 114) (hop : op = true) (hxy : n < 114 → kn a = xa n ∧ kn b = ya n) (r : Int) (hr : stepR op xa ya o n = r) (n' : Nat) (hn' : stepN op n = n') :
    Calls Tryz.prog 33 #[.pointer (some ⟨g0, 0, none⟩), .int .u8 a, .int .u8 b] w fun e w' => e = .returned (.int .u8 r) ∧ TwoC w' base o g0 xa ya n' g1 xb yb k ∧ Below base w w' ∧ KeptBut w w' [155, 47] := by
  subst hop
  by_cases h1 : n < 114
  · have e1 : stepN true n = n + 1 := by unfold stepN; rw [if_pos ⟨rfl, h1⟩]
    have e2 : stepR true xa ya o n = outC xa ya o n := by unfold stepR; rw [if_pos ⟨rfl, h1⟩]
    rw [e1] at hn'
    rw [e2] at hr
    subst hn'
    exact two_step a b h h1 (hxy h1).1 (hxy h1).2 r hr
  · obtain rfl : n = 114 := by omega
    have e1 : stepN true 114 = 114 := by unfold stepN; rw [if_neg (by omega)]
    have e2 : stepR true xa ya o 114 = 0 := by unfold stepR; rw [if_neg (by omega)]
    rw [e1] at hn'
    rw [e2] at hr
    subst hn' hr
    refine (two_done a b h).mono fun e w' ⟨q1, q2⟩ => ?_
    subst q2
    exact ⟨q1, h, Below.refl _ _, KeptBut.below (Below.refl _ _) _⟩
end
end Go.Proofs.YtkejpkcaojidaaaGreatDoor

namespace Go.Proofs.YtkejpkcaojidaaaGreatDoor
set_option linter.unusedVariables false
set_option linter.unusedSimpArgs false
open Go.RowKit Rg
set_option linter.unusedVariables false

/-- A new block of another type is written: what was there is kept. -/
theorem KeptBut.then4 {a u v : World} {g : Nat} {t : TypeId} {cs : Array Value} {ts : List TypeId} {x : Value} (h : KeptBut a u ts) (k : KeptBut u v ts) (hB : Blk v g t cs) (j : Nat) (hg : a.heap.size ≤ g) : KeptBut a (v.setCell ⟨g, j, none⟩ x) ts := fun b T cs' hT hb => by
  have h2 := k _ _ _ hT (h _ _ _ hT hb)
  exact (But.one j x).blk h2 (by have := hb.lt; omega)
set_option maxRecDepth 100000 in
set_option maxHeartbeats 8000000 in
theorem rfTick_oth (m : Nat) (c : Cf) (x o : Int) (g0 g1 base Bc n k n' k' : Nat) (xa ya xb yb : Nat → Int) (q a0 a1 b0 b1 ra rb : Int) (X Y : Wn) (w : World) (h : RfB w m c x o none (some ⟨g0, 0, none⟩) (some ⟨g1, 0, none⟩)) (hT : TwoC w base o g0 xa ya n g1 xb yb k) (hbm : base ≤ w.heap.size) (hc : CfLow w Bc c) (hBc : Bc ≤ base) (hE : newE c = 0)
    (hX : ofW c.N c.P 0 o x = X) (hY : ofW c.N c.P 1 o x = Y) (hX0 : ofWE c.N c.P 0 o x = 0) (hY0 : ofWE c.N c.P 1 o x = 0) (hfX : WnFit X) (hfY : WnFit Y) (hn : n ≤ 114) (hk : k ≤ 114)
    (hxa : opB X q = true → n < 114 → kn a0 = xa n ∧ kn a1 = ya n) (hxb : opB Y q = true → k < 114 → kn b0 = xb k ∧ kn b1 = yb k) (hra : stepR (opB X q) xa ya o n = ra) (hrb : stepR (opB Y q) xb yb o k = rb) (hn' : stepN (opB X q) n = n') (hk' : stepN (opB Y q) k = k') :
    Calls Tryz.prog 12 #[.pointer (some ⟨m, 0, none⟩), .int .i64 q, .agg #[.int .u8 a0, .int .u8 a1, .int .u8 b0, .int .u8 b1]] w fun e w' => e = .returned (.agg #[.int .u8 ra, .int .u8 rb]) ∧ TwoC w' base o g0 xa ya n' g1 xb yb k' ∧ Below base w w' ∧ KeptBut w w' [155, 47] := by
  have hb0 : Below w.heap.size w (((w.alloc (.cells #[.int .u8 a0, .int .u8 a1, .int .u8 b0, .int .u8 b1] 50)).alloc (.cells #[.int .u8 0, .int .u8 0] 48)).alloc (.cells #[.int .u8 0, .int .u8 0] 48)) := below_al (below_al (below_al (Below.refl w.heap.size w) _) _) _
  have HM := Lib.hid (RfB.on h hb0)
  have HI : Hid (Blk (((w.alloc (.cells #[.int .u8 a0, .int .u8 a1, .int .u8 b0, .int .u8 b1] 50)).alloc (.cells #[.int .u8 0, .int .u8 0] 48)).alloc (.cells #[.int .u8 0, .int .u8 0] 48)) w.heap.size 50 #[.int .u8 a0, .int .u8 a1, .int .u8 b0, .int .u8 b1]) := Lib.hid (((Blk.new w _ _).alloc _).alloc _)
  have HR : Hid (Blk (((w.alloc (.cells #[.int .u8 a0, .int .u8 a1, .int .u8 b0, .int .u8 b1] 50)).alloc (.cells #[.int .u8 0, .int .u8 0] 48)).alloc (.cells #[.int .u8 0, .int .u8 0] 48)) (w.heap.size + 1) 48 #[.int .u8 0, .int .u8 0]) := Lib.hid ((Blk.newIn (by simp)).alloc _)
  have HO : Hid (Blk (((w.alloc (.cells #[.int .u8 a0, .int .u8 a1, .int .u8 b0, .int .u8 b1] 50)).alloc (.cells #[.int .u8 0, .int .u8 0] 48)).alloc (.cells #[.int .u8 0, .int .u8 0] 48)) (w.heap.size + 2) 48 #[.int .u8 0, .int .u8 0]) := Lib.hid (Blk.newIn (by simp))
  have HT := Lib.hid (hT.on hb0)
  have HBK := Lib.hid (And.intro (hb0.mono hbm) (KeptBut.below hb0 [155, 47]))
  have HZB := Lib.hid (Nat.le_trans hbm hb0.size)
  have HBM := Lib.hid hbm
  have HCL := Lib.hid hc
  have HCB := Lib.hid hBc
  have HNE := Lib.hid hE
  have HE0 := Lib.hid (And.intro hX hX0)
  have HE1 := Lib.hid (And.intro hY hY0)
  have HF0 := Lib.hid hfX
  have HF1 := Lib.hid hfY
  have HNN := Lib.hid hn
  have HKK := Lib.hid hk
  have HXA := Lib.hid hxa
  have HXB := Lib.hid hxb
  have HRA := Lib.hid hra
  have HRB := Lib.hid hrb
  have HSN := Lib.hid hn'
  have HSK := Lib.hid hk'
  obtain ⟨x0, x1, xs, xp, xq, xl⟩ := HM.out.cells
  clear h hT hb0 hbm hc hBc hE hX hY hX0 hY0 hfX hfY hn hk hxa hxb hra hrb hn' hk'
  go_enter Tryz.func12, Tryz.ntmps12
  go_wp2_with fail
  go_loopw [8] (fun s8 wr => ∃ d : Nat, d ≤ 2 ∧ s8 = .int .u8 (d : Int) ∧ Hid (RfB wr m c x o none (some ⟨g0, 0, none⟩) (some ⟨g1, 0, none⟩)) ∧ Hid (Blk wr w.heap.size 50 #[.int .u8 a0, .int .u8 a1, .int .u8 b0, .int .u8 b1]) ∧ Hid (Blk wr (w.heap.size + 1) 48 #[.int .u8 0, .int .u8 0]) ∧ Hid (Blk wr (w.heap.size + 2) 48 #[.int .u8 (if 0 < d then ra else 0), .int .u8 (if 1 < d then rb else 0)]) ∧ Hid (TwoC wr base o g0 xa ya (if 0 < d then n' else n) g1 xb yb (if 1 < d then k' else k)) ∧ Hid (Below base w wr ∧ KeptBut w wr [155, 47]) ∧ Hid (base ≤ wr.heap.size)) (fun s8 _ => 2 - (intOf s8).toNat)
  case atStart => exact ⟨0, by omega, rfl, HM, HI, HR, HO, HT, HBK, HZB⟩
  case round =>
    clear HM HI HR HO HT HBK HZB x0 x1 xs xp xq xl
    obtain ⟨d, hk', rfl, HM, HI, HR, HO, HT, HBK, HZB⟩ := hrel
    rcases (show d = 0 ∨ d = 1 ∨ d = 2 by omega) with rfl | rfl | rfl
    · have HO0 : Hid (Blk wr (w.heap.size + 2) 48 #[.int .u8 0, .int .u8 0]) := HO
      have HT0 : Hid (TwoC wr base o g0 xa ya n g1 xb yb k) := HT
      clear HO HT hk'
      rw [show ((0 : Nat) : Int) = 0 from rfl]
      obtain ⟨x0, x1, xs, xp, xq, xl⟩ := HM.out.cells
      obtain ⟨k0, k1, k2, k3, k4, k5, k6, k7, k8⟩ := HM.out.conf
      have HOF := Lib.hid (fun (u : World) (hu : Below wr.heap.size wr u) => show Calls Tryz.prog 31 #[.agg #[.int .i64 c.N, .slice c.pA c.pn c.pc, .slice c.sA c.sn c.sc, .int .i64 c.L, .slice c.bA c.bn c.bc, .slice c.tA c.tn c.tc, .int .i64 c.M, .int .i64 c.G, .int .i64 c.F], .int .u8 0, .int .i64 o, .int .i64 x] u _ from refOfW_is c 0 o x X HE0.out.1 0 HE0.out.2 u ((HCL.out.keep (Nat.le_refl _) ((HBK.out.1.mono HCB.out).trans (hu.mono (Nat.le_trans HCB.out HZB.out)))).in_ (Nat.le_trans HCB.out (Nat.le_trans HZB.out hu.size))) HNE.out (by decide) (by decide))
      go_upto_region 8 with fail
      go_cut [9, 10] from 40 to 56 (fun s9 s10 wx => ∃ gw : Nat, s9 = .pointer (some ⟨gw, 0, none⟩) ∧ Hid (Below wr.heap.size wr wx) ∧ Hid (Blk wx gw 101 #[.int .i64 X.r, .int .i64 X.p, .int .i64 X.b, .int .i64 X.e]))
      case first =>
        go_region_law (first
          | (go_simp; go_at_call 31; (with_reducible refine (HOF.out _ (Below.refl _ _).drew).mono ?_); rintro e w2 ⟨rfl, b2⟩; have HB2 := Lib.hid (show Below wr.heap.size wr w2 from (Below.refl wr.heap.size wr).drew.trans b2); have HCASE : Hid (1 = 1) := Lib.hid rfl; clear b2)
          | (go_simp; go_at_call 31; (with_reducible refine (HOF.out _ (below_al (Below.refl wr.heap.size wr) (.cells #[.int .i64 0, .int .i64 0, .int .i64 0, .int .i64 0] 101)).drew).mono ?_); rintro e w2 ⟨rfl, b2⟩; have hG2 := Blk.on (w := (wr.alloc (.cells #[.int .i64 0, .int .i64 0, .int .i64 0, .int .i64 0] 101)).drew) (show Blk _ wr.heap.size 101 #[.int .i64 0, .int .i64 0, .int .i64 0, .int .i64 0] from Blk.new wr _ _) b2; have HG2 := Lib.hid hG2; have HB2 := Lib.hid (show Below wr.heap.size wr w2 from (below_al (Below.refl wr.heap.size wr) _).drew.trans (b2.mono (by simp))); have y0 := hG2.cell 0; have y1 := hG2.cell 1; have y2 := hG2.cell 2; have y3 := hG2.cell 3; have yl := hG2.lt; have yf := hG2.frozen; simp only [List.getElem?_toArray, List.getElem?_cons_zero, List.getElem?_cons_succ] at y0 y1 y2 y3; clear b2 hG2))
        all_goals (go_wp2_with fail; go_meet; first
          | (have := HCASE.out; exact ⟨_, rfl, Lib.hid (below_al HB2.out _), Lib.hid (Blk.new w2 _ _)⟩)
          | exact ⟨_, rfl, Lib.hid (below_four HB2.out (Nat.le_refl _) _ _ _ _), Lib.hid ((((HG2.out.set_ 0 _).set_ 1 _).set_ 2 _).set_ 3 _)⟩)
      case rest =>
        obtain ⟨gw, rfl, HBC, HGW⟩ := hcut
        clear HOF x0 x1 xs xp xq xl k0 k1 k2 k3 k4 k5 k6 k7 k8
        have hGW := HGW.out
        have y0 := hGW.cell 0
        have y1 := hGW.cell 1
        have y2 := hGW.cell 2
        have y3 := hGW.cell 3
        have yl := hGW.lt
        simp only [List.getElem?_toArray, List.getElem?_cons_zero, List.getElem?_cons_succ] at y0 y1 y2 y3
        clear hGW
        obtain ⟨i, hi⟩ : ∃ i, opI X q = i := ⟨_, rfl⟩
        obtain ⟨op, hop⟩ : ∃ b, opB X q = b := ⟨_, rfl⟩
        have HAT := Lib.hid (refAt_is X q i hi op hop wc HF0.out)
        have HOP := Lib.hid hop
        have HM2 := Lib.hid (HM.out.on HBC.out)
        have HI2 := Lib.hid (HI.out.on HBC.out)
        have HR2 := Lib.hid (HR.out.on HBC.out)
        have HO2 := Lib.hid (HO0.out.on HBC.out)
        have HT2 := Lib.hid (HT0.out.on HBC.out)
        have HBK2 := Lib.hid (And.intro (HBK.out.1.trans (HBC.out.mono HZB.out)) (HBK.out.2.trans (KeptBut.below HBC.out _)))
        have HZ2 := Lib.hid (Nat.le_trans HZB.out HBC.out.size)
        clear hi hop HM HI HR HO0 HT0 HBK HGW HZB
        cases op
        · have er : ra = 0 := by have := HRA.out; rw [HOP.out] at this; rw [← this]; unfold stepR; rw [if_neg (by simp)]
          have en : n' = n := by have := HSN.out; rw [HOP.out] at this; rw [← this]; unfold stepN; rw [if_neg (by simp)]
          go_wp2_with (go_at_call 32; (with_reducible refine HAT.out.mono ?_); rintro e w3 ⟨rfl, b3⟩; have HB3 := Lib.hid b3; clear b3)
          go_roundw
          case rel => exact ⟨1, by omega, rfl, Lib.hid (HM2.out.on HB3.out), Lib.hid (HI2.out.on HB3.out), Lib.hid (HR2.out.on HB3.out), Lib.hid (by have q := HO2.out.on HB3.out; rw [er]; exact q), Lib.hid (by have q := HT2.out.on HB3.out; rw [en]; exact q), Lib.hid (And.intro (HBK2.out.1.trans (HB3.out.mono HZ2.out)) (HBK2.out.2.trans (KeptBut.below HB3.out _))), Lib.hid (Nat.le_trans HZ2.out HB3.out.size)⟩
          case measure => simp [intOf]
        · go_upto_region 11 with (go_at_call 32; (with_reducible refine HAT.out.mono ?_); rintro e w3 ⟨rfl, b3⟩; have HB3 := Lib.hid b3; clear y0 y1 y2 y3 yl; clear b3)
          obtain ⟨x0, x1, xs, xp, xq, xl⟩ := (HM2.out.on HB3.out).cells
          have hI3 := HI2.out.on HB3.out
          have j0 := hI3.cell 0
          have j1 := hI3.cell 1
          have j2 := hI3.cell 2
          have j3 := hI3.cell 3
          have jl := hI3.lt
          simp only [List.getElem?_toArray, List.getElem?_cons_zero, List.getElem?_cons_succ] at j0 j1 j2 j3
          clear hI3
          have HT3 := Lib.hid (HT2.out.on HB3.out)
          have HST := Lib.hid (two_any a0 a1 true ((HT3.out.on (Below.refl w3.heap.size w3).drew)) HNN.out rfl (fun h => HXA.out HOP.out h) ra (by have := HRA.out; rw [HOP.out] at this; exact this) n' (by have := HSN.out; rw [HOP.out] at this; exact this))
          go_region_law (go_simp; go_at_call 33; (with_reducible refine HST.out.mono ?_); rintro e w4 ⟨rfl, hT4, b4, hk4⟩; have hk4' : KeptBut w3 w4 [155, 47] := hk4; have hO4 := hk4' _ _ _ (by decide) (HO2.out.on HB3.out); have HO4 := Lib.hid hO4; have HT4 := Lib.hid (hT4); have HW4 := Lib.hid (And.intro (show Below base w3 w4 from (Below.refl base w3).drew.trans b4) hk4'); have o0 := hO4.cell 0; have o1 := hO4.cell 1; have ol := hO4.lt; have of := hO4.frozen; simp only [List.getElem?_toArray, List.getElem?_cons_zero, List.getElem?_cons_succ] at o0 o1; clear hT4 b4 hk4 hk4' hO4)
          all_goals
            go_wp2_with fail
            go_roundw
            case rel => exact ⟨1, by omega, rfl, Lib.hid ((But.one 0 _).blk (HW4.out.2 _ _ _ (by decide) (HM2.out.on HB3.out)) (blk_neT (HW4.out.2 _ _ _ (by decide) (HM2.out.on HB3.out)) HO4.out (by decide))), Lib.hid ((But.one 0 _).blk (HW4.out.2 _ _ _ (by decide) (HI2.out.on HB3.out)) (by omega)), Lib.hid ((But.one 0 _).blk (HW4.out.2 _ _ _ (by decide) (HR2.out.on HB3.out)) (by omega)), Lib.hid (HO4.out.set_ 0 _), Lib.hid (HT4.out.but HO4.out (by decide) (by decide) (But.one 0 _)), Lib.hid (And.intro (((HBK2.out.1.trans (HB3.out.mono HZ2.out)).trans HW4.out.1).setCell (p := ⟨w.heap.size + 2, 0, none⟩) (by show base ≤ w.heap.size + 2; have := HBM.out; omega) _) ((HBK2.out.2.trans (KeptBut.below HB3.out _)).then4 HW4.out.2 HO4.out 0 (by omega))), Lib.hid (by have := HW4.out.1.size; have := HZ2.out; have := HB3.out.size; simp; omega)⟩
            case measure => simp [intOf]
    · have HO0 : Hid (Blk wr (w.heap.size + 2) 48 #[.int .u8 ra, .int .u8 0]) := HO
      have HT0 : Hid (TwoC wr base o g0 xa ya n' g1 xb yb k) := HT
      clear HO HT hk'
      rw [show ((1 : Nat) : Int) = 1 from rfl]
      obtain ⟨x0, x1, xs, xp, xq, xl⟩ := HM.out.cells
      obtain ⟨k0, k1, k2, k3, k4, k5, k6, k7, k8⟩ := HM.out.conf
      have HOF := Lib.hid (fun (u : World) (hu : Below wr.heap.size wr u) => show Calls Tryz.prog 31 #[.agg #[.int .i64 c.N, .slice c.pA c.pn c.pc, .slice c.sA c.sn c.sc, .int .i64 c.L, .slice c.bA c.bn c.bc, .slice c.tA c.tn c.tc, .int .i64 c.M, .int .i64 c.G, .int .i64 c.F], .int .u8 1, .int .i64 o, .int .i64 x] u _ from refOfW_is c 1 o x Y HE1.out.1 0 HE1.out.2 u ((HCL.out.keep (Nat.le_refl _) ((HBK.out.1.mono HCB.out).trans (hu.mono (Nat.le_trans HCB.out HZB.out)))).in_ (Nat.le_trans HCB.out (Nat.le_trans HZB.out hu.size))) HNE.out (by decide) (by decide))
      go_upto_region 8 with fail
      go_cut [9, 10] from 40 to 56 (fun s9 s10 wx => ∃ gw : Nat, s9 = .pointer (some ⟨gw, 0, none⟩) ∧ Hid (Below wr.heap.size wr wx) ∧ Hid (Blk wx gw 101 #[.int .i64 Y.r, .int .i64 Y.p, .int .i64 Y.b, .int .i64 Y.e]))
      case first =>
        go_region_law (first
          | (go_simp; go_at_call 31; (with_reducible refine (HOF.out _ (Below.refl _ _).drew).mono ?_); rintro e w2 ⟨rfl, b2⟩; have HB2 := Lib.hid (show Below wr.heap.size wr w2 from (Below.refl wr.heap.size wr).drew.trans b2); have HCASE : Hid (1 = 1) := Lib.hid rfl; clear b2)
          | (go_simp; go_at_call 31; (with_reducible refine (HOF.out _ (below_al (Below.refl wr.heap.size wr) (.cells #[.int .i64 0, .int .i64 0, .int .i64 0, .int .i64 0] 101)).drew).mono ?_); rintro e w2 ⟨rfl, b2⟩; have hG2 := Blk.on (w := (wr.alloc (.cells #[.int .i64 0, .int .i64 0, .int .i64 0, .int .i64 0] 101)).drew) (show Blk _ wr.heap.size 101 #[.int .i64 0, .int .i64 0, .int .i64 0, .int .i64 0] from Blk.new wr _ _) b2; have HG2 := Lib.hid hG2; have HB2 := Lib.hid (show Below wr.heap.size wr w2 from (below_al (Below.refl wr.heap.size wr) _).drew.trans (b2.mono (by simp))); have y0 := hG2.cell 0; have y1 := hG2.cell 1; have y2 := hG2.cell 2; have y3 := hG2.cell 3; have yl := hG2.lt; have yf := hG2.frozen; simp only [List.getElem?_toArray, List.getElem?_cons_zero, List.getElem?_cons_succ] at y0 y1 y2 y3; clear b2 hG2))
        all_goals (go_wp2_with fail; go_meet; first
          | (have := HCASE.out; exact ⟨_, rfl, Lib.hid (below_al HB2.out _), Lib.hid (Blk.new w2 _ _)⟩)
          | exact ⟨_, rfl, Lib.hid (below_four HB2.out (Nat.le_refl _) _ _ _ _), Lib.hid ((((HG2.out.set_ 0 _).set_ 1 _).set_ 2 _).set_ 3 _)⟩)
      case rest =>
        obtain ⟨gw, rfl, HBC, HGW⟩ := hcut
        clear HOF x0 x1 xs xp xq xl k0 k1 k2 k3 k4 k5 k6 k7 k8
        have hGW := HGW.out
        have y0 := hGW.cell 0
        have y1 := hGW.cell 1
        have y2 := hGW.cell 2
        have y3 := hGW.cell 3
        have yl := hGW.lt
        simp only [List.getElem?_toArray, List.getElem?_cons_zero, List.getElem?_cons_succ] at y0 y1 y2 y3
        clear hGW
        obtain ⟨i, hi⟩ : ∃ i, opI Y q = i := ⟨_, rfl⟩
        obtain ⟨op, hop⟩ : ∃ b, opB Y q = b := ⟨_, rfl⟩
        have HAT := Lib.hid (refAt_is Y q i hi op hop wc HF1.out)
        have HOP := Lib.hid hop
        have HM2 := Lib.hid (HM.out.on HBC.out)
        have HI2 := Lib.hid (HI.out.on HBC.out)
        have HR2 := Lib.hid (HR.out.on HBC.out)
        have HO2 := Lib.hid (HO0.out.on HBC.out)
        have HT2 := Lib.hid (HT0.out.on HBC.out)
        have HBK2 := Lib.hid (And.intro (HBK.out.1.trans (HBC.out.mono HZB.out)) (HBK.out.2.trans (KeptBut.below HBC.out _)))
        have HZ2 := Lib.hid (Nat.le_trans HZB.out HBC.out.size)
        clear hi hop HM HI HR HO0 HT0 HBK HGW HZB
        cases op
        · have er : rb = 0 := by have := HRB.out; rw [HOP.out] at this; rw [← this]; unfold stepR; rw [if_neg (by simp)]
          have en : k' = k := by have := HSK.out; rw [HOP.out] at this; rw [← this]; unfold stepN; rw [if_neg (by simp)]
          go_wp2_with (go_at_call 32; (with_reducible refine HAT.out.mono ?_); rintro e w3 ⟨rfl, b3⟩; have HB3 := Lib.hid b3; clear b3)
          go_roundw
          case rel => exact ⟨2, by omega, rfl, Lib.hid (HM2.out.on HB3.out), Lib.hid (HI2.out.on HB3.out), Lib.hid (HR2.out.on HB3.out), Lib.hid (by have q := HO2.out.on HB3.out; rw [er]; exact q), Lib.hid (by have q := HT2.out.on HB3.out; rw [en]; exact q), Lib.hid (And.intro (HBK2.out.1.trans (HB3.out.mono HZ2.out)) (HBK2.out.2.trans (KeptBut.below HB3.out _))), Lib.hid (Nat.le_trans HZ2.out HB3.out.size)⟩
          case measure => simp [intOf]
        · go_upto_region 11 with (go_at_call 32; (with_reducible refine HAT.out.mono ?_); rintro e w3 ⟨rfl, b3⟩; have HB3 := Lib.hid b3; clear y0 y1 y2 y3 yl; clear b3)
          obtain ⟨x0, x1, xs, xp, xq, xl⟩ := (HM2.out.on HB3.out).cells
          have hI3 := HI2.out.on HB3.out
          have j0 := hI3.cell 0
          have j1 := hI3.cell 1
          have j2 := hI3.cell 2
          have j3 := hI3.cell 3
          have jl := hI3.lt
          simp only [List.getElem?_toArray, List.getElem?_cons_zero, List.getElem?_cons_succ] at j0 j1 j2 j3
          clear hI3
          have HT3 := Lib.hid (HT2.out.on HB3.out)
          have HST := Lib.hid (two_any b0 b1 true ((HT3.out.on (Below.refl w3.heap.size w3).drew).swap) HKK.out rfl (fun h => HXB.out HOP.out h) rb (by have := HRB.out; rw [HOP.out] at this; exact this) k' (by have := HSK.out; rw [HOP.out] at this; exact this))
          go_region_law (go_simp; go_at_call 33; (with_reducible refine HST.out.mono ?_); rintro e w4 ⟨rfl, hT4, b4, hk4⟩; have hk4' : KeptBut w3 w4 [155, 47] := hk4; have hO4 := hk4' _ _ _ (by decide) (HO2.out.on HB3.out); have HO4 := Lib.hid hO4; have HT4 := Lib.hid (hT4.swap); have HW4 := Lib.hid (And.intro (show Below base w3 w4 from (Below.refl base w3).drew.trans b4) hk4'); have o0 := hO4.cell 0; have o1 := hO4.cell 1; have ol := hO4.lt; have of := hO4.frozen; simp only [List.getElem?_toArray, List.getElem?_cons_zero, List.getElem?_cons_succ] at o0 o1; clear hT4 b4 hk4 hk4' hO4)
          all_goals
            go_wp2_with fail
            go_roundw
            case rel => exact ⟨2, by omega, rfl, Lib.hid ((But.one 1 _).blk (HW4.out.2 _ _ _ (by decide) (HM2.out.on HB3.out)) (blk_neT (HW4.out.2 _ _ _ (by decide) (HM2.out.on HB3.out)) HO4.out (by decide))), Lib.hid ((But.one 1 _).blk (HW4.out.2 _ _ _ (by decide) (HI2.out.on HB3.out)) (by omega)), Lib.hid ((But.one 1 _).blk (HW4.out.2 _ _ _ (by decide) (HR2.out.on HB3.out)) (by omega)), Lib.hid (HO4.out.set_ 1 _), Lib.hid (HT4.out.but HO4.out (by decide) (by decide) (But.one 1 _)), Lib.hid (And.intro (((HBK2.out.1.trans (HB3.out.mono HZ2.out)).trans HW4.out.1).setCell (p := ⟨w.heap.size + 2, 1, none⟩) (by show base ≤ w.heap.size + 2; have := HBM.out; omega) _) ((HBK2.out.2.trans (KeptBut.below HB3.out _)).then4 HW4.out.2 HO4.out 1 (by omega))), Lib.hid (by have := HW4.out.1.size; have := HZ2.out; have := HB3.out.size; simp; omega)⟩
            case measure => simp [intOf]
    · have HO2 : Hid (Blk wr (w.heap.size + 2) 48 #[.int .u8 ra, .int .u8 rb]) := HO
      have HT2 : Hid (TwoC wr base o g0 xa ya n' g1 xb yb k') := HT
      rw [show ((2 : Nat) : Int) = 2 from rfl]
      have hO := HO2.out
      have o0 := hO.cell 0
      have o1 := hO.cell 1
      have ol := hO.lt
      have hR := HR.out
      have z0 := hR.cell 0
      have z1 := hR.cell 1
      have zl := hR.lt
      have zf := hR.frozen
      simp only [List.getElem?_toArray, List.getElem?_cons_zero, List.getElem?_cons_succ] at o0 o1 z0 z1
      clear hO hR HO HT
      go_wp2_with fail
      exact bodyPost_ret (v := .agg #[.int .u8 ra, .int .u8 rb]) (by simp [results, Tryz.results12, go_sem, z0, z1, zl]) rfl ⟨rfl, HT2.out.but HR.out (by decide) (by decide) ((But.one 0 _).set 1 _), (HBK.out.1.setCell (p := ⟨w.heap.size + 1, 0, none⟩) (by show base ≤ w.heap.size + 1; have := HBM.out; omega) _).setCell (p := ⟨w.heap.size + 1, 1, none⟩) (by show base ≤ w.heap.size + 1; have := HBM.out; omega) _, KeptBut.then4 (KeptBut.then4 HBK.out.2 (KeptBut.below (Below.refl _ _) _) HR.out 0 (by omega)) (KeptBut.below (Below.refl _ _) _) (HR.out.set_ 0 _) 1 (by omega)⟩
end Go.Proofs.YtkejpkcaojidaaaGreatDoor

