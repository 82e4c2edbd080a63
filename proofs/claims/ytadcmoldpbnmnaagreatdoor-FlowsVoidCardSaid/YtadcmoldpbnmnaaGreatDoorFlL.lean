/-
  The law's example lives: in its ring node 2 hears what both halves sent, in both ways; a half hears nothing. Condition: both tables are as the program's text lays them.
-/
import Derived.Test.YtadcmoldpbnmnaaGreatDoorFlG
namespace Go.Proofs.YtadcmoldpbnmnaaGreatDoor
open Go.RowKit Rg
set_option linter.unusedVariables false

section
variable {w : World} {f B : Nat} {pv : Nat → Option Addr}
theorem fst_on {w' : World} {j t : Nat} (h : FSt w f B pv j t) (hb : Below w.heap.size w w') : FSt w' f B pv j t := FlowN.on h hb
theorem stO_each (j t : Nat) : (stO j t).each = catS sy sy 0 (cnt (plc 0 j) t) ++ catS sy sy 0 (cnt (plc 1 j) t) := rfl
theorem stO_ok (j t : Nat) : (stO j t).Ok := ⟨catC_of _ _ _ _, catC_of _ _ _ _⟩
theorem end_hiC (p : Nat) (hp : p = 2 ∨ p = 3) : HiC (catS sy sy 0 (cnt p 120)) exF true := by
  have h := hiC_cat sy sy 0 (cnt p 120)
  obtain ⟨e1, e2, e3, e4⟩ := end_high
  rcases hp with rfl | rfl
  · rwa [e1, e2] at h
  · rwa [e3, e4] at h
theorem node2_heard (h : FSt w f B pv 2 120) : Calls Tryz.prog 14 #[.pointer (some ⟨f, 0, none⟩)] w fun e w' => e = .returned (.tuple #[.agg #[.int .u8 2, .int .u8 0, .int .u32 3, .int .u32 5], .bool true]) ∧ Below w.heap.size w w' :=
  fHeard_of (stO 2 120) (stO_ok _ _) _ _ (stO_each _ _) (catC_of _ _ _ _) (catC_of _ _ _ _) exF exF true true (end_hiC 2 (.inl rfl)) (end_hiC 3 (.inr rfl)) _ w (FlowN.now h) exF rfl true rfl
theorem node2_high (h : FSt w f B pv 2 120) : Calls Tryz.prog 18 #[.pointer (some ⟨f, 0, none⟩)] w fun e w' => e = .returned (.agg #[.bool true, .bool true]) ∧ Below w.heap.size w w' :=
  fHigh_of (stO 2 120) (stO_ok _ _) _ _ (stO_each _ _) (catC_of _ _ _ _) (catC_of _ _ _ _) exF exF true true (end_hiC 2 (.inl rfl)) (end_hiC 3 (.inr rfl)) _ w (FlowN.now h)
theorem node0_heard (h : FSt w f B pv 0 120) : Calls Tryz.prog 14 #[.pointer (some ⟨f, 0, none⟩)] w fun e w' => e = .returned (.tuple #[.agg #[.int .u8 0, .int .u8 0, .int .u32 0, .int .u32 0], .bool false]) ∧ Below w.heap.size w w' :=
  fHeard_of (.half (pv 0)) trivial catN catN rfl catC_none catC_none Fr.zero Fr.zero false false hiC_none hiC_none _ w (FlowN.now h) Fr.zero rfl false rfl
theorem node1_sent (h : FSt w f B pv 1 120) (hs : Says true exF w (.pointer (pv 1))) : Calls Tryz.prog 16 #[.pointer (some ⟨f, 0, none⟩)] w fun e w' => e = .returned (.tuple #[.agg #[.int .u8 2, .int .u8 0, .int .u32 3, .int .u32 5], .bool true]) ∧ Below w.heap.size w w' :=
  fSent_is (.half (pv 1)) trivial (by simp [PSt.each, catN_len]) (fun v hv => by rcases List.mem_append.1 hv with q | q <;> exact catN_one v q) _ w (FlowN.now h) exF true fun u hu => sends_says true exF _ u (hs.on hu)
end
theorem pay_self (k s q v : Int) (w : World) : (binOp .eql 40 (.agg #[.int .u8 k, .int .u8 s, .int .u32 q, .int .u32 v]) (.agg #[.int .u8 k, .int .u8 s, .int .u32 q, .int .u32 v])).run Tryz.prog w = .ok (.bool true) w := by
  go_simp
theorem two_self (w : World) : (binOp .eql 57 (.agg #[.bool true, .bool true]) (.agg #[.bool true, .bool true])).run Tryz.prog w = .ok (.bool true) w := by kernel_rfl
theorem nil_flows (A : Addr) (n c : Nat) (w : World) : (binOp .eql 69 (.slice (some A) n c) (.slice none 0 0)).run Tryz.prog w = .ok (.bool false) w := by kernel_rfl
theorem Blk.pay4 {w : World} {g : Nat} {k s q v : Int} (h : Blk w g 40 #[.int .u8 k, .int .u8 s, .int .u32 q, .int .u32 v]) : w.cell? ⟨g, 0, none⟩ = some (.int .u8 k) ∧ w.cell? ⟨g, 1, none⟩ = some (.int .u8 s) ∧ w.cell? ⟨g, 2, none⟩ = some (.int .u32 q) ∧ w.cell? ⟨g, 3, none⟩ = some (.int .u32 v) ∧ g < w.heap.size :=
  ⟨(h.cell 0).trans rfl, (h.cell 1).trans rfl, (h.cell 2).trans rfl, (h.cell 3).trans rfl, h.lt⟩
set_option maxRecDepth 100000 in
set_option maxHeartbeats 4000000 in
theorem lives_fl (w : World) (hw : Laid2 w) :
    Calls Tryz.prog 6 #[] w fun e w' => e = .returned (.bool true) ∧ Below w.heap.size w w' := by
  have HB0 := Lib.hid (below_al (Below.refl w.heap.size w) (.cells #[.int .u8 2, .int .u8 0, .int .u32 3, .int .u32 5] 40))
  have HW0 := Lib.hid (hw.on HB0.out)
  obtain ⟨W0, hW0⟩ : ∃ u, u = w.alloc (.cells #[.int .u8 2, .int .u8 0, .int .u32 3, .int .u32 5] 40) := ⟨_, rfl⟩
  have HP0 : Hid (Blk W0 w.heap.size 40 #[.int .u8 2, .int .u8 0, .int .u32 3, .int .u32 5]) := Lib.hid (by rw [hW0]; exact Blk.new w _ _)
  rw [← hW0] at HB0 HW0
  have HE := Lib.hid hW0
  have HNT := Lib.hid (fun (u : World) (hu : Below W0.heap.size W0 u) => net12_is u (HW0.out.on hu))
  have HRG := Lib.hid (fun (gN : Nat) (u : World) (hN : NetP u (.pointer (some ⟨gN, 0, none⟩)) 4 [0, 2]) (hc : u.cell? ⟨gN, 0, none⟩ = some (.int .i64 4) ∧ u.cell? ⟨gN, 3, none⟩ = some (.int .i64 120)) (hl : Laid2 u) => show Calls Tryz.prog 24 #[.pointer (some ⟨gN, 0, none⟩), .int .i64 0, .agg #[.int .u8 2, .int .u8 0, .int .u32 3, .int .u32 5, .int .u8 2, .int .u8 0, .int .u32 3, .int .u32 5], .agg #[.int .i64 (-1), .int .i64 (-1), .slice none 0 0]] u _ from ring_is gN u hN hc hl)
  have qp := fun W => pay_self 2 0 3 5 W
  have qb := two_self
  clear hw
  go_enter Tryz.func6, Tryz.ntmps6
  go_upto_region 2 with fail
  rw [← hW0]
  clear hW0
  obtain ⟨c0, c1, c2, c3, cl⟩ := HP0.out.pay4
  obtain ⟨gv, hgv⟩ : ∃ g, g = w.heap.size := ⟨_, rfl⟩
  rw [← hgv] at HP0 c0 c1 c2 c3 cl ⊢
  have HGV := Lib.hid hgv
  clear hgv
  go_cut [2] from 10 to 15 (fun s2 wx => ∃ (bl c : Nat) (f : Nat → Nat) (pv : Nat → Option Addr) (B : Nat), s2 = .slice (some ⟨bl, 0, none⟩) 4 c ∧ Hid (Below W0.heap.size W0 wx) ∧ Hid ((∀ j, j < 4 → wx.cell? ⟨bl, j, none⟩ = some (.pointer (some ⟨f j, 0, none⟩)) ∧ FSt wx (f j) B pv j 120) ∧ ∀ j, j < 2 → Says (decide (j = 1)) exF wx (.pointer (pv j))))
  case first =>
    go_region_law (first
      | (go_simp; go_at_call 20; (with_reducible refine (HNT.out _ (Below.refl _ _).drew).mono ?_); rintro e w2 ⟨gN, rfl, hN, hc, b2⟩; have HB2 := Lib.hid (show Below W0.heap.size W0 w2 from (Below.refl W0.heap.size W0).drew.trans b2); have HN2 := Lib.hid (And.intro hN hc); obtain ⟨d0, d1, d2, d3, dl⟩ := (HP0.out.on HB2.out).pay4; clear b2 hN hc)
      | (go_simp; go_at_call 24; (with_reducible refine (HRG.out _ _ HN2.out.1 HN2.out.2 (HW0.out.on HB2.out)).mono ?_); rintro e w3 ⟨bl, c, f, pv, B, rfl, b3, h1, h2⟩; have HB3 := Lib.hid (below_then HB2.out b3); have HF3 := Lib.hid (And.intro h1 h2); clear b3 h1 h2))
    all_goals (go_wp2_with fail; go_meet; exact ⟨_, _, _, _, _, rfl, HB3, HF3⟩)
  case rest =>
    obtain ⟨bl, c, f, pv, B, rfl, HB3, HF3⟩ := hcut
    have qn := fun W => nil_flows ⟨bl, 0, none⟩ 4 c W
    clear c0 c1 c2 c3 cl HNT HRG
    obtain ⟨l0, l0'⟩ := HF3.out.1 0 (by decide)
    obtain ⟨l1, l1'⟩ := HF3.out.1 1 (by decide)
    obtain ⟨l2, l2'⟩ := HF3.out.1 2 (by decide)
    have ll := cell_lt' l2
    have HF0 := Lib.hid l0'
    have HF1 := Lib.hid l1'
    have HF2 := Lib.hid l2'
    have HS1 : Hid (Says true exF wc (.pointer (pv 1))) := Lib.hid (HF3.out.2 1 (by decide))
    clear l0' l1' l2' HF3
    go_upto_region 8 with (first
      | (go_at_call 14; (with_reducible refine (node2_heard HF2.out).mono ?_); rintro e w4 ⟨rfl, b4⟩; have HB4 := Lib.hid (below_al b4 (.cells #[.int .u8 2, .int .u8 0, .int .u32 3, .int .u32 5] 40)); have m1 := below_cell HB4.out l1; have m0 := below_cell HB4.out l0; have m2 := below_cell HB4.out l2; have ml := cell_lt' m0; clear b4 l0 l1 l2 ll)
      | (go_at_call 16; (with_reducible refine (node1_sent (fst_on HF1.out HB4.out) (HS1.out.on HB4.out)).mono ?_); rintro e w5 ⟨rfl, b5⟩; have HB5 := Lib.hid (below_al b5 (.cells #[.int .u8 2, .int .u8 0, .int .u32 3, .int .u32 5] 40)); have p0 := below_cell HB5.out m0; have p2 := below_cell HB5.out m2; have pl := cell_lt' p0; clear b5 m0 m1 m2 ml)
      | (go_at_call 14; (with_reducible refine (node0_heard (fst_on (fst_on HF0.out HB4.out) HB5.out)).mono ?_); rintro e w6 ⟨rfl, b6⟩; have HB6 := Lib.hid (below_al b6 (.cells #[.int .u8 0, .int .u8 0, .int .u32 0, .int .u32 0] 40)); have r2 := below_cell HB6.out p2; have rl := cell_lt' r2; clear b6 p0 p2 pl))
    have HB56 := Lib.hid (below_then HB5.out HB6.out)
    have HB46 := Lib.hid (below_then HB4.out HB56.out)
    obtain ⟨v0, v1, v2, v3, vl⟩ := ((HP0.out.on HB3.out).on HB46.out).pay4
    obtain ⟨x0, x1, x2, x3, xl⟩ := ((Blk.new w4 40 #[.int .u8 2, .int .u8 0, .int .u32 3, .int .u32 5]).on HB56.out).pay4
    obtain ⟨y0, y1, y2, y3, yl⟩ := ((Blk.new w5 40 #[.int .u8 2, .int .u8 0, .int .u32 3, .int .u32 5]).on HB6.out).pay4
    have HNH := Lib.hid (fst_on HF2.out HB46.out)
    have HBB := Lib.hid (below_then HB0.out (below_then HB3.out HB46.out))
    clear HB3 HB4 HB5 HB6 HB56 HB46 HF0 HF1 HF2 HS1 HP0
    go_wp2_with (go_at_call 18; (with_reducible refine (node2_high HNH.out).mono ?_); rintro e w7 ⟨rfl, b7⟩; have HB7 := Lib.hid (below_then HBB.out b7); obtain ⟨s0, s1, s2, s3, sl⟩ : w7.cell? _ = _ ∧ w7.cell? _ = _ ∧ w7.cell? _ = _ ∧ w7.cell? _ = _ ∧ _ := ⟨below_cell b7 y0, below_cell b7 y1, below_cell b7 y2, below_cell b7 y3, cell_lt' (below_cell b7 y0)⟩; obtain ⟨u0, u1, u2, u3, ul⟩ : w7.cell? _ = _ ∧ w7.cell? _ = _ ∧ w7.cell? _ = _ ∧ w7.cell? _ = _ ∧ _ := ⟨below_cell b7 v0, below_cell b7 v1, below_cell b7 v2, below_cell b7 v3, cell_lt' (below_cell b7 v0)⟩; clear b7)
    go_ret
    exact ⟨rfl, HB7.out⟩
end Go.Proofs.YtadcmoldpbnmnaaGreatDoor

