/-
  The law's example lives: in its ring node 2 hears what both halves sent, in both ways; a half hears nothing. Condition: both tables are as the program's text lays them.
-/
import Derived.Test.YtkejpkcaojidaaaGreatDoorFlK
namespace Go.Proofs.YtkejpkcaojidaaaGreatDoor
set_option linter.unusedVariables false
set_option linter.unusedSimpArgs false
set_option linter.unusedVariables false
set_option linter.unusedSimpArgs false
open Go.RowKit Rg
set_option linter.unusedVariables false

theorem ins12_is (i0 i1 i2 i3 : Int) (w : World) :
    Calls Tryz.prog 11 #[.agg #[.int .u8 i0, .int .u8 i1, .int .u8 i2, .int .u8 i3]] w fun e w' => e = .returned (.agg #[.int .u8 i0, .int .u8 i1, .int .u8 i2, .int .u8 i3]) ∧ Below w.heap.size w w' := by
  have HB := Lib.hid (below_al (below_al (Below.refl w.heap.size w) (.cells #[.int .u8 i0, .int .u8 i1, .int .u8 i2, .int .u8 i3] 53)) (.cells #[.int .u8 i0, .int .u8 i1, .int .u8 i2, .int .u8 i3] 51))
  have HB2 := Lib.hid (below_al (below_al (Below.refl w.heap.size w) (.cells #[.int .u8 i0, .int .u8 i1, .int .u8 i2, .int .u8 i3] 53)) (.cells #[.int .u8 0, .int .u8 0, .int .u8 0, .int .u8 0] 51))
  go_enter Tryz.func11, Tryz.ntmps11
  go_wp2_with fail
  refine bodyPost_ret (v := .agg #[.int .u8 i0, .int .u8 i1, .int .u8 i2, .int .u8 i3]) (by simp [results, Tryz.results11, go_sem]) rfl ⟨rfl, ?_⟩
  first
    | exact HB.out
    | exact below_four HB2.out (by simp) _ _ _ _
end Go.Proofs.YtkejpkcaojidaaaGreatDoor

namespace Go.Proofs.YtkejpkcaojidaaaGreatDoor
set_option linter.unusedVariables false
set_option linter.unusedSimpArgs false
open Go.RowKit Rg
set_option linter.unusedVariables false

set_option maxRecDepth 100000 in
set_option maxHeartbeats 16000000 in
theorem ring_is (gN : Nat) (w : World) (hN : NetP w (.pointer (some ⟨gN, 0, none⟩)) 4 [0, 2]) (hc : w.cell? ⟨gN, 0, none⟩ = some (.int .i64 4) ∧ w.cell? ⟨gN, 3, none⟩ = some (.int .i64 120)) (hw : Laid2 w) :
    Calls Tryz.prog 22 #[.pointer (some ⟨gN, 0, none⟩), .int .i64 0, .agg payR, .agg wrongR] w fun e w' => ∃ (bl c : Nat) (f : Nat → Nat) (pv : Nat → Option Addr) (B : Nat), e = .returned (.slice (some ⟨bl, 0, none⟩) 4 c) ∧ Below w.heap.size w w' ∧ (∀ j, j < 4 → w'.cell? ⟨bl, j, none⟩ = some (.pointer (some ⟨f j, 0, none⟩)) ∧ FSt w' (f j) B pv j 120) ∧ ∀ j, j < 2 → Says (decide (j = 1)) exF w' (.pointer (pv j)) := by
  have hb0 : Below w.heap.size w ((w.alloc (.cells payR 67)).alloc (.cells wrongR 70)) := below_al (below_al (Below.refl _ _) _) _
  obtain ⟨W1, hW1⟩ : ∃ W1, W1 = (w.alloc (.cells payR 67)).alloc (.cells wrongR 70) := ⟨_, rfl⟩
  have hP : Blk W1 w.heap.size 67 payR := by rw [hW1]; exact (Blk.new w _ _).alloc _
  have hWr : Blk W1 (w.heap.size + 1) 70 wrongR := by rw [hW1]; exact Blk.newIn (by simp)
  have hz : W1.heap.size = w.heap.size + 2 := by rw [hW1]; simp
  rw [← hW1] at hb0
  have hq := (NetQ.of hN).on hb0
  have HQ := Lib.hid hq
  have HB0 := Lib.hid hb0
  have HW := Lib.hid (hw.on hb0)
  have HCS := Lib.hid (show (W1.cell? ⟨gN, 0, none⟩ = some (.int .i64 4) ∧ W1.cell? ⟨gN, 3, none⟩ = some (.int .i64 120)) ∧ gN < w.heap.size from ⟨⟨below_cell hb0 hc.1, below_cell hb0 hc.2⟩, cell_lt' hc.1⟩)
  have HP := Lib.hid hP
  have HWR := Lib.hid hWr
  have HZ1 := Lib.hid hz
  have HNP := Lib.hid hq.net
  have HWE := Lib.hid hW1
  have HAT := Lib.hid (show atM [0, 2] 0 = 0 from rfl)
  have HPT := Lib.hid (show partM 4 [0, 2] 0 = 1 from rfl)
  obtain ⟨i0, hi0, hz0, hz1, hz2⟩ := info_parts infoFlowP
  clear hb0 hP hWr hz hq hc hN hw
  unfold payR wrongR
  go_enter Tryz.func22, Tryz.ntmps22
  go_upto_region 1 with fail
  rw [show (w.alloc (.cells #[.int .u8 2, .int .u8 0, .int .u32 3, .int .u32 5, .int .u8 2, .int .u8 0, .int .u32 3, .int .u32 5] 67)).alloc (.cells #[.int .i64 (-1), .int .i64 (-1), .slice none 0 0] 70) = W1 from HWE.out.symm]
  clear hW1
  go_wp2_with (first
    | (go_at_call 43; (with_reducible refine (netFirst_is _ 4 [0, 2] 0 0 HAT.out _ HNP.out).mono ?_); rintro e w2 ⟨rfl, b2⟩)
    | (go_at_call 44; (with_reducible refine (netPart_is _ 4 [0, 2] 0 1 HPT.out _ (HNP.out.on b2) (HW.out.on b2).ways).mono ?_); rintro e w3 ⟨rfl, b3⟩))
  have HG0 := Lib.hid (below_then b2 b3)
  clear b2 b3
  obtain ⟨gP, hgP⟩ : ∃ g, g = w.heap.size := ⟨_, rfl⟩
  obtain ⟨gW, hgW⟩ : ∃ g, g = w.heap.size + 1 := ⟨_, rfl⟩
  rw [← hgW] at HWR ⊢
  rw [← hgP] at HP HQ ⊢
  have HGP := Lib.hid hgP
  have HGW := Lib.hid hgW
  clear hgP hgW
  go_loopw [11, 12] (fun s11 s12 wr => ∃ (i : Nat) (f : Nat → Nat) (pv : Nat → Option Addr), i ≤ 4 ∧ s12 = .int .i64 (i : Int) ∧ Hid (GotR W1 gP f pv i s11 wr)) (fun _ s12 _ => 4 - (intOf s12).toNat)
  case atStart => exact ⟨0, fun _ => 0, fun _ => none, by omega, rfl, Lib.hid (GotR.none_ W1 w3 gP _ _ HG0.out)⟩
  case round =>
    obtain ⟨i, f, pv, hi, rfl, HG⟩ := hrel
    clear HG0
    have hlow := HG.out.low
    have c0 := below_cell hlow HCS.out.1.1
    have cl : gN < wr.heap.size := cell_lt' c0
    by_cases hlt : i < 4
    · have hd : decide ((i : Int) < 4) = true := decide_eq_true (by omega)
      have hd' : decide (i < 4) = true := decide_eq_true hlt
      have hwi : IntKind.i64.wrap ((i : Int) + 1) = ((i + 1 : Nat) : Int) := by rw [IntWalk.i64_in _ (by omega)]; omega
      have HNW := Lib.hid (fNew_yes gN gP 4 [0, 2] (i : Int) (exW 0 i (.inl rfl) hlt).2 wr (HQ.out.on hlow) (HW.out.on hlow))
      have HX := Lib.hid hlow
      have HLT := Lib.hid hlt
      clear hlow
      rcases (show i = 1 ∨ i ≠ 1 by omega) with he | he
      · have q1 : ((i : Int) == 1) = true := by rw [beq_iff_eq]; omega
        have q2 : decide ((i : Int) = 1) = true := decide_eq_true (by omega)
        have q3 : (i == 1) = true := by rw [beq_iff_eq]; omega
        have q4 : decide (i = 1) = true := decide_eq_true he
        have HEE := Lib.hid he
        clear he
        go_upto_region 13 with (go_at_call 6; (with_reducible refine HNW.out.mono ?_); rintro e w1 ⟨f', rfl, hf, hF, b1⟩; have HF1 := Lib.hid (And.intro hf (And.intro hF b1)); obtain ⟨p0, p1, p2, p3, p4, p5, p6, p7, pl⟩ := ((HP.out.on HX.out).on b1).pay8; clear hf hF b1; clear c0 cl)
        refine wp_at (fun U => Below w1.heap.size w1 U ∧ Blk U w1.heap.size 42 #[.bool exD.i, .int .i64 exD.a, .int .u8 exD.k, .int .u8 exD.s, .int .u32 exD.q, .int .u32 exD.v] ∧ Blk U (w1.heap.size + 1) 42 #[.bool exD.i, .int .i64 exD.a, .int .u8 exD.k, .int .u8 exD.s, .int .u32 exD.q, .int .u32 exD.v]) ?_ ?_
        · exact ⟨below_al (below_al (Below.refl _ _) _) _, (Blk.new w1 _ _).alloc _, Blk.newIn (by simp)⟩
        · clear p0 p1 p2 p3 p4 p5 p6 p7 pl
          intro U1 hS1
          obtain ⟨hbU1, hA1, hB1⟩ := hS1
          obtain ⟨p0, p1, p2, p3, p4, p5, p6, p7, pl⟩ := (((HP.out.on HX.out).on HF1.out.2.2).on hbU1).pay8
          obtain ⟨a0, a1, a2, a3, a4, a5, al⟩ := hA1.sd
          have af := hA1.frozen
          have HS1 := Lib.hid (And.intro hbU1 (And.intro hA1 hB1))
          clear hbU1 hA1 hB1
          go_upto_region 14 with fail
          refine wp_at (fun U => Below w1.heap.size w1 U ∧ Blk U w1.heap.size 42 #[.bool exD.i, .int .i64 exD.a, .int .u8 exD.k, .int .u8 exD.s, .int .u32 exD.q, .int .u32 exD.v] ∧ Blk U (w1.heap.size + 1) 42 #[.bool exD.i, .int .i64 exD.a, .int .u8 exD.k, .int .u8 exD.s, .int .u32 exD.q, .int .u32 exD.v]) ?_ ?_
          · obtain ⟨r1, r2, r3⟩ := put_sd (w := w1) (B := w1.heap.size) exD HS1.out.2.1 HS1.out.2.2 (by omega) (Nat.le_refl _) HS1.out.1
            exact ⟨r1, r2, r3⟩
          · clear p0 p1 p2 p3 p4 p5 p6 p7 pl a0 a1 a2 a3 a4 a5 al af HS1
            intro U2 hS2
            obtain ⟨hbU2, hA2, hB2⟩ := hS2
            obtain ⟨p0, p1, p2, p3, p4, p5, p6, p7, pl⟩ := (((HP.out.on HX.out).on HF1.out.2.2).on hbU2).pay8
            obtain ⟨a0, a1, a2, a3, a4, a5, al⟩ := hB2.sd
            have af := hB2.frozen
            have HS2 := Lib.hid (And.intro hbU2 (And.intro hA2 hB2))
            clear hbU2 hA2 hB2
            go_upto_region 15 with fail
            refine wp_at (fun U => Below w1.heap.size w1 U ∧ Blk U w1.heap.size 42 #[.bool exD.i, .int .i64 exD.a, .int .u8 exD.k, .int .u8 exD.s, .int .u32 exD.q, .int .u32 exD.v] ∧ Blk U (w1.heap.size + 1) 42 #[.bool exD.i, .int .i64 exD.a, .int .u8 exD.k, .int .u8 exD.s, .int .u32 exD.q, .int .u32 exD.v]) ?_ ?_
            · obtain ⟨r1, r2, r3⟩ := put_sd (w := w1) (B := w1.heap.size) exD HS2.out.2.2 HS2.out.2.1 (by omega) (Nat.le_succ _) HS2.out.1
              exact ⟨r1, r3, r2⟩
            · clear p0 p1 p2 p3 p4 p5 p6 p7 pl a0 a1 a2 a3 a4 a5 al af HS2
              intro U hS
              obtain ⟨hbU, hA, hB⟩ := hS
              obtain ⟨hf, hF, b1⟩ := HF1.out
              have hbr := below_then b1 hbU
              obtain ⟨a0, a1, a2, a3, a4, a5, al⟩ := hA.sd
              obtain ⟨d0, d1, d2, d3, d4, d5, dl⟩ := hB.sd
              have hWU := (HWR.out.on HX.out).on hbr
              have x0 : U.cell? ⟨gW, 0, none⟩ = some (.int .i64 (-1)) := (hWU.cell 0).trans rfl
              have xl := hWU.lt
              have HBG := Lib.hid (begin_ex HLT.out U (hF.on hbU) ((HW.out.on HX.out).on hbr))
              have HBR := Lib.hid hbr
              have HFF := Lib.hid hf
              clear hf hF b1 hbU hA hB hWU hbr
              go_wp2_with (first
                | (go_at_call 8; (with_reducible refine HBG.out.mono ?_); rintro e w4 ⟨p, rfl, hS, hFn, u, hu, hk⟩; have hb4 : Below wr.heap.size wr w4 := (below_then HBR.out hu).trans (hk.low HFF.out); have HB5 := Lib.hid (below_al hb4 (.cells #[.pointer (some ⟨f', 0, none⟩)] 30)); have HFN := Lib.hid (hFn.on (below_al (Below.refl _ _) (.cells #[.pointer (some ⟨f', 0, none⟩)] 30))); have HSY := Lib.hid (fun (h : i < 2) => (hS h).on (below_al (Below.refl _ _) (.cells #[.pointer (some ⟨f', 0, none⟩)] 30))); have HRW := Lib.hid (show (w4.alloc (.cells #[.pointer (some ⟨f', 0, none⟩)] 30)).ownsRow W1.heap.size 30 1 u11 i ((List.range i).map fun j => .pointer (some ⟨f j, 0, none⟩)) from owns_kept HG.out.row (KeptBut.below HB5.out []) (by simp)); have hcu : (w4.alloc (.cells #[.pointer (some ⟨f', 0, none⟩)] 30)).cell? ⟨w4.heap.size, 0, none⟩ = some (.pointer (some ⟨f', 0, none⟩)) := ((Blk.new w4 _ _).cell 0).trans rfl; clear hS hFn hu hk hb4)
                | (at_builtin; refine wpList_append_one rfl (.tmp 98) (.tmp 100) 64 rfl W1.heap.size 30 i0 _ 8 Tryz.underlying64 hi0 hz0 hz1 hz2 rfl u11 i _ rfl HRW.out w4.heap.size (.pointer (some ⟨f', 0, none⟩)) rfl hcu rfl (by unfold maxLen; omega) (by omega) (Nat.le_trans HX.out.size HB5.out.size) ?_; intro A' c' w5 hr5 hg5))
              go_roundw
              case rel =>
                obtain ⟨f2, pv2, hG2⟩ := GotR.push HG.out (by have := HGP.out; have := HZ1.out; omega) HFF.out HFN.out HSY.out HB5.out hr5 hg5
                exact ⟨i + 1, f2, pv2, by omega, rfl, Lib.hid hG2⟩
              case measure => simp [intOf]; omega
      · have q1 : ((i : Int) == 1) = false := by rw [beq_eq_false_iff_ne]; omega
        have q2 : decide ((i : Int) = 1) = false := decide_eq_false (by omega)
        have q3 : (i == 1) = false := by rw [beq_eq_false_iff_ne]; omega
        have q4 : decide (i = 1) = false := decide_eq_false he
        have HEE := Lib.hid he
        clear he
        go_upto_region 15 with (go_at_call 6; (with_reducible refine HNW.out.mono ?_); rintro e w1 ⟨f', rfl, hf, hF, b1⟩; have HF1 := Lib.hid (And.intro hf (And.intro hF b1)); obtain ⟨p0, p1, p2, p3, p4, p5, p6, p7, pl⟩ := ((HP.out.on HX.out).on b1).pay8; clear hf hF b1; clear c0 cl)
        refine wp_at (fun U => Below w1.heap.size w1 U ∧ Blk U w1.heap.size 42 #[.bool exD.i, .int .i64 exD.a, .int .u8 exD.k, .int .u8 exD.s, .int .u32 exD.q, .int .u32 exD.v] ∧ Blk U (w1.heap.size + 1) 42 #[.bool exD.i, .int .i64 exD.a, .int .u8 exD.k, .int .u8 exD.s, .int .u32 exD.q, .int .u32 exD.v]) ?_ ?_
        · exact ⟨below_al (below_al (Below.refl _ _) _) _, (Blk.new w1 _ _).alloc _, Blk.newIn (by simp)⟩
        · intro U hS
          obtain ⟨hbU, hA, hB⟩ := hS
          obtain ⟨hf, hF, b1⟩ := HF1.out
          have hbr := below_then b1 hbU
          obtain ⟨a0, a1, a2, a3, a4, a5, al⟩ := hA.sd
          obtain ⟨d0, d1, d2, d3, d4, d5, dl⟩ := hB.sd
          have hWU := (HWR.out.on HX.out).on hbr
          have x0 : U.cell? ⟨gW, 0, none⟩ = some (.int .i64 (-1)) := (hWU.cell 0).trans rfl
          have xl := hWU.lt
          have HBG := Lib.hid (begin_ex HLT.out U (hF.on hbU) ((HW.out.on HX.out).on hbr))
          have HBR := Lib.hid hbr
          have HFF := Lib.hid hf
          clear hf hF b1 hbU hA hB hWU hbr
          go_wp2_with (first
            | (go_at_call 8; (with_reducible refine HBG.out.mono ?_); rintro e w4 ⟨p, rfl, hS, hFn, u, hu, hk⟩; have hb4 : Below wr.heap.size wr w4 := (below_then HBR.out hu).trans (hk.low HFF.out); have HB5 := Lib.hid (below_al hb4 (.cells #[.pointer (some ⟨f', 0, none⟩)] 30)); have HFN := Lib.hid (hFn.on (below_al (Below.refl _ _) (.cells #[.pointer (some ⟨f', 0, none⟩)] 30))); have HSY := Lib.hid (fun (h : i < 2) => (hS h).on (below_al (Below.refl _ _) (.cells #[.pointer (some ⟨f', 0, none⟩)] 30))); have HRW := Lib.hid (show (w4.alloc (.cells #[.pointer (some ⟨f', 0, none⟩)] 30)).ownsRow W1.heap.size 30 1 u11 i ((List.range i).map fun j => .pointer (some ⟨f j, 0, none⟩)) from owns_kept HG.out.row (KeptBut.below HB5.out []) (by simp)); have hcu : (w4.alloc (.cells #[.pointer (some ⟨f', 0, none⟩)] 30)).cell? ⟨w4.heap.size, 0, none⟩ = some (.pointer (some ⟨f', 0, none⟩)) := ((Blk.new w4 _ _).cell 0).trans rfl; clear hS hFn hu hk hb4)
            | (at_builtin; refine wpList_append_one rfl (.tmp 98) (.tmp 100) 64 rfl W1.heap.size 30 i0 _ 8 Tryz.underlying64 hi0 hz0 hz1 hz2 rfl u11 i _ rfl HRW.out w4.heap.size (.pointer (some ⟨f', 0, none⟩)) rfl hcu rfl (by unfold maxLen; omega) (by omega) (Nat.le_trans HX.out.size HB5.out.size) ?_; intro A' c' w5 hr5 hg5))
          go_roundw
          case rel =>
            obtain ⟨f2, pv2, hG2⟩ := GotR.push HG.out (by have := HGP.out; have := HZ1.out; omega) HFF.out HFN.out HSY.out HB5.out hr5 hg5
            exact ⟨i + 1, f2, pv2, by omega, rfl, Lib.hid hG2⟩
          case measure => simp [intOf]; omega
    · have hd : decide ((i : Int) < 4) = false := decide_eq_false (by omega)
      have hd' : decide (i < 4) = false := decide_eq_false hlt
      obtain rfl : i = 4 := by omega
      have HX := Lib.hid hlow
      have HWN := Lib.hid (show Calls Tryz.prog 45 #[.int .i64 4] wr _ from wNew_is 4 (by omega) (by omega) wr (HW.out.on hlow).ways)
      have hmk := make16
      clear hlow hlt hi
      obtain ⟨bl, cL, cur, rfl, hblb, hbl, hcur⟩ := list_at HG.out.row
      have HL := Lib.hid (And.intro hbl hcur)
      clear hblb hbl hcur
      obtain ⟨WL, rfl⟩ : ∃ u, u = wr := ⟨_, rfl⟩
      have HLL := Lib.hid (show gP < W1.heap.size ∧ gN < W1.heap.size ∧ gW < W1.heap.size by have := HZ1.out; have := HCS.out.2; have := HGP.out; have := HGW.out; omega)
      go_upto_region 24 with (go_at_call 45; (with_reducible refine HWN.out.mono ?_); rintro e u0 ⟨L, rfl, hok, hn, hb0, hb1, hwir, bu⟩; have HU := Lib.hid (And.intro hok (And.intro hn (And.intro hb0 (And.intro hb1 (And.intro hwir bu))))); have c1 := below_cell bu c0; have cl1 : gN < u0.heap.size := cell_lt' c1; clear hok hn hb0 hb1 hwir bu; clear c0 cl)
      obtain ⟨hok, hn, hb0, hb1, hwir, bu⟩ := HU.out
      have HST := Lib.hid (ring_start HG.out HLL.out.1 HLL.out.2.1 HLL.out.2.2 HCS.out.1 HWR.out hok hn hb0 hb1 hwir bu HW.out.ways HL.out.1 HL.out.2)
      have HLN := Lib.hid hn
      obtain ⟨S0, hS0⟩ : ∃ s, s = u0.heap.size := ⟨_, rfl⟩
      rw [← hS0] at HST ⊢
      have OK := Lib.hid HST.out.1
      have HR0 := Lib.hid HST.out.2
      have HBW := Lib.hid HB0.out
      clear hok hn hb0 hb1 hwir bu hS0 HU HWN HL HG HX hmk c1 cl1 hd hd' HLL HZ1 HGP HGW HCS HQ HP HWR HNP HWE HAT HPT HB0 hi0 hz0 hz1 hz2
      refine wp_at (fun U => Hid (RingV (⟨W1, WL, L, f, pv, gP, S0, S0 + 1, gN, gW, bl⟩ : RD) U 0 0 0 0 fun _ => .slice none 0 0)) HR0 ?_
      clear HST HR0
      intro U HRU
      go_wp2_with fail
      go_loopw [20] (fun s20 wr => ∃ (t : Nat) (V : Nat → Value), t ≤ 120 ∧ s20 = .int .i64 (t : Int) ∧ Hid (RingV (⟨W1, WL, L, f, pv, gP, S0, S0 + 1, gN, gW, bl⟩ : RD) wr t 0 0 0 V)) (fun s20 _ => 120 - (intOf s20).toNat)
      case atStart => exact ⟨0, _, by omega, rfl, HRU⟩
      case round =>
        obtain ⟨t, V, ht, rfl, HR⟩ := hrel
        clear HRU
        obtain ⟨c0, c3, cl⟩ : wr.cell? ⟨gN, 0, none⟩ = some (.int .i64 4) ∧ wr.cell? ⟨gN, 3, none⟩ = some (.int .i64 120) ∧ gN < wr.heap.size := HR.out.net OK.out
        by_cases hlt : t < 120
        · have hd : decide ((t : Int) < 120) = true := decide_eq_true (by omega)
          have hd' : decide (t < 120) = true := decide_eq_true hlt
          have hwt : IntKind.i64.wrap ((t : Int) + 1) = ((t + 1 : Nat) : Int) := by rw [IntWalk.i64_in _ (by omega)]; omega
          have HLT := Lib.hid hlt
          clear hlt ht
          go_wp2_with fail
          go_loopw [21] (fun s21 wr => ∃ (i : Nat) (V : Nat → Value), i ≤ 4 ∧ s21 = .int .i64 (i : Int) ∧ Hid (RingV (⟨W1, WL, L, f, pv, gP, S0, S0 + 1, gN, gW, bl⟩ : RD) wr t i (4 * i) (4 * i) V)) (fun s21 _ => 4 - (intOf s21).toNat)
          case atStart => exact ⟨0, V, by omega, rfl, HR⟩
          case round =>
            clear HR c0 c3 cl V
            obtain ⟨i, V, hi, rfl, HI⟩ := hrel
            obtain ⟨c0, c3, cl⟩ : wr.cell? ⟨gN, 0, none⟩ = some (.int .i64 4) ∧ wr.cell? ⟨gN, 3, none⟩ = some (.int .i64 120) ∧ gN < wr.heap.size := HI.out.net OK.out
            by_cases hil : i < 4
            · have hdi : decide ((i : Int) < 4) = true := decide_eq_true (by omega)
              have hdi' : decide (i < 4) = true := decide_eq_true hil
              have hwi : IntKind.i64.wrap ((i : Int) + 1) = ((i + 1 : Nat) : Int) := by rw [IntWalk.i64_in _ (by omega)]; omega
              have HIL := Lib.hid hil
              clear hi hil
              obtain ⟨U0, rfl⟩ : ∃ u, u = wr := ⟨_, rfl⟩
              go_wp2_with fail
              go_loopw [23] (fun s23 wr => ∃ d : Nat, d ≤ 2 ∧ s23 = .int .u8 (d : Int) ∧ Hid (Below U0.heap.size U0 wr) ∧ Hid (Blk wr U0.heap.size 51 (insA t i d))) (fun s23 _ => 2 - (intOf s23).toNat)
              case atStart => exact ⟨0, by omega, rfl, Lib.hid (below_al (Below.refl _ _) _), Lib.hid (Blk.new U0 51 (insA t i 0))⟩
              case round =>
                obtain ⟨d, hd2, rfl, HBD, HIN⟩ := hrel
                clear c0 c3 cl
                by_cases hdl : d < 2
                · rcases (show d = 0 ∨ d = 1 by omega) with rfl | rfl
                  · have HI0 : Hid (Blk wr U0.heap.size 51 #[.int .u8 0, .int .u8 0, .int .u8 0, .int .u8 0]) := HIN
                    have HH := Lib.hid (fun (u : World) (hu : Below U0.heap.size U0 u) => show Calls Tryz.prog 46 #[.pointer (some ⟨L.g, 0, none⟩), .int .u8 0, .int .i64 (i : Int), .int .i64 1] u _ from here_cm (HI.out.on hu OK.out).wir HLN.out i 0 1 (by decide))
                    have HH2 := Lib.hid (fun (u : World) (hu : Below U0.heap.size U0 u) => show Calls Tryz.prog 46 #[.pointer (some ⟨L.g, 0, none⟩), .int .u8 0, .int .i64 (i : Int), .int .i64 2] u _ from here_cm (HI.out.on hu OK.out).wir HLN.out i 0 2 (by decide))
                    have ed : ((0 : Nat) : Int) = 0 := rfl
                    rw [ed]
                    clear hd2 hdl ed HIN
                    go_upto_region 34 with fail
                    go_cut [142] from 142 to 151 (fun s wx => Hid (Below U0.heap.size U0 wx) ∧ Hid (Blk wx U0.heap.size 51 #[.int .u8 (cmZ t i 0 1), .int .u8 0, .int .u8 0, .int .u8 0]))
                    case first =>
                      go_region_law (go_simp; go_at_call 46; (with_reducible refine (HH.out _ HBD.out.drew).mono ?_); rintro e w2 ⟨bb, rfl, b2⟩; have hI2 : Blk w2 U0.heap.size 51 #[.int .u8 0, .int .u8 0, .int .u8 0, .int .u8 0] := Blk.on (w := wr.drew) HI0.out b2; have HW2 := Lib.hid (And.intro (HBD.out.drew.trans (b2.mono HBD.out.size)) hI2); have f0 := hI2.frozen 0; have j0 := hI2.cell 0; have jl := hI2.lt; clear b2 hI2; simp only [List.getElem?_toArray, List.getElem?_cons_zero, List.getElem?_cons_succ] at j0)
                      all_goals (go_wp2_with fail; go_meet; exact ⟨Lib.hid (HW2.out.1.trans ((But.one 0 _).low (Nat.le_refl _))), Lib.hid (HW2.out.2.set_ 0 _)⟩)
                    case rest =>
                      obtain ⟨HBE, HI1⟩ := hcut
                      clear HBD HI0 HH
                      go_upto_region 35 with fail
                      go_region_law (go_simp; go_at_call 46; (with_reducible refine (HH2.out _ HBE.out.drew).mono ?_); rintro e w2 ⟨bb, rfl, b2⟩; have hI2 : Blk w2 U0.heap.size 51 #[.int .u8 (cmZ t i 0 1), .int .u8 0, .int .u8 0, .int .u8 0] := Blk.on (w := wc.drew) HI1.out b2; have HW2 := Lib.hid (And.intro (HBE.out.drew.trans (b2.mono HBE.out.size)) hI2); have f0 := hI2.frozen 1; have j0 := hI2.cell 1; have jl := hI2.lt; clear b2 hI2; simp only [List.getElem?_toArray, List.getElem?_cons_zero, List.getElem?_cons_succ] at j0)
                      all_goals
                        go_wp2_with fail
                        go_roundw
                        case rel => exact ⟨0 + 1, by omega, rfl, Lib.hid (HW2.out.1.trans ((But.one 1 _).low (Nat.le_refl _))), Lib.hid (HW2.out.2.set_ 1 _)⟩
                        case measure => simp [intOf]
                  · have HI0 : Hid (Blk wr U0.heap.size 51 #[.int .u8 (cmZ t i 0 1), .int .u8 (cmZ t i 0 2), .int .u8 0, .int .u8 0]) := HIN
                    have HH := Lib.hid (fun (u : World) (hu : Below U0.heap.size U0 u) => show Calls Tryz.prog 46 #[.pointer (some ⟨L.g, 0, none⟩), .int .u8 1, .int .i64 (i : Int), .int .i64 1] u _ from here_cm (HI.out.on hu OK.out).wir HLN.out i 1 1 (by decide))
                    have HH2 := Lib.hid (fun (u : World) (hu : Below U0.heap.size U0 u) => show Calls Tryz.prog 46 #[.pointer (some ⟨L.g, 0, none⟩), .int .u8 1, .int .i64 (i : Int), .int .i64 2] u _ from here_cm (HI.out.on hu OK.out).wir HLN.out i 1 2 (by decide))
                    have ed : ((1 : Nat) : Int) = 1 := rfl
                    rw [ed]
                    clear hd2 hdl ed HIN
                    go_upto_region 34 with fail
                    go_cut [142] from 142 to 151 (fun s wx => Hid (Below U0.heap.size U0 wx) ∧ Hid (Blk wx U0.heap.size 51 #[.int .u8 (cmZ t i 0 1), .int .u8 (cmZ t i 0 2), .int .u8 (cmZ t i 1 1), .int .u8 0]))
                    case first =>
                      go_region_law (go_simp; go_at_call 46; (with_reducible refine (HH.out _ HBD.out.drew).mono ?_); rintro e w2 ⟨bb, rfl, b2⟩; have hI2 : Blk w2 U0.heap.size 51 #[.int .u8 (cmZ t i 0 1), .int .u8 (cmZ t i 0 2), .int .u8 0, .int .u8 0] := Blk.on (w := wr.drew) HI0.out b2; have HW2 := Lib.hid (And.intro (HBD.out.drew.trans (b2.mono HBD.out.size)) hI2); have f0 := hI2.frozen 2; have j0 := hI2.cell 2; have jl := hI2.lt; clear b2 hI2; simp only [List.getElem?_toArray, List.getElem?_cons_zero, List.getElem?_cons_succ] at j0)
                      all_goals (go_wp2_with fail; go_meet; exact ⟨Lib.hid (HW2.out.1.trans ((But.one 2 _).low (Nat.le_refl _))), Lib.hid (HW2.out.2.set_ 2 _)⟩)
                    case rest =>
                      obtain ⟨HBE, HI1⟩ := hcut
                      clear HBD HI0 HH
                      go_upto_region 35 with fail
                      go_region_law (go_simp; go_at_call 46; (with_reducible refine (HH2.out _ HBE.out.drew).mono ?_); rintro e w2 ⟨bb, rfl, b2⟩; have hI2 : Blk w2 U0.heap.size 51 #[.int .u8 (cmZ t i 0 1), .int .u8 (cmZ t i 0 2), .int .u8 (cmZ t i 1 1), .int .u8 0] := Blk.on (w := wc.drew) HI1.out b2; have HW2 := Lib.hid (And.intro (HBE.out.drew.trans (b2.mono HBE.out.size)) hI2); have f0 := hI2.frozen 3; have j0 := hI2.cell 3; have jl := hI2.lt; clear b2 hI2; simp only [List.getElem?_toArray, List.getElem?_cons_zero, List.getElem?_cons_succ] at j0)
                      all_goals
                        go_wp2_with fail
                        go_roundw
                        case rel => exact ⟨1 + 1, by omega, rfl, Lib.hid (HW2.out.1.trans ((But.one 3 _).low (Nat.le_refl _))), Lib.hid (HW2.out.2.set_ 3 _)⟩
                        case measure => simp [intOf]
                · obtain rfl : d = 2 := by omega
                  clear hd2 hdl
                  rw [show ((2 : Nat) : Int) = 2 from rfl]
                  have hI : Blk wr U0.heap.size 51 #[.int .u8 (cmZ t i 0 1), .int .u8 (cmZ t i 0 2), .int .u8 (cmZ t i 1 1), .int .u8 (cmZ t i 1 2)] := HIN.out
                  have HRT := Lib.hid (HI.out.on HBD.out OK.out)
                  obtain ⟨cb, cbl⟩ : wr.cell? ⟨bl, i, none⟩ = some (.pointer (some ⟨f i, 0, none⟩)) ∧ bl < wr.heap.size := HRT.out.lst OK.out HIL.out
                  have hix := fun W => idxFlp bl cL HIL.out W
                  have HTK := Lib.hid (fun (u : World) (hu : Below wr.heap.size wr u) => node_tick HIL.out (RingV.flowAt (HRT.out.on hu OK.out) HIL.out) (fun h2 => (HRT.out.on hu OK.out).say OK.out h2) (cmZ t i 0 1) (cmZ t i 0 2) (cmZ t i 1 1) (cmZ t i 1 2) (fun h2 ho => ⟨cm_in (by have := HIL.out; omega) (.inl rfl) (.inl rfl) ho, cm_in (by have := HIL.out; omega) (.inl rfl) (.inr rfl) ho⟩) (fun h2 ho => ⟨cm_in (by have := HIL.out; omega) (.inr rfl) (.inl rfl) ho, cm_in (by have := HIL.out; omega) (.inr rfl) (.inr rfl) ho⟩))
                  have HFI := Lib.hid (show f i < S0 + 1 from RingV.fi_lt OK.out HIL.out HRT.out)
                  have HSZ := Lib.hid (show S0 + 1 ≤ wr.heap.size from HRT.out.big)
                  obtain ⟨z1, e1⟩ : ∃ z, z = cmZ t i 0 1 := ⟨_, rfl⟩
                  obtain ⟨z2, e2⟩ : ∃ z, z = cmZ t i 0 2 := ⟨_, rfl⟩
                  obtain ⟨z3, e3⟩ : ∃ z, z = cmZ t i 1 1 := ⟨_, rfl⟩
                  obtain ⟨z4, e4⟩ : ∃ z, z = cmZ t i 1 2 := ⟨_, rfl⟩
                  rw [← e1, ← e2, ← e3, ← e4] at hI HTK
                  clear e1 e2 e3 e4
                  have k0 := (hI.cell 0).trans (show _ = some (Value.int .u8 z1) from rfl)
                  have k1 := (hI.cell 1).trans (show _ = some (Value.int .u8 z2) from rfl)
                  have k2 := (hI.cell 2).trans (show _ = some (Value.int .u8 z3) from rfl)
                  have k3 := (hI.cell 3).trans (show _ = some (Value.int .u8 z4) from rfl)
                  have kl := hI.lt
                  clear hI HIN
                  obtain ⟨o0, eo0⟩ : ∃ z, z = Zv (plc 0 i) t := ⟨_, rfl⟩
                  obtain ⟨o1, eo1⟩ : ∃ z, z = Zv (plc 1 i) t := ⟨_, rfl⟩
                  rw [← eo0, ← eo1] at HTK
                  have HEO := Lib.hid (show #[Value.int .u8 o0, Value.int .u8 o1] = outZ t i by rw [eo0, eo1]; rfl)
                  clear eo0 eo1
                  go_upto_region 36 with fail
                  go_cut [24] from 162 to 168 (fun s24 wx => ∃ gO : Nat, s24 = .pointer (some ⟨gO, 0, none⟩) ∧ S0 + 1 ≤ gO ∧ Hid (Blk wx gO 48 (outZ t i)) ∧ Hid (RingV (⟨W1, WL, L, f, pv, gP, S0, S0 + 1, gN, gW, bl⟩ : RD) wx t (i + 1) (4 * i) (4 * i) V))
                  case first =>
                    go_region_law (first
                      | (go_simp; go_at_call 10; (with_reducible refine (HTK.out _ (Below.refl _ _).drew).mono ?_); rintro e w3 ⟨rfl, hF, hk⟩; have HT3 := Lib.hid (RingV.ticked HRT.out OK.out HIL.out (Below.refl wr.heap.size wr).drew hk hF); have HS3 := Lib.hid hk.1.size; have HCASE : Hid (1 = 1) := Lib.hid rfl; clear hF hk)
                      | (go_simp; go_at_call 10; (with_reducible refine (HTK.out _ (below_al (Below.refl wr.heap.size wr) (.cells #[.int .u8 0, .int .u8 0] 48)).drew).mono ?_); rintro e w3 ⟨rfl, hF, hk⟩; have hB3 := hk.blk (show Blk _ wr.heap.size 48 #[.int .u8 0, .int .u8 0] from Blk.new wr _ _) (by have := HFI.out; have := HSZ.out; show wr.heap.size ≠ f i; omega); have HT3 := Lib.hid (RingV.ticked HRT.out OK.out HIL.out (below_al (Below.refl wr.heap.size wr) _).drew hk hF); have HB3 := Lib.hid hB3; have g0 := hB3.cell 0; have g1 := hB3.cell 1; have gl := hB3.lt; have gf := hB3.frozen; simp only [List.getElem?_toArray, List.getElem?_cons_zero, List.getElem?_cons_succ] at g0 g1; clear hF hk hB3))
                    all_goals (go_wp2_with fail; go_meet; first
                      | (have := HCASE.out; exact ⟨_, rfl, Nat.le_trans HSZ.out HS3.out, Lib.hid (by rw [← HEO.out]; exact Blk.new w3 _ _), Lib.hid (HT3.out.on (below_al (Below.refl _ _) _) OK.out)⟩)
                      | exact ⟨_, rfl, HSZ.out, Lib.hid (by rw [← HEO.out]; exact (HB3.out.set_ 0 _).set_ 1 _), Lib.hid ((HT3.out.put OK.out HB3.out (by decide) HSZ.out 0 _).put OK.out (HB3.out.set_ 0 _) (by decide) HSZ.out 1 _)⟩)
                  case rest =>
                    obtain ⟨gO, rfl, hgO, HBO, HRO⟩ := hcut
                    clear HRT HTK HFI HSZ HI HBD cb cbl hix k0 k1 k2 k3 kl HEO
                    have HGO := Lib.hid hgO
                    clear hgO
                    go_wp2_with fail
                    go_loopw [25] (fun s25 wr => ∃ (d : Nat) (V : Nat → Value), d ≤ 2 ∧ s25 = .int .u8 (d : Int) ∧ Hid (Blk wr gO 48 (outZ t i)) ∧ Hid (RingV (⟨W1, WL, L, f, pv, gP, S0, S0 + 1, gN, gW, bl⟩ : RD) wr t (i + 1) (4 * i + 2 * d) (4 * i + 2 * d) V)) (fun s25 _ => 2 - (intOf s25).toNat)
                    case atStart => exact ⟨0, V, by omega, rfl, HBO, HRO⟩
                    case round =>
                      clear HBO HRO V
                      obtain ⟨d, V, hd2, rfl, HBO, HRO⟩ := hrel
                      by_cases hdl : d < 2
                      · have hdd : decide ((d : Int) ≤ 1) = true := decide_eq_true (by omega)
                        have hdd' : decide (d ≤ 1) = true := decide_eq_true (by omega)
                        have hwd : IntKind.u8.wrap ((d : Int) + 1) = ((d + 1 : Nat) : Int) := by rw [IntKind.wrap_u8]; omega
                        have HDL := Lib.hid hdl
                        clear hd2 hdl
                        go_wp2_with fail
                        go_loopw [26] (fun s26 wr => ∃ (h : Nat) (V : Nat → Value), h ≤ 2 ∧ s26 = .int .i64 ((h + 1 : Nat) : Int) ∧ Hid (Blk wr gO 48 (outZ t i)) ∧ Hid (RingV (⟨W1, WL, L, f, pv, gP, S0, S0 + 1, gN, gW, bl⟩ : RD) wr t (i + 1) (4 * i + 2 * d + h) (4 * i + 2 * d + h) V)) (fun s26 _ => 3 - (intOf s26).toNat)
                        case atStart => exact ⟨0, V, by omega, rfl, HBO, HRO⟩
                        case round =>
                          clear HBO HRO V
                          obtain ⟨h, V, hh2, rfl, HBO, HRO⟩ := hrel
                          by_cases hhl : h < 2
                          · have hhh : decide (((h + 1 : Nat) : Int) ≤ 2) = true := decide_eq_true (by omega)
                            have hhh' : decide (h + 1 ≤ 2) = true := decide_eq_true (by omega)
                            have hwh : IntKind.i64.wrap (((h + 1 : Nat) : Int) + 1) = ((h + 1 + 1 : Nat) : Int) := by rw [IntWalk.i64_in _ (by omega)]; omega
                            obtain ⟨K, hK⟩ : ∃ K, K = 4 * i + 2 * d + h := ⟨_, rfl⟩
                            have hKK : linkM 4 (d : Int) (i : Int) ((h + 1 : Nat) : Int) = (K : Int) := by
                              rw [link_of (by have := HIL.out; have := HDL.out; omega) (by omega)]
                              omega
                            have HK16 := Lib.hid (show K < 16 ∧ K / 2 % 2 = d ∧ K / 4 = i by have := HIL.out; have := HDL.out; omega)
                            have HLK := Lib.hid (fun u => link_any 4 (d : Int) (i : Int) ((h + 1 : Nat) : Int) u (by omega) (by have := HDL.out; omega))
                            rw [hKK] at HLK
                            rw [← hK] at HRO
                            have HKE := Lib.hid (And.intro hK hhl)
                            have HR1 : Hid (RingV (⟨W1, WL, L, f, pv, gP, S0, S0 + 1, gN, gW, bl⟩ : RD) wr t (i + 1) K K V) := HRO
                            obtain ⟨c0, c3, cl⟩ : wr.cell? ⟨gN, 0, none⟩ = some (.int .i64 4) ∧ wr.cell? ⟨gN, 3, none⟩ = some (.int .i64 120) ∧ gN < wr.heap.size := HR1.out.net OK.out
                            have hk0 : decide ((K : Int) < 0) = false := decide_eq_false (by omega)
                            obtain ⟨h1, eh1⟩ : ∃ x, x = h + 1 := ⟨_, rfl⟩
                            rw [← eh1] at hhh hhh' hwh HLK ⊢
                            have HH1 := Lib.hid eh1
                            clear hh2 hhl eh1 hK hKK HRO
                            go_upto_region 46 with (go_at_call 47; (with_reducible refine (HLK.out _).mono ?_); rintro e w1 ⟨rfl, b1⟩)
                            have HR2 := Lib.hid (HR1.out.on b1 OK.out)
                            have HB2 := Lib.hid (HBO.out.on b1)
                            clear b1 c0 c3 cl HLK HR1 HBO hdd hdd' hdi hdi' hd hd'
                            obtain ⟨z, hz⟩ : ∃ z, z = Zv (plc d i) t := ⟨_, rfl⟩
                            have HZE := Lib.hid hz
                            clear hz
                            refine wp_at (fun U => Hid (RingV (⟨W1, WL, L, f, pv, gP, S0, S0 + 1, gN, gW, bl⟩ : RD) U t (i + 1) K K V) ∧ Hid (Blk U gO 48 (outZ t i))) ⟨HR2, HB2⟩ ?_
                            clear HR2 HB2 w1
                            rintro w1 ⟨HR2, HB2⟩
                            obtain ⟨A, cA, xs, eV, hown⟩ := HR2.out.rows.row K HK16.out.1
                            rw [if_neg (Nat.lt_irrefl K)] at eV hown
                            have HD := Lib.hid (show Below w1.heap.size w1 (w1.drew.alloc (.cells #[.int .u8 z] 47)) from below_al (Below.refl _ _).drew _)
                            obtain ⟨A', c', E2, hrun, hr, hg, ho⟩ := row_grows (owns_kept hown (KeptBut.below HD.out []) (by simp)) (show Blk (w1.drew.alloc (.cells #[.int .u8 z] 47)) w1.heap.size 47 #[.int .u8 z] from Blk.new w1.drew _ _) (by have := HLT.out; omega) (Nat.le_trans HR2.out.big HD.out.size)
                            have hg' : (w1.drew.alloc (.cells #[.int .u8 z] 47)).grownBy E2 (V K).ownBlock := by rw [eV]; exact hg
                            have ho' : (Value.slice A' (t + 1) c').ownBlock = (V K).ownBlock ∨ (Value.slice A' (t + 1) c').ownBlock = some (w1.drew.alloc (.cells #[.int .u8 z] 47)).heap.size := by rw [eV]; exact ho
                            have hhd := RingV.headAt HR2.out OK.out HK16.out.1 HD.out hg'
                            have HQ2 := Lib.hid (show E2.cell? ⟨S0, K, none⟩ = some (.slice A t cA) ∧ E2.frozen? ⟨S0, K, none⟩ = false ∧ S0 < E2.heap.size from ⟨((hhd.cell K).trans (range_cell V HK16.out.1)).trans (by rw [eV]), hhd.frozen K, hhd.lt⟩)
                            obtain ⟨V1, hV1⟩ := RingV.push HR2.out OK.out HK16.out.1 HD.out (.slice A' (t + 1) c') rfl hr hg' ho'
                            have HR3 : Hid (RingV (⟨W1, WL, L, f, pv, gP, S0, S0 + 1, gN, gW, bl⟩ : RD) (E2.setCell ⟨S0, K, none⟩ (.slice A' (t + 1) c')) t (i + 1) K (K + 1) V1) := Lib.hid hV1
                            have HB3 : Hid (Blk (E2.setCell ⟨S0, K, none⟩ (.slice A' (t + 1) c')) gO 48 (outZ t i)) := Lib.hid (RingV.kept HR2.out OK.out HK16.out.1 HD.out hg' HB2.out (by decide) HGO.out (.slice A' (t + 1) c'))
                            have hb2 : Blk E2 gO 48 (outZ t i) := grown_blk (owns_kept hown (KeptBut.below HD.out []) (by simp)) hg (HB2.out.on HD.out) (by decide)
                            have HRUN := Lib.hid hrun
                            have hs0 : w1.cell? ⟨S0, K, none⟩ = some (.slice A t cA) := ((HR2.out.head.cell K).trans (range_cell V HK16.out.1)).trans (by rw [eV])
                            have HS01 := Lib.hid (fun (u : World) (hu : u = w1.drew ∨ u = (w1.drew.alloc (.cells #[.int .u8 z] 47))) => show u.cell? ⟨S0, K, none⟩ = some (.slice A t cA) ∧ S0 < u.heap.size from by
                              have hsl : S0 < w1.heap.size := HR2.out.head.lt
                              rcases hu with rfl | rfl
                              · exact ⟨hs0, hsl⟩
                              · exact ⟨below_cell HD.out hs0, Nat.lt_of_lt_of_le hsl HD.out.size⟩)
                            have HOV := Lib.hid (fun (u : World) (hu : u = w1.drew ∨ u = (w1.drew.alloc (.cells #[.int .u8 z] 47)) ∨ u = E2 ∨ u = (E2.setCell ⟨S0, K, none⟩ (.slice A' (t + 1) c'))) => show u.cell? ⟨gO, d, none⟩ = some (.int .u8 z) ∧ gO < u.heap.size from by
                              have hb : Blk u gO 48 (outZ t i) := by
                                rcases hu with rfl | rfl | rfl | rfl
                                · exact HB2.out
                                · exact HB2.out.on HD.out
                                · exact hb2
                                · exact HB3.out
                              exact ⟨by rw [HZE.out]; exact outZ_at hb HDL.out, hb.lt⟩)
                            have ix1 := fun W => idxRow S0 HK16.out.1 W
                            have ix2 := fun W => idxOut (g := gO) HDL.out W
                            clear eV hown hrun hr hg ho hg' ho' hhd hV1 hb2 hs0 HR2 HB2 HD
                            refine Reg.wp_marks7 ?fr (fun t => decide (188 ≤ t) && decide (t ≤ 199)) (fun x => ?hf) [5, 9, 10, 12] (MM46 w1.drew (w1.drew.alloc (.cells #[.int .u8 z] 47)) E2 (E2.setCell ⟨S0, K, none⟩ (.slice A' (t + 1) c'))) mm_cong mm_0 (by kernel_rfl) (by kernel_rfl) (by kernel_rfl) (by kernel_rfl) (fun zz => Reg.tblM [
                              (188, fun v => v = .slice (some ⟨S0, 0, none⟩) 16 16),
                              (189, fun v => v = .int .i64 (K : Int)),
                              (190, fun v => v = .slice (some ⟨S0, 0, none⟩) 16 16),
                              (191, fun v => v = .int .i64 (K : Int)),
                              (192, fun v => v = .pointer (some ⟨S0, K, none⟩)),
                              (193, fun v => v = .slice A t cA),
                              (194, fun v => v = .int .u8 (d : Int)),
                              (195, fun v => v = .pointer (some ⟨gO, d, none⟩)),
                              (196, fun v => v = .int .u8 z),
                              (197, fun v => v = .slice (some ⟨w1.heap.size, 0, none⟩) 1 1),
                              (198, fun v => v = .slice A' (t + 1) c'),
                              (199, fun v => v = .pointer (some ⟨S0, K, none⟩))] zz) ?hs ?he
                            case hf =>
                              simp only [Reg.frame, Reg.over, Nat.reduceAdd, Nat.reduceLeDiff, decide_true, decide_false, if_true, Bool.false_eq_true, if_false, Bool.and_true, Bool.and_false]
                              exact rfl
                            case hs =>
                              refine ⟨?_, ?_, ?_, ?_, ?_, ?_, ?_, ?_, ?_, ?_, ?_, ?_, ?_, trivial⟩
                              · intro x f u hM hfi hfd hd
                                refine wpOp_step rfl fun KK hK => ?_
                                go_simp
                                exact hK _ _ ⟨_, rfl, fun h => absurd h (by decide), fun _ => rfl, fun d hd => by cases hd; exact rfl⟩
                              · intro x f u hM hfi hfd hd
                                refine wpOp_step rfl fun KK hK => ?_
                                go_simp
                                exact hK _ _ ⟨_, rfl, fun h => absurd h (by decide), fun _ => rfl, fun d hd => by cases hd; exact rfl⟩
                              · intro x f u hM hfi hfd hd
                                refine wpOp_step rfl fun KK hK => ?_
                                go_simp
                                exact hK _ _ ⟨_, rfl, fun h => absurd h (by decide), fun _ => rfl, fun d hd => by cases hd; exact rfl⟩
                              · intro x f u hM hfi hfd hd
                                refine wpOp_step rfl fun KK hK => ?_
                                go_simp
                                exact hK _ _ ⟨_, rfl, fun h => absurd h (by decide), fun _ => rfl, fun d hd => by cases hd; exact rfl⟩
                              · intro x f u hM hfi hfd hd
                                have h190 : x 190 = .slice (some ⟨S0, 0, none⟩) 16 16 := hd 2 (by decide)
                                have h191 : x 191 = .int .i64 (K : Int) := hd 3 (by decide)
                                refine wpOp_step rfl fun KK hK => ?_
                                simp only [h190, h191] at hK ⊢
                                go_simp
                                exact hK _ _ ⟨_, rfl, fun h => absurd h (by decide), fun _ => rfl, fun d hd => by cases hd; exact rfl⟩
                              · intro x f u hM hfi hfd hd
                                have h192 : x 192 = .pointer (some ⟨S0, K, none⟩) := hd 4 (by decide)
                                have hu := mm_5 hM (hfi (by decide))
                                obtain ⟨s0, sl⟩ := HS01.out u hu.1
                                refine wpOp_step rfl fun KK hK => ?_
                                simp only [h192] at hK ⊢
                                go_simp
                                have hM' := hu.2
                                exact hK _ _ ⟨_, rfl, fun _ => hM', fun h => absurd (by decide) h, fun d hd => by cases hd; exact rfl⟩
                              · intro x f u hM hfi hfd hd
                                refine wpOp_step rfl fun KK hK => ?_
                                go_simp
                                exact hK _ _ ⟨_, rfl, fun h => absurd h (by decide), fun _ => rfl, fun d hd => by cases hd; exact rfl⟩
                              · intro x f u hM hfi hfd hd
                                have h194 : x 194 = .int .u8 (d : Int) := hd 6 (by decide)
                                refine wpOp_step rfl fun KK hK => ?_
                                simp only [h194] at hK ⊢
                                go_simp
                                exact hK _ _ ⟨_, rfl, fun h => absurd h (by decide), fun _ => rfl, fun d hd => by cases hd; exact rfl⟩
                              · intro x f u hM hfi hfd hd
                                have h195 : x 195 = .pointer (some ⟨gO, d, none⟩) := hd 7 (by decide)
                                obtain ⟨ov, ol⟩ := HOV.out u (mm_any hM)
                                refine wpOp_step rfl fun KK hK => ?_
                                simp only [h195] at hK ⊢
                                go_simp
                                exact hK _ _ ⟨_, rfl, fun h => absurd h (by decide), fun _ => rfl, fun d hd => by cases hd; exact rfl⟩
                              · intro x f u hM hfi hfd hd
                                have h196 : x 196 = .int .u8 z := hd 8 (by decide)
                                obtain ⟨hu, hM'⟩ := mm_9 hM (hfi (by decide))
                                subst hu
                                refine wpOp_step rfl fun KK hK => ?_
                                simp only [h196] at hK ⊢
                                go_simp
                                have hM' := hM'
                                exact hK _ _ ⟨_, rfl, fun _ => hM', fun h => absurd (by decide) h, fun d hd => by cases hd; exact rfl⟩
                              · intro x f u hM hfi hfd hd
                                have h193 : x 193 = .slice A t cA := hd 5 (by decide)
                                have h197 : x 197 = .slice (some ⟨w1.heap.size, 0, none⟩) 1 1 := hd 9 (by decide)
                                obtain ⟨hu, hM'⟩ := mm_10 hM (hfi (by decide)) (hfd 5 (by decide)) (hfd 9 (by decide))
                                subst hu
                                refine wpOp_step rfl fun KK hK => ?_
                                refine step_append_run (by rfl) (.tmp 193) (.tmp 197) 126 126 (by rfl) (by rfl) _ _ _ E2 (by exact h193) (by exact h197) HRUN.out ?_
                                exact hK _ _ ⟨_, rfl, fun _ => hM', fun h => absurd (by decide) h, fun d hd => by cases hd; exact rfl⟩
                              · intro x f u hM hfi hfd hd
                                have h188 : x 188 = .slice (some ⟨S0, 0, none⟩) 16 16 := hd 0 (by decide)
                                have h189 : x 189 = .int .i64 (K : Int) := hd 1 (by decide)
                                refine wpOp_step rfl fun KK hK => ?_
                                simp only [h188, h189] at hK ⊢
                                go_simp
                                exact hK _ _ ⟨_, rfl, fun h => absurd h (by decide), fun _ => rfl, fun d hd => by cases hd; exact rfl⟩
                              · intro x f u hM hfi hfd hd
                                have h199 : x 199 = .pointer (some ⟨S0, K, none⟩) := hd 11 (by decide)
                                have h198 : x 198 = .slice A' (t + 1) c' := hd 10 (by decide)
                                obtain ⟨hu, hM'⟩ := mm_12 hM (hfi (by decide)) (hfd 10 (by decide))
                                subst hu
                                obtain ⟨q1, q2, ql⟩ := HQ2.out
                                refine wpOp_step rfl fun KK hK => ?_
                                simp only [h199, h198] at hK ⊢
                                go_simp
                                have hM' := hM'
                                exact hK _ _ ⟨.int .i64 0, rfl, fun _ => hM', fun h => absurd (by decide) h, fun d hd => by cases hd⟩
                            case he =>
                              intro y u2 hM hall
                              obtain rfl := mm_end hM
                              clear hM hall HS01 HOV HQ2 HRUN
                              go_upto_region 47 with fail
                              refine wp_at (fun U => Hid (RingV (⟨W1, WL, L, f, pv, gP, S0, S0 + 1, gN, gW, bl⟩ : RD) U t (i + 1) K (K + 1) V1) ∧ Hid (Blk U gO 48 (outZ t i))) ⟨HR3, HB3⟩ ?_
                              clear HR3 HB3
                              rintro wc ⟨HR3, HB3⟩
                              have ov : wc.cell? ⟨gO, d, none⟩ = some (.int .u8 z) := by rw [HZE.out]; exact outZ_at HB3.out HDL.out
                              have ol := HB3.out.lt
                              obtain ⟨x0, x1, xl⟩ : wc.cell? ⟨gW, 0, none⟩ = some (.int .i64 (-1)) ∧ wc.cell? ⟨gW, 1, none⟩ = some (.int .i64 (-1)) ∧ gW < wc.heap.size := HR3.out.wrong OK.out
                              have n1 : ((i : Int) == -1) = false := by rw [beq_eq_false_iff_ne]; omega
                              have n2 : ((K : Int) == -1) = false := by rw [beq_eq_false_iff_ne]; omega
                              have n3 : decide ((i : Int) = -1) = false := decide_eq_false (by omega)
                              have n4 : decide ((K : Int) = -1) = false := decide_eq_false (by omega)
                              have HGV := Lib.hid (hGive HR3.out.wir HLN.out (K : Int) (by have := HK16.out; omega) z 0 (err_in (by have := HK16.out; omega)) (GP t (K + 1)) (by have e := GP_give (t := t) HK16.out.1; rw [HK16.out.2.1, HK16.out.2.2] at e; rw [HZE.out]; exact e))
                              go_wp2_with (go_at_call 49; (with_reducible refine HGV.out.mono ?_); rintro e w5 ⟨rfl, hH, hsp⟩; have HR5 := Lib.hid (RingV.give HR3.out OK.out hsp hH); have HB5 := Lib.hid (hsp.blk HB3.out (.inr (show L.b1 ≤ gO by have := HGO.out; have q : L.b1 ≤ S0 := OK.out.s; omega))); clear hH hsp)
                              go_roundw
                              case rel => exact ⟨h + 1, V1, by have := HKE.out; omega, by rw [HH1.out]; exact congrArg (Value.int .i64) (by omega), HB5, by have e : K + 1 = 4 * i + 2 * d + (h + 1) := (by have := HKE.out.1; omega); rw [e] at HR5; exact HR5⟩
                              case measure => have := HKE.out; have := HH1.out; simp [intOf]; omega
                          · have hhh : decide (((h + 1 : Nat) : Int) ≤ 2) = false := decide_eq_false (by omega)
                            have hhh' : decide (h + 1 ≤ 2) = false := decide_eq_false (by omega)
                            have HHE := Lib.hid (show h = 2 by omega)
                            obtain ⟨h1, eh1⟩ : ∃ x, x = h + 1 := ⟨_, rfl⟩
                            rw [← eh1] at hhh hhh' ⊢
                            clear hh2 hhl eh1
                            go_wp2_with fail
                            go_roundw
                            case rel => exact ⟨d + 1, V, by have := HDL.out; omega, rfl, HBO, by have e := HHE.out; rw [e] at HRO; exact HRO⟩
                            case measure => have := HDL.out; simp [intOf]; omega
                      · have hdd : decide ((d : Int) ≤ 1) = false := decide_eq_false (by omega)
                        have hdd' : decide (d ≤ 1) = false := decide_eq_false (by omega)
                        obtain rfl : d = 2 := by omega
                        clear hd2 hdl
                        go_wp2_with fail
                        go_roundw
                        case rel => exact ⟨i + 1, V, by have := HIL.out; omega, rfl, HRO⟩
                        case measure => have := HIL.out; simp [intOf]; omega
            · have hdi : decide ((i : Int) < 4) = false := decide_eq_false (by omega)
              have hdi' : decide (i < 4) = false := decide_eq_false hil
              obtain rfl : i = 4 := by omega
              have HE := Lib.hid (hEnd HI.out.wir (by have := HLT.out; omega) ((t : Int) + 1) rfl (HZ (t + 1)) (XZ (t + 1)) (now_Z t) (next_Z t))
              clear hil hi
              go_wp2_with (go_at_call 50; (with_reducible refine HE.out.mono ?_); rintro e u1 ⟨rfl, hH, hsp⟩; have HDN := Lib.hid (RingV.done HI.out OK.out hsp hH); clear hH hsp)
              go_roundw
              case rel => exact ⟨t + 1, V, by have := HLT.out; omega, rfl, HDN⟩
              case measure => have := HLT.out; simp [intOf]; omega
        · have hd : decide ((t : Int) < 120) = false := decide_eq_false (by omega)
          have hd' : decide (t < 120) = false := decide_eq_false hlt
          obtain rfl : t = 120 := by omega
          clear hlt ht
          go_wp2_with fail
          go_ret
          exact ⟨bl, cL, f, pv, gP, rfl, below_then HBW.out HR.out.low, fun j hj => ⟨(HR.out.lst OK.out hj).1, by have := HR.out.flow j hj; rw [if_neg (by omega)] at this; exact this⟩, fun j hj => HR.out.say OK.out hj⟩
end Go.Proofs.YtkejpkcaojidaaaGreatDoor

namespace Go.Proofs.YtkejpkcaojidaaaGreatDoor
set_option linter.unusedVariables false
set_option linter.unusedSimpArgs false
open Go.RowKit Rg
set_option linter.unusedVariables false

section
variable {w : World} {f B : Nat} {pv : Nat → Option Addr}
theorem fst_on {w' : World} {j t : Nat} (h : FSt w f B pv j t) (hb : Below w.heap.size w w') : FSt w' f B pv j t := FlowN.on h hb
theorem stO_each (j t : Nat) : (stO j t).each = catS sy sy 0 (cnt (plc 0 j) t) ++ catS sy sy 0 (cnt (plc 1 j) t) := rfl
theorem stO_ok (j t : Nat) : (stO j t).Ok := ⟨catC_of _ _ _ _, catC_of _ _ _ _⟩
theorem end_hiC (p : Nat) (hp : p = 2 ∨ p = 3) : HiC (catS sy sy 0 (cnt p 120)) exF true := by
  have h := hiC_cat sy sy 0 (cnt p 120)
  obtain ⟨e1, e2, e3, e4⟩ := end_high
  rcases hp with rfl | rfl
  · rwa [e1, e2] at h
  · rwa [e3, e4] at h
theorem node2_heard (h : FSt w f B pv 2 120) : Calls Tryz.prog 13 #[.pointer (some ⟨f, 0, none⟩)] w fun e w' => e = .returned (.tuple #[.agg #[.int .u8 2, .int .u8 0, .int .u32 3, .int .u32 5], .bool true]) ∧ Below w.heap.size w w' :=
  fHeard_of (stO 2 120) (stO_ok _ _) _ _ (stO_each _ _) (catC_of _ _ _ _) (catC_of _ _ _ _) exF exF true true (end_hiC 2 (.inl rfl)) (end_hiC 3 (.inr rfl)) _ w (FlowN.now h) exF rfl true rfl
theorem node2_high (h : FSt w f B pv 2 120) : Calls Tryz.prog 17 #[.pointer (some ⟨f, 0, none⟩)] w fun e w' => e = .returned (.agg #[.bool true, .bool true]) ∧ Below w.heap.size w w' :=
  fHigh_of (stO 2 120) (stO_ok _ _) _ _ (stO_each _ _) (catC_of _ _ _ _) (catC_of _ _ _ _) exF exF true true (end_hiC 2 (.inl rfl)) (end_hiC 3 (.inr rfl)) _ w (FlowN.now h)
theorem node0_heard (h : FSt w f B pv 0 120) : Calls Tryz.prog 13 #[.pointer (some ⟨f, 0, none⟩)] w fun e w' => e = .returned (.tuple #[.agg #[.int .u8 0, .int .u8 0, .int .u32 0, .int .u32 0], .bool false]) ∧ Below w.heap.size w w' :=
  fHeard_of (.half (pv 0)) trivial catN catN rfl catC_none catC_none Fr.zero Fr.zero false false hiC_none hiC_none _ w (FlowN.now h) Fr.zero rfl false rfl
theorem node1_sent (h : FSt w f B pv 1 120) (hs : Says true exF w (.pointer (pv 1))) : Calls Tryz.prog 15 #[.pointer (some ⟨f, 0, none⟩)] w fun e w' => e = .returned (.tuple #[.agg #[.int .u8 2, .int .u8 0, .int .u32 3, .int .u32 5], .bool true]) ∧ Below w.heap.size w w' :=
  fSent_is (.half (pv 1)) trivial (by simp [PSt.each, catN_len]) (fun v hv => by rcases List.mem_append.1 hv with q | q <;> exact catN_one v q) _ w (FlowN.now h) exF true fun u hu => sends_says true exF _ u (hs.on hu)
end
theorem pay_self (k s q v : Int) (w : World) : (binOp .eql 40 (.agg #[.int .u8 k, .int .u8 s, .int .u32 q, .int .u32 v]) (.agg #[.int .u8 k, .int .u8 s, .int .u32 q, .int .u32 v])).run Tryz.prog w = .ok (.bool true) w := by
  go_simp
theorem two_self (w : World) : (binOp .eql 57 (.agg #[.bool true, .bool true]) (.agg #[.bool true, .bool true])).run Tryz.prog w = .ok (.bool true) w := by kernel_rfl
theorem nil_flows (A : Addr) (n c : Nat) (w : World) : (binOp .eql 64 (.slice (some A) n c) (.slice none 0 0)).run Tryz.prog w = .ok (.bool false) w := by kernel_rfl
theorem Blk.pay4 {w : World} {g : Nat} {k s q v : Int} (h : Blk w g 40 #[.int .u8 k, .int .u8 s, .int .u32 q, .int .u32 v]) : w.cell? ⟨g, 0, none⟩ = some (.int .u8 k) ∧ w.cell? ⟨g, 1, none⟩ = some (.int .u8 s) ∧ w.cell? ⟨g, 2, none⟩ = some (.int .u32 q) ∧ w.cell? ⟨g, 3, none⟩ = some (.int .u32 v) ∧ g < w.heap.size :=
  ⟨(h.cell 0).trans rfl, (h.cell 1).trans rfl, (h.cell 2).trans rfl, (h.cell 3).trans rfl, h.lt⟩
set_option maxRecDepth 100000 in
set_option maxHeartbeats 4000000 in
theorem lives_fl (w : World) (hw : Laid2 w) :
    Calls Tryz.prog 5 #[] w fun e w' => e = .returned (.bool true) ∧ Below w.heap.size w w' := by
  have HB0 := Lib.hid (below_al (Below.refl w.heap.size w) (.cells #[.int .u8 2, .int .u8 0, .int .u32 3, .int .u32 5] 40))
  have HW0 := Lib.hid (hw.on HB0.out)
  obtain ⟨W0, hW0⟩ : ∃ u, u = w.alloc (.cells #[.int .u8 2, .int .u8 0, .int .u32 3, .int .u32 5] 40) := ⟨_, rfl⟩
  have HP0 : Hid (Blk W0 w.heap.size 40 #[.int .u8 2, .int .u8 0, .int .u32 3, .int .u32 5]) := Lib.hid (by rw [hW0]; exact Blk.new w _ _)
  rw [← hW0] at HB0 HW0
  have HE := Lib.hid hW0
  have HNT := Lib.hid (fun (u : World) (hu : Below W0.heap.size W0 u) => net12_is u (HW0.out.on hu))
  have HRG := Lib.hid (fun (gN : Nat) (u : World) (hN : NetP u (.pointer (some ⟨gN, 0, none⟩)) 4 [0, 2]) (hc : u.cell? ⟨gN, 0, none⟩ = some (.int .i64 4) ∧ u.cell? ⟨gN, 3, none⟩ = some (.int .i64 120)) (hl : Laid2 u) => show Calls Tryz.prog 22 #[.pointer (some ⟨gN, 0, none⟩), .int .i64 0, .agg #[.int .u8 2, .int .u8 0, .int .u32 3, .int .u32 5, .int .u8 2, .int .u8 0, .int .u32 3, .int .u32 5], .agg #[.int .i64 (-1), .int .i64 (-1), .slice none 0 0]] u _ from ring_is gN u hN hc hl)
  have qp := fun W => pay_self 2 0 3 5 W
  have qb := two_self
  clear hw
  go_enter Tryz.func5, Tryz.ntmps5
  go_upto_region 2 with fail
  rw [← hW0]
  clear hW0
  obtain ⟨c0, c1, c2, c3, cl⟩ := HP0.out.pay4
  obtain ⟨gv, hgv⟩ : ∃ g, g = w.heap.size := ⟨_, rfl⟩
  rw [← hgv] at HP0 c0 c1 c2 c3 cl ⊢
  have HGV := Lib.hid hgv
  clear hgv
  go_cut [2] from 10 to 15 (fun s2 wx => ∃ (bl c : Nat) (f : Nat → Nat) (pv : Nat → Option Addr) (B : Nat), s2 = .slice (some ⟨bl, 0, none⟩) 4 c ∧ Hid (Below W0.heap.size W0 wx) ∧ Hid ((∀ j, j < 4 → wx.cell? ⟨bl, j, none⟩ = some (.pointer (some ⟨f j, 0, none⟩)) ∧ FSt wx (f j) B pv j 120) ∧ ∀ j, j < 2 → Says (decide (j = 1)) exF wx (.pointer (pv j))))
  case first =>
    go_region_law (first
      | (go_simp; go_at_call 23; (with_reducible refine (HNT.out _ (Below.refl _ _).drew).mono ?_); rintro e w2 ⟨gN, rfl, hN, hc, b2⟩; have HB2 := Lib.hid (show Below W0.heap.size W0 w2 from (Below.refl W0.heap.size W0).drew.trans b2); have HN2 := Lib.hid (And.intro hN hc); obtain ⟨d0, d1, d2, d3, dl⟩ := (HP0.out.on HB2.out).pay4; clear b2 hN hc)
      | (go_simp; go_at_call 22; (with_reducible refine (HRG.out _ _ HN2.out.1 HN2.out.2 (HW0.out.on HB2.out)).mono ?_); rintro e w3 ⟨bl, c, f, pv, B, rfl, b3, h1, h2⟩; have HB3 := Lib.hid (below_then HB2.out b3); have HF3 := Lib.hid (And.intro h1 h2); clear b3 h1 h2))
    all_goals (go_wp2_with fail; go_meet; exact ⟨_, _, _, _, _, rfl, HB3, HF3⟩)
  case rest =>
    obtain ⟨bl, c, f, pv, B, rfl, HB3, HF3⟩ := hcut
    have qn := fun W => nil_flows ⟨bl, 0, none⟩ 4 c W
    clear c0 c1 c2 c3 cl HNT HRG
    obtain ⟨l0, l0'⟩ := HF3.out.1 0 (by decide)
    obtain ⟨l1, l1'⟩ := HF3.out.1 1 (by decide)
    obtain ⟨l2, l2'⟩ := HF3.out.1 2 (by decide)
    have ll := cell_lt' l2
    have HF0 := Lib.hid l0'
    have HF1 := Lib.hid l1'
    have HF2 := Lib.hid l2'
    have HS1 : Hid (Says true exF wc (.pointer (pv 1))) := Lib.hid (HF3.out.2 1 (by decide))
    clear l0' l1' l2' HF3
    go_upto_region 8 with (first
      | (go_at_call 13; (with_reducible refine (node2_heard HF2.out).mono ?_); rintro e w4 ⟨rfl, b4⟩; have HB4 := Lib.hid (below_al b4 (.cells #[.int .u8 2, .int .u8 0, .int .u32 3, .int .u32 5] 40)); have m1 := below_cell HB4.out l1; have m0 := below_cell HB4.out l0; have m2 := below_cell HB4.out l2; have ml := cell_lt' m0; clear b4 l0 l1 l2 ll)
      | (go_at_call 15; (with_reducible refine (node1_sent (fst_on HF1.out HB4.out) (HS1.out.on HB4.out)).mono ?_); rintro e w5 ⟨rfl, b5⟩; have HB5 := Lib.hid (below_al b5 (.cells #[.int .u8 2, .int .u8 0, .int .u32 3, .int .u32 5] 40)); have p0 := below_cell HB5.out m0; have p2 := below_cell HB5.out m2; have pl := cell_lt' p0; clear b5 m0 m1 m2 ml)
      | (go_at_call 13; (with_reducible refine (node0_heard (fst_on (fst_on HF0.out HB4.out) HB5.out)).mono ?_); rintro e w6 ⟨rfl, b6⟩; have HB6 := Lib.hid (below_al b6 (.cells #[.int .u8 0, .int .u8 0, .int .u32 0, .int .u32 0] 40)); have r2 := below_cell HB6.out p2; have rl := cell_lt' r2; clear b6 p0 p2 pl))
    have HB56 := Lib.hid (below_then HB5.out HB6.out)
    have HB46 := Lib.hid (below_then HB4.out HB56.out)
    obtain ⟨v0, v1, v2, v3, vl⟩ := ((HP0.out.on HB3.out).on HB46.out).pay4
    obtain ⟨x0, x1, x2, x3, xl⟩ := ((Blk.new w4 40 #[.int .u8 2, .int .u8 0, .int .u32 3, .int .u32 5]).on HB56.out).pay4
    obtain ⟨y0, y1, y2, y3, yl⟩ := ((Blk.new w5 40 #[.int .u8 2, .int .u8 0, .int .u32 3, .int .u32 5]).on HB6.out).pay4
    have HNH := Lib.hid (fst_on HF2.out HB46.out)
    have HBB := Lib.hid (below_then HB0.out (below_then HB3.out HB46.out))
    clear HB3 HB4 HB5 HB6 HB56 HB46 HF0 HF1 HF2 HS1 HP0
    go_wp2_with (go_at_call 17; (with_reducible refine (node2_high HNH.out).mono ?_); rintro e w7 ⟨rfl, b7⟩; have HB7 := Lib.hid (below_then HBB.out b7); obtain ⟨s0, s1, s2, s3, sl⟩ : w7.cell? _ = _ ∧ w7.cell? _ = _ ∧ w7.cell? _ = _ ∧ w7.cell? _ = _ ∧ _ := ⟨below_cell b7 y0, below_cell b7 y1, below_cell b7 y2, below_cell b7 y3, cell_lt' (below_cell b7 y0)⟩; obtain ⟨u0, u1, u2, u3, ul⟩ : w7.cell? _ = _ ∧ w7.cell? _ = _ ∧ w7.cell? _ = _ ∧ w7.cell? _ = _ ∧ _ := ⟨below_cell b7 v0, below_cell b7 v1, below_cell b7 v2, below_cell b7 v3, cell_lt' (below_cell b7 v0)⟩; clear b7)
    go_ret
    exact ⟨rfl, HB7.out⟩
end Go.Proofs.YtkejpkcaojidaaaGreatDoor

