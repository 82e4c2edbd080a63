/-
  The contracts of the document's answers for windows: Guards, Over. Conditions: a config that may be, and its reading.
-/
import Derived.Test.YtajkpbmjgncbbaaDoorWnR1
import Derived.Test.YtajkpbmjgncbbaaDoorWnOv
namespace Go.Proofs.YtajkpbmjgncbbaaDoor
open Go.RowKit Rg
set_option linter.unusedVariables false

/-- Who was a guard, of the nodes below i. -/
def gsM (g i : Int) : Int := if g < i then g else -1
theorem gs_zero {g : Int} (h : -1 ≤ g) : gsM g 0 = -1 := by unfold gsM; split <;> omega
theorem gs_not {g i : Int} (h : ¬ g = i) : gsM g i = gsM g (i + 1) := by unfold gsM; split <;> split <;> omega
theorem gs_all {g n : Int} (h : g < n) : gsM g n = g := by rw [gsM, if_pos h]
section
variable {w : World} {g h i : Nat} {t : TypeId} {cs : Array Value} {B : Nat} {a : World}
theorem setC (hB : Blk w h t cs) (hg : h ≠ g) (i : Nat) (v : Value) : Blk (w.setCell ⟨g, i, none⟩ v) h t cs := by
  unfold Blk at hB ⊢
  rw [Below.heap_setCell _ _ _ _ hg]
  exact hB
theorem setB (hb : Below B a w) (hg : B ≤ g) (i : Nat) (v : Value) : Below B a (w.setCell ⟨g, i, none⟩ v) := hb.setCell (p := ⟨g, i, none⟩) hg v
end
/-- What of the guards the reference meets. -/
theorem gu_role {N : Int} {P : List Int} {d o i g : Int} (hg : guM N d (atM P o) = g) (hN : 4 ≤ N) (hd : d = 0 ∨ d = 1) (h0 : 0 ≤ i) (h1 : i < N) : g = i ↔ plM N P d o i = 2 := by
  rw [plM, gu_iff hd h0 h1, hg]

set_option maxHeartbeats 4000000 in
set_option maxRecDepth 100000 in
theorem refGuards_is (c : Cf) (o a b : Int) (ha : guM c.N 0 (atM c.P o) = a) (hb : guM c.N 1 (atM c.P o) = b) (w : World) (hc : CfIn w c) (h0 : newE c = 0) :
    Calls Tryd.prog 16 #[.agg #[.int .i64 c.N, .slice c.pA c.pn c.pc, .slice c.sA c.sn c.sc, .int .i64 c.L, .slice c.bA c.bn c.bc, .slice c.tA c.tn c.tc, .int .i64 c.M, .int .i64 c.G, .int .i64 c.F], .int .i64 o] w fun e w' => e = .returned (.tuple #[.int .i64 a, .int .i64 b]) ∧ Below w.heap.size w w' := by
  have hN := (newE_ok.1 h0).nodes
  have hN4 := hN.1
  have hN16 := hN.2
  have H0 := Lib.hid h0
  have HC := Lib.hid hc
  have HAN := Lib.hid (show -1 ≤ a ∧ a < c.N by rw [← ha]; have := gu_in (N := c.N) (d := 0) (f := atM c.P o); omega)
  have HBN := Lib.hid (show -1 ≤ b ∧ b < c.N by rw [← hb]; have := gu_in (N := c.N) (d := 1) (f := atM c.P o); omega)
  have HAG := Lib.hid (show ∀ i, 0 ≤ i → i < c.N → a = i → ofW c.N c.P 0 o i = ⟨2, 2, 3, 117⟩ ∧ ofWE c.N c.P 0 o i = 0 from fun i i0 i1 e => of_yes (by omega) ((gu_role ha hN4 (.inl rfl) i0 i1).1 e) (by omega))
  have HBG := Lib.hid (show ∀ i, 0 ≤ i → i < c.N → b = i → ofW c.N c.P 1 o i = ⟨2, 2, 3, 117⟩ ∧ ofWE c.N c.P 1 o i = 0 from fun i i0 i1 e => of_yes (by omega) ((gu_role hb hN4 (.inr rfl) i0 i1).1 e) (by omega))
  have HAR := Lib.hid (show ∀ i, 0 ≤ i → i < c.N → plM c.N c.P 0 o i = 2 → a = i from fun i i0 i1 e => (gu_role ha hN4 (.inl rfl) i0 i1).2 e)
  have HBR := Lib.hid (show ∀ i, 0 ≤ i → i < c.N → plM c.N c.P 1 o i = 2 → b = i from fun i i0 i1 e => (gu_role hb hN4 (.inr rfl) i0 i1).2 e)
  have hC := (Blk.new w 25 #[.int .i64 c.N, .slice c.pA c.pn c.pc, .slice c.sA c.sn c.sc, .int .i64 c.L, .slice c.bA c.bn c.bc, .slice c.tA c.tn c.tc, .int .i64 c.M, .int .i64 c.G, .int .i64 c.F]).alloc (.cells #[.int .i64 (-1), .int .i64 (-1)] 61)
  have hL : Blk ((w.alloc (.cells #[.int .i64 c.N, .slice c.pA c.pn c.pc, .slice c.sA c.sn c.sc, .int .i64 c.L, .slice c.bA c.bn c.bc, .slice c.tA c.tn c.tc, .int .i64 c.M, .int .i64 c.G, .int .i64 c.F] 25)).alloc (.cells #[.int .i64 (-1), .int .i64 (-1)] 61)) (w.heap.size + 1) 61 #[.int .i64 (-1), .int .i64 (-1)] := by
    have h := Blk.new (w.alloc (.cells #[.int .i64 c.N, .slice c.pA c.pn c.pc, .slice c.sA c.sn c.sc, .int .i64 c.L, .slice c.bA c.bn c.bc, .slice c.tA c.tn c.tc, .int .i64 c.M, .int .i64 c.G, .int .i64 c.F] 25)) 61 #[.int .i64 (-1), .int .i64 (-1)]
    rwa [alloc_size] at h
  have hb1 : Below w.heap.size w ((w.alloc (.cells #[.int .i64 c.N, .slice c.pA c.pn c.pc, .slice c.sA c.sn c.sc, .int .i64 c.L, .slice c.bA c.bn c.bc, .slice c.tA c.tn c.tc, .int .i64 c.M, .int .i64 c.G, .int .i64 c.F] 25)).alloc (.cells #[.int .i64 (-1), .int .i64 (-1)] 61)) := below_al (below_al (Below.refl _ _) _) _
  clear ha hb hc h0 hN
  go_enter Tryd.func16, Tryd.ntmps16
  go_wp2_with fail
  obtain ⟨u0, hu0⟩ : ∃ u0, u0 = ((w.alloc (.cells #[.int .i64 c.N, .slice c.pA c.pn c.pc, .slice c.sA c.sn c.sc, .int .i64 c.L, .slice c.bA c.bn c.bc, .slice c.tA c.tn c.tc, .int .i64 c.M, .int .i64 c.G, .int .i64 c.F] 25)).alloc (.cells #[.int .i64 (-1), .int .i64 (-1)] 61)) := ⟨_, rfl⟩
  rw [← hu0] at hC hL hb1 ⊢
  obtain ⟨gC, hgC⟩ : ∃ gC, gC = w.heap.size := ⟨_, rfl⟩
  have HGL := Lib.hid (show w.heap.size ≤ w.heap.size + 1 by omega)
  have hne : gC ≠ gC + 1 := by omega
  rw [← hgC] at hC hL ⊢
  rw [← hgC] at HGL
  obtain ⟨gL, hgL⟩ : ∃ gL, gL = gC + 1 := ⟨_, rfl⟩
  rw [← hgL] at hL HGL hne ⊢
  rw [hgC] at HGL
  clear hu0 hgC hgL
  go_loopw [7] (fun s7 wr => ∃ d : Int, 0 ≤ d ∧ d ≤ 2 ∧ s7 = .int .u8 d ∧ Blk wr gC 25 #[.int .i64 c.N, .slice c.pA c.pn c.pc, .slice c.sA c.sn c.sc, .int .i64 c.L, .slice c.bA c.bn c.bc, .slice c.tA c.tn c.tc, .int .i64 c.M, .int .i64 c.G, .int .i64 c.F] ∧ Blk wr gL 61 #[.int .i64 (if 0 < d then a else -1), .int .i64 (if 1 < d then b else -1)] ∧ Below w.heap.size w wr) (fun s7 _ => (2 - intOf s7).toNat)
  case atStart => exact ⟨0, by omega, by omega, rfl, hC, hL, hb1⟩
  case round =>
    clear hC hL hb1
    obtain ⟨d, d0, d2, rfl, hC, hL, hb⟩ := hrel
    have key : d = 0 ∨ d = 1 ∨ d = 2 := by omega
    rcases key with rfl | rfl | rfl
    · replace hL : Blk wr gL 61 #[.int .i64 (-1), .int .i64 (-1)] := hL
      go_wp2_with fail
      go_loopw [8] (fun s8 wr => ∃ i x : Int, 0 ≤ i ∧ i ≤ c.N ∧ s8 = .int .i64 i ∧ Hid (x = gsM a i) ∧ Blk wr gC 25 #[.int .i64 c.N, .slice c.pA c.pn c.pc, .slice c.sA c.sn c.sc, .int .i64 c.L, .slice c.bA c.bn c.bc, .slice c.tA c.tn c.tc, .int .i64 c.M, .int .i64 c.G, .int .i64 c.F] ∧ Blk wr gL 61 #[.int .i64 x, .int .i64 (-1)] ∧ Below w.heap.size w wr) (fun s8 _ => (c.N - intOf s8).toNat)
      case atStart => exact ⟨0, -1, by omega, by omega, rfl, Lib.hid (gs_zero HAN.out.1).symm, hC, hL, hb⟩
      case round =>
        clear hC hL hb
        obtain ⟨i, x, i0, i1, rfl, HX, hC, hL, hb⟩ := hrel
        obtain ⟨k0, k1, k2, k3, k4, k5, k6, k7, k8⟩ := hC.cf
        have kl := hC.lt
        by_cases hi : i < c.N
        · have HC1 := Lib.hid (HC.out.on hb)
          by_cases hg : a = i
          · have HW := Lib.hid (HAG.out i i0 hi hg)
            have HX1 := Lib.hid (show i = gsM a (i + 1) by rw [gsM, if_pos (by omega), hg])
            clear hg
            go_wp2_with (go_at_call 11; (with_reducible refine (refOfW_is c 0 o i ⟨2, 2, 3, 117⟩ HW.out.1 0 HW.out.2 wr HC1.out H0.out (by decide) (by decide)).mono ?_); rintro e w3 ⟨rfl, b3⟩; clear k0 k1 k2 k3 k4 k5 k6 k7 k8 kl; have hX3 := Blk.new w3 38 #[.int .i64 2, .int .i64 2, .int .i64 3, .int .i64 117]; have b3' := below_al b3 (.cells #[.int .i64 2, .int .i64 2, .int .i64 3, .int .i64 117] 38); have y0 := hX3.cell 0; have yl := hX3.lt; simp only [List.getElem?_toArray, List.getElem?_cons_zero] at y0; have hL3 := hL.on b3'; have hC3 := hC.on b3'; have hb3 := below_then hb b3'; have l0 := (hL3.cell 0).trans rfl; have l1 := (hL3.cell 1).trans rfl; have ll := hL3.lt; have lf := hL3.frozen)
            go_roundw
            case rel => exact ⟨i + 1, i, by omega, by omega, rfl, HX1, setC hC3 (by omega) _ _, hL3.set_ 0 (.int .i64 i), setB hb3 HGL.out _ _⟩
            case measure => simp [intOf]; omega
          · have HX1 := Lib.hid (show x = gsM a (i + 1) by rw [HX.out]; exact gs_not hg)
            by_cases hp : plM c.N c.P 0 o i = -1
            · have HW : Hid (ofW c.N c.P 0 o i = ⟨0, 0, 0, 0⟩ ∧ ofWE c.N c.P 0 o i = 1) := Lib.hid (of_no (N := c.N) (by omega) hp)
              clear hg hp
              go_wp2_with (go_at_call 11; (with_reducible refine (refOfW_is c 0 o i ⟨0, 0, 0, 0⟩ HW.out.1 1 HW.out.2 wr HC1.out H0.out (by decide) (by decide)).mono ?_); rintro e w3 ⟨rfl, b3⟩; clear k0 k1 k2 k3 k4 k5 k6 k7 k8 kl; have hX3 := Blk.new w3 38 #[.int .i64 0, .int .i64 0, .int .i64 0, .int .i64 0]; have b3' := below_al b3 (.cells #[.int .i64 0, .int .i64 0, .int .i64 0, .int .i64 0] 38); have y0 := hX3.cell 0; have yl := hX3.lt; simp only [List.getElem?_toArray, List.getElem?_cons_zero] at y0; have hL3 := hL.on b3'; have hC3 := hC.on b3'; have hb3 := below_then hb b3')
              go_roundw
              case rel => exact ⟨i + 1, x, by omega, by omega, rfl, HX1, hC3, hL3, hb3⟩
              case measure => simp [intOf]; omega
            · obtain ⟨k, hk⟩ : ∃ k, plM c.N c.P 0 o i = k := ⟨_, rfl⟩
              have hr2 : roleM k ≠ 2 := fun e => hg (by rw [role_guard] at e; subst e; exact HAR.out i i0 hi hk)
              have hW := of_yes (N := c.N) (by omega) hk (fun e => hp (hk.trans e))
              obtain ⟨r, hr⟩ : ∃ r, r = roleM k := ⟨_, rfl⟩
              rw [← hr] at hr2
              have HW : Hid (ofW c.N c.P 0 o i = ⟨r, k, 1 + k, 1 + k + 114⟩ ∧ ofWE c.N c.P 0 o i = 0) := Lib.hid ⟨by rw [hW.1, hr]; rfl, hW.2⟩
              have e1 := beq_eq_false_iff_ne.2 hr2
              clear hg hp hk hr2 hW hr
              go_wp2_with (go_at_call 11; (with_reducible refine (refOfW_is c 0 o i ⟨r, k, (1 + k), (1 + k + 114)⟩ HW.out.1 0 HW.out.2 wr HC1.out H0.out (by decide) (by decide)).mono ?_); rintro e w3 ⟨rfl, b3⟩; clear k0 k1 k2 k3 k4 k5 k6 k7 k8 kl; have hX3 := Blk.new w3 38 #[.int .i64 r, .int .i64 k, .int .i64 (1 + k), .int .i64 (1 + k + 114)]; have b3' := below_al b3 (.cells #[.int .i64 r, .int .i64 k, .int .i64 (1 + k), .int .i64 (1 + k + 114)] 38); have y0 := hX3.cell 0; have yl := hX3.lt; simp only [List.getElem?_toArray, List.getElem?_cons_zero] at y0; have hL3 := hL.on b3'; have hC3 := hC.on b3'; have hb3 := below_then hb b3')
              go_roundw
              case rel => exact ⟨i + 1, x, by omega, by omega, rfl, HX1, hC3, hL3, hb3⟩
              case measure => simp [intOf]; omega
        · obtain rfl : i = c.N := by omega
          have HX2 : x = a := HX.out.trans (gs_all HAN.out.2)
          subst HX2
          go_wp2_with fail
          go_roundw
          case rel => exact ⟨1, by omega, by omega, rfl, hC, hL, hb⟩
          case measure => simp [intOf]
    · replace hL : Blk wr gL 61 #[.int .i64 a, .int .i64 (-1)] := hL
      go_wp2_with fail
      go_loopw [8] (fun s8 wr => ∃ i x : Int, 0 ≤ i ∧ i ≤ c.N ∧ s8 = .int .i64 i ∧ Hid (x = gsM b i) ∧ Blk wr gC 25 #[.int .i64 c.N, .slice c.pA c.pn c.pc, .slice c.sA c.sn c.sc, .int .i64 c.L, .slice c.bA c.bn c.bc, .slice c.tA c.tn c.tc, .int .i64 c.M, .int .i64 c.G, .int .i64 c.F] ∧ Blk wr gL 61 #[.int .i64 a, .int .i64 x] ∧ Below w.heap.size w wr) (fun s8 _ => (c.N - intOf s8).toNat)
      case atStart => exact ⟨0, -1, by omega, by omega, rfl, Lib.hid (gs_zero HBN.out.1).symm, hC, hL, hb⟩
      case round =>
        clear hC hL hb
        obtain ⟨i, x, i0, i1, rfl, HX, hC, hL, hb⟩ := hrel
        obtain ⟨k0, k1, k2, k3, k4, k5, k6, k7, k8⟩ := hC.cf
        have kl := hC.lt
        by_cases hi : i < c.N
        · have HC1 := Lib.hid (HC.out.on hb)
          by_cases hg : b = i
          · have HW := Lib.hid (HBG.out i i0 hi hg)
            have HX1 := Lib.hid (show i = gsM b (i + 1) by rw [gsM, if_pos (by omega), hg])
            clear hg
            go_wp2_with (go_at_call 11; (with_reducible refine (refOfW_is c 1 o i ⟨2, 2, 3, 117⟩ HW.out.1 0 HW.out.2 wr HC1.out H0.out (by decide) (by decide)).mono ?_); rintro e w3 ⟨rfl, b3⟩; clear k0 k1 k2 k3 k4 k5 k6 k7 k8 kl; have hX3 := Blk.new w3 38 #[.int .i64 2, .int .i64 2, .int .i64 3, .int .i64 117]; have b3' := below_al b3 (.cells #[.int .i64 2, .int .i64 2, .int .i64 3, .int .i64 117] 38); have y0 := hX3.cell 0; have yl := hX3.lt; simp only [List.getElem?_toArray, List.getElem?_cons_zero] at y0; have hL3 := hL.on b3'; have hC3 := hC.on b3'; have hb3 := below_then hb b3'; have l0 := (hL3.cell 0).trans rfl; have l1 := (hL3.cell 1).trans rfl; have ll := hL3.lt; have lf := hL3.frozen)
            go_roundw
            case rel => exact ⟨i + 1, i, by omega, by omega, rfl, HX1, setC hC3 (by omega) _ _, hL3.set_ 1 (.int .i64 i), setB hb3 HGL.out _ _⟩
            case measure => simp [intOf]; omega
          · have HX1 := Lib.hid (show x = gsM b (i + 1) by rw [HX.out]; exact gs_not hg)
            by_cases hp : plM c.N c.P 1 o i = -1
            · have HW : Hid (ofW c.N c.P 1 o i = ⟨0, 0, 0, 0⟩ ∧ ofWE c.N c.P 1 o i = 1) := Lib.hid (of_no (N := c.N) (by omega) hp)
              clear hg hp
              go_wp2_with (go_at_call 11; (with_reducible refine (refOfW_is c 1 o i ⟨0, 0, 0, 0⟩ HW.out.1 1 HW.out.2 wr HC1.out H0.out (by decide) (by decide)).mono ?_); rintro e w3 ⟨rfl, b3⟩; clear k0 k1 k2 k3 k4 k5 k6 k7 k8 kl; have hX3 := Blk.new w3 38 #[.int .i64 0, .int .i64 0, .int .i64 0, .int .i64 0]; have b3' := below_al b3 (.cells #[.int .i64 0, .int .i64 0, .int .i64 0, .int .i64 0] 38); have y0 := hX3.cell 0; have yl := hX3.lt; simp only [List.getElem?_toArray, List.getElem?_cons_zero] at y0; have hL3 := hL.on b3'; have hC3 := hC.on b3'; have hb3 := below_then hb b3')
              go_roundw
              case rel => exact ⟨i + 1, x, by omega, by omega, rfl, HX1, hC3, hL3, hb3⟩
              case measure => simp [intOf]; omega
            · obtain ⟨k, hk⟩ : ∃ k, plM c.N c.P 1 o i = k := ⟨_, rfl⟩
              have hr2 : roleM k ≠ 2 := fun e => hg (by rw [role_guard] at e; subst e; exact HBR.out i i0 hi hk)
              have hW := of_yes (N := c.N) (by omega) hk (fun e => hp (hk.trans e))
              obtain ⟨r, hr⟩ : ∃ r, r = roleM k := ⟨_, rfl⟩
              rw [← hr] at hr2
              have HW : Hid (ofW c.N c.P 1 o i = ⟨r, k, 1 + k, 1 + k + 114⟩ ∧ ofWE c.N c.P 1 o i = 0) := Lib.hid ⟨by rw [hW.1, hr]; rfl, hW.2⟩
              have e1 := beq_eq_false_iff_ne.2 hr2
              clear hg hp hk hr2 hW hr
              go_wp2_with (go_at_call 11; (with_reducible refine (refOfW_is c 1 o i ⟨r, k, (1 + k), (1 + k + 114)⟩ HW.out.1 0 HW.out.2 wr HC1.out H0.out (by decide) (by decide)).mono ?_); rintro e w3 ⟨rfl, b3⟩; clear k0 k1 k2 k3 k4 k5 k6 k7 k8 kl; have hX3 := Blk.new w3 38 #[.int .i64 r, .int .i64 k, .int .i64 (1 + k), .int .i64 (1 + k + 114)]; have b3' := below_al b3 (.cells #[.int .i64 r, .int .i64 k, .int .i64 (1 + k), .int .i64 (1 + k + 114)] 38); have y0 := hX3.cell 0; have yl := hX3.lt; simp only [List.getElem?_toArray, List.getElem?_cons_zero] at y0; have hL3 := hL.on b3'; have hC3 := hC.on b3'; have hb3 := below_then hb b3')
              go_roundw
              case rel => exact ⟨i + 1, x, by omega, by omega, rfl, HX1, hC3, hL3, hb3⟩
              case measure => simp [intOf]; omega
        · obtain rfl : i = c.N := by omega
          have HX2 : x = b := HX.out.trans (gs_all HBN.out.2)
          subst HX2
          go_wp2_with fail
          go_roundw
          case rel => exact ⟨2, by omega, by omega, rfl, hC, hL, hb⟩
          case measure => simp [intOf]
    · replace hL : Blk wr gL 61 #[.int .i64 a, .int .i64 b] := hL
      have l0 := (hL.cell 0).trans rfl
      have l1 := (hL.cell 1).trans rfl
      have ll := hL.lt
      obtain ⟨u1, rfl⟩ : ∃ u1, u1 = wr := ⟨_, rfl⟩
      go_wp2_with fail
      go_quiet (fail)
      go_wp2_with fail
      exact bodyPost_ret (v := .tuple #[.int .i64 a, .int .i64 b]) (by simp [results, Tryd.results16, go_sem]) rfl ⟨rfl, below_drewN hb _⟩

/-- The end that was last, both ways one behind the other. -/
def LW (n f d i last : Int) : Prop := (d = 0 → LastW n 0 f i last) ∧ (d = 1 → last = n + 114)
theorem LW_next {n f d i last k : Int} (h : LW n f d i last) (hi : 0 ≤ i) (hk : placeM n d f i = k) (hkn : k < n) : LW n f d (i + 1) (max last (1 + k + 114)) := by
  refine ⟨fun e => ?_, fun e => ?_⟩
  · subst e; exact last_next (h.1 rfl) hi hk
  · have := h.2 e; omega
theorem LW_all {n f d last : Int} (hn : 4 ≤ n ∧ n ≤ 16 ∧ 0 ≤ f ∧ f < n) (hd : d = 0 ∨ d = 1) (h : LW n f d n last) : last = n + 114 := by
  rcases hd with rfl | rfl
  · exact last_all (d := 0) (by omega) (h.1 rfl)
  · exact h.2 rfl
set_option maxHeartbeats 4000000 in
theorem refOver_is (c : Cf) (r : Int) (hr : ovM c.N = r) (w : World) (hc : CfIn w c) (h0 : newE c = 0) :
    Calls Tryd.prog 19 #[.agg #[.int .i64 c.N, .slice c.pA c.pn c.pc, .slice c.sA c.sn c.sc, .int .i64 c.L, .slice c.bA c.bn c.bc, .slice c.tA c.tn c.tc, .int .i64 c.M, .int .i64 c.G, .int .i64 c.F]] w fun e w' => e = .returned (.int .i64 r) ∧ Below w.heap.size w w' := by
  have ok := newE_ok.1 h0
  have hN4 := ok.nodes.1
  have hN16 := ok.nodes.2
  have hp2 := ok.pairs.1
  have hl := hc.p.len
  have H0 := Lib.hid h0
  have HC := Lib.hid hc
  have HR := Lib.hid (show r = c.N + 114 by rw [← hr, ovM, if_neg (by omega)])
  have HI := Lib.hid (show ∀ d y : Int, d = 0 ∨ d = 1 → 0 ≤ y ∧ y < c.N → ∃ k f, atM c.P 0 = f ∧ 0 ≤ f ∧ f < c.N ∧ placeM c.N d f y = k ∧ 0 ≤ k ∧ k < c.N ∧ ofW c.N c.P d 0 y = wnM k ∧ ofWE c.N c.P d 0 y = 0 from fun d y hd hy => of_ok h0 hl hd (by omega) hy)
  obtain ⟨f, hf⟩ : ∃ f, atM c.P 0 = f := ⟨_, rfl⟩
  have HF := Lib.hid hf
  have HFB := Lib.hid (show 4 ≤ c.N ∧ c.N ≤ 16 ∧ 0 ≤ f ∧ f < c.N by
    obtain ⟨k, f', e1, e2, e3, _⟩ := HI.out 0 0 (.inl rfl) (by omega)
    omega)
  have hC := Blk.new w 25 #[.int .i64 c.N, .slice c.pA c.pn c.pc, .slice c.sA c.sn c.sc, .int .i64 c.L, .slice c.bA c.bn c.bc, .slice c.tA c.tn c.tc, .int .i64 c.M, .int .i64 c.G, .int .i64 c.F]
  have hb1 := below_al (Below.refl w.heap.size w) (.cells #[.int .i64 c.N, .slice c.pA c.pn c.pc, .slice c.sA c.sn c.sc, .int .i64 c.L, .slice c.bA c.bn c.bc, .slice c.tA c.tn c.tc, .int .i64 c.M, .int .i64 c.G, .int .i64 c.F] 25)
  clear hr hc h0 ok hl hp2 hf
  go_enter Tryd.func19, Tryd.ntmps19
  go_wp2_with fail
  obtain ⟨gC, hgC⟩ : ∃ gC, gC = w.heap.size := ⟨_, rfl⟩
  rw [← hgC] at hC ⊢
  clear hgC
  go_loopw [3, 4] (fun s3 s4 wr => ∃ d last : Int, 0 ≤ d ∧ d ≤ 2 ∧ 0 ≤ last ∧ last ≤ 1000 ∧ Hid ((d = 0 → last = 0) ∧ (1 ≤ d → last = c.N + 114)) ∧ s3 = .int .i64 last ∧ s4 = .int .u8 d ∧ Blk wr gC 25 #[.int .i64 c.N, .slice c.pA c.pn c.pc, .slice c.sA c.sn c.sc, .int .i64 c.L, .slice c.bA c.bn c.bc, .slice c.tA c.tn c.tc, .int .i64 c.M, .int .i64 c.G, .int .i64 c.F] ∧ Below w.heap.size w wr) (fun _ s4 _ => (2 - intOf s4).toNat)
  case atStart => exact ⟨0, 0, by omega, by omega, by omega, by omega, Lib.hid ⟨fun _ => rfl, fun h => absurd h (by omega)⟩, rfl, rfl, hC, hb1⟩
  case round =>
    clear hC hb1
    obtain ⟨d, l0, d0, d2, l00, l01, HL0, rfl, rfl, hC, hb⟩ := hrel
    by_cases hd : d ≤ 1
    · have HS := Lib.hid (show LW c.N f d 0 l0 from ⟨fun e => by rw [HL0.out.1 e]; exact last_none _ _ _, fun e => HL0.out.2 (by omega)⟩)
      go_wp2_with fail
      go_loopw [3, 5] (fun s3 s5 wr => ∃ i last : Int, 0 ≤ i ∧ i ≤ c.N ∧ 0 ≤ last ∧ last ≤ 1000 ∧ Hid (LW c.N f d i last) ∧ s3 = .int .i64 last ∧ s5 = .int .i64 i ∧ Blk wr gC 25 #[.int .i64 c.N, .slice c.pA c.pn c.pc, .slice c.sA c.sn c.sc, .int .i64 c.L, .slice c.bA c.bn c.bc, .slice c.tA c.tn c.tc, .int .i64 c.M, .int .i64 c.G, .int .i64 c.F] ∧ Below w.heap.size w wr) (fun _ s5 _ => (c.N - intOf s5).toNat)
      case atStart => exact ⟨0, l0, by omega, by omega, by omega, by omega, HS, rfl, rfl, hC, hb⟩
      case round =>
        clear hC hb
        obtain ⟨i, last, i0, i1, l10, l11, HL, rfl, rfl, hC, hb⟩ := hrel
        obtain ⟨k0, k1, k2, k3, k4, k5, k6, k7, k8⟩ := hC.cf
        have kl := hC.lt
        by_cases hi : i < c.N
        · obtain ⟨k, f2, hf2, -, -, hk, kk0, kk1, hWi, hEi⟩ := HI.out d i (by omega) ⟨i0, hi⟩
          obtain rfl : f2 = f := hf2.symm.trans HF.out
          obtain ⟨r1, hr1⟩ : ∃ r1, r1 = roleM k := ⟨_, rfl⟩
          have HWI : Hid (ofW c.N c.P d 0 i = ⟨r1, k, 1 + k, 1 + k + 114⟩) := Lib.hid (by rw [hWi, hr1]; rfl)
          have HEI := Lib.hid hEi
          have HL2 := Lib.hid (LW_next HL.out i0 hk kk1)
          have HC1 := Lib.hid (HC.out.on hb)
          clear hf2 hk hWi hEi hr1
          go_wp2_with (go_at_call 11; (with_reducible refine (refOfW_is c d 0 i ⟨r1, k, 1 + k, 1 + k + 114⟩ HWI.out 0 HEI.out wr HC1.out H0.out d0 (by omega)).mono ?_); rintro e w6 ⟨rfl, b6⟩; clear k0 k1 k2 k3 k4 k5 k6 k7 k8 kl; have b6' := below_al b6 (.cells #[.int .i64 r1, .int .i64 k, .int .i64 (1 + k), .int .i64 (1 + k + 114)] 38); have hX6 := Blk.new w6 38 #[.int .i64 r1, .int .i64 k, .int .i64 (1 + k), .int .i64 (1 + k + 114)]; have y3 := hX6.cell 3; have yl := hX6.lt; simp only [List.getElem?_toArray, List.getElem?_cons_zero, List.getElem?_cons_succ] at y3)
          go_roundw
          case rel => exact ⟨i + 1, max last (1 + k + 114), by omega, by omega, by omega, by omega, HL2, rfl, rfl, hC.on b6', below_then hb b6'⟩
          case measure => simp [intOf]; omega
        · obtain rfl : i = c.N := by omega
          have hl2 : last = c.N + 114 := LW_all HFB.out (by omega) HL.out
          go_wp2_with fail
          go_roundw
          case rel => exact ⟨d + 1, last, by omega, by omega, by omega, by omega, Lib.hid ⟨fun h => absurd h (by omega), fun _ => hl2⟩, rfl, rfl, hC, hb⟩
          case measure => simp [intOf]; omega
    · have HE := Lib.hid (HL0.out.2 (by omega))
      go_wp2_with fail
      go_ret
      exact ⟨ret_int (by rw [HE.out, HR.out]), hb⟩
end Go.Proofs.YtajkpbmjgncbbaaDoor

