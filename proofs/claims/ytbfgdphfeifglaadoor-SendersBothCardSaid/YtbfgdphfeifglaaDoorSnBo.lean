/-
  The law SendersBoth, walked: both halves of a pair, with one offer, send its frame, with a good tail, whole, each way, a tick later than the other half where the chapter says so: true; nothing that was there has turned. Conditions: the config's reading; both tables are as the program's text lays them; the payload's numbers are of their kinds.
-/
import Derived.Test.YtbfgdphfeifglaaDoorSnUn
import Derived.Test.YtbfgdphfeifglaaDoorRow2
namespace Go.Proofs.YtbfgdphfeifglaaDoor
open Go.RowKit Rg
set_option linter.unusedVariables false

theorem netPartner_is (v : Value) (N : Int) (P : List Int) (x p : Int) (hp : partM N P x = p) (w : World) (hn : NetP w v N P) (hw : Ways w) :
    Calls Tryd.prog 15 #[v, .int .i64 x] w fun e w' => e = .returned (.int .i64 p) ∧ Below w.heap.size w w' := by
  obtain ⟨c, h1, rfl, rfl, h4⟩ := hn
  exact partner_is v c x p hp w h1 hw
theorem Blk.fr5 {w : World} {g : Nat} {o k s q v : Int} (h : Blk w g 69 #[.int .i64 o, .int .u8 k, .int .u8 s, .int .u32 q, .int .u32 v]) : w.cell? ⟨g, 0, none⟩ = some (.int .i64 o) ∧ w.cell? ⟨g, 1, none⟩ = some (.int .u8 k) ∧ w.cell? ⟨g, 2, none⟩ = some (.int .u8 s) ∧ w.cell? ⟨g, 3, none⟩ = some (.int .u32 q) ∧ w.cell? ⟨g, 4, none⟩ = some (.int .u32 v) ∧ g < w.heap.size :=
  ⟨(h.cell 0).trans rfl, (h.cell 1).trans rfl, (h.cell 2).trans rfl, (h.cell 3).trans rfl, (h.cell 4).trans rfl, h.lt⟩
/-- A payload's block is none of a net's. -/
theorem pay_far {w : World} {g b off i : Nat} {k1 k2 k3 k4 x : Int} {u : Value} (hB : Blk w g 30 #[.int .u8 k1, .int .u8 k2, .int .u32 k3, .int .u32 k4]) (h : w.cell? ⟨b, off, none⟩ = some (.int .i64 x)) : (w.setCell ⟨g, i, none⟩ u).cell? ⟨b, off, none⟩ = some (.int .i64 x) := by
  have hne : b ≠ g := by
    rintro rfl
    rw [hB.cell] at h
    match off with
    | 0 => cases h
    | 1 => cases h
    | 2 => cases h
    | 3 => cases h
    | n + 4 => cases h
  unfold World.cell? at h ⊢
  rw [Below.heap_setCell w ⟨g, i, none⟩ u b hne]
  exact h
theorem lies_pay {w : World} {g n i : Nat} {A : Option Addr} {xs : List Int} {k1 k2 k3 k4 : Int} {u : Value} (hB : Blk w g 30 #[.int .u8 k1, .int .u8 k2, .int .u32 k3, .int .u32 k4]) (h : Lies .i64 w w.heap.size A n xs) : Lies .i64 (w.setCell ⟨g, i, none⟩ u) (w.setCell ⟨g, i, none⟩ u).heap.size A n xs :=
  ⟨h.1, fun hn => by
    obtain ⟨b, off, e, hb, hc⟩ := h.2 hn
    exact ⟨b, off, e, by simpa using hb, fun j hj => pay_far hB (hc j hj)⟩⟩
theorem liesT_pay {w : World} {g n i : Nat} {A : Option Addr} {xs : List (Int × Int × Int)} {k1 k2 k3 k4 : Int} {u : Value} (hB : Blk w g 30 #[.int .u8 k1, .int .u8 k2, .int .u32 k3, .int .u32 k4]) (h : LiesT w w.heap.size A n xs) : LiesT (w.setCell ⟨g, i, none⟩ u) (w.setCell ⟨g, i, none⟩ u).heap.size A n xs :=
  ⟨h.1, fun hn => by
    obtain ⟨b, off, e, hb, hc⟩ := h.2 hn
    have hne : b ≠ g := by
      rintro rfl
      have h1 := (hc 0 hn).1
      rw [hB.cell] at h1
      match off with
      | 0 => cases h1
      | 1 => cases h1
      | 2 => cases h1
      | 3 => cases h1
      | n + 4 => simp at h1
    refine ⟨b, off, e, by simpa using hb, fun j hj => ?_⟩
    have := hc j hj
    unfold World.cell? at this ⊢
    rw [Below.heap_setCell w ⟨g, i, none⟩ u b hne]
    exact this⟩
theorem NetP.pay {w : World} {v : Value} {N : Int} {P : List Int} {g i : Nat} {k1 k2 k3 k4 : Int} {u : Value} (h : NetP w v N P) (hB : Blk w g 30 #[.int .u8 k1, .int .u8 k2, .int .u32 k3, .int .u32 k4]) : NetP (w.setCell ⟨g, i, none⟩ u) v N P := by
  obtain ⟨c, h1, h2⟩ := h
  refine ⟨c, ?_, h2⟩
  rcases h1 with h1 | ⟨g', b, e, hN, hc⟩
  · exact .inl h1
  · exact .inr ⟨g', b, e, Blk.farC hN (hN.ne hB (by decide)) i u, lies_pay hB hc.p, lies_pay hB hc.s, lies_pay hB hc.b, liesT_pay hB hc.t, hc.few⟩
/-- A frame's symbols are no noughts. -/
theorem symF_nz (f : Fr) : ∀ k, k < 114 → (symF f).getD k 0 ≠ 0 := by
  intro k hk
  have hm : (symF f).getD k 0 ∈ symF f := by
    rw [getD_at _ k (by rw [symF_len]; exact hk)]
    exact List.getElem_mem _
  obtain ⟨x, hx⟩ : ∃ x, (symF f).getD k 0 = x := ⟨_, rfl⟩
  rw [hx] at hm ⊢
  rw [symF, List.mem_append] at hm
  rcases hm with h | h
  · simp only [ofL, List.mem_map, List.mem_range] at h
    obtain ⟨i, _, e⟩ := h
    rw [← e]
    unfold ofAt symI
    split <;> decide
  · simp only [tailL, tsy, List.mem_cons, List.not_mem_nil, or_false] at h
    rcases h with h | h <;> rw [h] <;> decide
theorem out_next (L : List Int) (k : Int) : outM L (wb true) (k + 1) = outM L (wb false) k := by
  unfold outM opI opB wb
  simp only [if_true, Bool.false_eq_true, if_false]
  by_cases h : 1 ≤ k ∧ k < 115
  · rw [if_pos (by simp; omega), if_pos (by simp; omega), if_pos (by simp; omega), if_pos (by simp; omega)]
    congr 2; omega
  · rw [if_neg (by simp; omega), if_neg (by simp; omega)]
theorem take_push (L : List Int) (n : Nat) (x : Int) (hn : n < L.length) (hx : L.getD n 0 = x) : L.take (n + 1) = L.take n ++ [x] := by
  rw [List.take_succ_eq_append_getElem hn, ← getD_at L n hn, hx]
theorem kind_of {k : Int} (h0 : 0 ≤ k) (h1 : k ≤ 255) : ∃ r, k.tmod 2 = r ∧ 0 ≤ r ∧ r ≤ 1 := by
  have := tmod_of (n := 2) h0 (by decide)
  exact ⟨_, rfl, this.1, by omega⟩

set_option maxRecDepth 100000 in
theorem sendersBoth_none (c : Cf) (x0 kd s q v : Int) (w : World) (hw : Laid2 w) (HN : ∀ u, Below w.heap.size w u → Calls Tryd.prog 7 #[.agg #[.int .i64 c.N, .slice c.pA c.pn c.pc, .slice c.sA c.sn c.sc, .int .i64 c.L, .slice c.bA c.bn c.bc, .slice c.tA c.tn c.tc, .int .i64 c.M, .int .i64 c.G, .int .i64 c.F]] u fun e w' => e = .returned (.pointer none) ∧ Below u.heap.size u w') :
    Calls Tryd.prog 5 #[.agg #[.int .i64 c.N, .slice c.pA c.pn c.pc, .slice c.sA c.sn c.sc, .int .i64 c.L, .slice c.bA c.bn c.bc, .slice c.tA c.tn c.tc, .int .i64 c.M, .int .i64 c.G, .int .i64 c.F], .int .u8 x0, .agg #[.int .u8 kd, .int .u8 s, .int .u32 q, .int .u32 v]] w fun e w' => e = .returned (.bool true) ∧ Below w.heap.size w w' := by
  have hB0 : Below w.heap.size w ((w.alloc (.cells #[.int .i64 c.N, .slice c.pA c.pn c.pc, .slice c.sA c.sn c.sc, .int .i64 c.L, .slice c.bA c.bn c.bc, .slice c.tA c.tn c.tc, .int .i64 c.M, .int .i64 c.G, .int .i64 c.F] 25)).alloc (.cells #[.int .u8 kd, .int .u8 s, .int .u32 q, .int .u32 v] 30)) := below_al (below_al (Below.refl w.heap.size w) _) _
  have HM := Lib.hid HN
  clear HN
  go_enter Tryd.func5, Tryd.ntmps5
  go_wp2_with (first
    | (go_at_call 7; (with_reducible refine (HM.out _ hB0).mono ?_); rintro e w1 ⟨rfl, b1⟩; have hB1 := below_then hB0 b1)
    | (go_at_call 8; (with_reducible refine (lives_sn _ (hw.on hB1)).mono ?_); rintro e w9 ⟨rfl, b9⟩))
  go_ret
  exact ⟨rfl, below_then hB1 b9⟩
set_option maxRecDepth 100000 in
set_option maxHeartbeats 8000000 in
theorem sendersBoth_yes (c : Cf) (x0 kd s q v : Int) (w : World) (hw : Laid2 w) (hc : CfIn w c) (hg : greatB c = false) (h0 : newE c = 0) (h00 : 0 ≤ x0) (h01 : x0 ≤ 255) (hk0 : 0 ≤ kd) (hk1 : kd ≤ 255) (hs0 : 0 ≤ s) (hs1 : s ≤ 255) (hq0 : 0 ≤ q) (hq1 : q < 4294967296) (hv0 : 0 ≤ v) (hv1 : v < 4294967296) :
    Calls Tryd.prog 5 #[.agg #[.int .i64 c.N, .slice c.pA c.pn c.pc, .slice c.sA c.sn c.sc, .int .i64 c.L, .slice c.bA c.bn c.bc, .slice c.tA c.tn c.tc, .int .i64 c.M, .int .i64 c.G, .int .i64 c.F], .int .u8 x0, .agg #[.int .u8 kd, .int .u8 s, .int .u32 q, .int .u32 v]] w fun e w' => e = .returned (.bool true) ∧ Below w.heap.size w w' := by
  have hB0 : Below w.heap.size w ((w.alloc (.cells #[.int .i64 c.N, .slice c.pA c.pn c.pc, .slice c.sA c.sn c.sc, .int .i64 c.L, .slice c.bA c.bn c.bc, .slice c.tA c.tn c.tc, .int .i64 c.M, .int .i64 c.G, .int .i64 c.F] 25)).alloc (.cells #[.int .u8 kd, .int .u8 s, .int .u32 q, .int .u32 v] 30)) := below_al (below_al (Below.refl w.heap.size w) _) _
  have HC0 : Hid (Blk ((w.alloc (.cells #[.int .i64 c.N, .slice c.pA c.pn c.pc, .slice c.sA c.sn c.sc, .int .i64 c.L, .slice c.bA c.bn c.bc, .slice c.tA c.tn c.tc, .int .i64 c.M, .int .i64 c.G, .int .i64 c.F] 25)).alloc (.cells #[.int .u8 kd, .int .u8 s, .int .u32 q, .int .u32 v] 30)) w.heap.size 25 #[.int .i64 c.N, .slice c.pA c.pn c.pc, .slice c.sA c.sn c.sc, .int .i64 c.L, .slice c.bA c.bn c.bc, .slice c.tA c.tn c.tc, .int .i64 c.M, .int .i64 c.G, .int .i64 c.F]) := Lib.hid ((Blk.new w _ _).alloc _)
  have HP0 : Hid (Blk ((w.alloc (.cells #[.int .i64 c.N, .slice c.pA c.pn c.pc, .slice c.sA c.sn c.sc, .int .i64 c.L, .slice c.bA c.bn c.bc, .slice c.tA c.tn c.tc, .int .i64 c.M, .int .i64 c.G, .int .i64 c.F] 25)).alloc (.cells #[.int .u8 kd, .int .u8 s, .int .u32 q, .int .u32 v] 30)) (w.heap.size + 1) 30 #[.int .u8 kd, .int .u8 s, .int .u32 q, .int .u32 v]) := Lib.hid (Blk.newAt (by simp))
  have HW0 := Lib.hid (hw.on hB0)
  have HIN0 := Lib.hid (hc.on hB0)
  have HB0 := Lib.hid hB0
  have HG := Lib.hid hg
  have H0 := Lib.hid h0
  have ok := newE_ok.1 h0
  have hp2 := ok.pairs.1
  have hp8 := ok.pairs.2
  have hN4 := ok.nodes.1
  have hN16 := ok.nodes.2
  have hLg := ok.long
  have hpl := hc.p.len
  obtain ⟨r, hr, hr0, hr1⟩ := kind_of hk0 hk1
  obtain ⟨kk, hkk⟩ : ∃ kk : Int, kk = 1 + r := ⟨_, rfl⟩
  have e1 : IntKind.u8.wrap r = r := by rw [IntKind.wrap_u8]; omega
  have e2 : IntKind.u8.wrap (1 + r) = kk := by rw [IntKind.wrap_u8, hkk]; omega
  have ho := tmod_of (n := (c.pn : Int)) h00 (by omega)
  obtain ⟨o, eo⟩ : ∃ o, o = x0.tmod (c.pn : Int) := ⟨_, rfl⟩
  rw [← eo] at ho
  have m1 : x0.tmod (c.pn : Int) = o := eo.symm
  have u1 : IntKind.i64.wrap o = o := IntWalk.i64_in _ (by omega)
  have u3 : IntKind.i64.wrap x0 = x0 := IntWalk.i64_in _ (by omega)
  have n1 : (c.pn : Int) ≠ 0 := by omega
  have n2 : ((c.pn : Int) == 0) = false := beq_eq_false_iff_ne.2 n1
  obtain ⟨j, hj⟩ : ∃ j : Nat, o = j := ⟨o.toNat, by omega⟩
  have hjl : j < c.P.length := by omega
  have ha := okP_at ok.okP j hjl
  have hat : atM c.P o = c.P.getD j 0 := by rw [hj]; exact atM_nat c.P j hjl
  obtain ⟨a, hae⟩ : ∃ a, a = c.P.getD j 0 := ⟨_, rfl⟩
  rw [← hae] at ha hat
  have hpart : partM c.N c.P a = (a + 1) % c.N := by
    have hh : hitB c.N a (c.P.getD j 0) = true := by rw [← hae]; exact (hit_iff ok.nodes ha).2 (.inl rfl)
    have hp := pair_of ok.nodes ok.okP hjl hh
    rw [partM, hp, atM_nat c.P j hjl, ← hae, if_pos rfl, second_of ok.nodes ha]
  have hdist := half_dist ok.nodes ha
  have m2 := mod1 ok.nodes.1 ha
  have hbb := mod_bd (a + 1) c.N (by omega)
  have HPA := Lib.hid (show plM c.N c.P 0 o a = halfI false by
    rw [plM, hat, place_of (by omega), sg0, halfI, Int.sub_self]; simp)
  have HPB := Lib.hid (show plM c.N c.P 0 o ((a + 1) % c.N) = halfI true by
    rw [plM, hat, place_of (by omega), sg0, halfI]
    have := mod_near c.N ((a + 1) % c.N - a + 0) (by omega) (by omega)
    simp only [if_true]
    omega)
  obtain ⟨b, hb⟩ : ∃ b, b = (a + 1) % c.N := ⟨_, rfl⟩
  rw [← hb] at HPB hpart
  have HAT := Lib.hid hat
  have HPT := Lib.hid hpart
  have HN0 := Lib.hid (show c.N ≠ 0 by omega)
  have HFIT := Lib.hid (show (sdF ⟨o, kk, s, q, v⟩).Fit from ⟨by simp only; omega, by simp only; omega, hs0, hs1, hq0, hq1, hv0, hv1⟩)
  have hff : (⟨o, kk, s, q, v⟩ : Fr).Fit := ⟨by simp only; omega, by simp only; omega, hs0, hs1, hq0, hq1, hv0, hv1⟩
  have hmb : mayB o kk = true := by rw [mayB_iff]; omega
  have HMB := Lib.hid (show mayB o (sdF ⟨o, kk, s, q, v⟩).k = true from hmb)
  have hrp := read_put (⟨o, kk, s, q, v⟩ : Fr) true false hff hmb
  have HRD := Lib.hid (fun A n c xs u (hn : n = 114) (hc : n ≤ c) (hx : xs = symF ⟨o, kk, s, q, v⟩) (hl : Lies .u8 u u.heap.size A n xs) => show Calls Tryd.prog 17 #[.slice A n c] u (fun e w' => e = .returned (.tuple #[.agg #[.int .i64 o, .int .u8 kk, .int .u8 s, .int .u32 q, .int .u32 v], .agg #[.bool true, .bool false], .int .i64 0]) ∧ Below u.heap.size u w') from by
    have h := frRead_any A n c xs u hl hc
    rw [hx] at h
    unfold symF at h
    rw [hrp.1, hrp.2.1, hrp.2.2.1, hrp.2.2.2] at h
    exact h)
  have HLEN := Lib.hid (symF_len ⟨o, kk, s, q, v⟩)
  have HNZ := Lib.hid (symF_nz ⟨o, kk, s, q, v⟩)
  have qf : ∀ W, (binOp .eql 69 (.agg #[.int .i64 o, .int .u8 kk, .int .u8 s, .int .u32 q, .int .u32 v]) (.agg #[.int .i64 o, .int .u8 kk, .int .u8 s, .int .u32 q, .int .u32 v])).run Tryd.prog W = .ok (.bool true) W := fun W => by
    rw [fr_eql]; simp
  have qp : ∀ W, (binOp .eql 30 (.agg #[.int .u8 kk, .int .u8 s, .int .u32 q, .int .u32 v]) (.agg #[.int .u8 kk, .int .u8 s, .int .u32 q, .int .u32 v])).run Tryd.prog W = .ok (.bool true) W := fun W => by
    rw [pay_eql]; simp
  have hlong : 120 ≤ c.L ∧ c.L ≤ 4096 := by omega
  clear hc hg h0 ok hpl eo ho hj hjl ha hat hae hpart hdist m2 hbb hb hff hmb hrp hLg hkk hr0 hr1 hs0 hs1 hq0 hq1 hv0 hv1 hk0 hk1
  go_enter Tryd.func5, Tryd.ntmps5
  go_upto_region 8 with (first
    | (go_at_call 7; (with_reducible refine (netWn c _ HW0.out HIN0.out HG.out H0.out).mono ?_); rintro e w1 ⟨gN, rfl, hN1, b1⟩; have hP1 := HP0.out.on b1; have HW2 := Lib.hid (hw.on ((below_then hB0 b1).setCell (p := ⟨w.heap.size + 1, 0, none⟩) (by simp) (.int .u8 kk))); have HN2 := Lib.hid (hN1.pay (i := 0) (u := .int .u8 kk) hP1); have HP2 := Lib.hid (hP1.set_ 0 (.int .u8 kk)); have HB2 := Lib.hid ((below_then hB0 b1).setCell (p := ⟨w.heap.size + 1, 0, none⟩) (by simp) (.int .u8 kk)); have HC2 := Lib.hid ((HC0.out.on b1).farC (show w.heap.size ≠ w.heap.size + 1 by omega) 0 (.int .u8 kk)); clear hN1; obtain ⟨a0, a1, a2, a3, al⟩ := hP1.py4; have af := hP1.frozen; obtain ⟨k0, k1, k2, k3, k4, k5, k6, k7, k8⟩ := (HC0.out.on b1).cf; have kl := (HC0.out.on b1).lt)
    | (go_at_call 14; (with_reducible refine (netFirst_is _ c.N c.P o a HAT.out _ HN2.out).mono ?_); rintro e w2 ⟨rfl, b2⟩)
    | (go_at_call 15; (with_reducible refine (netPartner_is _ c.N c.P a b HPT.out _ (HN2.out.on b2) (HW2.out.on b2).ways).mono ?_); rintro e w3 ⟨rfl, b3⟩))
  have HN := Lib.hid ((HN2.out.on b2).on b3)
  have HW := Lib.hid ((HW2.out.on b2).on b3)
  have HP : Hid (Blk w3 (w.heap.size + 1) 30 #[.int .u8 kk, .int .u8 s, .int .u32 q, .int .u32 v]) := Lib.hid (((show Blk _ (w.heap.size + 1) 30 #[.int .u8 kk, .int .u8 s, .int .u32 q, .int .u32 v] from HP2.out).on b2).on b3)
  have HC := Lib.hid ((HC2.out.on b2).on b3)
  have HB := Lib.hid (below_then (below_then HB2.out b2) b3)
  obtain ⟨gC, hgC⟩ : ∃ g, g = w.heap.size := ⟨_, rfl⟩
  obtain ⟨gP, hgP⟩ : ∃ g, g = w.heap.size + 1 := ⟨_, rfl⟩
  have HGC := Lib.hid hgC
  rw [← hgP] at HP ⊢
  rw [← hgC] at HC ⊢
  clear hgC hgP b1 b2 b3 HN2 HW2 HP2 HC2 HB2 hP1 HC0 HP0 HW0 HIN0 HB0 HG H0 HAT HPT a0 a1 a2 a3 al af k0 k1 k2 k3 k4 k5 k6 k7 k8 kl hw hB0 m1 u1 u3 n1 n2 e1 e2 hr h00 h01
  refine Reg.wp_slots (fun t => t == 11 || t == 12 || (decide (56 ≤ t) && decide (t ≤ 66))) (by kernel_rfl) (by kernel_rfl) (by kernel_rfl) (fun zz => (Reg.tbl [
    (57, .is (.pointer (some ⟨gN, 0, none⟩))),
    (58, .is (.int .i64 a)),
    (59, .is (.int .i64 o)),
    (60, .is (.agg #[.int .u8 kk, .int .u8 s, .int .u32 q, .int .u32 v])),
    (61, .is (.agg #[.bool true, .int .i64 0, .int .u8 kk, .int .u8 s, .int .u32 q, .int .u32 v])),
    (62, .is (.agg #[.int .u8 kk, .int .u8 s, .int .u32 q, .int .u32 v])),
    (63, .is (.agg #[.bool true, .int .i64 0, .int .u8 kk, .int .u8 s, .int .u32 q, .int .u32 v])),
    (64, .tsays false ⟨o, kk, s, q, v⟩),
    (56, .tsays false ⟨o, kk, s, q, v⟩),
    (65, .says false ⟨o, kk, s, q, v⟩),
    (66, .is (.int .i64 0)),
    (11, .says false ⟨o, kk, s, q, v⟩),
    (12, .is (.int .i64 0))] zz).P) (fun zz => (Reg.tbl _ zz).on) ?_ ?_
  · simp only [Reg.frame, Reg.over, Nat.reduceAdd, Nat.reduceBEq, Nat.reduceLeDiff, decide_true, decide_false, Bool.or_true, Bool.or_false, if_true, Bool.false_eq_true, if_false, Bool.and_true, Bool.and_false]
    refine ⟨?_, ?_, ?_, ?_, ?_, ?_, ?_, ?_, ?_, ?_, ?_, ?_, ?_, trivial⟩
    · intro x u hbu hd
      refine wpOp_step rfl fun K hK => ?_
      go_simp
      exact hK _ _ ⟨_, rfl, Below.refl _ _, fun d hd => by cases hd; exact rfl⟩
    · intro x u hbu hd
      refine wpOp_step rfl fun K hK => ?_
      go_simp
      exact hK _ _ ⟨_, rfl, Below.refl _ _, fun d hd => by cases hd; exact rfl⟩
    · intro x u hbu hd
      refine wpOp_step rfl fun K hK => ?_
      go_simp
      exact hK _ _ ⟨_, rfl, Below.refl _ _, fun d hd => by cases hd; exact rfl⟩
    · intro x u hbu hd
      obtain ⟨a0, a1, a2, a3, al⟩ := (HP.out.on hbu).py4
      refine wpOp_step rfl fun K hK => ?_
      go_simp
      exact hK _ _ ⟨_, rfl, Below.refl _ _, fun d hd => by cases hd; exact rfl⟩
    · intro x u hbu hd
      have h60 : x 60 = .agg #[.int .u8 kk, .int .u8 s, .int .u32 q, .int .u32 v] := hd 3 (by decide)
      refine wpOp_step rfl fun K hK => ?_
      simp only [h60] at hK ⊢
      go_simp
      with_reducible refine (said_is (⟨o, kk, s, q, v⟩ : Fr) _).mono ?_
      rintro e u' ⟨rfl, hb'⟩
      exact hK _ _ ⟨_, rfl, hb', fun d hd => by cases hd; exact rfl⟩
    · intro x u hbu hd
      obtain ⟨a0, a1, a2, a3, al⟩ := (HP.out.on hbu).py4
      refine wpOp_step rfl fun K hK => ?_
      go_simp
      exact hK _ _ ⟨_, rfl, Below.refl _ _, fun d hd => by cases hd; exact rfl⟩
    · intro x u hbu hd
      have h62 : x 62 = .agg #[.int .u8 kk, .int .u8 s, .int .u32 q, .int .u32 v] := hd 5 (by decide)
      refine wpOp_step rfl fun K hK => ?_
      simp only [h62] at hK ⊢
      go_simp
      with_reducible refine (said_is (⟨o, kk, s, q, v⟩ : Fr) _).mono ?_
      rintro e u' ⟨rfl, hb'⟩
      exact hK _ _ ⟨_, rfl, hb', fun d hd => by cases hd; exact rfl⟩
    · intro x u hbu hd
      have h57 : x 57 = .pointer (some ⟨gN, 0, none⟩) := hd 0 (by decide)
      have h58 : x 58 = .int .i64 a := hd 1 (by decide)
      have h59 : x 59 = .int .i64 o := hd 2 (by decide)
      have h61 : x 61 = .agg #[.bool true, .int .i64 0, .int .u8 kk, .int .u8 s, .int .u32 q, .int .u32 v] := hd 4 (by decide)
      have h63 : x 63 = .agg #[.bool true, .int .i64 0, .int .u8 kk, .int .u8 s, .int .u32 q, .int .u32 v] := hd 6 (by decide)
      refine wpOp_step rfl fun K hK => ?_
      simp only [h57, h58, h59, h61, h63] at hK ⊢
      go_simp
      with_reducible refine (new_says _ c.N c.P a o (sdF ⟨o, kk, s, q, v⟩) (sdF ⟨o, kk, s, q, v⟩) false HN0.out HPA.out (by simp [sameB]) HFIT.out HMB.out _ (HN.out.on hbu) (HW.out.on hbu)).mono ?_
      rintro e u' ⟨v', rfl, hS', hb'⟩
      exact hK _ _ ⟨_, rfl, hb', fun d hd => by cases hd; exact ⟨_, rfl, hS'⟩⟩
    · intro x u hbu hd
      have k64 : (Reg.Fact.tsays false ⟨o, kk, s, q, v⟩ : Reg.Fact).P (x 64) u := hd 7 (by decide)
      obtain ⟨v64, h64, S64⟩ := k64
      refine wpOp_step rfl fun K hK => ?_
      simp only [h64] at hK ⊢
      go_simp
      exact hK _ _ ⟨_, rfl, Below.refl _ _, fun d hd => by cases hd; exact ⟨_, rfl, S64⟩⟩
    · intro x u hbu hd
      have k56 : (Reg.Fact.tsays false ⟨o, kk, s, q, v⟩ : Reg.Fact).P (x 56) u := hd 8 (by decide)
      obtain ⟨v56, h56, S56⟩ := k56
      refine wpOp_step rfl fun K hK => ?_
      simp only [h56] at hK ⊢
      go_simp
      exact hK _ _ ⟨_, rfl, Below.refl _ _, fun d hd => by cases hd; exact ⟨_, rfl, S56⟩⟩
    · intro x u hbu hd
      have k56 : (Reg.Fact.tsays false ⟨o, kk, s, q, v⟩ : Reg.Fact).P (x 56) u := hd 8 (by decide)
      obtain ⟨v56, h56, S56⟩ := k56
      refine wpOp_step rfl fun K hK => ?_
      simp only [h56] at hK ⊢
      go_simp
      exact hK _ _ ⟨_, rfl, Below.refl _ _, fun d hd => by cases hd; exact rfl⟩
    · intro x u hbu hd
      have k65 : (Reg.Fact.says false ⟨o, kk, s, q, v⟩ : Reg.Fact).P (x 65) u := hd 9 (by decide)
      obtain ⟨v65, h65, S65⟩ := k65
      refine wpOp_step rfl fun K hK => ?_
      simp only [h65] at hK ⊢
      go_simp
      exact hK _ _ ⟨_, rfl, Below.refl _ _, fun d hd => by cases hd; exact ⟨_, rfl, S65⟩⟩
    · intro x u hbu hd
      have h66 : x 66 = .int .i64 0 := hd 10 (by decide)
      refine wpOp_step rfl fun K hK => ?_
      simp only [h66] at hK ⊢
      go_simp
      exact hK _ _ ⟨_, rfl, Below.refl _ _, fun d hd => by cases hd; exact rfl⟩
  · intro y u2 hbu hall
    have k11 : (Reg.Fact.says false ⟨o, kk, s, q, v⟩ : Reg.Fact).P (y 11) u2 := hall 11 (by decide)
    obtain ⟨vs, h11, S11⟩ := k11
    have h12 : y 12 = .int .i64 0 := hall 12 (by decide)
    simp only [Reg.frame, Reg.over, Nat.reduceAdd, Nat.reduceBEq, Nat.reduceLeDiff, decide_true, decide_false, Bool.or_true, Bool.or_false, if_true, Bool.false_eq_true, if_false, Bool.and_true, Bool.and_false, h11, h12]
    have HN := Lib.hid (HN.out.on hbu)
    have HW := Lib.hid (HW.out.on hbu)
    have HP := Lib.hid (HP.out.on hbu)
    have HC := Lib.hid (HC.out.on hbu)
    have HB := Lib.hid (below_then HB.out hbu)
    have HSs := Lib.hid S11
    clear hbu hall h11 h12 S11
    go_wp2_with fail
    refine Reg.wp_slots (fun t => t == 13 || t == 14 || (decide (67 ≤ t) && decide (t ≤ 77))) (by kernel_rfl) (by kernel_rfl) (by kernel_rfl) (fun zz => (Reg.tbl [
      (68, .is (.pointer (some ⟨gN, 0, none⟩))),
      (69, .is (.int .i64 b)),
      (70, .is (.int .i64 o)),
      (71, .is (.agg #[.int .u8 kk, .int .u8 s, .int .u32 q, .int .u32 v])),
      (72, .is (.agg #[.bool true, .int .i64 0, .int .u8 kk, .int .u8 s, .int .u32 q, .int .u32 v])),
      (73, .is (.agg #[.int .u8 kk, .int .u8 s, .int .u32 q, .int .u32 v])),
      (74, .is (.agg #[.bool true, .int .i64 7, .int .u8 kk, .int .u8 s, .int .u32 q, .int .u32 v])),
      (75, .tsays true ⟨o, kk, s, q, v⟩),
      (67, .tsays true ⟨o, kk, s, q, v⟩),
      (76, .says true ⟨o, kk, s, q, v⟩),
      (77, .is (.int .i64 0)),
      (13, .says true ⟨o, kk, s, q, v⟩),
      (14, .is (.int .i64 0))] zz).P) (fun zz => (Reg.tbl _ zz).on) ?_ ?_
    · simp only [Reg.frame, Reg.over, Nat.reduceAdd, Nat.reduceBEq, Nat.reduceLeDiff, decide_true, decide_false, Bool.or_true, Bool.or_false, if_true, Bool.false_eq_true, if_false, Bool.and_true, Bool.and_false]
      refine ⟨?_, ?_, ?_, ?_, ?_, ?_, ?_, ?_, ?_, ?_, ?_, ?_, ?_, trivial⟩
      · intro x u hbu hd
        refine wpOp_step rfl fun K hK => ?_
        go_simp
        exact hK _ _ ⟨_, rfl, Below.refl _ _, fun d hd => by cases hd; exact rfl⟩
      · intro x u hbu hd
        refine wpOp_step rfl fun K hK => ?_
        go_simp
        exact hK _ _ ⟨_, rfl, Below.refl _ _, fun d hd => by cases hd; exact rfl⟩
      · intro x u hbu hd
        refine wpOp_step rfl fun K hK => ?_
        go_simp
        exact hK _ _ ⟨_, rfl, Below.refl _ _, fun d hd => by cases hd; exact rfl⟩
      · intro x u hbu hd
        obtain ⟨a0, a1, a2, a3, al⟩ := (HP.out.on hbu).py4
        refine wpOp_step rfl fun K hK => ?_
        go_simp
        exact hK _ _ ⟨_, rfl, Below.refl _ _, fun d hd => by cases hd; exact rfl⟩
      · intro x u hbu hd
        have h71 : x 71 = .agg #[.int .u8 kk, .int .u8 s, .int .u32 q, .int .u32 v] := hd 3 (by decide)
        refine wpOp_step rfl fun K hK => ?_
        simp only [h71] at hK ⊢
        go_simp
        with_reducible refine (said_is (⟨o, kk, s, q, v⟩ : Fr) _).mono ?_
        rintro e u' ⟨rfl, hb'⟩
        exact hK _ _ ⟨_, rfl, hb', fun d hd => by cases hd; exact rfl⟩
      · intro x u hbu hd
        obtain ⟨a0, a1, a2, a3, al⟩ := (HP.out.on hbu).py4
        refine wpOp_step rfl fun K hK => ?_
        go_simp
        exact hK _ _ ⟨_, rfl, Below.refl _ _, fun d hd => by cases hd; exact rfl⟩
      · intro x u hbu hd
        have h73 : x 73 = .agg #[.int .u8 kk, .int .u8 s, .int .u32 q, .int .u32 v] := hd 5 (by decide)
        refine wpOp_step rfl fun K hK => ?_
        simp only [h73] at hK ⊢
        go_simp
        exact hK _ _ ⟨_, rfl, Below.refl _ _, fun d hd => by cases hd; exact rfl⟩
      · intro x u hbu hd
        have h68 : x 68 = .pointer (some ⟨gN, 0, none⟩) := hd 0 (by decide)
        have h69 : x 69 = .int .i64 b := hd 1 (by decide)
        have h70 : x 70 = .int .i64 o := hd 2 (by decide)
        have h72 : x 72 = .agg #[.bool true, .int .i64 0, .int .u8 kk, .int .u8 s, .int .u32 q, .int .u32 v] := hd 4 (by decide)
        have h74 : x 74 = .agg #[.bool true, .int .i64 7, .int .u8 kk, .int .u8 s, .int .u32 q, .int .u32 v] := hd 6 (by decide)
        refine wpOp_step rfl fun K hK => ?_
        simp only [h68, h69, h70, h72, h74] at hK ⊢
        go_simp
        with_reducible refine (new_says _ c.N c.P b o (sdF ⟨o, kk, s, q, v⟩) ⟨true, 7, kk, s, q, v⟩ true HN0.out HPB.out (by simp [sameB]) HFIT.out HMB.out _ (HN.out.on hbu) (HW.out.on hbu)).mono ?_
        rintro e u' ⟨v', rfl, hS', hb'⟩
        exact hK _ _ ⟨_, rfl, hb', fun d hd => by cases hd; exact ⟨_, rfl, hS'⟩⟩
      · intro x u hbu hd
        have k75 : (Reg.Fact.tsays true ⟨o, kk, s, q, v⟩ : Reg.Fact).P (x 75) u := hd 7 (by decide)
        obtain ⟨v75, h75, S75⟩ := k75
        refine wpOp_step rfl fun K hK => ?_
        simp only [h75] at hK ⊢
        go_simp
        exact hK _ _ ⟨_, rfl, Below.refl _ _, fun d hd => by cases hd; exact ⟨_, rfl, S75⟩⟩
      · intro x u hbu hd
        have k67 : (Reg.Fact.tsays true ⟨o, kk, s, q, v⟩ : Reg.Fact).P (x 67) u := hd 8 (by decide)
        obtain ⟨v67, h67, S67⟩ := k67
        refine wpOp_step rfl fun K hK => ?_
        simp only [h67] at hK ⊢
        go_simp
        exact hK _ _ ⟨_, rfl, Below.refl _ _, fun d hd => by cases hd; exact ⟨_, rfl, S67⟩⟩
      · intro x u hbu hd
        have k67 : (Reg.Fact.tsays true ⟨o, kk, s, q, v⟩ : Reg.Fact).P (x 67) u := hd 8 (by decide)
        obtain ⟨v67, h67, S67⟩ := k67
        refine wpOp_step rfl fun K hK => ?_
        simp only [h67] at hK ⊢
        go_simp
        exact hK _ _ ⟨_, rfl, Below.refl _ _, fun d hd => by cases hd; exact rfl⟩
      · intro x u hbu hd
        have k76 : (Reg.Fact.says true ⟨o, kk, s, q, v⟩ : Reg.Fact).P (x 76) u := hd 9 (by decide)
        obtain ⟨v76, h76, S76⟩ := k76
        refine wpOp_step rfl fun K hK => ?_
        simp only [h76] at hK ⊢
        go_simp
        exact hK _ _ ⟨_, rfl, Below.refl _ _, fun d hd => by cases hd; exact ⟨_, rfl, S76⟩⟩
      · intro x u hbu hd
        have h77 : x 77 = .int .i64 0 := hd 10 (by decide)
        refine wpOp_step rfl fun K hK => ?_
        simp only [h77] at hK ⊢
        go_simp
        exact hK _ _ ⟨_, rfl, Below.refl _ _, fun d hd => by cases hd; exact rfl⟩
    · intro z W hbu hall
      have k13 : (Reg.Fact.says true ⟨o, kk, s, q, v⟩ : Reg.Fact).P (z 13) W := hall 11 (by decide)
      obtain ⟨vt, h13, S13⟩ := k13
      have h14 : z 14 = .int .i64 0 := hall 12 (by decide)
      simp only [Reg.frame, Reg.over, Nat.reduceAdd, Nat.reduceBEq, Nat.reduceLeDiff, decide_true, decide_false, Bool.or_true, Bool.or_false, if_true, Bool.false_eq_true, if_false, Bool.and_true, Bool.and_false, h13, h14]
      have HW := Lib.hid (HW.out.on hbu)
      have HP := Lib.hid (HP.out.on hbu)
      have HC := Lib.hid (HC.out.on hbu)
      have HB := Lib.hid (below_then HB.out hbu)
      have HSs := Lib.hid (HSs.out.on hbu)
      have HSt := Lib.hid S13
      clear hbu hall h13 h14 S13 HN HPA HPB HN0 HFIT HMB
      have HXN := Lib.hid (fun (k : Nat) (h1 : 1 ≤ k) (h2 : k ≤ 114) => show ∃ x, outM (symF ⟨o, kk, s, q, v⟩) (wb false) k = x ∧ x ≠ 0 ∧ (symF ⟨o, kk, s, q, v⟩).getD (k - 1) 0 = x from ⟨_, out_at (symF ⟨o, kk, s, q, v⟩) false k (k - 1) (by omega) (by simp only [wb, Bool.false_eq_true, if_false]; omega), HNZ.out _ (by omega), rfl⟩)
      have HYN := Lib.hid (fun (k : Nat) (h1 : 2 ≤ k) (h2 : k ≤ 115) => show ∃ x, outM (symF ⟨o, kk, s, q, v⟩) (wb true) k = x ∧ x ≠ 0 ∧ (symF ⟨o, kk, s, q, v⟩).getD (k - 2) 0 = x from ⟨_, out_at (symF ⟨o, kk, s, q, v⟩) true k (k - 2) (by omega) (by simp only [wb, if_true]; omega), HNZ.out _ (by omega), rfl⟩)
      have HXZ := Lib.hid (fun (k : Nat) (h1 : k = 0 ∨ 115 ≤ k) => show outM (symF ⟨o, kk, s, q, v⟩) (wb false) k = 0 from out_off (symF ⟨o, kk, s, q, v⟩) false k (by simp only [wb, Bool.false_eq_true, if_false]; omega))
      have HYZ := Lib.hid (fun (k : Nat) (h1 : k ≤ 1 ∨ 116 ≤ k) => show outM (symF ⟨o, kk, s, q, v⟩) (wb true) k = 0 from out_off (symF ⟨o, kk, s, q, v⟩) true k (by simp only [wb, if_true]; omega))
      have HSH := Lib.hid (fun k : Nat => out_next (symF ⟨o, kk, s, q, v⟩) k)
      have HTK := Lib.hid (fun (n : Nat) (x : Int) (hn : n < 114) (hx : (symF ⟨o, kk, s, q, v⟩).getD n 0 = x) => take_push (symF ⟨o, kk, s, q, v⟩) n x (by rw [HLEN.out]; exact hn) hx)
      go_wp2_with fail
      go_loopw [15, 16, 17] (fun s15 s16 s17 wr => ∃ (k n m : Nat) (A1 : Option Addr) (cA : Nat) (B1 : Option Addr) (dA : Nat), (k : Int) ≤ c.L ∧ Hid (n = min (k - 1) 114 ∧ m = min (k - 2) 114) ∧ s15 = .slice A1 n cA ∧ s16 = .slice B1 m dA ∧ s17 = .int .i64 k ∧ Rows2 wr W.heap.size A1 n cA ((symF ⟨o, kk, s, q, v⟩).take n) B1 m dA ((symF ⟨o, kk, s, q, v⟩).take m) ∧ Below W.heap.size W wr) (fun _ _ s17 _ => (c.L - intOf s17).toNat)
      case atStart => exact ⟨0, 0, 0, none, 0, none, 0, by omega, Lib.hid ⟨rfl, rfl⟩, rfl, rfl, rfl, Rows2.none_, Below.refl _ _⟩
      case round =>
        obtain ⟨k, n, m, A1, cA, B1, dA, hk, HNM, rfl, rfl, rfl, hR, hbW⟩ := hrel
        have hn6 : n ≤ 114 := by have := HNM.out; omega
        have hm6 : m ≤ 114 := by have := HNM.out; omega
        obtain ⟨q0, q1, q2, q3, q4, q5, q6, q7, q8⟩ := (HC.out.on hbW).cf; have ql := (HC.out.on hbW).lt
        by_cases hlt : (k : Int) < c.L
        · have hkd : decide ((k : Int) < c.L) = true := decide_eq_true hlt
          have kw : IntKind.i64.wrap ((k : Int) + 1) = (k : Int) + 1 := IntWalk.i64_in _ (by omega)
          by_cases h1 : k ≤ 0
          · as_aux_lemma =>
              have z0 : ((k : Int) == 0) = true := by simp; omega
              have z1 : ((k : Int) == 1) = false := beq_eq_false_iff_ne.2 (by omega)
              have z2 : ((k : Int) == 2) = false := beq_eq_false_iff_ne.2 (by omega)
              obtain ⟨xk, exk⟩ : ∃ xk : Int, xk = 0 := ⟨_, rfl⟩
              have HX := Lib.hid (show outM (symF ⟨o, kk, s, q, v⟩) (wb false) k = xk from by rw [exk]; exact HXZ.out k (by omega))
              have xn : (xk != 0) = false := by simp [exk]
              have xz : (xk == 0) = true := by simp [exk]
              clear exk
              obtain ⟨yk, eyk⟩ : ∃ yk : Int, yk = 0 := ⟨_, rfl⟩
              have HY := Lib.hid (show outM (symF ⟨o, kk, s, q, v⟩) (wb true) k = yk from by rw [eyk]; exact HYZ.out k (by omega))
              have yn : (yk != 0) = false := by simp [eyk]
              have yz : (yk == 0) = true := by simp [eyk]
              clear eyk
              have HYf : Hid (outM (symF ⟨o, kk, s, q, v⟩) (wb (!false)) k = yk) := HY
              have HXt : Hid (outM (symF ⟨o, kk, s, q, v⟩) (wb (!true)) k = xk) := HX
              have HY1 := Lib.hid ((HSH.out k).trans HX.out)
              have HY1f : Hid (outM (symF ⟨o, kk, s, q, v⟩) (wb (!false)) ((k : Int) + 1) = xk) := HY1
              obtain ⟨x1, hx1⟩ : ∃ x1, outM (symF ⟨o, kk, s, q, v⟩) (wb false) ((k : Int) + 1) = x1 := ⟨_, rfl⟩
              have HX1 := Lib.hid hx1
              have HX1t : Hid (outM (symF ⟨o, kk, s, q, v⟩) (wb (!true)) ((k : Int) + 1) = x1) := HX1
              clear hx1
              go_wp2_with (first
                | (go_at_call 12; (with_reducible refine (out_says false ⟨o, kk, s, q, v⟩ vs (k : Int) xk yk HX.out HYf.out _ (HSs.out.on hbW)).mono ?_); rintro e w1 ⟨rfl, b1⟩; clear q0 q1 q2 q3 q4 q5 q6 q7 q8 ql)
                | (go_at_call 12; (with_reducible refine (out_says true ⟨o, kk, s, q, v⟩ vt (k : Int) yk xk HY.out HXt.out _ ((HSt.out.on hbW).on b1)).mono ?_); rintro e w2 ⟨rfl, b2⟩; have b12 := below_then b1 b2)
                | (go_at_call 12; (with_reducible refine (out_says true ⟨o, kk, s, q, v⟩ vt ((k : Int) + 1) xk x1 HY1.out HX1t.out _ ((HSt.out.on hbW).on b12)).mono ?_); rintro e w3 ⟨rfl, b3⟩; have b13 := below_then b12 b3)
                | (go_at_call 12; (with_reducible refine (out_says false ⟨o, kk, s, q, v⟩ vs ((k : Int) + 1) x1 xk HX1.out HY1f.out _ ((HSs.out.on hbW).on b13)).mono ?_); rintro e w4 ⟨rfl, b4⟩; have b14 := below_then b13 b4; have hR4 := hR.on b14; have hbW4 := hbW.trans (b14.mono hbW.size); clear b1 b2 b12 b3 b13 b4 b14 hR hbW))
              go_roundw
              case rel => exact ⟨k + 1, n, m, _, _, _, _, by omega, Lib.hid (by have := HNM.out; omega), rfl, rfl, by go_num, hR4, hbW4⟩
              case measure => simp [intOf]; omega
          · by_cases h2 : k ≤ 1
            · as_aux_lemma =>
                have z0 : ((k : Int) == 0) = false := beq_eq_false_iff_ne.2 (by omega)
                have z1 : ((k : Int) == 1) = true := by simp; omega
                have z2 : ((k : Int) == 2) = false := beq_eq_false_iff_ne.2 (by omega)
                obtain ⟨xk, hxk, hx0, hxl⟩ := HXN.out k (by omega) (by omega)
                have HX := Lib.hid hxk
                have xn : (xk != 0) = true := by simpa using hx0
                have xz : (xk == 0) = false := by simpa using hx0
                have HTX := Lib.hid (HTK.out n xk (by have := HNM.out; omega) (by rw [← hxl]; congr 1; have := HNM.out; omega))
                clear hxk hx0 hxl
                obtain ⟨yk, eyk⟩ : ∃ yk : Int, yk = 0 := ⟨_, rfl⟩
                have HY := Lib.hid (show outM (symF ⟨o, kk, s, q, v⟩) (wb true) k = yk from by rw [eyk]; exact HYZ.out k (by omega))
                have yn : (yk != 0) = false := by simp [eyk]
                have yz : (yk == 0) = true := by simp [eyk]
                clear eyk
                have HYf : Hid (outM (symF ⟨o, kk, s, q, v⟩) (wb (!false)) k = yk) := HY
                have HXt : Hid (outM (symF ⟨o, kk, s, q, v⟩) (wb (!true)) k = xk) := HX
                have HY1 := Lib.hid ((HSH.out k).trans HX.out)
                have HY1f : Hid (outM (symF ⟨o, kk, s, q, v⟩) (wb (!false)) ((k : Int) + 1) = xk) := HY1
                obtain ⟨x1, hx1⟩ : ∃ x1, outM (symF ⟨o, kk, s, q, v⟩) (wb false) ((k : Int) + 1) = x1 := ⟨_, rfl⟩
                have HX1 := Lib.hid hx1
                have HX1t : Hid (outM (symF ⟨o, kk, s, q, v⟩) (wb (!true)) ((k : Int) + 1) = x1) := HX1
                clear hx1
                go_wp2_with (first
                  | (go_at_call 12; (with_reducible refine (out_says false ⟨o, kk, s, q, v⟩ vs (k : Int) xk yk HX.out HYf.out _ (HSs.out.on hbW)).mono ?_); rintro e w1 ⟨rfl, b1⟩; clear q0 q1 q2 q3 q4 q5 q6 q7 q8 ql)
                  | (go_at_call 12; (with_reducible refine (out_says true ⟨o, kk, s, q, v⟩ vt (k : Int) yk xk HY.out HXt.out _ ((HSt.out.on hbW).on b1)).mono ?_); rintro e w2 ⟨rfl, b2⟩; have b12 := below_then b1 b2)
                  | (go_at_call 12; (with_reducible refine (out_says true ⟨o, kk, s, q, v⟩ vt ((k : Int) + 1) xk x1 HY1.out HX1t.out _ ((HSt.out.on hbW).on b12)).mono ?_); rintro e w3 ⟨rfl, b3⟩; have b13 := below_then b12 b3)
                  | (go_at_call 12; (with_reducible refine (out_says false ⟨o, kk, s, q, v⟩ vs ((k : Int) + 1) x1 xk HX1.out HY1f.out _ ((HSs.out.on hbW).on b13)).mono ?_); rintro e w4 ⟨rfl, b4⟩; have b14 := below_then b13 b4; have hR4 := hR.on b14; have hbW4 := hbW.trans (b14.mono hbW.size); clear b1 b2 b12 b3 b13 b4 b14 hR hbW)
                  | (at_builtin; refine wpList_append_row rfl (.tmp 126) (.tmp 128) rfl W.heap.size A1 n cA ((symF ⟨o, kk, s, q, v⟩).take n) rfl (hR4.on ((Below.refl w4.heap.size w4).alloc (Nat.le_refl _) (.cells #[.int .u8 xk] 49))).ra w4.heap.size xk rfl (Blk.new w4 _ _) (by omega) (Nat.le_trans hbW4.size (by simp)) ?_; intro A2 cA2 w5 hr5 hg5 ho5; have hR5 := (hR4.on ((Below.refl w4.heap.size w4).alloc (Nat.le_refl _) (.cells #[.int .u8 xk] 49))).push (zs := (symF ⟨o, kk, s, q, v⟩).take (n + 1)) (by rw [HTX.out]; exact hr5) hg5 ho5; have hbW5 := (hR4.on ((Below.refl w4.heap.size w4).alloc (Nat.le_refl _) (.cells #[.int .u8 xk] 49))).below (hbW4.alloc hbW4.size _) hg5 (Nat.le_trans hbW4.size (by simp)); clear hr5 hg5 ho5 hR4 hbW4))
                go_roundw
                case rel => exact ⟨k + 1, n + 1, m, _, _, _, _, by omega, Lib.hid (by have := HNM.out; omega), rfl, rfl, by go_num, hR5, hbW5⟩
                case measure => simp [intOf]; omega
            · by_cases h3 : k ≤ 2
              · as_aux_lemma =>
                  have z0 : ((k : Int) == 0) = false := beq_eq_false_iff_ne.2 (by omega)
                  have z1 : ((k : Int) == 1) = false := beq_eq_false_iff_ne.2 (by omega)
                  have z2 : ((k : Int) == 2) = true := by simp; omega
                  obtain ⟨xk, hxk, hx0, hxl⟩ := HXN.out k (by omega) (by omega)
                  have HX := Lib.hid hxk
                  have xn : (xk != 0) = true := by simpa using hx0
                  have xz : (xk == 0) = false := by simpa using hx0
                  have HTX := Lib.hid (HTK.out n xk (by have := HNM.out; omega) (by rw [← hxl]; congr 1; have := HNM.out; omega))
                  clear hxk hx0 hxl
                  obtain ⟨yk, hyk, hy0, hyl⟩ := HYN.out k (by omega) (by omega)
                  have HY := Lib.hid hyk
                  have yn : (yk != 0) = true := by simpa using hy0
                  have yz : (yk == 0) = false := by simpa using hy0
                  have HTY := Lib.hid (HTK.out m yk (by have := HNM.out; omega) (by rw [← hyl]; congr 1; have := HNM.out; omega))
                  clear hyk hy0 hyl
                  have HYf : Hid (outM (symF ⟨o, kk, s, q, v⟩) (wb (!false)) k = yk) := HY
                  have HXt : Hid (outM (symF ⟨o, kk, s, q, v⟩) (wb (!true)) k = xk) := HX
                  have HY1 := Lib.hid ((HSH.out k).trans HX.out)
                  have HY1f : Hid (outM (symF ⟨o, kk, s, q, v⟩) (wb (!false)) ((k : Int) + 1) = xk) := HY1
                  obtain ⟨x1, hx1⟩ : ∃ x1, outM (symF ⟨o, kk, s, q, v⟩) (wb false) ((k : Int) + 1) = x1 := ⟨_, rfl⟩
                  have HX1 := Lib.hid hx1
                  have HX1t : Hid (outM (symF ⟨o, kk, s, q, v⟩) (wb (!true)) ((k : Int) + 1) = x1) := HX1
                  clear hx1
                  go_wp2_with (first
                    | (go_at_call 12; (with_reducible refine (out_says false ⟨o, kk, s, q, v⟩ vs (k : Int) xk yk HX.out HYf.out _ (HSs.out.on hbW)).mono ?_); rintro e w1 ⟨rfl, b1⟩; clear q0 q1 q2 q3 q4 q5 q6 q7 q8 ql)
                    | (go_at_call 12; (with_reducible refine (out_says true ⟨o, kk, s, q, v⟩ vt (k : Int) yk xk HY.out HXt.out _ ((HSt.out.on hbW).on b1)).mono ?_); rintro e w2 ⟨rfl, b2⟩; have b12 := below_then b1 b2)
                    | (go_at_call 12; (with_reducible refine (out_says true ⟨o, kk, s, q, v⟩ vt ((k : Int) + 1) xk x1 HY1.out HX1t.out _ ((HSt.out.on hbW).on b12)).mono ?_); rintro e w3 ⟨rfl, b3⟩; have b13 := below_then b12 b3)
                    | (go_at_call 12; (with_reducible refine (out_says false ⟨o, kk, s, q, v⟩ vs ((k : Int) + 1) x1 xk HX1.out HY1f.out _ ((HSs.out.on hbW).on b13)).mono ?_); rintro e w4 ⟨rfl, b4⟩; have b14 := below_then b13 b4; have hR4 := hR.on b14; have hbW4 := hbW.trans (b14.mono hbW.size); clear b1 b2 b12 b3 b13 b4 b14 hR hbW)
                    | (at_builtin; refine wpList_append_row rfl (.tmp 126) (.tmp 128) rfl W.heap.size A1 n cA ((symF ⟨o, kk, s, q, v⟩).take n) rfl (hR4.on ((Below.refl w4.heap.size w4).alloc (Nat.le_refl _) (.cells #[.int .u8 xk] 49))).ra w4.heap.size xk rfl (Blk.new w4 _ _) (by omega) (Nat.le_trans hbW4.size (by simp)) ?_; intro A2 cA2 w5 hr5 hg5 ho5; have hR5 := (hR4.on ((Below.refl w4.heap.size w4).alloc (Nat.le_refl _) (.cells #[.int .u8 xk] 49))).push (zs := (symF ⟨o, kk, s, q, v⟩).take (n + 1)) (by rw [HTX.out]; exact hr5) hg5 ho5; have hbW5 := (hR4.on ((Below.refl w4.heap.size w4).alloc (Nat.le_refl _) (.cells #[.int .u8 xk] 49))).below (hbW4.alloc hbW4.size _) hg5 (Nat.le_trans hbW4.size (by simp)); clear hr5 hg5 ho5 hR4 hbW4)
                    | (at_builtin; refine wpList_append_row rfl (.tmp 132) (.tmp 134) rfl W.heap.size B1 m dA ((symF ⟨o, kk, s, q, v⟩).take m) rfl (hR5.on ((Below.refl w5.heap.size w5).alloc (Nat.le_refl _) (.cells #[.int .u8 yk] 49))).rb w5.heap.size yk rfl (Blk.new w5 _ _) (by omega) (Nat.le_trans hbW5.size (by simp)) ?_; intro B2 dA2 w6 hr6 hg6 ho6; have hR6 := ((hR5.on ((Below.refl w5.heap.size w5).alloc (Nat.le_refl _) (.cells #[.int .u8 yk] 49))).swap.push (zs := (symF ⟨o, kk, s, q, v⟩).take (m + 1)) (by rw [HTY.out]; exact hr6) hg6 ho6).swap; have hbW6 := (hR5.on ((Below.refl w5.heap.size w5).alloc (Nat.le_refl _) (.cells #[.int .u8 yk] 49))).swap.below (hbW5.alloc hbW5.size _) hg6 (Nat.le_trans hbW5.size (by simp)); clear hr6 hg6 ho6 hR5 hbW5))
                  go_roundw
                  case rel => exact ⟨k + 1, n + 1, m + 1, _, _, _, _, by omega, Lib.hid (by have := HNM.out; omega), rfl, rfl, by go_num, hR6, hbW6⟩
                  case measure => simp [intOf]; omega
              · by_cases h4 : k ≤ 114
                · as_aux_lemma =>
                    have z0 : ((k : Int) == 0) = false := beq_eq_false_iff_ne.2 (by omega)
                    have z1 : ((k : Int) == 1) = false := beq_eq_false_iff_ne.2 (by omega)
                    have z2 : ((k : Int) == 2) = false := beq_eq_false_iff_ne.2 (by omega)
                    obtain ⟨xk, hxk, hx0, hxl⟩ := HXN.out k (by omega) (by omega)
                    have HX := Lib.hid hxk
                    have xn : (xk != 0) = true := by simpa using hx0
                    have xz : (xk == 0) = false := by simpa using hx0
                    have HTX := Lib.hid (HTK.out n xk (by have := HNM.out; omega) (by rw [← hxl]; congr 1; have := HNM.out; omega))
                    clear hxk hx0 hxl
                    obtain ⟨yk, hyk, hy0, hyl⟩ := HYN.out k (by omega) (by omega)
                    have HY := Lib.hid hyk
                    have yn : (yk != 0) = true := by simpa using hy0
                    have yz : (yk == 0) = false := by simpa using hy0
                    have HTY := Lib.hid (HTK.out m yk (by have := HNM.out; omega) (by rw [← hyl]; congr 1; have := HNM.out; omega))
                    clear hyk hy0 hyl
                    have HYf : Hid (outM (symF ⟨o, kk, s, q, v⟩) (wb (!false)) k = yk) := HY
                    have HXt : Hid (outM (symF ⟨o, kk, s, q, v⟩) (wb (!true)) k = xk) := HX
                    have HY1 := Lib.hid ((HSH.out k).trans HX.out)
                    have HY1f : Hid (outM (symF ⟨o, kk, s, q, v⟩) (wb (!false)) ((k : Int) + 1) = xk) := HY1
                    obtain ⟨x1, hx1⟩ : ∃ x1, outM (symF ⟨o, kk, s, q, v⟩) (wb false) ((k : Int) + 1) = x1 := ⟨_, rfl⟩
                    have HX1 := Lib.hid hx1
                    have HX1t : Hid (outM (symF ⟨o, kk, s, q, v⟩) (wb (!true)) ((k : Int) + 1) = x1) := HX1
                    clear hx1
                    go_wp2_with (first
                      | (go_at_call 12; (with_reducible refine (out_says false ⟨o, kk, s, q, v⟩ vs (k : Int) xk yk HX.out HYf.out _ (HSs.out.on hbW)).mono ?_); rintro e w1 ⟨rfl, b1⟩; clear q0 q1 q2 q3 q4 q5 q6 q7 q8 ql)
                      | (go_at_call 12; (with_reducible refine (out_says true ⟨o, kk, s, q, v⟩ vt (k : Int) yk xk HY.out HXt.out _ ((HSt.out.on hbW).on b1)).mono ?_); rintro e w2 ⟨rfl, b2⟩; have b12 := below_then b1 b2)
                      | (go_at_call 12; (with_reducible refine (out_says true ⟨o, kk, s, q, v⟩ vt ((k : Int) + 1) xk x1 HY1.out HX1t.out _ ((HSt.out.on hbW).on b12)).mono ?_); rintro e w3 ⟨rfl, b3⟩; have b13 := below_then b12 b3)
                      | (go_at_call 12; (with_reducible refine (out_says false ⟨o, kk, s, q, v⟩ vs ((k : Int) + 1) x1 xk HX1.out HY1f.out _ ((HSs.out.on hbW).on b13)).mono ?_); rintro e w4 ⟨rfl, b4⟩; have b14 := below_then b13 b4; have hR4 := hR.on b14; have hbW4 := hbW.trans (b14.mono hbW.size); clear b1 b2 b12 b3 b13 b4 b14 hR hbW)
                      | (at_builtin; refine wpList_append_row rfl (.tmp 126) (.tmp 128) rfl W.heap.size A1 n cA ((symF ⟨o, kk, s, q, v⟩).take n) rfl (hR4.on ((Below.refl w4.heap.size w4).alloc (Nat.le_refl _) (.cells #[.int .u8 xk] 49))).ra w4.heap.size xk rfl (Blk.new w4 _ _) (by omega) (Nat.le_trans hbW4.size (by simp)) ?_; intro A2 cA2 w5 hr5 hg5 ho5; have hR5 := (hR4.on ((Below.refl w4.heap.size w4).alloc (Nat.le_refl _) (.cells #[.int .u8 xk] 49))).push (zs := (symF ⟨o, kk, s, q, v⟩).take (n + 1)) (by rw [HTX.out]; exact hr5) hg5 ho5; have hbW5 := (hR4.on ((Below.refl w4.heap.size w4).alloc (Nat.le_refl _) (.cells #[.int .u8 xk] 49))).below (hbW4.alloc hbW4.size _) hg5 (Nat.le_trans hbW4.size (by simp)); clear hr5 hg5 ho5 hR4 hbW4)
                      | (at_builtin; refine wpList_append_row rfl (.tmp 132) (.tmp 134) rfl W.heap.size B1 m dA ((symF ⟨o, kk, s, q, v⟩).take m) rfl (hR5.on ((Below.refl w5.heap.size w5).alloc (Nat.le_refl _) (.cells #[.int .u8 yk] 49))).rb w5.heap.size yk rfl (Blk.new w5 _ _) (by omega) (Nat.le_trans hbW5.size (by simp)) ?_; intro B2 dA2 w6 hr6 hg6 ho6; have hR6 := ((hR5.on ((Below.refl w5.heap.size w5).alloc (Nat.le_refl _) (.cells #[.int .u8 yk] 49))).swap.push (zs := (symF ⟨o, kk, s, q, v⟩).take (m + 1)) (by rw [HTY.out]; exact hr6) hg6 ho6).swap; have hbW6 := (hR5.on ((Below.refl w5.heap.size w5).alloc (Nat.le_refl _) (.cells #[.int .u8 yk] 49))).swap.below (hbW5.alloc hbW5.size _) hg6 (Nat.le_trans hbW5.size (by simp)); clear hr6 hg6 ho6 hR5 hbW5))
                    go_roundw
                    case rel => exact ⟨k + 1, n + 1, m + 1, _, _, _, _, by omega, Lib.hid (by have := HNM.out; omega), rfl, rfl, by go_num, hR6, hbW6⟩
                    case measure => simp [intOf]; omega
                · by_cases h5 : k ≤ 115
                  · as_aux_lemma =>
                      have z0 : ((k : Int) == 0) = false := beq_eq_false_iff_ne.2 (by omega)
                      have z1 : ((k : Int) == 1) = false := beq_eq_false_iff_ne.2 (by omega)
                      have z2 : ((k : Int) == 2) = false := beq_eq_false_iff_ne.2 (by omega)
                      obtain ⟨xk, exk⟩ : ∃ xk : Int, xk = 0 := ⟨_, rfl⟩
                      have HX := Lib.hid (show outM (symF ⟨o, kk, s, q, v⟩) (wb false) k = xk from by rw [exk]; exact HXZ.out k (by omega))
                      have xn : (xk != 0) = false := by simp [exk]
                      have xz : (xk == 0) = true := by simp [exk]
                      clear exk
                      obtain ⟨yk, hyk, hy0, hyl⟩ := HYN.out k (by omega) (by omega)
                      have HY := Lib.hid hyk
                      have yn : (yk != 0) = true := by simpa using hy0
                      have yz : (yk == 0) = false := by simpa using hy0
                      have HTY := Lib.hid (HTK.out m yk (by have := HNM.out; omega) (by rw [← hyl]; congr 1; have := HNM.out; omega))
                      clear hyk hy0 hyl
                      have HYf : Hid (outM (symF ⟨o, kk, s, q, v⟩) (wb (!false)) k = yk) := HY
                      have HXt : Hid (outM (symF ⟨o, kk, s, q, v⟩) (wb (!true)) k = xk) := HX
                      have HY1 := Lib.hid ((HSH.out k).trans HX.out)
                      have HY1f : Hid (outM (symF ⟨o, kk, s, q, v⟩) (wb (!false)) ((k : Int) + 1) = xk) := HY1
                      obtain ⟨x1, hx1⟩ : ∃ x1, outM (symF ⟨o, kk, s, q, v⟩) (wb false) ((k : Int) + 1) = x1 := ⟨_, rfl⟩
                      have HX1 := Lib.hid hx1
                      have HX1t : Hid (outM (symF ⟨o, kk, s, q, v⟩) (wb (!true)) ((k : Int) + 1) = x1) := HX1
                      clear hx1
                      go_wp2_with (first
                        | (go_at_call 12; (with_reducible refine (out_says false ⟨o, kk, s, q, v⟩ vs (k : Int) xk yk HX.out HYf.out _ (HSs.out.on hbW)).mono ?_); rintro e w1 ⟨rfl, b1⟩; clear q0 q1 q2 q3 q4 q5 q6 q7 q8 ql)
                        | (go_at_call 12; (with_reducible refine (out_says true ⟨o, kk, s, q, v⟩ vt (k : Int) yk xk HY.out HXt.out _ ((HSt.out.on hbW).on b1)).mono ?_); rintro e w2 ⟨rfl, b2⟩; have b12 := below_then b1 b2)
                        | (go_at_call 12; (with_reducible refine (out_says true ⟨o, kk, s, q, v⟩ vt ((k : Int) + 1) xk x1 HY1.out HX1t.out _ ((HSt.out.on hbW).on b12)).mono ?_); rintro e w3 ⟨rfl, b3⟩; have b13 := below_then b12 b3)
                        | (go_at_call 12; (with_reducible refine (out_says false ⟨o, kk, s, q, v⟩ vs ((k : Int) + 1) x1 xk HX1.out HY1f.out _ ((HSs.out.on hbW).on b13)).mono ?_); rintro e w4 ⟨rfl, b4⟩; have b14 := below_then b13 b4; have hR4 := hR.on b14; have hbW4 := hbW.trans (b14.mono hbW.size); clear b1 b2 b12 b3 b13 b4 b14 hR hbW)
                        | (at_builtin; refine wpList_append_row rfl (.tmp 132) (.tmp 134) rfl W.heap.size B1 m dA ((symF ⟨o, kk, s, q, v⟩).take m) rfl (hR4.on ((Below.refl w4.heap.size w4).alloc (Nat.le_refl _) (.cells #[.int .u8 yk] 49))).rb w4.heap.size yk rfl (Blk.new w4 _ _) (by omega) (Nat.le_trans hbW4.size (by simp)) ?_; intro B2 dA2 w6 hr6 hg6 ho6; have hR6 := ((hR4.on ((Below.refl w4.heap.size w4).alloc (Nat.le_refl _) (.cells #[.int .u8 yk] 49))).swap.push (zs := (symF ⟨o, kk, s, q, v⟩).take (m + 1)) (by rw [HTY.out]; exact hr6) hg6 ho6).swap; have hbW6 := (hR4.on ((Below.refl w4.heap.size w4).alloc (Nat.le_refl _) (.cells #[.int .u8 yk] 49))).swap.below (hbW4.alloc hbW4.size _) hg6 (Nat.le_trans hbW4.size (by simp)); clear hr6 hg6 ho6 hR4 hbW4))
                      go_roundw
                      case rel => exact ⟨k + 1, n, m + 1, _, _, _, _, by omega, Lib.hid (by have := HNM.out; omega), rfl, rfl, by go_num, hR6, hbW6⟩
                      case measure => simp [intOf]; omega
                  · as_aux_lemma =>
                      have z0 : ((k : Int) == 0) = false := beq_eq_false_iff_ne.2 (by omega)
                      have z1 : ((k : Int) == 1) = false := beq_eq_false_iff_ne.2 (by omega)
                      have z2 : ((k : Int) == 2) = false := beq_eq_false_iff_ne.2 (by omega)
                      obtain ⟨xk, exk⟩ : ∃ xk : Int, xk = 0 := ⟨_, rfl⟩
                      have HX := Lib.hid (show outM (symF ⟨o, kk, s, q, v⟩) (wb false) k = xk from by rw [exk]; exact HXZ.out k (by omega))
                      have xn : (xk != 0) = false := by simp [exk]
                      have xz : (xk == 0) = true := by simp [exk]
                      clear exk
                      obtain ⟨yk, eyk⟩ : ∃ yk : Int, yk = 0 := ⟨_, rfl⟩
                      have HY := Lib.hid (show outM (symF ⟨o, kk, s, q, v⟩) (wb true) k = yk from by rw [eyk]; exact HYZ.out k (by omega))
                      have yn : (yk != 0) = false := by simp [eyk]
                      have yz : (yk == 0) = true := by simp [eyk]
                      clear eyk
                      have HYf : Hid (outM (symF ⟨o, kk, s, q, v⟩) (wb (!false)) k = yk) := HY
                      have HXt : Hid (outM (symF ⟨o, kk, s, q, v⟩) (wb (!true)) k = xk) := HX
                      have HY1 := Lib.hid ((HSH.out k).trans HX.out)
                      have HY1f : Hid (outM (symF ⟨o, kk, s, q, v⟩) (wb (!false)) ((k : Int) + 1) = xk) := HY1
                      obtain ⟨x1, hx1⟩ : ∃ x1, outM (symF ⟨o, kk, s, q, v⟩) (wb false) ((k : Int) + 1) = x1 := ⟨_, rfl⟩
                      have HX1 := Lib.hid hx1
                      have HX1t : Hid (outM (symF ⟨o, kk, s, q, v⟩) (wb (!true)) ((k : Int) + 1) = x1) := HX1
                      clear hx1
                      go_wp2_with (first
                        | (go_at_call 12; (with_reducible refine (out_says false ⟨o, kk, s, q, v⟩ vs (k : Int) xk yk HX.out HYf.out _ (HSs.out.on hbW)).mono ?_); rintro e w1 ⟨rfl, b1⟩; clear q0 q1 q2 q3 q4 q5 q6 q7 q8 ql)
                        | (go_at_call 12; (with_reducible refine (out_says true ⟨o, kk, s, q, v⟩ vt (k : Int) yk xk HY.out HXt.out _ ((HSt.out.on hbW).on b1)).mono ?_); rintro e w2 ⟨rfl, b2⟩; have b12 := below_then b1 b2)
                        | (go_at_call 12; (with_reducible refine (out_says true ⟨o, kk, s, q, v⟩ vt ((k : Int) + 1) xk x1 HY1.out HX1t.out _ ((HSt.out.on hbW).on b12)).mono ?_); rintro e w3 ⟨rfl, b3⟩; have b13 := below_then b12 b3)
                        | (go_at_call 12; (with_reducible refine (out_says false ⟨o, kk, s, q, v⟩ vs ((k : Int) + 1) x1 xk HX1.out HY1f.out _ ((HSs.out.on hbW).on b13)).mono ?_); rintro e w4 ⟨rfl, b4⟩; have b14 := below_then b13 b4; have hR4 := hR.on b14; have hbW4 := hbW.trans (b14.mono hbW.size); clear b1 b2 b12 b3 b13 b4 b14 hR hbW))
                      go_roundw
                      case rel => exact ⟨k + 1, n, m, _, _, _, _, by omega, Lib.hid (by have := HNM.out; omega), rfl, rfl, by go_num, hR4, hbW4⟩
                      case measure => simp [intOf]; omega
        · have hkd : decide ((k : Int) < c.L) = false := decide_eq_false hlt
          have hn := HNM.out
          obtain rfl : n = 114 := by omega
          obtain rfl : m = 114 := by omega
          clear hn HNM
          have HTA := Lib.hid (show (symF ⟨o, kk, s, q, v⟩).take 114 = (symF ⟨o, kk, s, q, v⟩) from List.take_of_length_le (by rw [HLEN.out]; exact Nat.le_refl _))
          have hcA := owns_cap hR.ra
          have hdA := owns_cap hR.rb
          go_upto_region 31 with (first
            | (go_at_call 17; (with_reducible refine (HRD.out A1 114 cA _ _ rfl hcA HTA.out (lies_of_owns hR.ra)).mono ?_); rintro e w1 ⟨rfl, b1⟩; have b1' := below_al (below_al b1 (.cells #[.int .i64 o, .int .u8 kk, .int .u8 s, .int .u32 q, .int .u32 v] 69)) (.cells #[.bool true, .bool false] 71); have hR1 := hR.on b1'; have hF1 := (Blk.new w1 69 #[.int .i64 o, .int .u8 kk, .int .u8 s, .int .u32 q, .int .u32 v]).alloc (.cells #[.bool true, .bool false] 71); have hT1 := Blk.new (w1.alloc (.cells #[.int .i64 o, .int .u8 kk, .int .u8 s, .int .u32 q, .int .u32 v] 69)) 71 #[.bool true, .bool false]; rw [alloc_size] at hT1; clear q0 q1 q2 q3 q4 q5 q6 q7 q8 ql)
            | (go_at_call 17; (with_reducible refine (HRD.out B1 114 dA _ _ rfl hdA HTA.out (lies_of_owns hR1.rb)).mono ?_); rintro e w2 ⟨rfl, b2⟩; have b2' := below_al (below_al b2 (.cells #[.int .i64 o, .int .u8 kk, .int .u8 s, .int .u32 q, .int .u32 v] 69)) (.cells #[.bool true, .bool false] 71); have hF2 := (Blk.new w2 69 #[.int .i64 o, .int .u8 kk, .int .u8 s, .int .u32 q, .int .u32 v]).alloc (.cells #[.bool true, .bool false] 71); have hT2 := Blk.new (w2.alloc (.cells #[.int .i64 o, .int .u8 kk, .int .u8 s, .int .u32 q, .int .u32 v] 69)) 71 #[.bool true, .bool false]; rw [alloc_size] at hT2; have b12 := below_then b1' b2')
            | (go_at_call 11; (with_reducible refine (sends_says false ⟨o, kk, s, q, v⟩ vs _ ((HSs.out.on hbW).on b12)).mono ?_); rintro e w3 ⟨rfl, b3⟩; have b3' := below_al b3 (.cells #[.int .u8 kk, .int .u8 s, .int .u32 q, .int .u32 v] 30); have HP8 := Lib.hid (Blk.new w3 30 #[.int .u8 kk, .int .u8 s, .int .u32 q, .int .u32 v]); have HF1 := Lib.hid ((hF1.on b2').on b3'); have HT1 := Lib.hid ((hT1.on b2').on b3'); have HF2 := Lib.hid (hF2.on b3'); have HT2 := Lib.hid (hT2.on b3'); have b13 := hbW.trans ((below_then b12 b3').mono hbW.size); have HP9 := Lib.hid (HP.out.on b13); have HW9 := Lib.hid (HW.out.on b13); have HB9 := Lib.hid (below_then HB.out b13); clear b1 b1' b2 b2' b3 b3' b12 b13 hF1 hT1 hF2 hT2 hR hR1 hbW HP HW HB HSs HSt))
          refine Reg.wp_slots (fun t => t == 6 || decide (191 ≤ t)) (by kernel_rfl) (by kernel_rfl) (by kernel_rfl) (fun zz => (Reg.tbl [
            (191, .is (.int .i64 0)),
            (192, .is (.bool true)),
            (193, .is (.bool true)),
            (194, .is (.int .i64 0)),
            (195, .is (.bool true)),
            (196, .is (.bool true)),
            (197, .is (.bool true)),
            (198, .is (.agg #[.bool true, .bool false])),
            (199, .is (.bool true)),
            (200, .is (.bool true)),
            (201, .is (.bool true)),
            (202, .is (.agg #[.bool true, .bool false])),
            (203, .is (.bool true)),
            (204, .is (.bool true)),
            (205, .is (.bool true)),
            (206, .is (.agg #[.int .i64 o, .int .u8 kk, .int .u8 s, .int .u32 q, .int .u32 v])),
            (207, .is (.int .i64 o)),
            (208, .is (.agg #[.int .u8 kk, .int .u8 s, .int .u32 q, .int .u32 v])),
            (209, .is (.agg #[.int .i64 o, .int .u8 kk, .int .u8 s, .int .u32 q, .int .u32 v])),
            (210, .is (.bool true)),
            (211, .is (.bool true)),
            (212, .is (.bool true)),
            (213, .is (.agg #[.int .i64 o, .int .u8 kk, .int .u8 s, .int .u32 q, .int .u32 v])),
            (214, .is (.agg #[.int .i64 o, .int .u8 kk, .int .u8 s, .int .u32 q, .int .u32 v])),
            (215, .is (.bool true)),
            (216, .is (.bool true)),
            (217, .is (.bool true)),
            (218, .is (.bool true)),
            (219, .is (.bool true)),
            (220, .is (.bool true)),
            (221, .is (.agg #[.int .u8 kk, .int .u8 s, .int .u32 q, .int .u32 v])),
            (222, .is (.agg #[.int .u8 kk, .int .u8 s, .int .u32 q, .int .u32 v])),
            (223, .is (.bool true)),
            (224, .is (.bool true)),
            (225, .is (.bool true)),
            (226, .is (.bool true)),
            (227, .is (.bool true)),
            (6, .is (.bool true))] zz).P) (fun zz => (Reg.tbl _ zz).on) ?_ ?_
          · simp only [Reg.frame, Reg.over, Nat.reduceAdd, Nat.reduceBEq, Nat.reduceLeDiff, decide_true, decide_false, Bool.or_true, Bool.or_false, if_true, Bool.false_eq_true, if_false]
            refine ⟨?_, ?_, ?_, ?_, ?_, ?_, ?_, ?_, ?_, ?_, ?_, ?_, ?_, ?_, ?_, ?_, ?_, ?_, ?_, ?_, ?_, ?_, ?_, ?_, ?_, ?_, ?_, ?_, ?_, ?_, ?_, ?_, ?_, ?_, ?_, ?_, ?_, ?_, trivial⟩
            · intro x u hbu hd
              refine wpOp_step rfl fun K hK => ?_
              go_simp
              exact hK _ _ ⟨_, rfl, Below.refl _ _, fun d hd => by cases hd; exact rfl⟩
            · intro x u hbu hd
              have h191 : x 191 = .int .i64 0 := hd 0 (by decide)
              refine wpOp_step rfl fun K hK => ?_
              simp only [h191] at hK ⊢
              go_simp
              exact hK _ _ ⟨_, rfl, Below.refl _ _, fun d hd => by cases hd; exact rfl⟩
            · intro x u hbu hd
              have h192 : x 192 = .bool true := hd 1 (by decide)
              refine wpOp_step rfl fun K hK => ?_
              simp only [h192] at hK ⊢
              go_simp
              exact hK _ _ ⟨_, rfl, Below.refl _ _, fun d hd => by cases hd; exact rfl⟩
            · intro x u hbu hd
              have h193 : x 193 = .bool true := hd 2 (by decide)
              refine wpOp_step rfl fun K hK => ?_
              simp only [h193] at hK ⊢
              go_simp
              exact hK _ _ ⟨_, rfl, Below.refl _ _, fun d hd => by cases hd; exact rfl⟩
            · intro x u hbu hd
              have h194 : x 194 = .int .i64 0 := hd 3 (by decide)
              have h193 : x 193 = .bool true := hd 2 (by decide)
              refine wpOp_step rfl fun K hK => ?_
              simp only [h194, h193] at hK ⊢
              go_simp
              exact hK _ _ ⟨_, rfl, Below.refl _ _, fun d hd => by cases hd; exact rfl⟩
            · intro x u hbu hd
              have h193 : x 193 = .bool true := hd 2 (by decide)
              have h195 : x 195 = .bool true := hd 4 (by decide)
              refine wpOp_step rfl fun K hK => ?_
              simp only [h193, h195] at hK ⊢
              go_simp
              exact hK _ _ ⟨_, rfl, Below.refl _ _, fun d hd => by cases hd; exact rfl⟩
            · intro x u hbu hd
              have h196 : x 196 = .bool true := hd 5 (by decide)
              refine wpOp_step rfl fun K hK => ?_
              simp only [h196] at hK ⊢
              go_simp
              exact hK _ _ ⟨_, rfl, Below.refl _ _, fun d hd => by cases hd; exact rfl⟩
            · intro x u hbu hd
              have h197 : x 197 = .bool true := hd 6 (by decide)
              have t0 := ((HT1.out.on hbu).cell 0).trans rfl
              have t1 := ((HT1.out.on hbu).cell 1).trans rfl
              have tl := (HT1.out.on hbu).lt
              refine wpOp_step rfl fun K hK => ?_
              simp only [h197] at hK ⊢
              go_simp
              exact hK _ _ ⟨_, rfl, Below.refl _ _, fun d hd => by cases hd; exact rfl⟩
            · intro x u hbu hd
              have h198 : x 198 = .agg #[.bool true, .bool false] := hd 7 (by decide)
              have h197 : x 197 = .bool true := hd 6 (by decide)
              refine wpOp_step rfl fun K hK => ?_
              simp only [h198, h197] at hK ⊢
              go_simp
              with_reducible refine (tgood_any true false _).mono ?_
              rintro e u' ⟨rfl, hb'⟩
              exact hK _ _ ⟨_, rfl, hb', fun d hd => by cases hd; exact rfl⟩
            · intro x u hbu hd
              have h197 : x 197 = .bool true := hd 6 (by decide)
              have h199 : x 199 = .bool true := hd 8 (by decide)
              refine wpOp_step rfl fun K hK => ?_
              simp only [h197, h199] at hK ⊢
              go_simp
              exact hK _ _ ⟨_, rfl, Below.refl _ _, fun d hd => by cases hd; exact rfl⟩
            · intro x u hbu hd
              have h200 : x 200 = .bool true := hd 9 (by decide)
              refine wpOp_step rfl fun K hK => ?_
              simp only [h200] at hK ⊢
              go_simp
              exact hK _ _ ⟨_, rfl, Below.refl _ _, fun d hd => by cases hd; exact rfl⟩
            · intro x u hbu hd
              have h201 : x 201 = .bool true := hd 10 (by decide)
              have t0 := ((HT2.out.on hbu).cell 0).trans rfl
              have t1 := ((HT2.out.on hbu).cell 1).trans rfl
              have tl := (HT2.out.on hbu).lt
              refine wpOp_step rfl fun K hK => ?_
              simp only [h201] at hK ⊢
              go_simp
              exact hK _ _ ⟨_, rfl, Below.refl _ _, fun d hd => by cases hd; exact rfl⟩
            · intro x u hbu hd
              have h202 : x 202 = .agg #[.bool true, .bool false] := hd 11 (by decide)
              have h201 : x 201 = .bool true := hd 10 (by decide)
              refine wpOp_step rfl fun K hK => ?_
              simp only [h202, h201] at hK ⊢
              go_simp
              with_reducible refine (tgood_any true false _).mono ?_
              rintro e u' ⟨rfl, hb'⟩
              exact hK _ _ ⟨_, rfl, hb', fun d hd => by cases hd; exact rfl⟩
            · intro x u hbu hd
              have h201 : x 201 = .bool true := hd 10 (by decide)
              have h203 : x 203 = .bool true := hd 12 (by decide)
              refine wpOp_step rfl fun K hK => ?_
              simp only [h201, h203] at hK ⊢
              go_simp
              exact hK _ _ ⟨_, rfl, Below.refl _ _, fun d hd => by cases hd; exact rfl⟩
            · intro x u hbu hd
              have h204 : x 204 = .bool true := hd 13 (by decide)
              refine wpOp_step rfl fun K hK => ?_
              simp only [h204] at hK ⊢
              go_simp
              exact hK _ _ ⟨_, rfl, Below.refl _ _, fun d hd => by cases hd; exact rfl⟩
            · intro x u hbu hd
              have h205 : x 205 = .bool true := hd 14 (by decide)
              obtain ⟨f0, f1, f2, f3, f4, fl⟩ := (HF1.out.on hbu).fr5
              refine wpOp_step rfl fun K hK => ?_
              simp only [h205] at hK ⊢
              go_simp
              exact hK _ _ ⟨_, rfl, Below.refl _ _, fun d hd => by cases hd; exact rfl⟩
            · intro x u hbu hd
              have h205 : x 205 = .bool true := hd 14 (by decide)
              refine wpOp_step rfl fun K hK => ?_
              simp only [h205] at hK ⊢
              go_simp
              exact hK _ _ ⟨_, rfl, Below.refl _ _, fun d hd => by cases hd; exact rfl⟩
            · intro x u hbu hd
              have h205 : x 205 = .bool true := hd 14 (by decide)
              obtain ⟨a0, a1, a2, a3, al⟩ := (HP9.out.on hbu).py4
              refine wpOp_step rfl fun K hK => ?_
              simp only [h205] at hK ⊢
              go_simp
              exact hK _ _ ⟨_, rfl, Below.refl _ _, fun d hd => by cases hd; exact rfl⟩
            · intro x u hbu hd
              have h207 : x 207 = .int .i64 o := hd 16 (by decide)
              have h208 : x 208 = .agg #[.int .u8 kk, .int .u8 s, .int .u32 q, .int .u32 v] := hd 17 (by decide)
              have h205 : x 205 = .bool true := hd 14 (by decide)
              refine wpOp_step rfl fun K hK => ?_
              simp only [h207, h208, h205] at hK ⊢
              go_simp
              with_reducible refine (law5_of_any (⟨o, kk, s, q, v⟩ : Fr) _).mono ?_
              rintro e u' ⟨rfl, hb'⟩
              exact hK _ _ ⟨_, rfl, hb', fun d hd => by cases hd; exact rfl⟩
            · intro x u hbu hd
              have h206 : x 206 = .agg #[.int .i64 o, .int .u8 kk, .int .u8 s, .int .u32 q, .int .u32 v] := hd 15 (by decide)
              have h209 : x 209 = .agg #[.int .i64 o, .int .u8 kk, .int .u8 s, .int .u32 q, .int .u32 v] := hd 18 (by decide)
              have h205 : x 205 = .bool true := hd 14 (by decide)
              refine wpOp_step rfl fun K hK => ?_
              simp only [h206, h209, h205] at hK ⊢
              go_simp
              exact hK _ _ ⟨_, rfl, Below.refl _ _, fun d hd => by cases hd; exact rfl⟩
            · intro x u hbu hd
              have h205 : x 205 = .bool true := hd 14 (by decide)
              have h210 : x 210 = .bool true := hd 19 (by decide)
              refine wpOp_step rfl fun K hK => ?_
              simp only [h205, h210] at hK ⊢
              go_simp
              exact hK _ _ ⟨_, rfl, Below.refl _ _, fun d hd => by cases hd; exact rfl⟩
            · intro x u hbu hd
              have h211 : x 211 = .bool true := hd 20 (by decide)
              refine wpOp_step rfl fun K hK => ?_
              simp only [h211] at hK ⊢
              go_simp
              exact hK _ _ ⟨_, rfl, Below.refl _ _, fun d hd => by cases hd; exact rfl⟩
            · intro x u hbu hd
              have h212 : x 212 = .bool true := hd 21 (by decide)
              obtain ⟨f0, f1, f2, f3, f4, fl⟩ := (HF2.out.on hbu).fr5
              refine wpOp_step rfl fun K hK => ?_
              simp only [h212] at hK ⊢
              go_simp
              exact hK _ _ ⟨_, rfl, Below.refl _ _, fun d hd => by cases hd; exact rfl⟩
            · intro x u hbu hd
              have h212 : x 212 = .bool true := hd 21 (by decide)
              obtain ⟨f0, f1, f2, f3, f4, fl⟩ := (HF1.out.on hbu).fr5
              refine wpOp_step rfl fun K hK => ?_
              simp only [h212] at hK ⊢
              go_simp
              exact hK _ _ ⟨_, rfl, Below.refl _ _, fun d hd => by cases hd; exact rfl⟩
            · intro x u hbu hd
              have h213 : x 213 = .agg #[.int .i64 o, .int .u8 kk, .int .u8 s, .int .u32 q, .int .u32 v] := hd 22 (by decide)
              have h214 : x 214 = .agg #[.int .i64 o, .int .u8 kk, .int .u8 s, .int .u32 q, .int .u32 v] := hd 23 (by decide)
              have h212 : x 212 = .bool true := hd 21 (by decide)
              refine wpOp_step rfl fun K hK => ?_
              simp only [h213, h214, h212] at hK ⊢
              go_simp
              exact hK _ _ ⟨_, rfl, Below.refl _ _, fun d hd => by cases hd; exact rfl⟩
            · intro x u hbu hd
              have h212 : x 212 = .bool true := hd 21 (by decide)
              have h215 : x 215 = .bool true := hd 24 (by decide)
              refine wpOp_step rfl fun K hK => ?_
              simp only [h212, h215] at hK ⊢
              go_simp
              exact hK _ _ ⟨_, rfl, Below.refl _ _, fun d hd => by cases hd; exact rfl⟩
            · intro x u hbu hd
              have h216 : x 216 = .bool true := hd 25 (by decide)
              refine wpOp_step rfl fun K hK => ?_
              simp only [h216] at hK ⊢
              go_simp
              exact hK _ _ ⟨_, rfl, Below.refl _ _, fun d hd => by cases hd; exact rfl⟩
            · intro x u hbu hd
              have h217 : x 217 = .bool true := hd 26 (by decide)
              refine wpOp_step rfl fun K hK => ?_
              simp only [h217] at hK ⊢
              go_simp
              exact hK _ _ ⟨_, rfl, Below.refl _ _, fun d hd => by cases hd; exact rfl⟩
            · intro x u hbu hd
              have h217 : x 217 = .bool true := hd 26 (by decide)
              have h218 : x 218 = .bool true := hd 27 (by decide)
              refine wpOp_step rfl fun K hK => ?_
              simp only [h217, h218] at hK ⊢
              go_simp
              exact hK _ _ ⟨_, rfl, Below.refl _ _, fun d hd => by cases hd; exact rfl⟩
            · intro x u hbu hd
              have h219 : x 219 = .bool true := hd 28 (by decide)
              refine wpOp_step rfl fun K hK => ?_
              simp only [h219] at hK ⊢
              go_simp
              exact hK _ _ ⟨_, rfl, Below.refl _ _, fun d hd => by cases hd; exact rfl⟩
            · intro x u hbu hd
              have h220 : x 220 = .bool true := hd 29 (by decide)
              obtain ⟨a0, a1, a2, a3, al⟩ := (HP8.out.on hbu).py4
              refine wpOp_step rfl fun K hK => ?_
              simp only [h220] at hK ⊢
              go_simp
              exact hK _ _ ⟨_, rfl, Below.refl _ _, fun d hd => by cases hd; exact rfl⟩
            · intro x u hbu hd
              have h220 : x 220 = .bool true := hd 29 (by decide)
              obtain ⟨a0, a1, a2, a3, al⟩ := (HP9.out.on hbu).py4
              refine wpOp_step rfl fun K hK => ?_
              simp only [h220] at hK ⊢
              go_simp
              exact hK _ _ ⟨_, rfl, Below.refl _ _, fun d hd => by cases hd; exact rfl⟩
            · intro x u hbu hd
              have h221 : x 221 = .agg #[.int .u8 kk, .int .u8 s, .int .u32 q, .int .u32 v] := hd 30 (by decide)
              have h222 : x 222 = .agg #[.int .u8 kk, .int .u8 s, .int .u32 q, .int .u32 v] := hd 31 (by decide)
              have h220 : x 220 = .bool true := hd 29 (by decide)
              refine wpOp_step rfl fun K hK => ?_
              simp only [h221, h222, h220] at hK ⊢
              go_simp
              exact hK _ _ ⟨_, rfl, Below.refl _ _, fun d hd => by cases hd; exact rfl⟩
            · intro x u hbu hd
              have h220 : x 220 = .bool true := hd 29 (by decide)
              have h223 : x 223 = .bool true := hd 32 (by decide)
              refine wpOp_step rfl fun K hK => ?_
              simp only [h220, h223] at hK ⊢
              go_simp
              exact hK _ _ ⟨_, rfl, Below.refl _ _, fun d hd => by cases hd; exact rfl⟩
            · intro x u hbu hd
              have h224 : x 224 = .bool true := hd 33 (by decide)
              refine wpOp_step rfl fun K hK => ?_
              simp only [h224] at hK ⊢
              go_simp
              exact hK _ _ ⟨_, rfl, Below.refl _ _, fun d hd => by cases hd; exact rfl⟩
            · intro x u hbu hd
              have h225 : x 225 = .bool true := hd 34 (by decide)
              refine wpOp_step rfl fun K hK => ?_
              simp only [h225] at hK ⊢
              go_simp
              with_reducible refine (lives_sn _ (HW9.out.on hbu)).mono ?_
              rintro e u' ⟨rfl, hb'⟩
              exact hK _ _ ⟨_, rfl, hb', fun d hd => by cases hd; exact rfl⟩
            · intro x u hbu hd
              have h225 : x 225 = .bool true := hd 34 (by decide)
              have h226 : x 226 = .bool true := hd 35 (by decide)
              refine wpOp_step rfl fun K hK => ?_
              simp only [h225, h226] at hK ⊢
              go_simp
              exact hK _ _ ⟨_, rfl, Below.refl _ _, fun d hd => by cases hd; exact rfl⟩
            · intro x u hbu hd
              have h227 : x 227 = .bool true := hd 36 (by decide)
              refine wpOp_step rfl fun K hK => ?_
              simp only [h227] at hK ⊢
              go_simp
              exact hK _ _ ⟨_, rfl, Below.refl _ _, fun d hd => by cases hd; exact rfl⟩
          · intro y9 u9 hbu hall
            have h6 : y9 6 = .bool true := hall 37 (by decide)
            simp only [Reg.frame, Reg.over, Nat.reduceAdd, Nat.reduceBEq, Nat.reduceLeDiff, decide_true, decide_false, Bool.or_true, Bool.or_false, if_true, Bool.false_eq_true, if_false, h6]
            have hb9 := below_then HB9.out hbu
            clear hbu hall
            go_wp2_with fail
            go_ret
            exact ⟨rfl, hb9⟩
theorem sendersBoth_walk (c : Cf) (x0 kd s q v : Int) (w : World) (hw : Laid2 w) (hr : CfRaw w c) (h0 : (Lit.int .u8 x0).wf = true) (h1 : (Lit.int .u8 kd).wf = true) (h2 : (Lit.int .u8 s).wf = true) (h3 : (Lit.int .u32 q).wf = true) (h4 : (Lit.int .u32 v).wf = true) :
    Calls Tryd.prog 5 #[.agg #[.int .i64 c.N, .slice c.pA c.pn c.pc, .slice c.sA c.sn c.sc, .int .i64 c.L, .slice c.bA c.bn c.bc, .slice c.tA c.tn c.tc, .int .i64 c.M, .int .i64 c.G, .int .i64 c.F], .int .u8 x0, .agg #[.int .u8 kd, .int .u8 s, .int .u32 q, .int .u32 v]] w fun e w' => e = .returned (.bool true) ∧ Below w.heap.size w w' := by
  have q0 := bounds_u8 h0
  have q1 := bounds_u8 h1
  have q2 := bounds_u8 h2
  have q3 := bounds_u32 h3
  have q4 := bounds_u32 h4
  rcases raw_cases hr with hn | ⟨hc, hg, h0⟩
  · exact sendersBoth_none c x0 kd s q v w hw hn
  · exact sendersBoth_yes c x0 kd s q v w hw hc hg h0 q0.1 q0.2 q1.1 q1.2 q2.1 q2.2 q3.1 (by have := q3.2; omega) q4.1 (by have := q4.2; omega)
end Go.Proofs.YtbfgdphfeifglaaDoor

