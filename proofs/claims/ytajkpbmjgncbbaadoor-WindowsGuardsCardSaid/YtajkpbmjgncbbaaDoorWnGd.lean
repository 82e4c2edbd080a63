/-
  The law WindowsGuards, walked: an owner's guards are the neighbours of its halves that are no halves of it, one on each side; each has its two sources in the direction for halves of it: true; nothing that was there has turned. Conditions: the config's reading; both tables are as the program's text lays them.
-/
import Derived.Test.YtajkpbmjgncbbaaDoorWnMt
import Derived.Deep.Cut
import Derived.Deep.CutRange
namespace Go.Proofs.YtajkpbmjgncbbaaDoor
open Go.RowKit Rg
set_option linter.unusedVariables false

theorem netPair_is (v : Value) (N : Int) (P : List Int) (x p : Int) (hp : pairM N P x = p) (w : World) (hn : NetP w v N P) (hw : Ways w) :
    Calls Tryd.prog 21 #[v, .int .i64 x] w fun e w' => e = .returned (.int .i64 p) ∧ Below w.heap.size w w' := by
  obtain ⟨c, h1, rfl, rfl, h4⟩ := hn
  exact pair_is v c x p hp w h1 hw
/-- Halves are those at places 0 and 1. -/
theorem half_iff {n d f y : Int} (h : 4 ≤ n ∧ n ≤ 16 ∧ 0 ≤ d ∧ d < 2 ∧ 0 ≤ f ∧ f < n ∧ 0 ≤ y ∧ y < n) : placeM n d f y ≤ 1 ↔ hitB n y f = true := by
  rw [hit_iff ⟨h.1, h.2.1⟩ ⟨h.2.2.2.2.1, h.2.2.2.2.2.1⟩, place_of h]
  have hd : d = 0 ∨ d = 1 := by omega
  have e0 := mod_near n (f + 1) (by omega) (by omega)
  rcases hd with rfl | rfl
  · rw [sg0]
    have e1 := mod_near n (y - f + 0) (by omega) (by omega)
    omega
  · rw [sg1]
    have e1 := mod_near n (-(y - f) + 1) (by omega) (by omega)
    omega
/-- A node is of a pair just if it is a half of it. -/
theorem pair_iff {N : Int} {P : List Int} {y : Int} {q : Nat} (hN : 4 ≤ N ∧ N ≤ 16) (h : okP N P) (hq : q < P.length) : pairM N P y = q ↔ hitB N y (P.getD q 0) = true := by
  constructor
  · intro e
    rcases pair_cases N P y with ⟨e1, _⟩ | ⟨q', h1, h2, h3⟩
    · omega
    · obtain rfl : q' = q := by omega
      exact h3
  · exact pair_of hN h hq
/-- Halves of a pair, of the nodes below i. -/
def halfN (N f i : Int) : Int := (if f < i then 1 else 0) + (if (f + 1) % N < i then 1 else 0)
theorem halfN_zero {N f : Int} (h : 4 ≤ N ∧ 0 ≤ f ∧ f < N) : halfN N f 0 = 0 := by
  have := mod_bd (f + 1) N (by omega)
  unfold halfN
  rw [if_neg (by omega), if_neg (by omega)]; rfl
theorem halfN_all {N f : Int} (h : 4 ≤ N ∧ 0 ≤ f ∧ f < N) : halfN N f N = 2 := by
  have := mod_bd (f + 1) N (by omega)
  unfold halfN
  rw [if_pos (by omega), if_pos (by omega)]; rfl
theorem halfN_next {N f i : Int} (h : 4 ≤ N ∧ N ≤ 16 ∧ 0 ≤ f ∧ f < N) : halfN N f (i + 1) = halfN N f i + if hitB N i f = true then 1 else 0 := by
  have e0 := mod1 (N := N) (a := f) h.1 ⟨h.2.2.1, h.2.2.2⟩
  have e1 := hit_iff (x := i) ⟨h.1, h.2.1⟩ ⟨h.2.2.1, h.2.2.2⟩
  unfold halfN
  by_cases hh : hitB N i f = true
  · have := e1.1 hh
    rw [if_pos hh]
    split <;> split <;> split <;> split <;> omega
  · have : ¬ (i = f ∨ i = (f + 1) % N) := fun k => hh (e1.2 k)
    rw [if_neg hh]
    split <;> split <;> split <;> split <;> omega

/-- A guard, its pair, and its sources. -/
theorem guard_all {c : Cf} (h0 : newE c = 0) (hl : c.P.length = c.pn) {d p : Int} (hd : d = 0 ∨ d = 1) (hp : 0 ≤ p ∧ p < c.pn) :
    ∃ g q y1 y2, guM c.N d (atM c.P p) = g ∧ 0 ≤ g ∧ g < c.N ∧ ofW c.N c.P d p g = wnM 2 ∧ ofWE c.N c.P d p g = 0 ∧ pairM c.N c.P g = q ∧ q ≠ p ∧ sourceM c.N d g 1 = y1 ∧ pairM c.N c.P y1 = p ∧ sourceM c.N d g 2 = y2 ∧ pairM c.N c.P y2 = p := by
  have ok := newE_ok.1 h0
  have hN := ok.nodes
  obtain ⟨n, rfl⟩ : ∃ n : Nat, p = n := ⟨p.toNat, by omega⟩
  have hn : n < c.P.length := by omega
  have hf := okP_at ok.okP n hn
  have ef := atM_nat c.P n hn
  rw [ef]
  obtain ⟨f, hff⟩ : ∃ f, f = c.P.getD n 0 := ⟨_, rfl⟩
  rw [← hff] at hf ef ⊢
  have hg0 : 0 ≤ guM c.N d f ∧ guM c.N d f < c.N := step_in _ ⟨hN.1, hN.2, by omega, hf.1, hf.2⟩
  have hpl : placeM c.N d f (guM c.N d f) = 2 := (gu_iff hd hg0.1 hg0.2).2 rfl
  obtain ⟨g, hg⟩ : ∃ g, g = guM c.N d f := ⟨_, rfl⟩
  rw [← hg] at hg0 hpl ⊢
  have hA : 4 ≤ c.N ∧ c.N ≤ 16 ∧ 0 ≤ d ∧ d < 2 ∧ 0 ≤ f ∧ f < c.N ∧ 0 ≤ g ∧ g < c.N := by omega
  have hof := of_yes (N := c.N) (P := c.P) (d := d) (o := n) (x := g) (k := 2) (by omega) (by rw [plM, ef, hpl]) (by omega)
  have src : ∀ t, t = 1 ∨ t = 2 → pairM c.N c.P (sourceM c.N d g t) = n := fun t ht => by
    have hb := place_back hA ht (by omega)
    have hs : 0 ≤ sourceM c.N d g t ∧ sourceM c.N d g t < c.N := by
      rw [sourceM, if_pos (hop_iff.2 ht)]
      exact step_in _ ⟨hN.1, hN.2, by omega, hg0.1, hg0.2⟩
    rw [pair_iff ⟨hN.1, hN.2⟩ ok.okP hn, ← hff, ← half_iff (n := c.N) (d := d) ⟨hN.1, hN.2, by omega, by omega, hf.1, hf.2, hs.1, hs.2⟩]
    omega
  refine ⟨g, _, _, _, rfl, hg0.1, hg0.2, hof.1, hof.2, rfl, fun e => ?_, rfl, src 1 (.inl rfl), rfl, src 2 (.inr rfl)⟩
  rw [pair_iff ⟨hN.1, hN.2⟩ ok.okP hn, ← hff, ← half_iff (n := c.N) (d := d) hA] at e
  omega
/-- A node's windows both ways, and its pair. -/
theorem node_all {c : Cf} (h0 : newE c = 0) (hl : c.P.length = c.pn) {p i : Int} (hp : 0 ≤ p ∧ p < c.pn) (hi : 0 ≤ i ∧ i < c.N) :
    ∃ ka kb q, atM c.P p = atM c.P p ∧ 0 ≤ ka ∧ ka ≤ 15 ∧ 0 ≤ kb ∧ kb ≤ 15 ∧ ofW c.N c.P 0 p i = wnM ka ∧ ofWE c.N c.P 0 p i = 0 ∧ ofW c.N c.P 1 p i = wnM kb ∧ ofWE c.N c.P 1 p i = 0 ∧ pairM c.N c.P i = q ∧
      ((roleM ka = 1 ∧ roleM kb = 1 ∧ q = p ∧ halfN c.N (atM c.P p) (i + 1) = halfN c.N (atM c.P p) i + 1) ∨ (roleM ka ≠ 1 ∧ roleM kb ≠ 1 ∧ q ≠ p ∧ halfN c.N (atM c.P p) (i + 1) = halfN c.N (atM c.P p) i)) := by
  have ok := newE_ok.1 h0
  have hN := ok.nodes
  obtain ⟨ka, f, hf, hf0, hf1, hka, a0, a1, hwa, hea⟩ := of_ok h0 hl (d := 0) (o := p) (x := i) (.inl rfl) hp hi
  obtain ⟨kb, f', hf', -, -, hkb, b0, b1, hwb, heb⟩ := of_ok h0 hl (d := 1) (o := p) (x := i) (.inr rfl) hp hi
  obtain rfl : f' = f := hf'.symm.trans hf
  have hh := halfN_next (N := c.N) (f := f') (i := i) ⟨hN.1, hN.2, hf0, hf1⟩
  have ia := half_iff (n := c.N) (d := 0) (f := f') (y := i) (by omega)
  have ib := half_iff (n := c.N) (d := 1) (f := f') (y := i) (by omega)
  rw [hka] at ia
  rw [hkb] at ib
  obtain ⟨n, rfl⟩ : ∃ n : Nat, p = n := ⟨p.toNat, by omega⟩
  have hn : n < c.P.length := by omega
  have ip := pair_iff (y := i) ⟨hN.1, hN.2⟩ ok.okP hn
  rw [← atM_nat c.P n hn, hf] at ip
  rw [hf]
  refine ⟨ka, kb, _, rfl, a0, by omega, b0, by omega, hwa, hea, hwb, heb, rfl, ?_⟩
  by_cases hit : hitB c.N i f' = true
  · rw [if_pos hit] at hh
    exact .inl ⟨role_half.2 (ia.2 hit), role_half.2 (ib.2 hit), ip.2 hit, hh⟩
  · rw [if_neg hit] at hh
    exact .inr ⟨fun e => hit (ia.1 (role_half.1 e)), fun e => hit (ib.1 (role_half.1 e)), fun e => hit (ip.1 e), by omega⟩

theorem windowsGuards_none (c : Cf) (x0 : Int) (w : World) (hw : Laid2 w) (HN : ∀ u, Below w.heap.size w u → Calls Tryd.prog 8 #[.agg #[.int .i64 c.N, .slice c.pA c.pn c.pc, .slice c.sA c.sn c.sc, .int .i64 c.L, .slice c.bA c.bn c.bc, .slice c.tA c.tn c.tc, .int .i64 c.M, .int .i64 c.G, .int .i64 c.F]] u fun e w' => e = .returned (.pointer none) ∧ Below u.heap.size u w') :
    Calls Tryd.prog 7 #[.agg #[.int .i64 c.N, .slice c.pA c.pn c.pc, .slice c.sA c.sn c.sc, .int .i64 c.L, .slice c.bA c.bn c.bc, .slice c.tA c.tn c.tc, .int .i64 c.M, .int .i64 c.G, .int .i64 c.F], .int .u8 x0] w fun e w' => e = .returned (.bool true) ∧ Below w.heap.size w w' := by
  have hB0 : Below w.heap.size w (w.alloc (.cells #[.int .i64 c.N, .slice c.pA c.pn c.pc, .slice c.sA c.sn c.sc, .int .i64 c.L, .slice c.bA c.bn c.bc, .slice c.tA c.tn c.tc, .int .i64 c.M, .int .i64 c.G, .int .i64 c.F] 25)) := below_al (Below.refl w.heap.size w) (.cells #[.int .i64 c.N, .slice c.pA c.pn c.pc, .slice c.sA c.sn c.sc, .int .i64 c.L, .slice c.bA c.bn c.bc, .slice c.tA c.tn c.tc, .int .i64 c.M, .int .i64 c.G, .int .i64 c.F] 25)
  have HM := Lib.hid HN
  clear HN
  go_enter Tryd.func7, Tryd.ntmps7
  go_wp2_with (first
    | (go_at_call 8; (with_reducible refine (HM.out _ hB0).mono ?_); rintro e w1 ⟨rfl, b1⟩; have hB1 := below_then hB0 b1)
    | (go_at_call 9; (with_reducible refine (lives_wn _ (hw.on hB1)).mono ?_); rintro e w2 ⟨rfl, b2⟩))
  go_ret
  exact ⟨rfl, below_then hB1 b2⟩
set_option maxRecDepth 100000 in
set_option maxHeartbeats 4000000 in
theorem windowsGuards_yes (c : Cf) (x0 : Int) (w : World) (hw : Laid2 w) (hc : CfIn w c) (hg : greatB c = false) (h0 : newE c = 0) (h00 : 0 ≤ x0) (h01 : x0 ≤ 255) :
    Calls Tryd.prog 7 #[.agg #[.int .i64 c.N, .slice c.pA c.pn c.pc, .slice c.sA c.sn c.sc, .int .i64 c.L, .slice c.bA c.bn c.bc, .slice c.tA c.tn c.tc, .int .i64 c.M, .int .i64 c.G, .int .i64 c.F], .int .u8 x0] w fun e w' => e = .returned (.bool true) ∧ Below w.heap.size w w' := by
  have hB0 : Below w.heap.size w (w.alloc (.cells #[.int .i64 c.N, .slice c.pA c.pn c.pc, .slice c.sA c.sn c.sc, .int .i64 c.L, .slice c.bA c.bn c.bc, .slice c.tA c.tn c.tc, .int .i64 c.M, .int .i64 c.G, .int .i64 c.F] 25)) := below_al (Below.refl w.heap.size w) (.cells #[.int .i64 c.N, .slice c.pA c.pn c.pc, .slice c.sA c.sn c.sc, .int .i64 c.L, .slice c.bA c.bn c.bc, .slice c.tA c.tn c.tc, .int .i64 c.M, .int .i64 c.G, .int .i64 c.F] 25)
  have HC0 := Lib.hid (Blk.new w 25 #[.int .i64 c.N, .slice c.pA c.pn c.pc, .slice c.sA c.sn c.sc, .int .i64 c.L, .slice c.bA c.bn c.bc, .slice c.tA c.tn c.tc, .int .i64 c.M, .int .i64 c.G, .int .i64 c.F])
  have HW0 := Lib.hid (hw.on hB0)
  have HIN0 := Lib.hid (hc.on hB0)
  have HB0 := Lib.hid hB0
  have HG := Lib.hid hg
  have H0 := Lib.hid h0
  have ok := newE_ok.1 h0
  have hp2 := ok.pairs.1
  have hp8 := ok.pairs.2
  have hN4 := ok.nodes.1
  have hN16 := ok.nodes.2
  have hpl := hc.p.len
  have hp := tmod_in (n := (c.pn : Int)) h00 (by omega)
  obtain ⟨p, ep⟩ : ∃ p, p = x0.tmod (c.pn : Int) := ⟨_, rfl⟩
  rw [← ep] at hp
  obtain ⟨a, qa, ya1, ya2, hga, ga0, ga1, hWa, hEa, hqa, hna, hsa1, hpa1, hsa2, hpa2⟩ := guard_all h0 hpl (d := 0) (p := p) (.inl rfl) hp
  obtain ⟨b, qb, yb1, yb2, hgb, gb0, gb1, hWb, hEb, hqb, hnb, hsb1, hpb1, hsb2, hpb2⟩ := guard_all h0 hpl (d := 1) (p := p) (.inr rfl) hp
  have HA := Lib.hid hga
  have HB := Lib.hid hgb
  have HWA : Hid (ofW c.N c.P 0 p a = ⟨2, 2, 3, 117⟩) := Lib.hid (by rw [hWa]; rfl)
  have HWB : Hid (ofW c.N c.P 1 p b = ⟨2, 2, 3, 117⟩) := Lib.hid (by rw [hWb]; rfl)
  have HEA := Lib.hid hEa
  have HEB := Lib.hid hEb
  have HQA := Lib.hid hqa
  have HQB := Lib.hid hqb
  have HSA1 := Lib.hid hsa1
  have HSA2 := Lib.hid hsa2
  have HSB1 := Lib.hid hsb1
  have HSB2 := Lib.hid hsb2
  have HPA1 := Lib.hid hpa1
  have HPA2 := Lib.hid hpa2
  have HPB1 := Lib.hid hpb1
  have HPB2 := Lib.hid hpb2
  have v1 : (qa == p) = false := beq_eq_false_iff_ne.2 hna
  have v2 : (qb == p) = false := beq_eq_false_iff_ne.2 hnb
  obtain ⟨f, hf⟩ : ∃ f, f = atM c.P p := ⟨_, rfl⟩
  have hfb : 0 ≤ f ∧ f < c.N := by
    obtain ⟨k, f', e1, e2, e3, _⟩ := of_ok h0 hpl (d := 0) (o := p) (x := 0) (.inl rfl) hp (by omega)
    omega
  have HND := Lib.hid (show ∀ i : Int, 0 ≤ i ∧ i < c.N → ∃ ka kb q, 0 ≤ ka ∧ ka ≤ 15 ∧ 0 ≤ kb ∧ kb ≤ 15 ∧ ofW c.N c.P 0 p i = wnM ka ∧ ofWE c.N c.P 0 p i = 0 ∧ ofW c.N c.P 1 p i = wnM kb ∧ ofWE c.N c.P 1 p i = 0 ∧ pairM c.N c.P i = q ∧
      ((roleM ka = 1 ∧ roleM kb = 1 ∧ q = p ∧ halfN c.N f (i + 1) = halfN c.N f i + 1) ∨ (roleM ka ≠ 1 ∧ roleM kb ≠ 1 ∧ q ≠ p ∧ halfN c.N f (i + 1) = halfN c.N f i)) from fun i hi => by
    obtain ⟨ka, kb, q, -, r⟩ := node_all h0 hpl hp hi
    rw [← hf] at r
    exact ⟨ka, kb, q, r⟩)
  have HHZ := Lib.hid (halfN_zero (N := c.N) (f := f) (by omega))
  have HHA := Lib.hid (halfN_all (N := c.N) (f := f) (by omega))
  have m1 : x0.tmod (c.pn : Int) = p := ep.symm
  have u1 : IntKind.i64.wrap p = p := IntWalk.i64_in _ (by omega)
  have n1 : (c.pn : Int) ≠ 0 := by omega
  have n2 : ((c.pn : Int) == 0) = false := beq_eq_false_iff_ne.2 n1
  clear hga hgb hWa hWb hEa hEb hqa hqb hna hnb hsa1 hsa2 hsb1 hsb2 hpa1 hpa2 hpb1 hpb2 hf ep hp hw hc hg h0 ok hpl hB0
  go_enter Tryd.func7, Tryd.ntmps7
  go_wp2_with (first
    | (go_at_call 8; (with_reducible refine (netWn c _ HW0.out HIN0.out HG.out H0.out).mono ?_); rintro e w1 ⟨gN, rfl, hN1, b1⟩; have hB1 := below_then HB0.out b1; have hW1 := HW0.out.on b1; have hC1 := HC0.out.on b1; obtain ⟨k0, k1, k2, k3, k4, k5, k6, k7, k8⟩ := hC1.cf; have kl := hC1.lt)
    | (go_at_call 15; (with_reducible refine (guards_is _ c.N c.P p a b HA.out HB.out w1 hN1 hW1).mono ?_); rintro e w2 ⟨rfl, b2⟩; clear k0 k1 k2 k3 k4 k5 k6 k7 k8 kl; have b2' := below_al b2 (.cells #[.int .i64 a, .int .i64 b] 61); have hL2 := Blk.new w2 61 #[.int .i64 a, .int .i64 b]; have hN2 := hN1.on b2'; have hW2 := hW1.on b2'; have hC2 := hC1.on b2'; have hB2 := below_then hB1 b2'))
  obtain ⟨gC, hgC⟩ : ∃ gC, gC = w.heap.size := ⟨_, rfl⟩
  rw [← hgC] at hC2 ⊢
  obtain ⟨gL, hgL⟩ : ∃ gL, gL = w2.heap.size := ⟨_, rfl⟩
  rw [← hgL] at hL2 ⊢
  clear hgC hgL b2 b2' b1 hB1 hN1 hW1 hC1
  go_loopw [10] (fun s10 wr => ∃ d : Int, 0 ≤ d ∧ d ≤ 2 ∧ s10 = .int .u8 d ∧ Blk wr gL 61 #[.int .i64 a, .int .i64 b] ∧ Blk wr gC 25 #[.int .i64 c.N, .slice c.pA c.pn c.pc, .slice c.sA c.sn c.sc, .int .i64 c.L, .slice c.bA c.bn c.bc, .slice c.tA c.tn c.tc, .int .i64 c.M, .int .i64 c.G, .int .i64 c.F] ∧ NetP wr (.pointer (some ⟨gN, 0, none⟩)) c.N c.P ∧ Laid2 wr ∧ Below w.heap.size w wr) (fun s10 _ => (2 - intOf s10).toNat)
  case atStart => exact ⟨0, by omega, by omega, rfl, hL2, hC2, hN2, hW2, hB2⟩
  case round =>
    clear hL2 hC2 hN2 hW2 hB2
    obtain ⟨d, d0, d2, rfl, hL, hC, hN, hW, hB⟩ := hrel
    by_cases hd1 : d ≤ 1
    · have l0 := (hL.cell 0).trans rfl
      have l1 := (hL.cell 1).trans rfl
      have ll := hL.lt
      have hdd : d = 0 ∨ d = 1 := by omega
      rcases hdd with rfl | rfl
      · obtain ⟨k0, k1, k2, k3, k4, k5, k6, k7, k8⟩ := hC.cf
        have kl := hC.lt
        go_wp2_with (first
          | (go_at_call 10; (with_reducible refine (winOf_is _ c.N c.P 0 p a ⟨2, 2, 3, 117⟩ HWA.out 0 HEA.out wr hN hW (by decide) (by decide)).mono ?_); rintro e w3 ⟨rfl, b3⟩; clear k0 k1 k2 k3 k4 k5 k6 k7 k8 kl; clear l0 l1 ll; have b3' := below_al b3 (.cells #[.int .u8 2, .int .i64 2, .int .i64 3, .int .i64 117] 33); have hX3 := Blk.new w3 33 #[.int .u8 2, .int .i64 2, .int .i64 3, .int .i64 117]; have hC3 := hC.on b3'; have hN3 := hN.on b3'; have hW3 := hW.on b3'; have y0 := hX3.cell 0; have yl := hX3.lt; simp only [List.getElem?_toArray, List.getElem?_cons_zero] at y0)
          | (go_at_call 21; (with_reducible refine (netPair_is _ c.N c.P a qa HQA.out _ hN3 hW3.ways).mono ?_); rintro e w4 ⟨rfl, b4⟩; have hC4 := hC3.on b4; have hN4' := hN3.on b4; have hW4 := hW3.on b4; obtain ⟨k0, k1, k2, k3, k4, k5, k6, k7, k8⟩ := hC4.cf; have kl := hC4.lt)
          | (go_at_call 20; (with_reducible refine (source_any_is c.N 0 a 1 ya1 HSA1.out _ hW4.ways (by decide) (by decide)).mono ?_); rintro e w5 ⟨rfl, b5⟩)
          | (go_at_call 21; (with_reducible refine (netPair_is _ c.N c.P ya1 p HPA1.out _ (hN4'.on b5) (hW4.on b5).ways).mono ?_); rintro e w6 ⟨rfl, b6⟩; clear k0 k1 k2 k3 k4 k5 k6 k7 k8 kl; have b56 := below_then b5 b6; have hC6 := hC4.on b56; have hN6 := hN4'.on b56; have hW6 := hW4.on b56; obtain ⟨k0, k1, k2, k3, k4, k5, k6, k7, k8⟩ := hC6.cf; have kl := hC6.lt)
          | (go_at_call 20; (with_reducible refine (source_any_is c.N 0 a 2 ya2 HSA2.out _ hW6.ways (by decide) (by decide)).mono ?_); rintro e w7 ⟨rfl, b7⟩)
          | (go_at_call 21; (with_reducible refine (netPair_is _ c.N c.P ya2 p HPA2.out _ (hN6.on b7) (hW6.on b7).ways).mono ?_); rintro e w8 ⟨rfl, b8⟩; have B8 := below_then (below_then (below_then (below_then b3' b4) b56) b7) b8))
        clear k0 k1 k2 k3 k4 k5 k6 k7 k8 kl
        go_roundw
        case rel => exact ⟨1, by omega, by omega, rfl, hL.on B8, hC.on B8, hN.on B8, hW.on B8, below_then hB B8⟩
        case measure => simp [intOf]
      · obtain ⟨k0, k1, k2, k3, k4, k5, k6, k7, k8⟩ := hC.cf
        have kl := hC.lt
        go_wp2_with (first
          | (go_at_call 10; (with_reducible refine (winOf_is _ c.N c.P 1 p b ⟨2, 2, 3, 117⟩ HWB.out 0 HEB.out wr hN hW (by decide) (by decide)).mono ?_); rintro e w3 ⟨rfl, b3⟩; clear k0 k1 k2 k3 k4 k5 k6 k7 k8 kl; clear l0 l1 ll; have b3' := below_al b3 (.cells #[.int .u8 2, .int .i64 2, .int .i64 3, .int .i64 117] 33); have hX3 := Blk.new w3 33 #[.int .u8 2, .int .i64 2, .int .i64 3, .int .i64 117]; have hC3 := hC.on b3'; have hN3 := hN.on b3'; have hW3 := hW.on b3'; have y0 := hX3.cell 0; have yl := hX3.lt; simp only [List.getElem?_toArray, List.getElem?_cons_zero] at y0)
          | (go_at_call 21; (with_reducible refine (netPair_is _ c.N c.P b qb HQB.out _ hN3 hW3.ways).mono ?_); rintro e w4 ⟨rfl, b4⟩; have hC4 := hC3.on b4; have hN4' := hN3.on b4; have hW4 := hW3.on b4; obtain ⟨k0, k1, k2, k3, k4, k5, k6, k7, k8⟩ := hC4.cf; have kl := hC4.lt)
          | (go_at_call 20; (with_reducible refine (source_any_is c.N 1 b 1 yb1 HSB1.out _ hW4.ways (by decide) (by decide)).mono ?_); rintro e w5 ⟨rfl, b5⟩)
          | (go_at_call 21; (with_reducible refine (netPair_is _ c.N c.P yb1 p HPB1.out _ (hN4'.on b5) (hW4.on b5).ways).mono ?_); rintro e w6 ⟨rfl, b6⟩; clear k0 k1 k2 k3 k4 k5 k6 k7 k8 kl; have b56 := below_then b5 b6; have hC6 := hC4.on b56; have hN6 := hN4'.on b56; have hW6 := hW4.on b56; obtain ⟨k0, k1, k2, k3, k4, k5, k6, k7, k8⟩ := hC6.cf; have kl := hC6.lt)
          | (go_at_call 20; (with_reducible refine (source_any_is c.N 1 b 2 yb2 HSB2.out _ hW6.ways (by decide) (by decide)).mono ?_); rintro e w7 ⟨rfl, b7⟩)
          | (go_at_call 21; (with_reducible refine (netPair_is _ c.N c.P yb2 p HPB2.out _ (hN6.on b7) (hW6.on b7).ways).mono ?_); rintro e w8 ⟨rfl, b8⟩; have B8 := below_then (below_then (below_then (below_then b3' b4) b56) b7) b8))
        clear k0 k1 k2 k3 k4 k5 k6 k7 k8 kl
        go_roundw
        case rel => exact ⟨2, by omega, by omega, rfl, hL.on B8, hC.on B8, hN.on B8, hW.on B8, below_then hB B8⟩
        case measure => simp [intOf]
    · obtain ⟨u0, rfl⟩ : ∃ u0, u0 = wr := ⟨_, rfl⟩
      have hdd : decide (d ≤ 1) = false := decide_eq_false hd1
      clear hd1 d0 d2 hL
      have HZ := HHZ.out
      go_wp2_with fail
      go_loopw [14, 15] (fun s14 s15 wr => ∃ i hv : Int, 0 ≤ i ∧ i ≤ c.N ∧ 0 ≤ hv ∧ hv ≤ i ∧ s14 = .int .i64 hv ∧ s15 = .int .i64 i ∧ Hid (hv = halfN c.N f i) ∧ Blk wr gC 25 #[.int .i64 c.N, .slice c.pA c.pn c.pc, .slice c.sA c.sn c.sc, .int .i64 c.L, .slice c.bA c.bn c.bc, .slice c.tA c.tn c.tc, .int .i64 c.M, .int .i64 c.G, .int .i64 c.F] ∧ NetP wr (.pointer (some ⟨gN, 0, none⟩)) c.N c.P ∧ Laid2 wr ∧ Below w.heap.size w wr) (fun _ s15 _ => (c.N - intOf s15).toNat)
      case atStart => exact ⟨0, 0, by omega, by omega, by omega, by omega, rfl, rfl, Lib.hid HZ.symm, hC, hN, hW, hB⟩
      case round =>
        clear hC hN hW hB HZ
        obtain ⟨i, hv, i0, iN, v0, vi, rfl, rfl, HH, hC, hN, hW, hB⟩ := hrel
        obtain ⟨k0, k1, k2, k3, k4, k5, k6, k7, k8⟩ := hC.cf
        have kl := hC.lt
        by_cases hi : i < c.N
        · obtain ⟨ka, kb, q, ka0, ka1, kb0, kb1, hWi, hEi, hWj, hEj, hq, hor⟩ := HND.out i ⟨i0, hi⟩
          obtain ⟨r0, hr0⟩ : ∃ r0, r0 = roleM ka := ⟨_, rfl⟩
          obtain ⟨r1, hr1⟩ : ∃ r1, r1 = roleM kb := ⟨_, rfl⟩
          have HWI : Hid (ofW c.N c.P 0 p i = ⟨r0, ka, 1 + ka, 1 + ka + 114⟩) := Lib.hid (by rw [hWi, hr0]; rfl)
          have HWJ : Hid (ofW c.N c.P 1 p i = ⟨r1, kb, 1 + kb, 1 + kb + 114⟩) := Lib.hid (by rw [hWj, hr1]; rfl)
          rw [← hr0, ← hr1] at hor
          have HEI := Lib.hid hEi
          have HEJ := Lib.hid hEj
          have HPI := Lib.hid hq
          have HOR := Lib.hid hor
          clear hWi hWj hEi hEj hq hor hr0 hr1
          have HCC := Lib.hid hC
          have HN1 := Lib.hid hN
          have HL1 := Lib.hid hW
          have HBB := Lib.hid hB
          go_upto_region 20 with (first
            | (go_at_call 10; (with_reducible refine (winOf_is _ c.N c.P 0 p i ⟨r0, ka, 1 + ka, 1 + ka + 114⟩ HWI.out 0 HEI.out wr HN1.out HL1.out (by decide) (by decide)).mono ?_); rintro e w3 ⟨rfl, b3⟩; have b3' := below_al b3 (.cells #[.int .u8 r0, .int .i64 ka, .int .i64 (1 + ka), .int .i64 (1 + ka + 114)] 33); have hX3 := Blk.new w3 33 #[.int .u8 r0, .int .i64 ka, .int .i64 (1 + ka), .int .i64 (1 + ka + 114)])
            | (go_at_call 10; (with_reducible refine (winOf_is _ c.N c.P 1 p i ⟨r1, kb, 1 + kb, 1 + kb + 114⟩ HWJ.out 0 HEJ.out _ (HN1.out.on b3') (HL1.out.on b3') (by decide) (by decide)).mono ?_); rintro e w4 ⟨rfl, b4⟩; have b4' := below_al b4 (.cells #[.int .u8 r1, .int .i64 kb, .int .i64 (1 + kb), .int .i64 (1 + kb + 114)] 33); have hY4 := Blk.new w4 33 #[.int .u8 r1, .int .i64 kb, .int .i64 (1 + kb), .int .i64 (1 + kb + 114)]; have hX4 := hX3.on b4'; have b5 := below_then b3' b4'))
          clear k0 k1 k2 k3 k4 k5 k6 k7 k8 kl
          clear hC hN hW hB hX3 b3 b3' b4 b4'
          obtain ⟨w5, hw5⟩ : ∃ w5, w5 = w4.alloc (.cells #[.int .u8 r1, .int .i64 kb, .int .i64 (1 + kb), .int .i64 (1 + kb + 114)] 33) := ⟨_, rfl⟩
          rw [← hw5] at hX4 hY4 b5 ⊢
          obtain ⟨gA, hgA⟩ : ∃ gA, gA = w3.heap.size := ⟨_, rfl⟩
          obtain ⟨gB, hgB⟩ : ∃ gB, gB = w4.heap.size := ⟨_, rfl⟩
          rw [← hgA] at hX4 ⊢
          rw [← hgB] at hY4 ⊢
          clear hw5 hgA hgB
          have HYA := Lib.hid hX4
          have HYB := Lib.hid hY4
          have HNN := Lib.hid (HN1.out.on b5)
          have HLL := Lib.hid (HL1.out.on b5)
          have HB5 := Lib.hid b5
          clear hX4 hY4 b5
          rcases HOR.out with ⟨e0, e1, e2, e3⟩ | ⟨e0, e1, e2, e3⟩
          · subst e0 e1
            obtain rfl := e2.symm
            have HH1 : Hid (hv + 1 = halfN c.N f (i + 1)) := Lib.hid (by rw [e3, HH.out])
            clear HOR e3 HH HWI HWJ
            refine Reg.wp_slots (fun t => decide (111 ≤ t) && decide (t ≤ 130)) (by kernel_rfl) (by kernel_rfl) (by kernel_rfl) (fun zz => (Reg.tbl [
              (111, .is (.pointer (some ⟨gA, 0, none⟩))),
              (112, .is (.int .u8 1)),
              (113, .is (.bool true)),
              (114, .is (.pointer (some ⟨gN, 0, none⟩))),
              (115, .is (.int .i64 i)),
              (116, .is (.int .i64 p)),
              (117, .is (.int .i64 p)),
              (118, .is (.bool true)),
              (119, .is (.bool false)),
              (120, .is (.bool false)),
              (121, .is (.pointer (some ⟨gB, 0, none⟩))),
              (122, .is (.int .u8 1)),
              (123, .is (.bool true)),
              (124, .is (.pointer (some ⟨gN, 0, none⟩))),
              (125, .is (.int .i64 i)),
              (126, .is (.int .i64 p)),
              (127, .is (.int .i64 p)),
              (128, .is (.bool true)),
              (129, .is (.bool false)),
              (130, .is (.bool false))] zz).P) (fun zz => (Reg.tbl _ zz).on) ?_ ?_
            · simp only [Reg.frame, Reg.over, Nat.reduceAdd, Nat.reduceLeDiff, decide_true, decide_false, if_true, Bool.false_eq_true, if_false, Bool.and_true, Bool.and_false]
              refine ⟨?_, ?_, ?_, ?_, ?_, ?_, ?_, ?_, ?_, ?_, ?_, ?_, ?_, ?_, ?_, ?_, ?_, ?_, ?_, ?_, trivial⟩
              · intro x u hbu hd
                refine wpOp_step rfl fun K hK => ?_
                go_simp
                exact hK _ _ ⟨_, rfl, Below.refl _ _, fun d hd => by cases hd; exact rfl⟩
              · intro x u hbu hd
                have h111 : x 111 = .pointer (some ⟨gA, 0, none⟩) := hd 0 (by decide)
                have y0 := ((HYA.out.on hbu).cell 0).trans rfl
                have yl := (HYA.out.on hbu).lt
                refine wpOp_step rfl fun K hK => ?_
                simp only [h111] at hK ⊢
                go_simp
                exact hK _ _ ⟨_, rfl, Below.refl _ _, fun d hd => by cases hd; exact rfl⟩
              · intro x u hbu hd
                have h112 : x 112 = .int .u8 1 := hd 1 (by decide)
                refine wpOp_step rfl fun K hK => ?_
                simp only [h112] at hK ⊢
                go_simp
                exact hK _ _ ⟨_, rfl, Below.refl _ _, fun d hd => by cases hd; exact rfl⟩
              · intro x u hbu hd
                refine wpOp_step rfl fun K hK => ?_
                go_simp
                exact hK _ _ ⟨_, rfl, Below.refl _ _, fun d hd => by cases hd; exact rfl⟩
              · intro x u hbu hd
                refine wpOp_step rfl fun K hK => ?_
                go_simp
                exact hK _ _ ⟨_, rfl, Below.refl _ _, fun d hd => by cases hd; exact rfl⟩
              · intro x u hbu hd
                have h114 : x 114 = .pointer (some ⟨gN, 0, none⟩) := hd 3 (by decide)
                have h115 : x 115 = .int .i64 i := hd 4 (by decide)
                refine wpOp_step rfl fun K hK => ?_
                simp only [h114, h115] at hK ⊢
                go_simp
                with_reducible refine (netPair_is _ c.N c.P i p HPI.out _ (HNN.out.on hbu) (HLL.out.on hbu).ways).mono ?_
                rintro e u' ⟨rfl, hb'⟩
                exact hK _ _ ⟨_, rfl, hb', fun d hd => by cases hd; exact rfl⟩
              · intro x u hbu hd
                refine wpOp_step rfl fun K hK => ?_
                go_simp
                exact hK _ _ ⟨_, rfl, Below.refl _ _, fun d hd => by cases hd; exact rfl⟩
              · intro x u hbu hd
                have h116 : x 116 = .int .i64 p := hd 5 (by decide)
                have h117 : x 117 = .int .i64 p := hd 6 (by decide)
                refine wpOp_step rfl fun K hK => ?_
                simp only [h116, h117] at hK ⊢
                go_simp
                exact hK _ _ ⟨_, rfl, Below.refl _ _, fun d hd => by cases hd; exact rfl⟩
              · intro x u hbu hd
                have h113 : x 113 = .bool true := hd 2 (by decide)
                have h118 : x 118 = .bool true := hd 7 (by decide)
                refine wpOp_step rfl fun K hK => ?_
                simp only [h113, h118] at hK ⊢
                go_simp
                exact hK _ _ ⟨_, rfl, Below.refl _ _, fun d hd => by cases hd; exact rfl⟩
              · intro x u hbu hd
                have h119 : x 119 = .bool false := hd 8 (by decide)
                refine wpOp_step rfl fun K hK => ?_
                simp only [h119] at hK ⊢
                go_simp
                exact hK _ _ ⟨_, rfl, Below.refl _ _, fun d hd => by cases hd; exact rfl⟩
              · intro x u hbu hd
                have h120 : x 120 = .bool false := hd 9 (by decide)
                refine wpOp_step rfl fun K hK => ?_
                simp only [h120] at hK ⊢
                go_simp
                exact hK _ _ ⟨_, rfl, Below.refl _ _, fun d hd => by cases hd; exact rfl⟩
              · intro x u hbu hd
                have h121 : x 121 = .pointer (some ⟨gB, 0, none⟩) := hd 10 (by decide)
                have h120 : x 120 = .bool false := hd 9 (by decide)
                have z0 := ((HYB.out.on hbu).cell 0).trans rfl
                have zl := (HYB.out.on hbu).lt
                refine wpOp_step rfl fun K hK => ?_
                simp only [h121, h120] at hK ⊢
                go_simp
                exact hK _ _ ⟨_, rfl, Below.refl _ _, fun d hd => by cases hd; exact rfl⟩
              · intro x u hbu hd
                have h122 : x 122 = .int .u8 1 := hd 11 (by decide)
                have h120 : x 120 = .bool false := hd 9 (by decide)
                refine wpOp_step rfl fun K hK => ?_
                simp only [h122, h120] at hK ⊢
                go_simp
                exact hK _ _ ⟨_, rfl, Below.refl _ _, fun d hd => by cases hd; exact rfl⟩
              · intro x u hbu hd
                have h120 : x 120 = .bool false := hd 9 (by decide)
                refine wpOp_step rfl fun K hK => ?_
                simp only [h120] at hK ⊢
                go_simp
                exact hK _ _ ⟨_, rfl, Below.refl _ _, fun d hd => by cases hd; exact rfl⟩
              · intro x u hbu hd
                have h120 : x 120 = .bool false := hd 9 (by decide)
                refine wpOp_step rfl fun K hK => ?_
                simp only [h120] at hK ⊢
                go_simp
                exact hK _ _ ⟨_, rfl, Below.refl _ _, fun d hd => by cases hd; exact rfl⟩
              · intro x u hbu hd
                have h124 : x 124 = .pointer (some ⟨gN, 0, none⟩) := hd 13 (by decide)
                have h125 : x 125 = .int .i64 i := hd 14 (by decide)
                have h120 : x 120 = .bool false := hd 9 (by decide)
                refine wpOp_step rfl fun K hK => ?_
                simp only [h124, h125, h120] at hK ⊢
                go_simp
                with_reducible refine (netPair_is _ c.N c.P i p HPI.out _ (HNN.out.on hbu) (HLL.out.on hbu).ways).mono ?_
                rintro e u' ⟨rfl, hb'⟩
                exact hK _ _ ⟨_, rfl, hb', fun d hd => by cases hd; exact rfl⟩
              · intro x u hbu hd
                have h120 : x 120 = .bool false := hd 9 (by decide)
                refine wpOp_step rfl fun K hK => ?_
                simp only [h120] at hK ⊢
                go_simp
                exact hK _ _ ⟨_, rfl, Below.refl _ _, fun d hd => by cases hd; exact rfl⟩
              · intro x u hbu hd
                have h126 : x 126 = .int .i64 p := hd 15 (by decide)
                have h127 : x 127 = .int .i64 p := hd 16 (by decide)
                have h120 : x 120 = .bool false := hd 9 (by decide)
                refine wpOp_step rfl fun K hK => ?_
                simp only [h126, h127, h120] at hK ⊢
                go_simp
                exact hK _ _ ⟨_, rfl, Below.refl _ _, fun d hd => by cases hd; exact rfl⟩
              · intro x u hbu hd
                have h123 : x 123 = .bool true := hd 12 (by decide)
                have h128 : x 128 = .bool true := hd 17 (by decide)
                have h120 : x 120 = .bool false := hd 9 (by decide)
                refine wpOp_step rfl fun K hK => ?_
                simp only [h123, h128, h120] at hK ⊢
                go_simp
                exact hK _ _ ⟨_, rfl, Below.refl _ _, fun d hd => by cases hd; exact rfl⟩
              · intro x u hbu hd
                have h120 : x 120 = .bool false := hd 9 (by decide)
                have h129 : x 129 = .bool false := hd 18 (by decide)
                refine wpOp_step rfl fun K hK => ?_
                simp only [h120, h129] at hK ⊢
                go_simp
                exact hK _ _ ⟨_, rfl, Below.refl _ _, fun d hd => by cases hd; exact rfl⟩
            · intro y u2 hbu hall
              have h130 : y 130 = .bool false := hall 19 (by decide)
              simp only [Reg.frame, Reg.over, Nat.reduceAdd, Nat.reduceLeDiff, decide_true, decide_false, if_true, Bool.false_eq_true, if_false, Bool.and_true, Bool.and_false, h130]
              have hb5 := HB5.out
              have hY2 := HYA.out.on hbu
              have y0 := hY2.cell 0; have yl := hY2.lt; simp only [List.getElem?_toArray, List.getElem?_cons_zero] at y0
              have hb6 := below_then hb5 hbu
              clear hbu hall h130 HYA HYB HNN HLL HPI
              go_wp2_with fail
              go_roundw
              case rel => exact ⟨i + 1, hv + 1, by omega, by omega, by omega, by omega, rfl, rfl, HH1, HCC.out.on hb6, HN1.out.on hb6, HL1.out.on hb6, below_then HBB.out hb6⟩
              case measure => simp [intOf]; omega
          · have c1 : (r0 == 1) = false := beq_eq_false_iff_ne.2 e0
            have c2 : (r1 == 1) = false := beq_eq_false_iff_ne.2 e1
            have c3 : (q == p) = false := beq_eq_false_iff_ne.2 e2
            have HH0 : Hid (hv = halfN c.N f (i + 1)) := Lib.hid (by rw [e3, HH.out])
            clear HOR e3 HH HWI HWJ e0 e1 e2
            refine Reg.wp_slots (fun t => decide (111 ≤ t) && decide (t ≤ 130)) (by kernel_rfl) (by kernel_rfl) (by kernel_rfl) (fun zz => (Reg.tbl [
              (111, .is (.pointer (some ⟨gA, 0, none⟩))),
              (112, .is (.int .u8 r0)),
              (113, .is (.bool false)),
              (114, .is (.pointer (some ⟨gN, 0, none⟩))),
              (115, .is (.int .i64 i)),
              (116, .is (.int .i64 q)),
              (117, .is (.int .i64 p)),
              (118, .is (.bool false)),
              (119, .is (.bool false)),
              (120, .is (.bool false)),
              (121, .is (.pointer (some ⟨gB, 0, none⟩))),
              (122, .is (.int .u8 r1)),
              (123, .is (.bool false)),
              (124, .is (.pointer (some ⟨gN, 0, none⟩))),
              (125, .is (.int .i64 i)),
              (126, .is (.int .i64 q)),
              (127, .is (.int .i64 p)),
              (128, .is (.bool false)),
              (129, .is (.bool false)),
              (130, .is (.bool false))] zz).P) (fun zz => (Reg.tbl _ zz).on) ?_ ?_
            · simp only [Reg.frame, Reg.over, Nat.reduceAdd, Nat.reduceLeDiff, decide_true, decide_false, if_true, Bool.false_eq_true, if_false, Bool.and_true, Bool.and_false]
              refine ⟨?_, ?_, ?_, ?_, ?_, ?_, ?_, ?_, ?_, ?_, ?_, ?_, ?_, ?_, ?_, ?_, ?_, ?_, ?_, ?_, trivial⟩
              · intro x u hbu hd
                refine wpOp_step rfl fun K hK => ?_
                go_simp
                exact hK _ _ ⟨_, rfl, Below.refl _ _, fun d hd => by cases hd; exact rfl⟩
              · intro x u hbu hd
                have h111 : x 111 = .pointer (some ⟨gA, 0, none⟩) := hd 0 (by decide)
                have y0 := ((HYA.out.on hbu).cell 0).trans rfl
                have yl := (HYA.out.on hbu).lt
                refine wpOp_step rfl fun K hK => ?_
                simp only [h111] at hK ⊢
                go_simp
                exact hK _ _ ⟨_, rfl, Below.refl _ _, fun d hd => by cases hd; exact rfl⟩
              · intro x u hbu hd
                have h112 : x 112 = .int .u8 r0 := hd 1 (by decide)
                refine wpOp_step rfl fun K hK => ?_
                simp only [h112] at hK ⊢
                go_simp
                exact hK _ _ ⟨_, rfl, Below.refl _ _, fun d hd => by cases hd; exact rfl⟩
              · intro x u hbu hd
                refine wpOp_step rfl fun K hK => ?_
                go_simp
                exact hK _ _ ⟨_, rfl, Below.refl _ _, fun d hd => by cases hd; exact rfl⟩
              · intro x u hbu hd
                refine wpOp_step rfl fun K hK => ?_
                go_simp
                exact hK _ _ ⟨_, rfl, Below.refl _ _, fun d hd => by cases hd; exact rfl⟩
              · intro x u hbu hd
                have h114 : x 114 = .pointer (some ⟨gN, 0, none⟩) := hd 3 (by decide)
                have h115 : x 115 = .int .i64 i := hd 4 (by decide)
                refine wpOp_step rfl fun K hK => ?_
                simp only [h114, h115] at hK ⊢
                go_simp
                with_reducible refine (netPair_is _ c.N c.P i q HPI.out _ (HNN.out.on hbu) (HLL.out.on hbu).ways).mono ?_
                rintro e u' ⟨rfl, hb'⟩
                exact hK _ _ ⟨_, rfl, hb', fun d hd => by cases hd; exact rfl⟩
              · intro x u hbu hd
                refine wpOp_step rfl fun K hK => ?_
                go_simp
                exact hK _ _ ⟨_, rfl, Below.refl _ _, fun d hd => by cases hd; exact rfl⟩
              · intro x u hbu hd
                have h116 : x 116 = .int .i64 q := hd 5 (by decide)
                have h117 : x 117 = .int .i64 p := hd 6 (by decide)
                refine wpOp_step rfl fun K hK => ?_
                simp only [h116, h117] at hK ⊢
                go_simp
                exact hK _ _ ⟨_, rfl, Below.refl _ _, fun d hd => by cases hd; exact rfl⟩
              · intro x u hbu hd
                have h113 : x 113 = .bool false := hd 2 (by decide)
                have h118 : x 118 = .bool false := hd 7 (by decide)
                refine wpOp_step rfl fun K hK => ?_
                simp only [h113, h118] at hK ⊢
                go_simp
                exact hK _ _ ⟨_, rfl, Below.refl _ _, fun d hd => by cases hd; exact rfl⟩
              · intro x u hbu hd
                have h119 : x 119 = .bool false := hd 8 (by decide)
                refine wpOp_step rfl fun K hK => ?_
                simp only [h119] at hK ⊢
                go_simp
                exact hK _ _ ⟨_, rfl, Below.refl _ _, fun d hd => by cases hd; exact rfl⟩
              · intro x u hbu hd
                have h120 : x 120 = .bool false := hd 9 (by decide)
                refine wpOp_step rfl fun K hK => ?_
                simp only [h120] at hK ⊢
                go_simp
                exact hK _ _ ⟨_, rfl, Below.refl _ _, fun d hd => by cases hd; exact rfl⟩
              · intro x u hbu hd
                have h121 : x 121 = .pointer (some ⟨gB, 0, none⟩) := hd 10 (by decide)
                have h120 : x 120 = .bool false := hd 9 (by decide)
                have z0 := ((HYB.out.on hbu).cell 0).trans rfl
                have zl := (HYB.out.on hbu).lt
                refine wpOp_step rfl fun K hK => ?_
                simp only [h121, h120] at hK ⊢
                go_simp
                exact hK _ _ ⟨_, rfl, Below.refl _ _, fun d hd => by cases hd; exact rfl⟩
              · intro x u hbu hd
                have h122 : x 122 = .int .u8 r1 := hd 11 (by decide)
                have h120 : x 120 = .bool false := hd 9 (by decide)
                refine wpOp_step rfl fun K hK => ?_
                simp only [h122, h120] at hK ⊢
                go_simp
                exact hK _ _ ⟨_, rfl, Below.refl _ _, fun d hd => by cases hd; exact rfl⟩
              · intro x u hbu hd
                have h120 : x 120 = .bool false := hd 9 (by decide)
                refine wpOp_step rfl fun K hK => ?_
                simp only [h120] at hK ⊢
                go_simp
                exact hK _ _ ⟨_, rfl, Below.refl _ _, fun d hd => by cases hd; exact rfl⟩
              · intro x u hbu hd
                have h120 : x 120 = .bool false := hd 9 (by decide)
                refine wpOp_step rfl fun K hK => ?_
                simp only [h120] at hK ⊢
                go_simp
                exact hK _ _ ⟨_, rfl, Below.refl _ _, fun d hd => by cases hd; exact rfl⟩
              · intro x u hbu hd
                have h124 : x 124 = .pointer (some ⟨gN, 0, none⟩) := hd 13 (by decide)
                have h125 : x 125 = .int .i64 i := hd 14 (by decide)
                have h120 : x 120 = .bool false := hd 9 (by decide)
                refine wpOp_step rfl fun K hK => ?_
                simp only [h124, h125, h120] at hK ⊢
                go_simp
                with_reducible refine (netPair_is _ c.N c.P i q HPI.out _ (HNN.out.on hbu) (HLL.out.on hbu).ways).mono ?_
                rintro e u' ⟨rfl, hb'⟩
                exact hK _ _ ⟨_, rfl, hb', fun d hd => by cases hd; exact rfl⟩
              · intro x u hbu hd
                have h120 : x 120 = .bool false := hd 9 (by decide)
                refine wpOp_step rfl fun K hK => ?_
                simp only [h120] at hK ⊢
                go_simp
                exact hK _ _ ⟨_, rfl, Below.refl _ _, fun d hd => by cases hd; exact rfl⟩
              · intro x u hbu hd
                have h126 : x 126 = .int .i64 q := hd 15 (by decide)
                have h127 : x 127 = .int .i64 p := hd 16 (by decide)
                have h120 : x 120 = .bool false := hd 9 (by decide)
                refine wpOp_step rfl fun K hK => ?_
                simp only [h126, h127, h120] at hK ⊢
                go_simp
                exact hK _ _ ⟨_, rfl, Below.refl _ _, fun d hd => by cases hd; exact rfl⟩
              · intro x u hbu hd
                have h123 : x 123 = .bool false := hd 12 (by decide)
                have h128 : x 128 = .bool false := hd 17 (by decide)
                have h120 : x 120 = .bool false := hd 9 (by decide)
                refine wpOp_step rfl fun K hK => ?_
                simp only [h123, h128, h120] at hK ⊢
                go_simp
                exact hK _ _ ⟨_, rfl, Below.refl _ _, fun d hd => by cases hd; exact rfl⟩
              · intro x u hbu hd
                have h120 : x 120 = .bool false := hd 9 (by decide)
                have h129 : x 129 = .bool false := hd 18 (by decide)
                refine wpOp_step rfl fun K hK => ?_
                simp only [h120, h129] at hK ⊢
                go_simp
                exact hK _ _ ⟨_, rfl, Below.refl _ _, fun d hd => by cases hd; exact rfl⟩
            · intro y u2 hbu hall
              have h130 : y 130 = .bool false := hall 19 (by decide)
              simp only [Reg.frame, Reg.over, Nat.reduceAdd, Nat.reduceLeDiff, decide_true, decide_false, if_true, Bool.false_eq_true, if_false, Bool.and_true, Bool.and_false, h130]
              have hb5 := HB5.out
              have hY2 := HYA.out.on hbu
              have y0 := hY2.cell 0; have yl := hY2.lt; simp only [List.getElem?_toArray, List.getElem?_cons_zero] at y0
              have hb6 := below_then hb5 hbu
              clear hbu hall h130 HYA HYB HNN HLL HPI
              go_wp2_with fail
              go_roundw
              case rel => exact ⟨i + 1, hv, by omega, by omega, by omega, by omega, rfl, rfl, HH0, HCC.out.on hb6, HN1.out.on hb6, HL1.out.on hb6, below_then HBB.out hb6⟩
              case measure => simp [intOf]; omega
        · obtain rfl : i = c.N := by omega
          obtain rfl : hv = 2 := HH.out.trans HHA.out
          go_wp2_with (go_at_call 9; (with_reducible refine (lives_wn _ hW).mono ?_); rintro e w9 ⟨rfl, b9⟩)
          go_ret
          exact ⟨rfl, below_then hB b9⟩
theorem windowsGuards_walk (c : Cf) (x0 : Int) (w : World) (hw : Laid2 w) (hr : CfRaw w c) (h0 : (Lit.int .u8 x0).wf = true) :
    Calls Tryd.prog 7 #[.agg #[.int .i64 c.N, .slice c.pA c.pn c.pc, .slice c.sA c.sn c.sc, .int .i64 c.L, .slice c.bA c.bn c.bc, .slice c.tA c.tn c.tc, .int .i64 c.M, .int .i64 c.G, .int .i64 c.F], .int .u8 x0] w fun e w' => e = .returned (.bool true) ∧ Below w.heap.size w w' := by
  have q0 := bounds_u8 h0
  rcases raw_cases hr with hn | ⟨hc, hg, h0⟩
  · exact windowsGuards_none c x0 w hw hn
  · exact windowsGuards_yes c x0 w hw hc hg h0 q0.1 q0.2
end Go.Proofs.YtajkpbmjgncbbaaDoor

