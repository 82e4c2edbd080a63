/-
  The law ConfigsTurned, walked: with its pairs turned round the ring, and slots by their new places, a config may be just if it might: true; nothing that was there has turned. Conditions: the config's reading; the table of directions is as the program's text lays it.
-/
import Derived.Test.YtibniadebbgjcaaDoorCfTr
namespace Go.Proofs.YtibniadebbgjcaaDoor
open Go.RowKit Rg
/-- Neighbours that rise: the list rises. -/
theorem rises : ∀ P : List Int, (∀ j, j + 1 < P.length → P.getD j 0 < P.getD (j + 1) 0) → P.Pairwise (· < ·) := by
  intro P
  induction P with
  | nil => intro _; exact List.Pairwise.nil
  | cons a P ih =>
    intro h
    have hp := ih (fun j hj => by have := h (j + 1) (by simp; omega); simpa using this)
    refine List.pairwise_cons.2 ⟨?_, hp⟩
    cases P with
    | nil => intro b hb; cases hb
    | cons b Q =>
      have hab : a < b := by have := h 0 (by simp); simpa using this
      intro x hx
      rcases List.mem_cons.1 hx with rfl | hx
      · exact hab
      · have := (List.pairwise_cons.1 hp).1 x hx
        omega
set_option maxRecDepth 100000 in
theorem turned_great (c : Cf) (y : Int) (w : World) (hw : Ways w) (hg : greatB c = true) :
    Calls Tryd.prog 7 #[.agg #[.int .i64 c.N, .slice c.pA c.pn c.pc, .slice c.sA c.sn c.sc, .int .i64 c.L, .slice c.bA c.bn c.bc, .slice c.tA c.tn c.tc, .int .i64 c.M, .int .i64 c.G, .int .i64 c.F], .int .u8 y] w fun e w' => e = .returned (.bool true) ∧ Below w.heap.size w w' := by
  have HG := Lib.hid hg
  clear hg
  go_enter Tryd.func7, Tryd.ntmps7
  go_wp2_with (first
    | (go_at_call 9; (with_reducible refine (great_is c true HG.out _).mono ?_); rintro e w1 ⟨rfl, b1⟩; have B1 := below_then (below_al (Below.refl _ w) _) b1; obtain ⟨k0, k1, k2, k3, k4, k5, k6, k7, k8⟩ := ((Blk.new w _ _).on b1).cf)
    | (go_at_call 10; (with_reducible refine (lives_any w1 (hw.on B1)).mono ?_); rintro e w2 ⟨rfl, b2⟩))
  go_ret
  exact ⟨rfl, below_then B1 b2⟩

set_option maxRecDepth 100000 in
theorem turned_out (c : Cf) (y : Int) (w : World) (hw : Ways w) (hg : greatB c = false) (ho : c.N < 4 ∨ 16 < c.N ∨ 8 < c.pn) :
    Calls Tryd.prog 7 #[.agg #[.int .i64 c.N, .slice c.pA c.pn c.pc, .slice c.sA c.sn c.sc, .int .i64 c.L, .slice c.bA c.bn c.bc, .slice c.tA c.tn c.tc, .int .i64 c.M, .int .i64 c.G, .int .i64 c.F], .int .u8 y] w fun e w' => e = .returned (.bool true) ∧ Below w.heap.size w w' := by
  have HG := Lib.hid hg
  clear hg
  by_cases h1 : c.N < 4
  · clear ho
    go_enter Tryd.func7, Tryd.ntmps7
    go_wp2_with (first
      | (go_at_call 9; (with_reducible refine (great_is c false HG.out _).mono ?_); rintro e w1 ⟨rfl, b1⟩; have B1 := below_then (below_al (Below.refl _ w) _) b1; obtain ⟨k0, k1, k2, k3, k4, k5, k6, k7, k8⟩ := ((Blk.new w _ _).on b1).cf)
      | (go_at_call 10; (with_reducible refine (lives_any w1 (hw.on B1)).mono ?_); rintro e w2 ⟨rfl, b2⟩))
    go_ret
    exact ⟨rfl, below_then B1 b2⟩
  · by_cases h2 : 16 < c.N
    · have h1' : 4 ≤ c.N := by omega
      clear ho h1
      go_enter Tryd.func7, Tryd.ntmps7
      go_wp2_with (first
        | (go_at_call 9; (with_reducible refine (great_is c false HG.out _).mono ?_); rintro e w1 ⟨rfl, b1⟩; have B1 := below_then (below_al (Below.refl _ w) _) b1; obtain ⟨k0, k1, k2, k3, k4, k5, k6, k7, k8⟩ := ((Blk.new w _ _).on b1).cf)
        | (go_at_call 10; (with_reducible refine (lives_any w1 (hw.on B1)).mono ?_); rintro e w2 ⟨rfl, b2⟩))
      go_ret
      exact ⟨rfl, below_then B1 b2⟩
    · have h1' : 4 ≤ c.N := by omega
      have h2' : c.N ≤ 16 := by omega
      have h3 : 8 < (c.pn : Int) := by omega
      clear ho h1 h2
      go_enter Tryd.func7, Tryd.ntmps7
      go_wp2_with (first
        | (go_at_call 9; (with_reducible refine (great_is c false HG.out _).mono ?_); rintro e w1 ⟨rfl, b1⟩; have B1 := below_then (below_al (Below.refl _ w) _) b1; obtain ⟨k0, k1, k2, k3, k4, k5, k6, k7, k8⟩ := ((Blk.new w _ _).on b1).cf)
        | (go_at_call 10; (with_reducible refine (lives_any w1 (hw.on B1)).mono ?_); rintro e w2 ⟨rfl, b2⟩))
      go_ret
      exact ⟨rfl, below_then B1 b2⟩
set_option maxRecDepth 100000 in
set_option maxHeartbeats 16000000 in
theorem turned_in (c : Cf) (y : Int) (w : World) (hw : Ways w) (hc : CfIn w c) (hg : greatB c = false) (hn4 : 4 ≤ c.N) (hn16 : c.N ≤ 16) (hp8 : c.pn ≤ 8) (hy : 0 ≤ y ∧ y ≤ 255) :
    Calls Tryd.prog 7 #[.agg #[.int .i64 c.N, .slice c.pA c.pn c.pc, .slice c.sA c.sn c.sc, .int .i64 c.L, .slice c.bA c.bn c.bc, .slice c.tA c.tn c.tc, .int .i64 c.M, .int .i64 c.G, .int .i64 c.F], .int .u8 y] w fun e w' => e = .returned (.bool true) ∧ Below w.heap.size w w' := by
  have HG := Lib.hid hg
  have HC := Lib.hid hc
  have HW := Lib.hid hw
  have HL := Lib.hid hc.p.len
  have HLS := Lib.hid hc.s.len
  obtain ⟨f1, f2, f3, f4⟩ := hc.few
  obtain ⟨k, hk⟩ : ∃ k, k = y % c.N := ⟨_, rfl⟩
  have hk0 : 0 ≤ k ∧ k < c.N := by rw [hk]; exact mod_bd y c.N (by omega)
  have hkm1 : y.tmod c.N = k := by rw [Int.tmod_eq_emod_of_nonneg hy.1]; exact hk.symm
  have hkm2 : y % c.N = k := hk.symm
  have hNz : c.N ≠ 0 := by omega
  have hp8i : (c.pn : Int) ≤ 8 := by omega
  have hwy : IntKind.i64.wrap y = y := by rw [IntKind.wrap_i64]; omega
  clear hg hc hw hk
  go_enter Tryd.func7, Tryd.ntmps7
  go_wp2_with (go_at_call 9; (with_reducible refine (great_is c false HG.out _).mono ?_); rintro e w1 ⟨rfl, b1⟩; have B1 := below_then (below_al (Below.refl _ w) _) b1; have hB1 : Blk w1 w.heap.size 25 #[.int .i64 c.N, .slice c.pA c.pn c.pc, .slice c.sA c.sn c.sc, .int .i64 c.L, .slice c.bA c.bn c.bc, .slice c.tA c.tn c.tc, .int .i64 c.M, .int .i64 c.G, .int .i64 c.F] := (Blk.new w _ _).on b1; obtain ⟨k0, k1, k2, k3, k4, k5, k6, k7, k8⟩ := hB1.cf)
  clear k0 k1 k2 k3 k4 k5 k6 k7 k8 b1
  go_loopw [5] (fun s wr => ∃ i : Nat, i ≤ c.pn ∧ s = .int .i64 i ∧ Hid (∀ j, j < i → 0 ≤ c.P.getD j 0 ∧ c.P.getD j 0 < c.N) ∧ Hid (∀ j, j + 1 < i → c.P.getD j 0 < c.P.getD (j + 1) 0) ∧ Below w1.heap.size w1 wr) (fun s _ => c.pn - (intOf s).toNat)
  case atStart => exact ⟨0, Nat.zero_le _, rfl, Lib.hid (fun j h => absurd h (by omega)), Lib.hid (fun j h => absurd h (by omega)), Below.refl _ _⟩
  case round =>
    obtain ⟨i, hi, rfl, HA, HS, hb⟩ := hrel
    have hBr := hB1.on hb
    obtain ⟨k0, k1, k2, k3, k4, k5, k6, k7, k8⟩ := hBr.cf
    by_cases hlt : i < c.pn
    · obtain ⟨b, off, hAd, hbl, hcc⟩ := (HC.out.on (below_then B1 hb)).p.at_ (by omega)
      have hcell := hcc i hlt
      have hprev := hcc (i - 1) (by omega)
      obtain ⟨a, ha⟩ : ∃ a, a = c.P.getD i 0 := ⟨_, rfl⟩
      obtain ⟨pv, hpv⟩ : ∃ a, a = c.P.getD (i - 1) 0 := ⟨_, rfl⟩
      rw [← ha] at hcell
      rw [← hpv] at hprev
      have hix := fun W => idxNums (n := c.pn) c.pc hAd hlt W
      have hix1 : 0 < i → ∀ W, (Instr.indexAt 22 (.slice c.pA c.pn c.pc) (.int .i64 ((i : Int) - 1))).run Tryd.prog W = .ok (.pointer (some ⟨b, off + (i - 1), none⟩)) W := fun h0 W => by
        have := idxNums (n := c.pn) c.pc (k := i - 1) hAd (by omega) W
        rwa [show (((i - 1 : Nat)) : Int) = (i : Int) - 1 by omega] at this
      have HAA := Lib.hid ha
      have HPV := Lib.hid hpv
      clear ha hpv hAd hcc
      have hi0 : (0 : Int) ≤ (i : Int) := by omega
      have hi1 : (i : Int) < (c.pn : Int) := by omega
      by_cases ha0 : a < 0
      · clear hix1
        have hd : decide (a < 0) = true := decide_eq_true ha0
        go_wp2_with fail
        go_quiet (fail)
        go_wp2_with (go_at_call 10; (with_reducible refine (lives_any _ (HW.out.on (below_then B1 (below_drewN hb _)))).mono ?_); rintro e w2 ⟨rfl, b2⟩)
        go_ret
        exact ⟨rfl, below_then (below_then B1 (below_drewN hb _)) b2⟩
      · by_cases haN : c.N ≤ a
        · have ha0' : 0 ≤ a := by omega
          have hd : decide (a < 0) = false := decide_eq_false ha0
          have hd2 : decide (c.N ≤ a) = true := decide_eq_true haN
          clear hix1 ha0
          go_wp2_with fail
          go_quiet (fail)
          go_wp2_with (go_at_call 10; (with_reducible refine (lives_any _ (HW.out.on (below_then B1 (below_drewN hb _)))).mono ?_); rintro e w2 ⟨rfl, b2⟩)
          go_ret
          exact ⟨rfl, below_then (below_then B1 (below_drewN hb _)) b2⟩
        · have ha0' : 0 ≤ a := by omega
          have haN' : a < c.N := by omega
          have hd0 : decide (a < 0) = false := decide_eq_false (by omega)
          have hd1 : decide (c.N ≤ a) = false := decide_eq_false (by omega)
          have HA2 := Lib.hid (show ∀ j, j < i + 1 → 0 ≤ c.P.getD j 0 ∧ c.P.getD j 0 < c.N from fun j hj => by
            by_cases e : j = i
            · subst e; rw [← HAA.out]; exact ⟨ha0', haN'⟩
            · exact HA.out j (by omega))
          clear ha0 haN HA
          rcases Nat.eq_zero_or_pos i with hiz | hiz
          · have hg1 : decide ((0 : Int) < (i : Int)) = false := decide_eq_false (by omega)
            have hg2 : decide (0 < i) = false := decide_eq_false (by omega)
            have HS2 := Lib.hid (show ∀ j, j + 1 < i + 1 → c.P.getD j 0 < c.P.getD (j + 1) 0 from fun j hj => absurd hj (by omega))
            clear hix1 hprev hiz
            go_wp2_with fail
            go_quiet (fail)
            go_wp2_with fail
            go_roundw
            case rel => exact ⟨i + 1, by omega, by go_num, HA2, HS2, below_drewN hb _⟩
            case measure => simp [intOf]; omega
          · have hg1 : decide ((0 : Int) < (i : Int)) = true := decide_eq_true (by omega)
            have hi0i : (0 : Int) < (i : Int) := by omega
            have hix2 := hix1 hiz
            have hwi : IntKind.i64.wrap ((i : Int) - 1) = (i : Int) - 1 := by rw [IntKind.wrap_i64]; omega
            clear hix1
            by_cases hap : a ≤ pv
            · have hd2 : decide (a ≤ pv) = true := decide_eq_true hap
              go_wp2_with fail
              go_quiet (fail)
              go_wp2_with (go_at_call 10; (with_reducible refine (lives_any _ (HW.out.on (below_then B1 (below_drewN hb _)))).mono ?_); rintro e w2 ⟨rfl, b2⟩)
              go_ret
              exact ⟨rfl, below_then (below_then B1 (below_drewN hb _)) b2⟩
            · have hap' : pv < a := by omega
              have hd2 : decide (a ≤ pv) = false := decide_eq_false (by omega)
              have HS2 := Lib.hid (show ∀ j, j + 1 < i + 1 → c.P.getD j 0 < c.P.getD (j + 1) 0 from fun j hj => by
                by_cases e : j + 1 = i
                · subst e
                  rw [← HAA.out]
                  have := HPV.out
                  rw [Nat.add_sub_cancel] at this
                  omega
                · exact HS.out j (by omega))
              clear hap
              go_wp2_with fail
              go_quiet (fail)
              go_wp2_with fail
              go_roundw
              case rel => exact ⟨i + 1, by omega, by go_num, HA2, HS2, below_drewN hb _⟩
              case measure => simp [intOf]; omega
    · have hlti : (c.pn : Int) ≤ (i : Int) := by omega
      obtain rfl : i = c.pn := by omega
      clear hlt hi hBr
      obtain ⟨u0, rfl⟩ : ∃ u0, u0 = wr := ⟨wr, rfl⟩
      have B0 := below_then B1 hb
      have hB0 := hB1.on hb
      have hlu : w.heap.size < u0.heap.size := hB0.lt
      clear hB1 B1 hb
      obtain ⟨i0, hi0, hz0, hz1, hz2⟩ := info_parts infoNums
      obtain ⟨k0, k1, k2, k3, k4, k5, k6, k7, k8⟩ := hB0.cf
      go_wp2_with fail
      clear k0 k1 k2 k3 k4 k5 k6 k7 k8
      go_loopw [7, 9, 10] (fun v7 v9 v10 wq => ∃ (i : Nat) (A1 : Option Addr) (n1 c1 : Nat) (A3 : Option Addr) (n3 c3 : Nat), i ≤ c.pn ∧ v10 = .int .i64 i ∧ v7 = .slice A1 n1 c1 ∧ v9 = .slice A3 n3 c3 ∧ n1 ≤ i ∧ n3 ≤ i ∧ Tr u0 wq A1 n1 c1 (lowM c.N k (c.P.take i)) none 0 0 [] A3 n3 c3 (ordA c.N k c.P i)) (fun _ _ v10 _ => c.pn - (intOf v10).toNat)
      case atStart => exact ⟨0, none, 0, 0, none, 0, 0, Nat.zero_le _, rfl, rfl, rfl, Nat.le_refl _, Nat.le_refl _, Tr.start u0⟩
      case round =>
        obtain ⟨i, A1, n1, c1, A3, n3, c3, hi, rfl, rfl, rfl, hn1, hn3, hT⟩ := hrel
        obtain ⟨k0, k1, k2, k3, k4, k5, k6, k7, k8⟩ := (hB0.on hT.below).cf
        by_cases hlt : i < c.pn
        · obtain ⟨b, off, hAd, hbl, hcc⟩ := (HC.out.on B0).p.at_ (by omega)
          have HCL := Lib.hid (fun W (h : Below u0.heap.size u0 W) => (h.cell (p := ⟨b, off + i, none⟩) hbl).trans (hcc i hlt))
          have hcell := HCL.out _ hT.below
          have hix := fun W => idxNums (n := c.pn) c.pc hAd hlt W
          have hin := HA.out i hlt
          have HLY := Lib.hid (fun h => lowM_yes (N := c.N) (k := k) (P := c.P) (i := i) (by have := HL.out; omega) h)
          have HLN := Lib.hid (fun h => lowM_no (N := c.N) (k := k) (P := c.P) (i := i) (by have := HL.out; omega) h)
          have HOY := Lib.hid (fun h => ordA_yes (N := c.N) (k := k) (P := c.P) (i := i) h)
          have HON := Lib.hid (fun h => ordA_no (N := c.N) (k := k) (P := c.P) (i := i) h)
          obtain ⟨x, hx⟩ : ∃ a, a = c.P.getD i 0 := ⟨_, rfl⟩
          rw [← hx] at hcell hin HLY HLN HOY HON HCL
          clear hx hAd hcc
          have hii : (i : Int) < (c.pn : Int) := by omega
          have hi00 : (0 : Int) ≤ (i : Int) := by omega
          have hw1 : IntKind.i64.wrap (x + k) = x + k := by rw [IntKind.wrap_i64]; omega
          have hw2 : IntKind.i64.wrap (x + k - c.N) = x + k - c.N := by rw [IntKind.wrap_i64]; omega
          by_cases hge : c.N ≤ x + k
          · have hd : decide (c.N ≤ x + k) = true := decide_eq_true hge
            go_wp2_with fail
            go_quiet (fail)
            go_wp2_with fail
            have hTq := hT.on (below_drewN (Below.refl _ _) nq)
            generalize wr.drewN nq = wq at hTq ⊢
            clear hT hcell k0 k1 k2 k3 k4 k5 k6 k7 k8
            obtain ⟨k0, k1, k2, k3, k4, k5, k6, k7, k8⟩ := (hB0.on hTq.below).cf
            have hcell := HCL.out _ hTq.below
            have hal : Below wq.heap.size wq (wq.alloc (.cells #[.int .i64 (x + k - c.N)] 3)).drew := (below_al (Below.refl _ _) _).drew
            have hown : World.ownsRow (wq.alloc (.cells #[.int .i64 (x + k - c.N)] 3)).drew u0.heap.size 3 1 (.slice A1 n1 c1) n1 ((lowM c.N k (c.P.take i)).map (Value.int .i64)) := hTq.a.on hal
            have hl1 : Lies .i64 (wq.alloc (.cells #[.int .i64 (x + k - c.N)] 3)).drew (wq.alloc (.cells #[.int .i64 (x + k - c.N)] 3)).drew.heap.size (some ⟨wq.heap.size, 0, none⟩) 1 [x + k - c.N] := one_lies wq (x + k - c.N)
            have hbs : u0.heap.size ≤ (wq.alloc (.cells #[.int .i64 (x + k - c.N)] 3)).drew.heap.size := Nat.le_trans hTq.below.size hal.size
            go_region_law (refine step_append_num rfl (.tmp 99) (.tmp 110) 22 rfl u0.heap.size 3 i0 _ 8 Tryd.underlying22 hi0 hz0 hz1 hz2 rfl A1 n1 c1 _ (by simp [Act.eval]) hown (some ⟨wq.heap.size, 0, none⟩) 1 1 [x + k - c.N] (by simp [Act.eval]) hl1 (n1 + 1) rfl (by unfold maxLen; omega) (by omega) hbs ?_; intro A1' c1' w3 hr3 hg3 hd3)
            all_goals
              have hT3 := hTq.push hal hr3 hg3 hd3
              have hal4 : Below w3.heap.size w3 (w3.alloc (.cells #[.int .i64 (i : Int)] 3)) := below_al (Below.refl _ _) _
              have hown4 : World.ownsRow (w3.alloc (.cells #[.int .i64 (i : Int)] 3)) u0.heap.size 3 1 (.slice A3 n3 c3) n3 ((ordA c.N k c.P i).map (Value.int .i64)) := hT3.c.on hal4
              have hl4 := one_lies w3 (i : Int)
              have hbs4 : u0.heap.size ≤ (w3.alloc (.cells #[.int .i64 (i : Int)] 3)).heap.size := Nat.le_trans hT3.below.size hal4.size
              clear hTq hal hown hl1 hbs hr3 hg3 hd3 k0 k1 k2 k3 k4 k5 k6 k7 k8 hcell
              go_wp2_with (at_builtin; with_reducible refine wpList_append_lies rfl (.tmp 112) (.tmp 114) 22 rfl u0.heap.size 3 i0 _ 8 Tryd.underlying22 hi0 hz0 hz1 hz2 rfl .i64 (.slice A3 n3 c3) n3 (ordA c.N k c.P i) rfl hown4 (some ⟨w3.heap.size, 0, none⟩) 1 1 [(i : Int)] rfl hl4 (n3 + 1) rfl (by unfold maxLen; omega) (by omega) hbs4 ?_)
              intro A3' c3' w5 hr5 hg5 hd5
              rw [own_blk] at hg5
              rw [own_blk, own_blk] at hd5
              have hT5 := (hT3.turn.push1 hal4 hr5 hg5 (by rw [alloc_size]; exact hd5)).turn
              clear hT3 hal4 hown4 hl4 hbs4 hr5 hg5 hd5
              go_wp2_with fail
              go_roundw
              case rel => exact ⟨i + 1, A1', n1 + 1, c1', A3', n3 + 1, c3', by omega, by go_num, rfl, rfl, by omega, by omega, by rw [HLY.out hge, HOY.out hge]; exact hT5⟩
              case measure => simp [intOf]; omega
          · have hd : decide (c.N ≤ x + k) = false := decide_eq_false hge
            have hge' : x + k < c.N := by omega
            go_wp2_with fail
            go_quiet (fail)
            go_wp2_with fail
            go_roundw
            case rel => exact ⟨i + 1, A1, n1, c1, A3, n3, c3, by omega, by go_num, rfl, rfl, by omega, by omega, by rw [HLN.out hge', HON.out hge']; exact hT.on (below_drewN (Below.refl _ _) _)⟩
            case measure => simp [intOf]; omega
        · have hlti : (c.pn : Int) ≤ (i : Int) := by omega
          obtain rfl : i = c.pn := by omega
          rw [List.take_of_length_le (by have := HL.out; omega)] at hT
          clear hlt hi
          go_wp2_with fail
          clear k0 k1 k2 k3 k4 k5 k6 k7 k8
          go_loopw [8, 9, 11] (fun v8 v9 v11 wz => ∃ (i : Nat) (A2 : Option Addr) (n2 c2 : Nat) (A3 : Option Addr) (n3 c3 : Nat), i ≤ c.pn ∧ v11 = .int .i64 i ∧ v8 = .slice A2 n2 c2 ∧ v9 = .slice A3 n3 c3 ∧ n2 ≤ i ∧ n3 ≤ c.pn + i ∧ Tr u0 wz A1 n1 c1 (lowM c.N k c.P) A2 n2 c2 (highM c.N k (c.P.take i)) A3 n3 c3 (ordA c.N k c.P c.pn ++ ordB c.N k c.P i)) (fun _ _ v11 _ => c.pn - (intOf v11).toNat)
          case atStart => exact ⟨0, none, 0, 0, A3, n3, c3, Nat.zero_le _, rfl, rfl, rfl, Nat.le_refl _, by omega, by rw [show ordB c.N k c.P 0 = [] from rfl, List.append_nil]; exact hT⟩
          case round =>
            clear hT hn3
            obtain ⟨i, A2, n2, c2, A3, n3, c3, hi, rfl, rfl, rfl, hn2, hn3, hT⟩ := hrel
            obtain ⟨k0, k1, k2, k3, k4, k5, k6, k7, k8⟩ := (hB0.on hT.below).cf
            by_cases hlt : i < c.pn
            · obtain ⟨b, off, hAd, hbl, hcc⟩ := (HC.out.on B0).p.at_ (by omega)
              have HCL := Lib.hid (fun W (h : Below u0.heap.size u0 W) => (h.cell (p := ⟨b, off + i, none⟩) hbl).trans (hcc i hlt))
              have hcell := HCL.out _ hT.below
              have hix := fun W => idxNums (n := c.pn) c.pc hAd hlt W
              have hin := HA.out i hlt
              have HLY := Lib.hid (fun h => highM_yes (N := c.N) (k := k) (P := c.P) (i := i) (by have := HL.out; omega) h)
              have HLN := Lib.hid (fun h => highM_no (N := c.N) (k := k) (P := c.P) (i := i) (by have := HL.out; omega) h)
              have HOY := Lib.hid (fun h => ordB_yes (N := c.N) (k := k) (P := c.P) (i := i) h)
              have HON := Lib.hid (fun h => ordB_no (N := c.N) (k := k) (P := c.P) (i := i) h)
              obtain ⟨x, hx⟩ : ∃ a, a = c.P.getD i 0 := ⟨_, rfl⟩
              rw [← hx] at hcell hin HLY HLN HOY HON HCL
              clear hx hAd hcc
              have hii : (i : Int) < (c.pn : Int) := by omega
              have hi00 : (0 : Int) ≤ (i : Int) := by omega
              have hw1 : IntKind.i64.wrap (x + k) = x + k := by rw [IntKind.wrap_i64]; omega
              by_cases hge : x + k < c.N
              · have hd : decide (x + k < c.N) = true := decide_eq_true hge
                go_wp2_with fail
                go_quiet (fail)
                have hTq := hT.on (below_drewN (Below.refl _ _) nq)
                generalize wr.drewN nq = wq at hTq ⊢
                clear hT hcell k0 k1 k2 k3 k4 k5 k6 k7 k8
                obtain ⟨k0, k1, k2, k3, k4, k5, k6, k7, k8⟩ := (hB0.on hTq.below).cf
                have hcell := HCL.out _ hTq.below
                have hal : Below wq.heap.size wq (wq.alloc (.cells #[.int .i64 (x + k)] 3)) := below_al (Below.refl _ _) _
                have hown : World.ownsRow (wq.alloc (.cells #[.int .i64 (x + k)] 3)) u0.heap.size 3 1 (.slice A2 n2 c2) n2 ((highM c.N k (c.P.take i)).map (Value.int .i64)) := hTq.b.on hal
                have hl1 := one_lies wq (x + k)
                have hbs : u0.heap.size ≤ (wq.alloc (.cells #[.int .i64 (x + k)] 3)).heap.size := Nat.le_trans hTq.below.size hal.size
                go_wp2_with (at_builtin; with_reducible refine wpList_append_lies rfl (.tmp 133) (.tmp 141) 22 rfl u0.heap.size 3 i0 _ 8 Tryd.underlying22 hi0 hz0 hz1 hz2 rfl .i64 (.slice A2 n2 c2) n2 (highM c.N k (c.P.take i)) rfl hown (some ⟨wq.heap.size, 0, none⟩) 1 1 [x + k] rfl hl1 (n2 + 1) rfl (by unfold maxLen; omega) (by omega) hbs ?_)
                intro A2' c2' w3 hr3 hg3 hd3
                rw [own_blk] at hg3
                rw [own_blk, own_blk] at hd3
                have hT3 := (hTq.swap.push1 hal hr3 hg3 (by rw [alloc_size]; exact hd3)).swap
                have hal4 : Below w3.heap.size w3 (w3.alloc (.cells #[.int .i64 (i : Int)] 3)) := below_al (Below.refl _ _) _
                have hown4 : World.ownsRow (w3.alloc (.cells #[.int .i64 (i : Int)] 3)) u0.heap.size 3 1 (.slice A3 n3 c3) n3 ((ordA c.N k c.P c.pn ++ ordB c.N k c.P i).map (Value.int .i64)) := hT3.c.on hal4
                have hl4 := one_lies w3 (i : Int)
                have hbs4 : u0.heap.size ≤ (w3.alloc (.cells #[.int .i64 (i : Int)] 3)).heap.size := Nat.le_trans hT3.below.size hal4.size
                clear hTq hal hown hl1 hbs hr3 hg3 hd3 k0 k1 k2 k3 k4 k5 k6 k7 k8 hcell
                go_wp2_with (at_builtin; with_reducible refine wpList_append_lies rfl (.tmp 143) (.tmp 145) 22 rfl u0.heap.size 3 i0 _ 8 Tryd.underlying22 hi0 hz0 hz1 hz2 rfl .i64 (.slice A3 n3 c3) n3 (ordA c.N k c.P c.pn ++ ordB c.N k c.P i) rfl hown4 (some ⟨w3.heap.size, 0, none⟩) 1 1 [(i : Int)] rfl hl4 (n3 + 1) rfl (by unfold maxLen; omega) (by omega) hbs4 ?_)
                intro A3' c3' w5 hr5 hg5 hd5
                rw [own_blk] at hg5
                rw [own_blk, own_blk] at hd5
                have hT5 := (hT3.turn.push (xs' := ordA c.N k c.P c.pn ++ (ordB c.N k c.P i ++ [(i : Int)])) hal4 (by simp only [List.map_append, List.map_cons, List.map_nil]; exact hr5) hg5 (by rw [alloc_size]; exact hd5)).turn
                clear hT3 hal4 hown4 hl4 hbs4 hr5 hg5 hd5
                go_wp2_with fail
                go_roundw
                case rel => exact ⟨i + 1, A2', n2 + 1, c2', A3', n3 + 1, c3', by omega, by go_num, rfl, rfl, by omega, by omega, by rw [HLY.out hge, HOY.out hge]; exact hT5⟩
                case measure => simp [intOf]; omega
              · have hd : decide (x + k < c.N) = false := decide_eq_false hge
                have hge' : c.N ≤ x + k := by omega
                go_wp2_with fail
                go_quiet (fail)
                go_wp2_with fail
                go_roundw
                case rel => exact ⟨i + 1, A2, n2, c2, A3, n3, c3, by omega, by go_num, rfl, rfl, by omega, by omega, by rw [HLN.out hge', HON.out hge']; exact hT.on (below_drewN (Below.refl _ _) _)⟩
                case measure => simp [intOf]; omega
            · have hlti : (c.pn : Int) ≤ (i : Int) := by omega
              obtain rfl : i = c.pn := by omega
              rw [List.take_of_length_le (by have := HL.out; omega)] at hT
              have HO := Lib.hid (show ordA c.N k c.P c.pn ++ ordB c.N k c.P c.pn = ordM c.N k c.P by rw [ordM, HL.out])
              rw [HO.out] at hT
              obtain rfl : n3 = c.pn := by have h1 := hT.c.len; rw [ordM_len, HL.out] at h1; exact h1.symm
              have hnn : n1 + n2 = c.pn := by have h1 := hT.a.len; have h2 := hT.b.len; rw [← h1, ← h2, turned_len, HL.out]
              clear hlt hi HO hn1 hn2 hn3
              have hal : Below wr.heap.size wr (wr.alloc (.cells #[.int .i64 c.N, .slice c.pA c.pn c.pc, .slice c.sA c.sn c.sc, .int .i64 c.L, .slice c.bA c.bn c.bc, .slice c.tA c.tn c.tc, .int .i64 c.M, .int .i64 c.G, .int .i64 c.F] 25)) := below_al (Below.refl _ _) _
              have hown : World.ownsRow (wr.alloc (.cells #[.int .i64 c.N, .slice c.pA c.pn c.pc, .slice c.sA c.sn c.sc, .int .i64 c.L, .slice c.bA c.bn c.bc, .slice c.tA c.tn c.tc, .int .i64 c.M, .int .i64 c.G, .int .i64 c.F] 25)) u0.heap.size 3 1 (.slice A1 n1 c1) n1 ((lowM c.N k c.P).map (Value.int .i64)) := hT.a.on hal
              have hlB := (hT.b.on hal).lies
              have hbs : u0.heap.size ≤ (wr.alloc (.cells #[.int .i64 c.N, .slice c.pA c.pn c.pc, .slice c.sA c.sn c.sc, .int .i64 c.L, .slice c.bA c.bn c.bc, .slice c.tA c.tn c.tc, .int .i64 c.M, .int .i64 c.G, .int .i64 c.F] 25)).heap.size := Nat.le_trans hT.below.size hal.size
              have hV : Blk (wr.alloc (.cells #[.int .i64 c.N, .slice c.pA c.pn c.pc, .slice c.sA c.sn c.sc, .int .i64 c.L, .slice c.bA c.bn c.bc, .slice c.tA c.tn c.tc, .int .i64 c.M, .int .i64 c.G, .int .i64 c.F] 25)) wr.heap.size 25 #[.int .i64 c.N, .slice c.pA c.pn c.pc, .slice c.sA c.sn c.sc, .int .i64 c.L, .slice c.bA c.bn c.bc, .slice c.tA c.tn c.tc, .int .i64 c.M, .int .i64 c.G, .int .i64 c.F] := Blk.new wr _ _
              have hu0 := hT.below.size
              obtain ⟨u4, rfl⟩ : ∃ u4, u4 = wr := ⟨wr, rfl⟩
              go_wp2_with (at_builtin; with_reducible refine wpList_append_lies rfl (.tmp 148) (.tmp 149) 22 rfl u0.heap.size 3 i0 _ 8 Tryd.underlying22 hi0 hz0 hz1 hz2 rfl .i64 (.slice A1 n1 c1) n1 (lowM c.N k c.P) rfl hown A2 n2 c2 (highM c.N k c.P) rfl hlB c.pn hnn (by unfold maxLen; omega) (by omega) hbs ?_)
              intro A1' c1' w3 hr3 hg3 hd3
              rw [own_blk] at hg3
              rw [own_blk, own_blk] at hd3
              have hV3 := blk_grown hV (hT.a.on hal) (by decide) hg3
              have hT3 := (hT.push2 hal hr3 hg3 (by rw [alloc_size]; exact hd3)).fresh
              clear hT hal hown hlB hbs hV hr3 hg3 hd3 k0 k1 k2 k3 k4 k5 k6 k7 k8
              have hV4 := hV3.set_ 1 (.slice A1' c.pn c1')
              have hT4 := hT3.far (i := 1) hV3 (by decide) hu0 (.slice A1' c.pn c1')
              have hV5 := hV4.set_ 2 (.slice none 0 0)
              have hT5 := hT4.far (i := 2) hV4 (by decide) hu0 (.slice none 0 0)
              have q1 := hV3.cell 1
              have q2 := hV4.cell 2
              have q3 := hV3.frozen 1
              have q4 := hV4.frozen 2
              simp only [List.setIfInBounds_toArray, List.set_cons_zero, List.set_cons_succ, List.getElem?_toArray, List.getElem?_cons_zero, List.getElem?_cons_succ] at q1 q2 hV5
              clear hV4 hT4 hV3 hT3
              go_wp2_with fail
              clear q1 q2 q3 q4
              have HO := Lib.hid (ordM_len c.N k c.P)
              obtain ⟨O, hO⟩ : ∃ O, O = ordM c.N k c.P := ⟨_, rfl⟩
              obtain ⟨LH, hLH⟩ : ∃ O, O = lowM c.N k c.P ++ highM c.N k c.P := ⟨_, rfl⟩
              rw [← hO, ← hLH] at hT5
              rw [← hO, HL.out] at HO
              have HOO := Lib.hid hO
              have HLH := Lib.hid hLH
              clear hO hLH
              go_loopw [13] (fun v13 wz => ∃ (i : Nat) (B : Option Addr) (d : Nat), i ≤ c.sn ∧ v13 = .int .i64 i ∧ Blk wz u4.heap.size 25 #[.int .i64 c.N, .slice A1' c.pn c1', .slice B i d, .int .i64 c.L, .slice c.bA c.bn c.bc, .slice c.tA c.tn c.tc, .int .i64 c.M, .int .i64 c.G, .int .i64 c.F] ∧ Tr u0 wz A1' c.pn c1' LH B i d ((c.S.take i).map (posM O)) A3 c.pn c3 O) (fun v13 _ => c.sn - (intOf v13).toNat)
              case atStart => exact ⟨0, none, 0, Nat.zero_le _, rfl, hV5, hT5⟩
              case round =>
                clear hV5 hT5
                obtain ⟨i, B, d, hi, rfl, hV, hT⟩ := hrel
                obtain ⟨k0, k1, k2, k3, k4, k5, k6, k7, k8⟩ := (hB0.on hT.below).cf
                by_cases hlt : i < c.sn
                · obtain ⟨b, off, hAd, hbl, hcc⟩ := (HC.out.on B0).s.at_ (by omega)
                  have HCL := Lib.hid (fun W (h : Below u0.heap.size u0 W) => (h.cell (p := ⟨b, off + i, none⟩) hbl).trans (hcc i hlt))
                  have hixs := fun W => idxNums (n := c.sn) c.sc hAd hlt W
                  have HTS := Lib.hid (take_snoc c.S i (by have := HLS.out; omega))
                  obtain ⟨s, hs⟩ : ∃ a, a = c.S.getD i 0 := ⟨_, rfl⟩
                  rw [← hs] at HCL HTS
                  clear hs hAd hcc
                  have hii : (i : Int) < (c.sn : Int) := by omega
                  have hi00 : (0 : Int) ≤ (i : Int) := by omega
                  obtain ⟨u5, rfl⟩ : ∃ u5, u5 = wr := ⟨wr, rfl⟩
                  go_wp2_with fail
                  clear k0 k1 k2 k3 k4 k5 k6 k7 k8
                  go_loopw [14, 15] (fun v14 v15 wy => ∃ (j : Nat) (nw : Int), j ≤ c.pn ∧ v15 = .int .i64 j ∧ v14 = .int .i64 nw ∧ Hid (posM O s = posG s j nw (O.drop j)) ∧ Below u5.heap.size u5 wy) (fun _ v15 _ => c.pn - (intOf v15).toNat)
                  case atStart => exact ⟨0, -1, Nat.zero_le _, rfl, rfl, Lib.hid rfl, Below.refl _ _⟩
                  case round =>
                    obtain ⟨j, nw, hj, rfl, rfl, HP, hb⟩ := hrel
                    have hTj := hT.on hb
                    obtain ⟨k0, k1, k2, k3, k4, k5, k6, k7, k8⟩ := (hB0.on hTj.below).cf
                    by_cases hltj : j < c.pn
                    · obtain ⟨b', off', hAd', hbl', hcc'⟩ := hTj.c.lies.at_ (by omega)
                      have hc1 := HCL.out _ hTj.below
                      have hc2 := hcc' j hltj
                      have hixo := fun W => idxNums (n := c.pn) c3 hAd' hltj W
                      have HD := Lib.hid (posG_drop s j nw O j (by have := HO.out; omega))
                      obtain ⟨o, ho⟩ : ∃ a, a = O.getD j 0 := ⟨_, rfl⟩
                      rw [← ho] at hc2 HD
                      clear ho hAd' hcc'
                      have hji : (j : Int) < (c.pn : Int) := by omega
                      have hj00 : (0 : Int) ≤ (j : Int) := by omega
                      by_cases hos : o = s
                      · subst hos
                        have HP2 := Lib.hid (show posM O o = posG o ((j + 1 : Nat) : Int) j (O.drop (j + 1)) by rw [HP.out, HD.out, if_pos rfl]; rfl)
                        go_wp2_with fail
                        go_quiet (fail)
                        go_wp2_with fail
                        go_roundw
                        case rel => exact ⟨j + 1, j, by omega, by go_num, rfl, HP2, below_drewN hb _⟩
                        case measure => simp [intOf]; omega
                      · have HP2 := Lib.hid (show posM O s = posG s ((j + 1 : Nat) : Int) nw (O.drop (j + 1)) by rw [HP.out, HD.out, if_neg hos]; rfl)
                        have hbe : (o == s) = false := beq_eq_false_iff_ne.2 hos
                        have hde : decide (o = s) = false := decide_eq_false hos
                        go_wp2_with fail
                        go_quiet (fail)
                        go_wp2_with fail
                        go_roundw
                        case rel => exact ⟨j + 1, nw, by omega, by go_num, rfl, HP2, below_drewN hb _⟩
                        case measure => simp [intOf]; omega
                    · have hltj' : (c.pn : Int) ≤ (j : Int) := by omega
                      obtain rfl : j = c.pn := by omega
                      have hnw : posM O s = nw := by rw [HP.out, List.drop_of_length_le (by have := HO.out; omega)]; rfl
                      have hVj := hV.on hb
                      obtain ⟨SS, hSS⟩ : ∃ l, l = (c.S.take i).map (posM O) := ⟨_, rfl⟩
                      rw [← hSS] at hTj
                      have HSS := Lib.hid hSS
                      have HNW := Lib.hid hnw
                      have hal : Below wr.heap.size wr (wr.alloc (.cells #[.int .i64 nw] 3)) := below_al (Below.refl _ _) _
                      have hown : World.ownsRow (wr.alloc (.cells #[.int .i64 nw] 3)) u0.heap.size 3 1 (.slice B i d) i (SS.map (Value.int .i64)) := hTj.b.on hal
                      have hl := one_lies wr nw
                      have hbs : u0.heap.size ≤ (wr.alloc (.cells #[.int .i64 nw] 3)).heap.size := Nat.le_trans hTj.below.size hal.size
                      have q2 := hVj.cell 2
                      simp only [List.getElem?_toArray, List.getElem?_cons_zero, List.getElem?_cons_succ] at q2
                      clear hSS hnw hT hV HP
                      go_wp2_with (at_builtin; with_reducible refine wpList_append_lies rfl (.tmp 178) (.tmp 180) 22 rfl u0.heap.size 3 i0 _ 8 Tryd.underlying22 hi0 hz0 hz1 hz2 rfl .i64 (.slice B i d) i SS rfl hown (some ⟨wr.heap.size, 0, none⟩) 1 1 [nw] rfl hl (i + 1) rfl (by unfold maxLen; omega) (by omega) hbs ?_)
                      intro B' d' w6 hr6 hg6 hd6
                      rw [own_blk] at hg6
                      rw [own_blk, own_blk] at hd6
                      have hV6 := blk_grown (hVj.alloc _) (hTj.b.on hal) (by decide) hg6
                      have hT6 := (hTj.swap.push1 hal hr6 hg6 (by rw [alloc_size]; exact hd6)).swap
                      have hV7 := hV6.set_ 2 (.slice B' (i + 1) d')
                      have hT7 := hT6.far (i := 2) hV6 (by decide) hu0 (.slice B' (i + 1) d')
                      have q1 := hV6.cell 2
                      have q3 := hV6.frozen 2
                      simp only [List.setIfInBounds_toArray, List.set_cons_zero, List.set_cons_succ, List.getElem?_toArray, List.getElem?_cons_zero, List.getElem?_cons_succ] at q1 hV7
                      clear hr6 hg6 hd6 hV6 hT6 hal hown hl hbs q2 hTj hVj k0 k1 k2 k3 k4 k5 k6 k7 k8
                      go_wp2_with fail
                      go_roundw
                      case rel => exact ⟨i + 1, B', d', by omega, by go_num, hV7, by rw [HTS.out, List.map_append, List.map_cons, List.map_nil, HNW.out, ← HSS.out]; exact hT7⟩
                      case measure => simp [intOf]; omega
                · have hlti : (c.sn : Int) ≤ (i : Int) := by omega
                  obtain rfl : i = c.sn := by omega
                  rw [List.take_of_length_le (by have := HLS.out; omega)] at hT
                  have hPW : c.P.Pairwise (· < ·) := rises c.P (fun j hj => HS.out j (by have := HL.out; omega))
                  have hPN : ∀ a ∈ c.P, 0 ≤ a ∧ a < c.N := fun a ha => by
                    obtain ⟨j, hj, rfl⟩ := List.mem_iff_getElem.1 ha
                    have := HA.out j (by have := HL.out; omega)
                    rwa [getD_at c.P j hj] at this
                  have hnew := turned_new c A1' B c1' d k hk0 HL.out hPN hPW
                  rw [← HOO.out, ← HLH.out] at hnew
                  obtain ⟨SS, hSS⟩ : ∃ l, l = c.S.map (posM O) := ⟨_, rfl⟩
                  rw [← hSS] at hT hnew
                  have hCr := HC.out.on (below_then B0 hT.below)
                  have hWr := HW.out.on (below_then B0 hT.below)
                  have hBr := hB0.on hT.below
                  have hCt : CfIn wr { c with pA := A1', pc := c1', sA := B, sc := d, P := LH, S := SS } := ⟨hT.a.lies, hT.b.lies, hCr.b, hCr.t, ⟨f1, f2, f3, f4⟩⟩
                  have hend := below_then B0 hT.below
                  clear hSS hPW hPN hlt hi hT
                  by_cases h0 : newE c = 0
                  · have HE1 := Lib.hid (hnew.2 h0)
                    have HE2 := Lib.hid h0
                    clear hnew h0
                    go_wp2_with fail
                    refine Reg.wp_slots (fun t => t == 4 || decide (183 ≤ t)) (by kernel_rfl) (by kernel_rfl) (by kernel_rfl) (fun zz => (Reg.tbl [
                      (183, .is (.agg #[.int .i64 c.N, .slice A1' c.pn c1', .slice B c.sn d, .int .i64 c.L, .slice c.bA c.bn c.bc, .slice c.tA c.tn c.tc, .int .i64 c.M, .int .i64 c.G, .int .i64 c.F])),
                      (184, .is (.int .i64 0)),
                      (185, .is (.bool true)),
                      (186, .is (.agg #[.int .i64 c.N, .slice c.pA c.pn c.pc, .slice c.sA c.sn c.sc, .int .i64 c.L, .slice c.bA c.bn c.bc, .slice c.tA c.tn c.tc, .int .i64 c.M, .int .i64 c.G, .int .i64 c.F])),
                      (187, .is (.int .i64 0)),
                      (188, .is (.bool true)),
                      (189, .is (.bool true)),
                      (190, .is (.bool true)),
                      (191, .is (.bool true)),
                      (192, .is (.bool true)),
                      (4, .is (.bool true))] zz).P) (fun zz => (Reg.tbl _ zz).on) ?_ ?_
                    · simp only [Reg.frame, Reg.over, Nat.reduceAdd, Nat.reduceBEq, Nat.reduceLeDiff, decide_true, decide_false, Bool.or_true, Bool.or_false, if_true, Bool.false_eq_true, if_false]
                      refine ⟨?_, ?_, ?_, ?_, ?_, ?_, ?_, ?_, ?_, ?_, ?_, trivial⟩
                      · intro x u hbu hd
                        obtain ⟨z0, z1, z2, z3, z4, z5, z6, z7, z8⟩ := Blk.cf (c := { c with pA := A1', pc := c1', sA := B, sc := d, P := LH, S := SS }) (hV.on hbu)
                        refine wpOp_step rfl fun K hK => ?_
                        go_simp
                        exact hK _ _ ⟨_, rfl, Below.refl _ _, fun d hd => by cases hd; exact rfl⟩
                      · intro x u hbu hd
                        have h183 : x 183 = .agg #[.int .i64 c.N, .slice A1' c.pn c1', .slice B c.sn d, .int .i64 c.L, .slice c.bA c.bn c.bc, .slice c.tA c.tn c.tc, .int .i64 c.M, .int .i64 c.G, .int .i64 c.F] := hd 0 (by decide)
                        refine wpOp_step rfl fun K hK => ?_
                        simp only [h183] at hK ⊢
                        go_simp
                        with_reducible refine (wrong_is { c with pA := A1', pc := c1', sA := B, sc := d, P := LH, S := SS } 0 HE1.out u (hCt.on hbu) (hWr.on hbu)).mono ?_
                        rintro e u' ⟨rfl, hb'⟩
                        exact hK _ _ ⟨_, rfl, hb', fun d hd => by cases hd; exact rfl⟩
                      · intro x u hbu hd
                        have h184 : x 184 = .int .i64 0 := hd 1 (by decide)
                        refine wpOp_step rfl fun K hK => ?_
                        simp only [h184] at hK ⊢
                        go_simp
                        exact hK _ _ ⟨_, rfl, Below.refl _ _, fun d hd => by cases hd; exact rfl⟩
                      · intro x u hbu hd
                        obtain ⟨z0, z1, z2, z3, z4, z5, z6, z7, z8⟩ := (hBr.on hbu).cf
                        refine wpOp_step rfl fun K hK => ?_
                        go_simp
                        exact hK _ _ ⟨_, rfl, Below.refl _ _, fun d hd => by cases hd; exact rfl⟩
                      · intro x u hbu hd
                        have h186 : x 186 = .agg #[.int .i64 c.N, .slice c.pA c.pn c.pc, .slice c.sA c.sn c.sc, .int .i64 c.L, .slice c.bA c.bn c.bc, .slice c.tA c.tn c.tc, .int .i64 c.M, .int .i64 c.G, .int .i64 c.F] := hd 3 (by decide)
                        refine wpOp_step rfl fun K hK => ?_
                        simp only [h186] at hK ⊢
                        go_simp
                        with_reducible refine (wrong_is c 0 HE2.out u (hCr.on hbu) (hWr.on hbu)).mono ?_
                        rintro e u' ⟨rfl, hb'⟩
                        exact hK _ _ ⟨_, rfl, hb', fun d hd => by cases hd; exact rfl⟩
                      · intro x u hbu hd
                        have h187 : x 187 = .int .i64 0 := hd 4 (by decide)
                        refine wpOp_step rfl fun K hK => ?_
                        simp only [h187] at hK ⊢
                        go_simp
                        exact hK _ _ ⟨_, rfl, Below.refl _ _, fun d hd => by cases hd; exact rfl⟩
                      · intro x u hbu hd
                        have h185 : x 185 = .bool true := hd 2 (by decide)
                        have h188 : x 188 = .bool true := hd 5 (by decide)
                        refine wpOp_step rfl fun K hK => ?_
                        simp only [h185, h188] at hK ⊢
                        go_simp
                        exact hK _ _ ⟨_, rfl, Below.refl _ _, fun d hd => by cases hd; exact rfl⟩
                      · intro x u hbu hd
                        have h189 : x 189 = .bool true := hd 6 (by decide)
                        refine wpOp_step rfl fun K hK => ?_
                        simp only [h189] at hK ⊢
                        go_simp
                        exact hK _ _ ⟨_, rfl, Below.refl _ _, fun d hd => by cases hd; exact rfl⟩
                      · intro x u hbu hd
                        have h190 : x 190 = .bool true := hd 7 (by decide)
                        refine wpOp_step rfl fun K hK => ?_
                        simp only [h190] at hK ⊢
                        go_simp
                        with_reducible refine (lives_any u (hWr.on hbu)).mono ?_
                        rintro e u' ⟨rfl, hb'⟩
                        exact hK _ _ ⟨_, rfl, hb', fun d hd => by cases hd; exact rfl⟩
                      · intro x u hbu hd
                        have h190 : x 190 = .bool true := hd 7 (by decide)
                        have h191 : x 191 = .bool true := hd 8 (by decide)
                        refine wpOp_step rfl fun K hK => ?_
                        simp only [h190, h191] at hK ⊢
                        go_simp
                        exact hK _ _ ⟨_, rfl, Below.refl _ _, fun d hd => by cases hd; exact rfl⟩
                      · intro x u hbu hd
                        have h192 : x 192 = .bool true := hd 9 (by decide)
                        refine wpOp_step rfl fun K hK => ?_
                        simp only [h192] at hK ⊢
                        go_simp
                        exact hK _ _ ⟨_, rfl, Below.refl _ _, fun d hd => by cases hd; exact rfl⟩
                    · intro x' U1 hU1 hd
                      have h4 : x' 4 = .bool true := hd 10 (by decide)
                      simp only [Reg.frame, Reg.over, Nat.reduceAdd, Nat.reduceBEq, Nat.reduceLeDiff, decide_true, decide_false, Bool.or_true, Bool.or_false, if_true, Bool.false_eq_true, if_false, h4]
                      go_wp2_with fail
                      go_ret
                      exact ⟨rfl, below_then hend hU1⟩
                  · obtain ⟨e1, he1⟩ : ∃ e, e = newE { c with pA := A1', pc := c1', sA := B, sc := d, P := LH, S := SS } := ⟨_, rfl⟩
                    obtain ⟨e2, he2⟩ : ∃ e, e = newE c := ⟨_, rfl⟩
                    rw [← he1, ← he2] at hnew
                    rw [← he2] at h0
                    have h1 : ¬ e1 = 0 := fun q => h0 (hnew.1 q)
                    have g1 := beq_eq_false_iff_ne.2 h1
                    have g2 := beq_eq_false_iff_ne.2 h0
                    have g3 : decide (e1 = 0) = false := decide_eq_false h1
                    have g4 : decide (e2 = 0) = false := decide_eq_false h0
                    have HE1 := Lib.hid he1.symm
                    have HE2 := Lib.hid he2.symm
                    clear hnew he1 he2
                    go_wp2_with fail
                    refine Reg.wp_slots (fun t => t == 4 || decide (183 ≤ t)) (by kernel_rfl) (by kernel_rfl) (by kernel_rfl) (fun zz => (Reg.tbl [
                      (183, .is (.agg #[.int .i64 c.N, .slice A1' c.pn c1', .slice B c.sn d, .int .i64 c.L, .slice c.bA c.bn c.bc, .slice c.tA c.tn c.tc, .int .i64 c.M, .int .i64 c.G, .int .i64 c.F])),
                      (184, .is (.int .i64 e1)),
                      (185, .is (.bool false)),
                      (186, .is (.agg #[.int .i64 c.N, .slice c.pA c.pn c.pc, .slice c.sA c.sn c.sc, .int .i64 c.L, .slice c.bA c.bn c.bc, .slice c.tA c.tn c.tc, .int .i64 c.M, .int .i64 c.G, .int .i64 c.F])),
                      (187, .is (.int .i64 e2)),
                      (188, .is (.bool false)),
                      (189, .is (.bool true)),
                      (190, .is (.bool true)),
                      (191, .is (.bool true)),
                      (192, .is (.bool true)),
                      (4, .is (.bool true))] zz).P) (fun zz => (Reg.tbl _ zz).on) ?_ ?_
                    · simp only [Reg.frame, Reg.over, Nat.reduceAdd, Nat.reduceBEq, Nat.reduceLeDiff, decide_true, decide_false, Bool.or_true, Bool.or_false, if_true, Bool.false_eq_true, if_false]
                      refine ⟨?_, ?_, ?_, ?_, ?_, ?_, ?_, ?_, ?_, ?_, ?_, trivial⟩
                      · intro x u hbu hd
                        obtain ⟨z0, z1, z2, z3, z4, z5, z6, z7, z8⟩ := Blk.cf (c := { c with pA := A1', pc := c1', sA := B, sc := d, P := LH, S := SS }) (hV.on hbu)
                        refine wpOp_step rfl fun K hK => ?_
                        go_simp
                        exact hK _ _ ⟨_, rfl, Below.refl _ _, fun d hd => by cases hd; exact rfl⟩
                      · intro x u hbu hd
                        have h183 : x 183 = .agg #[.int .i64 c.N, .slice A1' c.pn c1', .slice B c.sn d, .int .i64 c.L, .slice c.bA c.bn c.bc, .slice c.tA c.tn c.tc, .int .i64 c.M, .int .i64 c.G, .int .i64 c.F] := hd 0 (by decide)
                        refine wpOp_step rfl fun K hK => ?_
                        simp only [h183] at hK ⊢
                        go_simp
                        with_reducible refine (wrong_is { c with pA := A1', pc := c1', sA := B, sc := d, P := LH, S := SS } e1 HE1.out u (hCt.on hbu) (hWr.on hbu)).mono ?_
                        rintro e u' ⟨rfl, hb'⟩
                        exact hK _ _ ⟨_, rfl, hb', fun d hd => by cases hd; exact rfl⟩
                      · intro x u hbu hd
                        have h184 : x 184 = .int .i64 e1 := hd 1 (by decide)
                        refine wpOp_step rfl fun K hK => ?_
                        simp only [h184] at hK ⊢
                        go_simp
                        exact hK _ _ ⟨_, rfl, Below.refl _ _, fun d hd => by cases hd; exact rfl⟩
                      · intro x u hbu hd
                        obtain ⟨z0, z1, z2, z3, z4, z5, z6, z7, z8⟩ := (hBr.on hbu).cf
                        refine wpOp_step rfl fun K hK => ?_
                        go_simp
                        exact hK _ _ ⟨_, rfl, Below.refl _ _, fun d hd => by cases hd; exact rfl⟩
                      · intro x u hbu hd
                        have h186 : x 186 = .agg #[.int .i64 c.N, .slice c.pA c.pn c.pc, .slice c.sA c.sn c.sc, .int .i64 c.L, .slice c.bA c.bn c.bc, .slice c.tA c.tn c.tc, .int .i64 c.M, .int .i64 c.G, .int .i64 c.F] := hd 3 (by decide)
                        refine wpOp_step rfl fun K hK => ?_
                        simp only [h186] at hK ⊢
                        go_simp
                        with_reducible refine (wrong_is c e2 HE2.out u (hCr.on hbu) (hWr.on hbu)).mono ?_
                        rintro e u' ⟨rfl, hb'⟩
                        exact hK _ _ ⟨_, rfl, hb', fun d hd => by cases hd; exact rfl⟩
                      · intro x u hbu hd
                        have h187 : x 187 = .int .i64 e2 := hd 4 (by decide)
                        refine wpOp_step rfl fun K hK => ?_
                        simp only [h187] at hK ⊢
                        go_simp
                        exact hK _ _ ⟨_, rfl, Below.refl _ _, fun d hd => by cases hd; exact rfl⟩
                      · intro x u hbu hd
                        have h185 : x 185 = .bool false := hd 2 (by decide)
                        have h188 : x 188 = .bool false := hd 5 (by decide)
                        refine wpOp_step rfl fun K hK => ?_
                        simp only [h185, h188] at hK ⊢
                        go_simp
                        exact hK _ _ ⟨_, rfl, Below.refl _ _, fun d hd => by cases hd; exact rfl⟩
                      · intro x u hbu hd
                        have h189 : x 189 = .bool true := hd 6 (by decide)
                        refine wpOp_step rfl fun K hK => ?_
                        simp only [h189] at hK ⊢
                        go_simp
                        exact hK _ _ ⟨_, rfl, Below.refl _ _, fun d hd => by cases hd; exact rfl⟩
                      · intro x u hbu hd
                        have h190 : x 190 = .bool true := hd 7 (by decide)
                        refine wpOp_step rfl fun K hK => ?_
                        simp only [h190] at hK ⊢
                        go_simp
                        with_reducible refine (lives_any u (hWr.on hbu)).mono ?_
                        rintro e u' ⟨rfl, hb'⟩
                        exact hK _ _ ⟨_, rfl, hb', fun d hd => by cases hd; exact rfl⟩
                      · intro x u hbu hd
                        have h190 : x 190 = .bool true := hd 7 (by decide)
                        have h191 : x 191 = .bool true := hd 8 (by decide)
                        refine wpOp_step rfl fun K hK => ?_
                        simp only [h190, h191] at hK ⊢
                        go_simp
                        exact hK _ _ ⟨_, rfl, Below.refl _ _, fun d hd => by cases hd; exact rfl⟩
                      · intro x u hbu hd
                        have h192 : x 192 = .bool true := hd 9 (by decide)
                        refine wpOp_step rfl fun K hK => ?_
                        simp only [h192] at hK ⊢
                        go_simp
                        exact hK _ _ ⟨_, rfl, Below.refl _ _, fun d hd => by cases hd; exact rfl⟩
                    · intro x' U1 hU1 hd
                      have h4 : x' 4 = .bool true := hd 10 (by decide)
                      simp only [Reg.frame, Reg.over, Nat.reduceAdd, Nat.reduceBEq, Nat.reduceLeDiff, decide_true, decide_false, Bool.or_true, Bool.or_false, if_true, Bool.false_eq_true, if_false, h4]
                      go_wp2_with fail
                      go_ret
                      exact ⟨rfl, below_then hend hU1⟩
theorem configsTurned_walk (c : Cf) (y : Int) (w : World) (hw : Ways w) (hr : CfRaw w c) (hf : (Lit.int .u8 y).wf = true) :
    Calls Tryd.prog 7 #[.agg #[.int .i64 c.N, .slice c.pA c.pn c.pc, .slice c.sA c.sn c.sc, .int .i64 c.L, .slice c.bA c.bn c.bc, .slice c.tA c.tn c.tc, .int .i64 c.M, .int .i64 c.G, .int .i64 c.F], .int .u8 y] w fun e w' => e = .returned (.bool true) ∧ Below w.heap.size w w' := by
  by_cases hg : greatB c = true
  · exact turned_great c y w hw hg
  · have hg := bfalse hg
    obtain ⟨hc, _⟩ := hr.small hg
    by_cases ho : c.N < 4 ∨ 16 < c.N ∨ 8 < c.pn
    · exact turned_out c y w hw hg ho
    · exact turned_in c y w hw hc hg (by omega) (by omega) (by omega) (bounds_u8 hf)
end Go.Proofs.YtibniadebbgjcaaDoor
