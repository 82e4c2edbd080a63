/-
  The law LinesTime, walked: what was sent in a tick is here just as many ticks later as the hop is, once, and nothing else is ever; two neighbour lines, one behind the other, carry as a skip does: true; nothing that was there has turned. Conditions: the lists' readings.
-/
import Derived.Test.YtlbpplibngdncaaLn3
import Derived.Test.YtlbpplibngdncaaLnI
import Derived.Deep.CutRange
namespace Go.Proofs.Ytlbpplibngdncaa
open Go.RowKit
set_option linter.unusedVariables false

/-- What is sent in a tick. -/
def sntT (n m : Nat) (xs : List Int) (bs : Nat → Bool) (j : Int) : Option Int := if 0 ≤ j ∧ j < n ∧ ¬ (j < m ∧ bs j.toNat = true) then some (xs.getD j.toNat 0) else none
section
variable {n m : Nat} {xs : List Int} {bs : Nat → Bool} {j : Int}
theorem sntT_neg (h : j < 0) : sntT n m xs bs j = none := by simp only [sntT]; rw [if_neg (by omega)]
theorem sntT_ge (h : n ≤ j) : sntT n m xs bs j = none := by simp only [sntT]; rw [if_neg (by omega)]
theorem sntT_free (h0 : 0 ≤ j) (h : j < n) (hm : m ≤ j) : sntT n m xs bs j = some (xs.getD j.toNat 0) := by simp only [sntT]; rw [if_pos ⟨h0, h, by omega⟩]
theorem sntT_at {k : Nat} (h : k < n) (hm : k < m) : (sntT n m xs bs k).isSome = !bs k := by
  simp only [sntT]
  cases hb : bs k
  · rw [if_pos ⟨by omega, by omega, by simp [hb]⟩]; rfl
  · rw [if_neg (by simp [hb]; omega)]; rfl
theorem sntT_hole {k : Nat} (hm : k < m) (hb : bs k = true) : sntT n m xs bs k = none := by
  simp only [sntT]
  rw [if_neg (by simp [hb]; omega)]
theorem sntT_whole {k : Nat} (h : k < n) (hb : bs k = false) : sntT n m xs bs k = some (xs.getD k 0) := by
  simp only [sntT]
  rw [if_pos ⟨by omega, by omega, by simp [hb]⟩]; simp
theorem sntT_some {x : Int} (h : sntT n m xs bs j = some x) : ∃ k : Nat, j = k ∧ k < n ∧ xs.getD k 0 = x := by
  simp only [sntT] at h
  split at h
  · rename_i hc
    exact ⟨j.toNat, by omega, by omega, by simpa using h⟩
  · cases h
end
set_option maxRecDepth 100000 in
set_option maxHeartbeats 4000000 in
theorem linesTime_yes (A1 : Option Addr) (n c1 : Nat) (xs : List Int) (A2 : Option Addr) (m c2 : Nat) (bs : Nat → Bool) (w : World) (hl : Lies .u8 w w.heap.size A1 n xs) (hg : Row w w.heap.size A2 m (fun j => .bool (bs j))) (hn : n ≤ 300) (hm : m ≤ maxLen) :
    Calls Try.prog 5 #[.slice A1 n c1, .slice A2 m c2] w fun e w' => e = .returned (.bool true) ∧ Below w.heap.size w w' := by
  have HLL := Lib.hid hl
  have HG := Lib.hid hg
  have HN := Lib.hid hn
  have HM0 := Lib.hid hm
  have hd : decide ((300 : Int) < (n : Int)) = false := decide_eq_false (by omega)
  have hw3 : IntKind.i64.wrap ((n : Int) + 3) = ((n + 3 : Nat) : Int) := by rw [IntWalk.i64_in _ (by omega)]; omega
  have HE := Lib.hid (show ∀ u : World, OneU u none 0 none from fun _ => rfl)
  clear hl hg hn hm
  go_enter Try.func5, Try.ntmps5
  go_wp2_with (first
    | (go_at_call 22; (with_reducible refine (newU_is 1 w hop1).mono ?_); rintro e u1 ⟨rfl, hL1, b1⟩)
    | (go_at_call 22; (with_reducible refine (newU_is 1 u1 hop1).mono ?_); rintro e u2 ⟨rfl, hL2, b2⟩)
    | (go_at_call 22; (with_reducible refine (newU_is 2 u2 hop2).mono ?_); rintro e u3 ⟨rfl, hL3, b3⟩))
  have hl12 := hL1.lt
  have hl23 := hL2.lt
  have LA := Lib.hid (show w.heap.size ≤ w.heap.size by omega)
  have LB := Lib.hid (show w.heap.size ≤ u1.heap.size by omega)
  have LC := Lib.hid (show w.heap.size ≤ u2.heap.size by omega)
  have hAB : w.heap.size ≠ u1.heap.size := by omega
  have hBC : u1.heap.size ≠ u2.heap.size := by omega
  have hAC : w.heap.size ≠ u2.heap.size := by omega
  have NAB := Lib.hid hAB
  have NBA := Lib.hid hAB.symm
  have NBC := Lib.hid hBC
  have NCB := Lib.hid hBC.symm
  have NAC := Lib.hid hAC
  have NCA := Lib.hid hAC.symm
  have H0 := Lib.hid (show OnU u3 w.heap.size 1 0 none none ∧ OnU u3 u1.heap.size 1 0 none none ∧ OnU u3 u2.heap.size 2 0 none none ∧ Below w.heap.size w u3 from ⟨(hL1.on b2).on b3, hL2.on b3, hL3, below_then (below_then b1 b2) b3⟩)
  clear hL1 hL2 hL3 b1 b2 b3 hl12 hl23 hAB hBC hAC hd
  go_loopw [11] (fun s11 wr => ∃ i : Nat, i ≤ n + 3 ∧ s11 = .int .i64 i ∧ (OnU wr w.heap.size 1 i (sntT n m xs bs ((i : Int) - 1)) none ∧ OnU wr u1.heap.size 1 i (sntT n m xs bs ((i : Int) - 2)) none ∧ OnU wr u2.heap.size 2 i (sntT n m xs bs ((i : Int) - 2)) (sntT n m xs bs ((i : Int) - 1))) ∧ Below w.heap.size w wr) (fun s11 _ => n + 3 - (intOf s11).toNat)
  case atStart => exact ⟨0, by omega, rfl, ⟨by rw [sntT_neg (by omega)]; exact H0.out.1, by rw [sntT_neg (by omega)]; exact H0.out.2.1, by rw [sntT_neg (by omega), sntT_neg (by omega)]; exact H0.out.2.2.1⟩, H0.out.2.2.2⟩
  case round =>
    obtain ⟨i, hi, rfl, ⟨hA, hB, hC⟩, hb⟩ := hrel
    clear H0
    by_cases hlt : i < n + 3
    · have hdl : decide ((i : Int) < ((n + 3 : Nat) : Int)) = true := decide_eq_true (by omega)
      have hdn : decide (i < n + 3) = true := decide_eq_true hlt
      have hn3 := HN.out
      have HI := Lib.hid (show 0 ≤ (i : Int) ∧ (i : Int) < 4611686018427387904 from ⟨by omega, by omega⟩)
      go_upto_region 11 with fail
      go_cut [12] from 47 to 213 (fun s12 wx => s12 = .bool (sntT n m xs bs (i : Int)).isNone ∧ wx = wr)
      case first =>
        clear hA hB hC
        as_aux_lemma =>
          by_cases q1 : i < m
          · have q1' : decide ((i : Int) < (m : Int)) = true := decide_eq_true (by omega); have q1n : decide (i < m) = true := decide_eq_true (by omega)
            obtain ⟨bg, og, hG, hgl, hgc⟩ := HG.out (by omega)
            have hix := fun W => idx1Truths (n := m) c2 hG q1 W
            have hcl : wr.cell? ⟨bg, og + i, none⟩ = some (.bool (bs i)) := (hb.cell hgl).trans (hgc i q1)
            have hll : bg < wr.heap.size := Nat.lt_of_lt_of_le hgl hb.size
            cases hbi : bs i
            · rw [hbi] at hcl
              by_cases q2 : i < n
              · have q2' : decide ((n : Int) ≤ (i : Int)) = false := decide_eq_false (by omega); have q2n : decide (n ≤ i) = false := decide_eq_false (by omega)
                have HM := Lib.hid (show false = (sntT n m xs bs (i : Int)).isNone by rw [sntT_whole q2 hbi]; rfl)
                clear q1 q2 hgc hgl hG hbi
                go_wp2_with fail
                go_meet
                exact ⟨congrArg Value.bool HM.out, rfl⟩
              · have q2' : decide ((n : Int) ≤ (i : Int)) = true := decide_eq_true (by omega); have q2n : decide (n ≤ i) = true := decide_eq_true (by omega)
                have HM := Lib.hid (show true = (sntT n m xs bs (i : Int)).isNone by rw [sntT_ge (by omega)]; rfl)
                clear q1 q2 hgc hgl hG hbi
                go_wp2_with fail
                go_meet
                exact ⟨congrArg Value.bool HM.out, rfl⟩
            · rw [hbi] at hcl
              have HM := Lib.hid (show true = (sntT n m xs bs (i : Int)).isNone by rw [sntT_hole q1 hbi]; rfl)
              clear q1 hgc hgl hG hbi
              go_wp2_with fail
              go_meet
              exact ⟨congrArg Value.bool HM.out, rfl⟩
          · have q1' : decide ((i : Int) < (m : Int)) = false := decide_eq_false (by omega); have q1n : decide (i < m) = false := decide_eq_false (by omega)
            by_cases q2 : i < n
            · have q2' : decide ((n : Int) ≤ (i : Int)) = false := decide_eq_false (by omega); have q2n : decide (n ≤ i) = false := decide_eq_false (by omega)
              have HM := Lib.hid (show false = (sntT n m xs bs (i : Int)).isNone by rw [sntT_free (by omega) (by omega) (by omega)]; rfl)
              clear q1 q2
              go_wp2_with fail
              go_meet
              exact ⟨congrArg Value.bool HM.out, rfl⟩
            · have q2' : decide ((n : Int) ≤ (i : Int)) = true := decide_eq_true (by omega); have q2n : decide (n ≤ i) = true := decide_eq_true (by omega)
              have HM := Lib.hid (show true = (sntT n m xs bs (i : Int)).isNone by rw [sntT_ge (by omega)]; rfl)
              clear q1 q2
              go_wp2_with fail
              go_meet
              exact ⟨congrArg Value.bool HM.out, rfl⟩
      case rest =>
      obtain ⟨rfl, rfl⟩ := hcut
      obtain ⟨o0, ho0⟩ : ∃ o0, o0 = sntT n m xs bs (i : Int) := ⟨_, rfl⟩
      obtain ⟨o1, ho1⟩ : ∃ o1, o1 = sntT n m xs bs ((i : Int) - 1) := ⟨_, rfl⟩
      obtain ⟨o2, ho2⟩ : ∃ o2, o2 = sntT n m xs bs ((i : Int) - 2) := ⟨_, rfl⟩
      have HEND := Lib.hid (show ∀ v : World, OnU v w.heap.size 1 (i + 1 : Int) o0 none → OnU v u1.heap.size 1 (i + 1 : Int) o1 none → OnU v u2.heap.size 2 (i + 1 : Int) o1 o0 →
        OnU v w.heap.size 1 ((i + 1 : Nat) : Int) (sntT n m xs bs (((i + 1 : Nat) : Int) - 1)) none ∧ OnU v u1.heap.size 1 ((i + 1 : Nat) : Int) (sntT n m xs bs (((i + 1 : Nat) : Int) - 2)) none ∧ OnU v u2.heap.size 2 ((i + 1 : Nat) : Int) (sntT n m xs bs (((i + 1 : Nat) : Int) - 2)) (sntT n m xs bs (((i + 1 : Nat) : Int) - 1)) from fun v p q r => by
        have e1 : (((i + 1 : Nat) : Int) - 1) = (i : Int) := by omega
        have e2 : (((i + 1 : Nat) : Int) - 2) = (i : Int) - 1 := by omega
        have e3 : ((i + 1 : Nat) : Int) = (i : Int) + 1 := by omega
        rw [e1, e2, e3, ← ho0, ← ho1]
        exact ⟨p, q, r⟩)
      have HQ1 := Lib.hid (show ∀ x, o1 = some x → ∃ k : Nat, (i : Int) - 1 = k ∧ k < n ∧ xs.getD k 0 = x from fun x h => sntT_some (ho1.symm.trans h))
      have HQ2 := Lib.hid (show ∀ x, o2 = some x → ∃ k : Nat, (i : Int) - 2 = k ∧ k < n ∧ xs.getD k 0 = x from fun x h => sntT_some (ho2.symm.trans h))
      have HQ0 := Lib.hid (show ∀ x, o0 = some x → ∃ k : Nat, (i : Int) = k ∧ k < n ∧ xs.getD k 0 = x from fun x h => sntT_some (ho0.symm.trans h))
      have HO1 := Lib.hid ho1
      have HO2 := Lib.hid ho2
      rw [← ho1, ← ho2] at hC
      rw [← ho1] at hA
      rw [← ho2] at hB
      rw [← ho0]
      obtain ⟨p1, hp1⟩ : ∃ p1, p1 = o1.isSome := ⟨_, rfl⟩
      obtain ⟨p2, hp2⟩ : ∃ p2, p2 = o2.isSome := ⟨_, rfl⟩
      obtain ⟨y1, hy1⟩ : ∃ y1, y1 = o1.getD 0 := ⟨_, rfl⟩
      obtain ⟨y2, hy2⟩ : ∃ y2, y2 = o2.getD 0 := ⟨_, rfl⟩
      have P1 := Lib.hid hp1.symm
      have P2 := Lib.hid hp2.symm
      have Y1 := Lib.hid hy1.symm
      have Y2 := Lib.hid hy2.symm
      have HA1 := Lib.hid hA
      have HB1 := Lib.hid hB
      have HC1 := Lib.hid hC
      have HBR := Lib.hid hb
      clear hp1 hp2 hy1 hy2 ho0 ho1 ho2 hA hB hC hb hdl
      go_upto_region 15 with (first
        | (go_at_call 23; (with_reducible refine (hereU_is w.heap.size 1 (i : Int) o1 none y1 Y1.out p1 P1.out _ HA1.out).mono ?_); rintro e v1 ⟨rfl, d1⟩)
        | (go_at_call 23; (with_reducible refine (hereU_is u1.heap.size 1 (i : Int) o2 none y2 Y2.out p2 P2.out v1 (HB1.out.on d1)).mono ?_); rintro e v2 ⟨rfl, d2⟩)
        | (go_at_call 23; (with_reducible refine (hereU_is u2.heap.size 2 (i : Int) o2 o1 y2 Y2.out p2 P2.out v2 ((HC1.out.on d1).on d2)).mono ?_); rintro e v3 ⟨rfl, d3⟩))
      have HD3 := Lib.hid (below_then (below_then d1 d2) d3)
      have HA0 := Lib.hid (HA1.out.on HD3.out)
      have HB0 := Lib.hid (HB1.out.on HD3.out)
      have HC := Lib.hid (HC1.out.on HD3.out)
      have HBC := Lib.hid (HBR.out.trans (HD3.out.mono HBR.out.size))
      clear d1 d2 d3 HA1 HB1 HC1 HBR HD3
      obtain ⟨wc, hwc⟩ : ∃ wc, wc = v3 := ⟨_, rfl⟩
      subst hwc
      go_cut [19] from 47 to 213 (fun s19 wx => s19 = .bool p1 ∧ wx = wc)
      case first =>
        have hO : (sntT n m xs bs ((i : Int) - 1)).isSome = p1 := by rw [← HO1.out]; exact P1.out
        as_aux_lemma =>
          by_cases q0 : (i : Int) < 1
          · have q0' : decide ((1 : Int) ≤ (i : Int)) = false := decide_eq_false (by omega)
            have HM := Lib.hid (show false = p1 by rw [← hO, sntT_neg (by omega)]; rfl)
            clear q0
            clear hO; go_wp2_with fail
            go_meet
            exact ⟨congrArg Value.bool HM.out, rfl⟩
          · obtain ⟨jd, hjd⟩ : ∃ jd : Nat, (i : Int) - 1 = jd := ⟨i - 1, by omega⟩
            have q0' : decide ((1 : Int) ≤ (i : Int)) = true := decide_eq_true (by omega)
            have hwd : IntKind.i64.wrap ((i : Int) - 1) = (jd : Int) := by rw [hjd]; exact IntWalk.i64_in _ (by omega)
            by_cases q1 : jd < n
            · have q1' : decide ((jd : Int) < (n : Int)) = true := decide_eq_true (by omega); have q1n : decide (jd < n) = true := decide_eq_true (by omega)
              by_cases q2 : jd < m
              · have q2' : decide ((jd : Int) < (m : Int)) = true := decide_eq_true (by omega); have q2n : decide (jd < m) = true := decide_eq_true (by omega)
                obtain ⟨bg, og, hG, hgl, hgc⟩ := HG.out (by omega)
                have hix := fun W => idx1Truths (n := m) c2 hG q2 W
                have hcl : wc.cell? ⟨bg, og + jd, none⟩ = some (.bool (bs jd)) := (HBC.out.cell hgl).trans (hgc jd q2)
                have hll : bg < wc.heap.size := Nat.lt_of_lt_of_le hgl HBC.out.size
                have HM := Lib.hid (show (!bs jd) = p1 by rw [← hO]; rw [hjd]; exact (sntT_at q1 q2).symm)
                clear q0 q1 q2 hjd hgc hgl hG
                clear hO; go_wp2_with fail
                go_meet
                exact ⟨congrArg Value.bool HM.out, rfl⟩
              · have q2' : decide ((jd : Int) < (m : Int)) = false := decide_eq_false (by omega); have q2n : decide (jd < m) = false := decide_eq_false (by omega)
                have HM := Lib.hid (show true = p1 by rw [← hO]; rw [hjd, sntT_free (by omega) (by omega) (by omega)]; rfl)
                clear q0 q1 q2 hjd
                clear hO; go_wp2_with fail
                go_meet
                exact ⟨congrArg Value.bool HM.out, rfl⟩
            · have q1' : decide ((jd : Int) < (n : Int)) = false := decide_eq_false (by omega); have q1n : decide (jd < n) = false := decide_eq_false (by omega)
              have HM := Lib.hid (show false = p1 by rw [← hO]; rw [hjd, sntT_ge (by omega)]; rfl)
              clear q0 q1 hjd
              clear hO; go_wp2_with fail
              go_meet
              exact ⟨congrArg Value.bool HM.out, rfl⟩
      case rest =>
      obtain ⟨rfl, hwx⟩ := hcut
      subst hwx
      go_upto_region 16 with fail
      go_cut [20] from 47 to 213 (fun s20 wx => s20 = .bool p2 ∧ wx = wc)
      case first =>
        have hO : (sntT n m xs bs ((i : Int) - 2)).isSome = p2 := by rw [← HO2.out]; exact P2.out
        as_aux_lemma =>
          by_cases q0 : (i : Int) < 2
          · have q0' : decide ((2 : Int) ≤ (i : Int)) = false := decide_eq_false (by omega)
            have HM := Lib.hid (show false = p2 by rw [← hO, sntT_neg (by omega)]; rfl)
            clear q0
            clear hO; go_wp2_with fail
            go_meet
            exact ⟨congrArg Value.bool HM.out, rfl⟩
          · obtain ⟨jd, hjd⟩ : ∃ jd : Nat, (i : Int) - 2 = jd := ⟨i - 2, by omega⟩
            have q0' : decide ((2 : Int) ≤ (i : Int)) = true := decide_eq_true (by omega)
            have hwd : IntKind.i64.wrap ((i : Int) - 2) = (jd : Int) := by rw [hjd]; exact IntWalk.i64_in _ (by omega)
            by_cases q1 : jd < n
            · have q1' : decide ((jd : Int) < (n : Int)) = true := decide_eq_true (by omega); have q1n : decide (jd < n) = true := decide_eq_true (by omega)
              by_cases q2 : jd < m
              · have q2' : decide ((jd : Int) < (m : Int)) = true := decide_eq_true (by omega); have q2n : decide (jd < m) = true := decide_eq_true (by omega)
                obtain ⟨bg, og, hG, hgl, hgc⟩ := HG.out (by omega)
                have hix := fun W => idx1Truths (n := m) c2 hG q2 W
                have hcl : wc.cell? ⟨bg, og + jd, none⟩ = some (.bool (bs jd)) := (HBC.out.cell hgl).trans (hgc jd q2)
                have hll : bg < wc.heap.size := Nat.lt_of_lt_of_le hgl HBC.out.size
                have HM := Lib.hid (show (!bs jd) = p2 by rw [← hO]; rw [hjd]; exact (sntT_at q1 q2).symm)
                clear q0 q1 q2 hjd hgc hgl hG
                clear hO; go_wp2_with fail
                go_meet
                exact ⟨congrArg Value.bool HM.out, rfl⟩
              · have q2' : decide ((jd : Int) < (m : Int)) = false := decide_eq_false (by omega); have q2n : decide (jd < m) = false := decide_eq_false (by omega)
                have HM := Lib.hid (show true = p2 by rw [← hO]; rw [hjd, sntT_free (by omega) (by omega) (by omega)]; rfl)
                clear q0 q1 q2 hjd
                clear hO; go_wp2_with fail
                go_meet
                exact ⟨congrArg Value.bool HM.out, rfl⟩
            · have q1' : decide ((jd : Int) < (n : Int)) = false := decide_eq_false (by omega); have q1n : decide (jd < n) = false := decide_eq_false (by omega)
              have HM := Lib.hid (show false = p2 by rw [← hO]; rw [hjd, sntT_ge (by omega)]; rfl)
              clear q0 q1 hjd
              clear hO; go_wp2_with fail
              go_meet
              exact ⟨congrArg Value.bool HM.out, rfl⟩
      case rest =>
      obtain ⟨rfl, hwx⟩ := hcut
      subst hwx
      clear HG HO1 HO2
      go_upto_region 17 with fail
      go_cut [187] from 47 to 213 (fun s187 wx => s187 = .bool false ∧ Below wc.heap.size wc wx)
      case first =>
        have e1 := P1.out
        have e2 := P2.out
        have e3 := Y1.out
        have e4 := Y2.out
        clear HEND HQ0 HA0 HB0
        cases o1 with
        | none =>
          simp only [Option.isSome_none, Option.getD_none] at e1 e3
          subst e1 e3
          cases o2 with
          | none =>
            simp only [Option.isSome_none, Option.getD_none] at e2 e4
            subst e2 e4
            as_aux_lemma =>
              go_wp2_with (go_at_call 24; (with_reducible refine (ticksU_is _ 2 (i : Int) _ _ wc HC.out).mono ?_); rintro e v4 ⟨rfl, d4⟩)
              go_meet
              exact ⟨rfl, d4⟩
          | some x2 =>
            simp only [Option.isSome_some, Option.getD_some] at e2 e4
            subst e2 e4
            obtain ⟨k2, hi2, hk2, hx2⟩ := HQ2.out _ rfl
            have HX2 := Lib.hid hx2
            clear hx2
            as_aux_lemma =>
              obtain ⟨bl, ol, hA, hll0, hlc0⟩ := HLL.out.at_ (show 0 < n by omega)
              have vl : bl < wc.heap.size := Nat.lt_of_lt_of_le hll0 HBC.out.size
              have hwr2 : IntKind.i64.wrap ((i : Int) - 2) = (k2 : Int) := by rw [hi2]; exact IntWalk.i64_in _ (by omega)
              have hix2 := fun W => idx1Oct (n := n) c1 hA hk2 W
              have cl2 : wc.cell? ⟨bl, ol + k2, none⟩ = some (.int .u8 x2) := (HBC.out.cell hll0).trans ((hlc0 k2 hk2).trans (by rw [HX2.out]))
              clear hA hlc0
              go_wp2_with (go_at_call 24; (with_reducible refine (ticksU_is _ 2 (i : Int) _ _ wc HC.out).mono ?_); rintro e v4 ⟨rfl, d4⟩)
              go_meet
              exact ⟨rfl, d4⟩
        | some x1 =>
          simp only [Option.isSome_some, Option.getD_some] at e1 e3
          subst e1 e3
          obtain ⟨k1, hi1, hk1, hx1⟩ := HQ1.out _ rfl
          have HX1 := Lib.hid hx1
          clear hx1
          cases o2 with
          | none =>
            simp only [Option.isSome_none, Option.getD_none] at e2 e4
            subst e2 e4
            as_aux_lemma =>
              obtain ⟨bl, ol, hA, hll0, hlc0⟩ := HLL.out.at_ (show 0 < n by omega)
              have vl : bl < wc.heap.size := Nat.lt_of_lt_of_le hll0 HBC.out.size
              have hwr1 : IntKind.i64.wrap ((i : Int) - 1) = (k1 : Int) := by rw [hi1]; exact IntWalk.i64_in _ (by omega)
              have hix1 := fun W => idx1Oct (n := n) c1 hA hk1 W
              have cl1 : wc.cell? ⟨bl, ol + k1, none⟩ = some (.int .u8 x1) := (HBC.out.cell hll0).trans ((hlc0 k1 hk1).trans (by rw [HX1.out]))
              clear hA hlc0
              go_wp2_with (go_at_call 24; (with_reducible refine (ticksU_is _ 2 (i : Int) _ _ wc HC.out).mono ?_); rintro e v4 ⟨rfl, d4⟩)
              go_meet
              exact ⟨rfl, d4⟩
          | some x2 =>
            simp only [Option.isSome_some, Option.getD_some] at e2 e4
            subst e2 e4
            obtain ⟨k2, hi2, hk2, hx2⟩ := HQ2.out _ rfl
            have HX2 := Lib.hid hx2
            clear hx2
            as_aux_lemma =>
              obtain ⟨bl, ol, hA, hll0, hlc0⟩ := HLL.out.at_ (show 0 < n by omega)
              have vl : bl < wc.heap.size := Nat.lt_of_lt_of_le hll0 HBC.out.size
              have hwr1 : IntKind.i64.wrap ((i : Int) - 1) = (k1 : Int) := by rw [hi1]; exact IntWalk.i64_in _ (by omega)
              have hix1 := fun W => idx1Oct (n := n) c1 hA hk1 W
              have cl1 : wc.cell? ⟨bl, ol + k1, none⟩ = some (.int .u8 x1) := (HBC.out.cell hll0).trans ((hlc0 k1 hk1).trans (by rw [HX1.out]))
              have hwr2 : IntKind.i64.wrap ((i : Int) - 2) = (k2 : Int) := by rw [hi2]; exact IntWalk.i64_in _ (by omega)
              have hix2 := fun W => idx1Oct (n := n) c1 hA hk2 W
              have cl2 : wc.cell? ⟨bl, ol + k2, none⟩ = some (.int .u8 x2) := (HBC.out.cell hll0).trans ((hlc0 k2 hk2).trans (by rw [HX2.out]))
              clear hA hlc0
              go_wp2_with (go_at_call 24; (with_reducible refine (ticksU_is _ 2 (i : Int) _ _ wc HC.out).mono ?_); rintro e v4 ⟨rfl, d4⟩)
              go_meet
              exact ⟨rfl, d4⟩
      case rest =>
      obtain ⟨rfl, d4⟩ := hcut
      rename World => v4
      have HA4 := Lib.hid (HA0.out.on d4)
      have HB4 := Lib.hid (HB0.out.on d4)
      have HC4 := Lib.hid (HC.out.on d4)
      have HW4 := Lib.hid (HBC.out.trans (d4.mono HBC.out.size))
      clear d4 HA0 HB0 HC HBC HQ1 HQ2
      go_upto_if 188 with fail
      go_cut [11] from 47 to 213 (fun s11 wx => s11 = .int .i64 (i : Int) ∧ OnU wx w.heap.size 1 (i : Int) o1 none ∧ OnU wx u1.heap.size 1 ((i : Int) + 1) o1 none ∧ OnU wx u2.heap.size 2 (i : Int) o2 o1 ∧ Below w.heap.size w wx)
      case first =>
        have e1 := P1.out
        have e3 := Y1.out
        clear HEND HQ0
        cases o1 with
        | none =>
          simp only [Option.isSome_none, Option.getD_none] at e1 e3
          subst e1 e3
          as_aux_lemma =>
            have NB := Lib.hid (show nowL 1 (none : Option Int) none = none from rfl)
            have XB := Lib.hid (show nextL 1 (none : Option Int) none = none from rfl)
            go_wp2_with (go_at_call 25; (with_reducible refine (sendU_is u1.heap.size 1 (i : Int) o2 none none none none none 0 0 NB.out XB.out (i + 1 : Int) rfl _ HB4.out hop1 HI.out.1 HI.out.2 (HE.out v4)).mono ?_); rintro e v5 ⟨rfl, hB5, t5⟩)
            go_meet
            exact ⟨rfl, HA4.out.but t5 NAB.out, hB5, HC4.out.but t5 NCB.out, HW4.out.trans (t5.low LB.out)⟩
        | some x1 =>
          simp only [Option.isSome_some, Option.getD_some] at e1 e3
          subst e1 e3
          as_aux_lemma =>
            have NB := Lib.hid (show nowL 1 (none : Option Int) (some x1) = (some x1) from rfl)
            have XB := Lib.hid (show nextL 1 (none : Option Int) (some x1) = none from rfl)
            go_wp2_with (go_at_call 25; (with_reducible refine (sendU_is u1.heap.size 1 (i : Int) o2 none (some x1) (some x1) none (some ⟨v4.heap.size, 0, none⟩) 1 1 NB.out XB.out (i + 1 : Int) rfl _ (HB4.out.al (.cells #[.int .u8 x1] 5)) hop1 HI.out.1 HI.out.2 (oneU_new v4 x1)).mono ?_); rintro e v5 ⟨rfl, hB5, t5⟩)
            go_meet
            exact ⟨rfl, (HA4.out.al (.cells #[.int .u8 x1] 5)).but t5 NAB.out, hB5, (HC4.out.al (.cells #[.int .u8 x1] 5)).but t5 NCB.out, (HW4.out.alloc HW4.out.size (.cells #[.int .u8 x1] 5)).trans (t5.low LB.out)⟩
      case rest =>
      obtain ⟨rfl, hA5, hB5, hC5, hW5⟩ := hcut
      rename World => v5
      have HA5 := Lib.hid hA5
      have HB5 := Lib.hid hB5
      have HC5 := Lib.hid hC5
      have HW5 := Lib.hid hW5
      clear hA5 hB5 hC5 hW5 HA4 HB4 HC4 HW4
      cases o0 with
      | none =>
        as_aux_lemma =>
          have NA := Lib.hid (show nowL 1 (none : Option Int) none = none from rfl)
          have XA := Lib.hid (show nextL 1 (none : Option Int) none = none from rfl)
          have NC := Lib.hid (show nowL 2 o1 none = o1 from rfl)
          have XC := Lib.hid (show nextL 2 o1 none = none from rfl)
          go_wp2_with (first
            | (go_at_call 25; (with_reducible refine (sendU_is w.heap.size 1 (i : Int) o1 none none none none none 0 0 NA.out XA.out (i + 1 : Int) rfl _ HA5.out hop1 HI.out.1 HI.out.2 (HE.out v5)).mono ?_); rintro e v6 ⟨rfl, hA6, t6⟩; have HA6 := Lib.hid hA6; have HB6 := Lib.hid (HB5.out.but t6 NBA.out); have HC6 := Lib.hid (HC5.out.but t6 NCA.out); have HW6 := Lib.hid (HW5.out.trans (t6.low LA.out)); clear hA6)
            | (go_at_call 25; (with_reducible refine (sendU_is u2.heap.size 2 (i : Int) o2 o1 none o1 none none 0 0 NC.out XC.out (i + 1 : Int) rfl _ HC6.out hop2 HI.out.1 HI.out.2 (HE.out v6)).mono ?_); rintro e v7 ⟨rfl, hC7, t7⟩; have HC7 := Lib.hid hC7; have HA7 := Lib.hid (HA6.out.but t7 NAC.out); have HB7 := Lib.hid (HB6.out.but t7 NBC.out); have HW7 := Lib.hid (HW6.out.trans (t7.low LC.out)); clear hC7))
          go_roundw
          case rel => exact ⟨i + 1, by omega, by go_num, HEND.out _ HA7.out HB7.out HC7.out, HW7.out⟩
          case measure => simp [intOf]; omega
      | some x0 =>
        obtain ⟨k0, hi0, hk0, hx0⟩ := HQ0.out _ rfl
        obtain rfl : i = k0 := by omega
        have HX0 := Lib.hid hx0
        clear hx0
        as_aux_lemma =>
          have NA := Lib.hid (show nowL 1 (none : Option Int) (some x0) = (some x0) from rfl)
          have XA := Lib.hid (show nextL 1 (none : Option Int) (some x0) = none from rfl)
          have NC := Lib.hid (show nowL 2 o1 (some x0) = o1 from rfl)
          have XC := Lib.hid (show nextL 2 o1 (some x0) = (some x0) from rfl)
          obtain ⟨bl, ol, hA, hll0, hlc0⟩ := HLL.out.at_ (show 0 < n by omega)
          have hix0 := fun W => idx1Oct (n := n) c1 hA hk0 W
          have cl0 : v5.cell? ⟨bl, ol + i, none⟩ = some (.int .u8 x0) := (HW5.out.cell hll0).trans ((hlc0 i hk0).trans (by rw [HX0.out]))
          have vl5 : bl < v5.heap.size := Nat.lt_of_lt_of_le hll0 HW5.out.size
          have HLC := Lib.hid hlc0
          clear hA hlc0
          go_wp2_with (first
            | (go_at_call 25; (with_reducible refine (sendU_is w.heap.size 1 (i : Int) o1 none (some x0) (some x0) none (some ⟨v5.heap.size, 0, none⟩) 1 1 NA.out XA.out (i + 1 : Int) rfl _ (HA5.out.al (.cells #[.int .u8 x0] 5)) hop1 HI.out.1 HI.out.2 (oneU_new v5 x0)).mono ?_); rintro e v6 ⟨rfl, hA6, t6⟩; have HA6 := Lib.hid hA6; have HB6 := Lib.hid ((HB5.out.al (.cells #[.int .u8 x0] 5)).but t6 NBA.out); have HC6 := Lib.hid ((HC5.out.al (.cells #[.int .u8 x0] 5)).but t6 NCA.out); have HW6 := Lib.hid ((HW5.out.alloc HW5.out.size (.cells #[.int .u8 x0] 5)).trans (t6.low LA.out)); clear hA6; clear cl0 vl5; have cl0 : v6.cell? ⟨bl, ol + i, none⟩ = some (.int .u8 x0) := (HW6.out.cell hll0).trans ((HLC.out i hk0).trans (by rw [HX0.out])); have vl6 : bl < v6.heap.size := Nat.lt_of_lt_of_le hll0 HW6.out.size)
            | (go_at_call 25; (with_reducible refine (sendU_is u2.heap.size 2 (i : Int) o2 o1 (some x0) o1 (some x0) (some ⟨v6.heap.size, 0, none⟩) 1 1 NC.out XC.out (i + 1 : Int) rfl _ (HC6.out.al (.cells #[.int .u8 x0] 5)) hop2 HI.out.1 HI.out.2 (oneU_new v6 x0)).mono ?_); rintro e v7 ⟨rfl, hC7, t7⟩; have HC7 := Lib.hid hC7; have HA7 := Lib.hid ((HA6.out.al (.cells #[.int .u8 x0] 5)).but t7 NAC.out); have HB7 := Lib.hid ((HB6.out.al (.cells #[.int .u8 x0] 5)).but t7 NBC.out); have HW7 := Lib.hid ((HW6.out.alloc HW6.out.size (.cells #[.int .u8 x0] 5)).trans (t7.low LC.out)); clear hC7))
          go_roundw
          case rel => exact ⟨i + 1, by omega, by go_num, HEND.out _ HA7.out HB7.out HC7.out, HW7.out⟩
          case measure => simp [intOf]; omega
    · have h3 : i = n + 3 := by omega
      subst h3
      have hdl : decide (((n + 3 : Nat) : Int) < ((n + 3 : Nat) : Int)) = false := decide_eq_false (by omega)
      clear hA hB hC hlt
      go_wp2_with (go_at_call 7; (with_reducible refine (lives_ln _).mono ?_); rintro e u2 ⟨rfl, c2⟩)
      go_ret
      exact ⟨rfl, below_then hb c2⟩
set_option maxRecDepth 100000 in
theorem linesTime_walk (A1 : Option Addr) (n c1 : Nat) (xs : List Int) (A2 : Option Addr) (m c2 : Nat) (bs : Nat → Bool) (w : World) (hl : Lies .u8 w w.heap.size A1 n xs) (hm1 : n ≤ maxLen) (hf : ∀ x ∈ xs, (Lit.int .u8 x).wf = true) (hm : m ≤ maxLen) (hg : Row w w.heap.size A2 m (fun j => .bool (bs j))) :
    Calls Try.prog 5 #[.slice A1 n c1, .slice A2 m c2] w fun e w' => e = .returned (.bool true) ∧ Below w.heap.size w w' := by
  by_cases hn : n ≤ 300
  · exact linesTime_yes A1 n c1 xs A2 m c2 bs w hl hg hn hm
  · have hd : decide ((300 : Int) < (n : Int)) = true := decide_eq_true (by omega)
    clear hl hg hm hf hm1 hn
    go_enter Try.func5, Try.ntmps5
    go_wp2_with (go_at_call 7; (with_reducible refine (lives_ln _).mono ?_); rintro e u1 ⟨rfl, b1⟩)
    go_ret
    exact ⟨rfl, b1⟩
end Go.Proofs.Ytlbpplibngdncaa
