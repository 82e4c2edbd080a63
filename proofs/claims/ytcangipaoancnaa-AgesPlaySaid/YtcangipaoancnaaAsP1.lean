/-
  The document's clock (sennitref16): New, Step. Conditions: its list's reading; its ages are within their bounds.
-/
import Derived.Test.YtcangipaoancnaaAs8
import Derived.Test.YtcangipaoancnaaAsRun
import Derived.Deep.CutRange
import Derived.Deep.CutBlock
import Derived.BigQuiet
namespace Go.Proofs.Ytcangipaoancnaa
open Go.RowKit
set_option linter.unusedVariables false
set_option linter.unusedSimpArgs false

/-- The document's word of what is shown: of the n ages that there are the last d ones. -/
def rfM (h : Nat → Int) (n : Nat) : Nat → Int
  | 0 => -1
  | d + 1 => if 0 ≤ h (n - 1 - d) ∧ rfM h n d < h (n - 1 - d) + (d : Int) then h (n - 1 - d) + (d : Int) else rfM h n d
theorem rfM_le {h : Nat → Int} {n : Nat} (hh : ∀ i, i < n → h i ≤ 1099511627776) : ∀ d, d ≤ n → -1 ≤ rfM h n d ∧ rfM h n d ≤ 1099511627776 + (d : Int)
  | 0, _ => ⟨by simp [rfM], by simp [rfM]⟩
  | d + 1, hd => by
    obtain ⟨h1, h2⟩ := rfM_le hh d (by omega)
    have h3 := hh (n - 1 - d) (by omega)
    unfold rfM
    split <;> constructor <;> omega
def rfS (r : Int) : Int := if 1099511627776 < r then -1 else r
set_option maxRecDepth 100000 in
theorem newRef_bad (n : Int) (h : nrB n = false) (w : World) : Calls Try.prog 46 #[.int .i64 n] w fun e w' => e = .returned (.tuple #[.pointer none, .int .i64 1]) ∧ w = w' := by
  by_cases h4 : n < 4
  · have d4 : decide (n < 4) = true := decide_eq_true h4
    clear h
    go_enter Try.func46, Try.ntmps46
    go_wp2_with fail
    go_ret2
    exact ⟨rfl, rfl⟩
  · have h16 : 16 < n := by unfold nrB at h; simp at h; omega
    have d4 : decide (n < 4) = false := decide_eq_false h4
    have d16 : decide (16 < n) = true := decide_eq_true h16
    clear h
    go_enter Try.func46, Try.ntmps46
    go_wp2_with fail
    go_ret2
    exact ⟨rfl, rfl⟩
set_option maxRecDepth 100000 in
theorem newRef_is (N : Nat) (hN : 4 ≤ N ∧ N ≤ 16) (w : World) : Calls Try.prog 46 #[.int .i64 (N : Int)] w fun e w' => e = .returned (.tuple #[.pointer (some ⟨w.heap.size, 0, none⟩), .int .i64 0]) ∧ Blk w' w.heap.size 173 #[.int .i64 (N : Int), .slice none 0 0] ∧ Below w.heap.size w w' := by
  have d4 : decide ((N : Int) < 4) = false := decide_eq_false (by omega)
  have d16 : decide (16 < (N : Int)) = false := decide_eq_false (by omega)
  go_enter Try.func46, Try.ntmps46
  go_wp2_with fail
  go_ret2
  exact ⟨rfl, Blk.new w _ _, below_al (Below.refl _ w) _⟩
theorem blk_neR {W : World} {x b : Nat} {cs ds : Array Value} (h : Blk W x 2 cs) (k : Blk W b 173 ds) : x ≠ b := fun e => by
  subst e
  have := h.symm.trans k
  injection this with this
  injection this with _ e2
  exact absurd e2 (by decide)
theorem ref_app {w u : World} {b lo n c g' cap' : Nat} {A : Option Addr} {L L' : List Value} {N z : Int} (hB : Blk w b 173 #[.int .i64 N, .slice A n c]) (hO : w.ownsRow lo 2 1 (.slice A n c) n L) (hlo : lo ≤ b) (hg : (w.alloc (.cells #[.int .i64 z] 2)).grownBy u (Value.slice A n c).ownBlock) : Blk u b 173 #[.int .i64 N, .slice A n c] := by
  refine (hg.block b (by have := hB.lt; simp; omega) fun e => ?_).trans (hB.alloc _)
  rcases owns_shapeF hO with ⟨h, _⟩ | ⟨g, o, h⟩
  · cases h; cases e
  · cases h
    have e2 : b = g := by simpa [Value.ownBlock] using e
    obtain ⟨cs, hc⟩ := owns_row hO
    exact blk_neR hc hB e2.symm
theorem ref_set {w u : World} {b lo n m c g' cap' : Nat} {A : Option Addr} {L L' : List Value} {N z : Int} (hB : Blk w b 173 #[.int .i64 N, .slice A n c]) (hO : w.ownsRow lo 2 1 (.slice A n c) n L) (hlo : lo ≤ b) (hg : (w.alloc (.cells #[.int .i64 z] 2)).grownBy u (Value.slice A n c).ownBlock) (hO2 : u.ownsRow lo 2 1 (.slice (some ⟨g', 0, none⟩) m cap') m L') :
    Blk (u.setCell ⟨b, 1, none⟩ (.slice (some ⟨g', 0, none⟩) m cap')) b 173 #[.int .i64 N, .slice (some ⟨g', 0, none⟩) m cap'] ∧ (u.setCell ⟨b, 1, none⟩ (.slice (some ⟨g', 0, none⟩) m cap')).ownsRow lo 2 1 (.slice (some ⟨g', 0, none⟩) m cap') m L' ∧ Below lo w (u.setCell ⟨b, 1, none⟩ (.slice (some ⟨g', 0, none⟩) m cap')) ∧ ∀ k, k < w.heap.size → k ≠ b → (Value.slice A n c).ownBlock ≠ some k → (u.setCell ⟨b, 1, none⟩ (.slice (some ⟨g', 0, none⟩) m cap')).heap[k]? = w.heap[k]? := by
  have hB2 := ref_app (g' := g') (cap' := cap') (L' := L') hB hO hlo hg
  refine ⟨Blk.set_ hB2 1 _, ownsF_but hO2 (But.one 1 _) fun g e => ?_, ?_, fun k hk hkb hr => ?_⟩
  · cases e
    obtain ⟨cs, hc⟩ := owns_row hO2
    exact blk_neR hc hB2
  · exact (below_app (Nat.le_trans hlo (Nat.le_of_lt hB.lt)) hO hg).setCell (p := ⟨b, 1, none⟩) hlo _
  · exact (Below.heap_setCell _ _ _ _ hkb).trans ((hg.block k (by simp; omega) (Ne.symm hr)).trans (Below.heap_alloc w _ k hk))
/-- The age, by the document. -/
def agR (M : Nat) (x y : Int) : Int := if agB x = true then (if 1099511627776 < x + (M : Int) then -1 else x + (M : Int)) else (if agB y = true then y else -1)
theorem agR_eq (M : Nat) (x y : Int) : agR M x y = ageC M x y := by
  unfold agR ageC
  by_cases hx : agB x = true
  · rw [if_pos hx, if_pos hx]
    unfold agB at hx
    simp at hx
    unfold orN
    by_cases h : 1099511627776 < x + (M : Int)
    · rw [if_pos h, if_neg (by unfold agB; simp; omega)]
    · rw [if_neg h, if_pos (by unfold agB; simp; omega)]
  · rw [if_neg hx, if_neg hx]
    rfl
set_option maxRecDepth 100000 in
set_option maxHeartbeats 8000000 in
theorem refStep_is (b N M n c lo : Nat) (hN : 4 ≤ N ∧ N ≤ 16) (hM : M = 2 * N) (hn : n ≤ 1000) (m : Nat) (hm : m = n + 1) (A : Option Addr) (h : Nat → Int) (x y : Int) (hz : h n = ageC M x y) (hh : ∀ i, i < m → h i ≤ 1099511627776) (w : World) (hB : Blk w b 173 #[.int .i64 (N : Int), .slice A n c]) (ho : w.ownsRow lo 2 1 (.slice A n c) n (agsL h n)) (hlo : lo ≤ b) :
    Calls Try.prog 48 #[.pointer (some ⟨b, 0, none⟩), .int .i64 x, .int .i64 y] w fun e w' => e = .returned (.tuple #[.int .i64 (h n), .int .i64 (rfS (rfM h m (min M m)))]) ∧ (∃ A' c', Blk w' b 173 #[.int .i64 (N : Int), .slice A' (m) c'] ∧ w'.ownsRow lo 2 1 (.slice A' (m) c') (m) (agsL h (m))) ∧ Below lo w w' ∧ ∀ k, k < w.heap.size → k ≠ b → (Value.slice A n c).ownBlock ≠ some k → w'.heap[k]? = w.heap[k]? := by
  obtain ⟨i0, hi0, hz0, hz1, hz2⟩ := info_parts infoI64
  rw [← agR_eq] at hz
  have HB := Lib.hid hB
  have HO := Lib.hid ho
  have HLO := Lib.hid hlo
  have HH := Lib.hid hh
  have cN : w.cell? ⟨b, 0, none⟩ = some (.int .i64 (N : Int)) := hB.cell 0
  have cL : w.cell? ⟨b, 1, none⟩ = some (.slice A n c) := hB.cell 1
  have lb := hB.lt
  have eM : (2 : Int) * (N : Int) = (M : Int) := by omega
  have lM : 8 ≤ M ∧ M ≤ 32 := by omega
  clear hB ho hlo hh hM
  go_enter Try.func48, Try.ntmps48
  obtain ⟨qy, hqy⟩ : ∃ q, q = agB y := ⟨_, rfl⟩
  obtain ⟨qx, hqx⟩ : ∃ q, q = agB x := ⟨_, rfl⟩
  obtain ⟨v0, hv0⟩ : ∃ v : Int, v = (if agB y = true then y else -1) := ⟨_, rfl⟩
  have HM := Lib.hid hm
  have hm1 : (m : Int) - 1 = (n : Int) := by omega
  clear hm
  have HQX := Lib.hid hqx
  have HQY := Lib.hid hqy
  have HV0 := Lib.hid hv0
  have HZ := Lib.hid hz
  clear hqx hqy hv0 hz
  go_upto_region 2 with fail
  go_cut [17] from 12 to 17 (fun s wx => s = .bool (agB y) ∧ wx = w)
  case first =>
    by_cases h0 : 0 ≤ y
    · by_cases h1 : y ≤ 1099511627776
      · have e : agB y = true := by unfold agB; simp; omega
        have d0 : decide (0 ≤ y) = true := decide_eq_true h0
        have d1 : decide (y ≤ 1099511627776) = true := decide_eq_true h1
        go_wp2_with fail
        go_meet
        exact ⟨by rw [e], rfl⟩
      · have e : agB y = false := by unfold agB; simp; omega
        have d0 : decide (0 ≤ y) = true := decide_eq_true h0
        have d1 : decide (y ≤ 1099511627776) = false := decide_eq_false h1
        go_wp2_with fail
        go_meet
        exact ⟨by rw [e], rfl⟩
    · have e : agB y = false := by unfold agB; simp; omega
      have d0 : decide (0 ≤ y) = false := decide_eq_false h0
      go_wp2_with fail
      go_meet
      exact ⟨by rw [e], rfl⟩
  obtain ⟨rfl, rfl⟩ := hcut
  rw [← HQY.out]
  go_upto_if 17 with fail
  go_cut [8] from 18 to 18 (fun s wx => s = .int .i64 v0 ∧ wx = wc)
  case first =>
    cases qy with
    | true =>
      go_wp2_with fail
      go_meet
      exact ⟨by rw [HV0.out, if_pos HQY.out.symm], rfl⟩
    | false =>
      go_wp2_with fail
      go_meet
      exact ⟨by rw [HV0.out, if_neg (by rw [← HQY.out]; decide)], rfl⟩
  obtain ⟨rfl, rfl⟩ := hcut
  go_upto_region 4 with fail
  go_cut [24] from 19 to 24 (fun s wx => s = .bool (agB x) ∧ wx = wc)
  case first =>
    by_cases h0 : 0 ≤ x
    · by_cases h1 : x ≤ 1099511627776
      · have e : agB x = true := by unfold agB; simp; omega
        have d0 : decide (0 ≤ x) = true := decide_eq_true h0
        have d1 : decide (x ≤ 1099511627776) = true := decide_eq_true h1
        go_wp2_with fail
        go_meet
        exact ⟨by rw [e], rfl⟩
      · have e : agB x = false := by unfold agB; simp; omega
        have d0 : decide (0 ≤ x) = true := decide_eq_true h0
        have d1 : decide (x ≤ 1099511627776) = false := decide_eq_false h1
        go_wp2_with fail
        go_meet
        exact ⟨by rw [e], rfl⟩
    · have e : agB x = false := by unfold agB; simp; omega
      have d0 : decide (0 ≤ x) = false := decide_eq_false h0
      go_wp2_with fail
      go_meet
      exact ⟨by rw [e], rfl⟩
  obtain ⟨rfl, rfl⟩ := hcut
  rw [← HQX.out]
  go_upto_if 24 with fail
  go_cut [8] from 25 to 33 (fun s wx => s = .int .i64 (h n) ∧ wx = wc)
  case first =>
    cases qx with
    | true =>
      have hb : 0 ≤ x ∧ x ≤ 1099511627776 := by have := HQX.out; unfold agB at this; simp at this; omega
      have hxM : IntKind.i64.wrap (x + (M : Int)) = x + (M : Int) := IntWalk.i64_in _ (by omega)
      by_cases h1 : 1099511627776 < x + (M : Int)
      · have d4 : decide (1099511627776 < x + (M : Int)) = true := decide_eq_true h1
        go_wp2_with fail
        go_meet
        refine ⟨?_, rfl⟩
        rw [HZ.out]
        unfold agR
        rw [if_pos HQX.out.symm, if_pos h1]
      · have d4 : decide (1099511627776 < x + (M : Int)) = false := decide_eq_false h1
        go_wp2_with fail
        go_meet
        refine ⟨?_, rfl⟩
        rw [HZ.out]
        unfold agR
        rw [if_pos HQX.out.symm, if_neg (by omega)]
    | false =>
      go_wp2_with fail
      go_meet
      refine ⟨?_, rfl⟩
      rw [HZ.out, HV0.out]
      unfold agR
      rw [if_neg (c := agB x = true) (by rw [← HQX.out]; decide)]
  obtain ⟨rfl, rfl⟩ := hcut
  obtain ⟨z, hzz⟩ : ∃ z, z = h n := ⟨_, rfl⟩
  have HZZ := Lib.hid hzz
  rw [← hzz]
  clear hzz
  go_upto_region 8 with fail
  go_cut [34] from 34 to 43 (fun _ wx => ∃ A' c', Hid (Blk wx b 173 #[.int .i64 (N : Int), .slice A' m c']) ∧ Hid (wx.ownsRow lo 2 1 (.slice A' m c') m (agsL h m)) ∧ Hid (Below lo wc wx) ∧ Hid (∀ k, k < wc.heap.size → k ≠ b → (Value.slice A n c).ownBlock ≠ some k → wx.heap[k]? = wc.heap[k]?))
  case first =>
    go_wp2_with (at_builtin; refine wpList_append_own _ rfl (.tmp 38) (.tmp 40) 121 rfl lo 2 i0 _ 1 8 elemI64 hi0 hz0 hz1 hz2 rfl (by decide) _ n _ rfl (HO.out.alloc _) ⟨_, 0, none⟩ 1 1 [.int .i64 z] rfl rfl (cell_one_new _ _ _) (by simp [Value.oneCell']) (by unfold maxLen; omega) (by omega) (by have := HLO.out; simp; omega) ?_; intro v' u2 hown' hgrow hnil; obtain ⟨g', cap', rfl⟩ := ownsRow_succ hown'; have HO2 := Lib.hid hown'; have HGR := Lib.hid hgrow; have HB2 := ref_app (g' := 0) (cap' := 0) (L' := []) HB.out HO.out HLO.out hgrow; have c1 : u2.cell? ⟨b, 1, none⟩ = some (.slice A n c) := HB2.cell 1; have f1 : u2.frozen? ⟨b, 1, none⟩ = false := HB2.frozen 1; have lb2 := HB2.lt; clear hown' hgrow hnil HB2)
    go_meet
    have hm := HM.out
    subst hm
    obtain ⟨q1, q2, q3, q4⟩ := ref_set HB.out HO.out HLO.out HGR.out HO2.out
    refine ⟨_, _, Lib.hid q1, Lib.hid ?_, Lib.hid q3, Lib.hid q4⟩
    rw [agsL_succ, ← HZZ.out]
    exact q2
  obtain ⟨A2, c2, HB2, HO2, HL2, HK2⟩ := hcut
  have cN2 := HB2.out.cell 0
  have cL2 := HB2.out.cell 1
  have lb2 := HB2.out.lt
  simp at cN2 cL2
  clear cN cL lb
  go_wp2_with fail
  go_loopw [10, 9, 11] (fun iv bv x1 wr => (∃ q, wr = wc.drewN q) ∧ ∃ d : Nat, d ≤ m ∧ d ≤ M ∧ iv = .int .i64 (d : Int) ∧ bv = .int .i64 (rfM h m d)) (fun iv _ _ _ => M - (intOf iv).toNat)
  case atStart => exact ⟨⟨0, rfl⟩, 0, by omega, by omega, rfl, rfl⟩
  case round =>
    obtain ⟨⟨q, rfl⟩, d, hd1, hd2, rfl, rfl⟩ := hrel
    by_cases hdM : d < M
    · have dM : decide ((d : Int) < (M : Int)) = true := decide_eq_true (by omega)
      by_cases hdm : d < m
      · have dm : decide ((d : Int) < (m : Int)) = true := decide_eq_true (by omega)
        obtain ⟨k, hk⟩ : ∃ k, k = n - d := ⟨_, rfl⟩
        have hkd : (n : Int) - (d : Int) = (k : Int) := by omega
        have lk : k < m := by omega
        obtain ⟨v, hv⟩ : ∃ v, v = h k := ⟨_, rfl⟩
        have hvb : v ≤ 1099511627776 := by rw [hv]; exact HH.out k lk
        obtain ⟨r, hr⟩ : ∃ r, r = rfM h m d := ⟨_, rfl⟩
        have hnx : rfM h m (d + 1) = if 0 ≤ v ∧ r < v + (d : Int) then v + (d : Int) else r := by
          rw [hv, hr, hk, show n - d = m - 1 - d by have := HM.out; omega]
          rfl
        have HNX := Lib.hid hnx
        rw [← hr]
        obtain ⟨g2, e2, _, l2, hc2⟩ := ownsF_get HO2.out (by omega)
        subst e2
        have c1 : wc.cell? ⟨g2, k, none⟩ = some (.int .i64 v) := hc2 k _ (by rw [hv]; exact agsL_get lk)
        have hix := fun W' => idxI64 (A := some ⟨g2, 0, none⟩) (n := m) c2 rfl lk W'
        simp only [Nat.zero_add] at hix
        clear hnx hv hr hc2 hk lk
        by_cases h0 : 0 ≤ v
        · have d0 : decide (0 ≤ v) = true := decide_eq_true h0
          have hw : IntKind.i64.wrap (v + (d : Int)) = v + (d : Int) := IntWalk.i64_in _ (by omega)
          by_cases h1 : r < v + (d : Int)
          · have d1 : decide (r < v + (d : Int)) = true := decide_eq_true h1
            have EN : Hid (rfM h m (d + 1) = v + (d : Int)) := Lib.hid (by rw [HNX.out, if_pos ⟨h0, h1⟩])
            clear HNX
            go_upto_region 13 with fail
            go_quiet (fail)
            go_wp2_with fail
            go_roundw
            case rel => exact ⟨⟨_, rfl⟩, d + 1, by omega, by omega, by go_num, by rw [EN.out]⟩
            case measure => simp [intOf]; omega
          · have d1 : decide (r < v + (d : Int)) = false := decide_eq_false h1
            have EN : Hid (rfM h m (d + 1) = r) := Lib.hid (by rw [HNX.out, if_neg (fun h => h1 h.2)])
            clear HNX
            go_upto_region 13 with fail
            go_quiet (fail)
            go_wp2_with fail
            go_roundw
            case rel => exact ⟨⟨_, rfl⟩, d + 1, by omega, by omega, by go_num, by rw [EN.out]⟩
            case measure => simp [intOf]; omega
        · have d0 : decide (0 ≤ v) = false := decide_eq_false h0
          have EN : Hid (rfM h m (d + 1) = r) := Lib.hid (by rw [HNX.out, if_neg (fun h => h0 h.1)])
          clear HNX
          go_upto_region 13 with fail
          go_quiet (fail)
          go_wp2_with fail
          go_roundw
          case rel => exact ⟨⟨_, rfl⟩, d + 1, by omega, by omega, by go_num, by rw [EN.out]⟩
          case measure => simp [intOf]; omega
      · obtain rfl : d = m := by omega
        have dm : decide ((d : Int) < (d : Int)) = false := decide_eq_false (by omega)
        have HDM : Hid (min M d = d) := Lib.hid (by omega)
        obtain ⟨r, hr⟩ : ∃ r, r = rfM h d d := ⟨_, rfl⟩
        rw [← hr]
        have HR := Lib.hid hr
        clear hr
        by_cases hgt : 1099511627776 < r
        · have dr : decide (1099511627776 < r) = true := decide_eq_true hgt
          go_wp2_with fail
          go_ret2
          refine ⟨by show Ending.returned (.tuple #[.int .i64 z, .int .i64 (-1)]) = _; (try rw [HDM.out]); rw [← HR.out, HZZ.out]; unfold rfS; rw [if_pos hgt], ⟨A2, c2, HB2.out, HO2.out⟩, below_drewN HL2.out q, HK2.out⟩
        · have dr : decide (1099511627776 < r) = false := decide_eq_false hgt
          go_wp2_with fail
          go_ret2
          refine ⟨by show Ending.returned (.tuple #[.int .i64 z, .int .i64 r]) = _; (try rw [HDM.out]); rw [← HR.out, HZZ.out]; unfold rfS; rw [if_neg (by omega)], ⟨A2, c2, HB2.out, HO2.out⟩, below_drewN HL2.out q, HK2.out⟩
    · obtain rfl : d = M := by omega
      have dM : decide ((d : Int) < (d : Int)) = false := decide_eq_false (by omega)
      have HDM : Hid (min d m = d) := Lib.hid (by omega)
      obtain ⟨r, hr⟩ : ∃ r, r = rfM h m d := ⟨_, rfl⟩
      rw [← hr]
      have HR := Lib.hid hr
      clear hr
      by_cases hgt : 1099511627776 < r
      · have dr : decide (1099511627776 < r) = true := decide_eq_true hgt
        go_wp2_with fail
        go_ret2
        refine ⟨by show Ending.returned (.tuple #[.int .i64 z, .int .i64 (-1)]) = _; (try rw [HDM.out]); rw [← HR.out, HZZ.out]; unfold rfS; rw [if_pos hgt], ⟨A2, c2, HB2.out, HO2.out⟩, below_drewN HL2.out q, HK2.out⟩
      · have dr : decide (1099511627776 < r) = false := decide_eq_false hgt
        go_wp2_with fail
        go_ret2
        refine ⟨by show Ending.returned (.tuple #[.int .i64 z, .int .i64 r]) = _; (try rw [HDM.out]); rw [← HR.out, HZZ.out]; unfold rfS; rw [if_neg (by omega)], ⟨A2, c2, HB2.out, HO2.out⟩, below_drewN HL2.out q, HK2.out⟩
end Go.Proofs.Ytcangipaoancnaa

