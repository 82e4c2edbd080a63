/-
  The document's common age (sennitref16). Conditions: the vector's reading.
-/
import Derived.Test.YtcangipaoancnaaAs6
import Derived.Test.YtcangipaoancnaaAsM
import Derived.Test.YtcangipaoancnaaAsRun
import Derived.Deep.CutRange
import Derived.Deep.CutBlock
import Derived.BigQuiet
namespace Go.Proofs.Ytcangipaoancnaa
open Go.RowKit
set_option linter.unusedVariables false
set_option linter.unusedSimpArgs false

theorem valsI_get {L : List Int} {j : Nat} (hj : j < L.length) : (valsI L)[j]? = some (.int .i64 (L.getD j 0)) := by
  unfold valsI
  rw [List.getElem?_map, List.getElem?_eq_getElem hj, List.getD_eq_getElem?_getD, List.getElem?_eq_getElem hj]
  rfl
def ltT (L : List Int) (x : Int) (j : Nat) : Nat := (L.take j).countP fun y => decide (y < x)
def eqT (L : List Int) (x : Int) (j : Nat) : Nat := (L.take j).countP fun y => decide (y = x)
theorem ltT_le (L : List Int) (x : Int) (j : Nat) : ltT L x j ≤ j := by
  unfold ltT
  have := List.countP_le_length (p := fun y => decide (y < x)) (l := L.take j)
  have h2 := List.length_take_le j L
  omega
theorem eqT_le (L : List Int) (x : Int) (j : Nat) : eqT L x j ≤ j := by
  unfold eqT
  have := List.countP_le_length (p := fun y => decide (y = x)) (l := L.take j)
  have h2 := List.length_take_le j L
  omega
theorem take_next {L : List Int} {j : Nat} (hj : j < L.length) : L.take (j + 1) = L.take j ++ [L.getD j 0] := by
  rw [List.take_add_one, List.getElem?_eq_getElem hj, List.getD_eq_getElem?_getD, List.getElem?_eq_getElem hj]
  rfl
theorem ltT_next {L : List Int} {x : Int} {j : Nat} (hj : j < L.length) : ltT L x (j + 1) = ltT L x j + (if L.getD j 0 < x then 1 else 0) := by
  unfold ltT
  rw [take_next hj, List.countP_append, List.countP_singleton]
  simp
theorem eqT_next {L : List Int} {x : Int} {j : Nat} (hj : j < L.length) : eqT L x (j + 1) = eqT L x j + (if L.getD j 0 = x then 1 else 0) := by
  unfold eqT
  rw [take_next hj, List.countP_append, List.countP_singleton]
  simp
theorem lt_eq_le : ∀ (L : List Int) (x : Int), (L.countP fun y => decide (y < x)) + (L.countP fun y => decide (y = x)) = L.countP fun y => decide (y ≤ x)
  | [], _ => rfl
  | y :: ys, x => by
    have h := lt_eq_le ys x
    rw [List.countP_cons, List.countP_cons, List.countP_cons]
    by_cases h1 : y < x
    · rw [if_pos (by simpa using h1), if_neg (by simp; omega), if_pos (by simp; omega)]; omega
    · by_cases h2 : y = x
      · rw [if_neg (by simpa using h1), if_pos (by simpa using h2), if_pos (by simp; omega)]; omega
      · rw [if_neg (by simpa using h1), if_neg (by simpa using h2), if_neg (by simp; omega)]; omega
theorem ltT_all (L : List Int) (x : Int) : ltT L x L.length = ltN L x := by unfold ltT ltN; rw [List.take_length]
theorem eqT_all (L : List Int) (x : Int) : ltT L x L.length + eqT L x L.length = leN L x := by unfold ltT eqT leN; rw [List.take_length]; exact lt_eq_le L x
/-- The one in the midst is one of them. -/
theorem mid_there {L : List Int} (h : 0 < L.length) : ∃ i, i < L.length ∧ ltN L (L.getD i 0) ≤ (L.length - 1) / 2 ∧ (L.length - 1) / 2 < leN L (L.getD i 0) := by
  obtain ⟨x, hx⟩ : ∃ x, (srt L)[(L.length - 1) / 2]? = some x := ⟨_, List.getElem?_eq_getElem (by rw [srt_len]; omega)⟩
  have hs := sorted_counts (srt L) _ x (srt_sorted L) hx
  have hm : x ∈ L := (srt_perm L).mem_iff.1 (List.mem_of_getElem? hx)
  obtain ⟨i, hi, e⟩ := List.getElem_of_mem hm
  refine ⟨i, hi, ?_⟩
  have e2 : L.getD i 0 = x := by rw [List.getD_eq_getElem?_getD, List.getElem?_eq_getElem hi]; exact e
  rw [e2]
  unfold ltN leN at *
  rw [← (srt_perm L).countP_eq, ← (srt_perm L).countP_eq]
  exact hs
theorem mid_is {L : List Int} {x : Int} (h1 : ltN L x ≤ (L.length - 1) / 2) (h2 : (L.length - 1) / 2 < leN L x) : (srt L).getD ((L.length - 1) / 2) 0 = x := by
  rw [List.getD_eq_getElem?_getD, srt_at h1 h2]
  rfl
/-- Of a table the cells that count. -/
def AgeAt (w : World) (A : Option Addr) (m : Nat) (T : Nat → He) : Prop := 0 < m → ∃ g o, A = some ⟨g, o, none⟩ ∧ g < w.heap.size ∧ ∀ i, i < m → w.cell? ⟨g, o + i * 56, none⟩ = some (.bool (T i).i) ∧ w.cell? ⟨g, o + i * 56 + 1, none⟩ = some (.int .i64 (T i).c.a)
set_option maxRecDepth 100000 in
theorem refCommon_bad (n : Int) (h : nrB n = false) (v : Value) (w : World) : Calls Try.prog 44 #[.int .i64 n, v] w fun e w' => e = .returned (.int .i64 (-1)) ∧ w = w' := by
  by_cases h4 : n < 4
  · have d4 : decide (n < 4) = true := decide_eq_true h4
    clear h
    go_enter Try.func44, Try.ntmps44
    go_wp2_with fail
    go_ret
    exact ⟨rfl, rfl⟩
  · have h16 : 16 < n := by unfold nrB at h; simp at h; omega
    have d4 : decide (n < 4) = false := decide_eq_false h4
    have d16 : decide (16 < n) = true := decide_eq_true h16
    clear h
    go_enter Try.func44, Try.ntmps44
    go_wp2_with fail
    go_ret
    exact ⟨rfl, rfl⟩
set_option maxRecDepth 100000 in
set_option maxHeartbeats 8000000 in
theorem refCommon_is (N : Nat) (hN : 4 ≤ N ∧ N ≤ 16) (A : Option Addr) (m c q : Nat) (hq : q = min N m) (T : Nat → He) (w : World) (hT : AgeAt w A m T) :
    Calls Try.prog 44 #[.int .i64 (N : Int), .slice A m c] w fun e w' => e = .returned (.int .i64 (comM N q T)) ∧ Below w.heap.size w w' := by
  obtain ⟨i0, hi0, hz0, hz1, hz2⟩ := info_parts infoI64
  have d4 : decide ((N : Int) < 4) = false := decide_eq_false (by omega)
  have d16 : decide (16 < (N : Int)) = false := decide_eq_false (by omega)
  have HT := Lib.hid hT
  have HQM := Lib.hid hq
  have hqN : q ≤ N := by omega
  have hqm : q ≤ m := by omega
  clear hT hq
  go_enter Try.func44, Try.ntmps44
  go_upto_block 0 with fail
  go_cut [5] from 18 to 60 (fun s5 wx => ∃ A1 c1, s5 = .slice A1 (agesOf T q).length c1 ∧ Hid (wx.ownsRow w.heap.size 2 1 (.slice A1 (agesOf T q).length c1) (agesOf T q).length (valsI (agesOf T q))) ∧ Hid (Below w.heap.size w wx))
  case first =>
    go_wp2_with fail
    go_loopw [6, 5] (fun iv sv wr => ∃ k : Nat, k ≤ q ∧ iv = .int .i64 (k : Int) ∧ ∃ A1 c1, sv = .slice A1 (agesOf T k).length c1 ∧ Hid (wr.ownsRow w.heap.size 2 1 (.slice A1 (agesOf T k).length c1) (agesOf T k).length (valsI (agesOf T k))) ∧ Hid (Below w.heap.size w wr)) (fun iv _ _ => q - (intOf iv).toNat)
    case atStart => exact ⟨0, by omega, rfl, none, 0, rfl, Lib.hid ownsF_nil, Lib.hid (Below.refl _ _)⟩
    case round =>
      obtain ⟨k, hk, rfl, A1, c1, rfl, HO, HB⟩ := hrel
      by_cases hlt : k < q
      · have dN : decide ((k : Int) < (N : Int)) = true := decide_eq_true (by omega)
        have dm : decide ((k : Int) < (m : Int)) = true := decide_eq_true (by omega)
        obtain ⟨g, o, rfl, hg, hc⟩ := HT.out (by omega)
        obtain ⟨Y, hY⟩ : ∃ Y, Y = T k := ⟨_, rfl⟩
        have cb : wr.cell? ⟨g, o + k * 56, none⟩ = some (.bool Y.i) := (HB.out.cell (p := ⟨g, _, none⟩) hg).trans (by rw [hY]; exact (hc k (by omega)).1)
        have ca : wr.cell? ⟨g, o + k * 56 + 1, none⟩ = some (.int .i64 Y.c.a) := (HB.out.cell (p := ⟨g, _, none⟩) hg).trans (by rw [hY]; exact (hc k (by omega)).2)
        have lg := Nat.lt_of_lt_of_le hg HB.out.size
        have hix := fun W => idxRHelds (A := some ⟨g, o, none⟩) (n := m) c rfl (show k < m by omega) W
        obtain ⟨bi, hbi⟩ : ∃ b, b = Y.i := ⟨_, rfl⟩
        obtain ⟨a, ha⟩ : ∃ a, a = Y.c.a := ⟨_, rfl⟩
        obtain ⟨z, hz⟩ : ∃ z, z = (agesOf T k).length := ⟨_, rfl⟩
        have hzk : z ≤ 16 := by have := agesOf_len T k; omega
        obtain ⟨L, hL⟩ : ∃ L, L = agesOf T k := ⟨_, rfl⟩
        have HL1 : Hid (agesOf T (k + 1) = L ++ (if bi = true ∧ agB a = true then [a] else [])) := Lib.hid (by rw [hL, hbi, ha, hY]; rfl)
        have HLZ : Hid (z = L.length) := Lib.hid (by rw [hz, hL])
        rw [← hbi] at cb
        rw [← ha] at ca
        rw [← hz, ← hL] at HO
        rw [← hz]
        clear hbi ha hz hL hY hc
        cases bi with
        | true =>
          by_cases h0 : 0 ≤ a
          · have d0 : decide (0 ≤ a) = true := decide_eq_true h0
            by_cases h1 : a ≤ 1099511627776
            · have d1 : decide (a ≤ 1099511627776) = true := decide_eq_true h1
              have HE : Hid (agesOf T (k + 1) = L ++ [a]) := Lib.hid (by rw [HL1.out, if_pos ⟨rfl, by unfold agB; simp; omega⟩])
              clear HL1
              go_wp2_with (at_builtin; refine wpList_append_own _ rfl (.tmp 52) (.tmp 59) 121 rfl w.heap.size 2 i0 _ 1 8 elemI64 hi0 hz0 hz1 hz2 rfl (by decide) _ z _ rfl (HO.out.alloc _) ⟨_, 0, none⟩ 1 1 [.int .i64 a] rfl rfl (cell_one_new _ _ _) (by simp [Value.oneCell']) (by unfold maxLen; omega) (by omega) (by have := HB.out.size; simp; omega) ?_; intro v' u2 hown' hgrow hnil; obtain ⟨g', cap', rfl⟩ := ownsRow_succ hown'; have HO2 := Lib.hid hown'; have HGR := Lib.hid hgrow; clear hown' hgrow hnil)
              go_roundw
              case rel =>
                refine ⟨k + 1, by omega, by go_num, some ⟨g', 0, none⟩, cap', by rw [HE.out, List.length_append, ← HLZ.out]; rfl, Lib.hid ?_, Lib.hid (HB.out.trans (below_app HB.out.size HO.out HGR.out))⟩
                rw [HE.out, List.length_append, ← HLZ.out]
                have := HO2.out
                unfold valsI at *
                rw [List.map_append]
                exact this
              case measure => simp [intOf]; omega
            · have d1 : decide (a ≤ 1099511627776) = false := decide_eq_false h1
              have HE : Hid (agesOf T (k + 1) = L) := Lib.hid (by rw [HL1.out, if_neg (by unfold agB; simp; omega), List.append_nil])
              clear HL1
              go_wp2_with fail
              go_roundw
              case rel => exact ⟨k + 1, by omega, by go_num, A1, c1, by rw [HE.out, ← HLZ.out], by rw [HE.out, ← HLZ.out]; exact HO, HB⟩
              case measure => simp [intOf]; omega
          · have d0 : decide (0 ≤ a) = false := decide_eq_false h0
            have HE : Hid (agesOf T (k + 1) = L) := Lib.hid (by rw [HL1.out, if_neg (by unfold agB; simp; omega), List.append_nil])
            clear HL1
            go_wp2_with fail
            go_roundw
            case rel => exact ⟨k + 1, by omega, by go_num, A1, c1, by rw [HE.out, ← HLZ.out], by rw [HE.out, ← HLZ.out]; exact HO, HB⟩
            case measure => simp [intOf]; omega
        | false =>
          have HE : Hid (agesOf T (k + 1) = L) := Lib.hid (by rw [HL1.out, if_neg (fun h => by cases h.1), List.append_nil])
          clear HL1
          go_wp2_with fail
          go_roundw
          case rel => exact ⟨k + 1, by omega, by go_num, A1, c1, by rw [HE.out, ← HLZ.out], by rw [HE.out, ← HLZ.out]; exact HO, HB⟩
          case measure => simp [intOf]; omega
      · obtain rfl : k = q := by omega
        have hq := HQM.out
        by_cases hNm : N ≤ m
        · obtain rfl : k = N := by omega
          clear hq
          have dN : decide ((k : Int) < (k : Int)) = false := decide_eq_false (by omega)
          go_wp2_with fail
          go_meet
          exact ⟨A1, c1, rfl, HO, HB⟩
        · obtain rfl : k = m := by omega
          clear hq
          have dN : decide ((k : Int) < (N : Int)) = true := decide_eq_true (by omega)
          have dm : decide ((k : Int) < (k : Int)) = false := decide_eq_false (by omega)
          go_wp2_with fail
          go_meet
          exact ⟨A1, c1, rfl, HO, HB⟩
  obtain ⟨A1, c1, rfl, HO, HB⟩ := hcut
  obtain ⟨L, hL⟩ : ∃ L, L = agesOf T q := ⟨_, rfl⟩
  have hl16 : L.length ≤ 16 := by rw [hL]; exact Nat.le_trans (agesOf_len T q) (by omega)
  have HE : Hid (comM N q T = if L.length < N - 1 then -1 else (srt L).getD ((L.length - 1) / 2) 0) := Lib.hid (by unfold comM; rw [hL])
  rw [← hL] at HO ⊢
  obtain ⟨l, hl⟩ : ∃ l, l = L.length := ⟨_, rfl⟩
  obtain ⟨N1, hN1⟩ : ∃ n, n = N - 1 := ⟨_, rfl⟩
  have eN1 : (N : Int) - 1 = (N1 : Int) := by omega
  have wN1 : IntKind.i64.wrap (N1 : Int) = (N1 : Int) := IntWalk.i64_in _ (by omega)
  rw [← hl] at HE hl16 HO ⊢
  rw [← hN1] at HE
  have HLL := Lib.hid hl
  have lN1 : 3 ≤ N1 := by omega
  clear hL hl hN1 HQM HT d4 d16
  go_upto_region 9 with fail
  by_cases hlt : l < N1
  · have dl : decide ((l : Int) < (N1 : Int)) = true := decide_eq_true (by omega)
    have HR : Hid (comM N q T = -1) := Lib.hid (by rw [HE.out, if_pos hlt])
    go_wp2_with fail
    go_ret
    exact ⟨by rw [HR.out]; rfl, HB.out⟩
  have dl : decide ((l : Int) < (N1 : Int)) = false := decide_eq_false (by omega)
  obtain ⟨l1, hl1⟩ : ∃ n, n = l - 1 := ⟨_, rfl⟩
  obtain ⟨h, hh⟩ : ∃ n, n = l1 / 2 := ⟨_, rfl⟩
  have e1 : (l : Int) - 1 = (l1 : Int) := by omega
  have w1 : IntKind.i64.wrap (l1 : Int) = (l1 : Int) := IntWalk.i64_in _ (by omega)
  have e2 : (l1 : Int).tdiv 2 = (h : Int) := by rw [hh]; rfl
  have w3 : IntKind.i64.wrap (h : Int) = (h : Int) := IntWalk.i64_in _ (by omega)
  have hh16 : h ≤ 16 := by omega
  have HR : Hid (∀ x, ltN L x ≤ h → h < leN L x → comM N q T = x) := Lib.hid (fun x h1 h2 => by
    rw [HE.out, if_neg hlt, HLL.out]
    rw [HLL.out] at hl1
    rw [hh, hl1] at h1 h2
    exact mid_is h1 h2)
  have HM : Hid (∃ i, i < l ∧ ltN L (L.getD i 0) ≤ h ∧ h < leN L (L.getD i 0)) := Lib.hid (by
    have := mid_there (L := L) (by rw [← HLL.out]; omega)
    rw [← HLL.out, ← hl1, ← hh] at this
    exact this)
  obtain ⟨g, rfl, lg, hc⟩ := owns_cells (A := A1) (c := c1) (xs := L) (by rw [← HLL.out]; exact HO.out) (by rw [← HLL.out]; omega)
  have HC : Hid (∀ j, j < l → wc.cell? ⟨g, j, none⟩ = some (.int .i64 (L.getD j 0))) := Lib.hid (fun j hj => hc j _ (by
    rw [HLL.out] at hj
    rw [List.getD_eq_getElem?_getD, List.getElem?_eq_getElem hj]
    rfl))
  clear hl1 hh hc HE HO
  go_wp2_with fail
  go_loopw [7, 8, 9, 10, 11] (fun iv x1 x2 x3 x4 wr => (∃ q1, wr = wc.drewN q1) ∧ ∃ i : Nat, i ≤ l ∧ iv = .int .i64 (i : Int) ∧ Hid (∀ j, j < i → ¬ (ltN L (L.getD j 0) ≤ h ∧ h < leN L (L.getD j 0)))) (fun iv _ _ _ _ _ => l - (intOf iv).toNat)
  case atStart => exact ⟨⟨0, rfl⟩, 0, by omega, rfl, Lib.hid (fun j hj => absurd hj (by omega))⟩
  case round =>
    obtain ⟨⟨q1, rfl⟩, i, hi, rfl, HN⟩ := hrel
    by_cases hil : i < l
    · have di : decide ((i : Int) < (l : Int)) = true := decide_eq_true (by omega)
      obtain ⟨x, hx⟩ : ∃ x, x = L.getD i 0 := ⟨_, rfl⟩
      have HX := Lib.hid hx
      have cx : wc.cell? ⟨g, i, none⟩ = some (.int .i64 x) := by rw [hx]; exact HC.out i hil
      have hix := fun W' => idxI64 (A := some ⟨g, 0, none⟩) (n := l) c1 rfl hil W'
      simp only [Nat.zero_add] at hix
      clear hx
      go_wp2_with fail
      go_loopw [10, 8, 9] (fun jv lv ev wr => (∃ q2, wr = wc.drewN q2) ∧ ∃ j : Nat, j ≤ l ∧ jv = .int .i64 (j : Int) ∧ lv = .int .i64 (ltT L x j : Int) ∧ ev = .int .i64 (eqT L x j : Int)) (fun jv _ _ _ => l - (intOf jv).toNat)
      case atStart => exact ⟨⟨q1, rfl⟩, 0, by omega, rfl, rfl, rfl⟩
      case round =>
        obtain ⟨⟨q2, rfl⟩, j, hj, rfl, rfl, rfl⟩ := hrel
        obtain ⟨u, hu⟩ : ∃ u, u = ltT L x j := ⟨_, rfl⟩
        obtain ⟨v, hv⟩ : ∃ v, v = eqT L x j := ⟨_, rfl⟩
        have hu16 : u ≤ 16 := by rw [hu]; exact Nat.le_trans (ltT_le L x j) (by omega)
        have hv16 : v ≤ 16 := by rw [hv]; exact Nat.le_trans (eqT_le L x j) (by omega)
        rw [← hu, ← hv]
        have HU := Lib.hid hu
        have HV := Lib.hid hv
        clear hu hv
        by_cases hjl : j < l
        · have dj : decide ((j : Int) < (l : Int)) = true := decide_eq_true (by omega)
          obtain ⟨y, hy⟩ : ∃ y, y = L.getD j 0 := ⟨_, rfl⟩
          have HUN : Hid (ltT L x (j + 1) = u + (if y < x then 1 else 0)) := Lib.hid (by rw [HU.out, hy]; exact ltT_next (by rw [← HLL.out]; exact hjl))
          have HVN : Hid (eqT L x (j + 1) = v + (if y = x then 1 else 0)) := Lib.hid (by rw [HV.out, hy]; exact eqT_next (by rw [← HLL.out]; exact hjl))
          have cy : wc.cell? ⟨g, j, none⟩ = some (.int .i64 y) := by rw [hy]; exact HC.out j hjl
          have hjx := fun W' => idxI64 (A := some ⟨g, 0, none⟩) (n := l) c1 rfl hjl W'
          simp only [Nat.zero_add] at hjx
          clear hy HU HV
          by_cases hyx : y < x
          · have d1 : decide (y < x) = true := decide_eq_true hyx
            have d2 : (y == x) = false := by simp; omega
            have HU2 : Hid (ltT L x (j + 1) = u + 1) := Lib.hid (by rw [HUN.out, if_pos hyx])
            have HV2 : Hid (eqT L x (j + 1) = v) := Lib.hid (by rw [HVN.out, if_neg (by omega), Nat.add_zero])
            clear HUN HVN hyx
            go_upto_region 19 with fail
            go_quiet (fail)
            go_upto_region 21 with fail
            go_quiet (fail)
            go_wp2_with fail
            go_roundw
            case rel => exact ⟨⟨_, rfl⟩, j + 1, by omega, by go_num, by rw [HU2.out]; try go_num, by rw [HV2.out]; try go_num⟩
            case measure => simp [intOf]; omega
          · have d1 : decide (y < x) = false := decide_eq_false hyx
            have HU2 : Hid (ltT L x (j + 1) = u) := Lib.hid (by rw [HUN.out, if_neg hyx, Nat.add_zero])
            by_cases he : y = x
            · have d2 : (y == x) = true := by simp; exact he
              have HV2 : Hid (eqT L x (j + 1) = v + 1) := Lib.hid (by rw [HVN.out, if_pos he])
              clear HUN HVN hyx he
              go_upto_region 19 with fail
              go_quiet (fail)
              go_upto_region 21 with fail
              go_quiet (fail)
              go_wp2_with fail
              go_roundw
              case rel => exact ⟨⟨_, rfl⟩, j + 1, by omega, by go_num, by rw [HU2.out]; try go_num, by rw [HV2.out]; try go_num⟩
              case measure => simp [intOf]; omega
            · have d2 : (y == x) = false := by simp; exact he
              have HV2 : Hid (eqT L x (j + 1) = v) := Lib.hid (by rw [HVN.out, if_neg he, Nat.add_zero])
              clear HUN HVN hyx he
              go_upto_region 19 with fail
              go_quiet (fail)
              go_upto_region 21 with fail
              go_quiet (fail)
              go_wp2_with fail
              go_roundw
              case rel => exact ⟨⟨_, rfl⟩, j + 1, by omega, by go_num, by rw [HU2.out]; try go_num, by rw [HV2.out]; try go_num⟩
              case measure => simp [intOf]; omega
        · obtain rfl : j = l := by omega
          have dj : decide ((j : Int) < (j : Int)) = false := decide_eq_false (by omega)
          have HUA : Hid (ltN L x = u) := Lib.hid (by rw [HU.out]; have := ltT_all L x; rw [← HLL.out] at this; exact this.symm)
          have HVA : Hid (leN L x = u + v) := Lib.hid (by rw [HU.out, HV.out]; have := eqT_all L x; rw [← HLL.out] at this; exact this.symm)
          clear HU HV
          by_cases c1' : u ≤ h
          · have d1 : decide (u ≤ h) = true := decide_eq_true c1'
            have d1i : decide ((u : Int) ≤ (h : Int)) = true := decide_eq_true (by omega)
            by_cases c2' : h < u + v
            · have d2 : decide (h < u + v) = true := decide_eq_true c2'
              have d2i : decide ((h : Int) < (u : Int) + (v : Int)) = true := decide_eq_true (by omega)
              have HRX : Hid (comM N q T = x) := Lib.hid (HR.out x (by rw [HUA.out]; exact c1') (by rw [HVA.out]; exact c2'))
              clear HUA HVA
              go_wp2_with fail
              go_ret
              exact ⟨by rw [HRX.out]; rfl, below_drewN HB.out _⟩
            · have d2 : decide (h < u + v) = false := decide_eq_false c2'
              have d2i : decide ((h : Int) < (u : Int) + (v : Int)) = false := decide_eq_false (by omega)
              have HNX : Hid (¬ (ltN L x ≤ h ∧ h < leN L x)) := Lib.hid (fun hc => c2' (by rw [← HVA.out]; exact hc.2))
              clear HUA HVA
              go_wp2_with fail
              go_roundw
              case rel =>
                refine ⟨⟨_, rfl⟩, i + 1, by omega, by go_num, Lib.hid fun t ht => ?_⟩
                by_cases e : t = i
                · rw [e, ← HX.out]; exact HNX.out
                · exact HN.out t (by omega)
              case measure => simp [intOf]; omega
          · have d1 : decide (u ≤ h) = false := decide_eq_false c1'
            have d1i : decide ((u : Int) ≤ (h : Int)) = false := decide_eq_false (by omega)
            have HNX : Hid (¬ (ltN L x ≤ h ∧ h < leN L x)) := Lib.hid (fun hc => c1' (by rw [← HUA.out]; exact hc.1))
            clear HUA HVA
            go_wp2_with fail
            go_roundw
            case rel =>
              refine ⟨⟨_, rfl⟩, i + 1, by omega, by go_num, Lib.hid fun t ht => ?_⟩
              by_cases e : t = i
              · rw [e, ← HX.out]; exact HNX.out
              · exact HN.out t (by omega)
            case measure => simp [intOf]; omega
    · obtain rfl : i = l := by omega
      exfalso
      obtain ⟨j, hj, h1, h2⟩ := HM.out
      exact HN.out j hj ⟨h1, h2⟩
end Go.Proofs.Ytcangipaoancnaa

