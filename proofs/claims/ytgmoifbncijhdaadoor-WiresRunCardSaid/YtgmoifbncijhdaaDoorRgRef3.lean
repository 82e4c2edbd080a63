/-
  The contracts of the document's answers for rings that leave memory alone, continued: Ends, Link, Source: what the mathematics says. Conditions: the numbers are of their kinds.
-/
import Derived.Test.YtgmoifbncijhdaaDoorRgRef2
namespace Go.Proofs.YtgmoifbncijhdaaDoor
open Go.RowKit Rg

set_option maxRecDepth 100000 in
theorem refEnds_any (n l : Int) (w : World) :
    Calls Tryd.prog 41 #[.int .i64 n, .int .i64 l] w fun e w' => e = .returned (.tuple #[.int .i64 (endFrom n l), .int .i64 (endTo n l), .int .u8 (endDir n l), .int .i64 (endHop n l)]) ∧ w = w' := by
  have hno : endB n l = false → endFrom n l = -1 ∧ endTo n l = -1 ∧ endDir n l = 0 ∧ endHop n l = 0 := fun hF => by simp [endFrom, endTo, endDir, endHop, hF]
  have HNo := Lib.hid hno
  clear hno
  by_cases h1 : n < 4
  · have HE := Lib.hid (HNo.out (bfalse (fun h => by have := end_iff.1 h; omega)))
    clear HNo
    go_enter Tryd.func41, Tryd.ntmps41
    go_wp2
    refine bodyPost_ret (v := .tuple #[.int .i64 (-1), .int .i64 (-1), .int .u8 0, .int .i64 0]) (by simp [results, Tryd.results41, go_sem]) rfl ?_
    obtain ⟨a1, a2, a3, a4⟩ := HE.out
    rw [a1, a2, a3, a4]
    exact ⟨rfl, rfl⟩
  · by_cases h2 : 16 < n
    · have HE := Lib.hid (HNo.out (bfalse (fun h => by have := end_iff.1 h; omega)))
      have c1 : decide (n < 4) = false := by simpa using h1
      clear HNo h1
      go_enter Tryd.func41, Tryd.ntmps41
      go_wp2
      refine bodyPost_ret (v := .tuple #[.int .i64 (-1), .int .i64 (-1), .int .u8 0, .int .i64 0]) (by simp [results, Tryd.results41, go_sem]) rfl ?_
      obtain ⟨a1, a2, a3, a4⟩ := HE.out
      rw [a1, a2, a3, a4]
      exact ⟨rfl, rfl⟩
    · have h1' : 4 ≤ n := by omega
      have h2' : n ≤ 16 := by omega
      have c1 : decide (n < 4) = false := by simpa using h1
      have c2 : decide (16 < n) = false := by simpa using h2
      clear h1 h2
      go_enter Tryd.func41, Tryd.ntmps41
      go_wp2_with fail
      clear c1 c2
      go_loop [8, 9] (fun s8 s9 => ∃ i k : Int, 0 ≤ i ∧ i ≤ n ∧ 0 ≤ k ∧ k ≤ 64 ∧ s9 = .int .i64 i ∧ s8 = .int .i64 k ∧ Hid (k = 4 * i) ∧ Hid (l < 0 ∨ k ≤ l)) (fun _ s9 => (n - intOf s9).toNat)
      case atStart => exact ⟨0, 0, by omega, by omega, by omega, by omega, rfl, rfl, Lib.hid rfl, Lib.hid (by omega)⟩
      case round =>
        obtain ⟨i, k, hi0, hi1, hk0, hk1, rfl, rfl, HK, HL⟩ := hrel
        by_cases hil : i < n
        · go_wp2_with fail
          go_loop [8, 10] (fun s8 s10 => ∃ d k : Int, 0 ≤ d ∧ d ≤ 2 ∧ 0 ≤ k ∧ k ≤ 64 ∧ s10 = .int .u8 d ∧ s8 = .int .i64 k ∧ Hid (k = 4 * i + 2 * d) ∧ Hid (l < 0 ∨ k ≤ l)) (fun _ s10 => (2 - intOf s10).toNat)
          case atStart => exact ⟨0, k, by omega, by omega, hk0, hk1, rfl, rfl, Lib.hid (by have := HK.out; omega), HL⟩
          case round =>
            clear hk0 hk1 HK HL
            obtain ⟨d, k, hd0, hd1, hk0, hk1, rfl, rfl, HK, HL⟩ := hrel
            by_cases hdl : d ≤ 1
            · go_wp2_with fail
              go_loop [8, 11] (fun s8 s11 => ∃ h k : Int, 1 ≤ h ∧ h ≤ 3 ∧ 0 ≤ k ∧ k ≤ 64 ∧ s11 = .int .i64 h ∧ s8 = .int .i64 k ∧ Hid (k = 4 * i + 2 * d + h - 1) ∧ Hid (l < 0 ∨ k ≤ l)) (fun _ s11 => (3 - intOf s11).toNat)
              case atStart => exact ⟨1, k, by omega, by omega, hk0, hk1, rfl, rfl, Lib.hid (by have := HK.out; omega), HL⟩
              case round =>
                clear hk0 hk1 HK HL
                obtain ⟨h, k, hh0, hh1, hk0, hk1, rfl, rfl, HK, HL⟩ := hrel
                by_cases hhl : h ≤ 2
                · by_cases hkl : k = l
                  · have c1 : (k == l) = true := by simpa using hkl
                    have hkk := HK.out
                    have hT : endB n l = true := end_iff.2 (by omega)
                    have HE := Lib.hid (show endFrom n l = i ∧ endTo n l = stepM n d i h ∧ endDir n l = d ∧ endHop n l = h by
                      have e1 : l / 4 = i := by omega
                      have e2 : l % 4 / 2 = d := by omega
                      have e3 : l % 2 + 1 = h := by omega
                      simp [endFrom, endTo, endDir, endHop, hT, e1, e2, e3])
                    have HS := Lib.hid (fun W => refStep_any n d i h W hd0 (by omega))
                    obtain ⟨z, ez⟩ : ∃ z, z = stepM n d i h := ⟨_, rfl⟩
                    rw [← ez] at HE HS
                    clear hkl hkk hT ez HK HL HNo
                    go_wp2_with (go_at_call 42; (with_reducible refine (HS.out _).mono ?_); rintro e w' ⟨rfl, rfl⟩)
                    refine bodyPost_ret (v := .tuple #[.int .i64 i, .int .i64 z, .int .u8 d, .int .i64 h]) (by simp [results, Tryd.results41, go_sem]) rfl ?_
                    obtain ⟨a1, a2, a3, a4⟩ := HE.out
                    rw [a1, a2, a3, a4]
                    exact ⟨rfl, rfl⟩
                  · have c1 : (k == l) = false := by simpa using hkl
                    have HKL := Lib.hid hkl
                    have hk63 : k ≤ 63 := by have := HK.out; omega
                    clear hkl
                    go_wp2_with fail
                    go_round
                    case rel => exact ⟨h + 1, k + 1, by omega, by omega, by omega, by omega, rfl, rfl, Lib.hid (by have := HK.out; omega), Lib.hid (by have := HL.out; have := HKL.out; omega)⟩
                    case measure => simp [intOf]; omega
                · go_wp2_with fail
                  go_round
                  case rel => exact ⟨d + 1, k, by omega, by omega, hk0, hk1, rfl, rfl, Lib.hid (by have := HK.out; omega), HL⟩
                  case measure => simp [intOf]; omega
            · go_wp2_with fail
              go_round
              case rel => exact ⟨i + 1, k, by omega, by omega, hk0, hk1, rfl, rfl, Lib.hid (by have := HK.out; omega), HL⟩
              case measure => simp [intOf]; omega
        · have HE := Lib.hid (HNo.out (bfalse (fun h => by have := end_iff.1 h; have := HK.out; have := HL.out; omega)))
          clear HNo HK HL
          go_wp2_with fail
          refine bodyPost_ret (v := .tuple #[.int .i64 (-1), .int .i64 (-1), .int .u8 0, .int .i64 0]) (by simp [results, Tryd.results41, go_sem]) rfl ?_
          obtain ⟨a1, a2, a3, a4⟩ := HE.out
          rw [a1, a2, a3, a4]
          exact ⟨rfl, rfl⟩

/-- A link is told by its sender, direction and hop. -/
theorem link_hit {n d x h k : Int} (hd : 0 ≤ d) (hk : 0 ≤ k) : (0 ≤ endFrom n k ∧ endFrom n k = x ∧ endDir n k = d ∧ endHop n k = h) ↔ linkM n d x h = k := by
  by_cases hT : endB n k = true
  · have hE := end_iff.1 hT
    simp only [endFrom, endDir, endHop, hT, if_true]
    constructor
    · rintro ⟨_, h1, h2, h3⟩
      rw [linkM, ex1.2 (by omega), hop_iff.2 (by omega)]
      simp only [Bool.and_self, if_true]
      omega
    · intro hl
      unfold linkM at hl
      split at hl
      · rename_i hc
        rw [Bool.and_eq_true] at hc
        have := ex1.1 hc.1
        have := hop_iff.1 hc.2
        omega
      · omega
  · have hF := bfalse hT
    constructor
    · rintro ⟨h0, _⟩
      rw [endFrom, hF] at h0
      simp at h0
    · intro hl
      unfold linkM at hl
      split at hl
      · rename_i hc
        rw [Bool.and_eq_true] at hc
        have := ex1.1 hc.1
        have := hop_iff.1 hc.2
        exact absurd (end_iff.2 (by omega)) hT
      · omega
theorem link_lt {n d x h : Int} (hd : 0 ≤ d) : linkM n d x h = -1 ∨ (0 ≤ linkM n d x h ∧ linkM n d x h < 64) := by
  unfold linkM
  split
  · rename_i hc
    rw [Bool.and_eq_true] at hc
    have := ex1.1 hc.1
    have := hop_iff.1 hc.2
    omega
  · omega
/-- The number of the link that leads to a node. -/
def srcK (n d x h : Int) : Int := if (exB n d [x] && hopB h) = true then 4 * sourceM n d x h + 2 * d + h - 1 else -1
theorem src_in {n d x h : Int} (hx : exB n d [x] = true) (hh : hopB h = true) : 0 ≤ sourceM n d x h ∧ sourceM n d x h < n := by
  have := ex1.1 hx
  rw [sourceM, if_pos hh]
  exact step_in _ (by omega)
theorem src_fwd {n d x h : Int} (hx : exB n d [x] = true) (hh : hopB h = true) : stepM n d (sourceM n d x h) h = x := by
  have := ex1.1 hx
  rw [sourceM, if_pos hh]
  have e := step_back (n := n) (d := d) (x := x) (-h) (by omega)
  rw [Int.neg_neg] at e
  exact e
theorem src_hit {n d x h k : Int} (hd : 0 ≤ d) (hk : 0 ≤ k) : (0 ≤ endFrom n k ∧ endTo n k = x ∧ endDir n k = d ∧ endHop n k = h) ↔ srcK n d x h = k := by
  by_cases hT : endB n k = true
  · have hE := end_iff.1 hT
    simp only [endFrom, endTo, endDir, endHop, hT, if_true]
    constructor
    · rintro ⟨_, h1, h2, h3⟩
      have hb := step_in (n := n) (d := k % 4 / 2) (x := k / 4) (k % 2 + 1) (by omega)
      have e := step_back (n := n) (d := k % 4 / 2) (x := k / 4) (k % 2 + 1) (by omega)
      rw [h1] at hb e
      rw [h2, h3] at e
      have hh : hopB h = true := hop_iff.2 (by omega)
      have hs : sourceM n d x h = k / 4 := by rw [sourceM, if_pos hh]; exact e
      rw [srcK, ex1.2 (by omega), hh, hs]
      simp only [Bool.and_self, if_true]
      omega
    · intro hl
      unfold srcK at hl
      split at hl
      · rename_i hc
        rw [Bool.and_eq_true] at hc
        have q1 := ex1.1 hc.1
        have q2 := hop_iff.1 hc.2
        have q3 := src_in hc.1 hc.2
        have q4 := src_fwd hc.1 hc.2
        have e1 : k / 4 = sourceM n d x h := by omega
        have e2 : k % 4 / 2 = d := by omega
        have e3 : k % 2 + 1 = h := by omega
        rw [e1, e2, e3]
        exact ⟨q3.1, q4, rfl, rfl⟩
      · omega
  · have hF := bfalse hT
    constructor
    · rintro ⟨h0, _⟩
      rw [endFrom, hF] at h0
      simp at h0
    · intro hl
      unfold srcK at hl
      split at hl
      · rename_i hc
        rw [Bool.and_eq_true] at hc
        have := ex1.1 hc.1
        have := hop_iff.1 hc.2
        have := src_in hc.1 hc.2
        exact absurd (end_iff.2 (by omega)) hT
      · omega
theorem src_lt {n d x h : Int} (hd : 0 ≤ d) : (srcK n d x h = -1 ∧ sourceM n d x h = -1) ∨ (0 ≤ srcK n d x h ∧ srcK n d x h < 64) := by
  unfold srcK
  split
  · rename_i hc
    rw [Bool.and_eq_true] at hc
    have := ex1.1 hc.1
    have := hop_iff.1 hc.2
    have := src_in hc.1 hc.2
    omega
  · rename_i hc
    left
    refine ⟨rfl, ?_⟩
    unfold sourceM
    split
    · rename_i hh
      rw [hh, Bool.and_true] at hc
      exact step_no _ (bfalse hc)
    · rfl
theorem src_from {n d x h k : Int} (hk : 0 ≤ k) (hs : srcK n d x h = k) (hd : 0 ≤ d) : endFrom n k = sourceM n d x h := by
  have hm := (src_hit (n := n) (d := d) (x := x) (h := h) hd hk).2 hs
  by_cases hT : endB n k = true
  · have hE := end_iff.1 hT
    unfold srcK at hs
    split at hs
    · rename_i hc
      rw [Bool.and_eq_true] at hc
      have := ex1.1 hc.1
      have := hop_iff.1 hc.2
      have := src_in hc.1 hc.2
      rw [endFrom, if_pos hT]
      omega
    · omega
  · have h0 := hm.1
    rw [endFrom, if_neg hT] at h0
    omega
end Go.Proofs.YtgmoifbncijhdaaDoor
