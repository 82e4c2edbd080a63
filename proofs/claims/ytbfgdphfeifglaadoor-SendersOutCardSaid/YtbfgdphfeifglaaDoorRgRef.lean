/-
  The contracts of the document's answers for rings that leave memory alone: Is, other, next, Step, Distance, Place: what the mathematics says. Conditions: the numbers are of their kinds.
-/
import Derived.Test.YtbfgdphfeifglaaDoorRgQ
import Derived.Test.YtbfgdphfeifglaaDoorKinds
import Derived.IntWalk
namespace Go.Proofs.YtbfgdphfeifglaaDoor
open Go.RowKit Rg

theorem refIs_any (n d : Int) (w : World) (hd : 0 ≤ d) (hd' : d ≤ 255) : Calls Tryd.prog 81 #[.int .i64 n, .int .u8 d] w fun e w' => e = .returned (.bool (isB n d)) ∧ w = w' := by
  by_cases h1 : 4 ≤ n
  · by_cases h2 : n ≤ 16
    · by_cases h3 : d < 2
      · have HF := Lib.hid (isB_iff.2 ⟨h1, h2, h3⟩)
        go_enter Tryd.func81, Tryd.ntmps81
        go_wp2
        go_ret
        exact ⟨ret_bool HF.out.symm, rfl⟩
      · have HF := Lib.hid (isB_not (n := n) (d := d) (by omega))
        have c : decide (d < 2) = false := by simpa using h3
        clear h3
        go_enter Tryd.func81, Tryd.ntmps81
        go_wp2
        go_ret
        exact ⟨ret_bool HF.out.symm, rfl⟩
    · have HF := Lib.hid (isB_not (n := n) (d := d) (by omega))
      have c : decide (n ≤ 16) = false := by simpa using h2
      clear h2
      go_enter Tryd.func81, Tryd.ntmps81
      go_wp2
      go_ret
      exact ⟨ret_bool HF.out.symm, rfl⟩
  · have HF := Lib.hid (isB_not (n := n) (d := d) (by omega))
    have c : decide (4 ≤ n) = false := by simpa using h1
    clear h1
    go_enter Tryd.func81, Tryd.ntmps81
    go_wp2
    go_ret
    exact ⟨ret_bool HF.out.symm, rfl⟩
theorem refIs_b (n d : Int) (b : Bool) (hb : isB n d = b) (w : World) (hd : 0 ≤ d) (hd' : d ≤ 255) : Calls Tryd.prog 81 #[.int .i64 n, .int .u8 d] w fun e w' => e = .returned (.bool b) ∧ w = w' := by
  subst hb; exact refIs_any n d w hd hd'

theorem other_any (d : Int) (w : World) (hd : d = 0 ∨ d = 1) : Calls Tryd.prog 82 #[.int .u8 d] w fun e w' => e = .returned (.int .u8 (1 - d)) ∧ w = w' := by
  rcases hd with rfl | rfl
  · go_enter Tryd.func82, Tryd.ntmps82
    go_wp2
    go_ret
    exact ⟨rfl, rfl⟩
  · go_enter Tryd.func82, Tryd.ntmps82
    go_wp2
    go_ret
    exact ⟨rfl, rfl⟩

theorem next_any (n d i : Int) (w : World) (h1 : 4 ≤ n) (h2 : n ≤ 16) (hd : d = 0 ∨ d = 1) (h3 : 0 ≤ i) (h4 : i < n) :
    Calls Tryd.prog 83 #[.int .i64 n, .int .u8 d, .int .i64 i] w fun e w' => e = .returned (.int .i64 ((i + sg d 1) % n)) ∧ w = w' := by
  rcases hd with rfl | rfl
  · have HM := Lib.hid (mod_near n (i + 1) (by omega) (by omega))
    have HS := Lib.hid (sg0 1)
    by_cases hi : i = n - 1
    · have c : (i == n - 1) = true := by simpa using hi
      have HI := Lib.hid hi
      clear hi
      go_enter Tryd.func83, Tryd.ntmps83
      go_wp2
      go_ret
      exact ⟨ret_int (by rw [HS.out]; have := HM.out; have := HI.out; omega), rfl⟩
    · have c : (i == n - 1) = false := by simpa using hi
      have HI := Lib.hid hi
      clear hi
      go_enter Tryd.func83, Tryd.ntmps83
      go_wp2
      go_ret
      exact ⟨ret_int (by rw [HS.out]; have := HM.out; have := HI.out; omega), rfl⟩
  · have HM := Lib.hid (mod_near n (i + -1) (by omega) (by omega))
    have HS := Lib.hid (sg1 1)
    by_cases hi : i = 0
    · have c : (i == 0) = true := by simpa using hi
      have HI := Lib.hid hi
      clear hi
      go_enter Tryd.func83, Tryd.ntmps83
      go_wp2
      go_ret
      exact ⟨ret_int (by rw [HS.out]; have := HM.out; have := HI.out; omega), rfl⟩
    · have c : (i == 0) = false := by simpa using hi
      have HI := Lib.hid hi
      clear hi
      go_enter Tryd.func83, Tryd.ntmps83
      go_wp2
      go_ret
      exact ⟨ret_int (by rw [HS.out]; have := HM.out; have := HI.out; omega), rfl⟩

theorem node_next (n d a : Int) (k : Nat) : (nodeAt n d a k + sg d 1) % n = nodeAt n d a (k + 1) := by
  rw [nodeAt, nodeAt, Int.emod_add_emod, show ((k + 1 : Nat) : Int) = (k : Int) + 1 by omega, sg_add, Int.add_assoc]
theorem nextN (n d a : Int) (k : Nat) (w : World) (h1 : 4 ≤ n) (h2 : n ≤ 16) (hd : d = 0 ∨ d = 1) :
    Calls Tryd.prog 83 #[.int .i64 n, .int .u8 d, .int .i64 (nodeAt n d a k)] w fun e w' => e = .returned (.int .i64 (nodeAt n d a (k + 1))) ∧ w = w' := by
  have hb := nodeAt_in n d a k (by omega)
  rw [← node_next]
  exact next_any n d _ w h1 h2 hd hb.1 hb.2

/-- No such node, ring or direction. -/
theorem ex1_cases {n d x : Int} (h : exB n d [x] = false) : isB n d = false ∨ (isB n d = true ∧ x < 0) ∨ (isB n d = true ∧ 0 ≤ x ∧ n ≤ x) := by
  by_cases hb : isB n d = true
  · have := isB_iff.1 hb
    by_cases h0 : x < 0
    · exact .inr (.inl ⟨hb, h0⟩)
    · by_cases h1 : n ≤ x
      · exact .inr (.inr ⟨hb, by omega, h1⟩)
      · rw [ex1.2 (by omega)] at h; cases h
  · exact .inl (bfalse hb)

set_option maxRecDepth 100000 in
theorem refStep_any (n d x s : Int) (w : World) (hd : 0 ≤ d) (hd' : d ≤ 255) :
    Calls Tryd.prog 50 #[.int .i64 n, .int .u8 d, .int .i64 x, .int .i64 s] w fun e w' => e = .returned (.int .i64 (stepM n d x s)) ∧ w = w' := by
  by_cases hex : exB n d [x] = true
  · obtain ⟨h1, h2, h3, h4, h5⟩ := ex1.1 hex
    have HI := Lib.hid (isB_iff.2 ⟨h1, h2, h3⟩)
    have HE := Lib.hid (step_of s ⟨h1, h2, h3, h4, h5⟩)
    have hr := tmod_bd s n (by omega)
    have HA := Lib.hid (add_tmod n x s)
    have HS := Lib.hid (sub_tmod n x s)
    obtain ⟨r, er⟩ : ∃ r, r = s.tmod n := ⟨_, rfl⟩
    rw [← er] at hr HA HS
    have hr1 : -n < r := hr.1
    have hr2 : r < n := hr.2
    have hrw := er.symm
    have HX := Lib.hid (fun d' => node0 n d' x ⟨h4, h5⟩)
    clear er hr hex
    have hdd : d = 0 ∨ d = 1 := by omega
    have c0 : decide (x < 0) = false := by simpa using h4
    have c1 : decide (n ≤ x) = false := by simpa using h5
    by_cases hneg : r < 0
    · have HO := Lib.hid (fun W => other_any d W hdd)
      go_enter Tryd.func50, Tryd.ntmps50
      go_wp2_with (first
        | (go_at_call 81; (with_reducible refine (refIs_b n d true HI.out _ hd hd').mono ?_); rintro e w' ⟨rfl, rfl⟩)
        | (go_at_call 82; (with_reducible refine (HO.out _).mono ?_); rintro e w' ⟨rfl, rfl⟩))
      clear hrw HO
      go_loop [2, 10] (fun s2 s10 => ∃ k : Nat, (k : Int) ≤ -r ∧ s10 = .int .i64 k ∧ s2 = .int .i64 (nodeAt n (1 - d) x k)) (fun _ s10 => (-r - intOf s10).toNat)
      case atStart => exact ⟨0, by omega, rfl, by rw [HX.out]⟩
      case round =>
        obtain ⟨k, hk, rfl, rfl⟩ := hrel
        by_cases hlt : (k : Int) < -r
        · have HNx := Lib.hid (fun W => nextN n (1 - d) x k W h1 h2 (by omega))
          obtain ⟨z, ez⟩ : ∃ z, z = nodeAt n (1 - d) x k := ⟨_, rfl⟩
          rw [← ez] at HNx ⊢
          clear ez
          go_wp2_with (go_at_call 83; (with_reducible refine (HNx.out _).mono ?_); rintro e w' ⟨rfl, rfl⟩)
          go_round
          case rel => exact ⟨k + 1, by omega, by go_num, rfl⟩
          case measure => simp [intOf]; omega
        · have HK := Lib.hid (show (k : Int) = -r by omega)
          have c2 : decide ((k : Int) < -r) = false := by simpa using hlt
          go_wp2_with fail
          go_ret
          refine ⟨ret_int ?_, rfl⟩
          rw [HE.out, nodeAt, HK.out]
          rcases hdd with rfl | rfl
          · rw [sg0, show (1 : Int) - 0 = 1 from rfl, sg1, Int.neg_neg]; exact HA.out
          · rw [sg1, show (1 : Int) - 1 = 0 from rfl, sg0, ← HS.out]; congr 1; omega
    · have c3 : decide (r < 0) = false := by simpa using hneg
      go_enter Tryd.func50, Tryd.ntmps50
      go_wp2_with (first
        | (go_at_call 81; (with_reducible refine (refIs_b n d true HI.out _ hd hd').mono ?_); rintro e w' ⟨rfl, rfl⟩))
      clear hrw
      go_loop [2, 10] (fun s2 s10 => ∃ k : Nat, (k : Int) ≤ r ∧ s10 = .int .i64 k ∧ s2 = .int .i64 (nodeAt n d x k)) (fun _ s10 => (r - intOf s10).toNat)
      case atStart => exact ⟨0, by omega, rfl, by rw [HX.out]⟩
      case round =>
        obtain ⟨k, hk, rfl, rfl⟩ := hrel
        by_cases hlt : (k : Int) < r
        · have HNx := Lib.hid (fun W => nextN n d x k W h1 h2 hdd)
          obtain ⟨z, ez⟩ : ∃ z, z = nodeAt n d x k := ⟨_, rfl⟩
          rw [← ez] at HNx ⊢
          clear ez
          go_wp2_with (go_at_call 83; (with_reducible refine (HNx.out _).mono ?_); rintro e w' ⟨rfl, rfl⟩)
          go_round
          case rel => exact ⟨k + 1, by omega, by go_num, rfl⟩
          case measure => simp [intOf]; omega
        · have HK := Lib.hid (show (k : Int) = r by omega)
          have c2 : decide ((k : Int) < r) = false := by simpa using hlt
          go_wp2_with fail
          go_ret
          refine ⟨ret_int ?_, rfl⟩
          rw [HE.out, nodeAt, HK.out]
          rcases hdd with rfl | rfl
          · rw [sg0, sg0]; exact HA.out
          · rw [sg1, sg1, ← HS.out]; congr 1; omega
  · have hex' : exB n d [x] = false := bfalse hex
    have HE := Lib.hid (step_no s hex')
    rcases ex1_cases hex' with h | ⟨h, h0⟩ | ⟨h, h0, h1⟩
    all_goals
      have HI := Lib.hid h
      clear h hex hex'
    · go_enter Tryd.func50, Tryd.ntmps50
      go_wp2_with (go_at_call 81; (with_reducible refine (refIs_b n d false HI.out _ hd hd').mono ?_); rintro e w' ⟨rfl, rfl⟩)
      go_ret
      exact ⟨ret_int HE.out.symm, rfl⟩
    · go_enter Tryd.func50, Tryd.ntmps50
      go_wp2_with (go_at_call 81; (with_reducible refine (refIs_b n d true HI.out _ hd hd').mono ?_); rintro e w' ⟨rfl, rfl⟩)
      go_ret
      exact ⟨ret_int HE.out.symm, rfl⟩
    · go_enter Tryd.func50, Tryd.ntmps50
      go_wp2_with (go_at_call 81; (with_reducible refine (refIs_b n d true HI.out _ hd hd').mono ?_); rintro e w' ⟨rfl, rfl⟩)
      go_ret
      exact ⟨ret_int HE.out.symm, rfl⟩
end Go.Proofs.YtbfgdphfeifglaaDoor

