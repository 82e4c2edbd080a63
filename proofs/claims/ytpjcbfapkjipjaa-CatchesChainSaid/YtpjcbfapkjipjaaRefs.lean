/-
  The contracts of the reference's Whole, Num, bit, Put, Of and Bytes: they tell what package bits tells; nothing that was there has turned. Conditions: the slices' readings, lengths of at most 65536, numbers of 64 bits.
-/
import Derived.Test.YtpjcbfapkjipjaaMath
import Derived.Test.YtpjcbfapkjipjaaApp
namespace Go.Proofs.Ytpjcbfapkjipjaa
open Go.RowKit

theorem refWhole_any (A : Option Addr) (n c : Nat) (xs : List Int) (w : World) (hr : Lies .u8 w w.heap.size A n xs) (hn : n ≤ 65536) :
    Calls Try.prog 52 #[.slice A n c] w fun e w' => e = .returned (.bool (wholeL xs)) ∧ w = w' := by
  have hl := hr.len
  subst hl
  go_enter Try.func52, Try.ntmps52
  go_wp2_with fail
  go_loop [3] (fun i => ∃ k : Nat, k ≤ xs.length ∧ i = .int .i64 k ∧ Hid (wholeL (xs.take k) = true)) (fun i => xs.length - (intOf i).toNat)
  case atStart => exact ⟨0, Nat.zero_le _, rfl, Lib.hid rfl⟩
  case round =>
    obtain ⟨k, hk, rfl, hw⟩ := hrel
    by_cases hlt : k < xs.length
    · obtain ⟨b, off, rfl, hb, hc⟩ := hr.at_ (by omega)
      have hcell := hc k hlt
      clear hc
      obtain ⟨x, hx⟩ : ∃ x, x = xs.getD k 0 := ⟨_, rfl⟩
      rw [← hx] at hcell
      have hX := Lib.hid hx
      clear hx
      by_cases h1 : x = 1
      · have e1 : (x != 1) = false := by simp [h1]
        have hW := Lib.hid (show wholeB x = true by simp [wholeB, h1])
        clear h1
        go_wp2_with fail
        go_round
        case rel => exact ⟨k + 1, by omega, by go_num, Lib.hid (by rw [wholeL_snoc xs k hlt, hw.out, ← hX.out, hW.out]; rfl)⟩
        case measure => simp [intOf]; omega
      · have e1 : (x != 1) = true := by simp [h1]
        by_cases h2 : x = 2
        · have e2 : (x != 2) = false := by simp [h2]
          have hW := Lib.hid (show wholeB x = true by simp [wholeB, h2])
          clear h1 h2
          go_wp2_with fail
          go_round
          case rel => exact ⟨k + 1, by omega, by go_num, Lib.hid (by rw [wholeL_snoc xs k hlt, hw.out, ← hX.out, hW.out]; rfl)⟩
          case measure => simp [intOf]; omega
        · have e2 : (x != 2) = true := by simp [h2]
          have hW := Lib.hid (show wholeB x = false by simp [wholeB, h1, h2])
          clear h1 h2
          go_wp2_with fail
          go_ret
          exact ⟨ret_bool (wholeL_not xs k hlt (by rw [← hX.out]; exact hW.out)).symm, rfl⟩
    · go_wp2_with fail
      go_ret
      exact ⟨ret_bool (by have := hw.out; rw [List.take_of_length_le (by omega)] at this; exact this.symm), rfl⟩

theorem refNum_any (A : Option Addr) (n c : Nat) (xs : List Int) (w : World) (hx : Lies .u8 w w.heap.size A n xs) (hn : n ≤ 65536) :
    Calls Try.prog 53 #[.slice A n c] w fun e w' => e = .returned (.tuple #[.int .u64 (numR xs), .bool (numOk xs)]) ∧ w = w' := by
  have hl := Lib.hid hx.len
  by_cases h64 : n ≤ 64
  · by_cases hw : wholeL xs = true
    · go_enter Try.func53, Try.ntmps53
      have HW := Lib.hid hw
      go_wp2_with (go_at_call 52; refine (refWhole_any A n c xs _ hx hn).mono ?_; rintro e w' ⟨rfl, rfl⟩)
      clear hw
      go_loop [5, 4] (fun i v => ∃ k : Nat, k ≤ n ∧ i = .int .i64 k ∧ v = .int .u64 (numL (xs.take k))) (fun i _ => n - (intOf i).toNat)
      case atStart => exact ⟨0, Nat.zero_le _, rfl, rfl⟩
      case round =>
        obtain ⟨k, hk, rfl, rfl⟩ := hrel
        by_cases hlt : k < n
        · obtain ⟨b, off, rfl, hb, hc⟩ := hx.at_ (by omega)
          have hcell := hc k hlt
          clear hc
          have hS := Lib.hid (numL_snoc xs k (by rw [hl.out]; exact hlt))
          obtain ⟨hv0, hv1⟩ := numL_bd xs HW.out k (by rw [hl.out]; omega)
          have hv2 : numL (xs.take k) < 9223372036854775808 := Int.lt_of_lt_of_le hv1 (by
            have : (2 : Int) ^ k ≤ 2 ^ 63 := by exact_mod_cast Nat.pow_le_pow_right (by decide) (show k ≤ 63 by omega)
            exact this)
          clear hv1
          have hx12 := wholeL_at xs k (by rw [hl.out]; exact hlt) HW.out
          obtain ⟨x, hx1⟩ : ∃ x, x = xs.getD k 0 := ⟨_, rfl⟩
          obtain ⟨v, hv⟩ : ∃ v, v = numL (xs.take k) := ⟨_, rfl⟩
          rw [← hx1] at hcell hS hx12
          rw [← hv] at hv0 hv2 hS ⊢
          clear hx1 hv
          rcases hx12 with rfl | rfl
          · have h12 : ((1 : Int) == 2) = false := by decide
            go_wp2_with fail
            go_round
            case rel => exact ⟨k + 1, by omega, by go_num, by rw [hS.out]; go_num⟩
            case measure => simp [intOf]; omega
          · have h22 : ((2 : Int) == 2) = true := by decide
            go_wp2_with fail
            go_round
            case rel => exact ⟨k + 1, by omega, by go_num, by rw [hS.out]; go_num⟩
            case measure => simp [intOf]; omega
        · have e : Hid (xs.take k = xs) := Lib.hid (List.take_of_length_le (by rw [hl.out]; omega))
          go_wp2_with fail
          go_ret2
          refine ⟨?_, rfl⟩
          rw [e.out, numR, if_pos ⟨by rw [hl.out]; exact h64, HW.out⟩, numOk, HW.out, hl.out]
          simp [h64]
    · have HW := Lib.hid hw
      have hw' : wholeL xs = false := by simpa using hw
      have e1 := Lib.hid (show numR xs = 0 by rw [numR, if_neg (fun h => HW.out h.2)])
      have e2 := Lib.hid (show numOk xs = false by rw [numOk, hw', Bool.and_false])
      clear hw
      go_enter Try.func53, Try.ntmps53
      go_wp2_with (go_at_call 52; refine (refWhole_any A n c xs _ hx hn).mono ?_; rintro e w' ⟨rfl, rfl⟩)
      go_ret2
      exact ⟨by rw [e1.out, e2.out]; rfl, rfl⟩
  · have hgt : (64 : Int) < (n : Int) := by omega
    have e1 := Lib.hid (show numR xs = 0 by rw [numR, if_neg (fun h => by rw [hl.out] at h; omega)])
    have e2 := Lib.hid (show numOk xs = false by rw [numOk, hl.out]; simp [h64])
    clear h64
    go_enter Try.func53, Try.ntmps53
    go_wp2_with fail
    go_ret2
    exact ⟨by rw [e1.out, e2.out]; rfl, rfl⟩

theorem div_step (v : Int) (k : Nat) : v / 2 ^ k / 2 = v / 2 ^ (k + 1) := by
  rw [Int.pow_succ, Int.ediv_ediv_of_nonneg (Int.le_of_lt (Int.pow_pos (by decide)))]
end Go.Proofs.Ytpjcbfapkjipjaa
