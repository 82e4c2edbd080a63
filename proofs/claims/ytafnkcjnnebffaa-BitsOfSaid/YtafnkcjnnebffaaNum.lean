/-
  The contract of bits.Num: the number whose symbols these are, and true; 0 and false if they are not whole, or more than 64. Conditions: the slice's reading, a length of at most 65536.
-/
import Derived.Test.YtafnkcjnnebffaaTurn
namespace Go.Proofs.Ytafnkcjnnebffaa
open Go.RowKit

def numL (xs : List Int) : Int := xs.foldl (fun n x => 2 * n + (x - 1)) 0
theorem numL_snoc (xs : List Int) (k : Nat) (h : k < xs.length) : numL (xs.take (k + 1)) = 2 * numL (xs.take k) + (xs.getD k 0 - 1) := by
  unfold numL
  rw [List.take_succ_eq_append_getElem h, List.foldl_append, getD_at xs k h]
  rfl
theorem wholeL_at (xs : List Int) (k : Nat) (h : k < xs.length) (hw : wholeL xs = true) : xs.getD k 0 = 1 ∨ xs.getD k 0 = 2 := by
  rw [wholeL, List.all_eq_true] at hw
  have := hw xs[k] (List.getElem_mem h)
  rw [getD_at xs k h]
  simpa [wholeB] using this
theorem numL_bd (xs : List Int) (hw : wholeL xs = true) : ∀ k, k ≤ xs.length → 0 ≤ numL (xs.take k) ∧ numL (xs.take k) < 2 ^ k := by
  intro k
  induction k with
  | zero => intro _; simp [numL]
  | succ k ih =>
    intro h
    have h1 := ih (by omega)
    have h2 := wholeL_at xs k (by omega) hw
    rw [numL_snoc xs k (by omega), Int.pow_succ]
    omega
theorem or_low (n x : Int) (h0 : 0 ≤ n) (h1 : n < 9223372036854775808) (h2 : 0 ≤ x) (h3 : x ≤ 1) : bits .or .u64 (n * 2) x = 2 * n + x := by
  rw [u64_or _ _ (by omega) (by omega) h2 (by omega), nat_join 1 _ _ (by omega) (by omega)]
  omega
/-- What Num answers. -/
def numR (xs : List Int) : Int := if xs.length ≤ 64 ∧ wholeL xs = true then numL xs else 0
def numOk (xs : List Int) : Bool := decide (xs.length ≤ 64) && wholeL xs

theorem num_any (A : Option Addr) (n c : Nat) (xs : List Int) (w : World) (hx : Lies .u8 w w.heap.size A n xs) (hn : n ≤ 65536) :
    Calls Try.prog 25 #[.slice A n c] w fun e w' => e = .returned (.tuple #[.int .u64 (numR xs), .bool (numOk xs)]) ∧ w = w' := by
  have hl := Lib.hid hx.len
  by_cases h64 : n ≤ 64
  · by_cases hw : wholeL xs = true
    · go_enter Try.func25, Try.ntmps25
      have HW := Lib.hid hw
      go_wp2_with (go_at_call 20; refine (whole_any A n c xs _ hx hn).mono ?_; rintro e w' ⟨rfl, rfl⟩)
      clear hw
      go_loop [17, 4] (fun i v => ∃ k : Nat, k ≤ n ∧ i = .int .i64 k ∧ v = .int .u64 (numL (xs.take k))) (fun i _ => n - (intOf i).toNat)
      case atStart => exact ⟨0, Nat.zero_le _, rfl, rfl⟩
      case round =>
        obtain ⟨k, hk, rfl, rfl⟩ := hrel
        by_cases hlt : k < n
        · obtain ⟨b, off, rfl, hb, hc⟩ := hx.at_ (by omega)
          have hcell := hc k hlt
          clear hc
          have hS := Lib.hid (numL_snoc xs k (by rw [hl.out]; exact hlt))
          obtain ⟨hv0, hv1⟩ := numL_bd xs HW.out k (by rw [hl.out]; omega)
          have hv2 : numL (xs.take k) < 9223372036854775808 := Int.lt_of_lt_of_le hv1 (by
            have : (2 : Int) ^ k ≤ 2 ^ 63 := by exact_mod_cast Nat.pow_le_pow_right (by decide) (show k ≤ 63 by omega)
            exact this)
          clear hv1
          have hx12 := wholeL_at xs k (by rw [hl.out]; exact hlt) HW.out
          obtain ⟨x, hx1⟩ : ∃ x, x = xs.getD k 0 := ⟨_, rfl⟩
          obtain ⟨v, hv⟩ : ∃ v, v = numL (xs.take k) := ⟨_, rfl⟩
          rw [← hx1] at hcell hS hx12
          rw [← hv] at hv0 hv2 hS ⊢
          clear hx1 hv
          have hxa : 1 ≤ x := by omega
          have hxb : x ≤ 2 := by omega
          clear hx12
          go_wp2
          go_round
          case rel => exact ⟨k + 1, by omega, by go_num, by rw [hS.out, or_low v (x - 1) hv0 hv2 (by omega) (by omega)]⟩
          case measure => simp [intOf]; omega
        · have e : Hid (xs.take k = xs) := Lib.hid (List.take_of_length_le (by rw [hl.out]; omega))
          go_wp2
          go_ret2
          refine ⟨?_, rfl⟩
          rw [e.out, numR, if_pos ⟨by rw [hl.out]; exact h64, HW.out⟩, numOk, HW.out, hl.out]
          simp [h64]
    · have HW := Lib.hid hw
      have hw' : wholeL xs = false := by simpa using hw
      have e1 := Lib.hid (show numR xs = 0 by rw [numR, if_neg (fun h => HW.out h.2)])
      have e2 := Lib.hid (show numOk xs = false by rw [numOk, hw', Bool.and_false])
      clear hw
      go_enter Try.func25, Try.ntmps25
      go_wp2_with (go_at_call 20; refine (whole_any A n c xs _ hx hn).mono ?_; rintro e w' ⟨rfl, rfl⟩)
      go_ret2
      exact ⟨by rw [e1.out, e2.out]; rfl, rfl⟩
  · have hgt : (64 : Int) < (n : Int) := by omega
    have e1 := Lib.hid (show numR xs = 0 by rw [numR, if_neg (fun h => by rw [hl.out] at h; omega)])
    have e2 := Lib.hid (show numOk xs = false by rw [numOk, hl.out]; simp [h64])
    clear h64
    go_enter Try.func25, Try.ntmps25
    go_wp2
    go_ret2
    exact ⟨by rw [e1.out, e2.out]; rfl, rfl⟩
end Go.Proofs.Ytafnkcjnnebffaa
