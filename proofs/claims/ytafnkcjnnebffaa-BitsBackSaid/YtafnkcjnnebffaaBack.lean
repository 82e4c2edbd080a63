/-
  The walk of the law BitsBack: it returns true, and nothing that was there has turned. Conditions: the slice's reading, bytes, a number of 64 bits, a place of 16 bits.
-/
import Derived.Test.YtafnkcjnnebffaaLives
import Derived.Test.YtafnkcjnnebffaaMath
import Derived.Test.YtafnkcjnnebffaaSameB
import Derived.Deep.Cut
import Derived.Deep.CutRange
namespace Go.Proofs.Ytafnkcjnnebffaa
open Go.RowKit

theorem manyN_nat (k : Nat) (h : k ≤ 64) : manyN (k : Int) = k := by unfold manyN; omega

set_option maxRecDepth 100000 in
theorem back_walk (A : Option Addr) (n c : Nat) (bs : List Int) (v : Int) (q : Nat) (w : World) (hx : Lies .u8 w w.heap.size A n bs) (hm : n ≤ maxLen) (hb : ∀ x ∈ bs, 0 ≤ x ∧ x ≤ 255) (hv0 : 0 ≤ v) (hv1 : v ≤ 18446744073709551615) (hq : q ≤ 65535) :
    Calls Try.prog 6 #[.slice A n c, .int .u64 v, .int .u16 q] w fun e w' => e = .returned (.bool true) ∧ Below w.heap.size w w' := by
  unfold maxLen at hm
  by_cases h500 : n ≤ 500
  · have HB := Lib.hid hb
    clear hb
    have hd : decide ((500 : Int) < (n : Int)) = false := by simp; omega
    go_enter Try.func6, Try.ntmps6
    go_wp2_with fail
    with_reducible refine (of_any _ _ _ _ _ hx HB.out (by omega)).mono ?_
    rintro e w1 ⟨g, rfl, hg, hB, hb⟩
    have hx1 := hx.on hb
    have hb1 := hb
    have hl1 := hB.lies (n := 8 * n) (by rw [ofL_length, hx.len])
    have HG := Lib.hid hg
    clear hb hx hg
    go_wp2_with fail
    with_reducible refine (bytes_yes _ _ _ _ _ hl1 (by omega) (bytesOk_ofL bs)).mono ?_
    rintro e w2 ⟨g2, rfl, _, hB2, hb⟩
    have hx2 := hx1.on hb
    have hl2 := hl1.on hb
    have hBs := hB.on hb
    have hb2 := below_then hb1 hb
    rw [bytesL_ofL bs HB.out] at hB2
    rw [show 8 * n / 8 = n by omega]
    have hlb := hB2.lies (n := n) hx2.len
    clear hb hx1 hb1 hl1 hB hB2
    have hne : ((8 * (n : Int)) != (8 * (n : Int))) = false := by simp
    go_wp2_with fail
    with_reducible refine (sameBytes_true _ _ _ _ _ _ _ _ _ hx2 hlb HB.out rfl).mono ?_
    rintro e w' ⟨rfl, rfl⟩
    go_wp2_with fail
    with_reducible refine (whole_any _ _ _ _ _ hl2 (by omega)).mono ?_
    rintro e w' ⟨rfl, rfl⟩
    rw [wholeL_ofL]
    clear hne hlb hx2
    go_wp2_with fail
    go_loopw [10] (fun i wr => ∃ k : Nat, k ≤ 65 ∧ i = .int .i64 k ∧ Below w2.heap.size w2 wr) (fun i _ => 65 - (intOf i).toNat)
    case atStart => exact ⟨0, Nat.zero_le _, rfl, Below.refl _ _⟩
    case round =>
      obtain ⟨k, hk, rfl, hbw⟩ := hrel
      by_cases hlt : k ≤ 64
      · have hki : (k : Int) ≤ 64 := by omega
        go_wp2_with fail
        with_reducible refine (put_any _ 0 0 [] v (k : Int) _ Lies.nil_ (by decide) hv0 (by omega)).mono ?_
        rintro e w3 ⟨g3, rfl, _, hB3, hb⟩
        have hb3 := below_then hbw hb
        rw [List.nil_append, manyN_nat k hlt] at hB3
        rw [manyN_nat k hlt, Nat.zero_add]
        have hl3 := hB3.lies (n := k) (by rw [putL_length])
        clear hb hB3 hbw
        go_wp2_with fail
        with_reducible refine (num_any _ _ _ _ _ hl3 (by omega)).mono ?_
        rintro e w' ⟨rfl, rfl⟩
        rw [numR_putL v k hlt, numOk_putL v k hlt]
        clear hl3
        by_cases hk64 : k = 64
        · subst hk64
          rw [show v % 2 ^ 64 = v from Int.emod_eq_of_lt hv0 (by omega)]
          have hvv : (v != v) = false := by simp
          go_wp2_with fail
          go_roundw
          case rel => exact ⟨65, by omega, rfl, hb3⟩
          case measure => simp [intOf]
        · have hklt : (k : Int) < 64 := by omega
          have hkn : ((k : Int) == 64) = false := by simp; omega
          have hpw : IntKind.u64.wrap (2 ^ k) = 2 ^ k := by
            rw [IntKind.wrap_u64, Int.emod_eq_of_lt (Int.le_of_lt (Int.pow_pos (by decide)))]
            have : (2 : Int) ^ k < 2 ^ 64 := by exact_mod_cast Nat.pow_lt_pow_right (by decide) (show k < 64 by omega)
            exact this
          have hpp : ¬ (2 : Int) ^ k = 0 := by have : (0 : Int) < 2 ^ k := Int.pow_pos (by decide); omega
          have hvv : (v % 2 ^ k != v % 2 ^ k) = false := by simp
          go_wp2_with fail
          go_roundw
          case rel => exact ⟨k + 1, by omega, by go_num, hb3⟩
          case measure => simp [intOf]; omega
      · have hgt : (64 : Int) < (k : Int) := by omega
        have hb4 := below_then hb2 hbw
        have hl4 := hl2.on hbw
        have hB4 := hBs.on hbw
        clear hb2 hbw hl2 hBs
        rcases Nat.eq_zero_or_pos n with h0 | h0
        · subst h0
          go_wp2_with (go_at_call 9; refine (lives_any _).mono ?_; rintro e w5 ⟨rfl, hb⟩)
          go_ret
          exact ⟨rfl, below_then hb4 hb⟩
        · have hn0 : ((8 * (n : Int)) == 0) = false := by simp; omega
          have hn1 : (0 : Int) < 8 * (n : Int) := by omega
          have hi : q % (8 * n) < 8 * n := Nat.mod_lt _ (by omega)
          have hil : q % (8 * n) < (ofL bs).length := by rw [hl4.len]; exact hi
          have e1 : (q : Int) % (8 * (n : Int)) = ((q % (8 * n) : Nat) : Int) := by rw [Int.natCast_emod]; rfl
          have hc1 := (hB4.cell (q % (8 * n))).trans (cellsOf_at _ _ _ hil)
          have hf1 := hB4.frozen (q % (8 * n))
          have hnew := hB4.set_ (q % (8 * n)) (.int .u8 0)
          rw [cellsOf_set] at hnew
          have HN := Lib.hid hnew
          clear hnew
          revert hi hil e1 hc1 hf1 HN
          generalize q % (8 * n) = i
          intro hi hil e1 hc1 hf1 HN
          have hii : (i : Int) < 8 * (n : Int) := by omega
          go_wp2_with fail
          rw [e1]
          have hB5 := HN.out
          have hb5 := hb4.setCell (p := ⟨g, i, none⟩) HG.out (.int .u8 0)
          have hlen := Lib.hid (show ((ofL bs).set i 0).length = 8 * n by rw [List.length_set, hl4.len])
          have hwf := Lib.hid (wholeL_set0 (ofL bs) i hil)
          have hci := hB5.cell i
          rw [cellsOf_at _ _ _ (by simpa using hil), getD_at _ _ (by simpa using hil), List.getElem_set_self] at hci
          clear hb4 hl4 hB4 HN hc1 hf1 hil e1
          revert hB5 hb5 hci
          generalize wr.setCell ⟨g, i, none⟩ (.int .u8 0) = w5
          intro hB5 hb5 hci
          have hl5 := hB5.lies hlen.out
          with_reducible refine (bytes_no _ _ _ _ _ hl5 (by omega) (by rw [bytesOk, hwf.out, Bool.and_false])).mono ?_
          rintro e w' ⟨rfl, rfl⟩
          have hl6 : Lies .u8 w5 w5.heap.size (some ⟨g, i, none⟩) 1 [0] := ⟨rfl, fun _ => ⟨g, i, rfl, hB5.lt, fun j hj => by
            obtain rfl : j = 0 := by omega
            exact hci⟩⟩
          have hsl : ∀ W : World, (Instr.sliceAt 23 (.slice (some ⟨g, 0, none⟩) (8 * n) (8 * n)) (some (.int .i64 (i : Int))) (some (.int .i64 ((i : Int) + 1))) none).run Try.prog W = .ok (.slice (some ⟨g, i, none⟩) 1 (8 * n - i)) W := fun W => by
            have h := cut_syms g 0 (8 * n) (8 * n) (i : Int) ((i : Int) + 1) (by omega) (by omega) (by omega) (by omega) W
            rw [Nat.zero_add, Int.toNat_natCast, show ((i : Int) + 1).toNat - i = 1 by omega] at h
            rw [run_sliceAt_slice W _ _ _ _ _ elem_syms]
            exact h
          clear hB5 hci
          go_wp2_with fail
          with_reducible refine (num_any _ _ _ _ _ hl6 (by omega)).mono ?_
          rintro e w' ⟨rfl, rfl⟩
          rw [show numOk [0] = false by decide]
          have h00 : ((0 : Int) == 0) = true := by simp
          go_wp2_with fail
          with_reducible refine (whole_any _ _ _ _ _ hl5 (by omega)).mono ?_
          rintro e w' ⟨rfl, rfl⟩
          rw [hwf.out]
          go_wp2_with fail
          with_reducible refine (lives_any _).mono ?_
          rintro e w6 ⟨rfl, hb⟩
          go_wp2_with fail
          go_ret
          exact ⟨rfl, below_then hb5 hb⟩
  · have hgt : (500 : Int) < (n : Int) := by omega
    clear hb
    go_enter Try.func6, Try.ntmps6
    go_wp2_with (go_at_call 9; refine (lives_any _).mono ?_; rintro e w1 ⟨rfl, hb⟩)
    go_ret
    exact ⟨rfl, hb⟩

theorem bitsBack.bitsBack_walk (A : Option Addr) (n c : Nat) (xs : List Int) (v q : Int) (w : World) (hx : Lies .u8 w w.heap.size A n xs) (hm : n ≤ maxLen) (hb : ∀ x ∈ xs, (Lit.int .u8 x).wf = true) (hv : (Lit.int .u64 v).wf = true) (hq : (Lit.int .u16 q).wf = true) :
    Calls Try.prog 6 #[.slice A n c, .int .u64 v, .int .u16 q] w fun e w' => e = .returned (.bool true) ∧ Below w.heap.size w w' := by
  have h1 := bounds_u64 hv
  have h2 := bounds_u16 hq
  obtain ⟨qn, rfl⟩ : ∃ qn : Nat, q = qn := ⟨q.toNat, by omega⟩
  exact back_walk A n c xs v qn w hx hm (fun x hx => bounds_u8 (hb x hx)) h1.1 h1.2 (by omega)
end Go.Proofs.Ytafnkcjnnebffaa
