/-
  The contracts of bits.symbol, bits.turned, bits.Whole: what each returns, and that nothing that was there has turned. No condition but the slices' readings.
-/
import Derived.Test.YtpjcbfapkjipjaaSameS
namespace Go.Proofs.Ytpjcbfapkjipjaa
open Go.RowKit

theorem elem_syms : Try.prog.underlying 22 = some (.slice (Try.prog.elem 22)) := by kernel_rfl
theorem size_syms (w : World) : (sizeOf (Try.prog.elem 22)).run Try.prog w = .ok 1 w := by kernel_rfl
/-- A list of symbols, cut at both ends. -/
theorem cut_syms (b off n c : Nat) (l h : Int) (h0 : 0 ≤ l) (h1 : l ≤ h) (h2 : h ≤ c) (h3 : l < c) (w : World) :
    (Instr.slice 22 (.slice (some ⟨b, off, none⟩) n c) (some (.int .i64 l)) (some (.int .i64 h)) none).run Try.prog w = .ok (.slice (some ⟨b, off + l.toNat, none⟩) (h.toNat - l.toNat) (c - l.toNat)) w := by
  rw [run_slice_lh w 22 _ n c elem_syms .i64 .i64 l h h0 h1 h2, size_syms]
  simp only [Result.andThen, sliced]
  rw [if_neg (by omega)]
  simp [Addr.add_lit]

/-- A bit's symbol. -/
def symI (n : Int) : Int := if n % 2 = 1 then 2 else 1
def turnI (x : Int) : Int := if x = 1 then 2 else if x = 2 then 1 else x
def wholeB (x : Int) : Bool := x == 1 || x == 2
def wholeL (xs : List Int) : Bool := xs.all wholeB

theorem symbol_any (n : Int) (w : World) (h0 : 0 ≤ n) (h1 : n < 18446744073709551616) :
    Calls Try.prog 60 #[.int .u64 n] w fun e w' => e = .returned (.int .u8 (symI n)) ∧ w = w' := by
  have hand : bits BinOp.and IntKind.u64 n 1 = n % 2 := and_one_u64 n h0 (by omega)
  by_cases h : n % 2 = 1
  · have hb : (n % 2 == 1) = true := by simpa using h
    have hs := Lib.hid (show symI n = 2 by simp [symI, h])
    clear h
    go_enter Try.func60, Try.ntmps60
    go_wp2
    go_ret
    exact ⟨ret_int hs.out.symm, rfl⟩
  · have hb : (n % 2 == 1) = false := by simpa using h
    have hs := Lib.hid (show symI n = 1 by simp [symI, h])
    clear h
    go_enter Try.func60, Try.ntmps60
    go_wp2
    go_ret
    exact ⟨ret_int hs.out.symm, rfl⟩

theorem wholeL_snoc (xs : List Int) (k : Nat) (h : k < xs.length) : wholeL (xs.take (k + 1)) = (wholeL (xs.take k) && wholeB (xs.getD k 0)) := by
  unfold wholeL
  rw [List.take_succ_eq_append_getElem h, List.all_append, List.all_cons, List.all_nil, Bool.and_true, getD_at xs k h]
theorem wholeL_not (xs : List Int) (k : Nat) (h : k < xs.length) (h1 : wholeB (xs.getD k 0) = false) : wholeL xs = false := by
  rw [wholeL, List.all_eq_false]
  exact ⟨xs[k], List.getElem_mem h, by simpa [h] using h1⟩

theorem whole_any (A : Option Addr) (n c : Nat) (xs : List Int) (w : World) (hr : Lies .u8 w w.heap.size A n xs) (hn : n ≤ 65536) :
    Calls Try.prog 35 #[.slice A n c] w fun e w' => e = .returned (.bool (wholeL xs)) ∧ w = w' := by
  have hl := hr.len
  subst hl
  go_enter Try.func35, Try.ntmps35
  go_wp2
  go_loop [7] (fun i => ∃ k : Nat, k ≤ xs.length ∧ i = .int .i64 k ∧ Hid (wholeL (xs.take k) = true)) (fun i => xs.length - (intOf i).toNat)
  case atStart => exact ⟨0, Nat.zero_le _, rfl, Lib.hid rfl⟩
  case round =>
    obtain ⟨k, hk, rfl, hw⟩ := hrel
    by_cases hlt : k < xs.length
    · obtain ⟨b, off, rfl, hb, hc⟩ := hr.at_ (by omega)
      have hcell := hc k hlt
      clear hc
      obtain ⟨x, hx⟩ : ∃ x, x = xs.getD k 0 := ⟨_, rfl⟩
      rw [← hx] at hcell
      have hX := Lib.hid hx
      clear hx
      by_cases h1 : x = 1
      · have e1 : (x != 1) = false := by simp [h1]
        have hW := Lib.hid (show wholeB x = true by simp [wholeB, h1])
        clear h1
        go_wp2
        go_round
        case rel => exact ⟨k + 1, by omega, by go_num, Lib.hid (by rw [wholeL_snoc xs k hlt, hw.out, ← hX.out, hW.out]; rfl)⟩
        case measure => simp [intOf]; omega
      · have e1 : (x != 1) = true := by simp [h1]
        by_cases h2 : x = 2
        · have e2 : (x != 2) = false := by simp [h2]
          have hW := Lib.hid (show wholeB x = true by simp [wholeB, h2])
          clear h1 h2
          go_wp2
          go_round
          case rel => exact ⟨k + 1, by omega, by go_num, Lib.hid (by rw [wholeL_snoc xs k hlt, hw.out, ← hX.out, hW.out]; rfl)⟩
          case measure => simp [intOf]; omega
        · have e2 : (x != 2) = true := by simp [h2]
          have hW := Lib.hid (show wholeB x = false by simp [wholeB, h1, h2])
          clear h1 h2
          go_wp2
          go_ret
          exact ⟨ret_bool (wholeL_not xs k hlt (by rw [← hX.out]; exact hW.out)).symm, rfl⟩
    · go_wp2
      go_ret
      exact ⟨ret_bool (by have := hw.out; rw [List.take_of_length_le (by omega)] at this; exact this.symm), rfl⟩

end Go.Proofs.Ytpjcbfapkjipjaa
