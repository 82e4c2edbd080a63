/-
  Package ages: what a clock shows. Conditions: the clock's reading; its ages are within their bounds.
-/
import Derived.Test.YtcangipaoancnaaAs1
import Derived.Test.YtcangipaoancnaaOpen
namespace Go.Proofs.Ytcangipaoancnaa
open Go.RowKit
set_option linter.unusedVariables false
set_option linter.unusedSimpArgs false

/-- The greatest of the first k ages, each as old as it is by now. -/
def shM (a : Nat → Int) (m : Nat) : Nat → Int
  | 0 => -1
  | k + 1 => if a k = -1 then shM a m k else max (shM a m k) (a k + ((m - 1 - k : Nat) : Int))
theorem shM_le {a : Nat → Int} {m : Nat} (ha : ∀ i, i < m → -1 ≤ a i ∧ a i ≤ 1099511627776) : ∀ k, k ≤ m → -1 ≤ shM a m k ∧ shM a m k ≤ 1099511627776 + (m : Int)
  | 0, _ => ⟨by simp [shM], by simp [shM]; omega⟩
  | k + 1, hk => by
    obtain ⟨h1, h2⟩ := shM_le ha k (by omega)
    obtain ⟨h3, h4⟩ := ha k (by omega)
    unfold shM
    split
    · exact ⟨h1, h2⟩
    · refine ⟨?_, ?_⟩ <;> omega
/-- Ages as they lie. -/
def LiesA (w : World) (A : Option Addr) (m : Nat) (a : Nat → Int) : Prop := 0 < m → ∃ g o, A = some ⟨g, o, none⟩ ∧ g < w.heap.size ∧ ∀ i, i < m → w.cell? ⟨g, o + i, none⟩ = some (.int .i64 (a i))
theorem LiesA.on {w w' : World} {A : Option Addr} {m : Nat} {a : Nat → Int} (h : LiesA w A m a) (b : Below w.heap.size w w') : LiesA w' A m a := fun hm => by
  obtain ⟨g, o, e, h1, h2⟩ := h hm
  exact ⟨g, o, e, Nat.lt_of_lt_of_le h1 b.size, fun i hi => (b.cell (p := ⟨g, _, none⟩) h1).trans (h2 i hi)⟩
set_option maxRecDepth 100000 in
theorem elemI64 : Try.prog.underlying 121 = some (.slice 2) := by kernel_rfl
set_option maxRecDepth 100000 in
theorem idxI64 {A : Option Addr} {n : Nat} (c : Nat) {k b off : Nat} (hA : A = some ⟨b, off, none⟩) (hk : k < n) (w : World) :
    (Instr.indexAt 121 (.slice A n c) (.int .i64 (k : Int))).run Try.prog w = .ok (.pointer (some ⟨b, off + k, none⟩)) w := by
  subst hA
  rw [run_indexAt_slice (h := elemI64), if_pos (by omega), show Try.prog.elem 121 = 2 by kernel_rfl, show (sizeOf 2).run Try.prog w = .ok 1 w by kernel_rfl]
  simp [Result.andThen, Addr.add_lit]
set_option maxRecDepth 100000 in
set_option maxHeartbeats 2000000 in
theorem shown_is (b : Nat) (A : Option Addr) (m c : Nat) (a : Nat → Int) (hm : m ≤ 65536) (w : World) (hB : Blk w b 123 #[.slice A m c]) (hL : LiesA w A m a) (ha : ∀ i, i < m → -1 ≤ a i ∧ a i ≤ 1099511627776) :
    Calls Try.prog 74 #[.pointer (some ⟨b, 0, none⟩)] w fun e w' => e = .returned (.int .i64 (orN (shM a m m))) ∧ w = w' := by
  have c0 : w.cell? ⟨b, 0, none⟩ = some (.slice A m c) := hB.cell 0
  have l0 := hB.lt
  have HON := Lib.hid fun z => orNone_is z w
  have HL := Lib.hid hL
  have HA := Lib.hid ha
  clear hL ha hB
  go_enter Try.func74, Try.ntmps74
  go_wp2_with fail
  go_loopw [12, 3, 4, 5, 6] (fun iv gv x4 x5 x6 wr => ∃ k : Nat, k ≤ m ∧ iv = .int .i64 (k : Int) ∧ gv = .int .i64 (shM a m k) ∧ wr = w) (fun iv _ _ _ _ _ => m - (intOf iv).toNat)
  case atStart => exact ⟨0, by omega, rfl, rfl, rfl⟩
  case round =>
    obtain ⟨k, hk, rfl, rfl, rfl⟩ := hrel
    obtain ⟨S, hS⟩ : ∃ S, S = shM a m k := ⟨_, rfl⟩
    have HS := Lib.hid hS
    have HSB := Lib.hid (shM_le HA.out k hk)
    rw [← hS] at HSB ⊢
    clear hS
    by_cases hlt : k < m
    · have dk : decide ((k : Int) < (m : Int)) = true := decide_eq_true (by omega)
      obtain ⟨g, o, rfl, lg, hc⟩ := HL.out (by omega)
      obtain ⟨x, hx⟩ : ∃ x, x = a k := ⟨_, rfl⟩
      have HX := Lib.hid hx
      have HXB := Lib.hid (HA.out k hlt)
      have ck := hc k hlt
      rw [← hx] at ck HXB
      have hix := fun W => idxI64 (A := some ⟨g, o, none⟩) (n := m) c rfl hlt W
      obtain ⟨d, hd⟩ : ∃ d, d = m - 1 - k := ⟨_, rfl⟩
      have HD := Lib.hid hd
      have e1 : (m : Int) - 1 - (k : Int) = (d : Int) := by omega
      have e0 : IntKind.i64.wrap ((m : Int) - 1) = (m : Int) - 1 := IntWalk.i64_in _ (by omega)
      have e2 : IntKind.i64.wrap (d : Int) = (d : Int) := IntWalk.i64_in _ (by omega)
      have e3 : IntKind.i64.wrap (x + (d : Int)) = x + (d : Int) := IntWalk.i64_in _ (by have := HXB.out; omega)
      clear hx hd hc
      by_cases h1 : x = -1
      · have d1 : (x != -1) = false := by simp [h1]
        have HZ : Hid (shM a m (k + 1) = S) := Lib.hid (by rw [HS.out]; show (if a k = -1 then _ else _) = _; rw [if_pos (by rw [← HX.out, h1])])
        clear h1
        go_wp2_with fail
        go_roundw
        case rel => exact ⟨k + 1, by omega, by go_num, by rw [HZ.out], by first | rfl | trivial⟩
        case measure => simp [intOf]; omega
      · have d1 : (x != -1) = true := by simp [h1]
        have HZ : Hid (shM a m (k + 1) = max S (x + (d : Int))) := Lib.hid (by rw [HS.out, HX.out, HD.out]; show (if a k = -1 then _ else _) = _; rw [if_neg (by rw [← HX.out]; exact h1)])
        clear h1
        go_wp2_with fail
        go_roundw
        case rel => exact ⟨k + 1, by omega, by go_num, by rw [HZ.out], by first | rfl | trivial⟩
        case measure => simp [intOf]; omega
    · obtain rfl : m = k := by omega
      have dk : decide ((m : Int) < (m : Int)) = false := decide_eq_false (by omega)
      go_wp2_with (go_at_call 94; (with_reducible refine (HON.out _).mono ?_); rintro e w1 ⟨rfl, rfl⟩)
      go_ret
      rw [← HS.out]
      exact ⟨rfl, rfl⟩
end Go.Proofs.Ytcangipaoancnaa

