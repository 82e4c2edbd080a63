/-
  Package ages: the contracts of its small functions, and the age and what a clock shows. Conditions: the clock's reading.
-/
import Derived.Test.YtcangipaoancnaaWdM
import Derived.Test.YtcangipaoancnaaLst
import Derived.Test.YtcangipaoancnaaMid
import Derived.Test.YtcangipaoancnaaBut
import Derived.Lib.MinMax
namespace Go.Proofs.Ytcangipaoancnaa
open Go.RowKit
set_option linter.unusedVariables false
set_option linter.unusedSimpArgs false

/-- Is it an age? -/
def agB (x : Int) : Bool := decide (0 ≤ x) && decide (x ≤ 1099511627776)
/-- The age, or none. -/
def orN (x : Int) : Int := if agB x = true then x else -1
/-- May there be so many nodes? -/
def nrB (x : Int) : Bool := decide (4 ≤ x) && decide (x ≤ 16)
theorem agesNumber_is (x : Int) (w : World) : Calls Try.prog 69 #[.int .i64 x] w fun e w' => e = .returned (.bool (nrB x)) ∧ w = w' := by
  by_cases h0 : 4 ≤ x <;> by_cases h1 : x ≤ 16
  all_goals
    have e0 : nrB x = (decide (4 ≤ x) && decide (x ≤ 16)) := rfl
    simp only [h0, h1, decide_true, decide_false, Bool.and_true, Bool.and_false] at e0
    have HE := Lib.hid e0
    clear e0
    go_enter Try.func69, Try.ntmps69
    go_wp2_with fail
    go_ret
    rw [HE.out]
    exact ⟨rfl, rfl⟩
theorem isAge_is (x : Int) (w : World) : Calls Try.prog 92 #[.int .i64 x] w fun e w' => e = .returned (.bool (agB x)) ∧ w = w' := by
  by_cases h0 : 0 ≤ x <;> by_cases h1 : x ≤ 1099511627776
  all_goals
    have e0 : agB x = (decide (0 ≤ x) && decide (x ≤ 1099511627776)) := rfl
    simp only [h0, h1, decide_true, decide_false, Bool.and_true, Bool.and_false] at e0
    have HE := Lib.hid e0
    clear e0
    go_enter Try.func92, Try.ntmps92
    go_wp2_with fail
    go_ret
    rw [HE.out]
    exact ⟨rfl, rfl⟩
theorem orNone_is (x : Int) (w : World) : Calls Try.prog 94 #[.int .i64 x] w fun e w' => e = .returned (.int .i64 (orN x)) ∧ w = w' := by
  obtain ⟨b, hb⟩ : ∃ b, b = agB x := ⟨_, rfl⟩
  have HC : Hid (Calls Try.prog 92 #[.int .i64 x] w fun e w' => e = .returned (.bool b) ∧ w = w') := Lib.hid (by rw [hb]; exact isAge_is x w)
  have HE : Hid (orN x = if b = true then x else -1) := Lib.hid (by rw [hb]; rfl)
  clear hb
  cases b with
  | true =>
    go_enter Try.func94, Try.ntmps94
    go_wp2_with (go_at_call 92; (with_reducible refine HC.out.mono ?_); rintro e w1 ⟨rfl, rfl⟩)
    go_ret
    rw [HE.out]
    exact ⟨rfl, rfl⟩
  | false =>
    go_enter Try.func94, Try.ntmps94
    go_wp2_with (go_at_call 92; (with_reducible refine HC.out.mono ?_); rintro e w1 ⟨rfl, rfl⟩)
    go_ret
    rw [HE.out]
    exact ⟨rfl, rfl⟩
/-- A clock's age, by how many it keeps. -/
def ageC (m : Nat) (x y : Int) : Int := if agB x = true then orN (x + (m : Int)) else orN y
set_option maxHeartbeats 1000000 in
theorem age_is (b : Nat) (A : Option Addr) (m c : Nat) (x y : Int) (hm : m ≤ 65536) (w : World) (hB : Blk w b 123 #[.slice A m c]) :
    Calls Try.prog 73 #[.pointer (some ⟨b, 0, none⟩), .int .i64 x, .int .i64 y] w fun e w' => e = .returned (.int .i64 (ageC m x y)) ∧ w = w' := by
  have c0 : w.cell? ⟨b, 0, none⟩ = some (.slice A m c) := hB.cell 0
  have l0 := hB.lt
  have HON := Lib.hid fun z => orNone_is z w
  obtain ⟨q, hq⟩ : ∃ b, b = agB x := ⟨_, rfl⟩
  have HC : Hid (Calls Try.prog 92 #[.int .i64 x] w fun e w' => e = .returned (.bool q) ∧ w = w') := Lib.hid (by rw [hq]; exact isAge_is x w)
  have HE : Hid (ageC m x y = if q = true then orN (x + (m : Int)) else orN y) := Lib.hid (by rw [hq]; rfl)
  have HQ : Hid (q = true → IntKind.i64.wrap (x + (m : Int)) = x + (m : Int)) := Lib.hid (fun h => by
    rw [hq] at h
    unfold agB at h
    simp at h
    exact IntWalk.i64_in _ (by omega))
  clear hq hB
  cases q with
  | true =>
    have hw := HQ.out rfl
    go_enter Try.func73, Try.ntmps73
    go_wp2_with (first
      | (go_at_call 92; (with_reducible refine HC.out.mono ?_); rintro e w1 ⟨rfl, rfl⟩)
      | (go_at_call 94; (with_reducible refine (HON.out _).mono ?_); rintro e w1 ⟨rfl, rfl⟩))
    go_ret
    rw [HE.out]
    exact ⟨rfl, rfl⟩
  | false =>
    go_enter Try.func73, Try.ntmps73
    go_wp2_with (first
      | (go_at_call 92; (with_reducible refine HC.out.mono ?_); rintro e w1 ⟨rfl, rfl⟩)
      | (go_at_call 94; (with_reducible refine (HON.out _).mono ?_); rintro e w1 ⟨rfl, rfl⟩))
    go_ret
    rw [HE.out]
    exact ⟨rfl, rfl⟩
end Go.Proofs.Ytcangipaoancnaa

