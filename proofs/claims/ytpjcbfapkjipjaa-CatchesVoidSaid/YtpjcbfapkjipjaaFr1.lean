/-
  Words of package frames (a frame's numbers, whether it may be, its bytes, its tail's symbols), and the contracts of its small functions and of the reference's. No condition but those that are named.
-/
import Derived.Test.YtpjcbfapkjipjaaSumRefC
import Derived.Test.YtpjcbfapkjipjaaRefBytes
import Derived.Test.YtpjcbfapkjipjaaRefOf
import Derived.Test.YtpjcbfapkjipjaaSameB
import Derived.Test.YtpjcbfapkjipjaaKeep
namespace Go.Proofs.Ytpjcbfapkjipjaa
open Go.RowKit Crc

/-- A frame: owner, kind, station, seq, value. -/
structure Fr where
  o : Int
  k : Int
  s : Int
  q : Int
  v : Int
def Fr.zero : Fr := ⟨0, 0, 0, 0, 0⟩
/-- Its numbers are of their kinds. -/
structure Fr.Fit (f : Fr) : Prop where
  k0 : 0 ≤ f.k
  k1 : f.k ≤ 255
  s0 : 0 ≤ f.s
  s1 : f.s ≤ 255
  q0 : 0 ≤ f.q
  q1 : f.q < 4294967296
  v0 : 0 ≤ f.v
  v1 : f.v < 4294967296
/-- May there be such a frame? -/
def mayB (o k : Int) : Bool := decide (0 ≤ o) && decide (o < 8) && (k == 1 || k == 2)
theorem mayB_iff (o k : Int) : mayB o k = true ↔ 0 ≤ o ∧ o < 8 ∧ (k = 1 ∨ k = 2) := by simp [mayB, and_assoc]
/-- A tail's symbol, symbols. -/
def tsy (b : Bool) : Int := if b then 2 else 1
def tailL (a b : Bool) : List Int := [tsy a, tsy b]
/-- A frame's ten bytes ahead of their sum. -/
def Fr.body (f : Fr) : List Int := [16 * f.k + f.o, f.s] ++ four f.q ++ four f.v
theorem Fr.body_length (f : Fr) : f.body.length = 10 := rfl

theorem law5_of_any (f : Fr) (w : World) :
    Calls Try.prog 25 #[.int .i64 f.o, .agg #[.int .u8 f.k, .int .u8 f.s, .int .u32 f.q, .int .u32 f.v]] w fun e w' => e = .returned (.agg #[.int .i64 f.o, .int .u8 f.k, .int .u8 f.s, .int .u32 f.q, .int .u32 f.v]) ∧ Below w.heap.size w w' := by
  go_enter Try.func25, Try.ntmps25
  go_wp2_with fail
  refine bodyPost_ret (v := .agg #[.int .i64 f.o, .int .u8 f.k, .int .u8 f.s, .int .u32 f.q, .int .u32 f.v]) (by simp [results, Try.results25, go_sem]) rfl ⟨rfl, ?_⟩
  first | exact below_al (below_al (Below.refl _ _) _) _ | exact ((Below.refl _ _).alloc (Nat.le_refl _) _)

theorem mayBe_any (f : Fr) (w : World) :
    Calls Try.prog 46 #[.agg #[.int .i64 f.o, .int .u8 f.k, .int .u8 f.s, .int .u32 f.q, .int .u32 f.v]] w fun e w' => e = .returned (.bool (mayB f.o f.k)) ∧ Below w.heap.size w w' := by
  obtain ⟨o, k, s, q, v⟩ := f
  have hb := below_al (Below.refl w.heap.size w) (.cells #[.int .i64 o, .int .u8 k, .int .u8 s, .int .u32 q, .int .u32 v] 42)
  by_cases h0 : 0 ≤ o
  · by_cases h1 : o < 8
    · have h1' : o ≤ 7 := by omega
      by_cases h2 : k = 1
      · subst h2
        have HM := Lib.hid ((mayB_iff o 1).2 ⟨h0, h1, .inl rfl⟩)
        go_enter Try.func46, Try.ntmps46
        go_wp2_with fail
        go_ret
        exact ⟨ret_bool HM.out.symm, hb⟩
      · have h2' := beq_eq_false_iff_ne.2 h2
        have HM := Lib.hid (show (k == 2) = mayB o k by simp [mayB, h0, h1, h2])
        clear h2
        go_enter Try.func46, Try.ntmps46
        go_wp2_with fail
        go_ret
        exact ⟨ret_bool HM.out, hb⟩
    · have h1' : 8 ≤ o := by omega
      have HM := Lib.hid (show false = mayB o k by simp [mayB, h1])
      clear h1
      go_enter Try.func46, Try.ntmps46
      go_wp2_with fail
      go_ret
      exact ⟨ret_bool HM.out, hb⟩
  · have h0' : o < 0 := by omega
    have HM := Lib.hid (show false = mayB o k by simp [mayB, h0])
    clear h0
    go_enter Try.func46, Try.ntmps46
    go_wp2_with fail
    go_ret
    exact ⟨ret_bool HM.out, hb⟩

theorem refMay_any (f : Fr) (w : World) :
    Calls Try.prog 55 #[.agg #[.int .i64 f.o, .int .u8 f.k, .int .u8 f.s, .int .u32 f.q, .int .u32 f.v]] w fun e w' => e = .returned (.bool (mayB f.o f.k)) ∧ Below w.heap.size w w' := by
  obtain ⟨o, k, s, q, v⟩ := f
  have hb := below_al (Below.refl w.heap.size w) (.cells #[.int .i64 o, .int .u8 k, .int .u8 s, .int .u32 q, .int .u32 v] 46)
  by_cases h0 : 0 ≤ o
  · by_cases h1 : o < 8
    · have h1' : o ≤ 7 := by omega
      by_cases h2 : k = 1
      · subst h2
        have HM := Lib.hid ((mayB_iff o 1).2 ⟨h0, h1, .inl rfl⟩)
        go_enter Try.func55, Try.ntmps55
        go_wp2_with fail
        go_ret
        exact ⟨ret_bool HM.out.symm, hb⟩
      · have h2' := beq_eq_false_iff_ne.2 h2
        have HM := Lib.hid (show (k == 2) = mayB o k by simp [mayB, h0, h1, h2])
        clear h2
        go_enter Try.func55, Try.ntmps55
        go_wp2_with fail
        go_ret
        exact ⟨ret_bool HM.out, hb⟩
    · have h1' : 8 ≤ o := by omega
      have HM := Lib.hid (show false = mayB o k by simp [mayB, h1])
      clear h1
      go_enter Try.func55, Try.ntmps55
      go_wp2_with fail
      go_ret
      exact ⟨ret_bool HM.out, hb⟩
  · have h0' : o < 0 := by omega
    have HM := Lib.hid (show false = mayB o k by simp [mayB, h0])
    clear h0
    go_enter Try.func55, Try.ntmps55
    go_wp2_with fail
    go_ret
    exact ⟨ret_bool HM.out, hb⟩

theorem fourBytes_any (x : Int) (w : World) (h0 : 0 ≤ x) (h1 : x < 4294967296) :
    Calls Try.prog 59 #[.int .u32 x] w fun e w' => e = .returned (.slice (some ⟨w.heap.size, 0, none⟩) 4 4) ∧ w.alloc (.cells (cellsOf .u8 (four x)) 5) = w' := by
  have HC := Lib.hid (show cellsOf .u8 (four x) = #[.int .u8 (x / 16777216), .int .u8 (x / 65536 % 256), .int .u8 (x / 256 % 256), .int .u8 (x % 256)] from rfl)
  go_enter Try.func59, Try.ntmps59
  go_wp2_with fail
  go_ret
  exact ⟨rfl, by rw [HC.out]⟩

theorem tparts_any (a b : Bool) (w : World) :
    Calls Try.prog 39 #[.agg #[.bool a, .bool b]] w fun e w' => e = .returned (.agg #[.bool a, .bool b]) ∧ Below w.heap.size w w' := by
  go_enter Try.func39, Try.ntmps39
  go_wp2_with fail
  refine bodyPost_ret (v := .agg #[.bool a, .bool b]) (by simp [results, Try.results39, go_sem]) rfl ⟨rfl, ?_⟩
  exact below_al (below_al (Below.refl _ _) _) _

theorem arr2_eql (a b c d : Bool) (w : World) : (binOp .eql 85 (.agg #[.bool a, .bool b]) (.agg #[.bool c, .bool d])).run Try.prog w = .ok (.bool (a == c && b == d)) w := by
  cases a <;> cases b <;> cases c <;> cases d <;> kernel_rfl
theorem tail_eql (a b c d : Bool) (w : World) : (binOp .eql 55 (.agg #[.bool a, .bool b]) (.agg #[.bool c, .bool d])).run Try.prog w = .ok (.bool (a == c && b == d)) w := by
  cases a <;> cases b <;> cases c <;> cases d <;> kernel_rfl
theorem tail_neq (a b c d : Bool) (w : World) : (binOp .neq 55 (.agg #[.bool a, .bool b]) (.agg #[.bool c, .bool d])).run Try.prog w = .ok (.bool (!(a == c && b == d))) w := by
  cases a <;> cases b <;> cases c <;> cases d <;> kernel_rfl
theorem tgood_any (a b : Bool) (w : World) :
    Calls Try.prog 23 #[.agg #[.bool a, .bool b]] w fun e w' => e = .returned (.bool (a && !b)) ∧ Below w.heap.size w w' := by
  have hq := fun u => arr2_eql a b true false u
  go_enter Try.func23, Try.ntmps23
  go_wp2_with (go_at_call 39; (with_reducible refine (tparts_any a b _).mono ?_); rintro e w1 ⟨rfl, hb1⟩)
  go_ret
  exact ⟨ret_bool (by cases a <;> cases b <;> rfl), below_then (below_al (Below.refl _ _) _) hb1⟩

end Go.Proofs.Ytpjcbfapkjipjaa
