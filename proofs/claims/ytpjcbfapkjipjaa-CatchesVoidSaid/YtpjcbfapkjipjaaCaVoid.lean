/-
  The law CatchesVoid: it returns true, and nothing that was there has turned. No condition.
-/
import Derived.Test.YtpjcbfapkjipjaaCa6
namespace Go.Proofs.Ytpjcbfapkjipjaa
open Go.RowKit Crc
set_option linter.unusedVariables false

theorem elemCat : Try.prog.underlying 58 = some (.slice (Try.prog.elem 58)) := by kernel_rfl
theorem idxCat {A : Option Addr} {n : Nat} (c : Nat) {k b : Nat} (hA : A = some ⟨b, 0, none⟩) (hk : k < n) (w : World) :
    (Instr.indexAt 58 (.slice A n c) (.int .i64 (k : Int))).run Try.prog w = .ok (.pointer (some ⟨b, k, none⟩)) w := by
  subst hA
  rw [run_indexAt_slice (h := elemCat), if_pos (by omega), show (sizeOf (Try.prog.elem 58)).run Try.prog w = .ok 1 w by kernel_rfl]
  simp [Result.andThen, Addr.add_lit]
theorem void_unl : (if (0 : Nat) = 0 then (-1 : Int) else ((0 : Nat) : Int)) = -1 := rfl
section
variable {g : Nat} {u : World} (h : Blk u g 57 (catZ .nilFunc).toArray)
include h
theorem void_high : Calls Try.prog 15 #[.pointer (some ⟨g, 0, none⟩)] u fun e w' => e = .returned (.tuple #[.agg #[.int .i64 0, .int .u8 0, .int .u8 0, .int .u32 0, .int .u32 0], .bool false]) ∧ Below u.heap.size u w' :=
  high_is (n := 0) (s := 0) h (List.length_replicate) false (by decide) Fr.zero rfl
theorem void_step (a d : Int) : Calls Try.prog 12 #[.pointer (some ⟨g, 0, none⟩), .int .u8 a, .int .u8 d] u fun e w' => e = .returned (.int .u8 0) ∧ u = w' :=
  step_none (n := 0) (s := 0) a d h
theorem void_had : Calls Try.prog 14 #[.pointer (some ⟨g, 0, none⟩)] u fun e w' => e = .returned (.int .i64 0) ∧ u = w' :=
  had_is (n := 0) (s := 0) h
theorem void_unlike : Calls Try.prog 18 #[.pointer (some ⟨g, 0, none⟩)] u fun e w' => e = .returned (.int .i64 (-1)) ∧ Below u.heap.size u w' :=
  unlike_is (n := 0) (s := 0) h (-1) rfl
end
theorem unlike_nilB (w : World) : Calls Try.prog 18 #[.pointer none] w fun e w' => e = .returned (.int .i64 (-1)) ∧ Below w.heap.size w w' :=
  (unlike_nil w).mono fun e w' ⟨h1, h2⟩ => ⟨h1, h2 ▸ Below.refl _ _⟩
set_option maxRecDepth 100000 in
set_option maxHeartbeats 4000000 in
theorem catchesVoid.catchesVoid_walk (x y : Int) (w : World) (hx : (Lit.int .u8 x).wf = true) (hy : (Lit.int .u8 y).wf = true) :
    Calls Try.prog 4 #[.int .u8 x, .int .u8 y] w fun e w' => e = .returned (.bool true) ∧ Below w.heap.size w w' := by
  clear hx hy
  have hq := fun W => fr_neq 0 0 0 0 0 0 0 0 0 0 W
  simp only [beq_self_eq_true, Bool.and_self, Bool.not_true] at hq
  have HZ := Lib.hid zero_cat
  have hB0 := Blk.new w 57 (catZ .nilFunc).toArray
  have hB := hB0.alloc (.cells #[.pointer none, .pointer (some ⟨w.heap.size, 0, none⟩)] 24)
  have hL := Blk.new (w.alloc (.cells (catZ .nilFunc).toArray 57)) 24 #[.pointer none, .pointer (some ⟨w.heap.size, 0, none⟩)]
  rw [alloc_size] at hL
  have hb := below_al (below_al (Below.refl w.heap.size w) (.cells (catZ .nilFunc).toArray 57)) (.cells #[.pointer none, .pointer (some ⟨w.heap.size, 0, none⟩)] 24)
  rw [← zero_cat] at hB hL hb
  clear hB0
  go_enter Try.func4, Try.ntmps4
  go_wp2_with fail
  go_loopw [7] (fun iv wr => ∃ i : Nat, i ≤ 2 ∧ iv = .int .i64 i ∧ Blk wr w.heap.size 57 (catZ .nilFunc).toArray ∧ Blk wr (w.heap.size + 1) 24 #[.pointer none, .pointer (some ⟨w.heap.size, 0, none⟩)] ∧ Below w.heap.size w wr) (fun iv _ => 2 - (intOf iv).toNat)
  case atStart =>
    rw [zero_cat] at hB hL hb ⊢
    exact ⟨0, by omega, rfl, hB, hL, hb⟩
  case round =>
    clear hB hL hb
    obtain ⟨i, hi, rfl, hB, hL, hb⟩ := hrel
    by_cases hlt : i < 2
    · have hlti : (i : Int) < 2 := by omega
      go_wp2_with fail
      go_loopw [8] (fun kv wr => ∃ k : Nat, k ≤ 3 ∧ kv = .int .i64 k ∧ Blk wr w.heap.size 57 (catZ .nilFunc).toArray ∧ Blk wr (w.heap.size + 1) 24 #[.pointer none, .pointer (some ⟨w.heap.size, 0, none⟩)] ∧ Below w.heap.size w wr) (fun kv _ => 3 - (intOf kv).toNat)
      case atStart => exact ⟨0, by omega, rfl, hB, hL, hb⟩
      case round =>
        clear hB hL hb
        obtain ⟨k, hk, rfl, hB, hL, hb⟩ := hrel
        by_cases hkt : k < 3
        · have hkti : (k : Int) < 3 := by omega
          rcases (show i = 0 ∨ i = 1 by omega) with rfl | rfl
          · rw [show ((0 : Nat) : Int) = 0 from rfl]
            have hcell := (hL.cell 0).trans (show _ = some (Value.pointer none) from rfl)
            have hll := hL.lt
            have hix := fun W => idxCat (n := 2) 2 (b := w.heap.size + 1) (k := 0) rfl (by omega) W
            rw [show ((0 : Nat) : Int) = 0 from rfl] at hix
            go_wp2_with (first
              | (go_at_call 15; (with_reducible refine (high_nil _).mono ?_); rintro e w1 ⟨rfl, b1⟩; have b1 := below_al b1 (.cells #[.int .i64 0, .int .u8 0, .int .u8 0, .int .u32 0, .int .u32 0] 42); have hB1 := hB.on b1; have hL1 := hL.on b1; have hN1 := Blk.new w1 42 #[.int .i64 0, .int .u8 0, .int .u8 0, .int .u32 0, .int .u32 0]; have hcell := (hL1.cell 0).trans (show _ = some (Value.pointer none) from rfl); have hll := hL1.lt)
              | (go_at_call 12; (with_reducible refine (step_nil x y _).mono ?_); rintro e w2 ⟨rfl, rfl⟩)
              | (go_at_call 14; (with_reducible refine (had_nil _).mono ?_); rintro e w3 ⟨rfl, rfl⟩)
              | (go_at_call 18; (with_reducible refine (unlike_nilB _).mono ?_); rintro e w4 ⟨rfl, b4⟩))
            go_roundw
            case rel => exact ⟨k + 1, by omega, by go_num, hB1.on b4, hL1.on b4, below_then (below_then hb b1) b4⟩
            case measure => simp [intOf]; omega
          · rw [show ((1 : Nat) : Int) = 1 from rfl]
            have hcell := (hL.cell 1).trans (show _ = some (Value.pointer (some ⟨w.heap.size, 0, none⟩)) from rfl)
            have hll := hL.lt
            have hix := fun W => idxCat (n := 2) 2 (b := w.heap.size + 1) (k := 1) rfl (by omega) W
            rw [show ((1 : Nat) : Int) = 1 from rfl] at hix
            go_wp2_with (first
              | (go_at_call 15; (with_reducible refine (void_high hB).mono ?_); rintro e w1 ⟨rfl, b1⟩; have b1 := below_al b1 (.cells #[.int .i64 0, .int .u8 0, .int .u8 0, .int .u32 0, .int .u32 0] 42); have hB1 := hB.on b1; have hL1 := hL.on b1; have hN1 := Blk.new w1 42 #[.int .i64 0, .int .u8 0, .int .u8 0, .int .u32 0, .int .u32 0]; have hcell := (hL1.cell 1).trans (show _ = some (Value.pointer (some ⟨w.heap.size, 0, none⟩)) from rfl); have hll := hL1.lt)
              | (go_at_call 12; (with_reducible refine (void_step hB1 x y).mono ?_); rintro e w2 ⟨rfl, rfl⟩)
              | (go_at_call 14; (with_reducible refine (void_had hB1).mono ?_); rintro e w3 ⟨rfl, rfl⟩)
              | (go_at_call 18; (with_reducible refine (void_unlike hB1).mono ?_); rintro e w4 ⟨rfl, b4⟩))
            go_roundw
            case rel => exact ⟨k + 1, by omega, by go_num, hB1.on b4, hL1.on b4, below_then (below_then hb b1) b4⟩
            case measure => simp [intOf]; omega
        · have hkti : (3 : Int) ≤ (k : Int) := by omega
          go_wp2_with fail
          go_roundw
          case rel => exact ⟨i + 1, by omega, by go_num, hB, hL, hb⟩
          case measure => simp [intOf]; omega
    · have hlti : (2 : Int) ≤ (i : Int) := by omega
      go_wp2_with (go_at_call 8; (with_reducible refine (lives_ca _).mono ?_); rintro e w9 ⟨rfl, b9⟩)
      go_ret
      exact ⟨rfl, below_then hb b9⟩
end Go.Proofs.Ytpjcbfapkjipjaa

