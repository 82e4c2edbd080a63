/-
  The law LinesVoid, walked: a line that is not there, or that no call made, carries nothing: true; nothing that was there has turned. Condition: none but the list's length as a number.
-/
import Derived.Test.YtlbpplibngdncaaLn3
import Derived.Test.YtlbpplibngdncaaLnI
namespace Go.Proofs.Ytlbpplibngdncaa
open Go.RowKit
set_option linter.unusedVariables false

theorem Blk.newAt' {u : World} {o : Obj} {g : Nat} {t : TypeId} {cs : Array Value} (hg : g = (u.alloc o).heap.size) : Blk ((u.alloc o).alloc (.cells cs t)) g t cs := by subst hg; exact Blk.new _ _ _
set_option maxRecDepth 100000 in
set_option maxHeartbeats 4000000 in
theorem linesVoid_walk (A : Option Addr) (n c : Nat) (xs : List Int) (w : World) (hl : Lies .i64 w w.heap.size A n xs) (hm : n ≤ maxLen) (hf : ∀ x ∈ xs, (Lit.int .i64 x).wf = true) :
    Calls Try.prog 4 #[.slice A n c] w fun e w' => e = .returned (.bool true) ∧ Below w.heap.size w w' := by
  clear hl hm hf
  by_cases hn : 100 < n
  · have hd : decide ((100 : Int) < (n : Int)) = true := decide_eq_true (by omega)
    go_enter Try.func4, Try.ntmps4
    go_wp2_with (go_at_call 7; (with_reducible refine (lives_ln _).mono ?_); rintro e u1 ⟨rfl, b1⟩)
    go_ret
    exact ⟨rfl, b1⟩
  · have hd : decide ((100 : Int) < (n : Int)) = false := decide_eq_false (by omega)
    go_enter Try.func4, Try.ntmps4
    go_wp2_with fail
    clear hd
    go_loopw [5] (fun i wr => ∃ j : Nat, j ≤ 2 ∧ i = .int .i64 j ∧ Blk wr w.heap.size 52 #[.int .i64 0, .int .i64 0, .int .i64 0, .bool false, .int .i64 0, .bool false] ∧ Blk wr (w.heap.size + 1) 24 #[.pointer none, .pointer (some ⟨w.heap.size, 0, none⟩)] ∧ Below w.heap.size w wr) (fun i _ => 2 - (intOf i).toNat)
    case atStart => exact ⟨0, by omega, rfl, Blk.alloc (Blk.new w _ _) _, Blk.newAt' (by simp), below_al (below_al (Below.refl _ _) _) _⟩
    case round =>
      obtain ⟨j, hj, rfl, hL, hV, hb⟩ := hrel
      by_cases hjl : j < 2
      · rcases Nat.lt_succ_iff_lt_or_eq.1 hjl with q | q
        · obtain rfl : j = 0 := by omega
          have hL0 : LnI wr w.heap.size 0 0 0 false 0 false := hL
          have hV0 := hV
          have c0 := hV0.cell 0
          simp only [List.getElem?_toArray, List.getElem?_cons_zero] at c0
          have l0 := hV0.lt
          have hix := fun W => idx1LinesI (n := 2) 2 (b := w.heap.size + 1) (off := 0) (k := 0) rfl hjl W
          simp only [Nat.zero_add, Int.natCast_zero] at hix
          clear hL hV
          go_wp2_with (first
            | (go_at_call 10; (with_reducible refine (hereI_nil wr).mono ?_); rintro e u1 ⟨rfl, a1⟩; have hL1 := LnI.on hL0 a1; have hV1 := hV0.on a1; clear c0 l0; have c1 := hV1.cell 0; have l1 := hV1.lt; simp only [List.getElem?_toArray, List.getElem?_cons_zero] at c1)
            | (go_at_call 18; (with_reducible refine (sendI_nil A n c u1).mono ?_); rintro e u2 ⟨rfl, a2⟩; have hL2 := LnI.on hL1 a2; have hV2 := hV1.on a2; clear c1 l1; have c2 := hV2.cell 0; have l2 := hV2.lt; simp only [List.getElem?_toArray, List.getElem?_cons_zero] at c2)
            | (go_at_call 20; (with_reducible refine (ticksI_nil u2).mono ?_); rintro e u3 ⟨rfl, a3⟩; have hL3 := LnI.on hL2 a3; have hV3 := hV2.on a3; clear c2 l2; have c3 := hV3.cell 0; have l3 := hV3.lt; simp only [List.getElem?_toArray, List.getElem?_cons_zero] at c3)
            | (go_at_call 13; (with_reducible refine (wayI_nil u3).mono ?_); rintro e u4 ⟨rfl, a4⟩; have hL4 := LnI.on hL3 a4; have hV4 := hV3.on a4; clear c3 l3; have c4 := hV4.cell 0; have l4 := hV4.lt; simp only [List.getElem?_toArray, List.getElem?_cons_zero] at c4))
          go_roundw
          case rel => exact ⟨1, by omega, by go_num, hL4, hV4, below_then hb (below_then a1 (below_then a2 (below_then a3 a4)))⟩
          case measure => simp [intOf]
        · subst q
          have hL0 : LnI wr w.heap.size 0 0 0 false 0 false := hL
          have hV0 := hV
          have c0 := hV0.cell 1
          simp only [List.getElem?_toArray, List.getElem?_cons_zero, List.getElem?_cons_succ] at c0
          have l0 := hV0.lt
          have hix := fun W => idx1LinesI (n := 2) 2 (b := w.heap.size + 1) (off := 0) (k := 1) rfl hjl W
          simp only [Nat.zero_add, Int.natCast_one] at hix
          clear hL hV
          go_wp2_with (first
            | (go_at_call 10; (with_reducible refine (hereI_any w.heap.size 0 0 0 false 0 false wr hL0).mono ?_); rintro e u1 ⟨rfl, a1⟩; have hL1 := LnI.on hL0 a1; have hV1 := hV0.on a1; clear c0 l0; have c1 := hV1.cell 1; have l1 := hV1.lt; simp only [List.getElem?_toArray, List.getElem?_cons_zero, List.getElem?_cons_succ] at c1)
            | (go_at_call 18; (with_reducible refine (sendI_void w.heap.size 0 0 false 0 false A n c u1 hL1).mono ?_); rintro e u2 ⟨rfl, a2⟩; have hL2 := LnI.on hL1 a2; have hV2 := hV1.on a2; clear c1 l1; have c2 := hV2.cell 1; have l2 := hV2.lt; simp only [List.getElem?_toArray, List.getElem?_cons_zero, List.getElem?_cons_succ] at c2)
            | (go_at_call 20; (with_reducible refine (ticksI_any w.heap.size 0 0 0 false 0 false u2 hL2).mono ?_); rintro e u3 ⟨rfl, a3⟩; have hL3 := LnI.on hL2 a3; have hV3 := hV2.on a3; clear c2 l2; have c3 := hV3.cell 1; have l3 := hV3.lt; simp only [List.getElem?_toArray, List.getElem?_cons_zero, List.getElem?_cons_succ] at c3)
            | (go_at_call 13; (with_reducible refine (wayI_none w.heap.size 0 0 0 false 0 u3 hL3).mono ?_); rintro e u4 ⟨rfl, a4⟩; have hL4 := LnI.on hL3 a4; have hV4 := hV3.on a4; clear c3 l3; have c4 := hV4.cell 1; have l4 := hV4.lt; simp only [List.getElem?_toArray, List.getElem?_cons_zero, List.getElem?_cons_succ] at c4))
          go_roundw
          case rel => exact ⟨2, by omega, by go_num, hL4, hV4, below_then hb (below_then a1 (below_then a2 (below_then a3 a4)))⟩
          case measure => simp [intOf]
      · have hjd : decide ((j : Int) < 2) = false := decide_eq_false (by omega)
        clear hL hV
        go_wp2_with (go_at_call 7; (with_reducible refine (lives_ln _).mono ?_); rintro e u2 ⟨rfl, c2⟩)
        go_ret
        exact ⟨rfl, below_then hb c2⟩
end Go.Proofs.Ytlbpplibngdncaa
