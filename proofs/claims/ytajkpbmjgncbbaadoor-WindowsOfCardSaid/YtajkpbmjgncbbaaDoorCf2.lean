/-
  The contracts of package configs' rules: each says what the mathematics says of the config, where the rules ahead of it that it counts on are kept. Conditions: the config's reading; the table of directions is as the program's text lays it.
-/
import Derived.Test.YtajkpbmjgncbbaaDoorCf1
import Derived.Test.YtajkpbmjgncbbaaDoorSeen
namespace Go.Proofs.YtajkpbmjgncbbaaDoor
open Go.RowKit Rg

theorem index_any (A : Option Addr) (n c : Nat) (xs : List Int) (x : Int) (w : World) (hx : Lies .i64 w w.heap.size A n xs) (hn : n ≤ 65536) :
    Calls Tryd.prog 64 #[.slice A n c, .int .i64 x] w fun e w' => (∃ y : Int, e = .returned (.int .i64 y) ∧ (0 ≤ y ↔ x ∈ xs)) ∧ w = w' := by
  have HL := Lib.hid hx.len
  go_enter Tryd.func64, Tryd.ntmps64
  go_wp2
  go_loop [8] (fun i => ∃ k : Nat, k ≤ n ∧ i = .int .i64 k ∧ Hid (¬ x ∈ xs.take k)) (fun i => n - (intOf i).toNat)
  case atStart => exact ⟨0, Nat.zero_le _, rfl, Lib.hid (by simp)⟩
  case round =>
    obtain ⟨k, hk, rfl, ht⟩ := hrel
    by_cases hlt : k < n
    · obtain ⟨b, off, rfl, hb, hc⟩ := hx.at_ (by omega)
      have hcell := hc k hlt
      clear hc
      have HS := Lib.hid (take_snoc xs k (by have := HL.out; omega))
      have HM := Lib.hid (show xs.getD k 0 ∈ xs by rw [getD_at _ _ (by have := HL.out; omega)]; exact List.getElem_mem _)
      obtain ⟨y, hy⟩ : ∃ y, y = xs.getD k 0 := ⟨_, rfl⟩
      rw [← hy] at hcell HS HM
      clear hy
      by_cases he : x = y
      · subst he
        go_wp2
        go_ret
        exact ⟨⟨k, rfl, by simp [HM.out]⟩, rfl⟩
      · have he' : (x == y) = false := by simpa using he
        have HE := Lib.hid he
        clear he
        go_wp2
        go_round
        case rel => exact ⟨k + 1, by omega, by go_num, Lib.hid (by rw [HS.out]; simp [ht.out, HE.out])⟩
        case measure => simp [intOf]; omega
    · have HX := Lib.hid (show ¬ x ∈ xs by have := ht.out; rwa [List.take_of_length_le (by have := HL.out; omega)] at this)
      go_wp2
      go_ret
      exact ⟨⟨-1, rfl, by simp [HX.out]⟩, rfl⟩
theorem contains_any (A : Option Addr) (n c : Nat) (xs : List Int) (x : Int) (b : Bool) (hb : decide (x ∈ xs) = b) (w : World) (hx : Lies .i64 w w.heap.size A n xs) (hn : n ≤ 65536) :
    Calls Tryd.prog 63 #[.slice A n c, .int .i64 x] w fun e w' => e = .returned (.bool b) ∧ w = w' := by
  have HB := Lib.hid hb
  clear hb
  go_enter Tryd.func63, Tryd.ntmps63
  go_wp2_with (go_at_call 64; (with_reducible refine (index_any A n c xs x w hx hn).mono ?_); rintro e w' ⟨⟨y, rfl, hy⟩, rfl⟩; have HY := Lib.hid hy; clear hy)
  go_ret
  refine ⟨ret_bool ?_, rfl⟩
  rw [← HB.out]
  exact decide_eq_decide.2 HY.out

theorem rule1_any (c : Cf) (w : World) :
    Calls Tryd.prog 48 #[.agg #[.int .i64 c.N, .slice c.pA c.pn c.pc, .slice c.sA c.sn c.sc, .int .i64 c.L, .slice c.bA c.bn c.bc, .slice c.tA c.tn c.tc, .int .i64 c.M, .int .i64 c.G, .int .i64 c.F]] w fun e w' => e = .returned (.int .i64 (wit 4 16 c.N)) ∧ Below w.heap.size w w' := by
  go_enter Tryd.func48, Tryd.ntmps48
  go_wp2_with (go_at_call 49; (with_reducible refine (within1 4 16 c.N _ _ _ (by simp)).mono ?_); rintro e w' ⟨rfl, rfl⟩)
  go_ret
  exact ⟨rfl, below_al (below_al (Below.refl _ _) _) _⟩
theorem rule2_any (c : Cf) (w : World) :
    Calls Tryd.prog 50 #[.agg #[.int .i64 c.N, .slice c.pA c.pn c.pc, .slice c.sA c.sn c.sc, .int .i64 c.L, .slice c.bA c.bn c.bc, .slice c.tA c.tn c.tc, .int .i64 c.M, .int .i64 c.G, .int .i64 c.F]] w fun e w' => e = .returned (.int .i64 (wit 2 8 c.pn)) ∧ Below w.heap.size w w' := by
  go_enter Tryd.func50, Tryd.ntmps50
  go_wp2_with (go_at_call 49; (with_reducible refine (within1 2 8 c.pn _ _ _ (by simp)).mono ?_); rintro e w' ⟨rfl, rfl⟩)
  go_ret
  exact ⟨rfl, below_al (below_al (Below.refl _ _) _) _⟩
theorem rule4_any (c : Cf) (w : World) :
    Calls Tryd.prog 52 #[.agg #[.int .i64 c.N, .slice c.pA c.pn c.pc, .slice c.sA c.sn c.sc, .int .i64 c.L, .slice c.bA c.bn c.bc, .slice c.tA c.tn c.tc, .int .i64 c.M, .int .i64 c.G, .int .i64 c.F]] w fun e w' => e = .returned (.int .i64 (wit 1 16 c.sn)) ∧ Below w.heap.size w w' := by
  go_enter Tryd.func52, Tryd.ntmps52
  go_wp2_with (go_at_call 49; (with_reducible refine (within1 1 16 c.sn _ _ _ (by simp)).mono ?_); rintro e w' ⟨rfl, rfl⟩)
  go_ret
  exact ⟨rfl, below_al (below_al (Below.refl _ _) _) _⟩
theorem rule8_any (c : Cf) (w : World) :
    Calls Tryd.prog 57 #[.agg #[.int .i64 c.N, .slice c.pA c.pn c.pc, .slice c.sA c.sn c.sc, .int .i64 c.L, .slice c.bA c.bn c.bc, .slice c.tA c.tn c.tc, .int .i64 c.M, .int .i64 c.G, .int .i64 c.F]] w fun e w' => e = .returned (.int .i64 (wit 0 8 c.tn)) ∧ Below w.heap.size w w' := by
  go_enter Tryd.func57, Tryd.ntmps57
  go_wp2_with (go_at_call 49; (with_reducible refine (within1 0 8 c.tn _ _ _ (by simp)).mono ?_); rintro e w' ⟨rfl, rfl⟩)
  go_ret
  exact ⟨rfl, below_al (below_al (Below.refl _ _) _) _⟩
theorem rule10_any (c : Cf) (w : World) :
    Calls Tryd.prog 59 #[.agg #[.int .i64 c.N, .slice c.pA c.pn c.pc, .slice c.sA c.sn c.sc, .int .i64 c.L, .slice c.bA c.bn c.bc, .slice c.tA c.tn c.tc, .int .i64 c.M, .int .i64 c.G, .int .i64 c.F]] w fun e w' => e = .returned (.int .i64 (witL 1 100 [c.M, c.G, c.F])) ∧ Below w.heap.size w w' := by
  go_enter Tryd.func59, Tryd.ntmps59
  go_wp2_with (go_at_call 49; (with_reducible refine (within3 1 100 c.M c.G c.F _ _ _ (by simp)).mono ?_); rintro e w' ⟨rfl, rfl⟩)
  go_ret
  exact ⟨rfl, below_al (below_al (Below.refl _ _) _) _⟩
theorem rule7_any (c : Cf) (w : World) (hc : CfIn w c) :
    Calls Tryd.prog 56 #[.agg #[.int .i64 c.N, .slice c.pA c.pn c.pc, .slice c.sA c.sn c.sc, .int .i64 c.L, .slice c.bA c.bn c.bc, .slice c.tA c.tn c.tc, .int .i64 c.M, .int .i64 c.G, .int .i64 c.F]] w fun e w' => e = .returned (.int .i64 (bootsE c.N c.bn c.B)) ∧ Below w.heap.size w w' := by
  by_cases h : (c.bn : Int) = c.N
  · have HE := Lib.hid (show bootsE c.N c.bn c.B = witL 0 4096 c.B by rw [bootsE, if_pos h])
    have hn := beq_iff_eq.2 h
    clear h
    go_enter Tryd.func56, Tryd.ntmps56
    go_wp2_with (go_at_call 49; (with_reducible refine (within_any 0 4096 _ c.bn c.bc c.B _ (hc.al _).b hc.few.2.2.1).mono ?_); rintro e w' ⟨rfl, rfl⟩)
    go_ret
    exact ⟨ret_int HE.out.symm, below_al (Below.refl _ _) _⟩
  · have HE := Lib.hid (show bootsE c.N c.bn c.B = 1 by rw [bootsE, if_neg h])
    have hn := beq_eq_false_iff_ne.2 h
    clear h
    go_enter Tryd.func56, Tryd.ntmps56
    go_wp2
    go_ret
    exact ⟨ret_int HE.out.symm, below_al (Below.refl _ _) _⟩
end Go.Proofs.YtajkpbmjgncbbaaDoor

