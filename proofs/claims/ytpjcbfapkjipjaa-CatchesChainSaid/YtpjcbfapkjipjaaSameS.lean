/-
  The contract of the law's SameSyms: whether the two lists are one; nothing that was there has turned. No condition but the slices' readings.
-/
import Derived.Test.YtpjcbfapkjipjaaLst
namespace Go.Proofs.Ytpjcbfapkjipjaa
open Go.RowKit
/-- SameSyms: the two lists are one. -/
theorem same_any (A B : Option Addr) (n m c d : Nat) (xs ys : List Int) (w : World) (hx : Lies .u8 w w.heap.size A n xs) (hy : Lies .u8 w w.heap.size B m ys) (hn : n ≤ 65536) (hm : m ≤ 65536) :
    Calls Try.prog 22 #[.slice A n c, .slice B m d] w fun e w' => e = .returned (.bool (xs == ys)) ∧ ∃ q, w' = w.drewN q := by
  have hl := hx.len
  have hl' := hy.len
  by_cases hnm : n = m
  · subst hnm
    go_enter Try.func22, Try.ntmps22
    go_wp2
    have HX := Lib.hid hl
    have HY := Lib.hid hl'
    clear hl hl'
    go_loopw [5] (fun i wr => ∃ k q : Nat, k ≤ n ∧ i = .int .i64 k ∧ wr = w.drewN q ∧ Hid (xs.take k = ys.take k)) (fun i _ => n - (intOf i).toNat)
    case atStart => exact ⟨0, 0, Nat.zero_le _, rfl, rfl, Lib.hid rfl⟩
    case round =>
      obtain ⟨k, q, hk, rfl, rfl, ht⟩ := hrel
      by_cases hlt : k < n
      · obtain ⟨b, off, rfl, hb, hc⟩ := hx.at_ (by omega)
        obtain ⟨b', off', rfl, hb', hc'⟩ := hy.at_ (by omega)
        have hcell := hc k hlt
        have hcell' := hc' k hlt
        clear hc hc'
        obtain ⟨x, hx1⟩ : ∃ x, x = xs.getD k 0 := ⟨_, rfl⟩
        obtain ⟨y, hy1⟩ : ∃ y, y = ys.getD k 0 := ⟨_, rfl⟩
        rw [← hx1] at hcell
        rw [← hy1] at hcell'
        have hX := Lib.hid hx1
        have hY := Lib.hid hy1
        clear hx1 hy1
        have hi0 : (0 : Int) ≤ (k : Int) := by omega
        have hi1 : (k : Int) < (n : Int) := by omega
        by_cases hxy : x = y
        · have e1 : (x != y) = false := by simp [hxy]
          have HE := Lib.hid hxy
          clear hxy
          go_wp2
          go_quiet (fail)
          go_wp2
          go_roundw
          case rel => exact ⟨k + 1, _, by omega, by go_num, rfl, Lib.hid (take_one xs ys k (by have := HX.out; omega) (by have := HY.out; omega) ht.out (by rw [← hX.out, ← hY.out]; exact HE.out))⟩
          case measure => simp [intOf]; omega
        · have e1 : (x != y) = true := by simp [hxy]
          have HE := Lib.hid hxy
          clear hxy
          go_wp2
          go_quiet (fail)
          go_wp2
          go_ret
          refine ⟨ret_bool (Eq.symm ?_), _, World.drewN_drewN _ _ _⟩
          rw [beq_eq_false_iff_ne]
          intro e
          exact HE.out (by rw [hX.out, hY.out, e])
      · go_wp2
        go_ret
        refine ⟨ret_bool (Eq.symm ?_), _, rfl⟩
        have h := ht.out
        rw [List.take_of_length_le (by have := HX.out; omega), List.take_of_length_le (by have := HY.out; omega)] at h
        simp [h]
  · have hne : ((n : Int) != (m : Int)) = true := by simp; omega
    have hF := Lib.hid (show (xs == ys) = false by rw [beq_eq_false_iff_ne]; intro e; subst e; omega)
    clear hnm hl hl'
    go_enter Try.func22, Try.ntmps22
    go_wp2
    go_ret
    exact ⟨ret_bool hF.out.symm, 0, rfl⟩

theorem same_true (A B : Option Addr) (n m c d : Nat) (xs ys : List Int) (w : World) (hx : Lies .u8 w w.heap.size A n xs) (hy : Lies .u8 w w.heap.size B m ys) (hn : n ≤ 65536) (hm : m ≤ 65536) (he : xs = ys) :
    Calls Try.prog 22 #[.slice A n c, .slice B m d] w fun e w' => e = .returned (.bool true) ∧ Below w.heap.size w w' :=
  (same_any A B n m c d xs ys w hx hy hn hm).mono fun e w' h => by
    obtain ⟨h1, q, h2⟩ := h
    subst h2
    exact ⟨by rw [h1, he]; simp, below_same q⟩
end Go.Proofs.Ytpjcbfapkjipjaa
