/-
  The contracts of the document's answers for rings that leave memory alone: Is, other, next, Step, Distance, Place: what the mathematics says. Conditions: the numbers are of their kinds.
-/
import Derived.Test.YtajkpbmjgncbbaaDoorRgQ
import Derived.Test.YtajkpbmjgncbbaaDoorKinds
import Derived.IntWalk
namespace Go.Proofs.YtajkpbmjgncbbaaDoor
open Go.RowKit Rg

theorem refIs_any (n d : Int) (w : World) (hd : 0 ≤ d) (hd' : d ≤ 255) : Calls Tryd.prog 44 #[.int .i64 n, .int .u8 d] w fun e w' => e = .returned (.bool (isB n d)) ∧ w = w' := by
  by_cases h1 : 4 ≤ n
  · by_cases h2 : n ≤ 16
    · by_cases h3 : d < 2
      · have HF := Lib.hid (isB_iff.2 ⟨h1, h2, h3⟩)
        go_enter Tryd.func44, Tryd.ntmps44
        go_wp2
        go_ret
        exact ⟨ret_bool HF.out.symm, rfl⟩
      · have HF := Lib.hid (isB_not (n := n) (d := d) (by omega))
        have c : decide (d < 2) = false := by simpa using h3
        clear h3
        go_enter Tryd.func44, Tryd.ntmps44
        go_wp2
        go_ret
        exact ⟨ret_bool HF.out.symm, rfl⟩
    · have HF := Lib.hid (isB_not (n := n) (d := d) (by omega))
      have c : decide (n ≤ 16) = false := by simpa using h2
      clear h2
      go_enter Tryd.func44, Tryd.ntmps44
      go_wp2
      go_ret
      exact ⟨ret_bool HF.out.symm, rfl⟩
  · have HF := Lib.hid (isB_not (n := n) (d := d) (by omega))
    have c : decide (4 ≤ n) = false := by simpa using h1
    clear h1
    go_enter Tryd.func44, Tryd.ntmps44
    go_wp2
    go_ret
    exact ⟨ret_bool HF.out.symm, rfl⟩
theorem refIs_b (n d : Int) (b : Bool) (hb : isB n d = b) (w : World) (hd : 0 ≤ d) (hd' : d ≤ 255) : Calls Tryd.prog 44 #[.int .i64 n, .int .u8 d] w fun e w' => e = .returned (.bool b) ∧ w = w' := by
  subst hb; exact refIs_any n d w hd hd'

theorem next_any (n d i : Int) (w : World) (h1 : 4 ≤ n) (h2 : n ≤ 16) (hd : d = 0 ∨ d = 1) (h3 : 0 ≤ i) (h4 : i < n) :
    Calls Tryd.prog 45 #[.int .i64 n, .int .u8 d, .int .i64 i] w fun e w' => e = .returned (.int .i64 ((i + sg d 1) % n)) ∧ w = w' := by
  rcases hd with rfl | rfl
  · have HM := Lib.hid (mod_near n (i + 1) (by omega) (by omega))
    have HS := Lib.hid (sg0 1)
    by_cases hi : i = n - 1
    · have c : (i == n - 1) = true := by simpa using hi
      have HI := Lib.hid hi
      clear hi
      go_enter Tryd.func45, Tryd.ntmps45
      go_wp2
      go_ret
      exact ⟨ret_int (by rw [HS.out]; have := HM.out; have := HI.out; omega), rfl⟩
    · have c : (i == n - 1) = false := by simpa using hi
      have HI := Lib.hid hi
      clear hi
      go_enter Tryd.func45, Tryd.ntmps45
      go_wp2
      go_ret
      exact ⟨ret_int (by rw [HS.out]; have := HM.out; have := HI.out; omega), rfl⟩
  · have HM := Lib.hid (mod_near n (i + -1) (by omega) (by omega))
    have HS := Lib.hid (sg1 1)
    by_cases hi : i = 0
    · have c : (i == 0) = true := by simpa using hi
      have HI := Lib.hid hi
      clear hi
      go_enter Tryd.func45, Tryd.ntmps45
      go_wp2
      go_ret
      exact ⟨ret_int (by rw [HS.out]; have := HM.out; have := HI.out; omega), rfl⟩
    · have c : (i == 0) = false := by simpa using hi
      have HI := Lib.hid hi
      clear hi
      go_enter Tryd.func45, Tryd.ntmps45
      go_wp2
      go_ret
      exact ⟨ret_int (by rw [HS.out]; have := HM.out; have := HI.out; omega), rfl⟩

theorem node_next (n d a : Int) (k : Nat) : (nodeAt n d a k + sg d 1) % n = nodeAt n d a (k + 1) := by
  rw [nodeAt, nodeAt, Int.emod_add_emod, show ((k + 1 : Nat) : Int) = (k : Int) + 1 by omega, sg_add, Int.add_assoc]
theorem nextN (n d a : Int) (k : Nat) (w : World) (h1 : 4 ≤ n) (h2 : n ≤ 16) (hd : d = 0 ∨ d = 1) :
    Calls Tryd.prog 45 #[.int .i64 n, .int .u8 d, .int .i64 (nodeAt n d a k)] w fun e w' => e = .returned (.int .i64 (nodeAt n d a (k + 1))) ∧ w = w' := by
  have hb := nodeAt_in n d a k (by omega)
  rw [← node_next]
  exact next_any n d _ w h1 h2 hd hb.1 hb.2

/-- No such node, ring or direction. -/
theorem ex1_cases {n d x : Int} (h : exB n d [x] = false) : isB n d = false ∨ (isB n d = true ∧ x < 0) ∨ (isB n d = true ∧ 0 ≤ x ∧ n ≤ x) := by
  by_cases hb : isB n d = true
  · have := isB_iff.1 hb
    by_cases h0 : x < 0
    · exact .inr (.inl ⟨hb, h0⟩)
    · by_cases h1 : n ≤ x
      · exact .inr (.inr ⟨hb, by omega, h1⟩)
      · rw [ex1.2 (by omega)] at h; cases h
  · exact .inl (bfalse hb)

end Go.Proofs.YtajkpbmjgncbbaaDoor

