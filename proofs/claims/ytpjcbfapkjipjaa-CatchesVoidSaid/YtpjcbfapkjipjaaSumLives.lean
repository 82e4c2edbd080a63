/-
  The contract of the law's helper lives (the chapter's examples): it returns true, and nothing that was there has turned. No condition.
-/
import Derived.Test.YtpjcbfapkjipjaaSumChk
import Derived.Test.YtpjcbfapkjipjaaSameB
import Derived.Lib.SlBytesConst
namespace Go.Proofs.Ytpjcbfapkjipjaa
open Go.RowKit Crc

theorem sumI_digits : sumI [49, 50, 51, 52, 53, 54, 55, 56, 57] = 4236843288 := by kernel_rfl
theorem sumI_nil : sumI [] = 0 := by kernel_rfl
theorem check_seven : checkB (putL [7]) = true := by kernel_rfl
theorem parts0 {w : World} : Parts w none 0 [] := ⟨rfl, by omega, fun i hi => absurd hi (Nat.not_lt_zero i), fun l h => by cases h⟩
theorem check_yes (A : Option Addr) (n c : Nat) (l : List Int) (w : World) (hx : Lies .u8 w w.heap.size A n l) (hb : ∀ x ∈ l, 0 ≤ x ∧ x ≤ 255) (hn : n ≤ 65536) (hcap : n ≤ c) (h : checkB l = true) :
    Calls Try.prog 44 #[.slice A n c] w fun e w' => ∃ g, e = .returned (.tuple #[.slice (some ⟨g, 0, none⟩) (n - 4) (n - 4), .bool true]) ∧ w.heap.size ≤ g ∧ Blk w' g 5 (cellsOf .u8 (l.take (n - 4))) ∧ Below w.heap.size w w' := by
  have h4 : 4 ≤ n := by rw [← hx.len]; simp [checkB] at h; exact h.1
  refine (check_long A n c l w hx hb hn hcap h4).mono fun e w' h1 => ?_
  rcases h1 with ⟨h2, _⟩ | ⟨_, h2⟩
  · rw [h] at h2; cases h2
  · exact h2
theorem check_no (A : Option Addr) (n c : Nat) (l : List Int) (w : World) (hx : Lies .u8 w w.heap.size A n l) (hb : ∀ x ∈ l, 0 ≤ x ∧ x ≤ 255) (hn : n ≤ 65536) (hcap : n ≤ c) (h : checkB l = false) :
    Calls Try.prog 44 #[.slice A n c] w fun e w' => e = .returned (.tuple #[.slice none 0 0, .bool false]) ∧ Below w.heap.size w w' := by
  rcases Nat.lt_or_ge n 4 with h4 | h4
  · refine (check_short A n c w h4).mono fun e w' h1 => ?_
    obtain ⟨h1, h2⟩ := h1
    subst h2
    exact ⟨h1, Below.refl _ _⟩
  · refine (check_long A n c l w hx hb hn hcap h4).mono fun e w' h1 => ?_
    rcases h1 with ⟨_, h2⟩ | ⟨h2, _⟩
    · exact h2
    · rw [h] at h2; cases h2
/-- One list, put. -/
theorem put1 (A : Option Addr) (n c : Nat) (l : List Int) (u : World) (hx : Lies .u8 u u.heap.size A n l) (hb : ∀ x ∈ l, 0 ≤ x ∧ x ≤ 255) (hn : n ≤ 65536) (N : Nat) (hN : n + 4 = N) (H : Nat) (hH : u.heap.size = H) :
    Calls Try.prog 58 #[.slice (some ⟨H, 0, none⟩) 1 1] (u.alloc (.cells #[.slice A n c] 79)) fun e w' => ∃ g, e = .returned (.slice (some ⟨g, 0, none⟩) N N) ∧ u.heap.size < g ∧ Blk w' g 5 (cellsOf .u8 (putL l)) ∧ Below u.heap.size u w' := by
  subst hH
  refine (sumPut_any _ 1 1 [l] _ (parts1 (c := c) hx hb hn)).mono fun e w' h => ?_
  obtain ⟨g, he, hg, hB, hb⟩ := h
  have hl := hx.len
  have hf : [l].flatten = l := by simp
  rw [hf] at he hB
  rw [hl, hN] at he
  exact ⟨g, he, by have : (u.alloc (.cells #[.slice A n c] 79)).heap.size = u.heap.size + 1 := alloc_size u _; omega, hB, (below_al (Below.refl _ _) _).trans (hb.mono (by simp))⟩
theorem of1 (A : Option Addr) (n c : Nat) (l : List Int) (u : World) (hx : Lies .u8 u u.heap.size A n l) (hb : ∀ x ∈ l, 0 ≤ x ∧ x ≤ 255) (hn : n ≤ 65536) (H : Nat) (hH : u.heap.size = H) :
    Calls Try.prog 56 #[.slice (some ⟨H, 0, none⟩) 1 1] (u.alloc (.cells #[.slice A n c] 79)) fun e w' => e = .returned (.int .u32 (sumI l)) ∧ Below u.heap.size u w' := by
  subst hH
  refine (sumOf_any _ 1 1 [l] _ (parts1 (c := c) hx hb hn)).mono fun e w' h => ?_
  obtain ⟨he, hb⟩ := h
  have hf : [l].flatten = l := by simp
  rw [hf] at he
  exact ⟨he, (below_al (Below.refl _ _) _).trans (hb.mono (by simp))⟩

end Go.Proofs.Ytpjcbfapkjipjaa
