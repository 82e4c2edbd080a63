/-
  The contract of the law's helper lives (the chapter's examples): it returns true, and nothing that was there has turned. No condition.
-/
import Derived.Test.YtnilchcgjiachaaSumChk
import Derived.Test.YtnilchcgjiachaaSameB
import Derived.Lib.SlBytesConst
namespace Go.Proofs.Ytnilchcgjiachaa
open Go.RowKit Crc

theorem sumI_digits : sumI [49, 50, 51, 52, 53, 54, 55, 56, 57] = 4236843288 := by kernel_rfl
theorem sumI_nil : sumI [] = 0 := by kernel_rfl
theorem check_seven : checkB (putL [7]) = true := by kernel_rfl
theorem parts0 {w : World} : Parts w none 0 [] := ⟨rfl, by omega, fun i hi => absurd hi (Nat.not_lt_zero i), fun l h => by cases h⟩
theorem check_yes (A : Option Addr) (n c : Nat) (l : List Int) (w : World) (hx : Lies .u8 w w.heap.size A n l) (hb : ∀ x ∈ l, 0 ≤ x ∧ x ≤ 255) (hn : n ≤ 65536) (hcap : n ≤ c) (h : checkB l = true) :
    Calls Try.prog 18 #[.slice A n c] w fun e w' => ∃ g, e = .returned (.tuple #[.slice (some ⟨g, 0, none⟩) (n - 4) (n - 4), .bool true]) ∧ w.heap.size ≤ g ∧ Blk w' g 5 (cellsOf .u8 (l.take (n - 4))) ∧ Below w.heap.size w w' := by
  have h4 : 4 ≤ n := by rw [← hx.len]; simp [checkB] at h; exact h.1
  refine (check_long A n c l w hx hb hn hcap h4).mono fun e w' h1 => ?_
  rcases h1 with ⟨h2, _⟩ | ⟨_, h2⟩
  · rw [h] at h2; cases h2
  · exact h2
theorem check_no (A : Option Addr) (n c : Nat) (l : List Int) (w : World) (hx : Lies .u8 w w.heap.size A n l) (hb : ∀ x ∈ l, 0 ≤ x ∧ x ≤ 255) (hn : n ≤ 65536) (hcap : n ≤ c) (h : checkB l = false) :
    Calls Try.prog 18 #[.slice A n c] w fun e w' => e = .returned (.tuple #[.slice none 0 0, .bool false]) ∧ Below w.heap.size w w' := by
  rcases Nat.lt_or_ge n 4 with h4 | h4
  · refine (check_short A n c w h4).mono fun e w' h1 => ?_
    obtain ⟨h1, h2⟩ := h1
    subst h2
    exact ⟨h1, Below.refl _ _⟩
  · refine (check_long A n c l w hx hb hn hcap h4).mono fun e w' h1 => ?_
    rcases h1 with ⟨_, h2⟩ | ⟨h2, _⟩
    · exact h2
    · rw [h] at h2; cases h2
/-- One list, put. -/
theorem put1 (A : Option Addr) (n c : Nat) (l : List Int) (u : World) (hx : Lies .u8 u u.heap.size A n l) (hb : ∀ x ∈ l, 0 ≤ x ∧ x ≤ 255) (hn : n ≤ 65536) (N : Nat) (hN : n + 4 = N) (H : Nat) (hH : u.heap.size = H) :
    Calls Try.prog 10 #[.slice (some ⟨H, 0, none⟩) 1 1] (u.alloc (.cells #[.slice A n c] 22)) fun e w' => ∃ g, e = .returned (.slice (some ⟨g, 0, none⟩) N N) ∧ u.heap.size < g ∧ Blk w' g 5 (cellsOf .u8 (putL l)) ∧ Below u.heap.size u w' := by
  subst hH
  refine (sumPut_any _ 1 1 [l] _ (parts1 (c := c) hx hb hn)).mono fun e w' h => ?_
  obtain ⟨g, he, hg, hB, hb⟩ := h
  have hl := hx.len
  have hf : [l].flatten = l := by simp
  rw [hf] at he hB
  rw [hl, hN] at he
  exact ⟨g, he, by have : (u.alloc (.cells #[.slice A n c] 22)).heap.size = u.heap.size + 1 := alloc_size u _; omega, hB, (below_al (Below.refl _ _) _).trans (hb.mono (by simp))⟩
theorem of1 (A : Option Addr) (n c : Nat) (l : List Int) (u : World) (hx : Lies .u8 u u.heap.size A n l) (hb : ∀ x ∈ l, 0 ≤ x ∧ x ≤ 255) (hn : n ≤ 65536) (H : Nat) (hH : u.heap.size = H) :
    Calls Try.prog 11 #[.slice (some ⟨H, 0, none⟩) 1 1] (u.alloc (.cells #[.slice A n c] 22)) fun e w' => e = .returned (.int .u32 (sumI l)) ∧ Below u.heap.size u w' := by
  subst hH
  refine (sumOf_any _ 1 1 [l] _ (parts1 (c := c) hx hb hn)).mono fun e w' h => ?_
  obtain ⟨he, hb⟩ := h
  have hf : [l].flatten = l := by simp
  rw [hf] at he
  exact ⟨he, (below_al (Below.refl _ _) _).trans (hb.mono (by simp))⟩

set_option maxRecDepth 100000 in
theorem lives_any (w : World) : Calls Try.prog 8 #[] w fun e w' => e = .returned (.bool true) ∧ Below w.heap.size w w' := by
  go_enter Try.func8, Try.ntmps8
  go_wp2_with fail
  have h0 : Lies .u8 (w.alloc (.cells #[.int .u8 7] 5)) _ _ 1 [7] := Lies.new w 5 .u8 [7] 1 rfl #[.int .u8 7] rfl
  have hb0 : Below w.heap.size w (w.alloc (.cells #[.int .u8 7] 5)) := below_al (Below.refl _ _) _
  have h1 := put1 _ 1 1 [7] _ h0 (by decide) (by decide) 5 rfl (w.heap.size + 1) (alloc_size _ _)
  with_reducible refine h1.mono ?_
  rintro e w1 ⟨g1, rfl, _, hB1, hb⟩
  have hb1 := below_then hb0 hb
  clear hb hb0 h0 h1
  have hl1 := hB1.lies (n := 5) (by decide)
  go_wp2_with fail
  with_reducible refine (check_yes _ _ _ _ _ hl1 (by decide) (by decide) (by decide) check_seven).mono ?_
  rintro e w2 ⟨g2, rfl, _, hB2, hb⟩
  have hb2 := below_then hb1 hb
  clear hb hb1 hl1 hB1
  go_wp2_with fail
  have h0 : Lies .u8 (w2.alloc (.cells #[.int .u8 1, .int .u8 2, .int .u8 3] 5)) _ _ 3 [1, 2, 3] := Lies.new w2 5 .u8 [1, 2, 3] 3 rfl #[.int .u8 1, .int .u8 2, .int .u8 3] rfl
  with_reducible refine (check_no _ _ _ _ _ h0 (by decide) (by decide) (by decide) (by decide)).mono ?_
  rintro e w3 ⟨rfl, hb⟩
  have hB3 := (hB2.alloc (.cells #[.int .u8 1, .int .u8 2, .int .u8 3] 5)).on hb
  have hb3 := below_then (below_al hb2 _) hb
  clear hb hb2 h0 hB2
  have hcv := Lib.run_convert_bytes_const (P := Try.prog) w3 22 5 #[.int .u8 49, .int .u8 50, .int .u8 51, .int .u8 52, .int .u8 53, .int .u8 54, .int .u8 55, .int .u8 56, .int .u8 57] 9 9 Try.underlying22 Try.underlying5
  go_wp2_with fail
  have h0 : Lies .u8 (w3.alloc (.cells #[.int .u8 49, .int .u8 50, .int .u8 51, .int .u8 52, .int .u8 53, .int .u8 54, .int .u8 55, .int .u8 56, .int .u8 57] 5 (9, 10))) _ _ 9 [49, 50, 51, 52, 53, 54, 55, 56, 57] := Lies.newM w3 5 .u8 [49, 50, 51, 52, 53, 54, 55, 56, 57] 9 rfl (9, 10)
  have h1 := of1 _ 9 9 _ _ h0 (by decide) (by decide) (w3.heap.size + 1) (alloc_size _ _)
  rw [sumI_digits] at h1
  with_reducible refine h1.mono ?_
  rintro e w4 ⟨rfl, hb⟩
  have hB4 := (hB3.alloc _).on hb
  have hb4 := below_then (below_al hb3 _) hb
  clear hb hb3 h0 h1 hB3 hcv
  go_wp2_with fail
  have h1 := sumOf_any none 0 0 [] w4 parts0
  rw [show [].flatten = ([] : List Int) from rfl, ← sumI, sumI_nil] at h1
  with_reducible refine h1.mono ?_
  rintro e w5 ⟨rfl, hb⟩
  have hB5 := hB4.on hb
  have hb5 := below_then hb4 hb
  clear hb hb4 h1 hB4
  go_wp2_with fail
  have h0 : Lies .u8 (w5.alloc (.cells #[.int .u8 7] 5)) _ _ 1 [7] := Lies.new w5 5 .u8 [7] 1 rfl #[.int .u8 7] rfl
  have hl5 := (hB5.alloc (.cells #[.int .u8 7] 5)).lies (n := 1) (by decide)
  with_reducible refine (sameBytes_true _ _ _ _ _ _ _ _ _ hl5 h0 (by decide) (by decide)).mono ?_
  rintro e w6 ⟨rfl, rfl⟩
  clear hl5 h0 hB5
  go_wp2_with fail
  go_ret
  exact ⟨rfl, below_al hb5 _⟩
end Go.Proofs.Ytnilchcgjiachaa
