/-
  The contracts of package words' filled, of lists of what is held: as many as asked, from the list's beginning, each mended. Conditions: the list's reading, its length.
-/
import Derived.Test.YtmmgbhdjjejacaaWd3
namespace Go.Proofs.Ytmmgbhdjjejacaa
open Go.RowKit
set_option linter.unusedVariables false

/-- A list cut, or filled up, to another length. -/
def fitH (T : Nat → He) (m : Nat) : Nat → He := fun i => if i < m then T i else heN
/-- .. its first k elements turned. -/
def partH (F : He → He) (k : Nat) (T : Nat → He) : Nat → He := fun i => if i < k then F (T i) else T i
theorem fit_cells (T : Nat → He) (n m k : Nat) (hk : Nat.min m n = k) : hesL T k ++ (hesL (fun _ => heN) n).drop (hesL T k).length = hesL (fitH T m) n := by
  have hkn : k ≤ n := by rw [← hk]; exact Nat.min_le_right _ _
  have hkm : k ≤ m := by rw [← hk]; exact Nat.min_le_left _ _
  have e : n = k + (n - k) := by omega
  rw [hesL_len]
  conv => lhs; rw [e]
  rw [hesL_add, List.drop_append_of_le_length (by rw [hesL_len]; omega), List.drop_of_length_le (by rw [hesL_len]; omega), List.nil_append]
  conv => rhs; rw [e]
  rw [hesL_add]
  congr 1
  · exact hesL_congr fun i hi => by unfold fitH; rw [if_pos (by omega)]
  · refine hesL_congr fun i hi => ?_
    unfold fitH
    rw [if_neg]
    have : k = m ∨ k = n := by rw [← hk]; rcases Nat.le_total m n with h | h
                               · left; exact Nat.min_eq_left h
                               · right; exact Nat.min_eq_right h
    omega
theorem fit_le (T : Nat → He) {n m k : Nat} (hk : Nat.min m n = k) : (hesL T k).length ≤ (hesL (fun _ => heN) n).toArray.size := by
  have : k ≤ n := by rw [← hk]; exact Nat.min_le_right _ _
  rw [List.size_toArray, hesL_len, hesL_len]; omega
theorem partH_zero (F : He → He) (T : Nat → He) : partH F 0 T = T := by funext i; unfold partH; rw [if_neg (by omega)]
theorem part_cells (F : He → He) (k n : Nat) (T : Nat → He) (hk : k < n) : hesL (partH F k T) k ++ (heL (F (T k)) ++ hesL (fun j => partH F k T (k + 1 + j)) (n - (k + 1))) = hesL (partH F (k + 1) T) n := by
  rw [hesL_at (partH F (k + 1) T) hk]
  congr 1
  · exact hesL_congr fun i hi => by unfold partH; rw [if_pos hi, if_pos (by omega)]
  · congr 1
    · unfold partH; rw [if_pos (by omega)]
    · exact hesL_congr fun i hi => by unfold partH; rw [if_neg (by omega), if_neg (by omega)]
theorem part_at (F : He → He) (k : Nat) (T : Nat → He) : partH F k T k = T k := by unfold partH; rw [if_neg (by omega)]
theorem part_all (F : He → He) (n : Nat) (T : Nat → He) : hesL (partH F n T) n = hesL (fun i => F (T i)) n := hesL_congr fun i hi => by unfold partH; rw [if_pos hi]
set_option maxRecDepth 100000 in
set_option maxHeartbeats 1000000 in
theorem filledMend_is (n : Nat) (hn : n ≤ 65536) (A : Option Addr) (m c : Nat) (T : Nat → He) (w : World) (hT : LiesH w w.heap.size A m T) :
    Calls Try.prog 53 #[.int .i64 (n : Int), .slice A m c, .func (.func 55) #[] #[]] w
      fun e w' => e = .returned (.slice (some ⟨w.heap.size, 0, none⟩) n n) ∧ Blk w' w.heap.size 69 (hesL (fun i => plH (fitH T m i)) n).toArray ∧ Below w.heap.size w w' := by
  obtain ⟨i0, hi0, hz0, hz1, hz2⟩ := info_parts infoHeld
  have HT := Lib.hid hT
  obtain ⟨k0, hk0⟩ : ∃ k0, Nat.min m n = k0 := ⟨_, rfl⟩
  have HK := Lib.hid hk0
  have hkm : k0 ≤ m := by rw [← hk0]; exact Nat.min_le_left _ _
  have HN := Lib.hid (fun (x : World) (h : LiesH x x.heap.size A m T) => LiesH.src (h.less hkm))
  have HI := Lib.hid hi0
  have HZ0 := Lib.hid hz0
  have HZ1 := Lib.hid hz1
  have HZ2 := Lib.hid hz2
  clear hT hk0 hi0 hz0 hz1 hz2
  go_enter Try.func53, Try.ntmps53
  go_wp2_with (first | (refine wpList_make_flat rfl (.tmp 9) (.tmp 9) 52 rfl 69 i0 _ (heL heN) 136 56 elemHelds HI.out HZ0.out rfl HZ1.out HZ2.out (heL_len _) (by decide) n n (by simp [Act.eval]) (by simp [Act.eval]) (Nat.le_refl _) (by omega) (by omega) ?_; intro w1 hB1 hb1 hs1; have HB1 := Lib.hid hB1; have Hb1 := Lib.hid hb1; have hlt1 := hB1.lt; clear hB1 hb1 hs1) | (refine wpList_copy_part rfl (.tmp 11) (.tmp 12) 52 52 rfl 69 elemHelds 56 size_he A n m k0 n c w.heap.size HK.out (by simp [Act.eval]) (by simp [Act.eval]) _ _ HB1.out (hesL T k0) (hesL_len _ _) (fit_le T HK.out) (HN.out w1 (HT.out.on Hb1.out)) (hesL_one _ _) ?_; intro w2 hB2 hb2; have HB2 : Hid (Blk w2 w.heap.size 69 (hesL (partH plH 0 (fitH T m)) n).toArray) := Lib.hid (by rw [partH_zero, ← fit_cells T n m k0 HK.out]; exact hB2); have Hb2 := Lib.hid (Hb1.out.trans (hb2.low (Nat.le_refl _))); have hlt2 := hB2.lt; clear hB2 hb2))
  obtain ⟨g, hg⟩ : ∃ g, g = w.heap.size := ⟨_, rfl⟩
  have HG := Lib.hid hg
  rw [← hg] at HB2 hlt2 ⊢
  clear hg HB1 hlt1
  go_loopw [16] (fun s wr => ∃ k : Nat, k ≤ n ∧ s = .int .i64 (k : Int) ∧ Hid (Blk wr g 69 (hesL (partH plH k (fitH T m)) n).toArray) ∧ Hid (Below w.heap.size w wr)) (fun s _ => n - (intOf s).toNat)
  case atStart => exact ⟨0, by omega, rfl, HB2, Hb2⟩
  case round =>
    clear HB2 Hb2 Hb1 hlt2
    obtain ⟨k, hk, rfl, HB, HU⟩ := hrel
    have hlr := HB.out.lt
    by_cases hlt : k < n
    · have HP : Hid (PIn wr g (k * 56) 69 (hesL (partH plH k (fitH T m)) k) (hesL (fun j => partH plH k (fitH T m) (k + 1 + j)) (n - (k + 1))) (heL (fitH T m k))) := Lib.hid ⟨by have := HB.out; rw [hesL_at _ hlt, part_at] at this; exact this, hesL_len _ _⟩
      have hix := fun W => idxHelds (A := some ⟨g, 0, none⟩) (n := n) n rfl hlt W
      simp only [Nat.zero_add] at hix
      go_wp2_with (go_at_call 55; (with_reducible refine (mendHeld_is _ HP.out).mono ?_); rintro e w3 ⟨rfl, p1, b1⟩)
      go_roundw
      case rel => exact ⟨k + 1, by omega, by go_num, Lib.hid (by have := p1.blk; rw [show heL (plH (fitH T m k)) = heL (plH (fitH T m k)) from rfl, part_cells plH k n _ hlt] at this; exact this), Lib.hid (HU.out.trans (b1.low (by rw [HG.out]; exact Nat.le_refl _)))⟩
      case measure => simp [intOf]; omega
    · go_wp2_with fail
      go_ret
      obtain rfl : k = n := by omega
      have h1 := HB.out
      have h2 := HU.out
      rw [← HG.out] at h2 ⊢
      rw [part_all] at h1
      exact ⟨rfl, h1, h2⟩
set_option maxRecDepth 100000 in
set_option maxHeartbeats 1000000 in
theorem filledCopy_is (n : Nat) (hn : n ≤ 65536) (A : Option Addr) (m c : Nat) (T : Nat → He) (w : World) (hT : LiesH w w.heap.size A m T) :
    Calls Try.prog 53 #[.int .i64 (n : Int), .slice A m c, .func (.func 54) #[] #[]] w
      fun e w' => e = .returned (.slice (some ⟨w.heap.size, 0, none⟩) n n) ∧ Blk w' w.heap.size 69 (hesL (fun i => id (fitH T m i)) n).toArray ∧ Below w.heap.size w w' := by
  obtain ⟨i0, hi0, hz0, hz1, hz2⟩ := info_parts infoHeld
  have HT := Lib.hid hT
  obtain ⟨k0, hk0⟩ : ∃ k0, Nat.min m n = k0 := ⟨_, rfl⟩
  have HK := Lib.hid hk0
  have hkm : k0 ≤ m := by rw [← hk0]; exact Nat.min_le_left _ _
  have HN := Lib.hid (fun (x : World) (h : LiesH x x.heap.size A m T) => LiesH.src (h.less hkm))
  have HI := Lib.hid hi0
  have HZ0 := Lib.hid hz0
  have HZ1 := Lib.hid hz1
  have HZ2 := Lib.hid hz2
  clear hT hk0 hi0 hz0 hz1 hz2
  go_enter Try.func53, Try.ntmps53
  go_wp2_with (first | (refine wpList_make_flat rfl (.tmp 9) (.tmp 9) 52 rfl 69 i0 _ (heL heN) 136 56 elemHelds HI.out HZ0.out rfl HZ1.out HZ2.out (heL_len _) (by decide) n n (by simp [Act.eval]) (by simp [Act.eval]) (Nat.le_refl _) (by omega) (by omega) ?_; intro w1 hB1 hb1 hs1; have HB1 := Lib.hid hB1; have Hb1 := Lib.hid hb1; have hlt1 := hB1.lt; clear hB1 hb1 hs1) | (refine wpList_copy_part rfl (.tmp 11) (.tmp 12) 52 52 rfl 69 elemHelds 56 size_he A n m k0 n c w.heap.size HK.out (by simp [Act.eval]) (by simp [Act.eval]) _ _ HB1.out (hesL T k0) (hesL_len _ _) (fit_le T HK.out) (HN.out w1 (HT.out.on Hb1.out)) (hesL_one _ _) ?_; intro w2 hB2 hb2; have HB2 : Hid (Blk w2 w.heap.size 69 (hesL (partH id 0 (fitH T m)) n).toArray) := Lib.hid (by rw [partH_zero, ← fit_cells T n m k0 HK.out]; exact hB2); have Hb2 := Lib.hid (Hb1.out.trans (hb2.low (Nat.le_refl _))); have hlt2 := hB2.lt; clear hB2 hb2))
  obtain ⟨g, hg⟩ : ∃ g, g = w.heap.size := ⟨_, rfl⟩
  have HG := Lib.hid hg
  rw [← hg] at HB2 hlt2 ⊢
  clear hg HB1 hlt1
  go_loopw [16] (fun s wr => ∃ k : Nat, k ≤ n ∧ s = .int .i64 (k : Int) ∧ Hid (Blk wr g 69 (hesL (partH id k (fitH T m)) n).toArray) ∧ Hid (Below w.heap.size w wr)) (fun s _ => n - (intOf s).toNat)
  case atStart => exact ⟨0, by omega, rfl, HB2, Hb2⟩
  case round =>
    clear HB2 Hb2 Hb1 hlt2
    obtain ⟨k, hk, rfl, HB, HU⟩ := hrel
    have hlr := HB.out.lt
    by_cases hlt : k < n
    · have HP : Hid (PIn wr g (k * 56) 69 (hesL (partH id k (fitH T m)) k) (hesL (fun j => partH id k (fitH T m) (k + 1 + j)) (n - (k + 1))) (heL (fitH T m k))) := Lib.hid ⟨by have := HB.out; rw [hesL_at _ hlt, part_at] at this; exact this, hesL_len _ _⟩
      have hix := fun W => idxHelds (A := some ⟨g, 0, none⟩) (n := n) n rfl hlt W
      simp only [Nat.zero_add] at hix
      go_wp2_with (go_at_call 54; (with_reducible refine (same_is _ HP.out).mono ?_); rintro e w3 ⟨rfl, p1, b1⟩)
      go_roundw
      case rel => exact ⟨k + 1, by omega, by go_num, Lib.hid (by have := p1.blk; rw [show heL (fitH T m k) = heL (id (fitH T m k)) from rfl, part_cells id k n _ hlt] at this; exact this), Lib.hid (HU.out.trans (b1.low (by rw [HG.out]; exact Nat.le_refl _)))⟩
      case measure => simp [intOf]; omega
    · go_wp2_with fail
      go_ret
      obtain rfl : k = n := by omega
      have h1 := HB.out
      have h2 := HU.out
      rw [← HG.out] at h2 ⊢
      rw [part_all] at h1
      exact ⟨rfl, h1, h2⟩
end Go.Proofs.Ytmmgbhdjjejacaa

