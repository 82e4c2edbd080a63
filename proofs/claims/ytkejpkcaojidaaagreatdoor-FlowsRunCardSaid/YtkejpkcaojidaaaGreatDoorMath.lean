/-
  Plain facts on symbols, numbers and bytes: what is put is got as it was; lists one behind the other. No program, no condition but those that are named.
-/
import Derived.Test.YtkejpkcaojidaaaGreatDoorPut
namespace Go.Proofs.YtkejpkcaojidaaaGreatDoor
set_option linter.unusedVariables false
set_option linter.unusedSimpArgs false
open Go.RowKit

/-- Byte j, as far as the first k symbols tell it. -/
def byAt (xs : List Int) (k j : Nat) : Int := numL ((xs.drop (8 * j)).take (min (k - 8 * j) 8))
def byL (xs : List Int) (k : Nat) : List Int := (List.range (xs.length / 8)).map (byAt xs k)
def bytesL (xs : List Int) : List Int := byL xs xs.length
def bytesOk (xs : List Int) : Bool := decide (xs.length % 8 = 0) && wholeL xs
theorem byL_length (xs : List Int) (k : Nat) : (byL xs k).length = xs.length / 8 := by simp [byL]
theorem byL_at (xs : List Int) (k j : Nat) (h : j < xs.length / 8) : (byL xs k).getD j 0 = byAt xs k j := by simp [byL, h]
theorem wholeL_drop (xs : List Int) (j : Nat) (h : wholeL xs = true) : wholeL (xs.drop j) = true := by
  rw [wholeL, List.all_eq_true] at h ⊢
  exact fun x hx => h x (List.mem_of_mem_drop hx)
theorem byAt_bd (xs : List Int) (k j : Nat) (h : wholeL xs = true) (hj : 8 * j + 8 ≤ xs.length) : 0 ≤ byAt xs k j ∧ byAt xs k j < 2 ^ (min (k - 8 * j) 8) :=
  numL_bd (xs.drop (8 * j)) (wholeL_drop xs _ h) _ (by rw [List.length_drop]; omega)
theorem byAt_step (xs : List Int) (k : Nat) (h : k < xs.length) (h8 : xs.length % 8 = 0) : byAt xs (k + 1) (k / 8) = 2 * byAt xs k (k / 8) + (xs.getD k 0 - 1) := by
  unfold byAt
  rw [show min (k + 1 - 8 * (k / 8)) 8 = k % 8 + 1 by omega, show min (k - 8 * (k / 8)) 8 = k % 8 by omega, numL_snoc _ _ (by rw [List.length_drop]; omega)]
  have e : (xs.drop (8 * (k / 8))).getD (k % 8) 0 = xs.getD k 0 := by
    rw [List.getD, List.getD, List.getElem?_drop, show 8 * (k / 8) + k % 8 = k by omega]
  rw [e]
theorem byAt_other (xs : List Int) (k j : Nat) (h : j ≠ k / 8) : byAt xs (k + 1) j = byAt xs k j := by
  unfold byAt
  rw [show min (k + 1 - 8 * j) 8 = min (k - 8 * j) 8 by omega]
theorem byL_step (xs : List Int) (k : Nat) (h : k < xs.length) (h8 : xs.length % 8 = 0) : (byL xs k).set (k / 8) (2 * byAt xs k (k / 8) + (xs.getD k 0 - 1)) = byL xs (k + 1) := by
  rw [← byAt_step xs k h h8]
  apply List.ext_getElem
  · simp [byL]
  · intro j h1 h2
    rw [List.getElem_set]
    by_cases e : k / 8 = j
    · subst e; simp [byL]
    · rw [if_neg e]; simp only [byL, List.getElem_map, List.getElem_range]
      exact (byAt_other xs k j (fun e' => e e'.symm)).symm
theorem byL_none (xs : List Int) : byL xs 0 = List.replicate (xs.length / 8) 0 := by
  apply List.ext_getElem
  · simp [byL]
  · intro j h1 h2
    simp [byL, byAt, numL]
theorem or_low8 (n x : Int) (h0 : 0 ≤ n) (h1 : n < 128) (h2 : 0 ≤ x) (h3 : x ≤ 1) : bits .or .u8 (n * 2) x = 2 * n + x := by
  rw [u8_or _ _ (by omega) (by omega) h2 (by omega), nat_join 1 _ _ (by omega) (by omega)]
  omega
theorem info_byte : (Tryz.prog.info? 5).map (fun i => (i.zero, i.size, i.bytes)) = some (some (.int .u8 0), 1, 1) := by kernel_rfl

theorem bytes_no (A : Option Addr) (n c : Nat) (xs : List Int) (w : World) (hx : Lies .u8 w w.heap.size A n xs) (hn : n ≤ 65536) (ho : bytesOk xs = false) :
    Calls Tryz.prog 143 #[.slice A n c] w fun e w' => e = .returned (.tuple #[.slice none 0 0, .bool false]) ∧ w = w' := by
  have hl := Lib.hid hx.len
  by_cases h8 : n % 8 = 0
  · have hw : wholeL xs = false := by rw [bytesOk, hl.out, decide_eq_true h8] at ho; simpa using ho
    have h8' : ((n : Int) % 8 != 0) = false := by simp; omega
    clear ho h8
    go_enter Tryz.func143, Tryz.ntmps143
    go_wp2_with (go_at_call 147; refine (whole_any A n c xs _ hx hn).mono ?_; rintro e w' ⟨rfl, rfl⟩)
    go_ret2
    exact ⟨rfl, rfl⟩
  · have h8' : ((n : Int) % 8 != 0) = true := by simp; omega
    clear ho h8
    go_enter Tryz.func143, Tryz.ntmps143
    go_wp2
    go_ret2
    exact ⟨rfl, rfl⟩

theorem bytes_yes (A : Option Addr) (n c : Nat) (xs : List Int) (w : World) (hx : Lies .u8 w w.heap.size A n xs) (hn : n ≤ 65536) (ho : bytesOk xs = true) :
    Calls Tryz.prog 143 #[.slice A n c] w fun e w' => ∃ g, e = .returned (.tuple #[.slice (some ⟨g, 0, none⟩) (n / 8) (n / 8), .bool true]) ∧ w.heap.size ≤ g ∧ Blk w' g 5 (cellsOf .u8 (bytesL xs)) ∧ Below w.heap.size w w' := by
  have hl := Lib.hid hx.len
  have h8 : n % 8 = 0 := by simp [bytesOk, hl.out] at ho; exact ho.1
  have hw : wholeL xs = true := by simp [bytesOk] at ho; exact ho.2
  have h8' : ((n : Int) % 8 != 0) = false := by simp; omega
  have HW := Lib.hid hw
  have H8 := Lib.hid h8
  clear ho h8
  obtain ⟨i0, hi0, hz0, hz1, hz2⟩ := info_parts info_byte
  have hmk : ∀ u : World, (Instr.makeSlice 68 (.int .i64 ((n : Int) / 8)) (.int .i64 ((n : Int) / 8))).run Tryz.prog u =
      .ok (.slice (some ⟨u.heap.size, 0, none⟩) (n / 8) (n / 8)) (u.alloc (.cells (madeCells #[.int .u8 0] (n / 8)) 5)) := fun u => by
    have h := run_make (P := Tryz.prog) u 68 5 i0 (.int .u8 0) Tryz.underlying68 hi0 hz0 .i64 .i64 ((n : Int) / 8) ((n : Int) / 8) (by omega) (Int.le_refl _) (by rw [hz2]; omega) (by omega)
    have e : ((n : Int) / 8).toNat = n / 8 := by omega
    rw [e] at h
    simpa [hz1, Value.cells] using h
  have hblk : Blk (w.alloc (.cells (madeCells #[.int .u8 0] (n / 8)) 5)) w.heap.size 5 (cellsOf .u8 (byL xs 0)) := by
    rw [byL_none, hl.out, ← cellsOf_made]
    exact Blk.new w _ _
  go_enter Tryz.func143, Tryz.ntmps143
  go_wp2_with (go_at_call 147; refine (whole_any A n c xs _ hx hn).mono ?_; rintro e w' ⟨rfl, rfl⟩)
  clear hw h8' hz0 hz1 hz2 hi0
  go_loopw [22] (fun i wr => ∃ k : Nat, k ≤ n ∧ i = .int .i64 k ∧ Blk wr w.heap.size 5 (cellsOf .u8 (byL xs k)) ∧ Below w.heap.size w wr) (fun i _ => n - (intOf i).toNat)
  case atStart => exact ⟨0, Nat.zero_le _, rfl, hblk, (Below.refl _ _).alloc (Nat.le_refl _) _⟩
  case round =>
    obtain ⟨k, hk, rfl, hB, hbw⟩ := hrel
    clear hblk hmk
    by_cases hlt : k < n
    · obtain ⟨b, off, rfl, hbb, hc⟩ := hx.at_ (by omega)
      have hcell : wr.cell? ⟨b, off + k, none⟩ = some (.int .u8 (xs.getD k 0)) := (hbw.cell (p := ⟨b, off + k, none⟩) hbb).trans (hc k hlt)
      clear hc
      have hj : k / 8 < n / 8 := by have := H8.out; omega
      have hx12 := wholeL_at xs k (by rw [hl.out]; exact hlt) HW.out
      have hS := Lib.hid (byL_step xs k (by rw [hl.out]; exact hlt) (by rw [hl.out]; exact H8.out))
      have hvb := byAt_bd xs k (k / 8) HW.out (by rw [hl.out]; have := H8.out; omega)
      have hv128 : byAt xs k (k / 8) < 128 := Int.lt_of_lt_of_le hvb.2 (by
        have : (2 : Int) ^ (min (k - 8 * (k / 8)) 8) ≤ 2 ^ 7 := by exact_mod_cast Nat.pow_le_pow_right (by decide) (show min (k - 8 * (k / 8)) 8 ≤ 7 by omega)
        exact this)
      have hv0 := hvb.1
      clear hvb
      have hc1 : wr.cell? ⟨w.heap.size, k / 8, none⟩ = some (.int .u8 (byAt xs k (k / 8))) := (hB.cell _).trans ((cellsOf_at _ _ _ (by rw [byL_length, hl.out]; exact hj)).trans (by rw [byL_at _ _ _ (by rw [hl.out]; exact hj)]))
      have hf1 := hB.frozen (k / 8)
      have hnew := hB.set_ (k / 8) (.int .u8 (2 * byAt xs k (k / 8) + (xs.getD k 0 - 1)))
      rw [cellsOf_set, hS.out] at hnew
      have HN := Lib.hid hnew
      clear hnew hS
      obtain ⟨x, hx1⟩ : ∃ x, x = xs.getD k 0 := ⟨_, rfl⟩
      obtain ⟨v, hv⟩ : ∃ v, v = byAt xs k (k / 8) := ⟨_, rfl⟩
      rw [← hx1] at hcell HN hx12
      rw [← hv] at hv0 hv128 hc1 HN
      clear hx1 hv
      have hxa : 1 ≤ x := by omega
      have hxb : x ≤ 2 := by omega
      have hor := or_low8 v (x - 1) hv0 hv128 (by omega) (by omega)
      have hji : (k : Int) / 8 < (n : Int) / 8 := by omega
      clear hx12
      go_wp2
      go_roundw
      case rel => exact ⟨k + 1, by omega, by go_num, HN.out, hbw.setCell (Nat.le_refl _) _⟩
      case measure => simp [intOf]; omega
    · go_wp2
      go_ret2
      have hk' : k = n := by omega
      subst hk'
      exact ⟨w.heap.size, rfl, Nat.le_refl _, by have := hB; rw [← hl.out] at this; exact this, hbw⟩
end Go.Proofs.YtkejpkcaojidaaaGreatDoor

namespace Go.Proofs.YtkejpkcaojidaaaGreatDoor
open Go.RowKit

theorem symI_12 (n : Int) : symI n = 1 ∨ symI n = 2 := by unfold symI; split <;> simp
theorem symI_bit (n : Int) : symI n - 1 = n % 2 := by unfold symI; split <;> omega
theorem wholeL_of (xs : List Int) (h : ∀ x ∈ xs, x = 1 ∨ x = 2) : wholeL xs = true := by
  rw [wholeL, List.all_eq_true]
  intro x hx
  rcases h x hx with rfl | rfl <;> decide
theorem wholeL_ofL (bs : List Int) : wholeL (ofL bs) = true := wholeL_of _ fun x hx => by
  simp only [ofL, List.mem_map] at hx
  obtain ⟨i, _, rfl⟩ := hx
  exact symI_12 _
theorem wholeL_append (xs ys : List Int) : wholeL (xs ++ ys) = (wholeL xs && wholeL ys) := by simp [wholeL]
theorem emod_two (v P : Int) (hP : 0 < P) : 2 * (v / 2 % P) + v % 2 = v % (2 * P) := by
  have h1 : 0 ≤ v / 2 % P := Int.emod_nonneg _ (by omega)
  have h2 : v / 2 % P < P := Int.emod_lt_of_pos _ hP
  have h3 := Int.mul_ediv_add_emod (v / 2) P
  have h4 : v = (2 * (v / 2 % P) + v % 2) + (2 * P) * (v / 2 / P) := by
    have : (2 * P) * (v / 2 / P) = 2 * (P * (v / 2 / P)) := Int.mul_assoc _ _ _
    omega
  have h5 : 0 ≤ 2 * (v / 2 % P) + v % 2 ∧ 2 * (v / 2 % P) + v % 2 < 2 * P := by omega
  revert h4 h5
  generalize 2 * (v / 2 % P) + v % 2 = r
  generalize v / 2 / P = q
  intro h4 h5
  rw [h4, Int.add_mul_emod_self_left, Int.emod_eq_of_lt h5.1 h5.2]
theorem putL_snoc (v : Int) (m : Nat) : symL v (m + 1) = symL (v / 2) m ++ [symI v] := by
  unfold symL
  rw [List.range_succ, List.map_append]
  congr 1
  · apply List.map_congr_left
    intro i hi
    have hi' : i < m := by simpa using hi
    rw [show m + 1 - 1 - i = (m - 1 - i) + 1 by omega, Int.pow_succ, Int.mul_comm, ← Int.ediv_ediv_of_nonneg (by decide)]
  · simp
theorem numL_append (xs : List Int) (x : Int) : numL (xs ++ [x]) = 2 * numL xs + (x - 1) := by simp [numL]
theorem numL_putL (m : Nat) : ∀ v : Int, numL (symL v m) = v % 2 ^ m := by
  induction m with
  | zero => intro v; simp [symL, numL, Int.emod_one]
  | succ m ih =>
    intro v
    rw [putL_snoc, numL_append, ih, symI_bit, emod_two _ _ (Int.pow_pos (by decide)), Int.pow_succ, Int.mul_comm]
theorem ofL_part (bs : List Int) (j : Nat) (h : j < bs.length) : ((ofL bs).drop (8 * j)).take 8 = symL (bs.getD j 0) 8 := by
  apply List.ext_getElem
  · simp [ofL_length, symL_length]; omega
  · intro i h1 h2
    have hi : i < 8 := by simpa [symL_length] using h2
    rw [List.getElem_take, List.getElem_drop]
    simp only [ofL, symL, List.getElem_map, List.getElem_range, ofAt]
    rw [show (8 * j + i) / 8 = j by omega, show 7 - (8 * j + i) % 8 = 8 - 1 - i by omega]
theorem bytesL_ofL (bs : List Int) (hb : ∀ x ∈ bs, 0 ≤ x ∧ x ≤ 255) : bytesL (ofL bs) = bs := by
  apply List.ext_getElem
  · rw [bytesL, byL_length, ofL_length]; omega
  · intro j h1 h2
    have e : (bytesL (ofL bs))[j] = (bytesL (ofL bs)).getD j 0 := (getD_at _ _ h1).symm
    rw [e, bytesL, byL_at _ _ _ (by rw [ofL_length]; omega), byAt, ofL_length, show min (8 * bs.length - 8 * j) 8 = 8 by omega, ofL_part bs j h2, numL_putL, getD_at _ _ h2]
    have := hb bs[j] (List.getElem_mem h2)
    omega
end Go.Proofs.YtkejpkcaojidaaaGreatDoor

