/-
  The contract of bits.Put: the symbols with the number's behind them, in new memory; nothing that was there has turned. Conditions: the slice's reading, a length of at most 65536, a number of 64 bits.
-/
import Derived.Test.YtafnkcjnnebffaaOf
import Derived.ScopeJumps
import Derived.WalkMore
import Derived.Deep.Cut
import Derived.Deep.CutRange
namespace Go.Proofs.Ytafnkcjnnebffaa
open Go.RowKit

/-- How many bits are put. -/
def manyN (bits : Int) : Nat := (min (max bits 0) 64).toNat
/-- The number's symbols, of so many bits: symbol i is that of bit (m - 1 - i). -/
def putL (n : Int) (m : Nat) : List Int := (List.range m).map fun i => symI (n / 2 ^ (m - 1 - i))
theorem putL_length (n : Int) (m : Nat) : (putL n m).length = m := by simp [putL]

theorem manyN_le (b : Int) : manyN b ≤ 64 := by unfold manyN; omega
theorem putL_at (v : Int) (M i : Nat) (h : i < M) : (putL v M).getD i 0 = symI (v / 2 ^ (M - 1 - i)) := by simp [putL, h]
theorem put_at (xs : List Int) (v : Int) (M m n : Nat) (hn : xs.length = n) (h : m < M) : (xs ++ putL v M).getD (n + (M - (m + 1))) 0 = symI (v / 2 ^ m) := by
  have h1 : (xs ++ putL v M).getD (n + (M - (m + 1))) 0 = (putL v M).getD (M - (m + 1)) 0 := by
    simp only [List.getD, ← hn]
    rw [List.getElem?_append_right (by omega), Nat.add_sub_cancel_left]
  rw [h1, putL_at _ _ _ (by omega)]
  have e : M - 1 - (M - (m + 1)) = m := by omega
  rw [e]
theorem put_start (xs : List Int) (v : Int) (M n : Nat) (hn : xs.length = n) : fillTo (xs ++ putL v M) n = xs ++ List.replicate M 0 := by
  subst hn
  simp [fillTo, putL_length]
theorem splice_front (xs : List Int) (M n : Nat) (hn : xs.length = n) : (splice ((madeCells #[.int .u8 0] (n + M)).toList) 0 (xs.map (Value.int .u8))).toArray = cellsOf .u8 (xs ++ List.replicate M 0) := by
  subst hn
  simp [splice, toList_madeCells_one, cellsOf]

theorem put_step (xs : List Int) (v : Int) (M j n : Nat) (hn : xs.length = n) (h : j < M) {wr : World} {g : Nat} {t : TypeId} (hB : Blk wr g t (cellsOf .u8 (fillTo (xs ++ putL v M) (n + (M - (j + 1)))))) :
    Blk (wr.setCell ⟨g, n + (M - (j + 1)), none⟩ (.int .u8 (symI (v / 2 ^ j)))) g t (cellsOf .u8 (fillTo (xs ++ putL v M) (n + (M - j)))) := by
  have := hB.set_ (n + (M - (j + 1))) (.int .u8 (symI (v / 2 ^ j)))
  rw [cellsOf_set, ← put_at xs v M j n hn h, fillTo_set _ _ (by rw [List.length_append, putL_length, hn]; omega)] at this
  rw [show n + (M - j) = n + (M - (j + 1)) + 1 by omega, ← put_at xs v M j n hn h]
  exact this
theorem put_cell (xs : List Int) (v : Int) (M j n : Nat) (hn : xs.length = n) (h : j < M) {wr : World} {g : Nat} {t : TypeId} (hB : Blk wr g t (cellsOf .u8 (fillTo (xs ++ putL v M) (n + (M - (j + 1)))))) :
    wr.cell? ⟨g, n + (M - (j + 1)), none⟩ = some (.int .u8 ((fillTo (xs ++ putL v M) (n + (M - (j + 1)))).getD (n + (M - (j + 1))) 0)) :=
  (hB.cell _).trans (cellsOf_at _ _ _ (by rw [fillTo_length _ _ (by rw [List.length_append, putL_length, hn]; omega), List.length_append, putL_length, hn]; omega))

theorem put_any (A : Option Addr) (n c : Nat) (xs : List Int) (v bs : Int) (w : World) (hx : Lies .u8 w w.heap.size A n xs) (hn : n ≤ 65536) (hv0 : 0 ≤ v) (hv1 : v < 18446744073709551616) :
    Calls Try.prog 27 #[.slice A n c, .int .u64 v, .int .i64 bs] w fun e w' => ∃ g, e = .returned (.slice (some ⟨g, 0, none⟩) (n + manyN bs) (n + manyN bs)) ∧ w.heap.size ≤ g ∧ Blk w' g 53 (cellsOf .u8 (xs ++ putL v (manyN bs))) ∧ Below w.heap.size w w' := by
  obtain ⟨M, hM⟩ : ∃ M, M = manyN bs := ⟨_, rfl⟩
  have hM64 : M ≤ 64 := by rw [hM]; exact manyN_le bs
  rw [← hM]
  have HM := Lib.hid hM
  clear hM
  obtain ⟨i0, hi0, hz0, hz1, hz2⟩ := info_parts info_sym
  have hmk : ∀ u : World, (Instr.makeSlice 23 (.int .i64 ((n : Int) + (M : Int))) (.int .i64 ((n : Int) + (M : Int)))).run Try.prog u =
      .ok (.slice (some ⟨u.heap.size, 0, none⟩) (n + M) (n + M)) (u.alloc (.cells (madeCells #[.int .u8 0] (n + M)) 53)) := fun u => by
    have h := run_make (P := Try.prog) u 23 53 i0 (.int .u8 0) Try.underlying23 hi0 hz0 .i64 .i64 ((n : Int) + (M : Int)) ((n : Int) + (M : Int)) (by omega) (Int.le_refl _) (by rw [hz2]; omega) (by omega)
    have e : ((n : Int) + (M : Int)).toNat = n + M := by omega
    rw [e] at h
    simpa [hz1, Value.cells] using h
  obtain ⟨cs, hcs⟩ : ∃ cs, cs = xs.map (Value.int .u8) := ⟨_, rfl⟩
  have HCS := Lib.hid hcs
  clear hcs hz0 hz1 hz2 hi0
  have hl := Lib.hid hx.len
  go_enter Try.func27, Try.ntmps27
  go_wp2
  refine wp_scope_jumps 0 (fun a' wr => ∃ (m : Nat) (u8 u9 u10 u11 u12 u13 u14 u15 u16 u17 u18 u19 u20 u21 u22 u23 u24 u25 u26 u27 u28 u29 u30 u31 u32 u33 : Value),
      a' = { tmps := #[.slice A n c, .int .u64 v, .int .i64 m, undef, undef, undef, .slice none 0 0, .slice (some ⟨w.heap.size, 0, none⟩) (n + M) (n + M), u8, u9, u10, u11, u12, u13, u14, u15, u16, u17, u18, u19, u20, u21, u22, u23, u24, u25, u26, u27, u28, u29, u30, u31, u32, u33, undef], defers := [] } ∧
      m ≤ M ∧ Blk wr w.heap.size 53 (cellsOf .u8 (fillTo (xs ++ putL v M) (n + (M - m)))) ∧ Below w.heap.size w wr) (fun a' _ => (intOf (a'.tmps.getD 2 undef)).toNat) rfl ?_ ?_
  · go_upto_region 1 with fail
    go_cut [2] from 8 to 10 (fun s2 wx => s2 = .int .i64 (M : Nat) ∧ w = wx)
    case first =>
      have hM' := HM.out
      unfold manyN at hM'
      by_cases hb1 : bs < 0
      · have hM0 : M = 0 := by omega
        subst hM0
        clear hM'
        go_wp2
        go_meet
        exact ⟨rfl, rfl⟩
      · have hb1' : 0 ≤ bs := by omega
        by_cases hb2 : bs ≤ 64
        · obtain rfl : bs = (M : Int) := by omega
          clear hM' hb1
          go_wp2
          go_meet
          exact ⟨rfl, rfl⟩
        · have hM0 : M = 64 := by omega
          have hb2' : 64 < bs := by omega
          subst hM0
          clear hM' hb1 hb2
          go_wp2
          go_meet
          exact ⟨rfl, rfl⟩
    case rest =>
      obtain ⟨rfl, rfl⟩ := hcut
      go_wp2_with (with_reducible refine wpList_copy_splice rfl (.tmp 16) (.tmp 17) 23 23 rfl 53 Try.underlying23 size_sym (some ⟨w.heap.size, 0, none⟩) A (n + M) (n + M) n c rfl rfl w.heap.size 0 (madeCells #[.int .u8 0] (n + M)).toList 53 ?h1 cs ?h2 ?h3 ?h4 ?h5 w.heap.size w ?h6 (Nat.le_refl _) ?_)
      case h1 => rw [Array.toArray_toList]; exact Blk.new w _ _
      case h2 => rw [HCS.out, List.length_map, hl.out]; exact (Nat.min_eq_left (by omega)).symm
      case h3 => rw [HCS.out]; intro h0; exact ((hx.al _).src h0)
      case h4 => rw [HCS.out, List.length_map, hl.out, Array.length_toList, made_size]; omega
      case h5 => rw [HCS.out]; exact ints_oneCell _ _
      case h6 => exact (Below.refl _ _).alloc (Nat.le_refl _) _
      intro w2 hrow hb2
      have hblk : Blk w2 w.heap.size 53 (cellsOf .u8 (fillTo (xs ++ putL v M) (n + (M - M)))) := by
        have h := hrow.out
        rw [HCS.out, splice_front xs M n hl.out] at h
        rw [Nat.sub_self, Nat.add_zero, put_start xs v M n hl.out]
        exact h
      clear hrow hmk HCS
      rcases Nat.eq_zero_or_pos M with hM0 | hM0
      · subst hM0
        go_wp2
        go_step3
        go_wp2
        simp only [Exit.jump]
        go_ret
        refine ⟨w.heap.size, rfl, Nat.le_refl _, ?_, hb2⟩
        rw [fillTo_all _ _ (by rw [List.length_append, putL_length, hl.out]; omega)] at hblk
        exact hblk
      · obtain ⟨j, rfl⟩ : ∃ j, M = j + 1 := ⟨M - 1, by omega⟩
        clear hM0
        have hjp : (0 : Int) < (j : Int) + 1 := by omega
        have HS := Lib.hid (put_step xs v (j + 1) j n hl.out (by omega) hblk)
        have hc1 := put_cell xs v (j + 1) j n hl.out (by omega) hblk
        have hf1 := hblk.frozen n
        rw [show n + (j + 1 - (j + 1)) = n by omega] at HS hc1
        have HB := Lib.hid hblk
        clear hblk
        go_wp2
        go_step3
        go_wp2_with (go_at_call 33; refine (symbol_any _ _ (div_lo hv0) (div_hi hv0 hv1)).mono ?_; rintro e w' ⟨rfl, rfl⟩)
        go_step3
        refine ⟨rfl, j, _, _, _, _, _, _, _, _, _, _, _, _, _, _, _, _, _, _, _, _, _, _, _, _, _, _, rfl, by omega, HS.out, hb2.setCell (Nat.le_refl _) _⟩
  · rintro a' wr ⟨m, u8, u9, u10, u11, u12, u13, u14, u15, u16, u17, u18, u19, u20, u21, u22, u23, u24, u25, u26, u27, u28, u29, u30, u31, u32, u33, rfl, hm, hB, hbw⟩
    clear hmk
    by_cases h0 : m = 0
    · subst h0
      go_wp2
      simp only [Exit.jump]
      go_ret
      refine ⟨w.heap.size, rfl, Nat.le_refl _, ?_, hbw⟩
      rw [fillTo_all _ _ (by rw [List.length_append, putL_length, hl.out]; omega)] at hB
      exact hB
    · obtain ⟨j, rfl⟩ : ∃ j, m = j + 1 := ⟨m - 1, by omega⟩
      clear h0
      have hjp : (0 : Int) < (j : Int) + 1 := by omega
      have HS := Lib.hid (put_step xs v M j n hl.out (by omega) hB)
      have hc1 := put_cell xs v M j n hl.out (by omega) hB
      have hf1 := hB.frozen (n + (M - (j + 1)))
      have HB := Lib.hid hB
      clear hB
      rw [show n + (M - (j + 1)) = n + M - (j + 1) by omega] at HS hc1 hf1
      go_wp2_with (go_at_call 33; refine (symbol_any _ _ (div_lo hv0) (div_hi hv0 hv1)).mono ?_; rintro e w' ⟨rfl, rfl⟩)
      go_step3
      refine ⟨rfl, ⟨j, _, _, _, _, _, _, _, _, _, _, _, _, _, _, _, _, _, _, _, _, _, _, _, _, _, _, rfl, by omega, HS.out, hbw.setCell (Nat.le_refl _) _⟩, ?_⟩
      simp [intOf]
end Go.Proofs.Ytafnkcjnnebffaa
