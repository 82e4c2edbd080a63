/-
  The contract of bits.Of: the bytes' symbols, in new memory; nothing that was there has turned. Conditions: the slice's reading, bytes, a length of at most 65536.
-/
import Derived.Test.YtpjcbfapkjipjaaTurn
namespace Go.Proofs.Ytpjcbfapkjipjaa
open Go.RowKit

/-- Symbol i of bytes. -/
def ofAt (bs : List Int) (i : Nat) : Int := symI (bs.getD (i / 8) 0 / 2 ^ (7 - i % 8))
def ofL (bs : List Int) : List Int := (List.range (8 * bs.length)).map (ofAt bs)
theorem ofL_length (bs : List Int) : (ofL bs).length = 8 * bs.length := by simp [ofL]
theorem ofL_at (bs : List Int) (i : Nat) (h : i < 8 * bs.length) : (ofL bs).getD i 0 = ofAt bs i := by simp [ofL, h]

theorem div_lo {x : Int} {t : Nat} (h : 0 ≤ x) : 0 ≤ x / 2 ^ t := Int.ediv_nonneg h (Int.pow_nonneg (by decide))
theorem div_hi {x : Int} {t : Nat} (h : 0 ≤ x) (h1 : x < 18446744073709551616) : x / 2 ^ t < 18446744073709551616 :=
  Int.lt_of_le_of_lt (Int.ediv_le_self _ h) h1

theorem of_any (A : Option Addr) (n c : Nat) (bs : List Int) (w : World) (hx : Lies .u8 w w.heap.size A n bs) (hbd : ∀ x ∈ bs, 0 ≤ x ∧ x ≤ 255) (hn : n ≤ 65536) :
    Calls Try.prog 48 #[.slice A n c] w fun e w' => ∃ g, e = .returned (.slice (some ⟨g, 0, none⟩) (8 * n) (8 * n)) ∧ w.heap.size ≤ g ∧ Blk w' g 31 (cellsOf .u8 (ofL bs)) ∧ Below w.heap.size w w' := by
  obtain ⟨i0, hi0, hz0, hz1, hz2⟩ := info_parts info_sym
  have hmk : ∀ u : World, (Instr.makeSlice 22 (.int .i64 (8 * (n : Int))) (.int .i64 (8 * (n : Int)))).run Try.prog u =
      .ok (.slice (some ⟨u.heap.size, 0, none⟩) (8 * n) (8 * n)) (u.alloc (.cells (madeCells #[.int .u8 0] (8 * n)) 31)) := fun u => by
    have h := run_make (P := Try.prog) u 22 31 i0 (.int .u8 0) Try.underlying22 hi0 hz0 .i64 .i64 (8 * (n : Int)) (8 * (n : Int)) (by omega) (Int.le_refl _) (by rw [hz2]; omega) (by omega)
    have e : (8 * (n : Int)).toNat = 8 * n := by omega
    rw [e] at h
    simpa [hz1, Value.cells] using h
  have hblk : Blk (w.alloc (.cells (madeCells #[.int .u8 0] (8 * n)) 31)) w.heap.size 31 (cellsOf .u8 (fillTo (ofL bs) 0)) := by
    rw [fillTo_none, ofL_length, hx.len, ← cellsOf_made]
    exact Blk.new w _ _
  have hl := Lib.hid hx.len
  go_enter Try.func48, Try.ntmps48
  go_wp2
  go_loopw [11] (fun i wr => ∃ k : Nat, k ≤ 8 * n ∧ i = .int .i64 k ∧ Blk wr w.heap.size 31 (cellsOf .u8 (fillTo (ofL bs) k)) ∧ Below w.heap.size w wr) (fun i _ => 8 * n - (intOf i).toNat)
  case atStart => exact ⟨0, Nat.zero_le _, rfl, hblk, (Below.refl _ _).alloc (Nat.le_refl _) _⟩
  case round =>
    obtain ⟨k, hk, rfl, hB, hbw⟩ := hrel
    clear hblk hmk hz0 hz1 hz2 hi0
    by_cases hlt : k < 8 * n
    · obtain ⟨b, off, rfl, hbb, hc⟩ := hx.at_ (by omega)
      have hcell : wr.cell? ⟨b, off + k / 8, none⟩ = some (.int .u8 (bs.getD (k / 8) 0)) := (hbw.cell (p := ⟨b, off + k / 8, none⟩) hbb).trans (hc (k / 8) (by omega))
      clear hc
      have hxb := hbd (bs.getD (k / 8) 0) (by rw [getD_at _ _ (by rw [hl.out]; omega)]; exact List.getElem_mem _)
      have hE := Lib.hid (ofL_at bs k (by rw [hl.out]; exact hlt))
      obtain ⟨x, hx1⟩ : ∃ x, x = bs.getD (k / 8) 0 := ⟨_, rfl⟩
      unfold ofAt at hE
      rw [← hx1] at hcell hE hxb
      clear hx1
      obtain ⟨hx0, hx9⟩ := hxb
      have hc1 : wr.cell? ⟨w.heap.size, k, none⟩ = some (.int .u8 ((fillTo (ofL bs) k).getD k 0)) := (hB.cell k).trans (cellsOf_at _ _ _ (by rw [fillTo_length _ _ (by rw [ofL_length, hl.out]; omega), ofL_length, hl.out]; exact hlt))
      have hf1 := hB.frozen k
      have hnew := hB.set_ k (.int .u8 ((ofL bs).getD k 0))
      rw [cellsOf_set, fillTo_set _ _ (by rw [ofL_length, hl.out]; exact hlt)] at hnew
      rw [hE.out] at hnew
      have HN := Lib.hid hnew
      have hki : (k : Int) < 8 * (n : Int) := by omega
      clear hnew hbd hE
      go_wp2_with (go_at_call 60; refine (symbol_any _ _ (div_lo hx0) (div_hi hx0 (by omega))).mono ?_; rintro e w' ⟨rfl, rfl⟩)
      go_roundw
      case rel => exact ⟨k + 1, by omega, by go_num, HN.out, hbw.setCell (Nat.le_refl _) _⟩
      case measure => simp [intOf]; omega
    · go_wp2
      go_ret
      exact ⟨w.heap.size, rfl, Nat.le_refl _, by rw [fillTo_all _ _ (by rw [ofL_length, hl.out]; omega)] at hB; exact hB, hbw⟩
end Go.Proofs.Ytpjcbfapkjipjaa
