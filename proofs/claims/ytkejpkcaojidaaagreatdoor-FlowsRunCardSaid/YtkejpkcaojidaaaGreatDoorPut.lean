/-
  The contract of bits.Put: the symbols with the number's behind them, in new memory; nothing that was there has turned. Conditions: the slice's reading, a length of at most 65536, a number of 64 bits.
-/
import Derived.Test.YtkejpkcaojidaaaGreatDoorSameB
import Derived.ScopeJumps
import Derived.WalkMore
import Derived.Deep.Cut
import Derived.Deep.CutRange
namespace Go.Proofs.YtkejpkcaojidaaaGreatDoor
set_option linter.unusedVariables false
set_option linter.unusedSimpArgs false
open Go.RowKit

theorem elem_syms : Tryz.prog.underlying 126 = some (.slice (Tryz.prog.elem 126)) := by kernel_rfl
theorem size_syms (w : World) : (sizeOf (Tryz.prog.elem 126)).run Tryz.prog w = .ok 1 w := by kernel_rfl
/-- A list of symbols, cut at both ends. -/
theorem cut_syms (b off n c : Nat) (l h : Int) (h0 : 0 ≤ l) (h1 : l ≤ h) (h2 : h ≤ c) (h3 : l < c) (w : World) :
    (Instr.slice 126 (.slice (some ⟨b, off, none⟩) n c) (some (.int .i64 l)) (some (.int .i64 h)) none).run Tryz.prog w = .ok (.slice (some ⟨b, off + l.toNat, none⟩) (h.toNat - l.toNat) (c - l.toNat)) w := by
  rw [run_slice_lh w 126 _ n c elem_syms .i64 .i64 l h h0 h1 h2, size_syms]
  simp only [Result.andThen, sliced]
  rw [if_neg (by omega)]
  simp [Addr.add_lit]

/-- A bit's symbol. -/
def symI (n : Int) : Int := if n % 2 = 1 then 2 else 1
def wholeB (x : Int) : Bool := x == 1 || x == 2
def wholeL (xs : List Int) : Bool := xs.all wholeB

theorem symbol_any (n : Int) (w : World) (h0 : 0 ≤ n) (h1 : n < 18446744073709551616) :
    Calls Tryz.prog 138 #[.int .u64 n] w fun e w' => e = .returned (.int .u8 (symI n)) ∧ w = w' := by
  have hand : bits BinOp.and IntKind.u64 n 1 = n % 2 := and_one_u64 n h0 (by omega)
  by_cases h : n % 2 = 1
  · have hb : (n % 2 == 1) = true := by simpa using h
    have hs := Lib.hid (show symI n = 2 by simp [symI, h])
    clear h
    go_enter Tryz.func138, Tryz.ntmps138
    go_wp2
    go_ret
    exact ⟨ret_int hs.out.symm, rfl⟩
  · have hb : (n % 2 == 1) = false := by simpa using h
    have hs := Lib.hid (show symI n = 1 by simp [symI, h])
    clear h
    go_enter Tryz.func138, Tryz.ntmps138
    go_wp2
    go_ret
    exact ⟨ret_int hs.out.symm, rfl⟩

theorem wholeL_snoc (xs : List Int) (k : Nat) (h : k < xs.length) : wholeL (xs.take (k + 1)) = (wholeL (xs.take k) && wholeB (xs.getD k 0)) := by
  unfold wholeL
  rw [List.take_succ_eq_append_getElem h, List.all_append, List.all_cons, List.all_nil, Bool.and_true, getD_at xs k h]
theorem wholeL_not (xs : List Int) (k : Nat) (h : k < xs.length) (h1 : wholeB (xs.getD k 0) = false) : wholeL xs = false := by
  rw [wholeL, List.all_eq_false]
  exact ⟨xs[k], List.getElem_mem h, by simpa [h] using h1⟩

theorem whole_any (A : Option Addr) (n c : Nat) (xs : List Int) (w : World) (hr : Lies .u8 w w.heap.size A n xs) (hn : n ≤ 65536) :
    Calls Tryz.prog 147 #[.slice A n c] w fun e w' => e = .returned (.bool (wholeL xs)) ∧ w = w' := by
  have hl := hr.len
  subst hl
  go_enter Tryz.func147, Tryz.ntmps147
  go_wp2
  go_loop [7] (fun i => ∃ k : Nat, k ≤ xs.length ∧ i = .int .i64 k ∧ Hid (wholeL (xs.take k) = true)) (fun i => xs.length - (intOf i).toNat)
  case atStart => exact ⟨0, Nat.zero_le _, rfl, Lib.hid rfl⟩
  case round =>
    obtain ⟨k, hk, rfl, hw⟩ := hrel
    by_cases hlt : k < xs.length
    · obtain ⟨b, off, rfl, hb, hc⟩ := hr.at_ (by omega)
      have hcell := hc k hlt
      clear hc
      obtain ⟨x, hx⟩ : ∃ x, x = xs.getD k 0 := ⟨_, rfl⟩
      rw [← hx] at hcell
      have hX := Lib.hid hx
      clear hx
      by_cases h1 : x = 1
      · have e1 : (x != 1) = false := by simp [h1]
        have hW := Lib.hid (show wholeB x = true by simp [wholeB, h1])
        clear h1
        go_wp2
        go_round
        case rel => exact ⟨k + 1, by omega, by go_num, Lib.hid (by rw [wholeL_snoc xs k hlt, hw.out, ← hX.out, hW.out]; rfl)⟩
        case measure => simp [intOf]; omega
      · have e1 : (x != 1) = true := by simp [h1]
        by_cases h2 : x = 2
        · have e2 : (x != 2) = false := by simp [h2]
          have hW := Lib.hid (show wholeB x = true by simp [wholeB, h2])
          clear h1 h2
          go_wp2
          go_round
          case rel => exact ⟨k + 1, by omega, by go_num, Lib.hid (by rw [wholeL_snoc xs k hlt, hw.out, ← hX.out, hW.out]; rfl)⟩
          case measure => simp [intOf]; omega
        · have e2 : (x != 2) = true := by simp [h2]
          have hW := Lib.hid (show wholeB x = false by simp [wholeB, h1, h2])
          clear h1 h2
          go_wp2
          go_ret
          exact ⟨ret_bool (wholeL_not xs k hlt (by rw [← hX.out]; exact hW.out)).symm, rfl⟩
    · go_wp2
      go_ret
      exact ⟨ret_bool (by have := hw.out; rw [List.take_of_length_le (by omega)] at this; exact this.symm), rfl⟩

end Go.Proofs.YtkejpkcaojidaaaGreatDoor

namespace Go.Proofs.YtkejpkcaojidaaaGreatDoor
open Go.RowKit

theorem info_sym : (Tryz.prog.info? 47).map (fun i => (i.zero, i.size, i.bytes)) = some (some (.int .u8 0), 1, 1) := by kernel_rfl
end Go.Proofs.YtkejpkcaojidaaaGreatDoor

namespace Go.Proofs.YtkejpkcaojidaaaGreatDoor
open Go.RowKit

/-- Symbol i of bytes. -/
def ofAt (bs : List Int) (i : Nat) : Int := symI (bs.getD (i / 8) 0 / 2 ^ (7 - i % 8))
def ofL (bs : List Int) : List Int := (List.range (8 * bs.length)).map (ofAt bs)
theorem ofL_length (bs : List Int) : (ofL bs).length = 8 * bs.length := by simp [ofL]
theorem ofL_at (bs : List Int) (i : Nat) (h : i < 8 * bs.length) : (ofL bs).getD i 0 = ofAt bs i := by simp [ofL, h]

theorem div_lo {x : Int} {t : Nat} (h : 0 ≤ x) : 0 ≤ x / 2 ^ t := Int.ediv_nonneg h (Int.pow_nonneg (by decide))
theorem div_hi {x : Int} {t : Nat} (h : 0 ≤ x) (h1 : x < 18446744073709551616) : x / 2 ^ t < 18446744073709551616 :=
  Int.lt_of_le_of_lt (Int.ediv_le_self _ h) h1

theorem of_any (A : Option Addr) (n c : Nat) (bs : List Int) (w : World) (hx : Lies .u8 w w.heap.size A n bs) (hbd : ∀ x ∈ bs, 0 ≤ x ∧ x ≤ 255) (hn : n ≤ 65536) :
    Calls Tryz.prog 129 #[.slice A n c] w fun e w' => ∃ g, e = .returned (.slice (some ⟨g, 0, none⟩) (8 * n) (8 * n)) ∧ w.heap.size ≤ g ∧ Blk w' g 47 (cellsOf .u8 (ofL bs)) ∧ Below w.heap.size w w' := by
  obtain ⟨i0, hi0, hz0, hz1, hz2⟩ := info_parts info_sym
  have hmk : ∀ u : World, (Instr.makeSlice 126 (.int .i64 (8 * (n : Int))) (.int .i64 (8 * (n : Int)))).run Tryz.prog u =
      .ok (.slice (some ⟨u.heap.size, 0, none⟩) (8 * n) (8 * n)) (u.alloc (.cells (madeCells #[.int .u8 0] (8 * n)) 47)) := fun u => by
    have h := run_make (P := Tryz.prog) u 126 47 i0 (.int .u8 0) Tryz.underlying126 hi0 hz0 .i64 .i64 (8 * (n : Int)) (8 * (n : Int)) (by omega) (Int.le_refl _) (by rw [hz2]; omega) (by omega)
    have e : (8 * (n : Int)).toNat = 8 * n := by omega
    rw [e] at h
    simpa [hz1, Value.cells] using h
  have hblk : Blk (w.alloc (.cells (madeCells #[.int .u8 0] (8 * n)) 47)) w.heap.size 47 (cellsOf .u8 (fillTo (ofL bs) 0)) := by
    rw [fillTo_none, ofL_length, hx.len, ← cellsOf_made]
    exact Blk.new w _ _
  have hl := Lib.hid hx.len
  go_enter Tryz.func129, Tryz.ntmps129
  go_wp2
  go_loopw [11] (fun i wr => ∃ k : Nat, k ≤ 8 * n ∧ i = .int .i64 k ∧ Blk wr w.heap.size 47 (cellsOf .u8 (fillTo (ofL bs) k)) ∧ Below w.heap.size w wr) (fun i _ => 8 * n - (intOf i).toNat)
  case atStart => exact ⟨0, Nat.zero_le _, rfl, hblk, (Below.refl _ _).alloc (Nat.le_refl _) _⟩
  case round =>
    obtain ⟨k, hk, rfl, hB, hbw⟩ := hrel
    clear hblk hmk hz0 hz1 hz2 hi0
    by_cases hlt : k < 8 * n
    · obtain ⟨b, off, rfl, hbb, hc⟩ := hx.at_ (by omega)
      have hcell : wr.cell? ⟨b, off + k / 8, none⟩ = some (.int .u8 (bs.getD (k / 8) 0)) := (hbw.cell (p := ⟨b, off + k / 8, none⟩) hbb).trans (hc (k / 8) (by omega))
      clear hc
      have hxb := hbd (bs.getD (k / 8) 0) (by rw [getD_at _ _ (by rw [hl.out]; omega)]; exact List.getElem_mem _)
      have hE := Lib.hid (ofL_at bs k (by rw [hl.out]; exact hlt))
      obtain ⟨x, hx1⟩ : ∃ x, x = bs.getD (k / 8) 0 := ⟨_, rfl⟩
      unfold ofAt at hE
      rw [← hx1] at hcell hE hxb
      clear hx1
      obtain ⟨hx0, hx9⟩ := hxb
      have hc1 : wr.cell? ⟨w.heap.size, k, none⟩ = some (.int .u8 ((fillTo (ofL bs) k).getD k 0)) := (hB.cell k).trans (cellsOf_at _ _ _ (by rw [fillTo_length _ _ (by rw [ofL_length, hl.out]; omega), ofL_length, hl.out]; exact hlt))
      have hf1 := hB.frozen k
      have hnew := hB.set_ k (.int .u8 ((ofL bs).getD k 0))
      rw [cellsOf_set, fillTo_set _ _ (by rw [ofL_length, hl.out]; exact hlt)] at hnew
      rw [hE.out] at hnew
      have HN := Lib.hid hnew
      have hki : (k : Int) < 8 * (n : Int) := by omega
      clear hnew hbd hE
      go_wp2_with (go_at_call 138; refine (symbol_any _ _ (div_lo hx0) (div_hi hx0 (by omega))).mono ?_; rintro e w' ⟨rfl, rfl⟩)
      go_roundw
      case rel => exact ⟨k + 1, by omega, by go_num, HN.out, hbw.setCell (Nat.le_refl _) _⟩
      case measure => simp [intOf]; omega
    · go_wp2
      go_ret
      exact ⟨w.heap.size, rfl, Nat.le_refl _, by rw [fillTo_all _ _ (by rw [ofL_length, hl.out]; omega)] at hB; exact hB, hbw⟩
end Go.Proofs.YtkejpkcaojidaaaGreatDoor

namespace Go.Proofs.YtkejpkcaojidaaaGreatDoor
open Go.RowKit

def numL (xs : List Int) : Int := xs.foldl (fun n x => 2 * n + (x - 1)) 0
theorem numL_snoc (xs : List Int) (k : Nat) (h : k < xs.length) : numL (xs.take (k + 1)) = 2 * numL (xs.take k) + (xs.getD k 0 - 1) := by
  unfold numL
  rw [List.take_succ_eq_append_getElem h, List.foldl_append, getD_at xs k h]
  rfl
theorem wholeL_at (xs : List Int) (k : Nat) (h : k < xs.length) (hw : wholeL xs = true) : xs.getD k 0 = 1 ∨ xs.getD k 0 = 2 := by
  rw [wholeL, List.all_eq_true] at hw
  have := hw xs[k] (List.getElem_mem h)
  rw [getD_at xs k h]
  simpa [wholeB] using this
theorem numL_bd (xs : List Int) (hw : wholeL xs = true) : ∀ k, k ≤ xs.length → 0 ≤ numL (xs.take k) ∧ numL (xs.take k) < 2 ^ k := by
  intro k
  induction k with
  | zero => intro _; simp [numL]
  | succ k ih =>
    intro h
    have h1 := ih (by omega)
    have h2 := wholeL_at xs k (by omega) hw
    rw [numL_snoc xs k (by omega), Int.pow_succ]
    omega
/-- What Num answers. -/
def numR (xs : List Int) : Int := if xs.length ≤ 64 ∧ wholeL xs = true then numL xs else 0
def numOk (xs : List Int) : Bool := decide (xs.length ≤ 64) && wholeL xs

end Go.Proofs.YtkejpkcaojidaaaGreatDoor

namespace Go.Proofs.YtkejpkcaojidaaaGreatDoor
open Go.RowKit

/-- The number's symbols, of so many bits: symbol i is that of bit (m - 1 - i). -/
def symL (n : Int) (m : Nat) : List Int := (List.range m).map fun i => symI (n / 2 ^ (m - 1 - i))
theorem symL_length (n : Int) (m : Nat) : (symL n m).length = m := by simp [symL]

end Go.Proofs.YtkejpkcaojidaaaGreatDoor

