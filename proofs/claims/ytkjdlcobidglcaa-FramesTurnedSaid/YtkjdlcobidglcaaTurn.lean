/-
  The contract of bits.Turn: the symbols with those at the told places turned, in new memory; nothing that was there has turned. Conditions: the slices' readings, lengths of at most 65536.
-/
import Derived.Test.YtkjdlcobidglcaaSmall
namespace Go.Proofs.Ytkjdlcobidglcaa
open Go.RowKit

/-- One place told. -/
def turnAt (xs : List Int) (p : Int) : List Int := if 0 ≤ p ∧ p < xs.length then xs.set p.toNat (turnI (xs.getD p.toNat 0)) else xs
def turnAll (xs : List Int) (ps : List Int) : List Int := ps.foldl turnAt xs
theorem turnAt_length (xs : List Int) (p : Int) : (turnAt xs p).length = xs.length := by unfold turnAt; split <;> simp
theorem turnAll_length (ps : List Int) : ∀ xs : List Int, (turnAll xs ps).length = xs.length := by
  induction ps with
  | nil => intro xs; rfl
  | cons p ps ih => intro xs; show (turnAll (turnAt xs p) ps).length = _; rw [ih, turnAt_length]
theorem turnAll_snoc (xs ps : List Int) (k : Nat) (h : k < ps.length) : turnAll xs (ps.take (k + 1)) = turnAt (turnAll xs (ps.take k)) (ps.getD k 0) := by
  unfold turnAll
  rw [List.take_succ_eq_append_getElem h, List.foldl_append, getD_at ps k h]
  rfl

theorem info_sym : (Try.prog.info? 77).map (fun i => (i.zero, i.size, i.bytes)) = some (some (.int .u8 0), 1, 1) := by kernel_rfl
theorem size_sym : (Try.prog.info? 77).map (·.size) = some 1 := by kernel_rfl

theorem turn_any (A B : Option Addr) (n m c d : Nat) (xs ps : List Int) (w : World) (hx : Lies .u8 w w.heap.size A n xs) (hp : Lies .i64 w w.heap.size B m ps) (hn : n ≤ 65536) (hm : m ≤ 65536) :
    Calls Try.prog 33 #[.slice A n c, .slice B m d] w fun e w' => ∃ g, e = .returned (.slice (some ⟨g, 0, none⟩) n n) ∧ w.heap.size ≤ g ∧ Blk w' g 77 (cellsOf .u8 (turnAll xs ps)) ∧ Below w.heap.size w w' := by
  obtain ⟨i0, hi0, hz0, hz1, hz2⟩ := info_parts info_sym
  have hmk : ∀ u : World, (Instr.makeSlice 40 (.int .i64 (n : Int)) (.int .i64 (n : Int))).run Try.prog u =
      .ok (.slice (some ⟨u.heap.size, 0, none⟩) n n) (u.alloc (.cells (madeCells #[.int .u8 0] n) 77)) := fun u => by
    have h := run_make (P := Try.prog) u 40 77 i0 (.int .u8 0) Try.underlying40 hi0 hz0 .i64 .i64 (n : Int) (n : Int) (by omega) (Int.le_refl _) (by rw [hz2]; omega) (by omega)
    simpa [hz1, Value.cells] using h
  obtain ⟨cs, hcs⟩ : ∃ cs, cs = xs.map (Value.int .u8) := ⟨_, rfl⟩
  have HCS := Lib.hid hcs
  clear hcs
  go_enter Try.func33, Try.ntmps33
  go_wp2_with (with_reducible refine wpList_copy_splice rfl (.tmp 11) (.tmp 12) 40 40 rfl 77 Try.underlying40 size_sym (some ⟨w.heap.size, 0, none⟩) A n n n c rfl rfl w.heap.size 0 (madeCells #[.int .u8 0] n).toList 77 ?h1 cs ?h2 ?h3 ?h4 ?h5 w.heap.size w ?h6 (Nat.le_refl _) ?_)
  case h1 => rw [Array.toArray_toList]; exact Blk.new w _ _
  case h2 => rw [HCS.out, List.length_map, hx.len]; exact (Nat.min_self n).symm
  case h3 => rw [HCS.out]; intro h0; exact ((hx.al _).src h0)
  case h4 => rw [HCS.out, List.length_map, hx.len, Array.length_toList, made_size]; omega
  case h5 => rw [HCS.out]; exact ints_oneCell _ _
  case h6 => exact (Below.refl _ _).alloc (Nat.le_refl _) _
  intro w2 hrow hb2
  have hblk : Blk w2 w.heap.size 77 (cellsOf .u8 xs) := by
    have h := hrow.out
    rw [splice_whole _ _ (by rw [HCS.out, List.length_map, hx.len, Array.length_toList, made_size]), HCS.out] at h
    exact h
  have hl := Lib.hid hx.len
  clear hrow hmk hz0 hz1 hz2 hi0 HCS
  go_wp2
  go_loopw [16] (fun i wr => ∃ k : Nat, k ≤ m ∧ i = .int .i64 k ∧ Blk wr w.heap.size 77 (cellsOf .u8 (turnAll xs (ps.take k))) ∧ Below w.heap.size w wr) (fun i _ => m - (intOf i).toNat)
  case atStart => exact ⟨0, Nat.zero_le _, rfl, hblk, hb2⟩
  case round =>
    obtain ⟨k, hk, rfl, hB, hbw⟩ := hrel
    clear hblk hb2
    by_cases hlt : k < m
    · obtain ⟨b, off, rfl, hbb, hc⟩ := hp.at_ (by omega)
      have hcell : wr.cell? ⟨b, off + k, none⟩ = some (.int .i64 (ps.getD k 0)) := (hbw.cell (p := ⟨b, off + k, none⟩) hbb).trans (hc k hlt)
      clear hc
      have hS := Lib.hid (turnAll_snoc xs ps k (by have := hp.len; omega))
      obtain ⟨p, hp1⟩ : ∃ p, p = ps.getD k 0 := ⟨_, rfl⟩
      rw [← hp1] at hcell hS
      clear hp1
      obtain ⟨ys, hys⟩ : ∃ ys, ys = turnAll xs (ps.take k) := ⟨_, rfl⟩
      have hyl := Lib.hid (show ys.length = n by rw [hys, turnAll_length, hl.out])
      rw [← hys] at hB hS
      clear hys
      by_cases hin : 0 ≤ p ∧ p < n
      · obtain ⟨pn, rfl⟩ : ∃ pn : Nat, p = pn := ⟨p.toNat, by omega⟩
        have hpn : pn < n := by omega
        have hc1 : wr.cell? ⟨w.heap.size, pn, none⟩ = some (.int .u8 (ys.getD pn 0)) := (hB.cell pn).trans (cellsOf_at _ _ _ (by rw [hyl.out]; exact hpn))
        have hf1 := hB.frozen pn
        have hnew := hB.set_ pn (.int .u8 (turnI (ys.getD pn 0)))
        rw [cellsOf_set] at hnew
        have hE := Lib.hid (show turnAt ys (pn : Int) = ys.set pn (turnI (ys.getD pn 0)) by rw [turnAt, if_pos (by rw [hyl.out]; omega)]; rfl)
        obtain ⟨y, hy⟩ : ∃ y, y = ys.getD pn 0 := ⟨_, rfl⟩
        rw [← hy] at hc1 hnew hE
        clear hy hin
        have HN := Lib.hid hnew
        clear hnew
        go_wp2_with (go_at_call 53; refine (turned_any _ _).mono ?_; rintro e w' ⟨rfl, rfl⟩)
        go_roundw
        case rel => exact ⟨k + 1, by omega, by go_num, by rw [hS.out, hE.out]; exact HN.out, hbw.setCell (Nat.le_refl _) _⟩
        case measure => simp [intOf]; omega
      · have hE := Lib.hid (show turnAt ys p = ys by rw [turnAt, if_neg (by rw [hyl.out]; exact hin)])
        by_cases hneg : 0 ≤ p
        · have hge : (n : Int) ≤ p := by omega
          clear hin
          go_wp2
          go_roundw
          case rel => exact ⟨k + 1, by omega, by go_num, by rw [hS.out, hE.out]; exact hB, hbw⟩
          case measure => simp [intOf]; omega
        · have hge : p < 0 := by omega
          have hd : decide (0 ≤ p) = false := by simpa using hge
          clear hin
          go_wp2
          go_roundw
          case rel => exact ⟨k + 1, by omega, by go_num, by rw [hS.out, hE.out]; exact hB, hbw⟩
          case measure => simp [intOf]; omega
    · have e : Hid (ps.take k = ps) := Lib.hid (List.take_of_length_le (by have := hp.len; omega))
      go_wp2
      go_ret
      exact ⟨w.heap.size, rfl, Nat.le_refl _, by rw [e.out] at hB; exact hB, hbw⟩
end Go.Proofs.Ytkjdlcobidglcaa
