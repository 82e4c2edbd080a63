/-
  The contract of the reference's Bytes: the bytes whose symbols these are, and true; nothing and false, if they are not whole or no multiple of eight. Conditions: the slice's reading, a length of at most 65536 within the capacity.
-/
import Derived.Test.YtpjcbfapkjipjaaRefs
namespace Go.Proofs.Ytpjcbfapkjipjaa
open Go.RowKit

theorem refBytes_no (A : Option Addr) (n c : Nat) (xs : List Int) (w : World) (hx : Lies .u8 w w.heap.size A n xs) (hn : n ≤ 65536) (ho : bytesOk xs = false) :
    Calls Try.prog 42 #[.slice A n c] w fun e w' => e = .returned (.tuple #[.slice none 0 0, .bool false]) ∧ w = w' := by
  have hl := Lib.hid hx.len
  by_cases h8 : n % 8 = 0
  · have hw : wholeL xs = false := by rw [bytesOk, hl.out, decide_eq_true h8] at ho; simpa using ho
    have h8' : ((n : Int) % 8 != 0) = false := by simp; omega
    clear ho h8
    go_enter Try.func42, Try.ntmps42
    go_wp2_with (go_at_call 52; refine (refWhole_any A n c xs _ hx hn).mono ?_; rintro e w' ⟨rfl, rfl⟩)
    go_ret2
    exact ⟨rfl, rfl⟩
  · have h8' : ((n : Int) % 8 != 0) = true := by simp; omega
    clear ho h8
    go_enter Try.func42, Try.ntmps42
    go_wp2
    go_ret2
    exact ⟨rfl, rfl⟩

theorem bytesL_at (xs : List Int) (q : Nat) (h : 8 * q + 8 ≤ xs.length) : (bytesL xs).getD q 0 = numL ((xs.drop (8 * q)).take 8) := by
  rw [bytesL, byL_at _ _ _ (by omega), byAt, show min (xs.length - 8 * q) 8 = 8 by omega]
theorem bytesL_length (xs : List Int) : (bytesL xs).length = xs.length / 8 := byL_length _ _
theorem wholeL_part (xs : List Int) (i j : Nat) (h : wholeL xs = true) : wholeL ((xs.drop i).take j) = true := by
  rw [wholeL, List.all_eq_true] at h ⊢
  exact fun x hx => h x (List.mem_of_mem_drop (List.mem_of_mem_take hx))
theorem part_num (xs : List Int) (q : Nat) (hw : wholeL xs = true) (h : 8 * q + 8 ≤ xs.length) : numR ((xs.drop (8 * q)).take 8) = (bytesL xs).getD q 0 ∧ 0 ≤ (bytesL xs).getD q 0 ∧ (bytesL xs).getD q 0 < 256 := by
  have hl : ((xs.drop (8 * q)).take 8).length = 8 := by simp; omega
  have hp := wholeL_part xs (8 * q) 8 hw
  have hb := numL_bd _ hp 8 (by omega)
  rw [List.take_of_length_le (by omega)] at hb
  rw [bytesL_at xs q h, numR, if_pos ⟨by omega, hp⟩]
  exact ⟨rfl, hb.1, hb.2⟩

set_option maxRecDepth 100000 in
theorem refBytes_owns (A : Option Addr) (n c : Nat) (xs : List Int) (w : World) (hx : Lies .u8 w w.heap.size A n xs) (hn : n ≤ 65536) (hcap : n ≤ c) (ho : bytesOk xs = true) :
    Calls Try.prog 42 #[.slice A n c] w fun e w' => ∃ A' c', e = .returned (.tuple #[.slice A' (n / 8) c', .bool true]) ∧ w'.ownsRow w.heap.size 5 1 (.slice A' (n / 8) c') (n / 8) ((bytesL xs).map (Value.int .u8)) ∧ Below w.heap.size w w' := by
  have hl := Lib.hid hx.len
  have h8 : n % 8 = 0 := by simp [bytesOk, hl.out] at ho; exact ho.1
  have hw : wholeL xs = true := by simp [bytesOk] at ho; exact ho.2
  have h8' : ((n : Int) % 8 != 0) = false := by simp; omega
  have HW := Lib.hid hw
  obtain ⟨N, hN⟩ : ∃ N, n = 8 * N := ⟨n / 8, by omega⟩
  have hN8 : n / 8 = N := by omega
  rw [hN8]
  have HN := Lib.hid hN
  clear ho h8 hN8 hN
  have HT := Lib.hid (show (bytesL xs).length = N by rw [bytesL_length, hl.out, HN.out]; omega)
  have HV := Lib.hid (fun q (hq : q < N) => part_num xs q HW.out (by rw [hl.out, HN.out]; omega))
  obtain ⟨ts, hts⟩ : ∃ ts, ts = bytesL xs := ⟨_, rfl⟩
  rw [← hts] at HT HV ⊢
  clear hts
  obtain ⟨i0, hi0, hz0, hz1, hz2⟩ := info_parts info_byte
  go_enter Try.func42, Try.ntmps42
  go_wp2_with (go_at_call 52; refine (refWhole_any A n c xs _ hx hn).mono ?_; rintro e w' ⟨rfl, rfl⟩)
  clear hw h8'
  go_loopw [4, 5] (fun v1 iv wr => ∃ (q : Nat) (A' : Option Addr) (c' : Nat), q ≤ N ∧ iv = .int .i64 (8 * (q : Int)) ∧ v1 = .slice A' q c' ∧ wr.ownsRow w.heap.size 5 1 (.slice A' q c') q ((ts.take q).map (Value.int .u8)) ∧ Below w.heap.size w wr) (fun _ iv _ => n - (intOf iv).toNat)
  case atStart => exact ⟨0, none, 0, Nat.zero_le _, rfl, rfl, ⟨rfl, .inl ⟨rfl, rfl⟩⟩, Below.refl _ _⟩
  case round =>
    obtain ⟨q, A', c', hq, rfl, rfl, hown, hb⟩ := hrel
    have hnN : n ≤ 8 * N := Nat.le_of_eq HN.out
    have hnN' : 8 * N ≤ n := Nat.le_of_eq HN.out.symm
    by_cases hlt : q < N
    · have hlti : 8 * (q : Int) < (n : Int) := by omega
      obtain ⟨b, off, rfl, hbb, hc⟩ := hx.at_ (by omega)
      have hcut : Lies .u8 wr wr.heap.size (some ⟨b, off + 8 * q, none⟩) 8 ((xs.drop (8 * q)).take 8) := ⟨by simp; rw [hl.out]; omega, fun _ => ⟨b, off + 8 * q, rfl, Nat.lt_of_lt_of_le hbb hb.size, fun j hj => by
        have h := (hb.cell (p := ⟨b, off + (8 * q + j), none⟩) hbb).trans (hc (8 * q + j) (by omega))
        rw [Nat.add_assoc, h]
        simp only [List.getD]
        rw [List.getElem?_take_of_lt hj, List.getElem?_drop]⟩⟩
      have hsl : ∀ W : World, (Instr.sliceAt 22 (.slice (some ⟨b, off, none⟩) n c) (some (.int .i64 (8 * (q : Int)))) (some (.int .i64 (8 * (q : Int) + 8))) none).run Try.prog W = .ok (.slice (some ⟨b, off + 8 * q, none⟩) 8 (c - 8 * q)) W := fun W => by
        have h := cut_syms b off n c (8 * (q : Int)) (8 * (q : Int) + 8) (by omega) (by omega) (by omega) (by omega) W
        rw [show (8 * (q : Int)).toNat = 8 * q by omega, show (8 * (q : Int) + 8).toNat - 8 * q = 8 by omega] at h
        rw [run_sliceAt_slice W _ _ _ _ _ elem_syms]
        exact h
      obtain ⟨hv1, hv2, hv3⟩ := HV.out q hlt
      have hy := Lib.hid (show ts.getD q 0 = ts.getD q 0 from rfl)
      have hnum := refNum_any (some ⟨b, off + 8 * q, none⟩) 8 (c - 8 * q) _ wr hcut (by omega)
      rw [hv1] at hnum
      obtain ⟨y, hy1⟩ : ∃ y, y = ts.getD q 0 := ⟨_, rfl⟩
      rw [← hy1] at hnum hv2 hv3
      have HY := Lib.hid hy1.symm
      have HNUM := Lib.hid hnum
      have hq9 : q ≤ 65536 := by omega
      have HC := Lib.hid hcap
      clear hnum hy1 hv1 hc hcut hy
      have hl1 := Lies.new wr 5 .u8 [y] 1 rfl #[.int .u8 y] rfl
      have hown' := hown.alloc (.cells #[.int .u8 y] 5)
      go_wp2_with (first
        | (go_at_call 53; with_reducible refine (HNUM.out).mono ?_; rintro e w' ⟨rfl, rfl⟩)
        | (at_builtin; with_reducible refine wpList_append_lies rfl (.tmp 32) (.tmp 35) 79 rfl w.heap.size 5 i0 _ 1 Try.underlying79 hi0 hz0 hz1 hz2 rfl .u8 (.slice A' q c') q (ts.take q) rfl hown' (some ⟨wr.heap.size, 0, none⟩) 1 1 [y] rfl hl1 (q + 1) rfl (by unfold maxLen; omega) (by omega) (Nat.le_trans hb.size (by simp)) ?_))
      intro A2 c2 w2 hown2 hg2 _
      have hb2 := (below_al hb _).grown hg2 (Nat.le_trans hb.size (by simp)) (fun r hr => (hown.lt r hr).1)
      have hown3 := owns_snoc (ts := ts) hown2 (by rw [HT.out]; omega) HY.out
      clear hown hown' hown2 hg2 hl1 hsl
      go_wp2_with fail
      go_roundw
      case rel => exact ⟨q + 1, A2, c2, by omega, by go_num, rfl, hown3, hb2⟩
      case measure => simp [intOf]; omega
    · have hlti : (n : Int) ≤ 8 * (q : Int) := by omega
      obtain rfl : q = N := by omega
      go_wp2_with fail
      go_ret2
      refine ⟨A', c', rfl, (by rw [List.take_of_length_le (by rw [HT.out]; exact Nat.le_refl _)] at hown; exact hown), hb⟩
theorem owns_cap {w : World} {base n c size : Nat} {e : TypeId} {A : Option Addr} {xs : List Value} (h : w.ownsRow base e size (.slice A n c) n xs) : n ≤ c := by
  rcases h.2 with ⟨_, h0⟩ | ⟨g, cap, cur, hv, _, _, hc, _⟩
  · omega
  · injection hv with _ _ h3
    omega
theorem refBytes_yes (A : Option Addr) (n c : Nat) (xs : List Int) (w : World) (hx : Lies .u8 w w.heap.size A n xs) (hn : n ≤ 65536) (hcap : n ≤ c) (ho : bytesOk xs = true) :
    Calls Try.prog 42 #[.slice A n c] w fun e w' => ∃ A' c', e = .returned (.tuple #[.slice A' (n / 8) c', .bool true]) ∧ Lies .u8 w' w'.heap.size A' (n / 8) (bytesL xs) ∧ Below w.heap.size w w' :=
  (refBytes_owns A n c xs w hx hn hcap ho).mono fun _ _ ⟨A', c', h1, h2, h3⟩ => ⟨A', c', h1, lies_of_owns h2, h3⟩
end Go.Proofs.Ytpjcbfapkjipjaa
