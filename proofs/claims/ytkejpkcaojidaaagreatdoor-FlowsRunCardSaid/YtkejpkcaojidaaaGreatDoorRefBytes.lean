/-
  The contract of the reference's Bytes: the bytes whose symbols these are, and true; nothing and false, if they are not whole or no multiple of eight. Conditions: the slice's reading, a length of at most 65536 within the capacity.
-/
import Derived.Test.YtkejpkcaojidaaaGreatDoorMath
import Derived.Test.YtkejpkcaojidaaaGreatDoorApp
namespace Go.Proofs.YtkejpkcaojidaaaGreatDoor
set_option linter.unusedVariables false
set_option linter.unusedSimpArgs false
open Go.RowKit

theorem refWhole_any (A : Option Addr) (n c : Nat) (xs : List Int) (w : World) (hr : Lies .u8 w w.heap.size A n xs) (hn : n ≤ 65536) :
    Calls Tryz.prog 124 #[.slice A n c] w fun e w' => e = .returned (.bool (wholeL xs)) ∧ w = w' := by
  have hl := hr.len
  subst hl
  go_enter Tryz.func124, Tryz.ntmps124
  go_wp2_with fail
  go_loop [3] (fun i => ∃ k : Nat, k ≤ xs.length ∧ i = .int .i64 k ∧ Hid (wholeL (xs.take k) = true)) (fun i => xs.length - (intOf i).toNat)
  case atStart => exact ⟨0, Nat.zero_le _, rfl, Lib.hid rfl⟩
  case round =>
    obtain ⟨k, hk, rfl, hw⟩ := hrel
    by_cases hlt : k < xs.length
    · obtain ⟨b, off, rfl, hb, hc⟩ := hr.at_ (by omega)
      have hcell := hc k hlt
      clear hc
      obtain ⟨x, hx⟩ : ∃ x, x = xs.getD k 0 := ⟨_, rfl⟩
      rw [← hx] at hcell
      have hX := Lib.hid hx
      clear hx
      by_cases h1 : x = 1
      · have e1 : (x != 1) = false := by simp [h1]
        have hW := Lib.hid (show wholeB x = true by simp [wholeB, h1])
        clear h1
        go_wp2_with fail
        go_round
        case rel => exact ⟨k + 1, by omega, by go_num, Lib.hid (by rw [wholeL_snoc xs k hlt, hw.out, ← hX.out, hW.out]; rfl)⟩
        case measure => simp [intOf]; omega
      · have e1 : (x != 1) = true := by simp [h1]
        by_cases h2 : x = 2
        · have e2 : (x != 2) = false := by simp [h2]
          have hW := Lib.hid (show wholeB x = true by simp [wholeB, h2])
          clear h1 h2
          go_wp2_with fail
          go_round
          case rel => exact ⟨k + 1, by omega, by go_num, Lib.hid (by rw [wholeL_snoc xs k hlt, hw.out, ← hX.out, hW.out]; rfl)⟩
          case measure => simp [intOf]; omega
        · have e2 : (x != 2) = true := by simp [h2]
          have hW := Lib.hid (show wholeB x = false by simp [wholeB, h1, h2])
          clear h1 h2
          go_wp2_with fail
          go_ret
          exact ⟨ret_bool (wholeL_not xs k hlt (by rw [← hX.out]; exact hW.out)).symm, rfl⟩
    · go_wp2_with fail
      go_ret
      exact ⟨ret_bool (by have := hw.out; rw [List.take_of_length_le (by omega)] at this; exact this.symm), rfl⟩

theorem refNum_any (A : Option Addr) (n c : Nat) (xs : List Int) (w : World) (hx : Lies .u8 w w.heap.size A n xs) (hn : n ≤ 65536) :
    Calls Tryz.prog 125 #[.slice A n c] w fun e w' => e = .returned (.tuple #[.int .u64 (numR xs), .bool (numOk xs)]) ∧ w = w' := by
  have hl := Lib.hid hx.len
  by_cases h64 : n ≤ 64
  · by_cases hw : wholeL xs = true
    · go_enter Tryz.func125, Tryz.ntmps125
      have HW := Lib.hid hw
      go_wp2_with (go_at_call 124; refine (refWhole_any A n c xs _ hx hn).mono ?_; rintro e w' ⟨rfl, rfl⟩)
      clear hw
      go_loop [5, 4] (fun i v => ∃ k : Nat, k ≤ n ∧ i = .int .i64 k ∧ v = .int .u64 (numL (xs.take k))) (fun i _ => n - (intOf i).toNat)
      case atStart => exact ⟨0, Nat.zero_le _, rfl, rfl⟩
      case round =>
        obtain ⟨k, hk, rfl, rfl⟩ := hrel
        by_cases hlt : k < n
        · obtain ⟨b, off, rfl, hb, hc⟩ := hx.at_ (by omega)
          have hcell := hc k hlt
          clear hc
          have hS := Lib.hid (numL_snoc xs k (by rw [hl.out]; exact hlt))
          obtain ⟨hv0, hv1⟩ := numL_bd xs HW.out k (by rw [hl.out]; omega)
          have hv2 : numL (xs.take k) < 9223372036854775808 := Int.lt_of_lt_of_le hv1 (by
            have : (2 : Int) ^ k ≤ 2 ^ 63 := by exact_mod_cast Nat.pow_le_pow_right (by decide) (show k ≤ 63 by omega)
            exact this)
          clear hv1
          have hx12 := wholeL_at xs k (by rw [hl.out]; exact hlt) HW.out
          obtain ⟨x, hx1⟩ : ∃ x, x = xs.getD k 0 := ⟨_, rfl⟩
          obtain ⟨v, hv⟩ : ∃ v, v = numL (xs.take k) := ⟨_, rfl⟩
          rw [← hx1] at hcell hS hx12
          rw [← hv] at hv0 hv2 hS ⊢
          clear hx1 hv
          rcases hx12 with rfl | rfl
          · have h12 : ((1 : Int) == 2) = false := by decide
            go_wp2_with fail
            go_round
            case rel => exact ⟨k + 1, by omega, by go_num, by rw [hS.out]; go_num⟩
            case measure => simp [intOf]; omega
          · have h22 : ((2 : Int) == 2) = true := by decide
            go_wp2_with fail
            go_round
            case rel => exact ⟨k + 1, by omega, by go_num, by rw [hS.out]; go_num⟩
            case measure => simp [intOf]; omega
        · have e : Hid (xs.take k = xs) := Lib.hid (List.take_of_length_le (by rw [hl.out]; omega))
          go_wp2_with fail
          go_ret2
          refine ⟨?_, rfl⟩
          rw [e.out, numR, if_pos ⟨by rw [hl.out]; exact h64, HW.out⟩, numOk, HW.out, hl.out]
          simp [h64]
    · have HW := Lib.hid hw
      have hw' : wholeL xs = false := by simpa using hw
      have e1 := Lib.hid (show numR xs = 0 by rw [numR, if_neg (fun h => HW.out h.2)])
      have e2 := Lib.hid (show numOk xs = false by rw [numOk, hw', Bool.and_false])
      clear hw
      go_enter Tryz.func125, Tryz.ntmps125
      go_wp2_with (go_at_call 124; refine (refWhole_any A n c xs _ hx hn).mono ?_; rintro e w' ⟨rfl, rfl⟩)
      go_ret2
      exact ⟨by rw [e1.out, e2.out]; rfl, rfl⟩
  · have hgt : (64 : Int) < (n : Int) := by omega
    have e1 := Lib.hid (show numR xs = 0 by rw [numR, if_neg (fun h => by rw [hl.out] at h; omega)])
    have e2 := Lib.hid (show numOk xs = false by rw [numOk, hl.out]; simp [h64])
    clear h64
    go_enter Tryz.func125, Tryz.ntmps125
    go_wp2_with fail
    go_ret2
    exact ⟨by rw [e1.out, e2.out]; rfl, rfl⟩

theorem div_step (v : Int) (k : Nat) : v / 2 ^ k / 2 = v / 2 ^ (k + 1) := by
  rw [Int.pow_succ, Int.ediv_ediv_of_nonneg (Int.le_of_lt (Int.pow_pos (by decide)))]
theorem bit_any (v : Int) (i : Nat) (w : World) (hi : i ≤ 64) (hv0 : 0 ≤ v) (hv1 : v < 18446744073709551616) :
    Calls Tryz.prog 122 #[.int .u64 v, .int .i64 i] w fun e w' => e = .returned (.int .u8 (symI (v / 2 ^ i))) ∧ w = w' := by
  go_enter Tryz.func122, Tryz.ntmps122
  go_wp2_with fail
  go_loop [0, 5] (fun nv kv => ∃ k : Nat, k ≤ i ∧ kv = .int .i64 k ∧ nv = .int .u64 (v / 2 ^ k)) (fun _ kv => i - (intOf kv).toNat)
  case atStart => exact ⟨0, Nat.zero_le _, rfl, by simp⟩
  case round =>
    obtain ⟨k, hk, rfl, rfl⟩ := hrel
    have h0 : 0 ≤ v / 2 ^ k := div_lo hv0
    have h1 : v / 2 ^ k < 18446744073709551616 := div_hi hv0 hv1
    have hs := Lib.hid (div_step v k)
    obtain ⟨x, hx⟩ : ∃ x, x = v / 2 ^ k := ⟨_, rfl⟩
    rw [← hx] at h0 h1 hs ⊢
    have HX := Lib.hid hx
    clear hx
    by_cases hlt : k < i
    · have hlti : (k : Int) < (i : Int) := by omega
      go_wp2_with fail
      go_round
      case rel => exact ⟨k + 1, by omega, by go_num, by rw [← hs.out]⟩
      case measure => simp [intOf]; omega
    · have hlti : (i : Int) ≤ (k : Int) := by omega
      obtain rfl : k = i := by omega
      by_cases h : x % 2 = 1
      · have hb : (x % 2 == 1) = true := by simpa using h
        have hy := Lib.hid (show symI x = 2 by simp [symI, h])
        clear h
        go_wp2_with fail
        go_ret
        exact ⟨ret_int (by rw [← HX.out, hy.out]), rfl⟩
      · have hb : (x % 2 == 1) = false := by simpa using h
        have hy := Lib.hid (show symI x = 1 by simp [symI, h])
        clear h
        go_wp2_with fail
        go_ret
        exact ⟨ret_int (by rw [← HX.out, hy.out]), rfl⟩

end Go.Proofs.YtkejpkcaojidaaaGreatDoor

namespace Go.Proofs.YtkejpkcaojidaaaGreatDoor
open Go.RowKit

end Go.Proofs.YtkejpkcaojidaaaGreatDoor

namespace Go.Proofs.YtkejpkcaojidaaaGreatDoor
open Go.RowKit

theorem ofL_idx (bs : List Int) (i r : Nat) (hi : i < bs.length) (hr : r < 8) : (ofL bs).getD (8 * i + (8 - (r + 1))) 0 = symI (bs.getD i 0 / 2 ^ r) := by
  rw [ofL_at _ _ (by omega), ofAt, show (8 * i + (8 - (r + 1))) / 8 = i by omega, show 7 - (8 * i + (8 - (r + 1))) % 8 = r by omega]
set_option maxRecDepth 100000 in
theorem refSyms_owns (A : Option Addr) (n c : Nat) (bs : List Int) (w : World) (hx : Lies .u8 w w.heap.size A n bs) (hbd : ∀ x ∈ bs, 0 ≤ x ∧ x ≤ 255) (hn : n ≤ 65536) :
    Calls Tryz.prog 101 #[.slice A n c] w fun e w' => ∃ A' c', e = .returned (.slice A' (8 * n) c') ∧ w'.ownsRow w.heap.size 47 1 (.slice A' (8 * n) c') (8 * n) ((ofL bs).map (Value.int .u8)) ∧ Below w.heap.size w w' := by
  obtain ⟨i0, hi0, hz0, hz1, hz2⟩ := info_parts info_sym
  have HL := Lib.hid hx.len
  have HBD := Lib.hid hbd
  clear hbd
  obtain ⟨ts, hts⟩ : ∃ ts, ts = ofL bs := ⟨_, rfl⟩
  have HT := Lib.hid (show ts.length = 8 * n by rw [hts, ofL_length, hx.len])
  have HV := Lib.hid (fun i r (hi : i < n) (hr : r < 8) => ofL_idx bs i r (by rw [hx.len]; exact hi) hr)
  rw [← hts] at HV ⊢
  clear hts
  go_enter Tryz.func101, Tryz.ntmps101
  go_wp2_with fail
  go_loopw [3, 4] (fun v1 iv wr => ∃ (i : Nat) (A' : Option Addr) (c' : Nat), i ≤ n ∧ iv = .int .i64 i ∧ v1 = .slice A' (8 * i) c' ∧ wr.ownsRow w.heap.size 47 1 (.slice A' (8 * i) c') (8 * i) ((ts.take (8 * i)).map (Value.int .u8)) ∧ Below w.heap.size w wr) (fun _ iv _ => n - (intOf iv).toNat)
  case atStart => exact ⟨0, none, 0, Nat.zero_le _, rfl, rfl, ⟨rfl, .inl ⟨rfl, rfl⟩⟩, Below.refl _ _⟩
  case round =>
    obtain ⟨i, A', c', hi, rfl, rfl, hown, hb⟩ := hrel
    by_cases hlt : i < n
    · have hlti : (i : Int) < (n : Int) := by omega
      obtain ⟨b, off, rfl, hbb, hc⟩ := hx.at_ (by omega)
      have hcw := hc i hlt
      have hxb := HBD.out (bs.getD i 0) (by rw [getD_at _ _ (by rw [HL.out]; exact hlt)]; exact List.getElem_mem _)
      have HVi := Lib.hid (fun r hr => HV.out i r hlt hr)
      obtain ⟨x, hx1⟩ : ∃ x, x = bs.getD i 0 := ⟨_, rfl⟩
      rw [← hx1] at hcw hxb HVi
      clear hx1 hc
      obtain ⟨hx0, hx9⟩ := hxb
      go_wp2_with fail
      go_loopw [3, 5] (fun v1 kv wx => ∃ (j : Nat) (A' : Option Addr) (c' : Nat), j ≤ 8 ∧ kv = .int .i64 ((j : Int) - 1) ∧ v1 = .slice A' (8 * i + (8 - j)) c' ∧ wx.ownsRow w.heap.size 47 1 (.slice A' (8 * i + (8 - j)) c') (8 * i + (8 - j)) ((ts.take (8 * i + (8 - j))).map (Value.int .u8)) ∧ Below w.heap.size w wx) (fun _ kv _ => ((intOf kv) + 1).toNat)
      case atStart => exact ⟨8, A', c', Nat.le_refl _, rfl, rfl, hown, hb⟩
      case round =>
        clear hown hb
        obtain ⟨j, A', c', hj, rfl, rfl, hown, hb⟩ := hrel
        by_cases hj0 : j = 0
        · subst hj0
          go_wp2_with fail
          go_roundw
          case rel => exact ⟨i + 1, A', c', by omega, by go_num, rfl, hown, hb⟩
          case measure => simp [intOf]; omega
        · obtain ⟨r, rfl⟩ : ∃ r, j = r + 1 := ⟨j - 1, by omega⟩
          clear hj0
          have hcell := (hb.cell (p := ⟨b, off + i, none⟩) hbb).trans hcw
          have hre : ((r + 1 : Nat) : Int) - 1 = (r : Int) := by omega
          rw [hre]
          have hr1 : (0 : Int) ≤ (r : Int) := by omega
          have hidx : 8 * i + (8 - (r + 1)) < 8 * n := by omega
          obtain ⟨q, hq⟩ : ∃ q, q = 8 * i + (8 - (r + 1)) := ⟨_, rfl⟩
          have HQ1 := Lib.hid (show 8 * i + (8 - r) = q + 1 by omega)
          have hy := Lib.hid (HVi.out r (by omega))
          rw [← hq] at hown hidx hy ⊢
          clear hq hre
          obtain ⟨y, hy1⟩ : ∃ y, y = symI (x / 2 ^ r) := ⟨_, rfl⟩
          have hbit := bit_any x r
          rw [← hy1] at hbit hy
          have HBIT := Lib.hid hbit
          clear hbit hy1
          have hq9 : q ≤ 1000000 := by omega
          have hl1 := Lies.new wr 47 .u8 [y] 1 rfl #[.int .u8 y] rfl
          have hown' := hown.alloc (.cells #[.int .u8 y] 47)
          go_wp2_with (first
            | (go_at_call 122; with_reducible refine (HBIT.out _ (by omega) hx0 (by omega)).mono ?_; rintro e w' ⟨rfl, rfl⟩)
            | (at_builtin; with_reducible refine wpList_append_lies rfl (.tmp 16) (.tmp 24) 126 rfl w.heap.size 47 i0 _ 1 Tryz.underlying126 hi0 hz0 hz1 hz2 rfl .u8 (.slice A' (q) c') (q) (ts.take (q)) rfl hown' (some ⟨wr.heap.size, 0, none⟩) 1 1 [y] rfl hl1 (q + 1) rfl (by unfold maxLen; omega) (by omega) (Nat.le_trans hb.size (by simp)) ?_))
          intro A2 c2 w2 hown2 hg2 _
          have hb2 := (below_al hb _).grown hg2 (Nat.le_trans hb.size (by simp)) (fun r hr => (hown.lt r hr).1)
          have hown3 := owns_snoc (ts := ts) hown2 (by rw [HT.out]; omega) hy.out
          clear hown hown' hown2 hg2 hl1
          go_wp2_with fail
          go_roundw
          case rel => exact ⟨r, A2, c2, by omega, by go_num, by rw [HQ1.out], by rw [HQ1.out]; exact hown3, hb2⟩
          case measure => simp [intOf]
    · have hlti : (n : Int) ≤ (i : Int) := by omega
      obtain rfl : i = n := by omega
      go_wp2_with fail
      go_ret
      refine ⟨A', c', rfl, (by rw [List.take_of_length_le (by rw [HT.out]; exact Nat.le_refl _)] at hown; exact hown), hb⟩
end Go.Proofs.YtkejpkcaojidaaaGreatDoor

namespace Go.Proofs.YtkejpkcaojidaaaGreatDoor
open Go.RowKit

theorem refBytes_no (A : Option Addr) (n c : Nat) (xs : List Int) (w : World) (hx : Lies .u8 w w.heap.size A n xs) (hn : n ≤ 65536) (ho : bytesOk xs = false) :
    Calls Tryz.prog 105 #[.slice A n c] w fun e w' => e = .returned (.tuple #[.slice none 0 0, .bool false]) ∧ w = w' := by
  have hl := Lib.hid hx.len
  by_cases h8 : n % 8 = 0
  · have hw : wholeL xs = false := by rw [bytesOk, hl.out, decide_eq_true h8] at ho; simpa using ho
    have h8' : ((n : Int) % 8 != 0) = false := by simp; omega
    clear ho h8
    go_enter Tryz.func105, Tryz.ntmps105
    go_wp2_with (go_at_call 124; refine (refWhole_any A n c xs _ hx hn).mono ?_; rintro e w' ⟨rfl, rfl⟩)
    go_ret2
    exact ⟨rfl, rfl⟩
  · have h8' : ((n : Int) % 8 != 0) = true := by simp; omega
    clear ho h8
    go_enter Tryz.func105, Tryz.ntmps105
    go_wp2
    go_ret2
    exact ⟨rfl, rfl⟩

theorem bytesL_at (xs : List Int) (q : Nat) (h : 8 * q + 8 ≤ xs.length) : (bytesL xs).getD q 0 = numL ((xs.drop (8 * q)).take 8) := by
  rw [bytesL, byL_at _ _ _ (by omega), byAt, show min (xs.length - 8 * q) 8 = 8 by omega]
theorem bytesL_length (xs : List Int) : (bytesL xs).length = xs.length / 8 := byL_length _ _
theorem wholeL_part (xs : List Int) (i j : Nat) (h : wholeL xs = true) : wholeL ((xs.drop i).take j) = true := by
  rw [wholeL, List.all_eq_true] at h ⊢
  exact fun x hx => h x (List.mem_of_mem_drop (List.mem_of_mem_take hx))
theorem part_num (xs : List Int) (q : Nat) (hw : wholeL xs = true) (h : 8 * q + 8 ≤ xs.length) : numR ((xs.drop (8 * q)).take 8) = (bytesL xs).getD q 0 ∧ 0 ≤ (bytesL xs).getD q 0 ∧ (bytesL xs).getD q 0 < 256 := by
  have hl : ((xs.drop (8 * q)).take 8).length = 8 := by simp; omega
  have hp := wholeL_part xs (8 * q) 8 hw
  have hb := numL_bd _ hp 8 (by omega)
  rw [List.take_of_length_le (by omega)] at hb
  rw [bytesL_at xs q h, numR, if_pos ⟨by omega, hp⟩]
  exact ⟨rfl, hb.1, hb.2⟩

set_option maxRecDepth 100000 in
theorem refBytes_owns (A : Option Addr) (n c : Nat) (xs : List Int) (w : World) (hx : Lies .u8 w w.heap.size A n xs) (hn : n ≤ 65536) (hcap : n ≤ c) (ho : bytesOk xs = true) :
    Calls Tryz.prog 105 #[.slice A n c] w fun e w' => ∃ A' c', e = .returned (.tuple #[.slice A' (n / 8) c', .bool true]) ∧ w'.ownsRow w.heap.size 5 1 (.slice A' (n / 8) c') (n / 8) ((bytesL xs).map (Value.int .u8)) ∧ Below w.heap.size w w' := by
  have hl := Lib.hid hx.len
  have h8 : n % 8 = 0 := by simp [bytesOk, hl.out] at ho; exact ho.1
  have hw : wholeL xs = true := by simp [bytesOk] at ho; exact ho.2
  have h8' : ((n : Int) % 8 != 0) = false := by simp; omega
  have HW := Lib.hid hw
  obtain ⟨N, hN⟩ : ∃ N, n = 8 * N := ⟨n / 8, by omega⟩
  have hN8 : n / 8 = N := by omega
  rw [hN8]
  have HN := Lib.hid hN
  clear ho h8 hN8 hN
  have HT := Lib.hid (show (bytesL xs).length = N by rw [bytesL_length, hl.out, HN.out]; omega)
  have HV := Lib.hid (fun q (hq : q < N) => part_num xs q HW.out (by rw [hl.out, HN.out]; omega))
  obtain ⟨ts, hts⟩ : ∃ ts, ts = bytesL xs := ⟨_, rfl⟩
  rw [← hts] at HT HV ⊢
  clear hts
  obtain ⟨i0, hi0, hz0, hz1, hz2⟩ := info_parts info_byte
  go_enter Tryz.func105, Tryz.ntmps105
  go_wp2_with (go_at_call 124; refine (refWhole_any A n c xs _ hx hn).mono ?_; rintro e w' ⟨rfl, rfl⟩)
  clear hw h8'
  go_loopw [4, 5] (fun v1 iv wr => ∃ (q : Nat) (A' : Option Addr) (c' : Nat), q ≤ N ∧ iv = .int .i64 (8 * (q : Int)) ∧ v1 = .slice A' q c' ∧ wr.ownsRow w.heap.size 5 1 (.slice A' q c') q ((ts.take q).map (Value.int .u8)) ∧ Below w.heap.size w wr) (fun _ iv _ => n - (intOf iv).toNat)
  case atStart => exact ⟨0, none, 0, Nat.zero_le _, rfl, rfl, ⟨rfl, .inl ⟨rfl, rfl⟩⟩, Below.refl _ _⟩
  case round =>
    obtain ⟨q, A', c', hq, rfl, rfl, hown, hb⟩ := hrel
    have hnN : n ≤ 8 * N := Nat.le_of_eq HN.out
    have hnN' : 8 * N ≤ n := Nat.le_of_eq HN.out.symm
    by_cases hlt : q < N
    · have hlti : 8 * (q : Int) < (n : Int) := by omega
      obtain ⟨b, off, rfl, hbb, hc⟩ := hx.at_ (by omega)
      have hcut : Lies .u8 wr wr.heap.size (some ⟨b, off + 8 * q, none⟩) 8 ((xs.drop (8 * q)).take 8) := ⟨by simp; rw [hl.out]; omega, fun _ => ⟨b, off + 8 * q, rfl, Nat.lt_of_lt_of_le hbb hb.size, fun j hj => by
        have h := (hb.cell (p := ⟨b, off + (8 * q + j), none⟩) hbb).trans (hc (8 * q + j) (by omega))
        rw [Nat.add_assoc, h]
        simp only [List.getD]
        rw [List.getElem?_take_of_lt hj, List.getElem?_drop]⟩⟩
      have hsl : ∀ W : World, (Instr.sliceAt 126 (.slice (some ⟨b, off, none⟩) n c) (some (.int .i64 (8 * (q : Int)))) (some (.int .i64 (8 * (q : Int) + 8))) none).run Tryz.prog W = .ok (.slice (some ⟨b, off + 8 * q, none⟩) 8 (c - 8 * q)) W := fun W => by
        have h := cut_syms b off n c (8 * (q : Int)) (8 * (q : Int) + 8) (by omega) (by omega) (by omega) (by omega) W
        rw [show (8 * (q : Int)).toNat = 8 * q by omega, show (8 * (q : Int) + 8).toNat - 8 * q = 8 by omega] at h
        rw [run_sliceAt_slice W _ _ _ _ _ elem_syms]
        exact h
      obtain ⟨hv1, hv2, hv3⟩ := HV.out q hlt
      have hy := Lib.hid (show ts.getD q 0 = ts.getD q 0 from rfl)
      have hnum := refNum_any (some ⟨b, off + 8 * q, none⟩) 8 (c - 8 * q) _ wr hcut (by omega)
      rw [hv1] at hnum
      obtain ⟨y, hy1⟩ : ∃ y, y = ts.getD q 0 := ⟨_, rfl⟩
      rw [← hy1] at hnum hv2 hv3
      have HY := Lib.hid hy1.symm
      have HNUM := Lib.hid hnum
      have hq9 : q ≤ 65536 := by omega
      have HC := Lib.hid hcap
      clear hnum hy1 hv1 hc hcut hy
      have hl1 := Lies.new wr 5 .u8 [y] 1 rfl #[.int .u8 y] rfl
      have hown' := hown.alloc (.cells #[.int .u8 y] 5)
      go_wp2_with (first
        | (go_at_call 125; with_reducible refine (HNUM.out).mono ?_; rintro e w' ⟨rfl, rfl⟩)
        | (at_builtin; with_reducible refine wpList_append_lies rfl (.tmp 32) (.tmp 35) 68 rfl w.heap.size 5 i0 _ 1 Tryz.underlying68 hi0 hz0 hz1 hz2 rfl .u8 (.slice A' q c') q (ts.take q) rfl hown' (some ⟨wr.heap.size, 0, none⟩) 1 1 [y] rfl hl1 (q + 1) rfl (by unfold maxLen; omega) (by omega) (Nat.le_trans hb.size (by simp)) ?_))
      intro A2 c2 w2 hown2 hg2 _
      have hb2 := (below_al hb _).grown hg2 (Nat.le_trans hb.size (by simp)) (fun r hr => (hown.lt r hr).1)
      have hown3 := owns_snoc (ts := ts) hown2 (by rw [HT.out]; omega) HY.out
      clear hown hown' hown2 hg2 hl1 hsl
      go_wp2_with fail
      go_roundw
      case rel => exact ⟨q + 1, A2, c2, by omega, by go_num, rfl, hown3, hb2⟩
      case measure => simp [intOf]; omega
    · have hlti : (n : Int) ≤ 8 * (q : Int) := by omega
      obtain rfl : q = N := by omega
      go_wp2_with fail
      go_ret2
      refine ⟨A', c', rfl, (by rw [List.take_of_length_le (by rw [HT.out]; exact Nat.le_refl _)] at hown; exact hown), hb⟩
theorem owns_cap {w : World} {base n c size : Nat} {e : TypeId} {A : Option Addr} {xs : List Value} (h : w.ownsRow base e size (.slice A n c) n xs) : n ≤ c := by
  rcases h.2 with ⟨_, h0⟩ | ⟨g, cap, cur, hv, _, _, hc, _⟩
  · omega
  · injection hv with _ _ h3
    omega
end Go.Proofs.YtkejpkcaojidaaaGreatDoor

