/-
  The contract of the reference's Bytes: the bytes whose symbols these are, and true; nothing and false, if they are not whole or no multiple of eight. Conditions: the slice's reading, a length of at most 65536 within the capacity.
-/
import Derived.Test.YtbfgdphfeifglaaDoorMath
import Derived.Test.YtbfgdphfeifglaaDoorApp
namespace Go.Proofs.YtbfgdphfeifglaaDoor
open Go.RowKit

theorem div_step (v : Int) (k : Nat) : v / 2 ^ k / 2 = v / 2 ^ (k + 1) := by
  rw [Int.pow_succ, Int.ediv_ediv_of_nonneg (Int.le_of_lt (Int.pow_pos (by decide)))]
theorem bit_any (v : Int) (i : Nat) (w : World) (hi : i ≤ 64) (hv0 : 0 ≤ v) (hv1 : v < 18446744073709551616) :
    Calls Tryd.prog 86 #[.int .u64 v, .int .i64 i] w fun e w' => e = .returned (.int .u8 (symI (v / 2 ^ i))) ∧ w = w' := by
  go_enter Tryd.func86, Tryd.ntmps86
  go_wp2_with fail
  go_loop [0, 5] (fun nv kv => ∃ k : Nat, k ≤ i ∧ kv = .int .i64 k ∧ nv = .int .u64 (v / 2 ^ k)) (fun _ kv => i - (intOf kv).toNat)
  case atStart => exact ⟨0, Nat.zero_le _, rfl, by simp⟩
  case round =>
    obtain ⟨k, hk, rfl, rfl⟩ := hrel
    have h0 : 0 ≤ v / 2 ^ k := div_lo hv0
    have h1 : v / 2 ^ k < 18446744073709551616 := div_hi hv0 hv1
    have hs := Lib.hid (div_step v k)
    obtain ⟨x, hx⟩ : ∃ x, x = v / 2 ^ k := ⟨_, rfl⟩
    rw [← hx] at h0 h1 hs ⊢
    have HX := Lib.hid hx
    clear hx
    by_cases hlt : k < i
    · have hlti : (k : Int) < (i : Int) := by omega
      go_wp2_with fail
      go_round
      case rel => exact ⟨k + 1, by omega, by go_num, by rw [← hs.out]⟩
      case measure => simp [intOf]; omega
    · have hlti : (i : Int) ≤ (k : Int) := by omega
      obtain rfl : k = i := by omega
      by_cases h : x % 2 = 1
      · have hb : (x % 2 == 1) = true := by simpa using h
        have hy := Lib.hid (show symI x = 2 by simp [symI, h])
        clear h
        go_wp2_with fail
        go_ret
        exact ⟨ret_int (by rw [← HX.out, hy.out]), rfl⟩
      · have hb : (x % 2 == 1) = false := by simpa using h
        have hy := Lib.hid (show symI x = 1 by simp [symI, h])
        clear h
        go_wp2_with fail
        go_ret
        exact ⟨ret_int (by rw [← HX.out, hy.out]), rfl⟩

end Go.Proofs.YtbfgdphfeifglaaDoor

namespace Go.Proofs.YtbfgdphfeifglaaDoor
open Go.RowKit

end Go.Proofs.YtbfgdphfeifglaaDoor

namespace Go.Proofs.YtbfgdphfeifglaaDoor
open Go.RowKit

theorem ofL_idx (bs : List Int) (i r : Nat) (hi : i < bs.length) (hr : r < 8) : (ofL bs).getD (8 * i + (8 - (r + 1))) 0 = symI (bs.getD i 0 / 2 ^ r) := by
  rw [ofL_at _ _ (by omega), ofAt, show (8 * i + (8 - (r + 1))) / 8 = i by omega, show 7 - (8 * i + (8 - (r + 1))) % 8 = r by omega]
set_option maxRecDepth 100000 in
theorem refSyms_owns (A : Option Addr) (n c : Nat) (bs : List Int) (w : World) (hx : Lies .u8 w w.heap.size A n bs) (hbd : ∀ x ∈ bs, 0 ≤ x ∧ x ≤ 255) (hn : n ≤ 65536) :
    Calls Tryd.prog 52 #[.slice A n c] w fun e w' => ∃ A' c', e = .returned (.slice A' (8 * n) c') ∧ w'.ownsRow w.heap.size 49 1 (.slice A' (8 * n) c') (8 * n) ((ofL bs).map (Value.int .u8)) ∧ Below w.heap.size w w' := by
  obtain ⟨i0, hi0, hz0, hz1, hz2⟩ := info_parts info_sym
  have HL := Lib.hid hx.len
  have HBD := Lib.hid hbd
  clear hbd
  obtain ⟨ts, hts⟩ : ∃ ts, ts = ofL bs := ⟨_, rfl⟩
  have HT := Lib.hid (show ts.length = 8 * n by rw [hts, ofL_length, hx.len])
  have HV := Lib.hid (fun i r (hi : i < n) (hr : r < 8) => ofL_idx bs i r (by rw [hx.len]; exact hi) hr)
  rw [← hts] at HV ⊢
  clear hts
  go_enter Tryd.func52, Tryd.ntmps52
  go_wp2_with fail
  go_loopw [3, 4] (fun v1 iv wr => ∃ (i : Nat) (A' : Option Addr) (c' : Nat), i ≤ n ∧ iv = .int .i64 i ∧ v1 = .slice A' (8 * i) c' ∧ wr.ownsRow w.heap.size 49 1 (.slice A' (8 * i) c') (8 * i) ((ts.take (8 * i)).map (Value.int .u8)) ∧ Below w.heap.size w wr) (fun _ iv _ => n - (intOf iv).toNat)
  case atStart => exact ⟨0, none, 0, Nat.zero_le _, rfl, rfl, ⟨rfl, .inl ⟨rfl, rfl⟩⟩, Below.refl _ _⟩
  case round =>
    obtain ⟨i, A', c', hi, rfl, rfl, hown, hb⟩ := hrel
    by_cases hlt : i < n
    · have hlti : (i : Int) < (n : Int) := by omega
      obtain ⟨b, off, rfl, hbb, hc⟩ := hx.at_ (by omega)
      have hcw := hc i hlt
      have hxb := HBD.out (bs.getD i 0) (by rw [getD_at _ _ (by rw [HL.out]; exact hlt)]; exact List.getElem_mem _)
      have HVi := Lib.hid (fun r hr => HV.out i r hlt hr)
      obtain ⟨x, hx1⟩ : ∃ x, x = bs.getD i 0 := ⟨_, rfl⟩
      rw [← hx1] at hcw hxb HVi
      clear hx1 hc
      obtain ⟨hx0, hx9⟩ := hxb
      go_wp2_with fail
      go_loopw [3, 5] (fun v1 kv wx => ∃ (j : Nat) (A' : Option Addr) (c' : Nat), j ≤ 8 ∧ kv = .int .i64 ((j : Int) - 1) ∧ v1 = .slice A' (8 * i + (8 - j)) c' ∧ wx.ownsRow w.heap.size 49 1 (.slice A' (8 * i + (8 - j)) c') (8 * i + (8 - j)) ((ts.take (8 * i + (8 - j))).map (Value.int .u8)) ∧ Below w.heap.size w wx) (fun _ kv _ => ((intOf kv) + 1).toNat)
      case atStart => exact ⟨8, A', c', Nat.le_refl _, rfl, rfl, hown, hb⟩
      case round =>
        clear hown hb
        obtain ⟨j, A', c', hj, rfl, rfl, hown, hb⟩ := hrel
        by_cases hj0 : j = 0
        · subst hj0
          go_wp2_with fail
          go_roundw
          case rel => exact ⟨i + 1, A', c', by omega, by go_num, rfl, hown, hb⟩
          case measure => simp [intOf]; omega
        · obtain ⟨r, rfl⟩ : ∃ r, j = r + 1 := ⟨j - 1, by omega⟩
          clear hj0
          have hcell := (hb.cell (p := ⟨b, off + i, none⟩) hbb).trans hcw
          have hre : ((r + 1 : Nat) : Int) - 1 = (r : Int) := by omega
          rw [hre]
          have hr1 : (0 : Int) ≤ (r : Int) := by omega
          have hidx : 8 * i + (8 - (r + 1)) < 8 * n := by omega
          obtain ⟨q, hq⟩ : ∃ q, q = 8 * i + (8 - (r + 1)) := ⟨_, rfl⟩
          have HQ1 := Lib.hid (show 8 * i + (8 - r) = q + 1 by omega)
          have hy := Lib.hid (HVi.out r (by omega))
          rw [← hq] at hown hidx hy ⊢
          clear hq hre
          obtain ⟨y, hy1⟩ : ∃ y, y = symI (x / 2 ^ r) := ⟨_, rfl⟩
          have hbit := bit_any x r
          rw [← hy1] at hbit hy
          have HBIT := Lib.hid hbit
          clear hbit hy1
          have hq9 : q ≤ 1000000 := by omega
          have hl1 := Lies.new wr 49 .u8 [y] 1 rfl #[.int .u8 y] rfl
          have hown' := hown.alloc (.cells #[.int .u8 y] 49)
          go_wp2_with (first
            | (go_at_call 86; with_reducible refine (HBIT.out _ (by omega) hx0 (by omega)).mono ?_; rintro e w' ⟨rfl, rfl⟩)
            | (at_builtin; with_reducible refine wpList_append_lies rfl (.tmp 16) (.tmp 24) 46 rfl w.heap.size 49 i0 _ 1 Tryd.underlying46 hi0 hz0 hz1 hz2 rfl .u8 (.slice A' (q) c') (q) (ts.take (q)) rfl hown' (some ⟨wr.heap.size, 0, none⟩) 1 1 [y] rfl hl1 (q + 1) rfl (by unfold maxLen; omega) (by omega) (Nat.le_trans hb.size (by simp)) ?_))
          intro A2 c2 w2 hown2 hg2 _
          have hb2 := (below_al hb _).grown hg2 (Nat.le_trans hb.size (by simp)) (fun r hr => (hown.lt r hr).1)
          have hown3 := owns_snoc (ts := ts) hown2 (by rw [HT.out]; omega) hy.out
          clear hown hown' hown2 hg2 hl1
          go_wp2_with fail
          go_roundw
          case rel => exact ⟨r, A2, c2, by omega, by go_num, by rw [HQ1.out], by rw [HQ1.out]; exact hown3, hb2⟩
          case measure => simp [intOf]
    · have hlti : (n : Int) ≤ (i : Int) := by omega
      obtain rfl : i = n := by omega
      go_wp2_with fail
      go_ret
      refine ⟨A', c', rfl, (by rw [List.take_of_length_le (by rw [HT.out]; exact Nat.le_refl _)] at hown; exact hown), hb⟩
theorem refSyms_any (A : Option Addr) (n c : Nat) (bs : List Int) (w : World) (hx : Lies .u8 w w.heap.size A n bs) (hbd : ∀ x ∈ bs, 0 ≤ x ∧ x ≤ 255) (hn : n ≤ 65536) :
    Calls Tryd.prog 52 #[.slice A n c] w fun e w' => ∃ A' c', e = .returned (.slice A' (8 * n) c') ∧ Lies .u8 w' w'.heap.size A' (8 * n) (ofL bs) ∧ Below w.heap.size w w' :=
  (refSyms_owns A n c bs w hx hbd hn).mono fun _ _ ⟨A', c', h1, h2, h3⟩ => ⟨A', c', h1, lies_of_owns h2, h3⟩
end Go.Proofs.YtbfgdphfeifglaaDoor

namespace Go.Proofs.YtbfgdphfeifglaaDoor
open Go.RowKit

theorem bytesL_at (xs : List Int) (q : Nat) (h : 8 * q + 8 ≤ xs.length) : (bytesL xs).getD q 0 = numL ((xs.drop (8 * q)).take 8) := by
  rw [bytesL, byL_at _ _ _ (by omega), byAt, show min (xs.length - 8 * q) 8 = 8 by omega]
theorem bytesL_length (xs : List Int) : (bytesL xs).length = xs.length / 8 := byL_length _ _
theorem wholeL_part (xs : List Int) (i j : Nat) (h : wholeL xs = true) : wholeL ((xs.drop i).take j) = true := by
  rw [wholeL, List.all_eq_true] at h ⊢
  exact fun x hx => h x (List.mem_of_mem_drop (List.mem_of_mem_take hx))
theorem part_num (xs : List Int) (q : Nat) (hw : wholeL xs = true) (h : 8 * q + 8 ≤ xs.length) : numR ((xs.drop (8 * q)).take 8) = (bytesL xs).getD q 0 ∧ 0 ≤ (bytesL xs).getD q 0 ∧ (bytesL xs).getD q 0 < 256 := by
  have hl : ((xs.drop (8 * q)).take 8).length = 8 := by simp; omega
  have hp := wholeL_part xs (8 * q) 8 hw
  have hb := numL_bd _ hp 8 (by omega)
  rw [List.take_of_length_le (by omega)] at hb
  rw [bytesL_at xs q h, numR, if_pos ⟨by omega, hp⟩]
  exact ⟨rfl, hb.1, hb.2⟩

theorem owns_cap {w : World} {base n c size : Nat} {e : TypeId} {A : Option Addr} {xs : List Value} (h : w.ownsRow base e size (.slice A n c) n xs) : n ≤ c := by
  rcases h.2 with ⟨_, h0⟩ | ⟨g, cap, cur, hv, _, _, hc, _⟩
  · omega
  · injection hv with _ _ h3
    omega
end Go.Proofs.YtbfgdphfeifglaaDoor

