/-
  The contracts of the reference's Put and Check: summed bytes, and what they are when summed. Conditions: the slice's reading, bytes, a length of at most 4096 within the capacity.
-/
import Derived.Test.YtkejpkcaojidaaaGreatDoorSumPart
namespace Go.Proofs.YtkejpkcaojidaaaGreatDoor
set_option linter.unusedVariables false
set_option linter.unusedSimpArgs false
open Go.RowKit Crc

theorem bits8_at (x : Int) (j : Nat) (h : j < 8) : (bits8 x).getD j false = x.toNat.testBit (7 - j) := by
  simp [bits8, List.getD, h]
theorem bitsL_at : ∀ (l : List Int) (j : Nat), j < 8 * l.length → (bitsL l).getD j false = (l.getD (j / 8) 0).toNat.testBit (7 - j % 8) := by
  intro l
  induction l with
  | nil => intro j h; simp at h
  | cons x l ih =>
    intro j h
    have e : bitsL (x :: l) = bits8 x ++ bitsL l := rfl
    rw [e, List.getD]
    rcases Nat.lt_or_ge j 8 with h8 | h8
    · rw [List.getElem?_append_left (by rw [bits8_length]; exact h8), ← List.getD, bits8_at x j h8, show j / 8 = 0 by omega, show j % 8 = j by omega]
      rfl
    · rw [List.getElem?_append_right (by rw [bits8_length]; exact h8), bits8_length, ← List.getD, ih (j - 8) (by simp at h; omega), show j / 8 = (j - 8) / 8 + 1 by omega, show (j - 8) % 8 = j % 8 by omega]
      rfl
theorem list_getD_ext {xs ys : List Bool} (hl : xs.length = ys.length) (h : ∀ j, j < xs.length → xs.getD j false = ys.getD j false) : xs = ys := by
  apply List.ext_getElem hl
  intro j h1 h2
  have := h j h1
  simpa [List.getD, h1, h2] using this
theorem numB_four (v : Int) : numB (four v) = v := by
  simp [numB, four]
  omega
theorem check_put (b : List Int) : checkB (putL b) = true := by
  have hl := putL_length b
  rw [checkB, hl, decide_eq_true (by omega), Bool.true_and, show b.length + 4 - 4 = b.length by omega]
  have h1 : (putL b).take b.length = b := by simp [putL]
  have h2 : (putL b).drop b.length = four (sumI b) := by simp [putL]
  rw [h1, h2, numB_four]
  simp
end Go.Proofs.YtkejpkcaojidaaaGreatDoor

namespace Go.Proofs.YtkejpkcaojidaaaGreatDoor
open Go.RowKit Crc

/-- A row of truths: the first N cells of block g. -/
def RowB (w : World) (t : TypeId) (g N c : Nat) (l : List Bool) : Prop :=
  l.length = N ∧ N ≤ c ∧ ∃ cs : Array Value, Blk w g t cs ∧ cs.size = c ∧ ∀ j, j < N → cs[j]? = some (.bool (l.getD j false))
section
variable {w w' : World} {t : TypeId} {g N c : Nat} {l : List Bool}
theorem RowB.lt (h : RowB w t g N c l) : g < w.heap.size := by obtain ⟨_, _, cs, hB, _⟩ := h; exact hB.lt
theorem RowB.cell (h : RowB w t g N c l) {j : Nat} (hj : j < N) : w.cell? ⟨g, j, none⟩ = some (.bool (l.getD j false)) := by
  obtain ⟨_, _, cs, hB, _, hc⟩ := h
  rw [hB.cell, hc j hj]
theorem RowB.frozen (h : RowB w t g N c l) (j : Nat) : w.frozen? ⟨g, j, none⟩ = false := by
  obtain ⟨_, _, cs, hB, _⟩ := h
  exact hB.frozen j
theorem RowB.set_ (h : RowB w t g N c l) {j : Nat} (hj : j < N) (b : Bool) : RowB (w.setCell ⟨g, j, none⟩ (.bool b)) t g N c (l.set j b) := by
  obtain ⟨h1, h2, cs, hB, h3, h4⟩ := h
  refine ⟨by simp [h1], h2, _, hB.set_ j (.bool b), by simp [h3], fun k hk => ?_⟩
  by_cases e : j = k
  · subst e
    simp [List.getD, show j < cs.size by omega, show j < l.length by omega]
  · rw [Array.getElem?_setIfInBounds_ne e, h4 k hk]
    simp [List.getD, e]
theorem rowB_of_owns {base : Nat} {A : Option Addr} (h : w.ownsRow base t 1 (.slice A N c) N (l.map Value.bool)) (hN : 0 < N) : ∃ g, A = some ⟨g, 0, none⟩ ∧ base ≤ g ∧ RowB w t g N c l := by
  obtain ⟨hl, h2⟩ := h
  have hl' : l.length = N := by simpa using hl
  rcases h2 with ⟨_, h0⟩ | ⟨g, cap, cur, hv, hb, hh, hnc, _, hcs, htk⟩
  · omega
  · injection hv with hA _ hc
    subst hc
    refine ⟨g, hA, hb, hl', hnc, cur, hh, by simpa using hcs, fun j hj => ?_⟩
    have h1 : (cur.toList.take (N * 1))[j]? = cur[j]? := by
      rw [List.getElem?_take_of_lt (by omega)]; simp
    rw [← h1, htk]
    simp [List.getD, show j < l.length by omega]
end

theorem bit8 (x : Int) (r : Nat) (h0 : 0 ≤ x) (h1 : x ≤ 255) : (bits .and .u8 (x / 2 ^ r) 1 == 1) = x.toNat.testBit r := by
  obtain ⟨V, rfl⟩ := Int.eq_ofNat_of_zero_le h0
  have hle : V / 2 ^ r ≤ V := Nat.div_le_self _ _
  have e : ((V : Int) / 2 ^ r) = ((V / 2 ^ r : Nat) : Int) := by simp
  rw [e, show (1 : Int) = ((1 : Nat) : Int) from rfl, u8_and_nat _ _ (by omega) (by decide), Nat.and_one_is_mod, Int.toNat_natCast, Nat.testBit_eq_decide_div_mod_eq]
  rcases Nat.mod_two_eq_zero_or_one (V / 2 ^ r) with h | h <;> rw [h] <;> decide
theorem bits_idx (b : List Int) (i r : Nat) (hi : i < b.length) (hr : r < 8) : (bitsL b).getD (8 * i + (8 - (r + 1))) false = (b.getD i 0).toNat.testBit r := by
  rw [bitsL_at _ _ (by omega), show (8 * i + (8 - (r + 1))) / 8 = i by omega, show 7 - (8 * i + (8 - (r + 1))) % 8 = r by omega]
/-- The bits, and 32 noughts behind. -/
def origL (b : List Int) : List Bool := bitsL b ++ List.replicate 32 false
theorem origL_length (b : List Int) : (origL b).length = 8 * b.length + 32 := by simp [origL, bitsL_length]
theorem origL_low (b : List Int) (j : Nat) (h : j < 8 * b.length) : (origL b).getD j false = (bitsL b).getD j false := by
  rw [origL, List.getD, List.getD, List.getElem?_append_left (by rw [bitsL_length]; exact h)]
theorem origL_high (b : List Int) (j : Nat) (h : 8 * b.length ≤ j) : (origL b).getD j false = false := by
  rw [origL, List.getD, List.getElem?_append_right (by rw [bitsL_length]; exact h), List.getElem?_replicate]
  split <;> rfl
/-- The first i turned. -/
def firstL (l : List Bool) (i : Nat) : List Bool := (List.range l.length).map fun j => l.getD j false ^^ decide (j < i)
theorem firstL_length (l : List Bool) (i : Nat) : (firstL l i).length = l.length := by simp [firstL]
theorem firstL_at (l : List Bool) (i j : Nat) (h : j < l.length) : (firstL l i).getD j false = (l.getD j false ^^ decide (j < i)) := by simp [firstL, h]
theorem firstL_none (l : List Bool) : firstL l 0 = l := by
  apply list_getD_ext (firstL_length l 0)
  intro j hj
  rw [firstL_length] at hj
  rw [firstL_at l 0 j hj]
  simp
theorem firstL_step (l : List Bool) (i : Nat) (h : i < l.length) : (firstL l i).set i (!(firstL l i).getD i false) = firstL l (i + 1) := by
  apply list_getD_ext
  · simp [firstL]
  · intro j hj
    rw [List.length_set, firstL_length] at hj
    rw [firstL_at l (i + 1) j hj]
    by_cases e : i = j
    · subst e
      rw [firstL_at l i i h]
      simp [List.getD, firstL_length, h]
    · have : ((firstL l i).set i (!(firstL l i).getD i false)).getD j false = (firstL l i).getD j false := by simp [List.getD, e]
      rw [this, firstL_at l i j hj]
      congr 1
      rw [decide_eq_decide]
      omega
theorem firstL_div (l : List Bool) : firstL l 32 = divL l ones 0 := by
  apply list_getD_ext
  · rw [firstL_length, divL_length]
  · intro j hj
    rw [firstL_length] at hj
    rw [firstL_at l 32 j hj, divL_at _ _ _ _ hj, divAt, if_neg (by omega), Nat.sub_zero, front]
    congr 1
    by_cases h : j < 32
    · have h32 : ∀ k : Fin 32, ones.getLsbD k.val = true := by decide
      rw [h32 ⟨31 - j, by omega⟩, decide_eq_true h]
      rfl
    · rw [decide_eq_false h, Bool.false_and]
theorem flips_snoc (l : List Bool) (ps : List Nat) (k : Nat) (h : k < ps.length) (i : Nat) : flips l ((ps.take (k + 1)).map fun p => i + 32 - p) = flip (flips l ((ps.take k).map fun p => i + 32 - p)) (i + 32 - ps.getD k 0) := by
  unfold flips
  rw [List.take_succ_eq_append_getElem h, List.map_append, List.foldl_append]
  simp [List.getD, h]
/-- The number of bits, each turned. -/
def notN (l : List Bool) : Nat := l.foldl (fun n b => 2 * n + (if b then 0 else 1)) 0
theorem notN_snoc (l : List Bool) (k : Nat) (h : k < l.length) : notN (l.take (k + 1)) = 2 * notN (l.take k) + (if l.getD k false then 0 else 1) := by
  unfold notN
  rw [List.take_succ_eq_append_getElem h, List.foldl_append]
  simp [List.getD, h]
theorem notN_lt (l : List Bool) : ∀ k, k ≤ l.length → notN (l.take k) < 2 ^ k := by
  intro k
  induction k with
  | zero => intro _; simp [notN]
  | succ k ih =>
    intro h
    have := ih (by omega)
    rw [notN_snoc l k (by omega), Nat.pow_succ]
    split <;> omega
theorem notN_bits (l : List Bool) : ∀ k, k ≤ l.length → ∀ j, j < k → (notN (l.take k)).testBit j = !(l.getD (k - 1 - j) false) := by
  intro k
  induction k with
  | zero => intro _ j h; omega
  | succ k ih =>
    intro hk j hj
    rw [notN_snoc l k (by omega)]
    have e : 2 * notN (l.take k) + (if l.getD k false then 0 else 1) = 2 ^ 1 * notN (l.take k) + (if l.getD k false then 0 else 1) := by simp
    rw [e, Nat.testBit_two_pow_mul_add _ (by split <;> decide)]
    split
    · obtain rfl : j = 0 := by omega
      rw [show k + 1 - 1 - 0 = k by omega]
      cases l.getD k false <;> rfl
    · rw [ih (by omega) (j - 1) (by omega), show k - 1 - (j - 1) = k + 1 - 1 - j by omega]
theorem notN_reg (l : List Bool) (r : BitVec 32) (hl : l.length = 32) (h : ∀ k, k < 32 → l.getD k false = r.getLsbD (31 - k)) : ((notN l : Nat) : Int) = iv (r ^^^ ones) := by
  have hlt := notN_lt l 32 (by omega)
  have hb := notN_bits l 32 (by omega)
  rw [List.take_of_length_le (by omega)] at hlt hb
  have e : r ^^^ ones = BitVec.ofNat 32 (notN l) := by
    apply BitVec.eq_of_getLsbD_eq
    intro i hi
    have h32 : ∀ k : Fin 32, ones.getLsbD k.val = true := by decide
    rw [BitVec.getLsbD_xor, h32 ⟨i, hi⟩, BitVec.getLsbD_ofNat, decide_eq_true hi, Bool.true_and, hb i hi, h _ (by omega), show 31 - (32 - 1 - i) = i by omega]
    simp
  rw [e, iv, BitVec.toNat_ofNat, Nat.mod_eq_of_lt hlt]
/-- The last 32 of the division's list. -/
theorem div_last (b : List Int) (r : BitVec 32) (k : Nat) (hk : k < 32) : (divL (origL b) r (8 * b.length)).getD (8 * b.length + k) false = r.getLsbD (31 - k) := by
  rw [divL_at _ _ _ _ (by rw [origL_length]; omega), divAt, if_neg (by omega), origL_high b _ (by omega), front, show 8 * b.length + k - 8 * b.length = k by omega, decide_eq_true hk, Bool.true_and, Bool.false_xor]
def lastL (l : List Bool) (n : Nat) : List Bool := (List.range 32).map fun k => l.getD (n + k) false
theorem lastL_at (l : List Bool) (n k : Nat) (h : k < 32) : (lastL l n).getD k false = l.getD (n + k) false := by simp [lastL, h]
theorem lastL_length (l : List Bool) (n : Nat) : (lastL l n).length = 32 := by simp [lastL]
theorem div_number (b : List Int) : ((notN (lastL (divL (origL b) (feed ones (bitsL b)) (8 * b.length)) (8 * b.length)) : Nat) : Int) = sumI b := by
  rw [notN_reg _ (feed ones (bitsL b)) (lastL_length _ _) (fun k hk => by rw [lastL_at _ _ _ hk, div_last b _ k hk])]
  rfl
end Go.Proofs.YtkejpkcaojidaaaGreatDoor

namespace Go.Proofs.YtkejpkcaojidaaaGreatDoor
open Go.RowKit Crc

theorem infoBool : (Tryz.prog.info? 4).map (fun i => (i.zero, i.size, i.bytes)) = some (some (.bool false), 1, 1) := by kernel_rfl
def powC : Array Value := #[.int .i64 26, .int .i64 23, .int .i64 22, .int .i64 16, .int .i64 12, .int .i64 11, .int .i64 10, .int .i64 8, .int .i64 7, .int .i64 5, .int .i64 4, .int .i64 2, .int .i64 1, .int .i64 0]
theorem powC_at (k : Nat) (h : k < 14) : powC[k]? = some (.int .i64 (powers.getD k 0 : Nat)) ∧ powers.getD k 0 ≤ 26 := by
  have : ∀ k : Fin 14, powC[k.val]? = some (.int .i64 (powers.getD k.val 0 : Nat)) ∧ powers.getD k.val 0 ≤ 26 := by
    intro k
    match k with
    | 0 | 1 | 2 | 3 | 4 | 5 | 6 | 7 | 8 | 9 | 10 | 11 | 12 | 13 => exact ⟨rfl, by decide⟩
  exact this ⟨k, h⟩
theorem bools_snoc {w : World} {base n c : Nat} {e : TypeId} {A : Option Addr} {ts : List Bool} {t : Bool} (h : w.ownsRow base e 1 (.slice A (n + 1) c) (n + 1) ((ts.take n).map Value.bool ++ [.bool t])) (hn : n < ts.length) (ht : ts.getD n false = t) :
    w.ownsRow base e 1 (.slice A (n + 1) c) (n + 1) ((ts.take (n + 1)).map Value.bool) := by
  have : (ts.take (n + 1)).map Value.bool = (ts.take n).map Value.bool ++ [.bool t] := by
    rw [List.take_succ_eq_append_getElem hn, List.map_append]
    simp [List.getD, hn] at ht
    simp [ht]
  rw [this]
  exact h

set_option maxRecDepth 100000 in
set_option maxHeartbeats 8000000 in
theorem refOf_any (A : Option Addr) (n c : Nat) (b : List Int) (w : World) (hx : Lies .u8 w w.heap.size A n b) (hbd : ∀ x ∈ b, 0 ≤ x ∧ x ≤ 255) (hn : n ≤ 4096) :
    Calls Tryz.prog 134 #[.slice A n c] w fun e w' => e = .returned (.int .u32 (sumI b)) ∧ Below w.heap.size w w' := by
  obtain ⟨i0, hi0, hz0, hz1, hz2⟩ := info_parts infoBool
  have HL := Lib.hid hx.len
  have HB := Lib.hid hbd
  clear hbd
  obtain ⟨ts, hts⟩ : ∃ ts, ts = origL b := ⟨_, rfl⟩
  have HT := Lib.hid (show ts.length = 8 * n + 32 by rw [hts, origL_length, hx.len])
  have HV := Lib.hid (fun i r (hi : i < n) (hr : r < 8) => show ts.getD (8 * i + (8 - (r + 1))) false = (b.getD i 0).toNat.testBit r by
    rw [hts, origL_low b _ (by rw [hx.len]; omega)]; exact bits_idx b i r (by rw [hx.len]; exact hi) hr)
  have HZ := Lib.hid (fun j (hj : 8 * n ≤ j) => show ts.getD j false = false by rw [hts]; exact origL_high b j (by rw [hx.len]; exact hj))
  have HLO := Lib.hid (fun j (hj : j < 8 * n) => show ts.getD j false = (bitsL b).getD j false by rw [hts]; exact origL_low b j (by rw [hx.len]; exact hj))
  have HBL := Lib.hid (show (bitsL b).length = 8 * n by rw [bitsL_length, hx.len])
  have hnum := div_number b
  rw [← hts, hx.len] at hnum
  have HNUM := Lib.hid hnum
  clear hnum
  have HBD : Hid ((bitsL b).take (8 * n) = bitsL b) := Lib.hid (List.take_of_length_le (by rw [HBL.out]; exact Nat.le_refl _))
  clear hts
  go_enter Tryz.func134, Tryz.ntmps134
  go_wp2_with fail
  have hP : Blk (w.alloc (.cells powC 247)) w.heap.size 247 powC := Blk.new w _ _
  have hb1 := below_al (Below.refl w.heap.size w) (.cells powC 247)
  have hx1 := hx.al (.cells powC 247)
  obtain ⟨w1, hw1⟩ : ∃ w1, w1 = w.alloc (.cells powC 247) := ⟨_, rfl⟩
  rw [← hw1] at hP hb1 hx1
  change Code.wp _ _ _ _ (w.alloc (.cells powC 247))
  rw [← hw1]
  clear hw1 hx
  have hPl := hP.lt
  go_loopw [4, 5] (fun v1 iv' wr => ∃ (i : Nat) (A' : Option Addr) (c' : Nat), i ≤ n ∧ iv' = .int .i64 i ∧ v1 = .slice A' (8 * i) c' ∧ wr.ownsRow w1.heap.size 4 1 (.slice A' (8 * i) c') (8 * i) ((ts.take (8 * i)).map Value.bool) ∧ Below w1.heap.size w1 wr) (fun _ iv' _ => n - (intOf iv').toNat)
  case atStart => exact ⟨0, none, 0, Nat.zero_le _, rfl, rfl, ⟨rfl, .inl ⟨rfl, rfl⟩⟩, Below.refl _ _⟩
  case round =>
    obtain ⟨i, A', c', hi, rfl, rfl, hown, hb⟩ := hrel
    by_cases hlt : i < n
    · have hlti : (i : Int) < (n : Int) := by omega
      obtain ⟨bb, off, rfl, hbb, hc⟩ := hx1.at_ (by omega)
      have hcw := hc i hlt
      have hxb := HB.out (b.getD i 0) (by rw [getD_at _ _ (by rw [HL.out]; exact hlt)]; exact List.getElem_mem _)
      have HVi := Lib.hid (fun r hr => HV.out i r hlt hr)
      obtain ⟨x, hx2⟩ : ∃ x, x = b.getD i 0 := ⟨_, rfl⟩
      rw [← hx2] at hcw hxb HVi
      clear hx2 hc
      obtain ⟨hx0, hx9⟩ := hxb
      go_wp2_with fail
      go_loopw [4, 6] (fun v1 kv wx => ∃ (j : Nat) (A' : Option Addr) (c' : Nat), j ≤ 8 ∧ kv = .int .i64 ((j : Int) - 1) ∧ v1 = .slice A' (8 * i + (8 - j)) c' ∧ wx.ownsRow w1.heap.size 4 1 (.slice A' (8 * i + (8 - j)) c') (8 * i + (8 - j)) ((ts.take (8 * i + (8 - j))).map Value.bool) ∧ Below w1.heap.size w1 wx) (fun _ kv _ => ((intOf kv) + 1).toNat)
      case atStart => exact ⟨8, A', c', Nat.le_refl _, rfl, rfl, hown, hb⟩
      case round =>
        clear hown hb
        obtain ⟨j, A', c', hj, rfl, rfl, hown, hb⟩ := hrel
        by_cases hj0 : j = 0
        · subst hj0
          go_wp2_with fail
          go_roundw
          case rel => exact ⟨i + 1, A', c', by omega, by go_num, rfl, hown, hb⟩
          case measure => simp [intOf]; omega
        · obtain ⟨r, rfl⟩ : ∃ r, j = r + 1 := ⟨j - 1, by omega⟩
          clear hj0
          have hcell := (hb.cell (p := ⟨bb, off + i, none⟩) hbb).trans hcw
          have hre : ((r + 1 : Nat) : Int) - 1 = (r : Int) := by omega
          rw [hre]
          have hr1 : (0 : Int) ≤ (r : Int) := by omega
          have hidx : 8 * i + (8 - (r + 1)) < 8 * n := by omega
          obtain ⟨q, hq⟩ : ∃ q, q = 8 * i + (8 - (r + 1)) := ⟨_, rfl⟩
          have HQ1 := Lib.hid (show 8 * i + (8 - r) = q + 1 by omega)
          have hy := Lib.hid (HVi.out r (by omega))
          rw [← hq] at hown hidx hy ⊢
          clear hq hre
          have hbit := bit8 x r hx0 hx9
          obtain ⟨y, hy1⟩ : ∃ y, y = x.toNat.testBit r := ⟨_, rfl⟩
          rw [← hy1] at hbit hy
          clear hy1
          have hq9 : q ≤ 1000000 := by omega
          have hcu : (wr.alloc (.cells #[.bool y] 4)).cell? ⟨wr.heap.size, 0, none⟩ = some (.bool y) := by simp
          have hown' := hown.alloc (.cells #[.bool y] 4)
          go_wp2_with (first
            | (at_builtin; with_reducible refine wpList_append_one rfl (.tmp 25) (.tmp 34) 172 rfl w1.heap.size 4 i0 _ 1 Tryz.underlying172 hi0 hz0 hz1 hz2 rfl (.slice A' q c') q _ rfl hown' wr.heap.size (.bool y) rfl hcu rfl (by unfold maxLen; omega) (by omega) (Nat.le_trans hb.size (by simp)) ?_))
          intro A2 c2 w2 hown2 hg2
          have hb2 := (below_al hb _).grown hg2 (Nat.le_trans hb.size (by simp)) (fun r hr => (hown.lt r hr).1)
          have hown3 := bools_snoc (ts := ts) (by rw [List.map_take]; exact hown2) (by rw [HT.out]; omega) hy.out
          clear hown hown' hown2 hg2 hcu
          go_wp2_with fail
          go_roundw
          case rel => exact ⟨r, A2, c2, by omega, by go_num, by rw [HQ1.out], by rw [HQ1.out]; exact hown3, hb2⟩
          case measure => simp [intOf]
    · have hlti : (n : Int) ≤ (i : Int) := by omega
      obtain rfl : i = n := by omega
      clear HV hlt
      go_wp2_with fail
      go_loopw [4, 7] (fun v1 iv' wr => ∃ (k : Nat) (A' : Option Addr) (c' : Nat), k ≤ 32 ∧ iv' = .int .i64 k ∧ v1 = .slice A' (8 * i + k) c' ∧ wr.ownsRow w1.heap.size 4 1 (.slice A' (8 * i + k) c') (8 * i + k) ((ts.take (8 * i + k)).map Value.bool) ∧ Below w1.heap.size w1 wr) (fun _ iv' _ => 32 - (intOf iv').toNat)
      case atStart => exact ⟨0, A', c', Nat.zero_le _, rfl, rfl, hown, hb⟩
      case round =>
        clear hown hb
        obtain ⟨k, A', c', hk, rfl, rfl, hown, hb⟩ := hrel
        by_cases hk32 : k < 32
        · have hk32i : (k : Int) < 32 := by omega
          have hy := Lib.hid (HZ.out (8 * i + k) (by omega))
          obtain ⟨q, hq⟩ : ∃ q, q = 8 * i + k := ⟨_, rfl⟩
          have HQ1 := Lib.hid (show 8 * i + (k + 1) = q + 1 by omega)
          have hidx : q < 8 * i + 32 := by omega
          rw [← hq] at hown hy ⊢
          clear hq
          have hq9 : q ≤ 1000000 := by omega
          have hcu : (wr.alloc (.cells #[.bool false] 4)).cell? ⟨wr.heap.size, 0, none⟩ = some (.bool false) := by simp
          have hown' := hown.alloc (.cells #[.bool false] 4)
          go_wp2_with (first
            | (at_builtin; with_reducible refine wpList_append_one rfl (.tmp 40) (.tmp 41) 172 rfl w1.heap.size 4 i0 _ 1 Tryz.underlying172 hi0 hz0 hz1 hz2 rfl (.slice A' q c') q _ rfl hown' wr.heap.size (.bool false) rfl hcu rfl (by unfold maxLen; omega) (by omega) (Nat.le_trans hb.size (by simp)) ?_))
          intro A2 c2 w2 hown2 hg2
          have hb2 := (below_al hb _).grown hg2 (Nat.le_trans hb.size (by simp)) (fun r hr => (hown.lt r hr).1)
          have hown3 := bools_snoc (ts := ts) (by rw [List.map_take]; exact hown2) (by rw [HT.out]; omega) hy.out
          clear hown hown' hown2 hg2 hcu
          go_wp2_with fail
          go_roundw
          case rel => exact ⟨k + 1, A2, c2, by omega, by go_num, by rw [HQ1.out], by rw [HQ1.out]; exact hown3, hb2⟩
          case measure => simp [intOf]; omega
        · have hk32i : (32 : Int) ≤ (k : Int) := by omega
          obtain rfl : k = 32 := by omega
          clear hk hk32
          rw [List.take_of_length_le (by rw [HT.out]; exact Nat.le_refl _)] at hown
          obtain ⟨g, rfl, hg, hR⟩ := rowB_of_owns hown (by omega)
          rw [← firstL_none ts] at hR
          clear hown hi0 hz0 hz1 hz2
          go_wp2_with fail
          go_loopw [8] (fun iv' wr => ∃ k : Nat, k ≤ 32 ∧ iv' = .int .i64 k ∧ RowB wr 4 g (8 * i + 32) c' (firstL ts k) ∧ Below w1.heap.size w1 wr) (fun iv' _ => 32 - (intOf iv').toNat)
          case atStart => exact ⟨0, Nat.zero_le _, rfl, hR, hb⟩
          case round =>
            clear hR hb
            obtain ⟨k, hk, rfl, hR, hb⟩ := hrel
            by_cases hk32 : k < 32
            · have hk32i : (k : Int) < 32 := by omega
              have hki : (k : Int) < 8 * (i : Int) + 32 := by omega
              have hk0 : (0 : Int) ≤ (k : Int) := by omega
              have hc := hR.cell (j := k) (by omega)
              have hf := hR.frozen k
              have hnew := hR.set_ (j := k) (by omega) (!(firstL ts k).getD k false)
              rw [firstL_step ts k (by rw [HT.out]; omega)] at hnew
              obtain ⟨y, hy⟩ : ∃ y, y = (firstL ts k).getD k false := ⟨_, rfl⟩
              rw [← hy] at hc hnew
              have HNEW := Lib.hid hnew
              clear hy hnew
              go_wp2_with fail
              go_roundw
              case rel => exact ⟨k + 1, by omega, by go_num, HNEW.out, hb.setCell hg _⟩
              case measure => simp [intOf]; omega
            · have hk32i : (32 : Int) ≤ (k : Int) := by omega
              obtain rfl : k = 32 := by omega
              clear hk hk32
              rw [firstL_div] at hR
              go_wp2_with fail
              go_loopw [9] (fun iv' wr => ∃ k : Nat, k ≤ 8 * i ∧ iv' = .int .i64 k ∧ RowB wr 4 g (8 * i + 32) c' (divL ts (feed ones ((bitsL b).take k)) k) ∧ Below w1.heap.size w1 wr) (fun iv' _ => 8 * i - (intOf iv').toNat)
              case atStart => exact ⟨0, Nat.zero_le _, rfl, hR, hb⟩
              case round =>
                clear hR hb
                obtain ⟨k, hk, rfl, hR, hb⟩ := hrel
                by_cases hkn : k < 8 * i
                · have hkni : (k : Int) + 32 < 8 * (i : Int) + 32 := by omega
                  have hki : (k : Int) < 8 * (i : Int) + 32 := by omega
                  have hk0 : (0 : Int) ≤ (k : Int) := by omega
                  have HF := Lib.hid (feed_take (bitsL b) ones k (by rw [HBL.out]; exact hkn))
                  rw [← HLO.out k hkn] at HF
                  obtain ⟨r, hr⟩ : ∃ r, r = feed ones ((bitsL b).take k) := ⟨_, rfl⟩
                  rw [← hr] at HF hR
                  clear hr
                  have hc := hR.cell (j := k) (by omega)
                  have hf := hR.frozen k
                  rw [divL_at _ _ _ _ (by rw [HT.out]; omega)] at hc
                  have HK := Lib.hid (div_keep ts r k)
                  have HFL := Lib.hid (div_flips ts r k (by rw [HT.out]; omega))
                  obtain ⟨y, hy⟩ : ∃ y, y = divAt ts r k k := ⟨_, rfl⟩
                  rw [← hy] at hc HK HFL
                  clear hy
                  cases y
                  · go_wp2_with fail
                    go_roundw
                    case rel => exact ⟨k + 1, by omega, by go_num, by rw [HF.out, HK.out rfl]; exact hR, hb⟩
                    case measure => simp [intOf]; omega
                  · have hR0 := hR.set_ (j := k) (by omega) false
                    have hb0 := hb.setCell (p := ⟨g, k, none⟩) hg (.bool false)
                    go_wp2_with fail
                    go_loopw [10] (fun iv' wx => ∃ m : Nat, m ≤ 14 ∧ iv' = .int .i64 m ∧ RowB wx 4 g (8 * i + 32) c' (flips ((divL ts r k).set k false) ((powers.take m).map fun p => k + 32 - p)) ∧ Below w1.heap.size w1 wx) (fun iv' _ => 14 - (intOf iv').toNat)
                    case atStart => exact ⟨0, Nat.zero_le _, rfl, hR0, hb0⟩
                    case round =>
                      clear hR0 hb0 hc hf hR hb
                      obtain ⟨m, hm, rfl, hR, hb⟩ := hrel
                      by_cases hm14 : m < 14
                      · have hm14i : (m : Int) < 14 := by omega
                        have hm0 : (0 : Int) ≤ (m : Int) := by omega
                        have hpc := ((hP.below hb hPl).cell m).trans (powC_at m hm14).1
                        have hp26 := (powC_at m hm14).2
                        have HS := Lib.hid (flips_snoc ((divL ts r k).set k false) powers m (by simpa [powers] using hm14) k)
                        obtain ⟨p, hp⟩ : ∃ p, p = powers.getD m 0 := ⟨_, rfl⟩
                        rw [← hp] at hpc hp26 HS
                        clear hp
                        obtain ⟨q, hq⟩ : ∃ q, q = k + 32 - p := ⟨_, rfl⟩
                        rw [← hq] at HS
                        have hqi : (k : Int) + 32 - (p : Int) = (q : Int) := by omega
                        have hqn : q < 8 * i + 32 := by omega
                        have hqni : (q : Int) < 8 * (i : Int) + 32 := by omega
                        have hq0 : (0 : Int) ≤ (q : Int) := by omega
                        clear hq
                        have hc := hR.cell (j := q) hqn
                        have hf := hR.frozen q
                        have hnew := hR.set_ (j := q) hqn (!(flips ((divL ts r k).set k false) ((powers.take m).map fun p => k + 32 - p)).getD q false)
                        unfold Crc.flip at HS
                        rw [← HS.out] at hnew
                        have HNEW := Lib.hid hnew
                        obtain ⟨y, hy⟩ : ∃ y, y = (flips ((divL ts r k).set k false) ((powers.take m).map fun p => k + 32 - p)).getD q false := ⟨_, rfl⟩
                        rw [← hy] at hc HNEW
                        clear hy hnew HS
                        go_wp2_with fail
                        go_roundw
                        case rel => exact ⟨m + 1, by omega, by go_num, HNEW.out, hb.setCell hg _⟩
                        case measure => simp [intOf]; omega
                      · have hm14i : (14 : Int) ≤ (m : Int) := by omega
                        obtain rfl : m = 14 := by omega
                        rw [show powers.take 14 = powers from rfl, HFL.out (by trivial)] at hR
                        have HR : Hid (RowB wr 4 g (8 * i + 32) c' (divL ts (feed ones ((bitsL b).take (k + 1))) (k + 1))) := Lib.hid (by rw [HF.out]; exact hR)
                        clear hR HK HFL HF hm
                        go_wp2_with fail
                        go_roundw
                        case rel => first | exact ⟨k + 1, by omega, by go_num, HR.out, hb⟩ | ((repeat apply Exists.intro); exact ⟨⟨k + 1, by omega, by go_num, HR.out, hb⟩, rfl⟩)
                        case measure => simp [intOf]; omega
                · have hkni : 8 * (i : Int) + 32 ≤ (k : Int) + 32 := by omega
                  obtain rfl : k = 8 * i := by omega
                  rw [HBD.out] at hR
                  obtain ⟨T, hT⟩ : ∃ T, T = divL ts (feed ones (bitsL b)) (8 * i) := ⟨_, rfl⟩
                  rw [← hT] at hR HNUM
                  clear hT
                  have HLA := Lib.hid (fun k (h : k < 32) => lastL_at T (8 * i) k h)
                  have HLL := Lib.hid (lastL_length T (8 * i))
                  obtain ⟨U, hU⟩ : ∃ U, U = lastL T (8 * i) := ⟨_, rfl⟩
                  rw [← hU] at HLA HLL HNUM
                  clear hU
                  go_wp2_with fail
                  go_loop [12, 13] (fun nv iv' => ∃ k : Nat, k ≤ 32 ∧ iv' = .int .i64 (8 * (i : Int) + (k : Int)) ∧ nv = .int .u32 ((notN (U.take k) : Nat) : Int)) (fun _ iv' => 8 * i + 32 - (intOf iv').toNat)
                  case atStart => exact ⟨0, Nat.zero_le _, by go_num, rfl⟩
                  case round =>
                    obtain ⟨k, hk, rfl, rfl⟩ := hrel
                    by_cases hk32 : k < 32
                    · have hk32i : 8 * (i : Int) + (k : Int) < 8 * (i : Int) + 32 := by omega
                      have hk0 : (0 : Int) ≤ 8 * (i : Int) + (k : Int) := by omega
                      have hc := hR.cell (j := 8 * i + k) (by omega)
                      rw [← HLA.out k hk32] at hc
                      have HS := Lib.hid (notN_snoc U k (by rw [HLL.out]; exact hk32))
                      have hlt := notN_lt U k (by rw [HLL.out]; omega)
                      have hlt2 : notN (U.take k) < 2147483648 := Nat.lt_of_lt_of_le hlt (Nat.pow_le_pow_right (by decide) (show k ≤ 31 by omega))
                      obtain ⟨y, hy⟩ : ∃ y, y = U.getD k false := ⟨_, rfl⟩
                      obtain ⟨N, hN⟩ : ∃ N, N = notN (U.take k) := ⟨_, rfl⟩
                      rw [← hy] at hc HS
                      rw [← hN] at HS hlt2 ⊢
                      clear hy hN hlt
                      cases y
                      · go_wp2_with fail
                        go_round
                        case rel => exact ⟨k + 1, by omega, by go_num, congrArg (Value.int .u32) (by rw [HS.out]; simp)⟩
                        case measure => simp [intOf]; omega
                      · go_wp2_with fail
                        go_round
                        case rel => exact ⟨k + 1, by omega, by go_num, congrArg (Value.int .u32) (by rw [HS.out]; simp)⟩
                        case measure => simp [intOf]; omega
                    · have hk32i : 8 * (i : Int) + 32 ≤ 8 * (i : Int) + (k : Int) := by omega
                      obtain rfl : k = 32 := by omega
                      rw [List.take_of_length_le (by rw [HLL.out]; exact Nat.le_refl _)]
                      go_wp2_with fail
                      go_ret
                      exact ⟨ret_int HNUM.out, below_then hb1 hb⟩
end Go.Proofs.YtkejpkcaojidaaaGreatDoor

namespace Go.Proofs.YtkejpkcaojidaaaGreatDoor
open Go.RowKit Crc

theorem four_at (v : Int) (r : Nat) (hr : r < 4) (h0 : 0 ≤ v) (h1 : v < 4294967296) : (four v).getD (4 - (r + 1)) 0 = v / 2 ^ (8 * r) % 256 := by
  match r, hr with
  | 0, _ => simp [four]
  | 1, _ => simp [four]
  | 2, _ => simp [four]
  | 3, _ =>
    simp [four]
    omega
set_option maxRecDepth 100000 in
set_option maxHeartbeats 4000000 in
theorem refPut_any (A : Option Addr) (n c : Nat) (b : List Int) (w : World) (hx : Lies .u8 w w.heap.size A n b) (hbd : ∀ x ∈ b, 0 ≤ x ∧ x ≤ 255) (hn : n ≤ 4096) :
    Calls Tryz.prog 121 #[.slice A n c] w fun e w' => ∃ A' c', e = .returned (.slice A' (n + 4) c') ∧ Lies .u8 w' w'.heap.size A' (n + 4) (putL b) ∧ Below w.heap.size w w' := by
  obtain ⟨i0, hi0, hz0, hz1, hz2⟩ := info_parts infoBytes
  have hs0 := iv_lo (crc (bitsL b))
  have hs1 := iv_hi (crc (bitsL b))
  have HOF := Lib.hid (refOf_any A n c b w hx hbd hn)
  obtain ⟨ts, hts⟩ : ∃ ts, ts = putL b := ⟨_, rfl⟩
  have HT := Lib.hid (show ts.length = n + 4 by rw [hts, putL_length, hx.len])
  have HT0 := Lib.hid (show ts.take n = b by rw [hts, ← hx.len]; simp [putL])
  have HV := Lib.hid (fun r (hr : r < 4) => show ts.getD (n + (4 - (r + 1))) 0 = sumI b / 2 ^ (8 * r) % 256 by
    rw [← four_at (sumI b) r hr hs0 hs1, hts, putL, List.getD, List.getD, List.getElem?_append_right (by rw [hx.len]; omega), hx.len, show n + (4 - (r + 1)) - n = 4 - (r + 1) by omega])
  change 0 ≤ sumI b at hs0
  change sumI b < _ at hs1
  obtain ⟨s, hs⟩ : ∃ s, s = sumI b := ⟨_, rfl⟩
  rw [← hs] at hs0 hs1 HOF HV
  rw [← hts]
  clear hs hts hbd
  go_enter Tryz.func121, Tryz.ntmps121
  go_wp2_with fail
  with_reducible refine (HOF.out).mono ?_
  rintro e w1 ⟨rfl, hb1⟩
  have hx1 := hx.on hb1
  clear hx HOF
  go_wp2_with (first
    | (at_builtin; with_reducible refine wpList_append_lies rfl (.const (.slice none 0 0)) (.tmp 8) 68 rfl w.heap.size 5 i0 _ 1 Tryz.underlying68 hi0 hz0 hz1 hz2 rfl .u8 (.slice none 0 0) 0 [] rfl owns_none A n c b rfl hx1 n (Nat.zero_add n) (by unfold maxLen; omega) (by omega) hb1.size ?_))
  intro A1 c1 w2 hown hg _
  have hb2 := hb1.grown hg hb1.size (by simp [Value.ownBlock])
  clear hg hx1
  go_wp2_with fail
  go_loopw [4, 5] (fun v1 kv wr => ∃ (j : Nat) (A' : Option Addr) (c' : Nat), j ≤ 4 ∧ kv = .int .i64 ((j : Int) - 1) ∧ v1 = .slice A' (n + (4 - j)) c' ∧ wr.ownsRow w.heap.size 5 1 (.slice A' (n + (4 - j)) c') (n + (4 - j)) ((ts.take (n + (4 - j))).map (Value.int .u8)) ∧ Below w.heap.size w wr) (fun _ kv _ => ((intOf kv) + 1).toNat)
  case atStart => exact ⟨4, A1, c1, Nat.le_refl _, rfl, rfl, by rw [show n + (4 - 4) = n by omega, HT0.out]; exact hown, hb2⟩
  case round =>
    clear hown hb2
    obtain ⟨j, A', c', hj, rfl, rfl, hown, hb⟩ := hrel
    by_cases hj0 : j = 0
    · subst hj0
      rw [List.take_of_length_le (by rw [HT.out]; omega)] at hown
      go_wp2_with fail
      go_ret
      exact ⟨A', c', rfl, lies_of_owns hown, hb⟩
    · obtain ⟨r, rfl⟩ : ∃ r, j = r + 1 := ⟨j - 1, by omega⟩
      clear hj0
      have hre : ((r + 1 : Nat) : Int) - 1 = (r : Int) := by omega
      rw [hre]
      have hr1 : (0 : Int) ≤ (r : Int) := by omega
      have hr3 : (r : Int) ≤ 3 := by omega
      have hy := Lib.hid (HV.out r (by omega))
      obtain ⟨q, hq⟩ : ∃ q, q = n + (4 - (r + 1)) := ⟨_, rfl⟩
      have HQ1 := Lib.hid (show n + (4 - r) = q + 1 by omega)
      have hq9 : q ≤ 8192 := by omega
      have hqT : q < n + 4 := by omega
      rw [← hq] at hown hy ⊢
      clear hq hre
      obtain ⟨R, hR⟩ : ∃ R, R = 8 * r := ⟨_, rfl⟩
      have hR8 : 8 * (r : Int) = (R : Int) := by omega
      rw [← hR] at hy
      have hR24 : R ≤ 24 := by omega
      clear hR
      obtain ⟨y, hy1⟩ : ∃ y, y = s / 2 ^ R % 256 := ⟨_, rfl⟩
      have hyw : IntKind.u8.wrap (s / 2 ^ R) = y := by rw [IntKind.wrap_u8', hy1]
      rw [← hy1] at hy
      have hy1' := hy1.symm
      clear hy1
      have hl1 := Lies.new wr 5 .u8 [y] 1 rfl #[.int .u8 y] rfl
      have hown' := hown.alloc (.cells #[.int .u8 y] 5)
      go_wp2_with (first
        | (at_builtin; with_reducible refine wpList_append_lies rfl (.tmp 14) (.tmp 20) 68 rfl w.heap.size 5 i0 _ 1 Tryz.underlying68 hi0 hz0 hz1 hz2 rfl .u8 (.slice A' q c') q (ts.take q) rfl hown' (some ⟨wr.heap.size, 0, none⟩) 1 1 [y] rfl hl1 (q + 1) rfl (by unfold maxLen; omega) (by omega) (Nat.le_trans hb.size (by simp)) ?_))
      intro A2 c2 w2 hown2 hg2 _
      have hb2 := (below_al hb _).grown hg2 (Nat.le_trans hb.size (by simp)) (fun r hr => (hown.lt r hr).1)
      have hown3 := owns_snoc (ts := ts) hown2 (by rw [HT.out]; omega) hy.out
      clear hown hown' hown2 hg2 hl1 hyw hy1' hR8
      go_wp2_with fail
      go_roundw
      case rel => exact ⟨r, A2, c2, by omega, by go_num, by rw [HQ1.out], by rw [HQ1.out]; exact hown3, hb2⟩
      case measure => simp [intOf]

theorem four_numB (q : List Int) (hb : ∀ x ∈ q, 0 ≤ x ∧ x ≤ 255) (hl : q.length = 4) : four (numB q) = q := by
  match q, hl with
  | [a, b, c, d], _ =>
    have h1 := hb a (by simp)
    have h2 := hb b (by simp)
    have h3 := hb c (by simp)
    have h4 := hb d (by simp)
    simp only [numB, four, List.foldl_cons, List.foldl_nil, List.cons.injEq, and_true]
    omega
/-- Summed bytes are just those that are put. -/
theorem check_is (l : List Int) (hb : ∀ x ∈ l, 0 ≤ x ∧ x ≤ 255) (h4 : 4 ≤ l.length) : checkB l = decide (putL (l.take (l.length - 4)) = l) := by
  rw [checkB, decide_eq_true h4, Bool.true_and, Bool.eq_iff_iff, beq_iff_eq, decide_eq_true_eq, putL]
  have hd : (l.drop (l.length - 4)).length = 4 := by rw [List.length_drop]; omega
  have hdb : ∀ x ∈ l.drop (l.length - 4), 0 ≤ x ∧ x ≤ 255 := fun x hx => hb x (List.mem_of_mem_drop hx)
  constructor
  · intro h
    rw [h, four_numB _ hdb hd, List.take_append_drop]
  · intro h
    have h1 : four (sumI (l.take (l.length - 4))) = l.drop (l.length - 4) := by
      have h2 := congrArg (fun z => z.drop (l.length - 4)) h
      rw [List.drop_left' (by rw [List.length_take]; omega)] at h2
      exact h2
    rw [← h1, numB_four]
theorem strOf_inj (a b : List Int) (ha : ∀ x ∈ a, 0 ≤ x ∧ x ≤ 255) (hb : ∀ x ∈ b, 0 ≤ x ∧ x ≤ 255) (h : strOf a = strOf b) : a = b := by
  have hl : a.length = b.length := by have := congrArg List.length h; simpa [strOf] using this
  apply List.ext_getElem hl
  intro j h1 h2
  have h3 := congrArg (fun z => z[j]?) h
  simp only [strOf, List.getElem?_map, List.getElem?_eq_getElem h1, List.getElem?_eq_getElem h2, Option.map_some, Option.some.injEq] at h3
  have h4 := ha _ (List.getElem_mem h1)
  have h5 := hb _ (List.getElem_mem h2)
  have h6 := congrArg UInt8.toNat h3
  simp only [UInt8.toNat_ofNat'] at h6
  omega

set_option maxRecDepth 100000 in
set_option maxHeartbeats 4000000 in
theorem refCheck_long (A : Option Addr) (n c : Nat) (l : List Int) (w : World) (hx : Lies .u8 w w.heap.size A n l) (hb : ∀ x ∈ l, 0 ≤ x ∧ x ≤ 255) (hn : n ≤ 4096) (hcap : n ≤ c) (h4 : 4 ≤ n) :
    Calls Tryz.prog 126 #[.slice A n c] w fun e w' => (checkB l = false ∧ e = .returned (.tuple #[.slice none 0 0, .bool false]) ∧ Below w.heap.size w w') ∨
      (checkB l = true ∧ e = .returned (.tuple #[.slice A (n - 4) c, .bool true]) ∧ Below w.heap.size w w') := by
  have hd : decide ((n : Int) < 4) = false := by simp; omega
  have h4i : (4 : Int) ≤ (n : Int) := by omega
  have HB := Lib.hid hb
  have HBT := Lib.hid (fun x (h : x ∈ l.take (n - 4)) => hb x (List.mem_of_mem_take h))
  have HBP := Lib.hid (putL_bd _ HBT.out)
  have hs1 := fun W => uptoBytes A n c ((n : Int) - 4) (by omega) (by omega) W
  rw [show ((n : Int) - 4).toNat = n - 4 by omega] at hs1
  have hck := check_is l hb (by rw [hx.len]; exact h4)
  rw [hx.len] at hck
  obtain ⟨t, ht⟩ : ∃ t, t = !checkB l := ⟨_, rfl⟩
  have HT := Lib.hid (show (!(strOf (putL (l.take (n - 4))) == strOf l)) = t by
    rw [ht, hck]
    by_cases e : putL (l.take (n - 4)) = l
    · rw [decide_eq_true e, e]; simp
    · rw [decide_eq_false e, beq_eq_false_iff_ne.2 (fun h => e (strOf_inj _ _ HBP.out hb h))])
  have HTC := Lib.hid ht
  clear hb hck ht
  go_enter Tryz.func126, Tryz.ntmps126
  go_wp2_with fail
  refine Reg.wp_slots (fun t => decide (4 ≤ t)) (by kernel_rfl) (by kernel_rfl) (by kernel_rfl) (fun zz => (Reg.tbl [
    (4, .is (.slice A n c)),
    (5, .is (.int .i64 (n : Int))),
    (6, .is (.bool false)),
    (7, .is (.bool false)),
    (8, .is (.slice A n c)),
    (9, .is (.slice A n c)),
    (10, .is (.int .i64 (n : Int))),
    (11, .is (.int .i64 ((n : Int) - 4))),
    (12, .is (.slice A (n - 4) c)),
    (13, .list .u8 n (putL (l.take (n - 4)))),
    (14, .is (.string ⟨(strOf (putL (l.take (n - 4)))).toArray⟩)),
    (15, .is (.slice A n c)),
    (16, .is (.string ⟨(strOf l).toArray⟩)),
    (17, .is (.bool t)),
    (18, .is (.bool t))] zz).P) (fun zz => (Reg.tbl _ zz).on) ?_ ?_
  · simp only [Reg.frame, Reg.over, Nat.reduceAdd, Nat.reduceLeDiff, decide_true, decide_false, if_true, Bool.false_eq_true, if_false]
    refine ⟨?_, ?_, ?_, ?_, ?_, ?_, ?_, ?_, ?_, ?_, ?_, ?_, ?_, ?_, ?_, trivial⟩
    · intro x u hbu hd
      refine wpOp_step rfl fun K hK => ?_
      go_simp
      exact hK _ _ ⟨_, rfl, Below.refl _ _, fun d hd => by cases hd; exact rfl⟩
    · intro x u hbu hd
      have h4 : x 4 = .slice A n c := hd 0 (by decide)
      refine wpOp_step rfl fun K hK => ?_
      simp only [h4] at hK ⊢
      go_simp
      exact hK _ _ ⟨_, rfl, Below.refl _ _, fun d hd => by cases hd; exact rfl⟩
    · intro x u hbu hd
      have h5 : x 5 = .int .i64 (n : Int) := hd 1 (by decide)
      refine wpOp_step rfl fun K hK => ?_
      simp only [h5] at hK ⊢
      go_simp
      exact hK _ _ ⟨_, rfl, Below.refl _ _, fun d hd => by cases hd; exact rfl⟩
    · intro x u hbu hd
      have h6 : x 6 = .bool false := hd 2 (by decide)
      refine wpOp_step rfl fun K hK => ?_
      simp only [h6] at hK ⊢
      go_simp
      exact hK _ _ ⟨_, rfl, Below.refl _ _, fun d hd => by cases hd; exact rfl⟩
    · intro x u hbu hd
      have h7 : x 7 = .bool false := hd 3 (by decide)
      refine wpOp_step rfl fun K hK => ?_
      simp only [h7] at hK ⊢
      go_simp
      exact hK _ _ ⟨_, rfl, Below.refl _ _, fun d hd => by cases hd; exact rfl⟩
    · intro x u hbu hd
      have h7 : x 7 = .bool false := hd 3 (by decide)
      refine wpOp_step rfl fun K hK => ?_
      simp only [h7] at hK ⊢
      go_simp
      exact hK _ _ ⟨_, rfl, Below.refl _ _, fun d hd => by cases hd; exact rfl⟩
    · intro x u hbu hd
      have h9 : x 9 = .slice A n c := hd 5 (by decide)
      have h7 : x 7 = .bool false := hd 3 (by decide)
      refine wpOp_step rfl fun K hK => ?_
      simp only [h9, h7] at hK ⊢
      go_simp
      exact hK _ _ ⟨_, rfl, Below.refl _ _, fun d hd => by cases hd; exact rfl⟩
    · intro x u hbu hd
      have h10 : x 10 = .int .i64 (n : Int) := hd 6 (by decide)
      have h7 : x 7 = .bool false := hd 3 (by decide)
      have hwr : IntKind.i64.wrap ((n : Int) - 4) = (n : Int) - 4 := IntWalk.i64_in _ (by omega)
      refine wpOp_step rfl fun K hK => ?_
      simp only [h10, h7] at hK ⊢
      go_simp
      exact hK _ _ ⟨_, rfl, Below.refl _ _, fun d hd => by cases hd; exact rfl⟩
    · intro x u hbu hd
      have h8 : x 8 = .slice A n c := hd 4 (by decide)
      have h11 : x 11 = .int .i64 ((n : Int) - 4) := hd 7 (by decide)
      have h7 : x 7 = .bool false := hd 3 (by decide)
      refine wpOp_step rfl fun K hK => ?_
      simp only [h8, h11, h7] at hK ⊢
      go_simp
      exact hK _ _ ⟨_, rfl, Below.refl _ _, fun d hd => by cases hd; exact rfl⟩
    · intro x u hbu hd
      have h12 : x 12 = .slice A (n - 4) c := hd 8 (by decide)
      have h7 : x 7 = .bool false := hd 3 (by decide)
      refine wpOp_step rfl fun K hK => ?_
      simp only [h12, h7] at hK ⊢
      go_simp
      with_reducible refine (refPut_any _ _ _ _ _ ((hx.on hbu).head (by omega)) HBT.out (by omega)).mono ?_
      rintro e u' ⟨A', c', rfl, hl', hb'⟩
      exact hK _ _ ⟨_, rfl, hb', fun d hd => by cases hd; exact ⟨_, _, by rw [Nat.sub_add_cancel h4], by rw [Nat.sub_add_cancel h4] at hl'; exact hl'⟩⟩
    · intro x u hbu hd
      have k13 : (Reg.Fact.list .u8 n (putL (l.take (n - 4))) : Reg.Fact).P (x 13) u := hd 9 (by decide)
      obtain ⟨A13, c13, h13, hl13⟩ := k13
      have h7 : x 7 = .bool false := hd 3 (by decide)
      have hcv := run_string_lies (c := c13) hl13 HBP.out
      refine wpOp_step rfl fun K hK => ?_
      simp only [h13, h7] at hK ⊢
      go_simp
      exact hK _ _ ⟨_, rfl, Below.refl _ _, fun d hd => by cases hd; exact rfl⟩
    · intro x u hbu hd
      have h7 : x 7 = .bool false := hd 3 (by decide)
      refine wpOp_step rfl fun K hK => ?_
      simp only [h7] at hK ⊢
      go_simp
      exact hK _ _ ⟨_, rfl, Below.refl _ _, fun d hd => by cases hd; exact rfl⟩
    · intro x u hbu hd
      have h15 : x 15 = .slice A n c := hd 11 (by decide)
      have h7 : x 7 = .bool false := hd 3 (by decide)
      have hcv := run_string_lies (c := c) (hx.on hbu) HB.out
      refine wpOp_step rfl fun K hK => ?_
      simp only [h15, h7] at hK ⊢
      go_simp
      exact hK _ _ ⟨_, rfl, Below.refl _ _, fun d hd => by cases hd; exact rfl⟩
    · intro x u hbu hd
      have h14 : x 14 = .string ⟨(strOf (putL (l.take (n - 4)))).toArray⟩ := hd 10 (by decide)
      have h16 : x 16 = .string ⟨(strOf l).toArray⟩ := hd 12 (by decide)
      have h7 : x 7 = .bool false := hd 3 (by decide)
      refine wpOp_step rfl fun K hK => ?_
      simp only [h14, h16, h7] at hK ⊢
      go_simp
      exact hK _ _ ⟨_, rfl, Below.refl _ _, fun d hd => by cases hd; exact congrArg Value.bool HT.out⟩
    · intro x u hbu hd
      have h7 : x 7 = .bool false := hd 3 (by decide)
      have h17 : x 17 = .bool t := hd 13 (by decide)
      refine wpOp_step rfl fun K hK => ?_
      simp only [h7, h17] at hK ⊢
      go_simp
      exact hK _ _ ⟨_, rfl, Below.refl _ _, fun d hd => by cases hd; exact rfl⟩
  · intro x u hbu hall
    have h18 : x 18 = .bool t := hall 14 (by decide)
    simp only [Reg.frame, Reg.over, Nat.reduceAdd, Nat.reduceLeDiff, decide_true, decide_false, if_true, Bool.false_eq_true, if_false, h18]
    cases t
    · go_wp2_with fail
      go_ret2
      exact .inr ⟨by have := HTC.out; simpa using this.symm, rfl, hbu⟩
    · go_wp2_with fail
      go_ret2
      exact .inl ⟨by have := HTC.out; simpa using this.symm, rfl, hbu⟩
end Go.Proofs.YtkejpkcaojidaaaGreatDoor

