/-
  The contracts of sums.each (with the register's take) and sums.Of: the sum of the parts, one behind the other; nothing that was there has turned. Conditions: the parts' readings, bytes, few parts of at most 65536 bytes.
-/
import Derived.Test.YtpjcbfapkjipjaaTake
import Derived.Test.YtpjcbfapkjipjaaApp
import Derived.Test.YtpjcbfapkjipjaaKinds
namespace Go.Proofs.Ytpjcbfapkjipjaa
open Go.RowKit Crc

/-- A list of lists of bytes: a row of slices, each of which reads as bytes. -/
structure Parts (w : World) (A : Option Addr) (n : Nat) (ps : List (List Int)) : Prop where
  len : ps.length = n
  few : n ≤ 8
  at_ : ∀ i, i < n → ∃ b off, A = some ⟨b, off, none⟩ ∧ b < w.heap.size ∧ ∃ B m c, w.cell? ⟨b, off + i, none⟩ = some (.slice B m c) ∧ Lies .u8 w w.heap.size B m (ps.getD i []) ∧ m ≤ 65536
  byte : ∀ l ∈ ps, ∀ x ∈ l, 0 ≤ x ∧ x ≤ 255
theorem Parts.on {w w' : World} {A : Option Addr} {n : Nat} {ps : List (List Int)} (h : Parts w A n ps) (hb : Below w.heap.size w w') : Parts w' A n ps :=
  ⟨h.len, h.few, fun i hi => by
    obtain ⟨b, off, e, hlt, B, m, c, hc, hl, hm⟩ := h.at_ i hi
    exact ⟨b, off, e, Nat.lt_of_lt_of_le hlt hb.size, B, m, c, (hb.cell (p := ⟨b, off + i, none⟩) hlt).trans hc, hl.on hb, hm⟩, h.byte⟩

/-- The bits of a list of bytes. -/
def bitsL (l : List Int) : List Bool := l.flatMap bits8
theorem bitsL_append (a b : List Int) : bitsL (a ++ b) = bitsL a ++ bitsL b := by simp [bitsL]
theorem feed_snoc (r : BitVec 32) (l : List Int) (k : Nat) (h : k < l.length) : feed r (bitsL (l.take (k + 1))) = feed (feed r (bitsL (l.take k))) (bits8 (l.getD k 0)) := by
  rw [List.take_succ_eq_append_getElem h, bitsL_append, feed_append, getD_at l k h]
  simp [bitsL]
theorem parts_snoc (ps : List (List Int)) (k : Nat) (h : k < ps.length) : (ps.take (k + 1)).flatten = (ps.take k).flatten ++ ps.getD k [] := by
  rw [List.take_succ_eq_append_getElem h, List.flatten_append]
  congr 1
  simp [List.getD, h]

set_option maxRecDepth 100000 in
theorem each_any (A : Option Addr) (n c g : Nat) (r : BitVec 32) (ps : List (List Int)) (w : World) (hp : Parts w A n ps) (hg : w.heap.size ≤ g) (W : World) (hW : Below w.heap.size w W) (hB : Blk W g 109 #[.int .u32 (iv r)]) :
    Calls Try.prog 62 #[.slice A n c, .func (.func 63) #[.pointer (some ⟨g, 0, none⟩)] #[]] W fun e w' => e = .returned (.tuple #[]) ∧ Blk w' g 109 #[.int .u32 (iv (feed r (bitsL ps.flatten)))] ∧ Below w.heap.size w w' := by
  have HP := Lib.hid hp
  have hfew := hp.few
  have HL := Lib.hid hp.len
  clear hp
  go_enter Try.func62, Try.ntmps62
  go_wp2_with fail
  go_loopw [10] (fun iv' wr => ∃ i : Nat, i ≤ n ∧ iv' = .int .i64 i ∧ Blk wr g 109 #[.int .u32 (iv (feed r (bitsL (ps.take i).flatten)))] ∧ Below w.heap.size w wr) (fun iv' _ => n - (intOf iv').toNat)
  case atStart => exact ⟨0, Nat.zero_le _, rfl, hB, hW⟩
  case round =>
    clear hB hW
    obtain ⟨i, hi, rfl, hB, hb⟩ := hrel
    by_cases hlt : i < n
    · have hlti : (i : Int) < (n : Int) := by omega
      obtain ⟨b, off, rfl, hbl, B, m, cc, hcp, hlp, hm⟩ := HP.out.at_ i hlt
      have hcp' := (hb.cell (p := ⟨b, off + i, none⟩) hbl).trans hcp
      have HS := Lib.hid (parts_snoc ps i (by rw [HL.out]; exact hlt))
      have HBY := Lib.hid (HP.out.byte (ps.getD i []) (by rw [List.getD, List.getElem?_eq_getElem (by rw [HL.out]; exact hlt)]; exact List.getElem_mem _))
      obtain ⟨l, hl⟩ : ∃ l, l = ps.getD i [] := ⟨_, rfl⟩
      obtain ⟨r1, hr1⟩ : ∃ r1, r1 = feed r (bitsL (ps.take i).flatten) := ⟨_, rfl⟩
      rw [← hl] at hlp HS HBY
      rw [← hr1] at hB
      have HR := Lib.hid hr1
      clear hl hr1 hcp
      go_wp2_with fail
      go_loopw [16] (fun jv wx => ∃ j : Nat, j ≤ m ∧ jv = .int .i64 j ∧ Blk wx g 109 #[.int .u32 (iv (feed r1 (bitsL (l.take j))))] ∧ Below w.heap.size w wx) (fun jv _ => m - (intOf jv).toNat)
      case atStart => exact ⟨0, Nat.zero_le _, rfl, hB, hb⟩
      case round =>
        clear hB hb hcp'
        obtain ⟨j, hj, rfl, hB, hb⟩ := hrel
        by_cases hjm : j < m
        · have hjmi : (j : Int) < (m : Int) := by omega
          obtain ⟨b', off', rfl, hbl', hc'⟩ := hlp.at_ (by omega)
          have hcell := (hb.cell (p := ⟨b', off' + j, none⟩) hbl').trans (hc' j hjm)
          have hxb := HBY.out (l.getD j 0) (by rw [getD_at _ _ (by rw [hlp.len]; exact hjm)]; exact List.getElem_mem _)
          have HF := Lib.hid (feed_snoc r1 l j (by rw [hlp.len]; exact hjm))
          obtain ⟨x, hx⟩ : ∃ x, x = l.getD j 0 := ⟨_, rfl⟩
          rw [← hx] at hcell hxb HF
          clear hx hc'
          obtain ⟨hx0, hx1⟩ := hxb
          obtain ⟨r2, hr2⟩ : ∃ r2, r2 = feed r1 (bitsL (l.take j)) := ⟨_, rfl⟩
          rw [← hr2] at hB HF
          clear hr2
          have hB2 := hB.set_ 0 (.int .u32 (iv (feed r2 (bits8 x))))
          simp at hB2
          go_wp2_with (go_at_call 63; with_reducible refine (take_any g r2 x wr hB hx0 hx1).mono ?_; rintro e w' ⟨rfl, rfl⟩)
          go_roundw
          case rel => exact ⟨j + 1, by omega, by go_num, by rw [HF.out]; exact hB2, hb.setCell hg _⟩
          case measure => simp [intOf]; omega
        · have hjmi : (m : Int) ≤ (j : Int) := by omega
          go_wp2_with fail
          go_roundw
          case rel => exact ⟨i + 1, by omega, by go_num, by rw [HS.out, bitsL_append, feed_append, ← HR.out]; rw [List.take_of_length_le (by rw [hlp.len]; omega)] at hB; exact hB, hb⟩
          case measure => simp [intOf]; omega
    · have hlti : (n : Int) ≤ (i : Int) := by omega
      go_wp2_with fail
      go_end0
      exact ⟨rfl, by rw [List.take_of_length_le (by rw [HL.out]; omega)] at hB; exact hB, hb⟩
theorem iv_not (q : BitVec 32) : iv (q ^^^ ones) = 4294967295 - iv q := by
  have : q ^^^ ones = ~~~q := by
    apply BitVec.eq_of_getLsbD_eq
    intro i hi
    have h32 : ∀ k : Fin 32, ones.getLsbD k.val = true := by decide
    rw [BitVec.getLsbD_xor, h32 ⟨i, hi⟩, BitVec.getLsbD_not, decide_eq_true hi]
    simp
  have h := q.isLt
  rw [this]
  unfold iv
  rw [BitVec.toNat_not]
  omega
theorem iv_ones : iv ones = 4294967295 := by decide
theorem iv_max (q : BitVec 32) : bits .xor .u32 IntKind.u32.max (iv q) = iv (q ^^^ ones) := by
  rw [show IntKind.u32.max = iv ones from iv_ones.symm, iv_xor, BitVec.xor_comm]

set_option maxRecDepth 100000 in
theorem sumOf_any (A : Option Addr) (n c : Nat) (ps : List (List Int)) (w : World) (hp : Parts w A n ps) :
    Calls Try.prog 56 #[.slice A n c] w fun e w' => e = .returned (.int .u32 (iv (crc (bitsL ps.flatten)))) ∧ Below w.heap.size w w' := by
  have hmf : ∀ (fn : Fn) (first cap : Array Value) (w : World), (Instr.makeFunc fn first cap).run Try.prog w = .ok (.func fn first cap) w := fun _ _ _ _ => rfl
  go_enter Try.func56, Try.ntmps56
  go_wp2_with fail
  have hB := Blk.new w 109 #[.int .u32 4294967295]
  rw [← iv_ones] at hB ⊢
  with_reducible refine (each_any A n c w.heap.size ones ps w hp (Nat.le_refl _) _ (below_al (Below.refl _ _) _) hB).mono ?_
  rintro e w1 ⟨rfl, hB1, hb1⟩
  have hc := hB1.cell 0
  simp at hc
  have hN := iv_max (feed ones (bitsL ps.flatten))
  have h0 := iv_lo (feed ones (bitsL ps.flatten))
  have h1 := iv_hi (feed ones (bitsL ps.flatten))
  have HC := Lib.hid (show crc (bitsL ps.flatten) = feed ones (bitsL ps.flatten) ^^^ ones from rfl)
  obtain ⟨q, hq⟩ : ∃ q, q = feed ones (bitsL ps.flatten) := ⟨_, rfl⟩
  rw [← hq] at hc hN h0 h1 HC
  clear hq hB hB1 hp
  obtain ⟨v, hv⟩ : ∃ v, v = iv q := ⟨_, rfl⟩
  rw [← hv] at hc hN h0 h1
  have HN := Lib.hid hN
  clear hN hv
  go_wp2_with fail
  go_ret
  exact ⟨ret_int (by rw [HC.out]; exact HN.out), hb1⟩

/-- The number of bytes. -/
def numB (l : List Int) : Int := l.foldl (fun n x => n * 256 + x) 0
theorem numB_snoc (l : List Int) (k : Nat) (h : k < l.length) : numB (l.take (k + 1)) = numB (l.take k) * 256 + l.getD k 0 := by
  unfold numB
  rw [List.take_succ_eq_append_getElem h, List.foldl_append, getD_at l k h]
  rfl
theorem numB_bd (l : List Int) (hb : ∀ x ∈ l, 0 ≤ x ∧ x ≤ 255) : ∀ k, k ≤ l.length → 0 ≤ numB (l.take k) ∧ numB (l.take k) < 256 ^ k := by
  intro k
  induction k with
  | zero => intro _; simp [numB]
  | succ k ih =>
    intro h
    have h1 := ih (by omega)
    have h2 := hb (l.getD k 0) (by rw [getD_at l k (by omega)]; exact List.getElem_mem _)
    rw [numB_snoc l k (by omega), Int.pow_succ]
    omega
theorem pow256 (k : Nat) (h : k < 4) : (256 : Int) ^ k ≤ 16777216 := by
  match k, h with
  | 0, _ => decide
  | 1, _ => decide
  | 2, _ => decide
  | 3, _ => decide
theorem or_low32 (n x : Int) (h0 : 0 ≤ n) (h1 : n < 16777216) (h2 : 0 ≤ x) (h3 : x ≤ 255) : bits .or .u32 (n * 256) x = n * 256 + x := by
  rw [u32_or _ _ (by omega) (by omega) h2 (by omega), nat_join 8 _ _ (by omega) (by omega)]
  omega
theorem number_any (A : Option Addr) (c : Nat) (l : List Int) (w : World) (hx : Lies .u8 w w.heap.size A 4 l) (hbd : ∀ x ∈ l, 0 ≤ x ∧ x ≤ 255) :
    Calls Try.prog 57 #[.slice A 4 c] w fun e w' => e = .returned (.int .u32 (numB l)) ∧ w = w' := by
  have HL := Lib.hid hx.len
  have HB := Lib.hid hbd
  clear hbd
  go_enter Try.func57, Try.ntmps57
  go_wp2
  go_loop [3, 8] (fun a i => ∃ k : Nat, k ≤ 4 ∧ i = .int .i64 k ∧ a = .int .u32 (numB (l.take k))) (fun _ i => 4 - (intOf i).toNat)
  case atStart => exact ⟨0, Nat.zero_le _, rfl, rfl⟩
  case round =>
    obtain ⟨k, hk, rfl, rfl⟩ := hrel
    by_cases hlt : k < 4
    · obtain ⟨b, off, rfl, hb, hc⟩ := hx.at_ (by omega)
      have hcell := hc k hlt
      have hs := Lib.hid (numB_snoc l k (by rw [HL.out]; exact hlt))
      have hbd := numB_bd l HB.out k (by rw [HL.out]; exact hk)
      have hx2 := HB.out (l.getD k 0) (by rw [getD_at l k (by rw [HL.out]; exact hlt)]; exact List.getElem_mem _)
      have hp := pow256 k hlt
      obtain ⟨x, hx1⟩ : ∃ x, x = l.getD k 0 := ⟨_, rfl⟩
      obtain ⟨v, hv⟩ : ∃ v, v = numB (l.take k) := ⟨_, rfl⟩
      rw [← hx1] at hcell hs hx2
      rw [← hv] at hs hbd ⊢
      clear hx1 hv hc
      obtain ⟨h0, h1⟩ := hbd
      have h1' : v < 16777216 := by omega
      clear h1 hp
      obtain ⟨hx20, hx21⟩ := hx2
      have hor := or_low32 v x h0 h1' hx20 hx21
      go_wp2
      go_round
      case rel => exact ⟨k + 1, by omega, by go_num, by rw [hs.out]⟩
      case measure => simp [intOf]; omega
    · go_wp2
      go_ret
      exact ⟨ret_int (by rw [List.take_of_length_le (by rw [HL.out]; omega)]), rfl⟩
end Go.Proofs.Ytpjcbfapkjipjaa
