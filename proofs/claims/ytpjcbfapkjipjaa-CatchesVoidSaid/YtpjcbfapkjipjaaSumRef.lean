/-
  The contract of the reference's Of: the sum. Conditions: the slice's reading, bytes, a length of at most 4096.
-/
import Derived.Test.YtpjcbfapkjipjaaSumRefM
namespace Go.Proofs.Ytpjcbfapkjipjaa
open Go.RowKit Crc

theorem infoBool : (Try.prog.info? 4).map (fun i => (i.zero, i.size, i.bytes)) = some (some (.bool false), 1, 1) := by kernel_rfl
def powC : Array Value := #[.int .i64 26, .int .i64 23, .int .i64 22, .int .i64 16, .int .i64 12, .int .i64 11, .int .i64 10, .int .i64 8, .int .i64 7, .int .i64 5, .int .i64 4, .int .i64 2, .int .i64 1, .int .i64 0]
theorem powC_at (k : Nat) (h : k < 14) : powC[k]? = some (.int .i64 (powers.getD k 0 : Nat)) ∧ powers.getD k 0 ≤ 26 := by
  have : ∀ k : Fin 14, powC[k.val]? = some (.int .i64 (powers.getD k.val 0 : Nat)) ∧ powers.getD k.val 0 ≤ 26 := by
    intro k
    match k with
    | 0 | 1 | 2 | 3 | 4 | 5 | 6 | 7 | 8 | 9 | 10 | 11 | 12 | 13 => exact ⟨rfl, by decide⟩
  exact this ⟨k, h⟩
theorem bools_snoc {w : World} {base n c : Nat} {e : TypeId} {A : Option Addr} {ts : List Bool} {t : Bool} (h : w.ownsRow base e 1 (.slice A (n + 1) c) (n + 1) ((ts.take n).map Value.bool ++ [.bool t])) (hn : n < ts.length) (ht : ts.getD n false = t) :
    w.ownsRow base e 1 (.slice A (n + 1) c) (n + 1) ((ts.take (n + 1)).map Value.bool) := by
  have : (ts.take (n + 1)).map Value.bool = (ts.take n).map Value.bool ++ [.bool t] := by
    rw [List.take_succ_eq_append_getElem hn, List.map_append]
    simp [List.getD, hn] at ht
    simp [ht]
  rw [this]
  exact h

set_option maxRecDepth 100000 in
set_option maxHeartbeats 8000000 in
theorem refOf_any (A : Option Addr) (n c : Nat) (b : List Int) (w : World) (hx : Lies .u8 w w.heap.size A n b) (hbd : ∀ x ∈ b, 0 ≤ x ∧ x ≤ 255) (hn : n ≤ 4096) :
    Calls Try.prog 64 #[.slice A n c] w fun e w' => e = .returned (.int .u32 (sumI b)) ∧ Below w.heap.size w w' := by
  obtain ⟨i0, hi0, hz0, hz1, hz2⟩ := info_parts infoBool
  have HL := Lib.hid hx.len
  have HB := Lib.hid hbd
  clear hbd
  obtain ⟨ts, hts⟩ : ∃ ts, ts = origL b := ⟨_, rfl⟩
  have HT := Lib.hid (show ts.length = 8 * n + 32 by rw [hts, origL_length, hx.len])
  have HV := Lib.hid (fun i r (hi : i < n) (hr : r < 8) => show ts.getD (8 * i + (8 - (r + 1))) false = (b.getD i 0).toNat.testBit r by
    rw [hts, origL_low b _ (by rw [hx.len]; omega)]; exact bits_idx b i r (by rw [hx.len]; exact hi) hr)
  have HZ := Lib.hid (fun j (hj : 8 * n ≤ j) => show ts.getD j false = false by rw [hts]; exact origL_high b j (by rw [hx.len]; exact hj))
  have HLO := Lib.hid (fun j (hj : j < 8 * n) => show ts.getD j false = (bitsL b).getD j false by rw [hts]; exact origL_low b j (by rw [hx.len]; exact hj))
  have HBL := Lib.hid (show (bitsL b).length = 8 * n by rw [bitsL_length, hx.len])
  have hnum := div_number b
  rw [← hts, hx.len] at hnum
  have HNUM := Lib.hid hnum
  clear hnum
  have HBD : Hid ((bitsL b).take (8 * n) = bitsL b) := Lib.hid (List.take_of_length_le (by rw [HBL.out]; exact Nat.le_refl _))
  clear hts
  go_enter Try.func64, Try.ntmps64
  go_wp2_with fail
  have hP : Blk (w.alloc (.cells powC 113)) w.heap.size 113 powC := Blk.new w _ _
  have hb1 := below_al (Below.refl w.heap.size w) (.cells powC 113)
  have hx1 := hx.al (.cells powC 113)
  obtain ⟨w1, hw1⟩ : ∃ w1, w1 = w.alloc (.cells powC 113) := ⟨_, rfl⟩
  rw [← hw1] at hP hb1 hx1
  change Code.wp _ _ _ _ (w.alloc (.cells powC 113))
  rw [← hw1]
  clear hw1 hx
  have hPl := hP.lt
  go_loopw [4, 5] (fun v1 iv' wr => ∃ (i : Nat) (A' : Option Addr) (c' : Nat), i ≤ n ∧ iv' = .int .i64 i ∧ v1 = .slice A' (8 * i) c' ∧ wr.ownsRow w1.heap.size 4 1 (.slice A' (8 * i) c') (8 * i) ((ts.take (8 * i)).map Value.bool) ∧ Below w1.heap.size w1 wr) (fun _ iv' _ => n - (intOf iv').toNat)
  case atStart => exact ⟨0, none, 0, Nat.zero_le _, rfl, rfl, ⟨rfl, .inl ⟨rfl, rfl⟩⟩, Below.refl _ _⟩
  case round =>
    obtain ⟨i, A', c', hi, rfl, rfl, hown, hb⟩ := hrel
    by_cases hlt : i < n
    · have hlti : (i : Int) < (n : Int) := by omega
      obtain ⟨bb, off, rfl, hbb, hc⟩ := hx1.at_ (by omega)
      have hcw := hc i hlt
      have hxb := HB.out (b.getD i 0) (by rw [getD_at _ _ (by rw [HL.out]; exact hlt)]; exact List.getElem_mem _)
      have HVi := Lib.hid (fun r hr => HV.out i r hlt hr)
      obtain ⟨x, hx2⟩ : ∃ x, x = b.getD i 0 := ⟨_, rfl⟩
      rw [← hx2] at hcw hxb HVi
      clear hx2 hc
      obtain ⟨hx0, hx9⟩ := hxb
      go_wp2_with fail
      go_loopw [4, 6] (fun v1 kv wx => ∃ (j : Nat) (A' : Option Addr) (c' : Nat), j ≤ 8 ∧ kv = .int .i64 ((j : Int) - 1) ∧ v1 = .slice A' (8 * i + (8 - j)) c' ∧ wx.ownsRow w1.heap.size 4 1 (.slice A' (8 * i + (8 - j)) c') (8 * i + (8 - j)) ((ts.take (8 * i + (8 - j))).map Value.bool) ∧ Below w1.heap.size w1 wx) (fun _ kv _ => ((intOf kv) + 1).toNat)
      case atStart => exact ⟨8, A', c', Nat.le_refl _, rfl, rfl, hown, hb⟩
      case round =>
        clear hown hb
        obtain ⟨j, A', c', hj, rfl, rfl, hown, hb⟩ := hrel
        by_cases hj0 : j = 0
        · subst hj0
          go_wp2_with fail
          go_roundw
          case rel => exact ⟨i + 1, A', c', by omega, by go_num, rfl, hown, hb⟩
          case measure => simp [intOf]; omega
        · obtain ⟨r, rfl⟩ : ∃ r, j = r + 1 := ⟨j - 1, by omega⟩
          clear hj0
          have hcell := (hb.cell (p := ⟨bb, off + i, none⟩) hbb).trans hcw
          have hre : ((r + 1 : Nat) : Int) - 1 = (r : Int) := by omega
          rw [hre]
          have hr1 : (0 : Int) ≤ (r : Int) := by omega
          have hidx : 8 * i + (8 - (r + 1)) < 8 * n := by omega
          obtain ⟨q, hq⟩ : ∃ q, q = 8 * i + (8 - (r + 1)) := ⟨_, rfl⟩
          have HQ1 := Lib.hid (show 8 * i + (8 - r) = q + 1 by omega)
          have hy := Lib.hid (HVi.out r (by omega))
          rw [← hq] at hown hidx hy ⊢
          clear hq hre
          have hbit := bit8 x r hx0 hx9
          obtain ⟨y, hy1⟩ : ∃ y, y = x.toNat.testBit r := ⟨_, rfl⟩
          rw [← hy1] at hbit hy
          clear hy1
          have hq9 : q ≤ 1000000 := by omega
          have hcu : (wr.alloc (.cells #[.bool y] 4)).cell? ⟨wr.heap.size, 0, none⟩ = some (.bool y) := by simp
          have hown' := hown.alloc (.cells #[.bool y] 4)
          go_wp2_with (first
            | (at_builtin; with_reducible refine wpList_append_one rfl (.tmp 25) (.tmp 34) 114 rfl w1.heap.size 4 i0 _ 1 Try.underlying114 hi0 hz0 hz1 hz2 rfl (.slice A' q c') q _ rfl hown' wr.heap.size (.bool y) rfl hcu rfl (by unfold maxLen; omega) (by omega) (Nat.le_trans hb.size (by simp)) ?_))
          intro A2 c2 w2 hown2 hg2
          have hb2 := (below_al hb _).grown hg2 (Nat.le_trans hb.size (by simp)) (fun r hr => (hown.lt r hr).1)
          have hown3 := bools_snoc (ts := ts) (by rw [List.map_take]; exact hown2) (by rw [HT.out]; omega) hy.out
          clear hown hown' hown2 hg2 hcu
          go_wp2_with fail
          go_roundw
          case rel => exact ⟨r, A2, c2, by omega, by go_num, by rw [HQ1.out], by rw [HQ1.out]; exact hown3, hb2⟩
          case measure => simp [intOf]
    · have hlti : (n : Int) ≤ (i : Int) := by omega
      obtain rfl : i = n := by omega
      clear HV hlt
      go_wp2_with fail
      go_loopw [4, 7] (fun v1 iv' wr => ∃ (k : Nat) (A' : Option Addr) (c' : Nat), k ≤ 32 ∧ iv' = .int .i64 k ∧ v1 = .slice A' (8 * i + k) c' ∧ wr.ownsRow w1.heap.size 4 1 (.slice A' (8 * i + k) c') (8 * i + k) ((ts.take (8 * i + k)).map Value.bool) ∧ Below w1.heap.size w1 wr) (fun _ iv' _ => 32 - (intOf iv').toNat)
      case atStart => exact ⟨0, A', c', Nat.zero_le _, rfl, rfl, hown, hb⟩
      case round =>
        clear hown hb
        obtain ⟨k, A', c', hk, rfl, rfl, hown, hb⟩ := hrel
        by_cases hk32 : k < 32
        · have hk32i : (k : Int) < 32 := by omega
          have hy := Lib.hid (HZ.out (8 * i + k) (by omega))
          obtain ⟨q, hq⟩ : ∃ q, q = 8 * i + k := ⟨_, rfl⟩
          have HQ1 := Lib.hid (show 8 * i + (k + 1) = q + 1 by omega)
          have hidx : q < 8 * i + 32 := by omega
          rw [← hq] at hown hy ⊢
          clear hq
          have hq9 : q ≤ 1000000 := by omega
          have hcu : (wr.alloc (.cells #[.bool false] 4)).cell? ⟨wr.heap.size, 0, none⟩ = some (.bool false) := by simp
          have hown' := hown.alloc (.cells #[.bool false] 4)
          go_wp2_with (first
            | (at_builtin; with_reducible refine wpList_append_one rfl (.tmp 40) (.tmp 41) 114 rfl w1.heap.size 4 i0 _ 1 Try.underlying114 hi0 hz0 hz1 hz2 rfl (.slice A' q c') q _ rfl hown' wr.heap.size (.bool false) rfl hcu rfl (by unfold maxLen; omega) (by omega) (Nat.le_trans hb.size (by simp)) ?_))
          intro A2 c2 w2 hown2 hg2
          have hb2 := (below_al hb _).grown hg2 (Nat.le_trans hb.size (by simp)) (fun r hr => (hown.lt r hr).1)
          have hown3 := bools_snoc (ts := ts) (by rw [List.map_take]; exact hown2) (by rw [HT.out]; omega) hy.out
          clear hown hown' hown2 hg2 hcu
          go_wp2_with fail
          go_roundw
          case rel => exact ⟨k + 1, A2, c2, by omega, by go_num, by rw [HQ1.out], by rw [HQ1.out]; exact hown3, hb2⟩
          case measure => simp [intOf]; omega
        · have hk32i : (32 : Int) ≤ (k : Int) := by omega
          obtain rfl : k = 32 := by omega
          clear hk hk32
          rw [List.take_of_length_le (by rw [HT.out]; exact Nat.le_refl _)] at hown
          obtain ⟨g, rfl, hg, hR⟩ := rowB_of_owns hown (by omega)
          rw [← firstL_none ts] at hR
          clear hown hi0 hz0 hz1 hz2
          go_wp2_with fail
          go_loopw [8] (fun iv' wr => ∃ k : Nat, k ≤ 32 ∧ iv' = .int .i64 k ∧ RowB wr 4 g (8 * i + 32) c' (firstL ts k) ∧ Below w1.heap.size w1 wr) (fun iv' _ => 32 - (intOf iv').toNat)
          case atStart => exact ⟨0, Nat.zero_le _, rfl, hR, hb⟩
          case round =>
            clear hR hb
            obtain ⟨k, hk, rfl, hR, hb⟩ := hrel
            by_cases hk32 : k < 32
            · have hk32i : (k : Int) < 32 := by omega
              have hki : (k : Int) < 8 * (i : Int) + 32 := by omega
              have hk0 : (0 : Int) ≤ (k : Int) := by omega
              have hc := hR.cell (j := k) (by omega)
              have hf := hR.frozen k
              have hnew := hR.set_ (j := k) (by omega) (!(firstL ts k).getD k false)
              rw [firstL_step ts k (by rw [HT.out]; omega)] at hnew
              obtain ⟨y, hy⟩ : ∃ y, y = (firstL ts k).getD k false := ⟨_, rfl⟩
              rw [← hy] at hc hnew
              have HNEW := Lib.hid hnew
              clear hy hnew
              go_wp2_with fail
              go_roundw
              case rel => exact ⟨k + 1, by omega, by go_num, HNEW.out, hb.setCell hg _⟩
              case measure => simp [intOf]; omega
            · have hk32i : (32 : Int) ≤ (k : Int) := by omega
              obtain rfl : k = 32 := by omega
              clear hk hk32
              rw [firstL_div] at hR
              go_wp2_with fail
              go_loopw [9] (fun iv' wr => ∃ k : Nat, k ≤ 8 * i ∧ iv' = .int .i64 k ∧ RowB wr 4 g (8 * i + 32) c' (divL ts (feed ones ((bitsL b).take k)) k) ∧ Below w1.heap.size w1 wr) (fun iv' _ => 8 * i - (intOf iv').toNat)
              case atStart => exact ⟨0, Nat.zero_le _, rfl, hR, hb⟩
              case round =>
                clear hR hb
                obtain ⟨k, hk, rfl, hR, hb⟩ := hrel
                by_cases hkn : k < 8 * i
                · have hkni : (k : Int) + 32 < 8 * (i : Int) + 32 := by omega
                  have hki : (k : Int) < 8 * (i : Int) + 32 := by omega
                  have hk0 : (0 : Int) ≤ (k : Int) := by omega
                  have HF := Lib.hid (feed_take (bitsL b) ones k (by rw [HBL.out]; exact hkn))
                  rw [← HLO.out k hkn] at HF
                  obtain ⟨r, hr⟩ : ∃ r, r = feed ones ((bitsL b).take k) := ⟨_, rfl⟩
                  rw [← hr] at HF hR
                  clear hr
                  have hc := hR.cell (j := k) (by omega)
                  have hf := hR.frozen k
                  rw [divL_at _ _ _ _ (by rw [HT.out]; omega)] at hc
                  have HK := Lib.hid (div_keep ts r k)
                  have HFL := Lib.hid (div_flips ts r k (by rw [HT.out]; omega))
                  obtain ⟨y, hy⟩ : ∃ y, y = divAt ts r k k := ⟨_, rfl⟩
                  rw [← hy] at hc HK HFL
                  clear hy
                  cases y
                  · go_wp2_with fail
                    go_roundw
                    case rel => exact ⟨k + 1, by omega, by go_num, by rw [HF.out, HK.out rfl]; exact hR, hb⟩
                    case measure => simp [intOf]; omega
                  · have hR0 := hR.set_ (j := k) (by omega) false
                    have hb0 := hb.setCell (p := ⟨g, k, none⟩) hg (.bool false)
                    go_wp2_with fail
                    go_loopw [10] (fun iv' wx => ∃ m : Nat, m ≤ 14 ∧ iv' = .int .i64 m ∧ RowB wx 4 g (8 * i + 32) c' (flips ((divL ts r k).set k false) ((powers.take m).map fun p => k + 32 - p)) ∧ Below w1.heap.size w1 wx) (fun iv' _ => 14 - (intOf iv').toNat)
                    case atStart => exact ⟨0, Nat.zero_le _, rfl, hR0, hb0⟩
                    case round =>
                      clear hR0 hb0 hc hf hR hb
                      obtain ⟨m, hm, rfl, hR, hb⟩ := hrel
                      by_cases hm14 : m < 14
                      · have hm14i : (m : Int) < 14 := by omega
                        have hm0 : (0 : Int) ≤ (m : Int) := by omega
                        have hpc := ((hP.below hb hPl).cell m).trans (powC_at m hm14).1
                        have hp26 := (powC_at m hm14).2
                        have HS := Lib.hid (flips_snoc ((divL ts r k).set k false) powers m (by simpa [powers] using hm14) k)
                        obtain ⟨p, hp⟩ : ∃ p, p = powers.getD m 0 := ⟨_, rfl⟩
                        rw [← hp] at hpc hp26 HS
                        clear hp
                        obtain ⟨q, hq⟩ : ∃ q, q = k + 32 - p := ⟨_, rfl⟩
                        rw [← hq] at HS
                        have hqi : (k : Int) + 32 - (p : Int) = (q : Int) := by omega
                        have hqn : q < 8 * i + 32 := by omega
                        have hqni : (q : Int) < 8 * (i : Int) + 32 := by omega
                        have hq0 : (0 : Int) ≤ (q : Int) := by omega
                        clear hq
                        have hc := hR.cell (j := q) hqn
                        have hf := hR.frozen q
                        have hnew := hR.set_ (j := q) hqn (!(flips ((divL ts r k).set k false) ((powers.take m).map fun p => k + 32 - p)).getD q false)
                        unfold Crc.flip at HS
                        rw [← HS.out] at hnew
                        have HNEW := Lib.hid hnew
                        obtain ⟨y, hy⟩ : ∃ y, y = (flips ((divL ts r k).set k false) ((powers.take m).map fun p => k + 32 - p)).getD q false := ⟨_, rfl⟩
                        rw [← hy] at hc HNEW
                        clear hy hnew HS
                        go_wp2_with fail
                        go_roundw
                        case rel => exact ⟨m + 1, by omega, by go_num, HNEW.out, hb.setCell hg _⟩
                        case measure => simp [intOf]; omega
                      · have hm14i : (14 : Int) ≤ (m : Int) := by omega
                        obtain rfl : m = 14 := by omega
                        rw [show powers.take 14 = powers from rfl, HFL.out (by trivial)] at hR
                        have HR : Hid (RowB wr 4 g (8 * i + 32) c' (divL ts (feed ones ((bitsL b).take (k + 1))) (k + 1))) := Lib.hid (by rw [HF.out]; exact hR)
                        clear hR HK HFL HF hm
                        go_wp2_with fail
                        go_roundw
                        case rel => first | exact ⟨k + 1, by omega, by go_num, HR.out, hb⟩ | ((repeat apply Exists.intro); exact ⟨⟨k + 1, by omega, by go_num, HR.out, hb⟩, rfl⟩)
                        case measure => simp [intOf]; omega
                · have hkni : 8 * (i : Int) + 32 ≤ (k : Int) + 32 := by omega
                  obtain rfl : k = 8 * i := by omega
                  rw [HBD.out] at hR
                  obtain ⟨T, hT⟩ : ∃ T, T = divL ts (feed ones (bitsL b)) (8 * i) := ⟨_, rfl⟩
                  rw [← hT] at hR HNUM
                  clear hT
                  have HLA := Lib.hid (fun k (h : k < 32) => lastL_at T (8 * i) k h)
                  have HLL := Lib.hid (lastL_length T (8 * i))
                  obtain ⟨U, hU⟩ : ∃ U, U = lastL T (8 * i) := ⟨_, rfl⟩
                  rw [← hU] at HLA HLL HNUM
                  clear hU
                  go_wp2_with fail
                  go_loop [12, 13] (fun nv iv' => ∃ k : Nat, k ≤ 32 ∧ iv' = .int .i64 (8 * (i : Int) + (k : Int)) ∧ nv = .int .u32 ((notN (U.take k) : Nat) : Int)) (fun _ iv' => 8 * i + 32 - (intOf iv').toNat)
                  case atStart => exact ⟨0, Nat.zero_le _, by go_num, rfl⟩
                  case round =>
                    obtain ⟨k, hk, rfl, rfl⟩ := hrel
                    by_cases hk32 : k < 32
                    · have hk32i : 8 * (i : Int) + (k : Int) < 8 * (i : Int) + 32 := by omega
                      have hk0 : (0 : Int) ≤ 8 * (i : Int) + (k : Int) := by omega
                      have hc := hR.cell (j := 8 * i + k) (by omega)
                      rw [← HLA.out k hk32] at hc
                      have HS := Lib.hid (notN_snoc U k (by rw [HLL.out]; exact hk32))
                      have hlt := notN_lt U k (by rw [HLL.out]; omega)
                      have hlt2 : notN (U.take k) < 2147483648 := Nat.lt_of_lt_of_le hlt (Nat.pow_le_pow_right (by decide) (show k ≤ 31 by omega))
                      obtain ⟨y, hy⟩ : ∃ y, y = U.getD k false := ⟨_, rfl⟩
                      obtain ⟨N, hN⟩ : ∃ N, N = notN (U.take k) := ⟨_, rfl⟩
                      rw [← hy] at hc HS
                      rw [← hN] at HS hlt2 ⊢
                      clear hy hN hlt
                      cases y
                      · go_wp2_with fail
                        go_round
                        case rel => exact ⟨k + 1, by omega, by go_num, congrArg (Value.int .u32) (by rw [HS.out]; simp)⟩
                        case measure => simp [intOf]; omega
                      · go_wp2_with fail
                        go_round
                        case rel => exact ⟨k + 1, by omega, by go_num, congrArg (Value.int .u32) (by rw [HS.out]; simp)⟩
                        case measure => simp [intOf]; omega
                    · have hk32i : 8 * (i : Int) + 32 ≤ 8 * (i : Int) + (k : Int) := by omega
                      obtain rfl : k = 32 := by omega
                      rw [List.take_of_length_le (by rw [HLL.out]; exact Nat.le_refl _)]
                      go_wp2_with fail
                      go_ret
                      exact ⟨ret_int HNUM.out, below_then hb1 hb⟩
end Go.Proofs.Ytpjcbfapkjipjaa
