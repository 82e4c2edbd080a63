/-
  The walk of the law SumsBurst: it returns true, and nothing that was there has turned. Conditions: the slice's reading, bytes, two numbers.
-/
import Derived.Test.YtnilchcgjiachaaBurstM
import Derived.StillTailTactics
namespace Go.Proofs.Ytnilchcgjiachaa
open Go.RowKit Crc

set_option maxRecDepth 100000 in
set_option maxHeartbeats 4000000 in
theorem burst_walk (A : Option Addr) (n c : Nat) (b : List Int) (v y : Int) (w : World) (hx : Lies .u8 w w.heap.size A n b) (hbd : ∀ x ∈ b, 0 ≤ x ∧ x ≤ 255) (hv0 : 0 ≤ v) (hv1 : v < 4294967296) (hy0 : 0 ≤ y) (hy1 : y ≤ 65535) (h1 : n ≤ 300) :
    Calls Try.prog 5 #[.slice A n c, .int .u32 v, .int .u16 y] w fun e w' => e = .returned (.bool true) ∧ Below w.heap.size w w' := by
  have hd1 : decide ((300 : Int) < (n : Int)) = false := by simp; omega
  have HL := Lib.hid hx.len
  have HB := Lib.hid hbd
  have HPL := Lib.hid (show (putL b).length = n + 4 by rw [putL_length, hx.len])
  have HPB := Lib.hid (putL_bd b hbd)
  have HPC := Lib.hid (check_put b)
  have HPT := Lib.hid (show (putL b).take (n + 4 - 4) = b by rw [← hx.len]; simp [putL])
  clear hbd
  go_enter Try.func5, Try.ntmps5
  go_wp2_with fail
  with_reducible refine (put1 A n c b _ hx HB.out (by omega) (n + 4) rfl w.heap.size rfl).mono ?_
  rintro e w1 ⟨g, rfl, hg, hB, hb1⟩
  have hx1 := hx.on hb1
  have hl1 := hB.lies HPL.out
  clear hx
  go_wp2_with fail
  with_reducible refine (check_yes _ _ _ _ _ hl1 HPB.out (by omega) (Nat.le_refl _) HPC.out).mono ?_
  rintro e w2 ⟨g2, rfl, hg2, hB2, hb⟩
  rw [HPT.out] at hB2
  have hx2 := hx1.on hb
  have hB1 := hB.on hb
  have hl2 := hB2.lies (n := n) HL.out
  have hb2 := below_then hb1 hb
  clear hx1 hl1 hB hb
  go_wp2_with fail
  with_reducible refine (sameBytes_true _ _ _ _ _ _ _ _ _ hl2 hx2 HB.out rfl).mono ?_
  rintro e w3 ⟨rfl, rfl⟩
  by_cases hv : v = 0
  · have hve : (v == 0) = true := by simp [hv]
    clear hv
    go_wp2_with (go_at_call 8; refine (lives_any _).mono ?_; rintro e w1 ⟨rfl, hb⟩)
    go_ret
    exact ⟨rfl, below_then hb2 hb⟩
  · have hve : (v == 0) = false := by simp [hv]
    have HV := Lib.hid hv
    clear hv
    obtain ⟨F, hF⟩ : ∃ F : Nat, y % (8 * ((n : Int) + 4) - 31) = (F : Int) := ⟨(y % (8 * ((n : Int) + 4) - 31)).toNat, by have := Int.emod_nonneg y (show 8 * ((n : Int) + 4) - 31 ≠ 0 by omega); omega⟩
    have hFn : F + 31 < 8 * (n + 4) := by have := Int.emod_lt_of_pos y (show 0 < 8 * ((n : Int) + 4) - 31 by omega); omega
    clear hl2 hx2 hB2
    obtain ⟨L, hL⟩ : ∃ L, L = putL b := ⟨_, rfl⟩
    rw [← hL] at hB1 HPB HPL
    have HLd := Lib.hid hL
    clear hL HPC HPT
    go_wp2_with fail
    rw [hF]
    have HF := Lib.hid hF
    clear hF
    go_loopw [11] (fun iv' wr => ∃ k : Nat, k ≤ 32 ∧ iv' = .int .i64 k ∧ Blk wr g 5 (cellsOf .u8 (turnN L F v k)) ∧ Below w.heap.size w wr) (fun iv' _ => 32 - (intOf iv').toNat)
    case atStart => exact ⟨0, Nat.zero_le _, rfl, hB1, hb2⟩
    case round =>
      clear hB1 hb2
      obtain ⟨k, hk, rfl, hB, hb⟩ := hrel
      by_cases hlt : k < 32
      · have hlti : (k : Int) < 32 := by omega
        have hk0 : (0 : Int) ≤ (k : Int) := by omega
        have hbit := bit32 v (31 - k) hv0 hv1
        have HT := Lib.hid (show turnN L F v (k + 1) = if v.toNat.testBit (31 - k) then turnB (turnN L F v k) (F + k) else turnN L F v k from rfl)
        obtain ⟨t, ht⟩ : ∃ t, t = v.toNat.testBit (31 - k) := ⟨_, rfl⟩
        rw [← ht] at hbit HT
        clear ht
        cases t
        · go_wp2_with fail
          go_roundw
          case rel => exact ⟨k + 1, by omega, by go_num, by rw [HT.out]; exact hB, hb⟩
          case measure => simp [intOf]; omega
        · have hj : (F + k) / 8 < n + 4 := by omega
          obtain ⟨Z, hZ⟩ : ∃ Z, Z = F + k := ⟨_, rfl⟩
          obtain ⟨D, hD⟩ : ∃ D, D = Z / 8 := ⟨_, rfl⟩
          obtain ⟨M, hM⟩ : ∃ M, M = Z % 8 := ⟨_, rfl⟩
          have hZ' : (F : Int) + (k : Int) = (Z : Int) := by omega
          have hw1 : IntKind.i64.wrap (Z : Int) = (Z : Int) := IntWalk.i64_in _ (by omega)
          have hwD : IntKind.i64.wrap (D : Int) = (D : Int) := IntWalk.i64_in _ (by omega)
          have hwM : IntKind.i64.wrap (M : Int) = (M : Int) := IntWalk.i64_in _ (by omega)
          have hw2 : (Z : Int).tdiv 8 = (D : Int) := by rw [Int.tdiv_eq_ediv_of_nonneg (by omega)]; omega
          have hw2' : (Z : Int) / 8 = (D : Int) := by omega
          have hw3 : (Z : Int).tmod 8 = (M : Int) := by rw [Int.tmod_eq_emod_of_nonneg (by omega)]; omega
          have hw3' : (Z : Int) % 8 = (M : Int) := by omega
          have hM8 : M < 8 := by omega
          have hDn : D < n + 4 := by omega
          have hDi : (D : Int) < (n : Int) + 4 := by omega
          have hD0 : (0 : Int) ≤ (D : Int) := by omega
          rw [← hZ, ← hD] at hj
          have HTL := Lib.hid (turnN_length L F v k)
          have hc := (hB.cell D).trans (cellsOf_at _ _ _ (by rw [HTL.out, HPL.out]; exact hj))
          have hf := hB.frozen D
          have hxb := turnN_bd L F v HPB.out k _ (show (turnN L F v k).getD D 0 ∈ turnN L F v k by rw [getD_at _ _ (by rw [HTL.out, HPL.out]; exact hj)]; exact List.getElem_mem _)
          have hnew := hB.set_ D (.int .u8 (xorI ((turnN L F v k).getD D 0) ((128 / 2 ^ M : Nat) : Int)))
          rw [cellsOf_set] at hnew
          have HTB := Lib.hid (show (turnN L F v k).set D (xorI ((turnN L F v k).getD D 0) ((128 / 2 ^ M : Nat) : Int)) = turnB (turnN L F v k) (F + k) by rw [turnB, ← hZ, ← hD, ← hM])
          rw [HTB.out] at hnew
          obtain ⟨q, hq⟩ : ∃ q, q = (turnN L F v k).getD D 0 := ⟨_, rfl⟩
          rw [← hq] at hc hxb HTB
          have HNEW := Lib.hid (show Blk (wr.setCell ⟨g, D, none⟩ (.int .u8 (xorI q ((128 / 2 ^ M : Nat) : Int)))) g 5 (cellsOf .u8 (turnB (turnN L F v k) (F + k))) by rw [hq]; exact hnew)
          have hxor : bits .xor .u8 q (128 / 2 ^ M) = xorI q ((128 / 2 ^ M : Nat) : Int) := xor128 q M hxb.1 hxb.2
          obtain ⟨R, hR⟩ : ∃ R, R = xorI q ((128 / 2 ^ M : Nat) : Int) := ⟨_, rfl⟩
          rw [← hR] at hxor HNEW
          clear hnew hZ hD hM hq hR HTB
          go_upto_region 14 with (fail)
          go_still_tail 19, (by kernel_rfl)
          change wpList _ _ _ _ _ wr.drew
          go_wp2_with fail
          go_roundw
          case rel => exact ⟨k + 1, by omega, by go_num, by rw [HT.out]; exact HNEW.out, (hb.setCell (Nat.le_of_lt hg) _).drew⟩
          case measure => simp [intOf]; omega
      · have hlti : (32 : Int) ≤ (k : Int) := by omega
        obtain rfl : k = 32 := by omega
        have hno := turn_told b F v HB.out hv0 hv1 HV.out (by rw [HL.out]; omega)
        rw [← HLd.out] at hno
        have hl := hB.lies (n := n + 4) (by rw [turnN_length, HPL.out])
        have HTB := Lib.hid (turnN_bd L F v HPB.out 32)
        have HNO := Lib.hid hno
        clear hno
        go_wp2_with fail
        with_reducible refine (check_no _ _ _ _ _ hl HTB.out (by omega) (Nat.le_refl _) HNO.out).mono ?_
        rintro e w5 ⟨rfl, hb5⟩
        have hb6 := below_then hb hb5
        clear hl hB hb hb5
        go_wp2_with fail
        with_reducible refine (lives_any _).mono ?_
        rintro e w6 ⟨rfl, hb⟩
        go_wp2_with fail
        go_ret
        exact ⟨rfl, below_then hb6 hb⟩

theorem sumsBurst.sumsBurst_walk (A : Option Addr) (n c : Nat) (xs : List Int) (u v : Int) (w : World) (hx : Lies .u8 w w.heap.size A n xs) (_ : n ≤ maxLen) (ha : ∀ x ∈ xs, (Lit.int .u8 x).wf = true)
    (hu : (Lit.int .u32 u).wf = true) (hv : (Lit.int .u16 v).wf = true) :
    Calls Try.prog 5 #[.slice A n c, .int .u32 u, .int .u16 v] w fun e w' => e = .returned (.bool true) ∧ Below w.heap.size w w' := by
  by_cases h1 : n ≤ 300
  · exact burst_walk A n c xs u v w hx (fun x hx => bounds_u8 (ha x hx)) (bounds_u32 hu).1 (by have := (bounds_u32 hu).2; omega) (bounds_u16 hv).1 (bounds_u16 hv).2 h1
  · have hgt : (300 : Int) < (n : Int) := by omega
    go_enter Try.func5, Try.ntmps5
    go_wp2_with (go_at_call 8; refine (lives_any _).mono ?_; rintro e w1 ⟨rfl, hb⟩)
    go_ret
    exact ⟨rfl, hb⟩
end Go.Proofs.Ytnilchcgjiachaa
