/-
  The contract of the document's answer New: what is wrong with a config first; nothing that was there has turned. Conditions: the config's reading.
-/
import Derived.Test.YtkejpkcaojidaaaGreatDoorCf4
import Derived.Test.YtkejpkcaojidaaaGreatDoorRgLaid
namespace Go.Proofs.YtkejpkcaojidaaaGreatDoor
set_option linter.unusedVariables false
set_option linter.unusedSimpArgs false
open Go.RowKit Rg

theorem refWithin_any (x lo hi : Int) (w : World) :
    Calls Tryz.prog 38 #[.int .i64 x, .int .i64 lo, .int .i64 hi] w fun e w' => e = .returned (.int .i64 (wit lo hi x)) ∧ w = w' := by
  by_cases h1 : hi < x
  · have HX := Lib.hid (wit_hi (lo := lo) h1)
    go_enter Tryz.func38, Tryz.ntmps38
    go_wp2_with fail
    go_ret
    exact ⟨ret_int HX.out.symm, rfl⟩
  · by_cases h2 : x < lo
    · have HX := Lib.hid (wit_lo h1 h2)
      have h1' : x ≤ hi := by omega
      clear h1
      go_enter Tryz.func38, Tryz.ntmps38
      go_wp2_with fail
      go_ret
      exact ⟨ret_int HX.out.symm, rfl⟩
    · have HX := Lib.hid (wit_ok.2 ⟨Int.not_lt.1 h2, Int.not_lt.1 h1⟩)
      have h1' : x ≤ hi := by omega
      have h2' : lo ≤ x := by omega
      clear h1 h2
      go_enter Tryz.func38, Tryz.ntmps38
      go_wp2_with fail
      go_ret
      exact ⟨ret_int HX.out.symm, rfl⟩

theorem elemBools : Tryz.prog.underlying 172 = some (.slice (Tryz.prog.elem 172)) := by kernel_rfl
theorem sizeBools (w : World) : (sizeOf (Tryz.prog.elem 172)).run Tryz.prog w = .ok 1 w := by kernel_rfl
theorem idxBools {A : Option Addr} {n : Nat} (c : Nat) {k b off : Nat} (hA : A = some ⟨b, off, none⟩) (hk : k < n) (w : World) :
    (Instr.indexAt 172 (.slice A n c) (.int .i64 (k : Int))).run Tryz.prog w = .ok (.pointer (some ⟨b, off + k, none⟩)) w := by
  subst hA
  rw [run_indexAt_slice (h := elemBools), if_pos (by omega), sizeBools]
  simp [Result.andThen, Addr.add_lit]
theorem lastP_take (P : List Int) (k : Nat) (h0 : 0 < k) (h : k ≤ P.length) : lastP (P.take k) = P.getD (k - 1) 0 := by
  obtain ⟨j, rfl⟩ : ∃ j, k = j + 1 := ⟨k - 1, by omega⟩
  rw [take_snoc P j (by omega), lastP_snoc, Nat.add_sub_cancel]

set_option maxRecDepth 100000 in
set_option maxHeartbeats 1000000 in
theorem refPairs_any (c : Cf) (w : World) (hc : CfIn w c) (h1 : 4 ≤ c.N) (h2 : c.N ≤ 16) :
    Calls Tryz.prog 39 #[.agg #[.int .i64 c.N, .slice c.pA c.pn c.pc, .slice c.sA c.sn c.sc, .int .i64 c.L, .slice c.bA c.bn c.bc, .slice c.tA c.tn c.tc, .int .i64 c.M, .int .i64 c.G, .int .i64 c.F]] w fun e w' => e = .returned (.bool (decide (okP c.N c.P))) ∧ Below w.heap.size w w' := by
  have HL := Lib.hid hc.p.len
  have hfew := hc.few.1
  have HC := Lib.hid hc
  have hmk := fun u => makeBools 16 (by omega) (by omega) u
  simp only [Int.reduceToNat] at hmk
  clear hc
  go_enter Tryz.func39, Tryz.ntmps39
  go_wp2_with fail
  clear hmk
  go_loopw [4] (fun i wr => ∃ k : Nat, k ≤ c.pn ∧ i = .int .i64 k ∧ Hid (okP c.N (c.P.take k)) ∧ Blk wr w.heap.size 25 #[.int .i64 c.N, .slice c.pA c.pn c.pc, .slice c.sA c.sn c.sc, .int .i64 c.L, .slice c.bA c.bn c.bc, .slice c.tA c.tn c.tc, .int .i64 c.M, .int .i64 c.G, .int .i64 c.F] ∧ Blk wr (w.heap.size + 1) 4 (cellsB (tkL c.N (c.P.take k))) ∧ Below w.heap.size w wr) (fun i _ => c.pn - (intOf i).toNat)
  case atStart =>
    refine ⟨0, Nat.zero_le _, rfl, Lib.hid (okP_nil _), (Blk.new w _ _).alloc _, ?_, below_al (below_al (Below.refl _ _) _) _⟩
    have h := Blk.new (w.alloc (.cells #[.int .i64 c.N, .slice c.pA c.pn c.pc, .slice c.sA c.sn c.sc, .int .i64 c.L, .slice c.bA c.bn c.bc, .slice c.tA c.tn c.tc, .int .i64 c.M, .int .i64 c.G, .int .i64 c.F] 25)) 4 (cellsB (List.replicate 16 false))
    rw [alloc_size] at h
    rw [List.take_zero, tkL_none]
    exact h
  case round =>
    obtain ⟨k, hk, rfl, hok, hB1, hB2, hb⟩ := hrel
    have hz := hb.size
    obtain ⟨k0, k1, k2, k3, k4, k5, k6, k7, k8⟩ := hB1.cf
    by_cases hlt : k < c.pn
    · obtain ⟨b, off, hA, hbl, hcc⟩ := (HC.out.on hb).p.at_ (by omega)
      have hcell := hcc k hlt
      have HS := Lib.hid (take_snoc c.P k (by have := HL.out; omega))
      have HT := Lib.hid (fun (h : okP c.N c.P) => okP_take h (k + 1))
      have HLT := Lib.hid (fun h0 => lastP_take c.P k h0 (by have := HL.out; omega))
      have hprev := hcc (k - 1) (by omega)
      obtain ⟨a, ha⟩ : ∃ a, a = c.P.getD k 0 := ⟨_, rfl⟩
      obtain ⟨pv, hpv⟩ : ∃ a, a = c.P.getD (k - 1) 0 := ⟨_, rfl⟩
      obtain ⟨Q, hQ⟩ : ∃ Q, Q = c.P.take k := ⟨_, rfl⟩
      have HQ0 := Lib.hid (show k = 0 → lastP Q = -1 from fun h => by rw [hQ, h]; rfl)
      rw [← ha] at hcell HS
      rw [← hpv] at hprev HLT
      rw [← hQ] at HS hok hB2 HLT
      have HO := Lib.hid (okP_snoc (a := a) h1 hok.out)
      have HR := Lib.hid (show ¬ oneP c.N Q a → decide (okP c.N c.P) = false from fun h => decide_eq_false fun q => h (HO.out.1 (by have := HT.out q; rwa [HS.out] at this)))
      have hix := fun W => idxNums (n := c.pn) c.pc hA hlt W
      have hix1 : 0 < k → ∀ W, (Instr.indexAt 22 (.slice c.pA c.pn c.pc) (.int .i64 ((k : Int) - 1))).run Tryz.prog W = .ok (.pointer (some ⟨b, off + (k - 1), none⟩)) W := fun h0 W => by
        have := idxNums (n := c.pn) c.pc (k := k - 1) hA (by omega) W
        rwa [show (((k - 1 : Nat)) : Int) = (k : Int) - 1 by omega] at this
      clear ha hpv hQ hA hcc
      by_cases ha0 : a < 0
      · have HX := Lib.hid (HR.out fun q => by have := q.1; omega)
        clear hix1
        go_wp2_with fail
        go_ret
        exact ⟨ret_bool HX.out.symm, hb⟩
      · by_cases haN : c.N ≤ a
        · have HX := Lib.hid (HR.out fun q => by have := q.1; omega)
          have ha0' : 0 ≤ a := by omega
          clear hix1 ha0
          go_wp2_with fail
          go_ret
          exact ⟨ret_bool HX.out.symm, hb⟩
        · obtain ⟨ka, rfl⟩ : ∃ ka : Nat, a = ka := ⟨a.toNat, by omega⟩
          have hm := mod_bd ((ka : Int) + 1) c.N (by omega)
          obtain ⟨kb, hkb⟩ : ∃ kb : Nat, (kb : Int) = ((ka : Int) + 1) % c.N := ⟨(((ka : Int) + 1) % c.N).toNat, by omega⟩
          have HKB := Lib.hid hkb
          have hka : ka < 16 := by omega
          have hkb16 : kb < 16 := by omega
          have haN' : (ka : Int) < c.N := by omega
          have hd0 : decide ((ka : Int) < 0) = false := decide_eq_false (by omega)
          have hd1 : decide (c.N ≤ (ka : Int)) = false := decide_eq_false (by omega)
          have HIN := Lib.hid (show 0 ≤ (ka : Int) ∧ (ka : Int) < c.N by omega)
          have hcA := (hB2.cell ka).trans (cellsB_at _ ka (by rw [tkL_len]; exact hka))
          have hcB := (hB2.cell kb).trans (cellsB_at _ kb (by rw [tkL_len]; exact hkb16))
          have HTA := Lib.hid (tkL_at c.N Q ka hka)
          have HTB := Lib.hid (tkL_at c.N Q kb hkb16)
          have HSN := Lib.hid (tkL_snoc c.N Q ka kb hkb)
          obtain ⟨ta, hta⟩ : ∃ t, t = (tkL c.N Q).getD ka false := ⟨_, rfl⟩
          obtain ⟨tb, htb⟩ : ∃ t, t = (tkL c.N Q).getD kb false := ⟨_, rfl⟩
          rw [← hta] at hcA HTA
          rw [← htb] at hcB HTB
          have hkm1 : ((ka : Int) + 1).tmod c.N = (kb : Int) := by rw [Int.tmod_eq_emod_of_nonneg (by omega)]; exact hkb.symm
          have hkm2 : ((ka : Int) + 1) % c.N = (kb : Int) := hkb.symm
          have hNz : c.N ≠ 0 := by omega
          have hiA := fun W => idxBools (n := 16) 16 (k := ka) (b := w.heap.size + 1) (off := 0) rfl hka W
          have hiB := fun W => idxBools (n := 16) 16 (k := kb) (b := w.heap.size + 1) (off := 0) rfl hkb16 W
          simp only [Nat.zero_add] at hiA hiB
          have hfr := hB2.frozen
          clear hta htb hkb hm ha0 haN
          rcases Nat.eq_zero_or_pos k with hk0 | hk0
          · have HLA := Lib.hid (show lastP Q < (ka : Int) by rw [HQ0.out hk0]; omega)
            have hg1 : decide ((0 : Int) < (k : Int)) = false := decide_eq_false (by omega)
            have hg2 : decide (0 < k) = false := decide_eq_false (by omega)
            clear hix1 hprev hk0
            by_cases hta : ta = true
            · subst hta
              have HX := Lib.hid (HR.out fun q => by
                have h3 := any_not.2 q.2.2.1
                rw [← HTA.out] at h3
                cases h3)
              go_wp2_with fail
              go_ret
              exact ⟨ret_bool HX.out.symm, hb⟩
            · have hta : ta = false := by simpa using hta
              subst hta
              by_cases htb : tb = true
              · subst htb
                have HX := Lib.hid (HR.out fun q => by
                  have h3 := q.2.2.2
                  rw [← HKB.out] at h3
                  have h3 := any_not.2 h3
                  rw [← HTB.out] at h3
                  cases h3)
                go_wp2_with fail
                go_ret
                exact ⟨ret_bool HX.out.symm, hb⟩
              · have htb : tb = false := by simpa using htb
                subst htb
                have HX := Lib.hid (HO.out.2 ⟨HIN.out, HLA.out, any_not.1 HTA.out.symm, by rw [← HKB.out]; exact any_not.1 HTB.out.symm⟩)
                have hcB2 := (hB2.set_ ka (.bool true)).cell kb
                rw [cellsB_set, cellsB_at _ kb (by rw [List.length_set, tkL_len]; exact hkb16)] at hcB2
                have hS := (hB2.set_ ka (.bool true)).set_ kb (.bool true)
                have hD := (hB1.far_ (p := ⟨w.heap.size + 1, ka, none⟩) (by simp) (.bool true)).far_ (p := ⟨w.heap.size + 1, kb, none⟩) (by simp) (.bool true)
                rw [cellsB_set, cellsB_set, HSN.out] at hS
                go_wp2_with fail
                go_roundw
                case rel => exact ⟨k + 1, by omega, by go_num, Lib.hid (by rw [HS.out]; exact HX.out), hD, by rw [HS.out]; exact hS, (hb.setCell (by simp) _).setCell (by simp) _⟩
                case measure => simp [intOf]; omega
          · have hix2 := hix1 hk0
            clear hix1
            have hg1 : decide ((0 : Int) < (k : Int)) = true := decide_eq_true (by omega)
            have hg2 : decide (0 < k) = true := decide_eq_true hk0
            by_cases hle : (ka : Int) ≤ pv
            · have HX := Lib.hid (HR.out fun q => by have := q.2.1; rw [HLT.out hk0] at this; omega)
              go_wp2_with fail
              go_ret
              exact ⟨ret_bool HX.out.symm, hb⟩
            · have HLA := Lib.hid (show lastP Q < (ka : Int) by rw [HLT.out hk0]; omega)
              have hle' : pv < (ka : Int) := by omega
              have hle2 : decide ((ka : Int) ≤ pv) = false := decide_eq_false hle
              clear hle
              by_cases hta : ta = true
              · subst hta
                have HX := Lib.hid (HR.out fun q => by
                  have h3 := any_not.2 q.2.2.1
                  rw [← HTA.out] at h3
                  cases h3)
                go_wp2_with fail
                go_ret
                exact ⟨ret_bool HX.out.symm, hb⟩
              · have hta : ta = false := by simpa using hta
                subst hta
                by_cases htb : tb = true
                · subst htb
                  have HX := Lib.hid (HR.out fun q => by
                    have h3 := q.2.2.2
                    rw [← HKB.out] at h3
                    have h3 := any_not.2 h3
                    rw [← HTB.out] at h3
                    cases h3)
                  go_wp2_with fail
                  go_ret
                  exact ⟨ret_bool HX.out.symm, hb⟩
                · have htb : tb = false := by simpa using htb
                  subst htb
                  have HX := Lib.hid (HO.out.2 ⟨HIN.out, HLA.out, any_not.1 HTA.out.symm, by rw [← HKB.out]; exact any_not.1 HTB.out.symm⟩)
                  have hcB2 := (hB2.set_ ka (.bool true)).cell kb
                  rw [cellsB_set, cellsB_at _ kb (by rw [List.length_set, tkL_len]; exact hkb16)] at hcB2
                  have hS := (hB2.set_ ka (.bool true)).set_ kb (.bool true)
                  have hD := (hB1.far_ (p := ⟨w.heap.size + 1, ka, none⟩) (by simp) (.bool true)).far_ (p := ⟨w.heap.size + 1, kb, none⟩) (by simp) (.bool true)
                  rw [cellsB_set, cellsB_set, HSN.out] at hS
                  go_wp2_with fail
                  go_roundw
                  case rel => exact ⟨k + 1, by omega, by go_num, Lib.hid (by rw [HS.out]; exact HX.out), hD, by rw [HS.out]; exact hS, (hb.setCell (by simp) _).setCell (by simp) _⟩
                  case measure => simp [intOf]; omega
    · have HX := Lib.hid (show decide (okP c.N c.P) = true from decide_eq_true (by have := hok.out; rwa [List.take_of_length_le (by have := HL.out; omega)] at this))
      go_wp2_with fail
      go_ret
      exact ⟨ret_bool HX.out.symm, hb⟩
end Go.Proofs.YtkejpkcaojidaaaGreatDoor

namespace Go.Proofs.YtkejpkcaojidaaaGreatDoor
open Go.RowKit Rg

/-- Which pairs some slots are. -/
def hasL (n : Nat) (l : List Int) : List Bool := (List.range n).map fun (x : Nat) => decide ((x : Int) ∈ l)
theorem hasL_len (n : Nat) (l : List Int) : (hasL n l).length = n := by simp [hasL]
theorem hasL_none (n : Nat) : hasL n [] = List.replicate n false := by
  apply List.ext_getElem
  · simp [hasL]
  · intro i h1 h2; simp [hasL]
theorem hasL_at (n : Nat) (l : List Int) (x : Nat) (h : x < n) : (hasL n l).getD x false = decide ((x : Int) ∈ l) := by
  simp [hasL, List.getD, h]
theorem hasL_snoc (n : Nat) (l : List Int) (s : Nat) : (hasL n l).set s true = hasL n (l ++ [(s : Int)]) := by
  apply List.ext_getElem
  · simp [hasL]
  · intro x h1 h2
    rw [List.getElem_set]
    split
    · rename_i e; subst e; simp [hasL]
    · rename_i e
      have : ¬ (x : Int) = (s : Int) := by omega
      simp [hasL, this]

set_option maxRecDepth 100000 in
set_option maxHeartbeats 1000000 in
theorem refSlots_any (c : Cf) (w : World) (hc : CfIn w c) :
    Calls Tryz.prog 40 #[.agg #[.int .i64 c.N, .slice c.pA c.pn c.pc, .slice c.sA c.sn c.sc, .int .i64 c.L, .slice c.bA c.bn c.bc, .slice c.tA c.tn c.tc, .int .i64 c.M, .int .i64 c.G, .int .i64 c.F]] w fun e w' => e = .returned (.bool (decide (okS c.pn c.S))) ∧ Below w.heap.size w w' := by
  have HL := Lib.hid hc.s.len
  have hfs := hc.few.2.1
  have hfp := hc.few.1
  have HC := Lib.hid hc
  have hmk := fun u => makeBools (c.pn : Int) (by omega) (by omega) u
  simp only [Int.toNat_natCast] at hmk
  clear hc
  have HF1 := Lib.hid (fun k hk h => show decide (okS c.pn c.S) = false from decide_eq_false fun q => by have := okS_first (n := c.pn) (S := c.S) k hk h; rw [slotsE_ok.2 q] at this; cases this)
  have HF2 := Lib.hid (fun k hk h => show decide (okS c.pn c.S) = false from decide_eq_false fun q => by have := okS_second (n := c.pn) (S := c.S) k hk h; rw [slotsE_ok.2 q] at this; cases this)
  go_enter Tryz.func40, Tryz.ntmps40
  go_wp2_with fail
  clear hmk
  go_loopw [4] (fun i wr => ∃ k : Nat, k ≤ c.sn ∧ i = .int .i64 k ∧ Hid (∀ j, j < k → plB c.pn (c.S.getD j 0) = true) ∧ Blk wr w.heap.size 25 #[.int .i64 c.N, .slice c.pA c.pn c.pc, .slice c.sA c.sn c.sc, .int .i64 c.L, .slice c.bA c.bn c.bc, .slice c.tA c.tn c.tc, .int .i64 c.M, .int .i64 c.G, .int .i64 c.F] ∧ Blk wr (w.heap.size + 1) 4 (cellsB (hasL c.pn (c.S.take k))) ∧ Below w.heap.size w wr) (fun i _ => c.sn - (intOf i).toNat)
  case atStart =>
    refine ⟨0, Nat.zero_le _, rfl, Lib.hid fun j hj => absurd hj (by omega), (Blk.new w _ _).alloc _, ?_, below_al (below_al (Below.refl _ _) _) _⟩
    have h := Blk.new (w.alloc (.cells #[.int .i64 c.N, .slice c.pA c.pn c.pc, .slice c.sA c.sn c.sc, .int .i64 c.L, .slice c.bA c.bn c.bc, .slice c.tA c.tn c.tc, .int .i64 c.M, .int .i64 c.G, .int .i64 c.F] 25)) 4 (cellsB (List.replicate c.pn false))
    rw [alloc_size] at h
    rw [List.take_zero, hasL_none]
    exact h
  case round =>
    obtain ⟨k, hk, rfl, ht, hB1, hB2, hb⟩ := hrel
    obtain ⟨k0, k1, k2, k3, k4, k5, k6, k7, k8⟩ := hB1.cf
    by_cases hlt : k < c.sn
    · obtain ⟨b, off, hA, hbl, hcc⟩ := (HC.out.on hb).s.at_ (by omega)
      have hcell := hcc k hlt
      have hix := fun W => idxNums (n := c.sn) c.sc hA hlt W
      have HS := Lib.hid (take_snoc c.S k (by have := HL.out; omega))
      have HF := Lib.hid (HF1.out k (by have := HL.out; omega))
      have HN := Lib.hid (show plB c.pn (c.S.getD k 0) = true → ∀ j, j < k + 1 → plB c.pn (c.S.getD j 0) = true from fun h j hj => by
        rcases Nat.lt_succ_iff_lt_or_eq.1 hj with q | q
        · exact ht.out j q
        · rw [q]; exact h)
      obtain ⟨a, ha⟩ : ∃ a, a = c.S.getD k 0 := ⟨_, rfl⟩
      rw [← ha] at hcell HF HN HS
      clear ha hcc hA
      have hi0 : (0 : Int) ≤ (k : Int) := by omega
      have hi1 : (k : Int) < (c.sn : Int) := by omega
      by_cases ha0 : a < 0
      · have HX := Lib.hid (HF.out (by simp only [plB, decide_eq_false_iff_not]; omega))
        have hd : decide (a < 0) = true := decide_eq_true ha0
        go_wp2_with fail
        go_quiet (fail)
        go_wp2_with fail
        go_ret
        exact ⟨ret_bool HX.out.symm, below_drewN hb _⟩
      · by_cases haN : (c.pn : Int) ≤ a
        · have HX := Lib.hid (HF.out (by simp only [plB, decide_eq_false_iff_not]; omega))
          have ha0' : 0 ≤ a := by omega
          have hd : decide (a < 0) = false := decide_eq_false ha0
          have hd2 : decide ((c.pn : Int) ≤ a) = true := decide_eq_true haN
          clear ha0
          go_wp2_with fail
          go_quiet (fail)
          go_wp2_with fail
          go_ret
          exact ⟨ret_bool HX.out.symm, below_drewN hb _⟩
        · obtain ⟨s, rfl⟩ : ∃ s : Nat, a = s := ⟨a.toNat, by omega⟩
          have hs : s < c.pn := by omega
          have HP := Lib.hid (HN.out (by simp only [plB]; exact decide_eq_true (by omega)))
          have HSN := Lib.hid (hasL_snoc c.pn (c.S.take k) s)
          have hd : decide ((s : Int) < 0) = false := decide_eq_false ha0
          have hd2 : decide ((c.pn : Int) ≤ (s : Int)) = false := decide_eq_false haN
          have hd3 : decide (c.pn ≤ s) = false := decide_eq_false (by omega)
          have hiB := fun W => idxBools (n := c.pn) c.pn (k := s) (b := w.heap.size + 1) (off := 0) rfl hs W
          simp only [Nat.zero_add] at hiB
          have hcB := (hB2.cell s).trans (cellsB_at _ s (by rw [hasL_len]; exact hs))
          have hfr := hB2.frozen
          obtain ⟨tb, htb⟩ : ∃ t, t = (hasL c.pn (c.S.take k)).getD s false := ⟨_, rfl⟩
          rw [← htb] at hcB
          clear htb ha0 haN
          have hS := hB2.set_ s (.bool true)
          rw [cellsB_set, HSN.out, ← HS.out] at hS
          have hD := hB1.far_ (p := ⟨w.heap.size + 1, s, none⟩) (by simp) (.bool true)
          go_wp2_with fail
          go_quiet (fail)
          go_wp2_with fail
          go_roundw
          case rel => exact ⟨k + 1, by omega, by go_num, HP, by first | exact hD | exact hD.drewN _, by first | exact hS | exact hS.drewN _, by first | exact hb.setCell (by simp) _ | exact below_drewN (hb.setCell (by simp) _) _ | exact (below_drewN hb _).setCell (by simp) _⟩
          case measure => simp [intOf]; omega
    · have H1 := Lib.hid (show ∀ j, j < c.S.length → plB c.pn (c.S.getD j 0) = true from fun j hj => ht.out j (by have := HL.out; omega))
      have hB3 : Blk wr (w.heap.size + 1) 4 (cellsB (hasL c.pn c.S)) := by have h := hB2; rw [List.take_of_length_le (by have := HL.out; omega)] at h; exact h
      clear ht hB2
      go_wp2_with fail
      clear k0 k1 k2 k3 k4 k5 k6 k7 k8
      go_loop [5] (fun i => ∃ p : Nat, p ≤ c.pn ∧ i = .int .i64 p ∧ Hid (∀ j, j < p → (j : Int) ∈ c.S)) (fun i => c.pn - (intOf i).toNat)
      case atStart => exact ⟨0, Nat.zero_le _, rfl, Lib.hid fun j hj => absurd hj (by omega)⟩
      case round =>
        obtain ⟨p, hpk, rfl, ht⟩ := hrel
        by_cases hlt2 : p < c.pn
        · have HF := Lib.hid (HF2.out p hlt2)
          have HN := Lib.hid (show (p : Int) ∈ c.S → ∀ j : Nat, j < p + 1 → (j : Int) ∈ c.S from fun h j hj => by
            rcases Nat.lt_succ_iff_lt_or_eq.1 hj with q | q
            · exact ht.out j q
            · rw [q]; exact h)
          have hiB := fun W => idxBools (n := c.pn) c.pn (k := p) (b := w.heap.size + 1) (off := 0) rfl hlt2 W
          simp only [Nat.zero_add] at hiB
          have hcB := (hB3.cell p).trans (cellsB_at _ p (by rw [hasL_len]; exact hlt2))
          rw [hasL_at _ _ _ hlt2] at hcB
          by_cases hp : decide ((p : Int) ∈ c.S) = true
          · have HP := Lib.hid (HN.out (of_decide_eq_true hp))
            rw [hp] at hcB
            clear hp
            go_wp2_with fail
            go_round
            case rel => exact ⟨p + 1, by omega, by go_num, HP⟩
            case measure => simp [intOf]; omega
          · have hp := bfalse hp
            have HX := Lib.hid (HF.out hp)
            rw [hp] at hcB
            clear hp
            go_wp2_with fail
            go_ret
            exact ⟨ret_bool HX.out.symm, hb⟩
        · have HX := Lib.hid (show decide (okS c.pn c.S) = true from decide_eq_true (slotsE_ok.1 (okS_all (n := c.pn) (S := c.S) H1.out fun q hq => ht.out q (by omega))))
          go_wp2_with fail
          go_ret
          exact ⟨ret_bool HX.out.symm, hb⟩
end Go.Proofs.YtkejpkcaojidaaaGreatDoor

namespace Go.Proofs.YtkejpkcaojidaaaGreatDoor
open Go.RowKit Rg

theorem errs_drop {c : Cf} {k : Nat} {x : Int} (h : newE c = firstE ((errs c).drop k)) (hk : k < 10) (hx : (errs c).getD k 0 = x) (h0 : x = 0) : newE c = firstE ((errs c).drop (k + 1)) :=
  h.trans (firstE_drop (errs c) k hk (hx.trans h0))
theorem errs_stop {c : Cf} {k : Nat} {x : Int} (h : newE c = firstE ((errs c).drop k)) (hk : k < 10) (hx : (errs c).getD k 0 = x) (h0 : x ≠ 0) : newE c = x :=
  (h.trans (firstE_stop (errs c) k hk (by rw [hx]; exact h0))).trans hx
theorem refWithin_is (x lo hi v : Int) (hv : wit lo hi x = v) (w : World) :
    Calls Tryz.prog 38 #[.int .i64 x, .int .i64 lo, .int .i64 hi] w fun e w' => e = .returned (.int .i64 v) ∧ w = w' := by
  subst hv; exact refWithin_any x lo hi w
theorem refPairs_is (c : Cf) (b : Bool) (hb : decide (okP c.N c.P) = b) (w : World) (hc : CfIn w c) (h1 : 4 ≤ c.N) (h2 : c.N ≤ 16) :
    Calls Tryz.prog 39 #[.agg #[.int .i64 c.N, .slice c.pA c.pn c.pc, .slice c.sA c.sn c.sc, .int .i64 c.L, .slice c.bA c.bn c.bc, .slice c.tA c.tn c.tc, .int .i64 c.M, .int .i64 c.G, .int .i64 c.F]] w fun e w' => e = .returned (.bool b) ∧ Below w.heap.size w w' := by
  subst hb; exact refPairs_any c w hc h1 h2
theorem refSlots_is (c : Cf) (b : Bool) (hb : decide (okS c.pn c.S) = b) (w : World) (hc : CfIn w c) :
    Calls Tryz.prog 40 #[.agg #[.int .i64 c.N, .slice c.pA c.pn c.pc, .slice c.sA c.sn c.sc, .int .i64 c.L, .slice c.bA c.bn c.bc, .slice c.tA c.tn c.tc, .int .i64 c.M, .int .i64 c.G, .int .i64 c.F]] w fun e w' => e = .returned (.bool b) ∧ Below w.heap.size w w' := by
  subst hb; exact refSlots_any c w hc

set_option maxRecDepth 100000 in
set_option maxHeartbeats 4000000 in
theorem refNew_any (c : Cf) (w : World) (hc : CfIn w c) :
    Calls Tryz.prog 20 #[.agg #[.int .i64 c.N, .slice c.pA c.pn c.pc, .slice c.sA c.sn c.sc, .int .i64 c.L, .slice c.bA c.bn c.bc, .slice c.tA c.tn c.tc, .int .i64 c.M, .int .i64 c.G, .int .i64 c.F]] w fun e w' => e = .returned (.int .i64 (newE c)) ∧ Below w.heap.size w w' := by
  have HE0 := Lib.hid (show newE c = firstE ((errs c).drop 0) from rfl)
  obtain ⟨f1, f2, f3, f4⟩ := hc.few
  have HC := Lib.hid hc
  have HLB := Lib.hid hc.b.len
  have HLT := Lib.hid hc.t.len
  clear hc
  have hB0 := Blk.new w 25 #[.int .i64 c.N, .slice c.pA c.pn c.pc, .slice c.sA c.sn c.sc, .int .i64 c.L, .slice c.bA c.bn c.bc, .slice c.tA c.tn c.tc, .int .i64 c.M, .int .i64 c.G, .int .i64 c.F]
  have hb0 := below_al (Below.refl w.heap.size w) (.cells #[.int .i64 c.N, .slice c.pA c.pn c.pc, .slice c.sA c.sn c.sc, .int .i64 c.L, .slice c.bA c.bn c.bc, .slice c.tA c.tn c.tc, .int .i64 c.M, .int .i64 c.G, .int .i64 c.F] 25)
  obtain ⟨w0, hw0⟩ : ∃ w0, w0 = w.alloc (.cells #[.int .i64 c.N, .slice c.pA c.pn c.pc, .slice c.sA c.sn c.sc, .int .i64 c.L, .slice c.bA c.bn c.bc, .slice c.tA c.tn c.tc, .int .i64 c.M, .int .i64 c.G, .int .i64 c.F] 25) := ⟨_, rfl⟩
  go_enter Tryz.func20, Tryz.ntmps20
  go_wp2_with fail
  rw [← hw0] at hB0 hb0 ⊢
  clear hw0
  obtain ⟨k0, k1, k2, k3, k4, k5, k6, k7, k8⟩ := hB0.cf
  obtain ⟨v, hv⟩ : ∃ v, v = wit 4 16 c.N := ⟨_, rfl⟩
  have HV := Lib.hid hv.symm
  have HG := Lib.hid (show (errs c).getD 0 0 = v from hv.symm)
  clear hv
  by_cases hv0 : v = 0
  · subst hv0
    have HE1 := Lib.hid (errs_drop HE0.out (by decide) HG.out rfl)
    have HK0 := Lib.hid HV.out
    clear HG HE0
    go_wp2_with (go_at_call 38; (with_reducible refine (refWithin_is _ _ _ 0 HV.out _).mono ?_); rintro e w' ⟨rfl, rfl⟩)
    clear HV
    obtain ⟨hn1, hn2⟩ := wit_ok.1 HK0.out
    have hmx : max (3 * c.N + 1) (c.N + 116) = c.N + 116 := by omega
    obtain ⟨v, hv⟩ : ∃ v, v = wit 2 8 (c.pn : Int) := ⟨_, rfl⟩
    have HV := Lib.hid hv.symm
    have HG := Lib.hid (show (errs c).getD 1 0 = v from hv.symm)
    clear hv
    by_cases hv0 : v = 0
    · subst hv0
      have HE2 := Lib.hid (errs_drop HE1.out (by decide) HG.out rfl)
      have HK1 := Lib.hid HV.out
      clear HG HE1
      go_wp2_with (go_at_call 38; (with_reducible refine (refWithin_is _ _ _ 0 HV.out _).mono ?_); rintro e w' ⟨rfl, rfl⟩)
      clear HV
      by_cases hq : okP c.N c.P
      · have HE3 := Lib.hid (errs_drop HE2.out (by decide) rfl (pairsE_ok.2 hq))
        have HQ := Lib.hid (decide_eq_true hq)
        clear hq HE2
        go_wp2_with (go_at_call 39; (with_reducible refine (refPairs_is c true HQ.out w0 (HC.out.on hb0) hn1 hn2).mono ?_); rintro e w2 ⟨rfl, a2⟩; have hb2 := below_then hb0 a2; have hB2 := hB0.on a2; clear k0 k1 k2 k3 k4 k5 k6 k7 k8; obtain ⟨k0, k1, k2, k3, k4, k5, k6, k7, k8⟩ := hB2.cf)
        clear HQ
        obtain ⟨v, hv⟩ : ∃ v, v = wit 1 16 (c.sn : Int) := ⟨_, rfl⟩
        have HV := Lib.hid hv.symm
        have HG := Lib.hid (show (errs c).getD 3 0 = v from hv.symm)
        clear hv
        by_cases hv0 : v = 0
        · subst hv0
          have HE4 := Lib.hid (errs_drop HE3.out (by decide) HG.out rfl)
          have HK3 := Lib.hid HV.out
          clear HG HE3
          go_wp2_with (go_at_call 38; (with_reducible refine (refWithin_is _ _ _ 0 HV.out _).mono ?_); rintro e w' ⟨rfl, rfl⟩)
          clear HV
          by_cases hq : okS c.pn c.S
          · have HE5 := Lib.hid (errs_drop HE4.out (by decide) rfl (slotsE_ok.2 hq))
            have HQ := Lib.hid (decide_eq_true hq)
            clear hq HE4
            go_wp2_with (go_at_call 40; (with_reducible refine (refSlots_is c true HQ.out w2 (HC.out.on hb2)).mono ?_); rintro e w4 ⟨rfl, a4⟩; have hb4 := below_then hb2 a4; have hB4 := hB2.on a4; clear k0 k1 k2 k3 k4 k5 k6 k7 k8; obtain ⟨k0, k1, k2, k3, k4, k5, k6, k7, k8⟩ := hB4.cf)
            clear HQ
            obtain ⟨v, hv⟩ : ∃ v, v = wit (c.N + 116) 4096 c.L := ⟨_, rfl⟩
            have HV := Lib.hid hv.symm
            have HG := Lib.hid (show (errs c).getD 5 0 = v from hv.symm)
            clear hv
            by_cases hv0 : v = 0
            · subst hv0
              have HE6 := Lib.hid (errs_drop HE5.out (by decide) HG.out rfl)
              clear HG HE5
              by_cases hbn : (c.bn : Int) = c.N
              · have HBE := Lib.hid (show bootsE c.N c.bn c.B = witL 0 4096 c.B by rw [bootsE, if_pos hbn])
                have hbb : ((c.bn : Int) != c.N) = false := by simp [hbn]
                clear hbn
                go_wp2_with (go_at_call 38; (with_reducible refine (refWithin_is _ _ _ 0 HV.out _).mono ?_); rintro e w' ⟨rfl, rfl⟩)
                clear HV hbb hmx
                go_loop [4] (fun i => ∃ k : Nat, k ≤ c.bn ∧ i = .int .i64 k ∧ Hid (witL 0 4096 c.B = witL 0 4096 (c.B.drop k))) (fun i => c.bn - (intOf i).toNat)
                case atStart => exact ⟨0, Nat.zero_le _, rfl, Lib.hid rfl⟩
                case round =>
                  obtain ⟨k, hk, rfl, ht⟩ := hrel
                  by_cases hlt : k < c.bn
                  · obtain ⟨b, off, hA, hbl, hcc⟩ := (HC.out.on hb4).b.at_ (by omega)
                    have hcell := hcc k hlt
                    have hix := fun W => idxNums (n := c.bn) c.bc hA hlt W
                    have HS := Lib.hid (witL_drop 0 4096 c.B k (by have := HLB.out; omega))
                    have HO := Lib.hid (witL_stop 0 4096 c.B k (by have := HLB.out; omega))
                    obtain ⟨y, hy⟩ : ∃ y, y = c.B.getD k 0 := ⟨_, rfl⟩
                    rw [← hy] at hcell HS HO
                    obtain ⟨v, hv⟩ : ∃ v, v = wit 0 4096 y := ⟨_, rfl⟩
                    rw [← hv] at HS HO
                    have HV := Lib.hid hv.symm
                    clear hy hcc hA hv
                    by_cases hv0 : v = 0
                    · subst hv0
                      have HN := Lib.hid (ht.out.trans (HS.out rfl))
                      clear HS HO
                      go_wp2_with (go_at_call 38; (with_reducible refine (refWithin_is _ _ _ 0 HV.out _).mono ?_); rintro e w' ⟨rfl, rfl⟩)
                      go_round
                      case rel => exact ⟨k + 1, by omega, by go_num, HN⟩
                      case measure => simp [intOf]; omega
                    · have HX := Lib.hid (errs_stop HE6.out (by decide) (HBE.out.trans (ht.out.trans (HO.out hv0))) hv0)
                      have hvb := beq_eq_false_iff_ne.2 hv0
                      clear hv0 HS HO
                      go_wp2_with (go_at_call 38; (with_reducible refine (refWithin_is _ _ _ v HV.out _).mono ?_); rintro e w' ⟨rfl, rfl⟩)
                      go_ret
                      exact ⟨ret_int HX.out.symm, hb4⟩
                  · have HE7 := Lib.hid (errs_drop HE6.out (by decide) (HBE.out.trans (ht.out.trans (by rw [List.drop_of_length_le (by have := HLB.out; omega)]; rfl))) rfl)
                    clear ht HE6 HBE
                    obtain ⟨v, hv⟩ : ∃ v, v = wit 0 8 (c.tn : Int) := ⟨_, rfl⟩
                    have HV := Lib.hid hv.symm
                    have HG := Lib.hid (show (errs c).getD 7 0 = v from hv.symm)
                    clear hv
                    by_cases hv0 : v = 0
                    · subst hv0
                      have HE8 := Lib.hid (errs_drop HE7.out (by decide) HG.out rfl)
                      have HK7 := Lib.hid HV.out
                      clear HG HE7
                      go_wp2_with (go_at_call 38; (with_reducible refine (refWithin_is _ _ _ 0 HV.out _).mono ?_); rintro e w' ⟨rfl, rfl⟩)
                      clear HV
                      clear k0 k1 k2 k3 k4 k5 k6 k7 k8
                      go_loopw [5] (fun i wr => ∃ k : Nat, k ≤ c.tn ∧ i = .int .i64 k ∧ Hid (stL c.N c.T = stL c.N (c.T.drop k)) ∧ Below w4.heap.size w4 wr) (fun i _ => c.tn - (intOf i).toNat)
                      case atStart => exact ⟨0, Nat.zero_le _, rfl, Lib.hid rfl, Below.refl _ _⟩
                      case round =>
                        obtain ⟨k, hk, rfl, ht, hb8⟩ := hrel
                        have hz := hb8.size
                        have hb9 := below_then hb4 hb8
                        obtain ⟨k0, k1, k2, k3, k4, k5, k6, k7, k8⟩ := (hB4.on hb8).cf
                        have hlt0 : w.heap.size < wr.heap.size := Nat.lt_of_lt_of_le hB4.lt hz
                        by_cases hlt : k < c.tn
                        · obtain ⟨b, off, hA, hbl, hcc⟩ := (HC.out.on hb9).t.at_ (by omega)
                          obtain ⟨q0, q1, q2⟩ := hcc k hlt
                          have hix := fun W => idxSts (n := c.tn) c.tc hA hlt W
                          have HD := Lib.hid (stL_drop c.N c.T k (by have := HLT.out; omega))
                          have HS := Lib.hid (stL_stop c.N c.T k (by have := HLT.out; omega))
                          obtain ⟨⟨x, y, z⟩, ha⟩ : ∃ s, s = c.T.getD k (0, 0, 0) := ⟨_, rfl⟩
                          rw [← ha] at q0 q1 q2 HD HS
                          clear ha hA hcc
                          simp only at q0 q1 q2
                          by_cases hx0 : x < 0
                          · have HX := Lib.hid (errs_stop (x := 1) HE8.out (by decide) (ht.out.trans ((HS.out (by rw [stE, if_pos (by left; exact hx0)]; decide)).trans (by rw [stE, if_pos (by left; exact hx0)]))) (by decide))
                            clear HS HD
                            go_wp2_with fail
                            go_ret
                            exact ⟨ret_int HX.out.symm, below_al hb9 _⟩
                          · by_cases hxN : c.N ≤ x
                            · have HX := Lib.hid (errs_stop (x := 1) HE8.out (by decide) (ht.out.trans ((HS.out (by rw [stE, if_pos (by right; exact hxN)]; decide)).trans (by rw [stE, if_pos (by right; exact hxN)]))) (by decide))
                              have hx0' : 0 ≤ x := by omega
                              clear HS HD hx0
                              go_wp2_with fail
                              go_ret
                              exact ⟨ret_int HX.out.symm, below_al hb9 _⟩
                            · have HST := Lib.hid (show stE c.N (x, y, z) = wit 1 100 z by rw [stE, if_neg (by simp only; omega)])
                              have hx0' : 0 ≤ x := by omega
                              have hxN' : x < c.N := by omega
                              obtain ⟨v, hv⟩ : ∃ v, v = wit 1 100 z := ⟨_, rfl⟩
                              rw [HST.out, ← hv] at HS HD
                              have HV := Lib.hid hv.symm
                              clear hv hx0 hxN HST
                              by_cases hv0 : v = 0
                              · subst hv0
                                have HN := Lib.hid (ht.out.trans (HD.out rfl))
                                clear HS HD
                                go_wp2_with (go_at_call 38; (with_reducible refine (refWithin_is _ _ _ 0 HV.out _).mono ?_); rintro e w' ⟨rfl, rfl⟩)
                                go_roundw
                                case rel => exact ⟨k + 1, by omega, by go_num, HN, hb8.alloc hz _⟩
                                case measure => simp [intOf]; omega
                              · have HX := Lib.hid (errs_stop HE8.out (by decide) (ht.out.trans (HS.out hv0)) hv0)
                                have hvb := beq_eq_false_iff_ne.2 hv0
                                clear hv0 HS HD
                                go_wp2_with (go_at_call 38; (with_reducible refine (refWithin_is _ _ _ v HV.out _).mono ?_); rintro e w' ⟨rfl, rfl⟩)
                                go_ret
                                exact ⟨ret_int HX.out.symm, below_al hb9 _⟩
                        · have HE9 := Lib.hid (errs_drop HE8.out (by decide) (ht.out.trans (by rw [List.drop_of_length_le (by have := HLT.out; omega)]; rfl)) rfl)
                          clear ht HE8
                          have hl3 := Lies.new wr 3 .i64 [c.M, c.G, c.F] 3 rfl #[.int .i64 c.M, .int .i64 c.G, .int .i64 c.F] rfl
                          go_wp2_with fail
                          go_loop [8] (fun i => ∃ j : Nat, j ≤ 3 ∧ i = .int .i64 j ∧ Hid (witL 1 100 [c.M, c.G, c.F] = witL 1 100 ([c.M, c.G, c.F].drop j))) (fun i => 3 - (intOf i).toNat)
                          case atStart => exact ⟨0, by omega, rfl, Lib.hid rfl⟩
                          case round =>
                            obtain ⟨j, hj, rfl, ht⟩ := hrel
                            by_cases hltj : j < 3
                            · obtain ⟨b, off, hA, hbl, hcc⟩ := hl3.at_ (by omega)
                              injection hA with hA
                              injection hA with hA1 hA2
                              subst hA1 hA2
                              have hcell := hcc j hltj
                              have hix := fun W => idxNums (n := 3) 3 (k := j) (b := wr.heap.size) (off := 0) rfl hltj W
                              simp only [Nat.zero_add] at hix hcell
                              have HS := Lib.hid (witL_drop 1 100 [c.M, c.G, c.F] j hltj)
                              have HO := Lib.hid (witL_stop 1 100 [c.M, c.G, c.F] j hltj)
                              obtain ⟨y, hy⟩ : ∃ y, y = [c.M, c.G, c.F].getD j 0 := ⟨_, rfl⟩
                              rw [← hy] at hcell HS HO
                              obtain ⟨v, hv⟩ : ∃ v, v = wit 1 100 y := ⟨_, rfl⟩
                              rw [← hv] at HS HO
                              have HV := Lib.hid hv.symm
                              clear hy hcc hv hl3
                              by_cases hv0 : v = 0
                              · subst hv0
                                have HN := Lib.hid (ht.out.trans (HS.out rfl))
                                clear HS HO
                                go_wp2_with (go_at_call 38; (with_reducible refine (refWithin_is _ _ _ 0 HV.out _).mono ?_); rintro e w' ⟨rfl, rfl⟩)
                                go_round
                                case rel => exact ⟨j + 1, by omega, by go_num, HN⟩
                                case measure => simp [intOf]; omega
                              · have HX := Lib.hid (errs_stop HE9.out (by decide) (ht.out.trans (HO.out hv0)) hv0)
                                have hvb := beq_eq_false_iff_ne.2 hv0
                                clear hv0 HS HO
                                go_wp2_with (go_at_call 38; (with_reducible refine (refWithin_is _ _ _ v HV.out _).mono ?_); rintro e w' ⟨rfl, rfl⟩)
                                go_ret
                                exact ⟨ret_int HX.out.symm, below_al hb9 _⟩
                            · have HX := Lib.hid (errs_drop HE9.out (by decide) (ht.out.trans (by rw [List.drop_of_length_le (show [c.M, c.G, c.F].length ≤ j by simp only [List.length_cons, List.length_nil]; omega)]; rfl)) rfl)
                              clear hl3
                              go_wp2_with fail
                              go_ret
                              exact ⟨ret_int HX.out.symm, below_al hb9 _⟩
                    · have HX := Lib.hid (errs_stop HE7.out (by decide) HG.out hv0)
                      have hvb := beq_eq_false_iff_ne.2 hv0
                      clear hv0 HG
                      go_wp2_with (go_at_call 38; (with_reducible refine (refWithin_is _ _ _ v HV.out _).mono ?_); rintro e w' ⟨rfl, rfl⟩)
                      go_ret
                      exact ⟨ret_int HX.out.symm, hb4⟩
              · have HX := Lib.hid (errs_stop (x := 1) HE6.out (by decide) (show bootsE c.N c.bn c.B = 1 by rw [bootsE, if_neg hbn]) (by decide))
                have hbb := beq_eq_false_iff_ne.2 hbn
                clear hbn
                go_wp2_with (go_at_call 38; (with_reducible refine (refWithin_is _ _ _ 0 HV.out _).mono ?_); rintro e w' ⟨rfl, rfl⟩)
                go_ret
                exact ⟨ret_int HX.out.symm, hb4⟩
            · have HX := Lib.hid (errs_stop HE5.out (by decide) HG.out hv0)
              have hvb := beq_eq_false_iff_ne.2 hv0
              clear hv0 HG
              go_wp2_with (go_at_call 38; (with_reducible refine (refWithin_is _ _ _ v HV.out _).mono ?_); rintro e w' ⟨rfl, rfl⟩)
              go_ret
              exact ⟨ret_int HX.out.symm, hb4⟩
          · have HX := Lib.hid (errs_stop (x := 1) HE4.out (by decide) (show slotsE c.pn c.S = 1 by unfold slotsE; rw [if_neg hq]) (by decide))
            have HQ := Lib.hid (decide_eq_false hq)
            clear hq
            go_wp2_with (go_at_call 40; (with_reducible refine (refSlots_is c false HQ.out w2 (HC.out.on hb2)).mono ?_); rintro e w4 ⟨rfl, a4⟩)
            go_ret
            exact ⟨ret_int HX.out.symm, below_then hb2 a4⟩
        · have HX := Lib.hid (errs_stop HE3.out (by decide) HG.out hv0)
          have hvb := beq_eq_false_iff_ne.2 hv0
          clear hv0 HG
          go_wp2_with (go_at_call 38; (with_reducible refine (refWithin_is _ _ _ v HV.out _).mono ?_); rintro e w' ⟨rfl, rfl⟩)
          go_ret
          exact ⟨ret_int HX.out.symm, hb2⟩
      · have HX := Lib.hid (errs_stop (x := 1) HE2.out (by decide) (show pairsE c.N c.P = 1 by unfold pairsE; rw [if_neg hq]) (by decide))
        have HQ := Lib.hid (decide_eq_false hq)
        clear hq
        go_wp2_with (go_at_call 39; (with_reducible refine (refPairs_is c false HQ.out w0 (HC.out.on hb0) hn1 hn2).mono ?_); rintro e w2 ⟨rfl, a2⟩)
        go_ret
        exact ⟨ret_int HX.out.symm, below_then hb0 a2⟩
    · have HX := Lib.hid (errs_stop HE1.out (by decide) HG.out hv0)
      have hvb := beq_eq_false_iff_ne.2 hv0
      clear hv0 HG
      go_wp2_with (go_at_call 38; (with_reducible refine (refWithin_is _ _ _ v HV.out _).mono ?_); rintro e w' ⟨rfl, rfl⟩)
      go_ret
      exact ⟨ret_int HX.out.symm, hb0⟩
  · have HX := Lib.hid (errs_stop HE0.out (by decide) HG.out hv0)
    have hvb := beq_eq_false_iff_ne.2 hv0
    clear hv0 HG
    go_wp2_with (go_at_call 38; (with_reducible refine (refWithin_is _ _ _ v HV.out _).mono ?_); rintro e w' ⟨rfl, rfl⟩)
    go_ret
    exact ⟨ret_int HX.out.symm, hb0⟩
end Go.Proofs.YtkejpkcaojidaaaGreatDoor

