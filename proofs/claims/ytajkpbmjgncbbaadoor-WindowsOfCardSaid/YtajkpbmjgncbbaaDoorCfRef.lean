/-
  The contracts of the document's answers for configs: Within, pairs, slots. Each says what the mathematics says; nothing that was there has turned. Conditions: the config's reading; of pairs: the ring's size within its bounds.
-/
import Derived.Test.YtajkpbmjgncbbaaDoorCf4
import Derived.Test.YtajkpbmjgncbbaaDoorCf3
import Derived.Test.YtajkpbmjgncbbaaDoorSeen
namespace Go.Proofs.YtajkpbmjgncbbaaDoor
open Go.RowKit Rg

theorem refWithin_any (x lo hi : Int) (w : World) :
    Calls Tryd.prog 35 #[.int .i64 x, .int .i64 lo, .int .i64 hi] w fun e w' => e = .returned (.int .i64 (wit lo hi x)) ∧ w = w' := by
  by_cases h1 : hi < x
  · have HX := Lib.hid (wit_hi (lo := lo) h1)
    go_enter Tryd.func35, Tryd.ntmps35
    go_wp2_with fail
    go_ret
    exact ⟨ret_int HX.out.symm, rfl⟩
  · by_cases h2 : x < lo
    · have HX := Lib.hid (wit_lo h1 h2)
      have h1' : x ≤ hi := by omega
      clear h1
      go_enter Tryd.func35, Tryd.ntmps35
      go_wp2_with fail
      go_ret
      exact ⟨ret_int HX.out.symm, rfl⟩
    · have HX := Lib.hid (wit_ok.2 ⟨Int.not_lt.1 h2, Int.not_lt.1 h1⟩)
      have h1' : x ≤ hi := by omega
      have h2' : lo ≤ x := by omega
      clear h1 h2
      go_enter Tryd.func35, Tryd.ntmps35
      go_wp2_with fail
      go_ret
      exact ⟨ret_int HX.out.symm, rfl⟩

theorem elemBools : Tryd.prog.underlying 91 = some (.slice (Tryd.prog.elem 91)) := by kernel_rfl
theorem sizeBools (w : World) : (sizeOf (Tryd.prog.elem 91)).run Tryd.prog w = .ok 1 w := by kernel_rfl
theorem idxBools {A : Option Addr} {n : Nat} (c : Nat) {k b off : Nat} (hA : A = some ⟨b, off, none⟩) (hk : k < n) (w : World) :
    (Instr.indexAt 91 (.slice A n c) (.int .i64 (k : Int))).run Tryd.prog w = .ok (.pointer (some ⟨b, off + k, none⟩)) w := by
  subst hA
  rw [run_indexAt_slice (h := elemBools), if_pos (by omega), sizeBools]
  simp [Result.andThen, Addr.add_lit]
theorem lastP_take (P : List Int) (k : Nat) (h0 : 0 < k) (h : k ≤ P.length) : lastP (P.take k) = P.getD (k - 1) 0 := by
  obtain ⟨j, rfl⟩ : ∃ j, k = j + 1 := ⟨k - 1, by omega⟩
  rw [take_snoc P j (by omega), lastP_snoc, Nat.add_sub_cancel]

set_option maxRecDepth 100000 in
set_option maxHeartbeats 1000000 in
theorem refPairs_any (c : Cf) (w : World) (hc : CfIn w c) (h1 : 4 ≤ c.N) (h2 : c.N ≤ 16) :
    Calls Tryd.prog 36 #[.agg #[.int .i64 c.N, .slice c.pA c.pn c.pc, .slice c.sA c.sn c.sc, .int .i64 c.L, .slice c.bA c.bn c.bc, .slice c.tA c.tn c.tc, .int .i64 c.M, .int .i64 c.G, .int .i64 c.F]] w fun e w' => e = .returned (.bool (decide (okP c.N c.P))) ∧ Below w.heap.size w w' := by
  have HL := Lib.hid hc.p.len
  have hfew := hc.few.1
  have HC := Lib.hid hc
  have hmk := fun u => makeBools 16 (by omega) (by omega) u
  simp only [Int.reduceToNat] at hmk
  clear hc
  go_enter Tryd.func36, Tryd.ntmps36
  go_wp2_with fail
  clear hmk
  go_loopw [4] (fun i wr => ∃ k : Nat, k ≤ c.pn ∧ i = .int .i64 k ∧ Hid (okP c.N (c.P.take k)) ∧ Blk wr w.heap.size 25 #[.int .i64 c.N, .slice c.pA c.pn c.pc, .slice c.sA c.sn c.sc, .int .i64 c.L, .slice c.bA c.bn c.bc, .slice c.tA c.tn c.tc, .int .i64 c.M, .int .i64 c.G, .int .i64 c.F] ∧ Blk wr (w.heap.size + 1) 4 (cellsB (tkL c.N (c.P.take k))) ∧ Below w.heap.size w wr) (fun i _ => c.pn - (intOf i).toNat)
  case atStart =>
    refine ⟨0, Nat.zero_le _, rfl, Lib.hid (okP_nil _), (Blk.new w _ _).alloc _, ?_, below_al (below_al (Below.refl _ _) _) _⟩
    have h := Blk.new (w.alloc (.cells #[.int .i64 c.N, .slice c.pA c.pn c.pc, .slice c.sA c.sn c.sc, .int .i64 c.L, .slice c.bA c.bn c.bc, .slice c.tA c.tn c.tc, .int .i64 c.M, .int .i64 c.G, .int .i64 c.F] 25)) 4 (cellsB (List.replicate 16 false))
    rw [alloc_size] at h
    rw [List.take_zero, tkL_none]
    exact h
  case round =>
    obtain ⟨k, hk, rfl, hok, hB1, hB2, hb⟩ := hrel
    have hz := hb.size
    obtain ⟨k0, k1, k2, k3, k4, k5, k6, k7, k8⟩ := hB1.cf
    by_cases hlt : k < c.pn
    · obtain ⟨b, off, hA, hbl, hcc⟩ := (HC.out.on hb).p.at_ (by omega)
      have hcell := hcc k hlt
      have HS := Lib.hid (take_snoc c.P k (by have := HL.out; omega))
      have HT := Lib.hid (fun (h : okP c.N c.P) => okP_take h (k + 1))
      have HLT := Lib.hid (fun h0 => lastP_take c.P k h0 (by have := HL.out; omega))
      have hprev := hcc (k - 1) (by omega)
      obtain ⟨a, ha⟩ : ∃ a, a = c.P.getD k 0 := ⟨_, rfl⟩
      obtain ⟨pv, hpv⟩ : ∃ a, a = c.P.getD (k - 1) 0 := ⟨_, rfl⟩
      obtain ⟨Q, hQ⟩ : ∃ Q, Q = c.P.take k := ⟨_, rfl⟩
      have HQ0 := Lib.hid (show k = 0 → lastP Q = -1 from fun h => by rw [hQ, h]; rfl)
      rw [← ha] at hcell HS
      rw [← hpv] at hprev HLT
      rw [← hQ] at HS hok hB2 HLT
      have HO := Lib.hid (okP_snoc (a := a) h1 hok.out)
      have HR := Lib.hid (show ¬ oneP c.N Q a → decide (okP c.N c.P) = false from fun h => decide_eq_false fun q => h (HO.out.1 (by have := HT.out q; rwa [HS.out] at this)))
      have hix := fun W => idxNums (n := c.pn) c.pc hA hlt W
      have hix1 : 0 < k → ∀ W, (Instr.indexAt 22 (.slice c.pA c.pn c.pc) (.int .i64 ((k : Int) - 1))).run Tryd.prog W = .ok (.pointer (some ⟨b, off + (k - 1), none⟩)) W := fun h0 W => by
        have := idxNums (n := c.pn) c.pc (k := k - 1) hA (by omega) W
        rwa [show (((k - 1 : Nat)) : Int) = (k : Int) - 1 by omega] at this
      clear ha hpv hQ hA hcc
      by_cases ha0 : a < 0
      · have HX := Lib.hid (HR.out fun q => by have := q.1; omega)
        clear hix1
        go_wp2_with fail
        go_ret
        exact ⟨ret_bool HX.out.symm, hb⟩
      · by_cases haN : c.N ≤ a
        · have HX := Lib.hid (HR.out fun q => by have := q.1; omega)
          have ha0' : 0 ≤ a := by omega
          clear hix1 ha0
          go_wp2_with fail
          go_ret
          exact ⟨ret_bool HX.out.symm, hb⟩
        · obtain ⟨ka, rfl⟩ : ∃ ka : Nat, a = ka := ⟨a.toNat, by omega⟩
          have hm := mod_bd ((ka : Int) + 1) c.N (by omega)
          obtain ⟨kb, hkb⟩ : ∃ kb : Nat, (kb : Int) = ((ka : Int) + 1) % c.N := ⟨(((ka : Int) + 1) % c.N).toNat, by omega⟩
          have HKB := Lib.hid hkb
          have hka : ka < 16 := by omega
          have hkb16 : kb < 16 := by omega
          have haN' : (ka : Int) < c.N := by omega
          have hd0 : decide ((ka : Int) < 0) = false := decide_eq_false (by omega)
          have hd1 : decide (c.N ≤ (ka : Int)) = false := decide_eq_false (by omega)
          have HIN := Lib.hid (show 0 ≤ (ka : Int) ∧ (ka : Int) < c.N by omega)
          have hcA := (hB2.cell ka).trans (cellsB_at _ ka (by rw [tkL_len]; exact hka))
          have hcB := (hB2.cell kb).trans (cellsB_at _ kb (by rw [tkL_len]; exact hkb16))
          have HTA := Lib.hid (tkL_at c.N Q ka hka)
          have HTB := Lib.hid (tkL_at c.N Q kb hkb16)
          have HSN := Lib.hid (tkL_snoc c.N Q ka kb hkb)
          obtain ⟨ta, hta⟩ : ∃ t, t = (tkL c.N Q).getD ka false := ⟨_, rfl⟩
          obtain ⟨tb, htb⟩ : ∃ t, t = (tkL c.N Q).getD kb false := ⟨_, rfl⟩
          rw [← hta] at hcA HTA
          rw [← htb] at hcB HTB
          have hkm1 : ((ka : Int) + 1).tmod c.N = (kb : Int) := by rw [Int.tmod_eq_emod_of_nonneg (by omega)]; exact hkb.symm
          have hkm2 : ((ka : Int) + 1) % c.N = (kb : Int) := hkb.symm
          have hNz : c.N ≠ 0 := by omega
          have hiA := fun W => idxBools (n := 16) 16 (k := ka) (b := w.heap.size + 1) (off := 0) rfl hka W
          have hiB := fun W => idxBools (n := 16) 16 (k := kb) (b := w.heap.size + 1) (off := 0) rfl hkb16 W
          simp only [Nat.zero_add] at hiA hiB
          have hfr := hB2.frozen
          clear hta htb hkb hm ha0 haN
          rcases Nat.eq_zero_or_pos k with hk0 | hk0
          · have HLA := Lib.hid (show lastP Q < (ka : Int) by rw [HQ0.out hk0]; omega)
            have hg1 : decide ((0 : Int) < (k : Int)) = false := decide_eq_false (by omega)
            have hg2 : decide (0 < k) = false := decide_eq_false (by omega)
            clear hix1 hprev hk0
            by_cases hta : ta = true
            · subst hta
              have HX := Lib.hid (HR.out fun q => by
                have h3 := any_not.2 q.2.2.1
                rw [← HTA.out] at h3
                cases h3)
              go_wp2_with fail
              go_ret
              exact ⟨ret_bool HX.out.symm, hb⟩
            · have hta : ta = false := by simpa using hta
              subst hta
              by_cases htb : tb = true
              · subst htb
                have HX := Lib.hid (HR.out fun q => by
                  have h3 := q.2.2.2
                  rw [← HKB.out] at h3
                  have h3 := any_not.2 h3
                  rw [← HTB.out] at h3
                  cases h3)
                go_wp2_with fail
                go_ret
                exact ⟨ret_bool HX.out.symm, hb⟩
              · have htb : tb = false := by simpa using htb
                subst htb
                have HX := Lib.hid (HO.out.2 ⟨HIN.out, HLA.out, any_not.1 HTA.out.symm, by rw [← HKB.out]; exact any_not.1 HTB.out.symm⟩)
                have hcB2 := (hB2.set_ ka (.bool true)).cell kb
                rw [cellsB_set, cellsB_at _ kb (by rw [List.length_set, tkL_len]; exact hkb16)] at hcB2
                have hS := (hB2.set_ ka (.bool true)).set_ kb (.bool true)
                have hD := (hB1.far_ (p := ⟨w.heap.size + 1, ka, none⟩) (by simp) (.bool true)).far_ (p := ⟨w.heap.size + 1, kb, none⟩) (by simp) (.bool true)
                rw [cellsB_set, cellsB_set, HSN.out] at hS
                go_wp2_with fail
                go_roundw
                case rel => exact ⟨k + 1, by omega, by go_num, Lib.hid (by rw [HS.out]; exact HX.out), hD, by rw [HS.out]; exact hS, (hb.setCell (by simp) _).setCell (by simp) _⟩
                case measure => simp [intOf]; omega
          · have hix2 := hix1 hk0
            clear hix1
            have hg1 : decide ((0 : Int) < (k : Int)) = true := decide_eq_true (by omega)
            have hg2 : decide (0 < k) = true := decide_eq_true hk0
            by_cases hle : (ka : Int) ≤ pv
            · have HX := Lib.hid (HR.out fun q => by have := q.2.1; rw [HLT.out hk0] at this; omega)
              go_wp2_with fail
              go_ret
              exact ⟨ret_bool HX.out.symm, hb⟩
            · have HLA := Lib.hid (show lastP Q < (ka : Int) by rw [HLT.out hk0]; omega)
              have hle' : pv < (ka : Int) := by omega
              have hle2 : decide ((ka : Int) ≤ pv) = false := decide_eq_false hle
              clear hle
              by_cases hta : ta = true
              · subst hta
                have HX := Lib.hid (HR.out fun q => by
                  have h3 := any_not.2 q.2.2.1
                  rw [← HTA.out] at h3
                  cases h3)
                go_wp2_with fail
                go_ret
                exact ⟨ret_bool HX.out.symm, hb⟩
              · have hta : ta = false := by simpa using hta
                subst hta
                by_cases htb : tb = true
                · subst htb
                  have HX := Lib.hid (HR.out fun q => by
                    have h3 := q.2.2.2
                    rw [← HKB.out] at h3
                    have h3 := any_not.2 h3
                    rw [← HTB.out] at h3
                    cases h3)
                  go_wp2_with fail
                  go_ret
                  exact ⟨ret_bool HX.out.symm, hb⟩
                · have htb : tb = false := by simpa using htb
                  subst htb
                  have HX := Lib.hid (HO.out.2 ⟨HIN.out, HLA.out, any_not.1 HTA.out.symm, by rw [← HKB.out]; exact any_not.1 HTB.out.symm⟩)
                  have hcB2 := (hB2.set_ ka (.bool true)).cell kb
                  rw [cellsB_set, cellsB_at _ kb (by rw [List.length_set, tkL_len]; exact hkb16)] at hcB2
                  have hS := (hB2.set_ ka (.bool true)).set_ kb (.bool true)
                  have hD := (hB1.far_ (p := ⟨w.heap.size + 1, ka, none⟩) (by simp) (.bool true)).far_ (p := ⟨w.heap.size + 1, kb, none⟩) (by simp) (.bool true)
                  rw [cellsB_set, cellsB_set, HSN.out] at hS
                  go_wp2_with fail
                  go_roundw
                  case rel => exact ⟨k + 1, by omega, by go_num, Lib.hid (by rw [HS.out]; exact HX.out), hD, by rw [HS.out]; exact hS, (hb.setCell (by simp) _).setCell (by simp) _⟩
                  case measure => simp [intOf]; omega
    · have HX := Lib.hid (show decide (okP c.N c.P) = true from decide_eq_true (by have := hok.out; rwa [List.take_of_length_le (by have := HL.out; omega)] at this))
      go_wp2_with fail
      go_ret
      exact ⟨ret_bool HX.out.symm, hb⟩
end Go.Proofs.YtajkpbmjgncbbaaDoor

