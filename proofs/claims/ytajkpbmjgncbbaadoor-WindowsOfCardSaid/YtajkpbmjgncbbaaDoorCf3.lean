/-
  The contracts of package configs' rules on pairs, slots, stations and a slot's length. Conditions: the config's reading; the rules ahead of each that it counts on; the table of directions is as the program's text lays it.
-/
import Derived.Test.YtajkpbmjgncbbaaDoorCf2
namespace Go.Proofs.YtajkpbmjgncbbaaDoor
open Go.RowKit Rg

theorem second_is (c : Cf) (x y : Int) (hy : stepM c.N 0 x 1 = y) (w : World) (hw : Ways w) :
    Calls Tryd.prog 34 #[.agg #[.int .i64 c.N, .slice c.pA c.pn c.pc, .slice c.sA c.sn c.sc, .int .i64 c.L, .slice c.bA c.bn c.bc, .slice c.tA c.tn c.tc, .int .i64 c.M, .int .i64 c.G, .int .i64 c.F], .int .i64 x] w fun e w' => e = .returned (.int .i64 y) ∧ Below w.heap.size w w' := by
  subst hy; exact second_any c x w hw

theorem Blk.far_ {w : World} {g : Nat} {t : TypeId} {cs : Array Value} (h : Blk w g t cs) {p : Addr} (hp : g ≠ p.block) (u : Value) : Blk (w.setCell p u) g t cs := (Below.heap_setCell w p u g hp).trans h
set_option maxRecDepth 100000 in
theorem rule3_any (c : Cf) (w : World) (hc : CfIn w c) (hw : Ways w) (h1 : 4 ≤ c.N) (h2 : c.N ≤ 16) :
    Calls Tryd.prog 51 #[.agg #[.int .i64 c.N, .slice c.pA c.pn c.pc, .slice c.sA c.sn c.sc, .int .i64 c.L, .slice c.bA c.bn c.bc, .slice c.tA c.tn c.tc, .int .i64 c.M, .int .i64 c.G, .int .i64 c.F]] w fun e w' => e = .returned (.int .i64 (pairsE c.N c.P)) ∧ Below w.heap.size w w' := by
  have HL := Lib.hid hc.p.len
  have hfew := hc.few.1
  have HC := Lib.hid hc
  have HW := Lib.hid hw
  clear hc hw
  go_enter Tryd.func51, Tryd.ntmps51
  go_wp2_with fail
  go_loopw [4, 11] (fun l i wr => ∃ k : Nat, k ≤ c.pn ∧ i = .int .i64 k ∧ l = .int .i64 (lastP (c.P.take k)) ∧ Hid (okP c.N (c.P.take k)) ∧ Blk wr w.heap.size 25 #[.int .i64 c.N, .slice c.pA c.pn c.pc, .slice c.sA c.sn c.sc, .int .i64 c.L, .slice c.bA c.bn c.bc, .slice c.tA c.tn c.tc, .int .i64 c.M, .int .i64 c.G, .int .i64 c.F] ∧ Blk wr (w.heap.size + 1) 96 (cellsB (tkL c.N (c.P.take k))) ∧ Below w.heap.size w wr) (fun _ i _ => c.pn - (intOf i).toNat)
  case atStart =>
    refine ⟨0, Nat.zero_le _, rfl, rfl, Lib.hid (okP_nil _), (Blk.new w _ _).alloc _, ?_, below_al (below_al (Below.refl _ _) _) _⟩
    have := Blk.new (w.alloc (.cells #[.int .i64 c.N, .slice c.pA c.pn c.pc, .slice c.sA c.sn c.sc, .int .i64 c.L, .slice c.bA c.bn c.bc, .slice c.tA c.tn c.tc, .int .i64 c.M, .int .i64 c.G, .int .i64 c.F] 25)) 96 (cellsB (tkL c.N []))
    rw [alloc_size] at this
    exact this
  case round =>
    obtain ⟨k, hk, rfl, rfl, hok, hB1, hB2, hb⟩ := hrel
    by_cases hlt : k < c.pn
    · obtain ⟨b, off, hA, hbl, hcc⟩ := (HC.out.on hb).p.at_ (by omega)
      have hcell := hcc k hlt
      clear hcc
      have HS := Lib.hid (take_snoc c.P k (by have := HL.out; omega))
      have HT := Lib.hid (fun (h : okP c.N c.P) => okP_take h (k + 1))
      obtain ⟨a, ha⟩ : ∃ a, a = c.P.getD k 0 := ⟨_, rfl⟩
      obtain ⟨Q, hQ⟩ : ∃ Q, Q = c.P.take k := ⟨_, rfl⟩
      rw [← ha] at hcell HS
      rw [← hQ] at HS hok hB2 ⊢
      clear ha hQ
      have HO := Lib.hid (okP_snoc (a := a) h1 hok.out)
      have HR := Lib.hid (show ¬ oneP c.N Q a → pairsE c.N c.P = 1 from fun h => by
        rw [pairsE, if_neg fun q => h (HO.out.1 (by have := HT.out q; rwa [HS.out] at this))])
      have hz := hb.size
      by_cases hin : 0 ≤ a ∧ a < c.N
      · obtain ⟨ka, rfl⟩ : ∃ ka : Nat, a = ka := ⟨a.toNat, by omega⟩
        have hm := mod_bd ((ka : Int) + 1) c.N (by omega)
        obtain ⟨kb, hkb⟩ : ∃ kb : Nat, (kb : Int) = ((ka : Int) + 1) % c.N := ⟨(((ka : Int) + 1) % c.N).toNat, by omega⟩
        have HST := Lib.hid (show stepM c.N 0 ka 1 = kb by rw [step_of 1 ⟨h1, h2, by omega, hin.1, hin.2⟩, sg0, hkb])
        have HKB := Lib.hid hkb
        have hka : ka < 16 := by omega
        have hkb16 : kb < 16 := by omega
        have hcA := (hB2.cell ka).trans (cellsB_at _ ka (by rw [tkL_len]; exact hka))
        have hcB := (hB2.cell kb).trans (cellsB_at _ kb (by rw [tkL_len]; exact hkb16))
        have HTA := Lib.hid (tkL_at c.N Q ka hka)
        have HTB := Lib.hid (tkL_at c.N Q kb hkb16)
        have HSN := Lib.hid (tkL_snoc c.N Q ka kb hkb)
        obtain ⟨ta, hta⟩ : ∃ t, t = (tkL c.N Q).getD ka false := ⟨_, rfl⟩
        obtain ⟨tb, htb⟩ : ∃ t, t = (tkL c.N Q).getD kb false := ⟨_, rfl⟩
        rw [← hta] at hcA HTA
        rw [← htb] at hcB HTB
        have HIN := Lib.hid hin
        clear hta htb hkb hm hin
        have hnb : ((kb : Int) == -1) = false := beq_eq_false_iff_ne.2 (by omega)
        obtain ⟨l, hl⟩ : ∃ l, l = lastP Q := ⟨_, rfl⟩
        rw [← hl]
        have HLL := Lib.hid hl
        clear hl
        have hix := fun W => idxNums (n := c.pn) c.pc hA hlt W
        clear hA
        obtain ⟨k0, k1, k2, k3, k4, k5, k6, k7, k8⟩ := hB1.cf
        by_cases hlast : (ka : Int) ≤ l
        · have HX := Lib.hid (HR.out fun q => by have := q.2.1; rw [← HLL.out] at this; omega)
          go_wp2_with (go_at_call 34; (with_reducible refine (second_is c ka kb HST.out wr (HW.out.on hb)).mono ?_); rintro e w1 ⟨rfl, hb1⟩)
          go_ret
          exact ⟨ret_int HX.out.symm, hb.trans (hb1.mono hz)⟩
        · have hlast' : l < (ka : Int) := by omega
          clear hlast hcA hcB
          by_cases hta : ta = true
          · subst hta
            have HX := Lib.hid (HR.out fun q => by
              have h3 := any_not.2 q.2.2.1
              rw [← HTA.out] at h3
              cases h3)
            go_wp2_with (go_at_call 34; (with_reducible refine (second_is c ka kb HST.out wr (HW.out.on hb)).mono ?_); rintro e w1 ⟨rfl, hb1⟩; have hcA := (hB2.on hb1).cell ka; rw [cellsB_at _ ka (by rw [tkL_len]; exact hka), (tkL_at c.N Q ka hka).trans HTA.out.symm] at hcA)
            go_ret
            exact ⟨ret_int HX.out.symm, hb.trans (hb1.mono hz)⟩
          · have hta : ta = false := by simpa using hta
            subst hta
            by_cases htb : tb = true
            · subst htb
              have HX := Lib.hid (HR.out fun q => by
                have h3 := q.2.2.2
                rw [← HKB.out] at h3
                have h3 := any_not.2 h3
                rw [← HTB.out] at h3
                cases h3)
              go_wp2_with (go_at_call 34; (with_reducible refine (second_is c ka kb HST.out wr (HW.out.on hb)).mono ?_); rintro e w1 ⟨rfl, hb1⟩; have hcA := (hB2.on hb1).cell ka; rw [cellsB_at _ ka (by rw [tkL_len]; exact hka), (tkL_at c.N Q ka hka).trans HTA.out.symm] at hcA; have hcB := (hB2.on hb1).cell kb; rw [cellsB_at _ kb (by rw [tkL_len]; exact hkb16), (tkL_at c.N Q kb hkb16).trans HTB.out.symm] at hcB)
              go_ret
              exact ⟨ret_int HX.out.symm, hb.trans (hb1.mono hz)⟩
            · have htb : tb = false := by simpa using htb
              subst htb
              have HX := Lib.hid (HO.out.2 ⟨HIN.out, by rw [← HLL.out]; omega, any_not.1 HTA.out.symm, by rw [← HKB.out]; exact any_not.1 HTB.out.symm⟩)
              go_wp2_with (go_at_call 34; (with_reducible refine (second_is c ka kb HST.out wr (HW.out.on hb)).mono ?_); rintro e w1 ⟨rfl, hb1⟩; have hcA := (hB2.on hb1).cell ka; rw [cellsB_at _ ka (by rw [tkL_len]; exact hka), (tkL_at c.N Q ka hka).trans HTA.out.symm] at hcA; have hcB := (hB2.on hb1).cell kb; rw [cellsB_at _ kb (by rw [tkL_len]; exact hkb16), (tkL_at c.N Q kb hkb16).trans HTB.out.symm] at hcB; have hfr := (hB2.on hb1).frozen; have hcB2 := ((hB2.on hb1).set_ ka (.bool true)).cell kb; rw [cellsB_set, cellsB_at _ kb (by rw [List.length_set, tkL_len]; exact hkb16)] at hcB2)
              have hS := ((hB2.on hb1).set_ ka (.bool true)).set_ kb (.bool true)
              have hD := (((hB1.on hb1).far_ (p := ⟨w.heap.size + 1, ka, none⟩) (by simp) (.bool true)).far_ (p := ⟨w.heap.size + 1, kb, none⟩) (by simp) (.bool true))
              rw [cellsB_set, cellsB_set, HSN.out] at hS
              go_roundw
              case rel => exact ⟨k + 1, by omega, by go_num, by rw [HS.out, lastP_snoc], Lib.hid (by rw [HS.out]; exact HX.out), hD, by rw [HS.out]; exact hS, ((hb.trans (hb1.mono hz)).setCell (by simp) _).setCell (by simp) _⟩
              case measure => simp [intOf]; omega
      · have HX := Lib.hid (HR.out fun q => hin q.1)
        have HST := Lib.hid (show stepM c.N 0 a 1 = -1 by rw [step_no 1 (bfalse fun h => hin ⟨(ex1.1 h).2.2.2.1, (ex1.1 h).2.2.2.2⟩)])
        have hix := fun W => idxNums (n := c.pn) c.pc hA hlt W
        clear hA hin
        obtain ⟨k0, k1, k2, k3, k4, k5, k6, k7, k8⟩ := hB1.cf
        go_wp2_with (go_at_call 34; (with_reducible refine (second_is c a (-1) HST.out wr (HW.out.on hb)).mono ?_); rintro e w1 ⟨rfl, hb1⟩)
        go_ret
        exact ⟨ret_int HX.out.symm, hb.trans (hb1.mono hz)⟩
    · have HX := Lib.hid (show pairsE c.N c.P = 0 by have := hok.out; rw [List.take_of_length_le (by have := HL.out; omega)] at this; exact pairsE_ok.2 this)
      go_wp2_with fail
      go_ret
      exact ⟨ret_int HX.out.symm, hb⟩
end Go.Proofs.YtajkpbmjgncbbaaDoor

