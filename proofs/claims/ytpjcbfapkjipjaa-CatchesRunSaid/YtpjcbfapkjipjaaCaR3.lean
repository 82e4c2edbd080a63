/-
  The contracts of the reference's whole, High, Unlike. Conditions: the catch's reading; 113, 114 pairs.
-/
import Derived.Test.YtpjcbfapkjipjaaCaR2
namespace Go.Proofs.Ytpjcbfapkjipjaa
open Go.RowKit Crc
set_option linter.unusedVariables false

theorem addr_same {b off b1 o1 : Nat} (h : (some (⟨b, off, none⟩ : Addr)) = some ⟨b1, o1, none⟩) : b = b1 ∧ off = o1 := by
  injection h with h
  injection h with h1 h2
  exact ⟨h1, h2⟩
theorem unl_at {x y : Nat → Int} {i n : Nat} (hi : i < n) (h1 : ∀ j, j < i → al x y j = true) (h2 : al x y i = false) : unlF x y n = (i : Int) := by
  have e := sameF_min hi h1 h2
  unfold unlF
  rw [e, if_neg (by omega)]
theorem unl_none {x y : Nat → Int} {n : Nat} (h : ∀ j, j < n → al x y j = true) : unlF x y n = -1 := by
  unfold unlF
  rw [if_pos ((sameF_iff n).2 h)]
section
variable {w w' : World} {g base n m c d : Nat} {o : Int} {x y : Nat → Int} {A B : Option Addr}
theorem RC.drewN (h : RC w g base o x y n m A c B d) (q : Nat) : RC (w.drewN q) g base o x y n m A c B d := h.on (below_same q)
theorem same_no {i k : Nat} (hk : i < k) (h : al x y i = false) : sameF x y k ≠ k := fun e => by
  rw [(sameF_iff k).1 e i hk] at h; cases h
theorem whole_no (i : Nat) (hi : i < 113) (h : al x y i = false) : wholeC x y o = false := by
  unfold wholeC
  rw [decide_eq_false (same_no hi h), Bool.false_and, Bool.false_and]
theorem whole_eq (h : ∀ j, j < 112 → al x y j = true) : wholeC x y o = (isB o (bodyW x y) && (x 112 == 2) && (y 112 == 2)) := by
  unfold wholeC
  have e : sameF x y 112 = 112 := (sameF_iff 112).2 h
  by_cases h2 : x 112 = 2
  · by_cases h3 : y 112 = 2
    · have ha : al x y 112 = true := by simp [al, h2, h3]
      rw [sameF_succ, e, ha, if_pos ⟨rfl, rfl⟩, h2, h3]
      simp
    · have ha : al x y 112 = false := by simp only [al, h2]; simp; exact fun q => absurd q.symm h3
      rw [decide_eq_false (same_no (Nat.lt_succ_self 112) ha), beq_eq_false_iff_ne.2 h3]
      simp
  · rw [beq_eq_false_iff_ne.2 h2]
    simp
theorem high_eq (hw : wholeC x y o = true) : highC x y o = ((x 113 == 1) && (y 113 == 1)) := by
  unfold highC
  rw [hw, Bool.true_and]
  have e : sameF x y 113 = 113 := by
    unfold wholeC at hw
    simp only [Bool.and_eq_true, decide_eq_true_eq] at hw
    exact hw.1.1
  by_cases h2 : x 113 = 1
  · by_cases h3 : y 113 = 1
    · have ha : al x y 113 = true := by simp [al, h2, h3]
      rw [sameF_succ, e, ha, if_pos ⟨rfl, rfl⟩, h2, h3]
      simp
    · have ha : al x y 113 = false := by simp only [al, h2]; simp; exact fun q => absurd q.symm h3
      rw [decide_eq_false (same_no (Nat.lt_succ_self 113) ha), beq_eq_false_iff_ne.2 h3]
      simp
  · rw [beq_eq_false_iff_ne.2 h2]
    simp
set_option maxRecDepth 100000 in
set_option maxHeartbeats 8000000 in
theorem rWhole_is (h : RC w g base o x y n m A c B d) (hn : 113 ≤ n) (hm : 113 ≤ m) (r : Bool) (hr : wholeC x y o = r) :
    Calls Try.prog 32 #[.pointer (some ⟨g, 0, none⟩)] w fun e w' => e = .returned (.bool r) ∧ Below w.heap.size w w' := by
  have HX := Lib.hid h
  have HR := Lib.hid hr
  clear h hr
  go_enter Try.func32, Try.ntmps32
  go_wp2_with fail
  go_loopw [3] (fun iv wr => ∃ i q : Nat, i ≤ 112 ∧ iv = .int .i64 i ∧ wr = w.drewN q ∧ Hid (∀ j, j < i → al x y j = true)) (fun iv _ => 112 - (intOf iv).toNat)
  case atStart => exact ⟨0, 0, Nat.zero_le _, rfl, rfl, Lib.hid fun j hj => absurd hj (by omega)⟩
  case round =>
    obtain ⟨i, q, hi, rfl, rfl, hp⟩ := hrel
    have hH := HX.out
    obtain ⟨c0, c1, c2, cl⟩ := hH.cs
    by_cases hlt : i < 112
    · have hlti : (i : Int) < 112 := by omega
      obtain ⟨b, off, eA, hc, hb⟩ := hH.near (j := i) (by omega)
      obtain ⟨b', off', eB, hc', hb'⟩ := hH.far (j := i) (by omega)
      have hix := fun W => idxSym (n := n) c (A := A) (b := b) (off := off) (k := i) eA (by omega) W
      have hix' := fun W => idxSym (n := m) d (A := B) (b := b') (off := off') (k := i) eB (by omega) W
      obtain ⟨u, hu⟩ : ∃ u, u = x i := ⟨_, rfl⟩
      obtain ⟨v, hv⟩ : ∃ v, v = y i := ⟨_, rfl⟩
      rw [← hu] at hc
      rw [← hv] at hc'
      clear hH eA eB
      have HA := Lib.hid (show al x y i = (u == v && u != 0) by rw [hu, hv]; rfl)
      clear hu hv
      by_cases e1 : u = v
      · subst e1
        have q1 : (u != u) = false := by simp
        by_cases e2 : u = 0
        · subst e2
          have HN := Lib.hid (show al x y i = false from HA.out)
          clear HA
          go_wp2_with fail
          go_quiet (fail)
          go_wp2_with fail
          go_ret
          exact ⟨(by have e := (whole_no (o := o) i (by omega) HN.out).symm.trans HR.out; subst e; rfl), below_drewN (below_same _) _⟩
        · have q2 : (u == 0) = false := beq_eq_false_iff_ne.2 e2
          have HP := Lib.hid (show ∀ j, j < i + 1 → al x y j = true from fun j hj => by
            rcases Nat.lt_succ_iff_lt_or_eq.1 hj with q | q
            · exact hp.out j q
            · rw [q, HA.out]; simp [e2])
          clear HA e2 hp
          go_wp2_with fail
          go_quiet (fail)
          go_wp2_with fail
          go_roundw
          case rel => exact ⟨i + 1, _, by omega, by go_num, rfl, HP⟩
          case measure => simp [intOf]; omega
      · have q1 : (u != v) = true := bne_iff_ne.2 e1
        have HN := Lib.hid (show al x y i = false by rw [HA.out, beq_eq_false_iff_ne.2 e1]; rfl)
        clear HA e1
        go_wp2_with fail
        go_quiet (fail)
        go_wp2_with fail
        go_ret
        exact ⟨(by have e := (whole_no (o := o) i (by omega) HN.out).symm.trans HR.out; subst e; rfl), below_drewN (below_same _) _⟩
    · have hlti : (112 : Int) ≤ (i : Int) := by omega
      obtain rfl : i = 112 := by omega
      have hb := below_same (w := w) q
      have hH2 := HX.out.drewN q
      have HFR := Lib.hid (rFrame_is hH2 (by omega) (by omega) _ rfl _ rfl)
      have HW := Lib.hid ((whole_eq (o := o) hp.out).symm.trans HR.out)
      obtain ⟨ib, hib⟩ : ∃ ib, isB o (bodyW x y) = ib := ⟨_, rfl⟩
      obtain ⟨F, hF⟩ : ∃ F, getF (bytesP (bodyW x y)) = F := ⟨_, rfl⟩
      rw [hib, hF] at HFR
      rw [hib] at HW
      have HCE := Lib.hid (fun u (hu : Below (w.drewN q).heap.size (w.drewN q) u) => (hH2.on hu))
      obtain ⟨b, off, eA, _, _⟩ := hH.near (j := 112) (by omega)
      obtain ⟨b', off', eB, _, _⟩ := hH.far (j := 112) (by omega)
      have HE := Lib.hid (And.intro eA eB)
      have hix := fun W => idxSym (n := n) c (A := A) (b := b) (off := off) (k := 112) eA (by omega) W
      have hix' := fun W => idxSym (n := m) d (A := B) (b := b') (off := off') (k := 112) eB (by omega) W
      rw [show ((112 : Nat) : Int) = 112 from rfl] at hix hix'
      obtain ⟨u, hu⟩ : ∃ u, u = x 112 := ⟨_, rfl⟩
      obtain ⟨v, hv⟩ : ∃ v, v = y 112 := ⟨_, rfl⟩
      have HU := Lib.hid (And.intro hu hv)
      rw [← hu, ← hv] at HW
      have HN2 := Lib.hid (show 112 < n ∧ 112 < m by omega)
      clear hlt hi hp hH hH2 eA eB hib hF hu hv c0 c1 c2 cl
      cases ib with
      | false =>
        go_wp2_with (go_at_call 33; (with_reducible refine HFR.out.mono ?_); rintro e w2 ⟨rfl, b2⟩; have b3 := below_al (below_then hb b2) (.cells #[.int .i64 F.o, .int .u8 F.k, .int .u8 F.s, .int .u32 F.q, .int .u32 F.v] 46))
        go_ret
        exact ⟨(by have e : false = r := HW.out; subst e; rfl), b3⟩
      | true =>
        by_cases e1 : u = 2
        · subst e1
          by_cases e2 : v = 2
          · subst e2
            go_wp2_with (go_at_call 33; (with_reducible refine HFR.out.mono ?_); rintro e w2 ⟨rfl, b2⟩; have b3 := below_al (below_then hb b2) (.cells #[.int .i64 F.o, .int .u8 F.k, .int .u8 F.s, .int .u32 F.q, .int .u32 F.v] 46); have hQ := (HCE.out _ b2).on (below_al (Below.refl _ _) (.cells #[.int .i64 F.o, .int .u8 F.k, .int .u8 F.s, .int .u32 F.q, .int .u32 F.v] 46)); obtain ⟨c0, c1, c2, cl⟩ := hQ.cs; obtain ⟨b1, o1, f1, hc, hb1⟩ := hQ.near HN2.out.1; obtain ⟨b1', o1', f1', hc', hb1'⟩ := hQ.far HN2.out.2; obtain ⟨rfl, rfl⟩ := addr_same (HE.out.1.symm.trans f1); obtain ⟨rfl, rfl⟩ := addr_same (HE.out.2.symm.trans f1'); rw [← HU.out.1] at hc; rw [← HU.out.2] at hc'; clear f1 f1' hQ)
            go_ret
            exact ⟨(by have e : true = r := HW.out; subst e; rfl), b3⟩
          · have q2 : (v == 2) = false := beq_eq_false_iff_ne.2 e2
            rw [q2] at HW
            clear e2
            go_wp2_with (go_at_call 33; (with_reducible refine HFR.out.mono ?_); rintro e w2 ⟨rfl, b2⟩; have b3 := below_al (below_then hb b2) (.cells #[.int .i64 F.o, .int .u8 F.k, .int .u8 F.s, .int .u32 F.q, .int .u32 F.v] 46); have hQ := (HCE.out _ b2).on (below_al (Below.refl _ _) (.cells #[.int .i64 F.o, .int .u8 F.k, .int .u8 F.s, .int .u32 F.q, .int .u32 F.v] 46)); obtain ⟨c0, c1, c2, cl⟩ := hQ.cs; obtain ⟨b1, o1, f1, hc, hb1⟩ := hQ.near HN2.out.1; obtain ⟨b1', o1', f1', hc', hb1'⟩ := hQ.far HN2.out.2; obtain ⟨rfl, rfl⟩ := addr_same (HE.out.1.symm.trans f1); obtain ⟨rfl, rfl⟩ := addr_same (HE.out.2.symm.trans f1'); rw [← HU.out.1] at hc; rw [← HU.out.2] at hc'; clear f1 f1' hQ)
            go_ret
            exact ⟨(by have e : false = r := HW.out; subst e; rfl), b3⟩
        · have q1 : (u == 2) = false := beq_eq_false_iff_ne.2 e1
          rw [q1] at HW
          clear e1
          go_wp2_with (go_at_call 33; (with_reducible refine HFR.out.mono ?_); rintro e w2 ⟨rfl, b2⟩; have b3 := below_al (below_then hb b2) (.cells #[.int .i64 F.o, .int .u8 F.k, .int .u8 F.s, .int .u32 F.q, .int .u32 F.v] 46); have hQ := (HCE.out _ b2).on (below_al (Below.refl _ _) (.cells #[.int .i64 F.o, .int .u8 F.k, .int .u8 F.s, .int .u32 F.q, .int .u32 F.v] 46)); obtain ⟨c0, c1, c2, cl⟩ := hQ.cs; obtain ⟨b1, o1, f1, hc, hb1⟩ := hQ.near HN2.out.1; obtain ⟨rfl, rfl⟩ := addr_same (HE.out.1.symm.trans f1); rw [← HU.out.1] at hc; clear f1 hQ)
          go_ret
          exact ⟨(by have e : false = r := HW.out; subst e; rfl), b3⟩
set_option maxRecDepth 100000 in
set_option maxHeartbeats 8000000 in
theorem rUnlike_is (h : RC w g base o x y n n A c B d) (hn : n ≤ 65536) (z : Int) (hz : unlF x y n = z) :
    Calls Try.prog 19 #[.pointer (some ⟨g, 0, none⟩)] w fun e w' => e = .returned (.int .i64 z) ∧ Below w.heap.size w w' := by
  have HX := Lib.hid h
  have HR := Lib.hid hz
  clear h hz
  go_enter Try.func19, Try.ntmps19
  go_wp2_with fail
  go_loopw [3] (fun iv wr => ∃ i q : Nat, i ≤ n ∧ iv = .int .i64 i ∧ wr = w.drewN q ∧ Hid (∀ j, j < i → al x y j = true)) (fun iv _ => n - (intOf iv).toNat)
  case atStart => exact ⟨0, 0, Nat.zero_le _, rfl, rfl, Lib.hid fun j hj => absurd hj (by omega)⟩
  case round =>
    obtain ⟨i, q, hi, rfl, rfl, hp⟩ := hrel
    have hH := HX.out
    obtain ⟨c0, c1, c2, cl⟩ := hH.cs
    by_cases hlt : i < n
    · have hlti : (i : Int) < (n : Int) := by omega
      obtain ⟨b, off, eA, hc, hb⟩ := hH.near (j := i) (by omega)
      obtain ⟨b', off', eB, hc', hb'⟩ := hH.far (j := i) (by omega)
      have hix := fun W => idxSym (n := n) c (A := A) (b := b) (off := off) (k := i) eA (by omega) W
      have hix' := fun W => idxSym (n := n) d (A := B) (b := b') (off := off') (k := i) eB (by omega) W
      obtain ⟨u, hu⟩ : ∃ u, u = x i := ⟨_, rfl⟩
      obtain ⟨v, hv⟩ : ∃ v, v = y i := ⟨_, rfl⟩
      rw [← hu] at hc
      rw [← hv] at hc'
      clear hH eA eB
      have HA := Lib.hid (show al x y i = (u == v && u != 0) by rw [hu, hv]; rfl)
      clear hu hv
      by_cases e1 : u = v
      · subst e1
        have q1 : (u != u) = false := by simp
        by_cases e2 : u = 0
        · subst e2
          have HN := Lib.hid (show al x y i = false from HA.out)
          clear HA
          go_wp2_with fail
          go_quiet (fail)
          go_wp2_with fail
          go_ret
          exact ⟨(by have e := (unl_at hlt hp.out HN.out).symm.trans HR.out; subst e; rfl), below_drewN (below_same _) _⟩
        · have q2 : (u == 0) = false := beq_eq_false_iff_ne.2 e2
          have HP := Lib.hid (show ∀ j, j < i + 1 → al x y j = true from fun j hj => by
            rcases Nat.lt_succ_iff_lt_or_eq.1 hj with q | q
            · exact hp.out j q
            · rw [q, HA.out]; simp [e2])
          clear HA e2 hp
          go_wp2_with fail
          go_quiet (fail)
          go_wp2_with fail
          go_roundw
          case rel => exact ⟨i + 1, _, by omega, by go_num, rfl, HP⟩
          case measure => simp [intOf]; omega
      · have q1 : (u != v) = true := bne_iff_ne.2 e1
        have HN := Lib.hid (show al x y i = false by rw [HA.out, beq_eq_false_iff_ne.2 e1]; rfl)
        clear HA e1
        go_wp2_with fail
        go_quiet (fail)
        go_wp2_with fail
        go_ret
        exact ⟨(by have e := (unl_at hlt hp.out HN.out).symm.trans HR.out; subst e; rfl), below_drewN (below_same _) _⟩
    · have hlti : (n : Int) ≤ (i : Int) := by omega
      have HN := Lib.hid (unl_none (x := x) (y := y) (n := n) fun j hj => hp.out j (by omega))
      clear hp hH
      go_wp2_with fail
      go_ret
      exact ⟨(by have e := HN.out.symm.trans HR.out; subst e; rfl), below_same _⟩
set_option maxRecDepth 100000 in
set_option maxHeartbeats 8000000 in
theorem rHigh_is (h : RC w g base o x y n n A c B d) (r : Bool) (hr : hiB x y o n = r) (F : Fr) (hF : hiF x y o n = F) :
    Calls Try.prog 16 #[.pointer (some ⟨g, 0, none⟩)] w fun e w' => e = .returned (.tuple #[.agg #[.int .i64 F.o, .int .u8 F.k, .int .u8 F.s, .int .u32 F.q, .int .u32 F.v], .bool r]) ∧ Below w.heap.size w w' := by
  have HX := Lib.hid h
  have h1 := h.on (below_al (Below.refl w.heap.size w) (.cells #[.int .i64 0, .int .u8 0, .int .u8 0, .int .u32 0, .int .u32 0] 46))
  have HX1 := Lib.hid h1
  have hN := Blk.new w 46 #[.int .i64 0, .int .u8 0, .int .u8 0, .int .u32 0, .int .u32 0]
  have HBE := Lib.hid (below_al (Below.refl w.heap.size w) (.cells #[.int .i64 0, .int .u8 0, .int .u8 0, .int .u32 0, .int .u32 0] 46))
  have HZ := Lib.hid (show Ending.returned (.tuple #[.agg #[.int .i64 Fr.zero.o, .int .u8 Fr.zero.k, .int .u8 Fr.zero.s, .int .u32 Fr.zero.q, .int .u32 Fr.zero.v], .bool false]) = .returned (.tuple #[.agg #[.int .i64 0, .int .u8 0, .int .u8 0, .int .u32 0, .int .u32 0], .bool false]) from rfl)
  obtain ⟨c0, c1, c2, cl⟩ := h1.cs
  rw [hiF, hr] at hF
  rw [hiB] at hr
  by_cases e : 114 ≤ n
  · have hd : decide ((n : Int) < 114) = false := decide_eq_false (by omega)
    rw [decide_eq_true e, Bool.true_and] at hr
    have HWH := Lib.hid (fun u (hu : RC u g base o x y n n A c B d) => rWhole_is hu (by omega) (by omega) _ rfl)
    have HFR := Lib.hid (fun u (hu : RC u g base o x y n n A c B d) => rFrame_is hu (by omega) (by omega) _ rfl _ rfl)
    obtain ⟨b, off, eA, _, _⟩ := h.near (j := 113) (by omega)
    obtain ⟨b', off', eB, _, _⟩ := h.far (j := 113) (by omega)
    have HE := Lib.hid (And.intro eA eB)
    have hix := fun W => idxSym (n := n) c (A := A) (b := b) (off := off) (k := 113) eA (by omega) W
    have hix' := fun W => idxSym (n := n) d (A := B) (b := b') (off := off') (k := 113) eB (by omega) W
    rw [show ((113 : Nat) : Int) = 113 from rfl] at hix hix'
    have HN2 := Lib.hid (show 113 < n ∧ 113 < n by omega)
    clear e h h1 eA eB
    cases hw : wholeC x y o with
    | false =>
      have q : highC x y o = false := by unfold highC; rw [hw]; rfl
      rw [q] at hr
      subst hr
      rw [if_neg (by decide)] at hF
      subst hF
      rw [hw] at HWH
      clear q hw hN
      have hN := Blk.new w 46 #[.int .i64 0, .int .u8 0, .int .u8 0, .int .u32 0, .int .u32 0]
      go_enter Try.func16, Try.ntmps16
      go_wp2_with (go_at_call 32; (with_reducible refine (HWH.out _ HX1.out).mono ?_); rintro e w2 ⟨rfl, b2⟩; have hN2 := hN.on b2; have hlt1 := hN2.lt; have x0 := hN2.cell 0; have x1 := hN2.cell 1; have x2 := hN2.cell 2; have x3 := hN2.cell 3; have x4 := hN2.cell 4; have y0 := hN2.frozen 0; have y1 := hN2.frozen 1; have y2 := hN2.frozen 2; have y3 := hN2.frozen 3; have y4 := hN2.frozen 4; simp only [List.getElem?_toArray, List.getElem?_cons_zero, List.getElem?_cons_succ] at x0 x1 x2 x3 x4; have b3 := below_then HBE.out b2)
      refine bodyPost_ret (v := .tuple #[.agg #[.int .i64 0, .int .u8 0, .int .u8 0, .int .u32 0, .int .u32 0], .bool false]) (by simp [results, Try.results16, go_sem, x0, x1, x2, x3, x4]) rfl ⟨HZ.out.symm, ?_⟩
      exact below_five b3 (Nat.le_refl _) _ _ _ _ _
    | true =>
      have hh := high_eq hw
      have hib : isB o (bodyW x y) = true := by
        unfold wholeC at hw
        simp only [Bool.and_eq_true] at hw
        exact hw.1.2
      rw [hr] at hh
      rw [hw] at HWH
      rw [hib] at HFR
      clear hw hib hr
      obtain ⟨u, hu⟩ : ∃ u, u = x 113 := ⟨_, rfl⟩
      obtain ⟨v, hv⟩ : ∃ v, v = y 113 := ⟨_, rfl⟩
      have HU := Lib.hid (And.intro hu hv)
      rw [← hu, ← hv] at hh
      clear hu hv
      by_cases e1 : u = 1
      · subst e1
        by_cases e2 : v = 1
        · subst e2
          replace hh : r = true := hh
          subst hh
          rw [if_pos rfl] at hF
          rw [hF] at HFR
          clear hF
          go_enter Try.func16, Try.ntmps16
          go_wp2_with (first
            | (go_at_call 32; (with_reducible refine (HWH.out _ HX1.out).mono ?_); rintro e w2 ⟨rfl, b2⟩; have hQ := HX1.out.on b2; obtain ⟨c0, c1, c2, cl⟩ := hQ.cs; obtain ⟨b1, o1, f1, hc, hb1⟩ := hQ.near HN2.out.1; obtain ⟨b1', o1', f1', hc', hb1'⟩ := hQ.far HN2.out.2; obtain ⟨rfl, rfl⟩ := addr_same (HE.out.1.symm.trans f1); obtain ⟨rfl, rfl⟩ := addr_same (HE.out.2.symm.trans f1'); rw [← HU.out.1] at hc; rw [← HU.out.2] at hc'; clear f1 f1')
            | (go_at_call 33; (with_reducible refine (HFR.out _ hQ).mono ?_); rintro e w3 ⟨rfl, b3⟩; have hN2 := (hN.on b2).on b3; have hlt1 := hN2.lt; have x0 := hN2.cell 0; have x1 := hN2.cell 1; have x2 := hN2.cell 2; have x3 := hN2.cell 3; have x4 := hN2.cell 4; have y0 := hN2.frozen 0; have y1 := hN2.frozen 1; have y2 := hN2.frozen 2; have y3 := hN2.frozen 3; have y4 := hN2.frozen 4; simp only [List.getElem?_toArray, List.getElem?_cons_zero, List.getElem?_cons_succ] at x0 x1 x2 x3 x4; have b4 := below_then (below_then HBE.out b2) b3))
          refine bodyPost_ret (v := .tuple #[.agg #[.int .i64 F.o, .int .u8 F.k, .int .u8 F.s, .int .u32 F.q, .int .u32 F.v], .bool true]) (by simp [results, Try.results16, go_sem, x0, x1, x2, x3, x4]) rfl ⟨rfl, ?_⟩
          exact below_five b4 (Nat.le_refl _) _ _ _ _ _
        · have q2 : (v != 1) = true := bne_iff_ne.2 e2
          rw [beq_eq_false_iff_ne.2 e2] at hh
          replace hh : r = false := hh
          subst hh
          rw [if_neg (by decide)] at hF
          subst hF
          clear e2
          go_enter Try.func16, Try.ntmps16
          go_wp2_with (go_at_call 32; (with_reducible refine (HWH.out _ HX1.out).mono ?_); rintro e w2 ⟨rfl, b2⟩; have hQ := HX1.out.on b2; obtain ⟨c0, c1, c2, cl⟩ := hQ.cs; obtain ⟨b1, o1, f1, hc, hb1⟩ := hQ.near HN2.out.1; obtain ⟨b1', o1', f1', hc', hb1'⟩ := hQ.far HN2.out.2; obtain ⟨rfl, rfl⟩ := addr_same (HE.out.1.symm.trans f1); obtain ⟨rfl, rfl⟩ := addr_same (HE.out.2.symm.trans f1'); rw [← HU.out.1] at hc; rw [← HU.out.2] at hc'; clear f1 f1'; have hN2 := hN.on b2; have hlt1 := hN2.lt; have x0 := hN2.cell 0; have x1 := hN2.cell 1; have x2 := hN2.cell 2; have x3 := hN2.cell 3; have x4 := hN2.cell 4; have y0 := hN2.frozen 0; have y1 := hN2.frozen 1; have y2 := hN2.frozen 2; have y3 := hN2.frozen 3; have y4 := hN2.frozen 4; simp only [List.getElem?_toArray, List.getElem?_cons_zero, List.getElem?_cons_succ] at x0 x1 x2 x3 x4; have b3 := below_then HBE.out b2)
          refine bodyPost_ret (v := .tuple #[.agg #[.int .i64 0, .int .u8 0, .int .u8 0, .int .u32 0, .int .u32 0], .bool false]) (by simp [results, Try.results16, go_sem, x0, x1, x2, x3, x4]) rfl ⟨HZ.out.symm, ?_⟩
          exact below_five b3 (Nat.le_refl _) _ _ _ _ _
      · have q1 : (u != 1) = true := bne_iff_ne.2 e1
        rw [beq_eq_false_iff_ne.2 e1] at hh
        replace hh : r = false := hh
        subst hh
        rw [if_neg (by decide)] at hF
        subst hF
        clear e1
        go_enter Try.func16, Try.ntmps16
        go_wp2_with (go_at_call 32; (with_reducible refine (HWH.out _ HX1.out).mono ?_); rintro e w2 ⟨rfl, b2⟩; have hQ := HX1.out.on b2; obtain ⟨c0, c1, c2, cl⟩ := hQ.cs; obtain ⟨b1, o1, f1, hc, hb1⟩ := hQ.near HN2.out.1; obtain ⟨rfl, rfl⟩ := addr_same (HE.out.1.symm.trans f1); rw [← HU.out.1] at hc; clear f1; have hN2 := hN.on b2; have hlt1 := hN2.lt; have x0 := hN2.cell 0; have x1 := hN2.cell 1; have x2 := hN2.cell 2; have x3 := hN2.cell 3; have x4 := hN2.cell 4; have y0 := hN2.frozen 0; have y1 := hN2.frozen 1; have y2 := hN2.frozen 2; have y3 := hN2.frozen 3; have y4 := hN2.frozen 4; simp only [List.getElem?_toArray, List.getElem?_cons_zero, List.getElem?_cons_succ] at x0 x1 x2 x3 x4; have b3 := below_then HBE.out b2)
        refine bodyPost_ret (v := .tuple #[.agg #[.int .i64 0, .int .u8 0, .int .u8 0, .int .u32 0, .int .u32 0], .bool false]) (by simp [results, Try.results16, go_sem, x0, x1, x2, x3, x4]) rfl ⟨HZ.out.symm, ?_⟩
        exact below_five b3 (Nat.le_refl _) _ _ _ _ _
  · have hd : decide ((n : Int) < 114) = true := decide_eq_true (by omega)
    rw [decide_eq_false e, Bool.false_and] at hr
    subst hr
    rw [if_neg (by decide)] at hF
    subst hF
    clear e h h1
    have hlt1 := hN.lt
    have x0 := hN.cell 0; have x1 := hN.cell 1; have x2 := hN.cell 2; have x3 := hN.cell 3; have x4 := hN.cell 4; have y0 := hN.frozen 0; have y1 := hN.frozen 1; have y2 := hN.frozen 2; have y3 := hN.frozen 3; have y4 := hN.frozen 4; simp only [List.getElem?_toArray, List.getElem?_cons_zero, List.getElem?_cons_succ] at x0 x1 x2 x3 x4
    go_enter Try.func16, Try.ntmps16
    go_wp2_with fail
    refine bodyPost_ret (v := .tuple #[.agg #[.int .i64 0, .int .u8 0, .int .u8 0, .int .u32 0, .int .u32 0], .bool false]) (by simp [results, Try.results16, go_sem, x0, x1, x2, x3, x4]) rfl ⟨HZ.out.symm, ?_⟩
    with_reducible exact HBE.out
end
end Go.Proofs.Ytpjcbfapkjipjaa

