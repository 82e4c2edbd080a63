/-
  The law FramesBack: it returns true, and nothing that was there has turned. Conditions: the payloads' numbers are of their kinds.
-/
import Derived.Test.YtkjdlcobidglcaaFrAll
import Derived.Test.YtkjdlcobidglcaaFrM
import Derived.Test.YtkjdlcobidglcaaFrEq
import Derived.Deep.Cut
import Derived.Deep.CutRange
namespace Go.Proofs.Ytkjdlcobidglcaa
open Go.RowKit Crc

theorem sameBytes_no (A B : Option Addr) (n m c d : Nat) (xs ys : List Int) (w : World) (hx : Lies .u8 w w.heap.size A n xs) (hy : Lies .u8 w w.heap.size B m ys) (hb : ∀ x ∈ xs, 0 ≤ x ∧ x ≤ 255) (hb' : ∀ x ∈ ys, 0 ≤ x ∧ x ≤ 255) (hne : xs ≠ ys) :
    Calls Try.prog 14 #[.slice A n c, .slice B m d] w fun e w' => e = .returned (.bool false) ∧ w = w' := by
  have k1 := run_string_lies (c := c) hx hb
  have k2 := run_string_lies (c := d) hy hb'
  have HN := Lib.hid (show ¬ strOf xs = strOf ys from fun h => hne (strOf_inj xs ys hb hb' h))
  go_enter Try.func14, Try.ntmps14
  go_wp2
  go_ret
  exact ⟨ret_bool (by simpa using HN.out), rfl⟩
/-- Are these the same? -/
def Fr.payB (f h : Fr) : Bool := f.k == h.k && f.s == h.s && f.q == h.q && f.v == h.v
theorem back_same (f h : Fr) (hf : f.Fit) (hh : h.Fit) (h1 : mayB f.o f.k = true) (h2 : mayB h.o h.k = true) : putL f.body = putL h.body ↔ (f.o = h.o ∧ f.payB h = true) := by
  constructor
  · intro e
    have : f = h := by rw [← (get_put f hf h1).2, e, (get_put h hh h2).2]
    subst this
    simp [Fr.payB]
  · intro ⟨e1, e2⟩
    obtain ⟨o, k, s, q, v⟩ := f
    obtain ⟨o', k', s', q', v'⟩ := h
    simp [Fr.payB] at e1 e2
    obtain ⟨⟨⟨rfl, rfl⟩, rfl⟩, rfl⟩ := e2
    subst e1
    rfl

set_option maxRecDepth 100000 in
set_option maxHeartbeats 8000000 in
theorem back_walk (f h : Fr) (a b : Bool) (w : World) (hf : f.Fit) (hh : h.Fit) :
    Calls Try.prog 6 #[.agg #[.int .i64 f.o, .int .i64 h.o], .agg #[.int .u8 f.k, .int .u8 f.s, .int .u32 f.q, .int .u32 f.v, .int .u8 h.k, .int .u8 h.s, .int .u32 h.q, .int .u32 h.v], .agg #[.bool a, .bool b]] w fun e w' => e = .returned (.bool true) ∧ Below w.heap.size w w' := by
  have HOF := Lib.hid (fun u => law5_of_any f u)
  have HOH := Lib.hid (fun u => law5_of_any h u)
  have HPF := Lib.hid (fun u => frPut_all f u hf)
  have HPH := Lib.hid (fun u => frPut_all h u hh)
  have HXB := Lib.hid (putX_bd f hf)
  have HYB := Lib.hid (putX_bd h hh)
  have HEN := Lib.hid (back_same f h hf hh)
  have hw := Below.refl w.heap.size w
  go_enter Try.func6, Try.ntmps6
  have hO := ((Blk.new w 71 #[.int .i64 f.o, .int .i64 h.o]).alloc (.cells #[.int .u8 f.k, .int .u8 f.s, .int .u32 f.q, .int .u32 f.v, .int .u8 h.k, .int .u8 h.s, .int .u32 h.q, .int .u32 h.v] 72)).alloc (.cells #[.bool a, .bool b] 26)
  have hP := Blk.new (w.alloc (.cells #[.int .i64 f.o, .int .i64 h.o] 71)) 72 #[.int .u8 f.k, .int .u8 f.s, .int .u32 f.q, .int .u32 f.v, .int .u8 h.k, .int .u8 h.s, .int .u32 h.q, .int .u32 h.v]
  rw [alloc_size w] at hP
  replace hP := hP.alloc (.cells #[.bool a, .bool b] 26)
  have hT := Blk.new ((w.alloc (.cells #[.int .i64 f.o, .int .i64 h.o] 71)).alloc (.cells #[.int .u8 f.k, .int .u8 f.s, .int .u32 f.q, .int .u32 f.v, .int .u8 h.k, .int .u8 h.s, .int .u32 h.q, .int .u32 h.v] 72)) 26 #[.bool a, .bool b]
  rw [alloc_size (w.alloc (.cells #[.int .i64 f.o, .int .i64 h.o] 71)), alloc_size w] at hT
  replace hw := below_al (below_al (below_al hw (.cells #[.int .i64 f.o, .int .i64 h.o] 71)) (.cells #[.int .u8 f.k, .int .u8 f.s, .int .u32 f.q, .int .u32 f.v, .int .u8 h.k, .int .u8 h.s, .int .u32 h.q, .int .u32 h.v] 72)) (.cells #[.bool a, .bool b] 26)
  go_wp2_with fail
  with_reducible refine (HOF.out _).mono ?_
  rintro e w1 ⟨rfl, hb⟩
  replace hO := hO.on hb
  replace hP := hP.on hb
  replace hT := hT.on hb
  replace hw := below_then hw hb
  clear hb
  go_wp2_with fail
  with_reducible refine (HPF.out _).mono ?_
  rintro e w2 ⟨A1, rfl, hl1, _, hb⟩
  replace hO := hO.on hb
  replace hP := hP.on hb
  replace hT := hT.on hb
  replace hw := below_then hw hb
  clear hb
  have oc0 := hO.cell 0
  have oc1 := hO.cell 1
  simp only [List.getElem?_toArray, List.getElem?_cons_zero, List.getElem?_cons_succ] at oc0 oc1
  have ocl := hO.lt
  have pc0 := hP.cell 0
  have pc1 := hP.cell 1
  have pc2 := hP.cell 2
  have pc3 := hP.cell 3
  have pc4 := hP.cell 4
  have pc5 := hP.cell 5
  have pc6 := hP.cell 6
  have pc7 := hP.cell 7
  simp only [List.getElem?_toArray, List.getElem?_cons_zero, List.getElem?_cons_succ] at pc0 pc1 pc2 pc3 pc4 pc5 pc6 pc7
  have pcl := hP.lt
  go_wp2_with fail
  with_reducible refine (HOH.out _).mono ?_
  rintro e w3 ⟨rfl, hb⟩
  clear oc0 oc1 ocl pc0 pc1 pc2 pc3 pc4 pc5 pc6 pc7 pcl
  replace hO := hO.on hb
  replace hP := hP.on hb
  replace hT := hT.on hb
  replace hl1 := hl1.on hb
  replace hw := below_then hw hb
  clear hb
  go_wp2_with fail
  with_reducible refine (HPH.out _).mono ?_
  rintro e w4 ⟨A2, rfl, hl2, _, hb⟩
  replace hO := hO.on hb
  replace hP := hP.on hb
  replace hT := hT.on hb
  replace hl1 := hl1.on hb
  replace hw := below_then hw hb
  clear hb
  have oc0 := hO.cell 0
  have oc1 := hO.cell 1
  simp only [List.getElem?_toArray, List.getElem?_cons_zero, List.getElem?_cons_succ] at oc0 oc1
  have ocl := hO.lt
  have pc0 := hP.cell 0
  have pc1 := hP.cell 1
  have pc2 := hP.cell 2
  have pc3 := hP.cell 3
  have pc4 := hP.cell 4
  have pc5 := hP.cell 5
  have pc6 := hP.cell 6
  have pc7 := hP.cell 7
  simp only [List.getElem?_toArray, List.getElem?_cons_zero, List.getElem?_cons_succ] at pc0 pc1 pc2 pc3 pc4 pc5 pc6 pc7
  have pcl := hP.lt
  obtain ⟨N1, hN1⟩ : ∃ N1, N1 = putN f := ⟨_, rfl⟩
  obtain ⟨C1, hC1⟩ : ∃ C1, C1 = putC f := ⟨_, rfl⟩
  obtain ⟨N2, hN2⟩ : ∃ N2, N2 = putN h := ⟨_, rfl⟩
  obtain ⟨C2, hC2⟩ : ∃ C2, C2 = putC h := ⟨_, rfl⟩
  rw [← hN1] at hl1
  rw [← hN2] at hl2
  rw [← hN1, ← hC1, ← hN2, ← hC2]
  have HN1 := Lib.hid hN1
  have HC1 := Lib.hid hC1
  have HN2 := Lib.hid hN2
  have HC2 := Lib.hid hC2
  clear hN1 hC1 hN2 hC2
  have HL1 := Lib.hid hl1
  have HL2 := Lib.hid hl2
  clear hl1 hl2
  go_upto_region 3 with fail
  go_cut [11] from 39 to 58 (fun s11 wx => s11 = .bool (mayB f.o f.k) ∧ wx = w4)
  case first =>
    by_cases h0 : 0 ≤ f.o
    · by_cases h1 : f.o < 8
      · by_cases h2 : f.k = 1
        · have HM := Lib.hid (show true = mayB f.o f.k by simp [mayB, h0, h1, h2])
          have h2' : (f.k == 1) = true := by simp [h2]
          clear h2
          go_wp2_with fail
          go_meet
          exact ⟨congrArg Value.bool HM.out, rfl⟩
        · have h2' := beq_eq_false_iff_ne.2 h2
          have HM := Lib.hid (show (f.k == 2) = mayB f.o f.k by simp [mayB, h0, h1, h2])
          clear h2
          go_wp2_with fail
          go_meet
          exact ⟨congrArg Value.bool HM.out, rfl⟩
      · have h1' : 8 ≤ f.o := by omega
        have HM := Lib.hid (show false = mayB f.o f.k by simp [mayB, h1])
        clear h1
        go_wp2_with fail
        go_meet
        exact ⟨congrArg Value.bool HM.out, rfl⟩
    · have h0' : f.o < 0 := by omega
      have HM := Lib.hid (show false = mayB f.o f.k by simp [mayB, h0])
      clear h0
      go_wp2_with fail
      go_meet
      exact ⟨congrArg Value.bool HM.out, rfl⟩
  case rest =>
    obtain ⟨rfl, rfl⟩ := hcut
    cases hm : mayB f.o f.k
    · have hN1 : N1 = 0 := by rw [HN1.out, putN, hm]; rfl
      have hC1 : C1 = 1 := by rw [HC1.out, putC, hm]; rfl
      subst hN1 hC1
      clear hm oc0 oc1 ocl pc0 pc1 pc2 pc3 pc4 pc5 pc6 pc7 pcl
      go_wp2_with (go_at_call 23; with_reducible refine (frLives_any _).mono ?_; rintro e w8 ⟨rfl, hb8⟩)
      go_ret
      exact ⟨rfl, below_then hw hb8⟩
    · skip
      have hN1 : N1 = 14 := by rw [HN1.out, putN, hm]; rfl
      have hC1 : C1 = 0 := by rw [HC1.out, putC, hm]; rfl
      subst hN1 hC1
      have hX : putX f = putL f.body := by rw [putX, hm]; rfl
      rw [hX] at HL1 HXB
      have HGT := Lib.hid (fun u (k : Lies .u8 u u.heap.size A1 14 (putL f.body)) => frGet_any A1 14 14 (putL f.body) u k HXB.out (Nat.le_refl _))
      rw [(get_put f hf hm).1, (get_put f hf hm).2] at HGT
      have HSY := Lib.hid (fun u => frSyms_all f u hf a b)
      rw [show symN f = 114 by rw [symN, hm]; rfl, show symX f a b = ofL (putL f.body) ++ tailL a b by rw [symX, hm]; rfl, show putC f = 0 by rw [putC, hm]; rfl] at HSY
      have HRD := Lib.hid (fun u A (k : Lies .u8 u u.heap.size A 114 (ofL (putL f.body) ++ tailL a b)) => frRead_any A 114 114 _ u k (Nat.le_refl _))
      rw [(read_put f a b hf hm).1, (read_put f a b hf hm).2.1, (read_put f a b hf hm).2.2.1, (read_put f a b hf hm).2.2.2] at HRD
      have HEN1 := Lib.hid (fun h2 => HEN.out hm h2)
      obtain ⟨X, hX1⟩ : ∃ X, X = putL f.body := ⟨_, rfl⟩
      rw [← hX1] at HL1 HXB HGT HSY HRD HEN1
      obtain ⟨Y, hY1⟩ : ∃ Y, Y = ofL X ++ tailL a b := ⟨_, rfl⟩
      rw [← hY1] at HSY HRD
      have hl1 := HL1.out
      have hl2 := HL2.out
      clear hX hX1 hY1 HL1 HL2 HEN hm oc0 oc1 ocl pc0 pc1 pc2 pc3 pc4 pc5 pc6 pc7 pcl
      go_wp2_with fail
      with_reducible refine (HGT.out _ hl1).mono ?_
      rintro e w5 ⟨rfl, hb⟩
      replace hO := hO.on hb
      replace hP := hP.on hb
      replace hT := hT.on hb
      replace hl1 := hl1.on hb
      replace hl2 := hl2.on hb
      replace hw := below_then hw hb
      clear hb
      have hF := Blk.new w5 34 #[.int .i64 f.o, .int .u8 f.k, .int .u8 f.s, .int .u32 f.q, .int .u32 f.v]
      replace hO := hO.on (below_al (Below.refl _ _) (.cells #[.int .i64 f.o, .int .u8 f.k, .int .u8 f.s, .int .u32 f.q, .int .u32 f.v] 34))
      replace hP := hP.on (below_al (Below.refl _ _) (.cells #[.int .i64 f.o, .int .u8 f.k, .int .u8 f.s, .int .u32 f.q, .int .u32 f.v] 34))
      replace hT := hT.on (below_al (Below.refl _ _) (.cells #[.int .i64 f.o, .int .u8 f.k, .int .u8 f.s, .int .u32 f.q, .int .u32 f.v] 34))
      replace hl1 := hl1.on (below_al (Below.refl _ _) (.cells #[.int .i64 f.o, .int .u8 f.k, .int .u8 f.s, .int .u32 f.q, .int .u32 f.v] 34))
      replace hl2 := hl2.on (below_al (Below.refl _ _) (.cells #[.int .i64 f.o, .int .u8 f.k, .int .u8 f.s, .int .u32 f.q, .int .u32 f.v] 34))
      replace hw := below_al hw (.cells #[.int .i64 f.o, .int .u8 f.k, .int .u8 f.s, .int .u32 f.q, .int .u32 f.v] 34)
      have te0 := hT.cell 0
      have te1 := hT.cell 1
      simp only [List.getElem?_toArray, List.getElem?_cons_zero, List.getElem?_cons_succ] at te0 te1
      have tel := hT.lt
      go_wp2_with fail
      clear te0 te1 tel
      have hA := Blk.new (w5.alloc (.cells #[.int .i64 f.o, .int .u8 f.k, .int .u8 f.s, .int .u32 f.q, .int .u32 f.v] 34)) 38 #[.bool a, .bool b]
      rw [alloc_size w5] at hA
      replace hO := hO.on (below_al (Below.refl _ _) (.cells #[.bool a, .bool b] 38))
      replace hP := hP.on (below_al (Below.refl _ _) (.cells #[.bool a, .bool b] 38))
      replace hT := hT.on (below_al (Below.refl _ _) (.cells #[.bool a, .bool b] 38))
      replace hl1 := hl1.on (below_al (Below.refl _ _) (.cells #[.bool a, .bool b] 38))
      replace hl2 := hl2.on (below_al (Below.refl _ _) (.cells #[.bool a, .bool b] 38))
      replace hF := hF.on (below_al (Below.refl _ _) (.cells #[.bool a, .bool b] 38))
      replace hw := below_al hw (.cells #[.bool a, .bool b] 38)
      obtain ⟨n5, hn5⟩ : ∃ n5, n5 = w5.heap.size := ⟨_, rfl⟩
      obtain ⟨u0, hu0⟩ : ∃ u0, u0 = (w5.alloc (.cells #[.int .i64 f.o, .int .u8 f.k, .int .u8 f.s, .int .u32 f.q, .int .u32 f.v] 34)).alloc (.cells #[.bool a, .bool b] 38) := ⟨_, rfl⟩
      rw [← hu0] at hO hP hT hl1 hl2 hF hA hw ⊢
      rw [← hn5] at hF hA ⊢
      clear hu0 hn5
      have H_hO := Lib.hid hO
      have H_hP := Lib.hid hP
      have H_hT := Lib.hid hT
      have H_hl1 := Lib.hid hl1
      have H_hl2 := Lib.hid hl2
      have H_hF := Lib.hid hF
      have H_hA := Lib.hid hA
      have H_hw := Lib.hid hw
      clear hO hP hT hl1 hl2 hF hA hw
      refine Reg.wp_slots (fun t => t == 15 || t == 16 || (decide (85 ≤ t) && decide (t ≤ 94))) (by kernel_rfl) (by kernel_rfl) (by kernel_rfl) (fun zz => (Reg.tbl [
        (86, .is (.pointer (some ⟨w.heap.size, 0, none⟩))),
        (87, .is (.int .i64 f.o)),
        (88, .is (.pointer (some ⟨w.heap.size + 1, 0, none⟩))),
        (89, .is (.agg #[.int .u8 f.k, .int .u8 f.s, .int .u32 f.q, .int .u32 f.v])),
        (90, .is (.agg #[.int .i64 f.o, .int .u8 f.k, .int .u8 f.s, .int .u32 f.q, .int .u32 f.v])),
        (91, .is (.agg #[.bool a, .bool b])),
        (92, .symT 114 Y 0 w.heap.size),
        (85, .symT 114 Y 0 w.heap.size),
        (93, .symS 114 Y w.heap.size),
        (94, .is (.int .i64 0)),
        (15, .symS 114 Y w.heap.size),
        (16, .is (.int .i64 0))] zz).P) (fun zz => (Reg.tbl _ zz).on) ?_ ?_
      · simp only [Reg.frame, Reg.over, Nat.reduceAdd, Nat.reduceBEq, Nat.reduceLeDiff, decide_true, decide_false, Bool.or_true, Bool.or_false, if_true, Bool.false_eq_true, if_false, Bool.and_true, Bool.and_false]
        refine ⟨?_, ?_, ?_, ?_, ?_, ?_, ?_, ?_, ?_, ?_, ?_, ?_, trivial⟩
        · intro x u hbu hd
          refine wpOp_step rfl fun K hK => ?_
          go_simp
          exact hK _ _ ⟨_, rfl, Below.refl _ _, fun d hd => by cases hd; exact rfl⟩
        · intro x u hbu hd
          have h86 : x 86 = .pointer (some ⟨w.heap.size, 0, none⟩) := hd 0 (by decide)
          have c0 := (H_hO.out.on hbu).cell 0
          have cl := (H_hO.out.on hbu).lt
          refine wpOp_step rfl fun K hK => ?_
          simp only [h86] at hK ⊢
          go_simp
          exact hK _ _ ⟨_, rfl, Below.refl _ _, fun d hd => by cases hd; exact rfl⟩
        · intro x u hbu hd
          refine wpOp_step rfl fun K hK => ?_
          go_simp
          exact hK _ _ ⟨_, rfl, Below.refl _ _, fun d hd => by cases hd; exact rfl⟩
        · intro x u hbu hd
          have h88 : x 88 = .pointer (some ⟨w.heap.size + 1, 0, none⟩) := hd 2 (by decide)
          have c0 := (H_hP.out.on hbu).cell 0
          have c1 := (H_hP.out.on hbu).cell 1
          have c2 := (H_hP.out.on hbu).cell 2
          have c3 := (H_hP.out.on hbu).cell 3
          have cl := (H_hP.out.on hbu).lt
          refine wpOp_step rfl fun K hK => ?_
          simp only [h88] at hK ⊢
          go_simp
          exact hK _ _ ⟨_, rfl, Below.refl _ _, fun d hd => by cases hd; exact rfl⟩
        · intro x u hbu hd
          have h87 : x 87 = .int .i64 f.o := hd 1 (by decide)
          have h89 : x 89 = .agg #[.int .u8 f.k, .int .u8 f.s, .int .u32 f.q, .int .u32 f.v] := hd 3 (by decide)
          refine wpOp_step rfl fun K hK => ?_
          simp only [h87, h89] at hK ⊢
          go_simp
          with_reducible refine (HOF.out _).mono ?_
          rintro e u' ⟨rfl, hb'⟩
          exact hK _ _ ⟨_, rfl, hb', fun d hd => by cases hd; exact rfl⟩
        · intro x u hbu hd
          have c0 := (H_hA.out.on hbu).cell 0
          have c1 := (H_hA.out.on hbu).cell 1
          have cl := (H_hA.out.on hbu).lt
          refine wpOp_step rfl fun K hK => ?_
          go_simp
          exact hK _ _ ⟨_, rfl, Below.refl _ _, fun d hd => by cases hd; exact rfl⟩
        · intro x u hbu hd
          have h90 : x 90 = .agg #[.int .i64 f.o, .int .u8 f.k, .int .u8 f.s, .int .u32 f.q, .int .u32 f.v] := hd 4 (by decide)
          have h91 : x 91 = .agg #[.bool a, .bool b] := hd 5 (by decide)
          refine wpOp_step rfl fun K hK => ?_
          simp only [h90, h91] at hK ⊢
          go_simp
          with_reducible refine (HSY.out _).mono ?_
          rintro e u' ⟨A, rfl, hl, hE, hb'⟩
          exact hK _ _ ⟨_, rfl, hb', fun d hd => by cases hd; exact ⟨A, rfl, hl, hE.mono (base' := w.heap.size) (Nat.le_trans H_hw.out.size hbu.size)⟩⟩
        · intro x u hbu hd
          have k92 : (Reg.Fact.symT 114 Y 0 w.heap.size : Reg.Fact).P (x 92) u := hd 6 (by decide)
          obtain ⟨A92, h92, hl92, hE92⟩ := k92
          refine wpOp_step rfl fun K hK => ?_
          simp only [h92] at hK ⊢
          go_simp
          exact hK _ _ ⟨_, rfl, Below.refl _ _, fun d hd => by cases hd; exact ⟨A92, rfl, hl92, hE92⟩⟩
        · intro x u hbu hd
          have k85 : (Reg.Fact.symT 114 Y 0 w.heap.size : Reg.Fact).P (x 85) u := hd 7 (by decide)
          obtain ⟨A85, h85, hl85, hE85⟩ := k85
          refine wpOp_step rfl fun K hK => ?_
          simp only [h85] at hK ⊢
          go_simp
          exact hK _ _ ⟨_, rfl, Below.refl _ _, fun d hd => by cases hd; exact ⟨A85, rfl, hl85, hE85⟩⟩
        · intro x u hbu hd
          have k85 : (Reg.Fact.symT 114 Y 0 w.heap.size : Reg.Fact).P (x 85) u := hd 7 (by decide)
          obtain ⟨A85, h85, hl85, hE85⟩ := k85
          refine wpOp_step rfl fun K hK => ?_
          simp only [h85] at hK ⊢
          go_simp
          exact hK _ _ ⟨_, rfl, Below.refl _ _, fun d hd => by cases hd; exact rfl⟩
        · intro x u hbu hd
          have k93 : (Reg.Fact.symS 114 Y w.heap.size : Reg.Fact).P (x 93) u := hd 8 (by decide)
          obtain ⟨A93, h93, hl93, hE93⟩ := k93
          refine wpOp_step rfl fun K hK => ?_
          simp only [h93] at hK ⊢
          go_simp
          exact hK _ _ ⟨_, rfl, Below.refl _ _, fun d hd => by cases hd; exact ⟨A93, rfl, hl93, hE93⟩⟩
        · intro x u hbu hd
          have h94 : x 94 = .int .i64 0 := hd 9 (by decide)
          refine wpOp_step rfl fun K hK => ?_
          simp only [h94] at hK ⊢
          go_simp
          exact hK _ _ ⟨_, rfl, Below.refl _ _, fun d hd => by cases hd; exact rfl⟩
      · intro x u hbu hall
        have k15 : (Reg.Fact.symS 114 Y w.heap.size : Reg.Fact).P (x 15) u := hall 10 (by decide)
        have h16 : x 16 = .int .i64 0 := hall 11 (by decide)
        obtain ⟨A5, h15, hl5, _⟩ := k15
        simp only [Reg.frame, Reg.over, Nat.reduceAdd, Nat.reduceBEq, Nat.reduceLeDiff, decide_true, decide_false, Bool.or_true, Bool.or_false, if_true, Bool.false_eq_true, if_false, Bool.and_true, Bool.and_false, h15, h16]
        have hO := H_hO.out.on hbu
        have hP := H_hP.out.on hbu
        have hT := H_hT.out.on hbu
        have hl1 := H_hl1.out.on hbu
        have hl2 := H_hl2.out.on hbu
        have hF := H_hF.out.on hbu
        have hA := H_hA.out.on hbu
        have hw := below_then H_hw.out hbu
        clear H_hO H_hP H_hT H_hl1 H_hl2 H_hF H_hA H_hw hall hbu HSY HGT
        go_wp2_with fail
        with_reducible refine (HRD.out _ _ hl5).mono ?_
        rintro e w6 ⟨rfl, hb⟩
        replace hO := hO.on hb
        replace hP := hP.on hb
        replace hT := hT.on hb
        replace hl1 := hl1.on hb
        replace hl2 := hl2.on hb
        replace hF := hF.on hb
        replace hA := hA.on hb
        replace hl5 := hl5.on hb
        replace hw := below_then hw hb
        clear hb
        clear HRD
        have hG := (Blk.new w6 34 #[.int .i64 f.o, .int .u8 f.k, .int .u8 f.s, .int .u32 f.q, .int .u32 f.v]).alloc (.cells #[.bool a, .bool b] 38)
        have hB := Blk.new (w6.alloc (.cells #[.int .i64 f.o, .int .u8 f.k, .int .u8 f.s, .int .u32 f.q, .int .u32 f.v] 34)) 38 #[.bool a, .bool b]
        rw [alloc_size w6] at hB
        replace hO := hO.on (below_al (Below.refl _ _) (.cells #[.int .i64 f.o, .int .u8 f.k, .int .u8 f.s, .int .u32 f.q, .int .u32 f.v] 34))
        replace hP := hP.on (below_al (Below.refl _ _) (.cells #[.int .i64 f.o, .int .u8 f.k, .int .u8 f.s, .int .u32 f.q, .int .u32 f.v] 34))
        replace hT := hT.on (below_al (Below.refl _ _) (.cells #[.int .i64 f.o, .int .u8 f.k, .int .u8 f.s, .int .u32 f.q, .int .u32 f.v] 34))
        replace hl1 := hl1.on (below_al (Below.refl _ _) (.cells #[.int .i64 f.o, .int .u8 f.k, .int .u8 f.s, .int .u32 f.q, .int .u32 f.v] 34))
        replace hl2 := hl2.on (below_al (Below.refl _ _) (.cells #[.int .i64 f.o, .int .u8 f.k, .int .u8 f.s, .int .u32 f.q, .int .u32 f.v] 34))
        replace hF := hF.on (below_al (Below.refl _ _) (.cells #[.int .i64 f.o, .int .u8 f.k, .int .u8 f.s, .int .u32 f.q, .int .u32 f.v] 34))
        replace hA := hA.on (below_al (Below.refl _ _) (.cells #[.int .i64 f.o, .int .u8 f.k, .int .u8 f.s, .int .u32 f.q, .int .u32 f.v] 34))
        replace hl5 := hl5.on (below_al (Below.refl _ _) (.cells #[.int .i64 f.o, .int .u8 f.k, .int .u8 f.s, .int .u32 f.q, .int .u32 f.v] 34))
        replace hw := below_al hw (.cells #[.int .i64 f.o, .int .u8 f.k, .int .u8 f.s, .int .u32 f.q, .int .u32 f.v] 34)
        replace hO := hO.on (below_al (Below.refl _ _) (.cells #[.bool a, .bool b] 38))
        replace hP := hP.on (below_al (Below.refl _ _) (.cells #[.bool a, .bool b] 38))
        replace hT := hT.on (below_al (Below.refl _ _) (.cells #[.bool a, .bool b] 38))
        replace hl1 := hl1.on (below_al (Below.refl _ _) (.cells #[.bool a, .bool b] 38))
        replace hl2 := hl2.on (below_al (Below.refl _ _) (.cells #[.bool a, .bool b] 38))
        replace hF := hF.on (below_al (Below.refl _ _) (.cells #[.bool a, .bool b] 38))
        replace hA := hA.on (below_al (Below.refl _ _) (.cells #[.bool a, .bool b] 38))
        replace hl5 := hl5.on (below_al (Below.refl _ _) (.cells #[.bool a, .bool b] 38))
        replace hw := below_al hw (.cells #[.bool a, .bool b] 38)
        go_wp2_with fail
        obtain ⟨n6, hn6⟩ : ∃ n6, n6 = w6.heap.size := ⟨_, rfl⟩
        obtain ⟨u1, hu1⟩ : ∃ u1, u1 = (w6.alloc (.cells #[.int .i64 f.o, .int .u8 f.k, .int .u8 f.s, .int .u32 f.q, .int .u32 f.v] 34)).alloc (.cells #[.bool a, .bool b] 38) := ⟨_, rfl⟩
        rw [← hu1] at hO hP hT hl1 hl2 hF hA hl5 hG hB hw ⊢
        rw [← hn6] at hG hB ⊢
        clear hu1 hn6
        have H_hO := Lib.hid hO
        have H_hP := Lib.hid hP
        have H_hT := Lib.hid hT
        have H_hl1 := Lib.hid hl1
        have H_hl2 := Lib.hid hl2
        have H_hF := Lib.hid hF
        have H_hA := Lib.hid hA
        have H_hl5 := Lib.hid hl5
        have H_hG := Lib.hid hG
        have H_hB := Lib.hid hB
        have H_hw := Lib.hid hw
        clear hO hP hT hl1 hl2 hF hA hl5 hG hB hw
        refine Reg.wp_slots (fun t => decide (101 ≤ t) && decide (t ≤ 139)) (by kernel_rfl) (by kernel_rfl) (by kernel_rfl) (fun zz => (Reg.tbl [
          (101, .is (.slice A1 14 14)),
          (102, .is (.int .i64 14)),
          (103, .is (.bool false)),
          (104, .is (.bool false)),
          (105, .is (.int .i64 0)),
          (106, .is (.bool false)),
          (107, .is (.bool false)),
          (108, .is (.bool false)),
          (109, .is (.agg #[.int .i64 f.o, .int .u8 f.k, .int .u8 f.s, .int .u32 f.q, .int .u32 f.v])),
          (110, .is (.pointer (some ⟨w.heap.size, 0, none⟩))),
          (111, .is (.int .i64 f.o)),
          (112, .is (.pointer (some ⟨w.heap.size + 1, 0, none⟩))),
          (113, .is (.agg #[.int .u8 f.k, .int .u8 f.s, .int .u32 f.q, .int .u32 f.v])),
          (114, .is (.agg #[.int .i64 f.o, .int .u8 f.k, .int .u8 f.s, .int .u32 f.q, .int .u32 f.v])),
          (115, .is (.bool false)),
          (116, .is (.bool false)),
          (117, .is (.bool false)),
          (118, .is (.int .i64 0)),
          (119, .is (.bool false)),
          (120, .is (.bool false)),
          (121, .is (.bool false)),
          (122, .is (.slice A5 114 114)),
          (123, .is (.int .i64 114)),
          (124, .is (.bool false)),
          (125, .is (.bool false)),
          (126, .is (.bool false)),
          (127, .is (.int .i64 0)),
          (128, .is (.bool false)),
          (129, .is (.bool false)),
          (130, .is (.bool false)),
          (131, .is (.agg #[.int .i64 f.o, .int .u8 f.k, .int .u8 f.s, .int .u32 f.q, .int .u32 f.v])),
          (132, .is (.agg #[.int .i64 f.o, .int .u8 f.k, .int .u8 f.s, .int .u32 f.q, .int .u32 f.v])),
          (133, .is (.bool false)),
          (134, .is (.bool false)),
          (135, .is (.bool false)),
          (136, .is (.agg #[.bool a, .bool b])),
          (137, .is (.agg #[.bool a, .bool b])),
          (138, .is (.bool false)),
          (139, .is (.bool false))] zz).P) (fun zz => (Reg.tbl _ zz).on) ?_ ?_
        · simp only [Reg.frame, Reg.over, Nat.reduceAdd, Nat.reduceLeDiff, decide_true, decide_false, if_true, Bool.false_eq_true, if_false, Bool.and_true, Bool.and_false]
          refine ⟨?_, ?_, ?_, ?_, ?_, ?_, ?_, ?_, ?_, ?_, ?_, ?_, ?_, ?_, ?_, ?_, ?_, ?_, ?_, ?_, ?_, ?_, ?_, ?_, ?_, ?_, ?_, ?_, ?_, ?_, ?_, ?_, ?_, ?_, ?_, ?_, ?_, ?_, ?_, trivial⟩
          · intro x u hbu hd
            refine wpOp_step rfl fun K hK => ?_
            go_simp
            exact hK _ _ ⟨_, rfl, Below.refl _ _, fun d hd => by cases hd; exact rfl⟩
          · intro x u hbu hd
            have h101 : x 101 = .slice A1 14 14 := hd 0 (by decide)
            refine wpOp_step rfl fun K hK => ?_
            simp only [h101] at hK ⊢
            go_simp
            exact hK _ _ ⟨_, rfl, Below.refl _ _, fun d hd => by cases hd; exact rfl⟩
          · intro x u hbu hd
            have h102 : x 102 = .int .i64 14 := hd 1 (by decide)
            refine wpOp_step rfl fun K hK => ?_
            simp only [h102] at hK ⊢
            go_simp
            exact hK _ _ ⟨_, rfl, Below.refl _ _, fun d hd => by cases hd; first | exact rfl | exact congrArg Value.bool (by simp)⟩
          · intro x u hbu hd
            have h103 : x 103 = .bool false := hd 2 (by decide)
            refine wpOp_step rfl fun K hK => ?_
            simp only [h103] at hK ⊢
            go_simp
            exact hK _ _ ⟨_, rfl, Below.refl _ _, fun d hd => by cases hd; exact rfl⟩
          · intro x u hbu hd
            have h104 : x 104 = .bool false := hd 3 (by decide)
            refine wpOp_step rfl fun K hK => ?_
            simp only [h104] at hK ⊢
            go_simp
            exact hK _ _ ⟨_, rfl, Below.refl _ _, fun d hd => by cases hd; exact rfl⟩
          · intro x u hbu hd
            have h105 : x 105 = .int .i64 0 := hd 4 (by decide)
            have h104 : x 104 = .bool false := hd 3 (by decide)
            refine wpOp_step rfl fun K hK => ?_
            simp only [h105, h104] at hK ⊢
            go_simp
            exact hK _ _ ⟨_, rfl, Below.refl _ _, fun d hd => by cases hd; first | exact rfl | exact congrArg Value.bool (by simp)⟩
          · intro x u hbu hd
            have h104 : x 104 = .bool false := hd 3 (by decide)
            have h106 : x 106 = .bool false := hd 5 (by decide)
            refine wpOp_step rfl fun K hK => ?_
            simp only [h104, h106] at hK ⊢
            go_simp
            exact hK _ _ ⟨_, rfl, Below.refl _ _, fun d hd => by cases hd; exact rfl⟩
          · intro x u hbu hd
            have h107 : x 107 = .bool false := hd 6 (by decide)
            refine wpOp_step rfl fun K hK => ?_
            simp only [h107] at hK ⊢
            go_simp
            exact hK _ _ ⟨_, rfl, Below.refl _ _, fun d hd => by cases hd; exact rfl⟩
          · intro x u hbu hd
            have h108 : x 108 = .bool false := hd 7 (by decide)
            have c0 := (H_hF.out.on hbu).cell 0
            have c1 := (H_hF.out.on hbu).cell 1
            have c2 := (H_hF.out.on hbu).cell 2
            have c3 := (H_hF.out.on hbu).cell 3
            have c4 := (H_hF.out.on hbu).cell 4
            have cl := (H_hF.out.on hbu).lt
            refine wpOp_step rfl fun K hK => ?_
            simp only [h108] at hK ⊢
            go_simp
            exact hK _ _ ⟨_, rfl, Below.refl _ _, fun d hd => by cases hd; exact rfl⟩
          · intro x u hbu hd
            have h108 : x 108 = .bool false := hd 7 (by decide)
            refine wpOp_step rfl fun K hK => ?_
            simp only [h108] at hK ⊢
            go_simp
            exact hK _ _ ⟨_, rfl, Below.refl _ _, fun d hd => by cases hd; exact rfl⟩
          · intro x u hbu hd
            have h110 : x 110 = .pointer (some ⟨w.heap.size, 0, none⟩) := hd 9 (by decide)
            have h108 : x 108 = .bool false := hd 7 (by decide)
            have c0 := (H_hO.out.on hbu).cell 0
            have cl := (H_hO.out.on hbu).lt
            refine wpOp_step rfl fun K hK => ?_
            simp only [h110, h108] at hK ⊢
            go_simp
            exact hK _ _ ⟨_, rfl, Below.refl _ _, fun d hd => by cases hd; exact rfl⟩
          · intro x u hbu hd
            have h108 : x 108 = .bool false := hd 7 (by decide)
            refine wpOp_step rfl fun K hK => ?_
            simp only [h108] at hK ⊢
            go_simp
            exact hK _ _ ⟨_, rfl, Below.refl _ _, fun d hd => by cases hd; exact rfl⟩
          · intro x u hbu hd
            have h112 : x 112 = .pointer (some ⟨w.heap.size + 1, 0, none⟩) := hd 11 (by decide)
            have h108 : x 108 = .bool false := hd 7 (by decide)
            have c0 := (H_hP.out.on hbu).cell 0
            have c1 := (H_hP.out.on hbu).cell 1
            have c2 := (H_hP.out.on hbu).cell 2
            have c3 := (H_hP.out.on hbu).cell 3
            have cl := (H_hP.out.on hbu).lt
            refine wpOp_step rfl fun K hK => ?_
            simp only [h112, h108] at hK ⊢
            go_simp
            exact hK _ _ ⟨_, rfl, Below.refl _ _, fun d hd => by cases hd; exact rfl⟩
          · intro x u hbu hd
            have h111 : x 111 = .int .i64 f.o := hd 10 (by decide)
            have h113 : x 113 = .agg #[.int .u8 f.k, .int .u8 f.s, .int .u32 f.q, .int .u32 f.v] := hd 12 (by decide)
            have h108 : x 108 = .bool false := hd 7 (by decide)
            refine wpOp_step rfl fun K hK => ?_
            simp only [h111, h113, h108] at hK ⊢
            go_simp
            with_reducible refine (HOF.out _).mono ?_
            rintro e u' ⟨rfl, hb'⟩
            exact hK _ _ ⟨_, rfl, hb', fun d hd => by cases hd; exact rfl⟩
          · intro x u hbu hd
            have h109 : x 109 = .agg #[.int .i64 f.o, .int .u8 f.k, .int .u8 f.s, .int .u32 f.q, .int .u32 f.v] := hd 8 (by decide)
            have h114 : x 114 = .agg #[.int .i64 f.o, .int .u8 f.k, .int .u8 f.s, .int .u32 f.q, .int .u32 f.v] := hd 13 (by decide)
            have h108 : x 108 = .bool false := hd 7 (by decide)
            have hq := fun W => fr_neq f.o f.k f.s f.q f.v f.o f.k f.s f.q f.v W
            simp only [beq_self_eq_true, Bool.and_self, Bool.not_true] at hq
            refine wpOp_step rfl fun K hK => ?_
            simp only [h109, h114, h108] at hK ⊢
            go_simp
            exact hK _ _ ⟨_, rfl, Below.refl _ _, fun d hd => by cases hd; first | exact rfl | exact congrArg Value.bool (by simp)⟩
          · intro x u hbu hd
            have h108 : x 108 = .bool false := hd 7 (by decide)
            have h115 : x 115 = .bool false := hd 14 (by decide)
            refine wpOp_step rfl fun K hK => ?_
            simp only [h108, h115] at hK ⊢
            go_simp
            exact hK _ _ ⟨_, rfl, Below.refl _ _, fun d hd => by cases hd; exact rfl⟩
          · intro x u hbu hd
            have h116 : x 116 = .bool false := hd 15 (by decide)
            refine wpOp_step rfl fun K hK => ?_
            simp only [h116] at hK ⊢
            go_simp
            exact hK _ _ ⟨_, rfl, Below.refl _ _, fun d hd => by cases hd; exact rfl⟩
          · intro x u hbu hd
            have h117 : x 117 = .bool false := hd 16 (by decide)
            refine wpOp_step rfl fun K hK => ?_
            simp only [h117] at hK ⊢
            go_simp
            exact hK _ _ ⟨_, rfl, Below.refl _ _, fun d hd => by cases hd; exact rfl⟩
          · intro x u hbu hd
            have h118 : x 118 = .int .i64 0 := hd 17 (by decide)
            have h117 : x 117 = .bool false := hd 16 (by decide)
            refine wpOp_step rfl fun K hK => ?_
            simp only [h118, h117] at hK ⊢
            go_simp
            exact hK _ _ ⟨_, rfl, Below.refl _ _, fun d hd => by cases hd; first | exact rfl | exact congrArg Value.bool (by simp)⟩
          · intro x u hbu hd
            have h117 : x 117 = .bool false := hd 16 (by decide)
            have h119 : x 119 = .bool false := hd 18 (by decide)
            refine wpOp_step rfl fun K hK => ?_
            simp only [h117, h119] at hK ⊢
            go_simp
            exact hK _ _ ⟨_, rfl, Below.refl _ _, fun d hd => by cases hd; exact rfl⟩
          · intro x u hbu hd
            have h120 : x 120 = .bool false := hd 19 (by decide)
            refine wpOp_step rfl fun K hK => ?_
            simp only [h120] at hK ⊢
            go_simp
            exact hK _ _ ⟨_, rfl, Below.refl _ _, fun d hd => by cases hd; exact rfl⟩
          · intro x u hbu hd
            have h121 : x 121 = .bool false := hd 20 (by decide)
            refine wpOp_step rfl fun K hK => ?_
            simp only [h121] at hK ⊢
            go_simp
            exact hK _ _ ⟨_, rfl, Below.refl _ _, fun d hd => by cases hd; exact rfl⟩
          · intro x u hbu hd
            have h122 : x 122 = .slice A5 114 114 := hd 21 (by decide)
            have h121 : x 121 = .bool false := hd 20 (by decide)
            refine wpOp_step rfl fun K hK => ?_
            simp only [h122, h121] at hK ⊢
            go_simp
            exact hK _ _ ⟨_, rfl, Below.refl _ _, fun d hd => by cases hd; exact rfl⟩
          · intro x u hbu hd
            have h123 : x 123 = .int .i64 114 := hd 22 (by decide)
            have h121 : x 121 = .bool false := hd 20 (by decide)
            refine wpOp_step rfl fun K hK => ?_
            simp only [h123, h121] at hK ⊢
            go_simp
            exact hK _ _ ⟨_, rfl, Below.refl _ _, fun d hd => by cases hd; first | exact rfl | exact congrArg Value.bool (by simp)⟩
          · intro x u hbu hd
            have h121 : x 121 = .bool false := hd 20 (by decide)
            have h124 : x 124 = .bool false := hd 23 (by decide)
            refine wpOp_step rfl fun K hK => ?_
            simp only [h121, h124] at hK ⊢
            go_simp
            exact hK _ _ ⟨_, rfl, Below.refl _ _, fun d hd => by cases hd; exact rfl⟩
          · intro x u hbu hd
            have h125 : x 125 = .bool false := hd 24 (by decide)
            refine wpOp_step rfl fun K hK => ?_
            simp only [h125] at hK ⊢
            go_simp
            exact hK _ _ ⟨_, rfl, Below.refl _ _, fun d hd => by cases hd; exact rfl⟩
          · intro x u hbu hd
            have h126 : x 126 = .bool false := hd 25 (by decide)
            refine wpOp_step rfl fun K hK => ?_
            simp only [h126] at hK ⊢
            go_simp
            exact hK _ _ ⟨_, rfl, Below.refl _ _, fun d hd => by cases hd; exact rfl⟩
          · intro x u hbu hd
            have h127 : x 127 = .int .i64 0 := hd 26 (by decide)
            have h126 : x 126 = .bool false := hd 25 (by decide)
            refine wpOp_step rfl fun K hK => ?_
            simp only [h127, h126] at hK ⊢
            go_simp
            exact hK _ _ ⟨_, rfl, Below.refl _ _, fun d hd => by cases hd; first | exact rfl | exact congrArg Value.bool (by simp)⟩
          · intro x u hbu hd
            have h126 : x 126 = .bool false := hd 25 (by decide)
            have h128 : x 128 = .bool false := hd 27 (by decide)
            refine wpOp_step rfl fun K hK => ?_
            simp only [h126, h128] at hK ⊢
            go_simp
            exact hK _ _ ⟨_, rfl, Below.refl _ _, fun d hd => by cases hd; exact rfl⟩
          · intro x u hbu hd
            have h129 : x 129 = .bool false := hd 28 (by decide)
            refine wpOp_step rfl fun K hK => ?_
            simp only [h129] at hK ⊢
            go_simp
            exact hK _ _ ⟨_, rfl, Below.refl _ _, fun d hd => by cases hd; exact rfl⟩
          · intro x u hbu hd
            have h130 : x 130 = .bool false := hd 29 (by decide)
            have c0 := (H_hG.out.on hbu).cell 0
            have c1 := (H_hG.out.on hbu).cell 1
            have c2 := (H_hG.out.on hbu).cell 2
            have c3 := (H_hG.out.on hbu).cell 3
            have c4 := (H_hG.out.on hbu).cell 4
            have cl := (H_hG.out.on hbu).lt
            refine wpOp_step rfl fun K hK => ?_
            simp only [h130] at hK ⊢
            go_simp
            exact hK _ _ ⟨_, rfl, Below.refl _ _, fun d hd => by cases hd; exact rfl⟩
          · intro x u hbu hd
            have h130 : x 130 = .bool false := hd 29 (by decide)
            have c0 := (H_hF.out.on hbu).cell 0
            have c1 := (H_hF.out.on hbu).cell 1
            have c2 := (H_hF.out.on hbu).cell 2
            have c3 := (H_hF.out.on hbu).cell 3
            have c4 := (H_hF.out.on hbu).cell 4
            have cl := (H_hF.out.on hbu).lt
            refine wpOp_step rfl fun K hK => ?_
            simp only [h130] at hK ⊢
            go_simp
            exact hK _ _ ⟨_, rfl, Below.refl _ _, fun d hd => by cases hd; exact rfl⟩
          · intro x u hbu hd
            have h131 : x 131 = .agg #[.int .i64 f.o, .int .u8 f.k, .int .u8 f.s, .int .u32 f.q, .int .u32 f.v] := hd 30 (by decide)
            have h132 : x 132 = .agg #[.int .i64 f.o, .int .u8 f.k, .int .u8 f.s, .int .u32 f.q, .int .u32 f.v] := hd 31 (by decide)
            have h130 : x 130 = .bool false := hd 29 (by decide)
            have hq := fun W => fr_neq f.o f.k f.s f.q f.v f.o f.k f.s f.q f.v W
            simp only [beq_self_eq_true, Bool.and_self, Bool.not_true] at hq
            refine wpOp_step rfl fun K hK => ?_
            simp only [h131, h132, h130] at hK ⊢
            go_simp
            exact hK _ _ ⟨_, rfl, Below.refl _ _, fun d hd => by cases hd; first | exact rfl | exact congrArg Value.bool (by simp)⟩
          · intro x u hbu hd
            have h130 : x 130 = .bool false := hd 29 (by decide)
            have h133 : x 133 = .bool false := hd 32 (by decide)
            refine wpOp_step rfl fun K hK => ?_
            simp only [h130, h133] at hK ⊢
            go_simp
            exact hK _ _ ⟨_, rfl, Below.refl _ _, fun d hd => by cases hd; exact rfl⟩
          · intro x u hbu hd
            have h134 : x 134 = .bool false := hd 33 (by decide)
            refine wpOp_step rfl fun K hK => ?_
            simp only [h134] at hK ⊢
            go_simp
            exact hK _ _ ⟨_, rfl, Below.refl _ _, fun d hd => by cases hd; exact rfl⟩
          · intro x u hbu hd
            have h135 : x 135 = .bool false := hd 34 (by decide)
            have c0 := (H_hB.out.on hbu).cell 0
            have c1 := (H_hB.out.on hbu).cell 1
            have cl := (H_hB.out.on hbu).lt
            refine wpOp_step rfl fun K hK => ?_
            simp only [h135] at hK ⊢
            go_simp
            exact hK _ _ ⟨_, rfl, Below.refl _ _, fun d hd => by cases hd; exact rfl⟩
          · intro x u hbu hd
            have h135 : x 135 = .bool false := hd 34 (by decide)
            have c0 := (H_hA.out.on hbu).cell 0
            have c1 := (H_hA.out.on hbu).cell 1
            have cl := (H_hA.out.on hbu).lt
            refine wpOp_step rfl fun K hK => ?_
            simp only [h135] at hK ⊢
            go_simp
            exact hK _ _ ⟨_, rfl, Below.refl _ _, fun d hd => by cases hd; exact rfl⟩
          · intro x u hbu hd
            have h136 : x 136 = .agg #[.bool a, .bool b] := hd 35 (by decide)
            have h137 : x 137 = .agg #[.bool a, .bool b] := hd 36 (by decide)
            have h135 : x 135 = .bool false := hd 34 (by decide)
            have hq := fun W => tail_neq a b a b W
            simp only [beq_self_eq_true, Bool.and_self, Bool.not_true] at hq
            refine wpOp_step rfl fun K hK => ?_
            simp only [h136, h137, h135] at hK ⊢
            go_simp
            exact hK _ _ ⟨_, rfl, Below.refl _ _, fun d hd => by cases hd; first | exact rfl | exact congrArg Value.bool (by simp)⟩
          · intro x u hbu hd
            have h135 : x 135 = .bool false := hd 34 (by decide)
            have h138 : x 138 = .bool false := hd 37 (by decide)
            refine wpOp_step rfl fun K hK => ?_
            simp only [h135, h138] at hK ⊢
            go_simp
            exact hK _ _ ⟨_, rfl, Below.refl _ _, fun d hd => by cases hd; exact rfl⟩
        · intro x u hbu hall
          have h139 : x 139 = .bool false := hall 38 (by decide)
          simp only [Reg.frame, Reg.over, Nat.reduceAdd, Nat.reduceLeDiff, decide_true, decide_false, if_true, Bool.false_eq_true, if_false, Bool.and_true, Bool.and_false, h139]
          have hO := H_hO.out.on hbu
          have hP := H_hP.out.on hbu
          have hT := H_hT.out.on hbu
          have hl1 := H_hl1.out.on hbu
          have hl2 := H_hl2.out.on hbu
          have hF := H_hF.out.on hbu
          have hA := H_hA.out.on hbu
          have hl5 := H_hl5.out.on hbu
          have hG := H_hG.out.on hbu
          have hB := H_hB.out.on hbu
          have hw := below_then H_hw.out hbu
          clear H_hO H_hP H_hT H_hl1 H_hl2 H_hF H_hA H_hl5 H_hG H_hB H_hw hall hbu HOF
          clear hT hF hA hG hB hl5
          have oc0 := hO.cell 0
          have oc1 := hO.cell 1
          simp only [List.getElem?_toArray, List.getElem?_cons_zero, List.getElem?_cons_succ] at oc0 oc1
          have ocl := hO.lt
          have pc0 := hP.cell 0
          have pc1 := hP.cell 1
          have pc2 := hP.cell 2
          have pc3 := hP.cell 3
          have pc4 := hP.cell 4
          have pc5 := hP.cell 5
          have pc6 := hP.cell 6
          have pc7 := hP.cell 7
          simp only [List.getElem?_toArray, List.getElem?_cons_zero, List.getElem?_cons_succ] at pc0 pc1 pc2 pc3 pc4 pc5 pc6 pc7
          have pcl := hP.lt
          by_cases ho : f.o = h.o
          · have ho' : (f.o == h.o) = true := by simp [ho]
            have hq := fun W => pay_eql f.k f.s f.q f.v h.k h.s h.q h.v W
            rw [show (f.k == h.k && f.s == h.s && f.q == h.q && f.v == h.v) = f.payB h from rfl] at hq
            by_cases hp : f.payB h = true
            · rw [hp] at hq
              cases hm2 : mayB h.o h.k
              · have hC2 : C2 = 1 := by rw [HC2.out, putC, hm2]; rfl
                subst hC2
                clear hm2
                go_wp2_with (go_at_call 23; with_reducible refine (frLives_any _).mono ?_; rintro e w8 ⟨rfl, hb8⟩)
                go_ret
                exact ⟨rfl, below_then hw hb8⟩
              · have hC2 : C2 = 0 := by rw [HC2.out, putC, hm2]; rfl
                have hN2 : N2 = 14 := by rw [HN2.out, putN, hm2]; rfl
                have hY2 : putX h = putL h.body := by rw [putX, hm2]; rfl
                have HQ := Lib.hid (HEN1.out hm2)
                rw [hY2] at hl2 HYB
                obtain ⟨X2, hX2⟩ : ∃ X2, X2 = putL h.body := ⟨_, rfl⟩
                rw [← hX2] at hl2 HYB HQ
                subst hC2 hN2
                have HSB := Lib.hid (sameBytes_true A1 A2 14 14 14 14 X X2 u hl1 hl2 HXB.out (HQ.out.2 ⟨ho, hp⟩))
                clear hm2 hY2 hX2
                go_wp2_with (first
                  | (go_at_call 14; with_reducible refine (HSB.out).mono ?_; rintro e w7 ⟨rfl, rfl⟩)
                  | (go_at_call 23; with_reducible refine (frLives_any _).mono ?_; rintro e w8 ⟨rfl, hb8⟩))
                go_ret
                exact ⟨rfl, below_then hw hb8⟩
            · have HNO := Lib.hid (show ¬ (f.o = h.o ∧ f.payB h = true) from fun k => hp k.2)
              have hp' : f.payB h = false := by simpa using hp
              rw [hp'] at hq
              clear hp hp'
              cases hm2 : mayB h.o h.k
              · have hC2 : C2 = 1 := by rw [HC2.out, putC, hm2]; rfl
                subst hC2
                clear hm2
                go_wp2_with (go_at_call 23; with_reducible refine (frLives_any _).mono ?_; rintro e w8 ⟨rfl, hb8⟩)
                go_ret
                exact ⟨rfl, below_then hw hb8⟩
              · have hC2 : C2 = 0 := by rw [HC2.out, putC, hm2]; rfl
                have hN2 : N2 = 14 := by rw [HN2.out, putN, hm2]; rfl
                have hY2 : putX h = putL h.body := by rw [putX, hm2]; rfl
                have HQ := Lib.hid (HEN1.out hm2)
                rw [hY2] at hl2 HYB
                obtain ⟨X2, hX2⟩ : ∃ X2, X2 = putL h.body := ⟨_, rfl⟩
                rw [← hX2] at hl2 HYB HQ
                subst hC2 hN2
                have HSB := Lib.hid (sameBytes_no A1 A2 14 14 14 14 X X2 u hl1 hl2 HXB.out HYB.out (fun e => HNO.out (HQ.out.1 e)))
                clear hm2 hY2 hX2
                go_wp2_with (first
                  | (go_at_call 14; with_reducible refine (HSB.out).mono ?_; rintro e w7 ⟨rfl, rfl⟩)
                  | (go_at_call 23; with_reducible refine (frLives_any _).mono ?_; rintro e w8 ⟨rfl, hb8⟩))
                go_ret
                exact ⟨rfl, below_then hw hb8⟩
          · have ho' : (f.o == h.o) = false := by simp [ho]
            have HNO := Lib.hid (show ¬ (f.o = h.o ∧ f.payB h = true) from fun k => ho k.1)
            clear ho
            cases hm2 : mayB h.o h.k
            · have hC2 : C2 = 1 := by rw [HC2.out, putC, hm2]; rfl
              subst hC2
              clear hm2
              go_wp2_with (go_at_call 23; with_reducible refine (frLives_any _).mono ?_; rintro e w8 ⟨rfl, hb8⟩)
              go_ret
              exact ⟨rfl, below_then hw hb8⟩
            · have hC2 : C2 = 0 := by rw [HC2.out, putC, hm2]; rfl
              have hN2 : N2 = 14 := by rw [HN2.out, putN, hm2]; rfl
              have hY2 : putX h = putL h.body := by rw [putX, hm2]; rfl
              have HQ := Lib.hid (HEN1.out hm2)
              rw [hY2] at hl2 HYB
              obtain ⟨X2, hX2⟩ : ∃ X2, X2 = putL h.body := ⟨_, rfl⟩
              rw [← hX2] at hl2 HYB HQ
              subst hC2 hN2
              have HSB := Lib.hid (sameBytes_no A1 A2 14 14 14 14 X X2 u hl1 hl2 HXB.out HYB.out (fun e => HNO.out (HQ.out.1 e)))
              clear hm2 hY2 hX2
              go_wp2_with (first
                | (go_at_call 14; with_reducible refine (HSB.out).mono ?_; rintro e w7 ⟨rfl, rfl⟩)
                | (go_at_call 23; with_reducible refine (frLives_any _).mono ?_; rintro e w8 ⟨rfl, hb8⟩))
              go_ret
              exact ⟨rfl, below_then hw hb8⟩
theorem fit_of' {o k s q z : Int} (h : (Lit.int .u8 k).wf = true ∧ (Lit.int .u8 s).wf = true ∧ (Lit.int .u32 q).wf = true ∧ (Lit.int .u32 z).wf = true) : (Fr.mk o k s q z).Fit := by
  obtain ⟨h1, h2, h3, h4⟩ := h
  have b1 := bounds_u8 h1
  have b2 := bounds_u8 h2
  have b3 := bounds_u32 h3
  have b4 := bounds_u32 h4
  constructor <;> simp only <;> omega
theorem framesBack.framesBack_walk (o o' k s q z k' s' q' z' : Int) (a b : Bool) (w : World) (_ : (Lit.int .i64 o).wf = true) (_ : (Lit.int .i64 o').wf = true)
    (h : ((Lit.int .u8 k).wf = true ∧ (Lit.int .u8 s).wf = true ∧ (Lit.int .u32 q).wf = true ∧ (Lit.int .u32 z).wf = true) ∧ (Lit.int .u8 k').wf = true ∧ (Lit.int .u8 s').wf = true ∧ (Lit.int .u32 q').wf = true ∧ (Lit.int .u32 z').wf = true) :
    Calls Try.prog 6 #[.agg #[.int .i64 o, .int .i64 o'], .agg #[.int .u8 k, .int .u8 s, .int .u32 q, .int .u32 z, .int .u8 k', .int .u8 s', .int .u32 q', .int .u32 z'], .agg #[.bool a, .bool b]] w fun e w' => e = .returned (.bool true) ∧ Below w.heap.size w w' :=
  back_walk ⟨o, k, s, q, z⟩ ⟨o', k', s', q', z'⟩ a b w (fit_of' h.1) (fit_of' h.2)
end Go.Proofs.Ytkjdlcobidglcaa
