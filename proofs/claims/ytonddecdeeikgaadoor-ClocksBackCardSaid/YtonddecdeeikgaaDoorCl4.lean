/-
  The contracts of clocks.Of, Age, Ahead, New. Conditions: the net's reading; the scale's numbers are within their bounds, or there is no config.
-/
import Derived.Test.YtonddecdeeikgaaDoorCl3
namespace Go.Proofs.YtonddecdeeikgaaDoor
open Go.RowKit Cl
set_option linter.unusedVariables false

/-- What Of, Age, Ahead answer, of a net that may be. -/
def ofT (s L a : Int) : Tm := if Cl.isAge a then timeM s L a else Tm.zero
def ofE (a : Int) : Int := if Cl.isAge a then 0 else 1
def agA (s L : Int) (t : Tm) : Int := if hasB s L t then ageM s L t else 0
def agE (s L : Int) (t : Tm) : Int := if hasB s L t then 0 else 1
def ahA (s L : Int) (t : Tm) : Int := if hasB s L t then upM s t else -1
theorem blk_three {w : World} {g : Nat} {t : TypeId} {v0 v1 v2 : Value} (h : Blk w g t #[v0, v1, v2]) (x0 x1 x2 : Value) :
    (((w.setCell ⟨g, 0, none⟩ x0).setCell ⟨g, 1, none⟩ x1).setCell ⟨g, 2, none⟩ x2).cell? ⟨g, 0, none⟩ = some x0 ∧
    (((w.setCell ⟨g, 0, none⟩ x0).setCell ⟨g, 1, none⟩ x1).setCell ⟨g, 2, none⟩ x2).cell? ⟨g, 1, none⟩ = some x1 ∧
    (((w.setCell ⟨g, 0, none⟩ x0).setCell ⟨g, 1, none⟩ x1).setCell ⟨g, 2, none⟩ x2).cell? ⟨g, 2, none⟩ = some x2 := by
  have hF := ((h.set_ 0 x0).set_ 1 x1).set_ 2 x2
  exact ⟨hF.cell 0, hF.cell 1, hF.cell 2⟩

theorem clkOf_none (v : Value) (c : Cf) (a : Int) (w : World) (hn : NetIs w v c) (h1 : c.sn = 0) (h2 : c.L = 0) :
    Calls Tryd.prog 10 #[v, .int .i64 a] w fun e w' => e = .returned (.tuple #[.agg #[.int .i64 0, .int .i64 0, .int .i64 0], .int .i64 2]) ∧ Below w.heap.size w w' := by
  have hB0 := below_al (Below.refl w.heap.size w) (.cells #[.int .i64 0, .int .i64 0, .int .i64 0] 27)
  have hR := Blk.new w 27 #[.int .i64 0, .int .i64 0, .int .i64 0]
  have hn1 := hn.on hB0
  have HIS := Lib.hid (show (!((c.sn : Int) == 0 && c.L == 0)) = false by rw [h1, h2]; rfl)
  clear h1 h2
  clear hn
  go_enter Tryd.func10, Tryd.ntmps10
  go_wp2_with (first
    | (go_at_call 23; (with_reducible refine (scaleOf_any v c _ hn1).mono ?_); rintro e w1 ⟨rfl, b1⟩; have hB1 := below_al (below_then hB0 b1) (.cells #[.int .i64 c.sn, .int .i64 c.L] 50); have hR1 := (hR.on b1).alloc (.cells #[.int .i64 c.sn, .int .i64 c.L] 50); have hS1 := Blk.new w1 50 #[.int .i64 c.sn, .int .i64 c.L])
    | (go_at_call 24; (with_reducible refine (scIs_is c.sn c.L false HIS.out _).mono ?_); rintro e w2 ⟨rfl, b2⟩; have hB2 := below_then hB1 b2; have hR2 := hR1.on b2; have hS2 := hS1.on b2; have HBL := Lib.hid hB2; have HCL := Lib.hid (blk_three hR2 (.int .i64 0) (.int .i64 0) (.int .i64 0)); have r0 := hR2.cell 0; have r1 := hR2.cell 1; have r2 := hR2.cell 2; have rl := hR2.lt; simp only [List.getElem?_toArray, List.getElem?_cons_zero, List.getElem?_cons_succ] at r0 r1 r2; have f0 := hR2.frozen 0; have f1 := hR2.frozen 1; have f2 := hR2.frozen 2))
  obtain ⟨x0, x1, x2⟩ := HCL.out
  refine bodyPost_ret (v := .tuple #[.agg #[.int .i64 0, .int .i64 0, .int .i64 0], .int .i64 2]) (by simp [results, Tryd.results10, go_sem, x0, x1, x2]) rfl ⟨rfl, ?_⟩
  exact below_three HBL.out (Nat.le_refl _) _ _ _
theorem clkOf_far (v : Value) (c : Cf) (a : Int) (w : World) (hn : NetIs w v c) (hs : Sc c.sn c.L) (ha : Cl.isAge a = false) :
    Calls Tryd.prog 10 #[v, .int .i64 a] w fun e w' => e = .returned (.tuple #[.agg #[.int .i64 0, .int .i64 0, .int .i64 0], .int .i64 1]) ∧ Below w.heap.size w w' := by
  have hB0 := below_al (Below.refl w.heap.size w) (.cells #[.int .i64 0, .int .i64 0, .int .i64 0] 27)
  have hR := Blk.new w 27 #[.int .i64 0, .int .i64 0, .int .i64 0]
  have hn1 := hn.on hB0
  have HIS := Lib.hid (show (!((c.sn : Int) == 0 && c.L == 0)) = true by have := hs.s1; simp; omega)
  have HA := Lib.hid ha
  clear hs ha
  clear hn
  go_enter Tryd.func10, Tryd.ntmps10
  go_wp2_with (first
    | (go_at_call 23; (with_reducible refine (scaleOf_any v c _ hn1).mono ?_); rintro e w1 ⟨rfl, b1⟩; have hB1 := below_al (below_then hB0 b1) (.cells #[.int .i64 c.sn, .int .i64 c.L] 50); have hR1 := (hR.on b1).alloc (.cells #[.int .i64 c.sn, .int .i64 c.L] 50); have hS1 := Blk.new w1 50 #[.int .i64 c.sn, .int .i64 c.L])
    | (go_at_call 24; (with_reducible refine (scIs_is c.sn c.L true HIS.out _).mono ?_); rintro e w2 ⟨rfl, b2⟩; have hB2 := below_then hB1 b2; have hR2 := hR1.on b2; have hS2 := hS1.on b2; have HZ2 := Lib.hid b2)
    | (go_at_call 25; (with_reducible refine (isAge_is a false HA.out _).mono ?_); rintro e w3 ⟨rfl, b3⟩; have hB3 := below_then hB2 b3; have hR3 := hR2.on b3; have HBL := Lib.hid hB3; have HCL := Lib.hid (blk_three hR3 (.int .i64 0) (.int .i64 0) (.int .i64 0)); have r0 := hR3.cell 0; have r1 := hR3.cell 1; have r2 := hR3.cell 2; have rl := hR3.lt; simp only [List.getElem?_toArray, List.getElem?_cons_zero, List.getElem?_cons_succ] at r0 r1 r2; have f0 := hR3.frozen 0; have f1 := hR3.frozen 1; have f2 := hR3.frozen 2))
  obtain ⟨x0, x1, x2⟩ := HCL.out
  refine bodyPost_ret (v := .tuple #[.agg #[.int .i64 0, .int .i64 0, .int .i64 0], .int .i64 1]) (by simp [results, Tryd.results10, go_sem, x0, x1, x2]) rfl ⟨rfl, ?_⟩
  exact below_three HBL.out (Nat.le_refl _) _ _ _
theorem clkOf_near (v : Value) (c : Cf) (a : Int) (w : World) (hn : NetIs w v c) (hs : Sc c.sn c.L) (ha : Cl.isAge a = true) (X : Tm) (hX : timeM c.sn c.L a = X) :
    Calls Tryd.prog 10 #[v, .int .i64 a] w fun e w' => e = .returned (.tuple #[.agg #[.int .i64 X.r, .int .i64 X.k, .int .i64 X.p], .int .i64 0]) ∧ Below w.heap.size w w' := by
  have hB0 := below_al (Below.refl w.heap.size w) (.cells #[.int .i64 0, .int .i64 0, .int .i64 0] 27)
  have hR := Blk.new w 27 #[.int .i64 0, .int .i64 0, .int .i64 0]
  have hn1 := hn.on hB0
  have HIS := Lib.hid (show (!((c.sn : Int) == 0 && c.L == 0)) = true by have := hs.s1; simp; omega)
  have HA := Lib.hid ha
  have HA1 := Lib.hid (show 0 ≤ a by simp [Cl.isAge] at ha; omega)
  have HA2 := Lib.hid (show a ≤ 1099511627776 by simp [Cl.isAge] at ha; omega)
  have HX := Lib.hid hX
  have HSC := Lib.hid hs
  clear hs ha hX
  clear hn
  go_enter Tryd.func10, Tryd.ntmps10
  go_wp2_with (first
    | (go_at_call 23; (with_reducible refine (scaleOf_any v c _ hn1).mono ?_); rintro e w1 ⟨rfl, b1⟩; have hB1 := below_al (below_then hB0 b1) (.cells #[.int .i64 c.sn, .int .i64 c.L] 50); have hR1 := (hR.on b1).alloc (.cells #[.int .i64 c.sn, .int .i64 c.L] 50); have hS1 := Blk.new w1 50 #[.int .i64 c.sn, .int .i64 c.L])
    | (go_at_call 24; (with_reducible refine (scIs_is c.sn c.L true HIS.out _).mono ?_); rintro e w2 ⟨rfl, b2⟩; have hB2 := below_then hB1 b2; have hR2 := hR1.on b2; have hS2 := hS1.on b2; have HZ2 := Lib.hid b2)
    | (go_at_call 25; (with_reducible refine (isAge_is a true HA.out _).mono ?_); rintro e w3 ⟨rfl, b3⟩; have hB3 := below_then hB2 b3; have hR3 := hR2.on b3; have hS3 := hS2.on b3; have s0 := hS3.cell 0; have s1 := hS3.cell 1; have sl := hS3.lt; simp only [List.getElem?_toArray, List.getElem?_cons_zero, List.getElem?_cons_succ] at s0 s1)
    | (go_at_call 26; (with_reducible refine (scTime_is c.sn c.L a X HX.out _ HSC.out HA1.out HA2.out).mono ?_); rintro e w4 ⟨rfl, b4⟩; have hB4 := below_then hB3 b4; have hR4 := hR3.on b4; have HBL := Lib.hid hB4; have HCL := Lib.hid (blk_three hR4 (.int .i64 X.r) (.int .i64 X.k) (.int .i64 X.p)); have r0 := hR4.cell 0; have r1 := hR4.cell 1; have r2 := hR4.cell 2; have rl := hR4.lt; simp only [List.getElem?_toArray, List.getElem?_cons_zero, List.getElem?_cons_succ] at r0 r1 r2; have f0 := hR4.frozen 0; have f1 := hR4.frozen 1; have f2 := hR4.frozen 2))
  obtain ⟨x0, x1, x2⟩ := HCL.out
  refine bodyPost_ret (v := .tuple #[.agg #[.int .i64 X.r, .int .i64 X.k, .int .i64 X.p], .int .i64 0]) (by simp [results, Tryd.results10, go_sem, x0, x1, x2]) rfl ⟨rfl, ?_⟩
  exact below_three HBL.out (Nat.le_refl _) _ _ _
theorem clkOf_any (v : Value) (c : Cf) (a : Int) (w : World) (hn : NetIs w v c) (hs : Sc c.sn c.L) :
    Calls Tryd.prog 10 #[v, .int .i64 a] w fun e w' => e = .returned (.tuple #[.agg #[.int .i64 (ofT c.sn c.L a).r, .int .i64 (ofT c.sn c.L a).k, .int .i64 (ofT c.sn c.L a).p], .int .i64 (ofE a)]) ∧ Below w.heap.size w w' := by
  by_cases ha : Cl.isAge a = true
  · have e1 : ofT c.sn c.L a = timeM c.sn c.L a := by simp [ofT, ha]
    have e2 : ofE a = 0 := by simp [ofE, ha]
    rw [e1, e2]
    exact clkOf_near v c a w hn hs ha _ rfl
  · have ha' : Cl.isAge a = false := by simpa using ha
    have e1 : ofT c.sn c.L a = Tm.zero := by simp [ofT, ha']
    have e2 : ofE a = 1 := by simp [ofE, ha']
    rw [e1, e2]
    exact clkOf_far v c a w hn hs ha'
theorem clkOf_is (v : Value) (c : Cf) (a : Int) (X : Tm) (hX : ofT c.sn c.L a = X) (E : Int) (hE : ofE a = E) (w : World) (hn : NetIs w v c) (hs : Sc c.sn c.L) :
    Calls Tryd.prog 10 #[v, .int .i64 a] w fun e w' => e = .returned (.tuple #[.agg #[.int .i64 X.r, .int .i64 X.k, .int .i64 X.p], .int .i64 E]) ∧ Below w.heap.size w w' := by
  subst hX hE; exact clkOf_any v c a w hn hs

theorem clkAge_none (v : Value) (c : Cf) (t : Tm) (w : World) (hn : NetIs w v c) (h1 : c.sn = 0) (h2 : c.L = 0) :
    Calls Tryd.prog 12 #[v, .agg #[.int .i64 t.r, .int .i64 t.k, .int .i64 t.p]] w fun e w' => e = .returned (.tuple #[.int .i64 0, .int .i64 2]) ∧ Below w.heap.size w w' := by
  have hB0 := below_al (Below.refl w.heap.size w) (.cells #[.int .i64 t.r, .int .i64 t.k, .int .i64 t.p] 27)
  have hT := Blk.new w 27 #[.int .i64 t.r, .int .i64 t.k, .int .i64 t.p]
  have hn1 := hn.on hB0
  have HIS := Lib.hid (show (!((c.sn : Int) == 0 && c.L == 0)) = false by rw [h1, h2]; rfl)
  clear h1 h2
  clear hn
  go_enter Tryd.func12, Tryd.ntmps12
  go_wp2_with (first
    | (go_at_call 23; (with_reducible refine (scaleOf_any v c _ hn1).mono ?_); rintro e w1 ⟨rfl, b1⟩; have hB1 := below_al (below_then hB0 b1) (.cells #[.int .i64 c.sn, .int .i64 c.L] 50); have hT1 := (hT.on b1).alloc (.cells #[.int .i64 c.sn, .int .i64 c.L] 50); have hS1 := Blk.new w1 50 #[.int .i64 c.sn, .int .i64 c.L]; have t0 := hT1.cell 0; have t1 := hT1.cell 1; have t2 := hT1.cell 2; have tl := hT1.lt; simp only [List.getElem?_toArray, List.getElem?_cons_zero, List.getElem?_cons_succ] at t0 t1 t2)
    | (go_at_call 24; (with_reducible refine (scIs_is c.sn c.L false HIS.out _).mono ?_); rintro e w2 ⟨rfl, b2⟩; have hB2 := below_then hB1 b2; have hT2 := hT1.on b2; have hS2 := hS1.on b2; clear t0 t1 t2 tl; have HBL := Lib.hid hB2)
)
  go_ret2
  exact ⟨rfl, HBL.out⟩
theorem clkAge_no (v : Value) (c : Cf) (t : Tm) (w : World) (hn : NetIs w v c) (hs : Sc c.sn c.L) (hh : hasB c.sn c.L t = false) :
    Calls Tryd.prog 12 #[v, .agg #[.int .i64 t.r, .int .i64 t.k, .int .i64 t.p]] w fun e w' => e = .returned (.tuple #[.int .i64 0, .int .i64 1]) ∧ Below w.heap.size w w' := by
  have hB0 := below_al (Below.refl w.heap.size w) (.cells #[.int .i64 t.r, .int .i64 t.k, .int .i64 t.p] 27)
  have hT := Blk.new w 27 #[.int .i64 t.r, .int .i64 t.k, .int .i64 t.p]
  have hn1 := hn.on hB0
  have HIS := Lib.hid (show (!((c.sn : Int) == 0 && c.L == 0)) = true by have := hs.s1; simp; omega)
  have HHAS := Lib.hid (fun u => scHas_is c.sn c.L t false hh u hs)
  clear hs hh
  clear hn
  go_enter Tryd.func12, Tryd.ntmps12
  go_wp2_with (first
    | (go_at_call 23; (with_reducible refine (scaleOf_any v c _ hn1).mono ?_); rintro e w1 ⟨rfl, b1⟩; have hB1 := below_al (below_then hB0 b1) (.cells #[.int .i64 c.sn, .int .i64 c.L] 50); have hT1 := (hT.on b1).alloc (.cells #[.int .i64 c.sn, .int .i64 c.L] 50); have hS1 := Blk.new w1 50 #[.int .i64 c.sn, .int .i64 c.L]; have t0 := hT1.cell 0; have t1 := hT1.cell 1; have t2 := hT1.cell 2; have tl := hT1.lt; simp only [List.getElem?_toArray, List.getElem?_cons_zero, List.getElem?_cons_succ] at t0 t1 t2)
    | (go_at_call 24; (with_reducible refine (scIs_is c.sn c.L true HIS.out _).mono ?_); rintro e w2 ⟨rfl, b2⟩; have hB2 := below_then hB1 b2; have hT2 := hT1.on b2; have hS2 := hS1.on b2; clear t0 t1 t2 tl; have t0 := hT2.cell 0; have t1 := hT2.cell 1; have t2 := hT2.cell 2; have tl := hT2.lt; simp only [List.getElem?_toArray, List.getElem?_cons_zero, List.getElem?_cons_succ] at t0 t1 t2; have s0 := hS2.cell 0; have s1 := hS2.cell 1; have sl := hS2.lt; simp only [List.getElem?_toArray, List.getElem?_cons_zero, List.getElem?_cons_succ] at s0 s1)
    | (go_at_call 28; (with_reducible refine (HHAS.out _).mono ?_); rintro e w3 ⟨rfl, b3⟩; have hB3 := below_then hB2 b3; have hT3 := hT2.on b3; have hS3 := hS2.on b3; clear t0 t1 t2 tl; have HBL := Lib.hid hB3)
)
  go_ret2
  exact ⟨rfl, HBL.out⟩
theorem clkAge_yes (v : Value) (c : Cf) (t : Tm) (w : World) (hn : NetIs w v c) (hs : Sc c.sn c.L) (hh : hasB c.sn c.L t = true) (a : Int) (ha : ageM c.sn c.L t = a) :
    Calls Tryd.prog 12 #[v, .agg #[.int .i64 t.r, .int .i64 t.k, .int .i64 t.p]] w fun e w' => e = .returned (.tuple #[.int .i64 a, .int .i64 0]) ∧ Below w.heap.size w w' := by
  have hB0 := below_al (Below.refl w.heap.size w) (.cells #[.int .i64 t.r, .int .i64 t.k, .int .i64 t.p] 27)
  have hT := Blk.new w 27 #[.int .i64 t.r, .int .i64 t.k, .int .i64 t.p]
  have hn1 := hn.on hB0
  have HIS := Lib.hid (show (!((c.sn : Int) == 0 && c.L == 0)) = true by have := hs.s1; simp; omega)
  have HHAS := Lib.hid (fun u => scHas_is c.sn c.L t true hh u hs)
  have HAG := Lib.hid (fun u => scAge_is c.sn c.L t a ha u (fit_of hs hh))
  clear hs hh ha
  clear hn
  go_enter Tryd.func12, Tryd.ntmps12
  go_wp2_with (first
    | (go_at_call 23; (with_reducible refine (scaleOf_any v c _ hn1).mono ?_); rintro e w1 ⟨rfl, b1⟩; have hB1 := below_al (below_then hB0 b1) (.cells #[.int .i64 c.sn, .int .i64 c.L] 50); have hT1 := (hT.on b1).alloc (.cells #[.int .i64 c.sn, .int .i64 c.L] 50); have hS1 := Blk.new w1 50 #[.int .i64 c.sn, .int .i64 c.L]; have t0 := hT1.cell 0; have t1 := hT1.cell 1; have t2 := hT1.cell 2; have tl := hT1.lt; simp only [List.getElem?_toArray, List.getElem?_cons_zero, List.getElem?_cons_succ] at t0 t1 t2)
    | (go_at_call 24; (with_reducible refine (scIs_is c.sn c.L true HIS.out _).mono ?_); rintro e w2 ⟨rfl, b2⟩; have hB2 := below_then hB1 b2; have hT2 := hT1.on b2; have hS2 := hS1.on b2; clear t0 t1 t2 tl; have t0 := hT2.cell 0; have t1 := hT2.cell 1; have t2 := hT2.cell 2; have tl := hT2.lt; simp only [List.getElem?_toArray, List.getElem?_cons_zero, List.getElem?_cons_succ] at t0 t1 t2; have s0 := hS2.cell 0; have s1 := hS2.cell 1; have sl := hS2.lt; simp only [List.getElem?_toArray, List.getElem?_cons_zero, List.getElem?_cons_succ] at s0 s1)
    | (go_at_call 28; (with_reducible refine (HHAS.out _).mono ?_); rintro e w3 ⟨rfl, b3⟩; have hB3 := below_then hB2 b3; have hT3 := hT2.on b3; have hS3 := hS2.on b3; clear t0 t1 t2 tl; clear s0 s1 sl; have t0 := hT3.cell 0; have t1 := hT3.cell 1; have t2 := hT3.cell 2; have tl := hT3.lt; simp only [List.getElem?_toArray, List.getElem?_cons_zero, List.getElem?_cons_succ] at t0 t1 t2; have s0 := hS3.cell 0; have s1 := hS3.cell 1; have sl := hS3.lt; simp only [List.getElem?_toArray, List.getElem?_cons_zero, List.getElem?_cons_succ] at s0 s1)
    | (go_at_call 29; (with_reducible refine (HAG.out _).mono ?_); rintro e w4 ⟨rfl, b4⟩; have HBL := Lib.hid (below_then hB3 b4))
)
  go_ret2
  exact ⟨rfl, HBL.out⟩
theorem clkAge_is (v : Value) (c : Cf) (t : Tm) (a : Int) (ha : agA c.sn c.L t = a) (E : Int) (hE : agE c.sn c.L t = E) (w : World) (hn : NetIs w v c) (hs : Sc c.sn c.L) :
    Calls Tryd.prog 12 #[v, .agg #[.int .i64 t.r, .int .i64 t.k, .int .i64 t.p]] w fun e w' => e = .returned (.tuple #[.int .i64 a, .int .i64 E]) ∧ Below w.heap.size w w' := by
  by_cases hh : hasB c.sn c.L t = true
  · simp only [agA, agE, hh, if_true] at ha hE
    subst hE
    exact clkAge_yes v c t w hn hs hh a ha
  · have hh' : hasB c.sn c.L t = false := by simpa using hh
    simp only [agA, agE, hh', Bool.false_eq_true, if_false] at ha hE
    subst hE ha
    exact clkAge_no v c t w hn hs hh'
theorem clkAhead_no (v : Value) (c : Cf) (t : Tm) (w : World) (hn : NetIs w v c) (HH : ∀ u, Calls Tryd.prog 28 #[.agg #[.int .i64 c.sn, .int .i64 c.L], .agg #[.int .i64 t.r, .int .i64 t.k, .int .i64 t.p]] u fun e w' => e = .returned (.bool false) ∧ Below u.heap.size u w') :
    Calls Tryd.prog 15 #[v, .agg #[.int .i64 t.r, .int .i64 t.k, .int .i64 t.p]] w fun e w' => e = .returned (.int .i64 (-1)) ∧ Below w.heap.size w w' := by
  have hB0 := below_al (Below.refl w.heap.size w) (.cells #[.int .i64 t.r, .int .i64 t.k, .int .i64 t.p] 27)
  have hT := Blk.new w 27 #[.int .i64 t.r, .int .i64 t.k, .int .i64 t.p]
  have hn1 := hn.on hB0
  have HHAS := Lib.hid HH
  clear HH
  clear hn
  go_enter Tryd.func15, Tryd.ntmps15
  go_wp2_with (first
    | (go_at_call 23; (with_reducible refine (scaleOf_any v c _ hn1).mono ?_); rintro e w1 ⟨rfl, b1⟩; have hB1 := below_al (below_then hB0 b1) (.cells #[.int .i64 c.sn, .int .i64 c.L] 50); have hT1 := (hT.on b1).alloc (.cells #[.int .i64 c.sn, .int .i64 c.L] 50); have hS1 := Blk.new w1 50 #[.int .i64 c.sn, .int .i64 c.L]; have t0 := hT1.cell 0; have t1 := hT1.cell 1; have t2 := hT1.cell 2; have tl := hT1.lt; simp only [List.getElem?_toArray, List.getElem?_cons_zero, List.getElem?_cons_succ] at t0 t1 t2)
    | (go_at_call 28; (with_reducible refine (HHAS.out _).mono ?_); rintro e w3 ⟨rfl, b3⟩; have hB3 := below_then hB1 b3; have hT3 := hT1.on b3; have hS3 := hS1.on b3; clear t0 t1 t2 tl; have HBL := Lib.hid hB3)
)
  go_ret
  exact ⟨rfl, HBL.out⟩
theorem clkAhead_yes (v : Value) (c : Cf) (t : Tm) (w : World) (hn : NetIs w v c) (hs : Sc c.sn c.L) (hh : hasB c.sn c.L t = true) (y : Int) (hy : upM c.sn t = y) :
    Calls Tryd.prog 15 #[v, .agg #[.int .i64 t.r, .int .i64 t.k, .int .i64 t.p]] w fun e w' => e = .returned (.int .i64 y) ∧ Below w.heap.size w w' := by
  have hB0 := below_al (Below.refl w.heap.size w) (.cells #[.int .i64 t.r, .int .i64 t.k, .int .i64 t.p] 27)
  have hT := Blk.new w 27 #[.int .i64 t.r, .int .i64 t.k, .int .i64 t.p]
  have hn1 := hn.on hB0
  have HHAS := Lib.hid (fun u => scHas_is c.sn c.L t true hh u hs)
  have HUP := Lib.hid (fun u => scUp_is c.sn c.L t y hy u (fit_of hs hh).a (fit_of hs hh).b (fit_of hs hh).c (fit_of hs hh).d)
  clear hs hh hy
  clear hn
  go_enter Tryd.func15, Tryd.ntmps15
  go_wp2_with (first
    | (go_at_call 23; (with_reducible refine (scaleOf_any v c _ hn1).mono ?_); rintro e w1 ⟨rfl, b1⟩; have hB1 := below_al (below_then hB0 b1) (.cells #[.int .i64 c.sn, .int .i64 c.L] 50); have hT1 := (hT.on b1).alloc (.cells #[.int .i64 c.sn, .int .i64 c.L] 50); have hS1 := Blk.new w1 50 #[.int .i64 c.sn, .int .i64 c.L]; have t0 := hT1.cell 0; have t1 := hT1.cell 1; have t2 := hT1.cell 2; have tl := hT1.lt; simp only [List.getElem?_toArray, List.getElem?_cons_zero, List.getElem?_cons_succ] at t0 t1 t2)
    | (go_at_call 28; (with_reducible refine (HHAS.out _).mono ?_); rintro e w3 ⟨rfl, b3⟩; have hB3 := below_then hB1 b3; have hT3 := hT1.on b3; have hS3 := hS1.on b3; clear t0 t1 t2 tl; have t0 := hT3.cell 0; have t1 := hT3.cell 1; have t2 := hT3.cell 2; have tl := hT3.lt; simp only [List.getElem?_toArray, List.getElem?_cons_zero, List.getElem?_cons_succ] at t0 t1 t2; have s0 := hS3.cell 0; have s1 := hS3.cell 1; have sl := hS3.lt; simp only [List.getElem?_toArray, List.getElem?_cons_zero, List.getElem?_cons_succ] at s0 s1)
    | (go_at_call 30; (with_reducible refine (HUP.out _).mono ?_); rintro e w4 ⟨rfl, b4⟩; have HBL := Lib.hid (below_then hB3 b4))
)
  go_ret
  exact ⟨rfl, HBL.out⟩
theorem clkAhead_is (v : Value) (c : Cf) (t : Tm) (y : Int) (hy : ahA c.sn c.L t = y) (w : World) (hn : NetIs w v c) (hs : Sc c.sn c.L) :
    Calls Tryd.prog 15 #[v, .agg #[.int .i64 t.r, .int .i64 t.k, .int .i64 t.p]] w fun e w' => e = .returned (.int .i64 y) ∧ Below w.heap.size w w' := by
  by_cases hh : hasB c.sn c.L t = true
  · simp only [ahA, hh, if_true] at hy
    exact clkAhead_yes v c t w hn hs hh y hy
  · have hh' : hasB c.sn c.L t = false := by simpa using hh
    simp only [ahA, hh', Bool.false_eq_true, if_false] at hy
    subst hy
    exact clkAhead_no v c t w hn (fun u => scHas_is c.sn c.L t false hh' u hs)
theorem clkAhead_none (v : Value) (c : Cf) (t : Tm) (w : World) (hn : NetIs w v c) (h1 : c.sn = 0) :
    Calls Tryd.prog 15 #[v, .agg #[.int .i64 t.r, .int .i64 t.k, .int .i64 t.p]] w fun e w' => e = .returned (.int .i64 (-1)) ∧ Below w.heap.size w w' :=
  clkAhead_no v c t w hn (fun u => by
    have h : ¬ ((0 ≤ t.k ∧ t.k < (c.sn : Int)) ∧ 0 ≤ t.p ∧ t.p < c.L) := by rw [h1]; omega
    have := scHas_out c.sn c.L t u h
    rwa [has_out h] at this)

/-- A clock in its block. -/
def Clk (w : World) (g : Nat) (s L st : Int) (t : Tm) : Prop := Blk w g 53 #[.int .i64 s, .int .i64 L, .int .i64 st, .int .i64 t.r, .int .i64 t.k, .int .i64 t.p]
theorem clkNew_none (v : Value) (c : Cf) (w : World) (hn : NetIs w v c) (h1 : c.sn = 0) (h2 : c.L = 0) :
    Calls Tryd.prog 17 #[v] w fun e w' => e = .returned (.pointer none) ∧ Below w.heap.size w w' := by
  have HIS := Lib.hid (show (!((c.sn : Int) == 0 && c.L == 0)) = false by rw [h1, h2]; rfl)
  clear h1 h2
  go_enter Tryd.func17, Tryd.ntmps17
  go_wp2_with (first
    | (go_at_call 23; (with_reducible refine (scaleOf_any v c _ hn).mono ?_); rintro e w1 ⟨rfl, b1⟩; have hB1 := below_al b1 (.cells #[.int .i64 c.sn, .int .i64 c.L] 50))
    | (go_at_call 24; (with_reducible refine (scIs_is c.sn c.L false HIS.out _).mono ?_); rintro e w2 ⟨rfl, b2⟩))
  go_ret
  exact ⟨rfl, below_then hB1 b2⟩
theorem clkNew_yes (v : Value) (c : Cf) (w : World) (hn : NetIs w v c) (hs : Sc c.sn c.L) :
    Calls Tryd.prog 17 #[v] w fun e w' => ∃ g, e = .returned (.pointer (some ⟨g, 0, none⟩)) ∧ w.heap.size ≤ g ∧ Clk w' g c.sn c.L 1 Tm.zero ∧ Below w.heap.size w w' := by
  have HIS := Lib.hid (show (!((c.sn : Int) == 0 && c.L == 0)) = true by have := hs.s1; simp; omega)
  clear hs
  go_enter Tryd.func17, Tryd.ntmps17
  go_wp2_with (first
    | (go_at_call 23; (with_reducible refine (scaleOf_any v c _ hn).mono ?_); rintro e w1 ⟨rfl, b1⟩; have hB1 := below_al b1 (.cells #[.int .i64 c.sn, .int .i64 c.L] 50); have hS1 := Blk.new w1 50 #[.int .i64 c.sn, .int .i64 c.L])
    | (go_at_call 24; (with_reducible refine (scIs_is c.sn c.L true HIS.out _).mono ?_); rintro e w2 ⟨rfl, b2⟩; have hB2 := below_then hB1 b2; have hS2 := hS1.on b2; have s0 := hS2.cell 0; have s1 := hS2.cell 1; have sl := hS2.lt; simp only [List.getElem?_toArray, List.getElem?_cons_zero, List.getElem?_cons_succ] at s0 s1))
  go_ret
  exact ⟨w2.heap.size, rfl, hB2.size, Blk.new _ _ _, below_al hB2 _⟩
end Go.Proofs.YtonddecdeeikgaaDoor
