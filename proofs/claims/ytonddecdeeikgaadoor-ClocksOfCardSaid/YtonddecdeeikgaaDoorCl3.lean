/-
  The contracts of a scale's time, and of scaleOf. Conditions: the scale's numbers are within their bounds, the age is none below 0; of scaleOf: the net's reading.
-/
import Derived.Test.YtonddecdeeikgaaDoorCl2
import Derived.Test.YtonddecdeeikgaaDoorNet3
namespace Go.Proofs.YtonddecdeeikgaaDoor
open Go.RowKit Cl
set_option linter.unusedVariables false

/-- A block of three cells; a time's. -/
def has3 (g : Nat) (t : TypeId) (u : World) : Prop := ∃ v0 v1 v2, Blk u g t #[v0, v1, v2]
def is3 (g : Nat) (t : TypeId) (x : Tm) (u : World) : Prop := Blk u g t #[.int .i64 x.r, .int .i64 x.k, .int .i64 x.p]
section
variable {g : Nat} {t : TypeId} {u : World} {u0 u1 u2 v0 v1 v2 : Value}
theorem is3.has {x : Tm} (h : is3 g t x u) : has3 g t u := ⟨_, _, _, h⟩
theorem Blk.three (hB : Blk u g t #[v0, v1, v2]) (x : Tm) : is3 g t x (((u.setCell ⟨g, 0, none⟩ (.int .i64 x.r)).setCell ⟨g, 1, none⟩ (.int .i64 x.k)).setCell ⟨g, 2, none⟩ (.int .i64 x.p)) :=
  ((hB.set_ 0 (.int .i64 x.r)).set_ 1 (.int .i64 x.k)).set_ 2 (.int .i64 x.p)
theorem below_three {B : Nat} {a w : World} (h : Below B a w) {g : Nat} (hg : B ≤ g) (u0 u1 u2 : Value) :
    Below B a (((w.setCell ⟨g, 0, none⟩ u0).setCell ⟨g, 1, none⟩ u1).setCell ⟨g, 2, none⟩ u2) :=
  ((h.setCell (p := ⟨g, 0, none⟩) hg u0).setCell (p := ⟨g, 1, none⟩) hg u1).setCell (p := ⟨g, 2, none⟩) hg u2
theorem Reg.KJ.three {B : Nat} {S : List Nat} {Js : List (World → Prop)} (hB : B ≤ g) (hg : g ∈ S) (hJ : ∀ J ∈ Js, J u → J (((u.setCell ⟨g, 0, none⟩ u0).setCell ⟨g, 1, none⟩ u1).setCell ⟨g, 2, none⟩ u2)) :
    Reg.KJ B S Js u (((u.setCell ⟨g, 0, none⟩ u0).setCell ⟨g, 1, none⟩ u1).setCell ⟨g, 2, none⟩ u2) :=
  ⟨below_three (Below.refl _ _) hB _ _ _, fun k _ hk => by
    have hne : k ≠ g := fun e => hk (e ▸ hg)
    rw [Below.heap_setCell _ _ _ _ hne, Below.heap_setCell _ _ _ _ hne, Below.heap_setCell _ _ _ _ hne], hJ⟩
end
theorem grow3 (g : Nat) (t : TypeId) (x : Tm) : ∀ J ∈ [has3 g t, is3 g t x], ∀ u u' : World, Below u.heap.size u u' → J u → J u' := by
  simp only [List.forall_mem_cons]
  refine ⟨fun u u' k ⟨v0, v1, v2, hB⟩ => ⟨v0, v1, v2, hB.on k⟩, fun u u' k h => Blk.on h k, fun _ h => by cases h⟩

set_option maxRecDepth 100000 in
theorem scTime_is (s L a : Int) (X : Tm) (hX : timeM s L a = X) (w : World) (hs : Sc s L) (ha : 0 ≤ a) (ha' : a ≤ 1099511627776) :
    Calls Tryd.prog 26 #[.agg #[.int .i64 s, .int .i64 L], .int .i64 a] w fun e w' => e = .returned (.agg #[.int .i64 X.r, .int .i64 X.k, .int .i64 X.p]) ∧ Below w.heap.size w w' := by
  obtain ⟨R, hR⟩ : ∃ R, R = s * L := ⟨_, rfl⟩
  have HR := Lib.hid hR.symm
  have HSC := Lib.hid hs
  have hRb := hs.round
  have hbd := time_bd hs.s1 hs.l1 ha
  rw [hX] at hbd
  obtain ⟨l, hl⟩ : ∃ l, l = a % R := ⟨_, rfl⟩
  rw [← hR] at hRb
  have e1 : a / R = X.r := by rw [← hX, hR]; rfl
  have e2 : l / L = X.k := by rw [← hX, hl, hR]; rfl
  have e3 : l % L = X.p := by rw [← hX, hl, hR]; rfl
  have hl0 : 0 ≤ l := by rw [hl]; exact Int.emod_nonneg _ (by omega)
  have hl1 : l < R := by rw [hl]; exact Int.emod_lt_of_pos _ (by omega)
  have d1 : a.tdiv R = X.r := by rw [← e1]; exact Int.tdiv_eq_ediv_of_nonneg ha
  have d2 : l.tdiv L = X.k := by rw [← e2]; exact Int.tdiv_eq_ediv_of_nonneg hl0
  have d3 : l.tmod L = X.p := by rw [← e3]; exact Int.tmod_eq_emod_of_nonneg hl0
  have d4 : a.tmod R = l := by rw [hl]; exact Int.tmod_eq_emod_of_nonneg ha
  have w1 : IntKind.i64.wrap X.r = X.r := IntWalk.i64_in _ (by omega)
  have w2 : IntKind.i64.wrap X.k = X.k := IntWalk.i64_in _ (by have := hs.s2; omega)
  have w3 : IntKind.i64.wrap X.p = X.p := IntWalk.i64_in _ (by have := hs.l2; omega)
  have w4 : IntKind.i64.wrap l = l := IntWalk.i64_in _ (by omega)
  have n1 : R ≠ 0 := by omega
  have n2 : (R == 0) = false := beq_eq_false_iff_ne.2 n1
  have n3 : L ≠ 0 := by have := hs.l1; omega
  have n4 : (L == 0) = false := beq_eq_false_iff_ne.2 n3
  have d5 : a % R = l := hl.symm
  have hS := (Blk.new w 50 #[.int .i64 s, .int .i64 L]).alloc (.cells #[.int .i64 0, .int .i64 0, .int .i64 0] 27)
  have hT : Blk ((w.alloc (.cells #[.int .i64 s, .int .i64 L] 50)).alloc (.cells #[.int .i64 0, .int .i64 0, .int .i64 0] 27)) (w.heap.size + 1) 27 #[.int .i64 0, .int .i64 0, .int .i64 0] := by
    have h := Blk.new (w.alloc (.cells #[.int .i64 s, .int .i64 L] 50)) 27 #[.int .i64 0, .int .i64 0, .int .i64 0]
    rwa [alloc_size] at h
  have HBB := Lib.hid (below_al (below_al (Below.refl w.heap.size w) (.cells #[.int .i64 s, .int .i64 L] 50)) (.cells #[.int .i64 0, .int .i64 0, .int .i64 0] 27))
  have HS0 := Lib.hid hS
  have HT0 := Lib.hid hT
  clear hX hR hs hRb hbd hl e1 e2 e3 hl0 hl1 ha ha' hS hT
  go_enter Tryd.func26, Tryd.ntmps26
  go_wp2_with (go_at_call 38; (with_reducible refine (scRound_is s L R HR.out _ HSC.out).mono ?_); rintro e w1 ⟨rfl, b1⟩; have hS1 := HS0.out.on b1; have s0 := hS1.cell 0; have s1 := hS1.cell 1; have sl := hS1.lt; simp only [List.getElem?_toArray, List.getElem?_cons_zero, List.getElem?_cons_succ] at s0 s1)
  have HS := Lib.hid hS1
  have HJ3 := Lib.hid (show has3 (w.heap.size + 1) 27 w1 from ⟨_, _, _, HT0.out.on b1⟩)
  have HJ := Lib.hid (grow3 (w.heap.size + 1) 27 X)
  have HB1 := Lib.hid (below_then HBB.out b1)
  have HZ := Lib.hid (show w.heap.size ≤ w1.heap.size from HB1.out.size)
  clear hS1 s0 s1 sl b1
  refine Reg.wp_slots2 (fun t => decide (13 ≤ t)) (Reg.KJ w.heap.size [w.heap.size + 1] [has3 (w.heap.size + 1) 27, is3 (w.heap.size + 1) 27 X]) (Reg.KJ.drew _ HJ.out) Reg.KJ.trans (by kernel_rfl) (by kernel_rfl) (by kernel_rfl) (fun zz => (Reg.tblK [
    (13, .is (.int .i64 a)),
    (14, .is (.agg #[.int .i64 s, .int .i64 L])),
    (15, .is (.int .i64 R)),
    (16, .is (.int .i64 X.r)),
    (17, .is (.int .i64 l)),
    (18, .is (.int .i64 L)),
    (19, .is (.int .i64 X.k)),
    (20, .is (.int .i64 l)),
    (21, .is (.int .i64 L)),
    (22, .is (.int .i64 X.p)),
    (23, .is (.agg #[.int .i64 X.r, .int .i64 X.k, .int .i64 X.p]))] zz).P) (fun zz => (Reg.tblK _ zz).on) (fun zz => (Reg.memK [(11, .j (is3 (w.heap.size + 1) 27 X) (by simp))] zz).P) (fun zz => (Reg.memK _ zz).on) ?_ ?_
  · simp only [Reg.frame, Reg.over, Nat.reduceAdd, Nat.reduceLeDiff, decide_true, decide_false, if_true, Bool.false_eq_true, if_false]
    refine ⟨?_, ?_, ?_, ?_, ?_, ?_, ?_, ?_, ?_, ?_, ?_, ?_, trivial⟩
    · intro x u hku hd
      refine wpOp_step rfl fun KK hK => ?_
      go_simp
      exact hK _ _ ⟨_, rfl, Reg.KJ.refl _, fun d hd => by cases hd; exact rfl, fun h => by cases h⟩
    · intro x u hku hd
      have hB := hku.blk (by simp) HS.out
      have s0 := hB.cell 0
      have s1 := hB.cell 1
      have sl := hB.lt
      simp only [List.getElem?_toArray, List.getElem?_cons_zero, List.getElem?_cons_succ] at s0 s1
      refine wpOp_step rfl fun KK hK => ?_
      go_simp
      exact hK _ _ ⟨_, rfl, Reg.KJ.refl _, fun d hd => by cases hd; exact rfl, fun h => by cases h⟩
    · intro x u hku hd
      have h14 : x 14 = .agg #[.int .i64 s, .int .i64 L] := hd 1 (by decide)
      refine wpOp_step rfl fun KK hK => ?_
      simp only [h14] at hK ⊢
      go_simp
      with_reducible refine (scRound_is s L R HR.out _ HSC.out).mono ?_
      rintro e u' ⟨rfl, hb'⟩
      exact hK _ _ ⟨_, rfl, Reg.KJ.grow HJ.out (Nat.le_trans HZ.out hku.size) hb', fun d hd => by cases hd; exact rfl, fun h => by cases h⟩
    · intro x u hku hd
      have h13 : x 13 = .int .i64 a := hd 0 (by decide)
      have h15 : x 15 = .int .i64 R := hd 2 (by decide)
      refine wpOp_step rfl fun KK hK => ?_
      simp only [h13, h15] at hK ⊢
      go_simp
      exact hK _ _ ⟨_, rfl, Reg.KJ.refl _, fun d hd => by cases hd; exact rfl, fun h => by cases h⟩
    · intro x u hku hd
      refine wpOp_step rfl fun KK hK => ?_
      go_simp
      exact hK _ _ ⟨_, rfl, Reg.KJ.refl _, fun d hd => by cases hd; exact rfl, fun h => by cases h⟩
    · intro x u hku hd
      refine wpOp_step rfl fun KK hK => ?_
      go_simp
      exact hK _ _ ⟨_, rfl, Reg.KJ.refl _, fun d hd => by cases hd; exact rfl, fun h => by cases h⟩
    · intro x u hku hd
      have h17 : x 17 = .int .i64 l := hd 4 (by decide)
      have h18 : x 18 = .int .i64 L := hd 5 (by decide)
      refine wpOp_step rfl fun KK hK => ?_
      simp only [h17, h18] at hK ⊢
      go_simp
      exact hK _ _ ⟨_, rfl, Reg.KJ.refl _, fun d hd => by cases hd; exact rfl, fun h => by cases h⟩
    · intro x u hku hd
      refine wpOp_step rfl fun KK hK => ?_
      go_simp
      exact hK _ _ ⟨_, rfl, Reg.KJ.refl _, fun d hd => by cases hd; exact rfl, fun h => by cases h⟩
    · intro x u hku hd
      refine wpOp_step rfl fun KK hK => ?_
      go_simp
      exact hK _ _ ⟨_, rfl, Reg.KJ.refl _, fun d hd => by cases hd; exact rfl, fun h => by cases h⟩
    · intro x u hku hd
      have h20 : x 20 = .int .i64 l := hd 7 (by decide)
      have h21 : x 21 = .int .i64 L := hd 8 (by decide)
      refine wpOp_step rfl fun KK hK => ?_
      simp only [h20, h21] at hK ⊢
      go_simp
      exact hK _ _ ⟨_, rfl, Reg.KJ.refl _, fun d hd => by cases hd; exact rfl, fun h => by cases h⟩
    · intro x u hku hd
      have h16 : x 16 = .int .i64 X.r := hd 3 (by decide)
      have h19 : x 19 = .int .i64 X.k := hd 6 (by decide)
      have h22 : x 22 = .int .i64 X.p := hd 9 (by decide)
      refine wpOp_step rfl fun KK hK => ?_
      simp only [h16, h19, h22] at hK ⊢
      go_simp
      exact hK _ _ ⟨_, rfl, Reg.KJ.refl _, fun d hd => by cases hd; exact rfl, fun h => by cases h⟩
    · intro x u hku hd
      have h23 : x 23 = .agg #[.int .i64 X.r, .int .i64 X.k, .int .i64 X.p] := hd 10 (by decide)
      obtain ⟨v0, v1, v2, hB⟩ := hku.j (has3 (w.heap.size + 1) 27) (by simp) HJ3.out
      have c0 := hB.cell 0
      have f0 := hB.frozen 0
      have c1 := hB.cell 1
      have f1 := hB.frozen 1
      have c2 := hB.cell 2
      have f2 := hB.frozen 2
      simp only [List.getElem?_toArray, List.getElem?_cons_zero, List.getElem?_cons_succ] at c0 c1 c2
      have hlt := hB.lt
      have HFIN := Lib.hid (hB.three X)
      clear hB
      refine wpOp_step rfl fun KK hK => ?_
      simp only [h23] at hK ⊢
      go_simp
      exact hK _ _ ⟨undef, rfl, Reg.KJ.three (by omega) (by simp) (by simp only [List.forall_mem_cons]; exact ⟨fun _ => HFIN.out.has, fun _ => HFIN.out, fun _ h => by cases h⟩), fun d hd => (by cases hd), fun _ => HFIN.out⟩
  · intro x u hku hall
    have hfin : is3 (w.heap.size + 1) 27 X u := hall 11 (by decide)
    simp only [Reg.frame, Reg.over, Nat.reduceAdd, Nat.reduceLeDiff, decide_true, decide_false, if_true, Bool.false_eq_true, if_false]
    have c0 := hfin.cell 0
    have c1 := hfin.cell 1
    have c2 := hfin.cell 2
    have hlt := hfin.lt
    simp only [List.getElem?_toArray, List.getElem?_cons_zero, List.getElem?_cons_succ] at c0 c1 c2
    go_wp2_with fail
    exact bodyPost_ret (v := .agg #[.int .i64 X.r, .int .i64 X.k, .int .i64 X.p]) (by simp [results, Tryd.results26, go_sem, c0, c1, c2]) rfl ⟨rfl, HB1.out.trans hku.1⟩

theorem scaleOf_any (v : Value) (c : Cf) (w : World) (hn : NetIs w v c) :
    Calls Tryd.prog 23 #[v] w fun e w' => e = .returned (.agg #[.int .i64 c.sn, .int .i64 c.L]) ∧ Below w.heap.size w w' := by
  have hz := Blk.new w 50 #[.int .i64 0, .int .i64 0]
  have hB0 := below_al (Below.refl w.heap.size w) (.cells #[.int .i64 0, .int .i64 0] 50)
  have hn1 := hn.on hB0
  clear hn
  go_enter Tryd.func23, Tryd.ntmps23
  go_wp2_with (go_at_call 37; (with_reducible refine (net_given v c _ hn1).mono ?_); rintro e w1 ⟨A1, A2, A3, A4, rfl, -, b1⟩; have hz1 := hz.on b1; have z0 := hz1.cell 0; have z1 := hz1.cell 1; have f0 := hz1.frozen 0; have f1 := hz1.frozen 1; have zl := hz1.lt; simp only [List.getElem?_toArray, List.getElem?_cons_zero, List.getElem?_cons_succ] at z0 z1)
  have hF := ((hz1.set_ 0 (.int .i64 c.sn)).set_ 1 (.int .i64 c.L)).alloc (.cells #[.int .i64 c.N, .slice A1 c.pn c.pn, .slice A2 c.sn c.sn, .int .i64 c.L, .slice A3 c.bn c.bn, .slice A4 c.tn c.tn, .int .i64 c.M, .int .i64 c.G, .int .i64 c.F] 25)
  have y0 := hF.cell 0
  have y1 := hF.cell 1
  simp only [List.setIfInBounds_toArray, List.set_cons_zero, List.set_cons_succ, List.getElem?_toArray, List.getElem?_cons_zero, List.getElem?_cons_succ] at y0 y1
  refine bodyPost_ret (v := .agg #[.int .i64 c.sn, .int .i64 c.L]) (by simp [results, Tryd.results23, go_sem, y0, y1]) rfl ⟨rfl, ?_⟩
  first
    | exact ((below_al (below_then hB0 b1) _).setCell (by simp) _).setCell (by simp) _
    | exact below_al ((((below_then hB0 b1)).setCell (by simp) _).setCell (by simp) _) _
end Go.Proofs.YtonddecdeeikgaaDoor
