/-
  The contracts of a scale's age, has and time. Conditions: the scale's numbers are within their bounds; of age: no number is too great; of time: it is an age.
-/
import Derived.Test.YtonddecdeeikgaaDoorCl1
namespace Go.Proofs.YtonddecdeeikgaaDoor
open Go.RowKit Cl
set_option linter.unusedVariables false

/-- A time whose age is no too great number. -/
structure Fit (s L : Int) (t : Tm) : Prop where
  a : 0 ≤ t.r * s
  b : t.r * s ≤ 1099511627776 * 65536
  c : 0 ≤ t.k
  d : t.k ≤ 65536
  e : 0 ≤ upM s t * L
  f : upM s t * L ≤ 4503599627370496
  g : 0 ≤ t.p
  h : t.p ≤ 4096
set_option maxRecDepth 100000 in
theorem scAge_is (s L : Int) (t : Tm) (a : Int) (ha : ageM s L t = a) (w : World) (hf : Fit s L t) :
    Calls Tryd.prog 29 #[.agg #[.int .i64 s, .int .i64 L], .agg #[.int .i64 t.r, .int .i64 t.k, .int .i64 t.p]] w fun e w' => e = .returned (.int .i64 a) ∧ Below w.heap.size w w' := by
  have HS := Lib.hid ((Blk.new w 50 #[.int .i64 s, .int .i64 L]).alloc (.cells #[.int .i64 t.r, .int .i64 t.k, .int .i64 t.p] 27))
  have HT := Lib.hid (show Blk ((w.alloc (.cells #[.int .i64 s, .int .i64 L] 50)).alloc (.cells #[.int .i64 t.r, .int .i64 t.k, .int .i64 t.p] 27)) (w.heap.size + 1) 27 #[.int .i64 t.r, .int .i64 t.k, .int .i64 t.p] by
    have h := Blk.new (w.alloc (.cells #[.int .i64 s, .int .i64 L] 50)) 27 #[.int .i64 t.r, .int .i64 t.k, .int .i64 t.p]
    rwa [alloc_size] at h)
  have HBB := Lib.hid (below_al (below_al (Below.refl w.heap.size w) (.cells #[.int .i64 s, .int .i64 L] 50)) (.cells #[.int .i64 t.r, .int .i64 t.k, .int .i64 t.p] 27))
  have HF := Lib.hid hf
  obtain ⟨y, hy⟩ : ∃ y, y = upM s t := ⟨_, rfl⟩
  have HY := Lib.hid hy.symm
  obtain ⟨z, hz⟩ : ∃ z, z = y * L := ⟨_, rfl⟩
  have hw1 : IntKind.i64.wrap (y * L) = z := by rw [hz]; exact IntWalk.i64_in _ (by have := hf.e; have := hf.f; rw [hy]; omega)
  have hw2 : IntKind.i64.wrap (z + t.p) = a := by rw [← ha, ageM, ← hy, ← hz]; exact IntWalk.i64_in _ (by have := hf.e; have := hf.f; have := hf.g; have := hf.h; rw [hz, hy]; omega)
  clear hy hz ha hf
  go_enter Tryd.func29, Tryd.ntmps29
  go_wp2_with fail
  refine Reg.wp_slots (fun t => t == 4 || decide (5 ≤ t)) (by kernel_rfl) (by kernel_rfl) (by kernel_rfl) (fun zz => (Reg.tbl [
    (5, .is (.agg #[.int .i64 s, .int .i64 L])),
    (6, .is (.agg #[.int .i64 t.r, .int .i64 t.k, .int .i64 t.p])),
    (7, .is (.int .i64 y)),
    (8, .is (.pointer (some ⟨w.heap.size, 1, none⟩))),
    (9, .is (.int .i64 L)),
    (10, .is (.int .i64 z)),
    (11, .is (.pointer (some ⟨w.heap.size + 1, 2, none⟩))),
    (12, .is (.int .i64 t.p)),
    (13, .is (.int .i64 a)),
    (4, .is (.int .i64 a))] zz).P) (fun zz => (Reg.tbl _ zz).on) ?_ ?_
  · simp only [Reg.frame, Reg.over, Nat.reduceAdd, Nat.reduceBEq, Nat.reduceLeDiff, decide_true, decide_false, Bool.or_true, Bool.or_false, if_true, Bool.false_eq_true, if_false]
    refine ⟨?_, ?_, ?_, ?_, ?_, ?_, ?_, ?_, ?_, ?_, trivial⟩
    · intro x u hbu hd
      have s0 := (HS.out.on hbu).cell 0
      have s1 := (HS.out.on hbu).cell 1
      have sl := (HS.out.on hbu).lt
      simp only [List.getElem?_toArray, List.getElem?_cons_zero, List.getElem?_cons_succ] at s0 s1
      refine wpOp_step rfl fun K hK => ?_
      go_simp
      exact hK _ _ ⟨_, rfl, Below.refl _ _, fun d hd => by cases hd; exact rfl⟩
    · intro x u hbu hd
      have t0 := (HT.out.on hbu).cell 0
      have t1 := (HT.out.on hbu).cell 1
      have t2 := (HT.out.on hbu).cell 2
      have tl := (HT.out.on hbu).lt
      simp only [List.getElem?_toArray, List.getElem?_cons_zero, List.getElem?_cons_succ] at t0 t1 t2
      refine wpOp_step rfl fun K hK => ?_
      go_simp
      exact hK _ _ ⟨_, rfl, Below.refl _ _, fun d hd => by cases hd; exact rfl⟩
    · intro x u hbu hd
      have h5 : x 5 = .agg #[.int .i64 s, .int .i64 L] := hd 0 (by decide)
      have h6 : x 6 = .agg #[.int .i64 t.r, .int .i64 t.k, .int .i64 t.p] := hd 1 (by decide)
      refine wpOp_step rfl fun K hK => ?_
      simp only [h5, h6] at hK ⊢
      go_simp
      with_reducible refine (scUp_is s L t y HY.out _ HF.out.a HF.out.b HF.out.c HF.out.d).mono ?_
      rintro e u' ⟨rfl, hb'⟩
      exact hK _ _ ⟨_, rfl, hb', fun d hd => by cases hd; exact rfl⟩
    · intro x u hbu hd
      have s0 := (HS.out.on hbu).cell 0
      have s1 := (HS.out.on hbu).cell 1
      have sl := (HS.out.on hbu).lt
      simp only [List.getElem?_toArray, List.getElem?_cons_zero, List.getElem?_cons_succ] at s0 s1
      refine wpOp_step rfl fun K hK => ?_
      go_simp
      exact hK _ _ ⟨_, rfl, Below.refl _ _, fun d hd => by cases hd; exact rfl⟩
    · intro x u hbu hd
      have h8 : x 8 = .pointer (some ⟨w.heap.size, 1, none⟩) := hd 3 (by decide)
      have s0 := (HS.out.on hbu).cell 0
      have s1 := (HS.out.on hbu).cell 1
      have sl := (HS.out.on hbu).lt
      simp only [List.getElem?_toArray, List.getElem?_cons_zero, List.getElem?_cons_succ] at s0 s1
      refine wpOp_step rfl fun K hK => ?_
      simp only [h8] at hK ⊢
      go_simp
      exact hK _ _ ⟨_, rfl, Below.refl _ _, fun d hd => by cases hd; exact rfl⟩
    · intro x u hbu hd
      have h7 : x 7 = .int .i64 y := hd 2 (by decide)
      have h9 : x 9 = .int .i64 L := hd 4 (by decide)
      refine wpOp_step rfl fun K hK => ?_
      simp only [h7, h9] at hK ⊢
      go_simp
      exact hK _ _ ⟨_, rfl, Below.refl _ _, fun d hd => by cases hd; exact rfl⟩
    · intro x u hbu hd
      have t0 := (HT.out.on hbu).cell 0
      have t1 := (HT.out.on hbu).cell 1
      have t2 := (HT.out.on hbu).cell 2
      have tl := (HT.out.on hbu).lt
      simp only [List.getElem?_toArray, List.getElem?_cons_zero, List.getElem?_cons_succ] at t0 t1 t2
      refine wpOp_step rfl fun K hK => ?_
      go_simp
      exact hK _ _ ⟨_, rfl, Below.refl _ _, fun d hd => by cases hd; exact rfl⟩
    · intro x u hbu hd
      have h11 : x 11 = .pointer (some ⟨w.heap.size + 1, 2, none⟩) := hd 6 (by decide)
      have t0 := (HT.out.on hbu).cell 0
      have t1 := (HT.out.on hbu).cell 1
      have t2 := (HT.out.on hbu).cell 2
      have tl := (HT.out.on hbu).lt
      simp only [List.getElem?_toArray, List.getElem?_cons_zero, List.getElem?_cons_succ] at t0 t1 t2
      refine wpOp_step rfl fun K hK => ?_
      simp only [h11] at hK ⊢
      go_simp
      exact hK _ _ ⟨_, rfl, Below.refl _ _, fun d hd => by cases hd; exact rfl⟩
    · intro x u hbu hd
      have h10 : x 10 = .int .i64 z := hd 5 (by decide)
      have h12 : x 12 = .int .i64 t.p := hd 7 (by decide)
      refine wpOp_step rfl fun K hK => ?_
      simp only [h10, h12] at hK ⊢
      go_simp
      exact hK _ _ ⟨_, rfl, Below.refl _ _, fun d hd => by cases hd; exact rfl⟩
    · intro x u hbu hd
      have h13 : x 13 = .int .i64 a := hd 8 (by decide)
      refine wpOp_step rfl fun K hK => ?_
      simp only [h13] at hK ⊢
      go_simp
      exact hK _ _ ⟨_, rfl, Below.refl _ _, fun d hd => by cases hd; exact rfl⟩
  · intro x u hbu hall
    have h4 : x 4 = .int .i64 a := hall 9 (by decide)
    simp only [Reg.frame, Reg.over, Nat.reduceAdd, Nat.reduceBEq, Nat.reduceLeDiff, decide_true, decide_false, Bool.or_true, Bool.or_false, if_true, Bool.false_eq_true, if_false, h4]
    go_wp2_with fail
    go_ret
    exact ⟨rfl, below_then HBB.out hbu⟩

theorem has_out {s L : Int} {t : Tm} (h : ¬ ((0 ≤ t.k ∧ t.k < s) ∧ 0 ≤ t.p ∧ t.p < L)) : hasB s L t = false := by
  simp only [hasB, decide_eq_false_iff_not]
  exact fun ⟨h1, h2, _⟩ => h ⟨h1, h2⟩
theorem scHas_out (s L : Int) (t : Tm) (w : World) (h : ¬ ((0 ≤ t.k ∧ t.k < s) ∧ 0 ≤ t.p ∧ t.p < L)) :
    Calls Tryd.prog 28 #[.agg #[.int .i64 s, .int .i64 L], .agg #[.int .i64 t.r, .int .i64 t.k, .int .i64 t.p]] w fun e w' => e = .returned (.bool (hasB s L t)) ∧ Below w.heap.size w w' := by
  rw [has_out h]
  have HS_ := Lib.hid ((Blk.new w 50 #[.int .i64 s, .int .i64 L]).alloc (.cells #[.int .i64 t.r, .int .i64 t.k, .int .i64 t.p] 27))
  have HT_ := Lib.hid (show Blk ((w.alloc (.cells #[.int .i64 s, .int .i64 L] 50)).alloc (.cells #[.int .i64 t.r, .int .i64 t.k, .int .i64 t.p] 27)) (w.heap.size + 1) 27 #[.int .i64 t.r, .int .i64 t.k, .int .i64 t.p] by
    have h := Blk.new (w.alloc (.cells #[.int .i64 s, .int .i64 L] 50)) 27 #[.int .i64 t.r, .int .i64 t.k, .int .i64 t.p]
    rwa [alloc_size] at h)
  have HBB := Lib.hid (below_al (below_al (Below.refl w.heap.size w) (.cells #[.int .i64 s, .int .i64 L] 50)) (.cells #[.int .i64 t.r, .int .i64 t.k, .int .i64 t.p] 27))
  clear HS_ HT_
  by_cases h1 : t.k < 0
  · clear h
    go_enter Tryd.func28, Tryd.ntmps28
    go_wp2_with fail
    go_ret
    exact ⟨rfl, HBB.out⟩
  · by_cases h2 : s ≤ t.k
    · clear h
      go_enter Tryd.func28, Tryd.ntmps28
      go_wp2_with fail
      go_ret
      exact ⟨rfl, HBB.out⟩
    · by_cases h3 : t.p < 0
      · clear h
        go_enter Tryd.func28, Tryd.ntmps28
        go_wp2_with fail
        go_ret
        exact ⟨rfl, HBB.out⟩
      · have h4 : L ≤ t.p := by omega
        clear h
        go_enter Tryd.func28, Tryd.ntmps28
        go_wp2_with fail
        go_ret
        exact ⟨rfl, HBB.out⟩
set_option maxRecDepth 100000 in
theorem scHas_below (s L : Int) (t : Tm) (w : World) (hs : Sc s L) (hk : 0 ≤ t.k) (hk' : t.k < s) (hp : 0 ≤ t.p) (hp' : t.p < L) (h : t.r < 0) :
    Calls Tryd.prog 28 #[.agg #[.int .i64 s, .int .i64 L], .agg #[.int .i64 t.r, .int .i64 t.k, .int .i64 t.p]] w fun e w' => e = .returned (.bool (hasB s L t)) ∧ Below w.heap.size w w' := by
  have HS := Lib.hid ((Blk.new w 50 #[.int .i64 s, .int .i64 L]).alloc (.cells #[.int .i64 t.r, .int .i64 t.k, .int .i64 t.p] 27))
  have HT := Lib.hid (show Blk ((w.alloc (.cells #[.int .i64 s, .int .i64 L] 50)).alloc (.cells #[.int .i64 t.r, .int .i64 t.k, .int .i64 t.p] 27)) (w.heap.size + 1) 27 #[.int .i64 t.r, .int .i64 t.k, .int .i64 t.p] by
    have h := Blk.new (w.alloc (.cells #[.int .i64 s, .int .i64 L] 50)) 27 #[.int .i64 t.r, .int .i64 t.k, .int .i64 t.p]
    rwa [alloc_size] at h)
  have HBB := Lib.hid (below_al (below_al (Below.refl w.heap.size w) (.cells #[.int .i64 s, .int .i64 L] 50)) (.cells #[.int .i64 t.r, .int .i64 t.k, .int .i64 t.p] 27))
  have HH0 := Lib.hid (show ∀ b, b = false → Ending.returned (.bool b) = .returned (.bool (hasB s L t)) by
    rintro b rfl
    refine ret_bool ?_
    symm
    simp only [hasB, decide_eq_false_iff_not]
    omega)
  have hr0 : decide (0 ≤ t.r) = false := decide_eq_false (by omega)
  clear hs
  go_enter Tryd.func28, Tryd.ntmps28
  go_wp2_with fail
  refine Reg.wp_slots (fun t => t == 4 || decide (27 ≤ t)) (by kernel_rfl) (by kernel_rfl) (by kernel_rfl) (fun zz => (Reg.tbl [
    (27, .is (.pointer (some ⟨w.heap.size + 1, 0, none⟩))),
    (28, .is (.int .i64 t.r)),
    (29, .is (.bool false)),
    (30, .is (.bool false)),
    (31, .is (undef)),
    (32, .is (undef)),
    (33, .is (undef)),
    (34, .is (undef)),
    (35, .is (undef)),
    (36, .is (undef)),
    (37, .is (.bool false)),
    (38, .is (.bool false)),
    (39, .is (undef)),
    (40, .is (undef)),
    (41, .is (undef)),
    (42, .is (undef)),
    (43, .is (.bool false)),
    (4, .is (.bool false))] zz).P) (fun zz => (Reg.tbl _ zz).on) ?_ ?_
  · simp only [Reg.frame, Reg.over, Nat.reduceAdd, Nat.reduceBEq, Nat.reduceLeDiff, decide_true, decide_false, Bool.or_true, Bool.or_false, if_true, Bool.false_eq_true, if_false]
    refine ⟨?_, ?_, ?_, ?_, ?_, ?_, ?_, ?_, ?_, ?_, ?_, ?_, ?_, ?_, ?_, ?_, ?_, ?_, trivial⟩
    · intro x u hbu hd
      have t0 := (HT.out.on hbu).cell 0
      have t1 := (HT.out.on hbu).cell 1
      have t2 := (HT.out.on hbu).cell 2
      have tl := (HT.out.on hbu).lt
      simp only [List.getElem?_toArray, List.getElem?_cons_zero, List.getElem?_cons_succ] at t0 t1 t2
      refine wpOp_step rfl fun K hK => ?_
      go_simp
      exact hK _ _ ⟨_, rfl, Below.refl _ _, fun d hd => by cases hd; exact rfl⟩
    · intro x u hbu hd
      have h27 : x 27 = .pointer (some ⟨w.heap.size + 1, 0, none⟩) := hd 0 (by decide)
      have t0 := (HT.out.on hbu).cell 0
      have t1 := (HT.out.on hbu).cell 1
      have t2 := (HT.out.on hbu).cell 2
      have tl := (HT.out.on hbu).lt
      simp only [List.getElem?_toArray, List.getElem?_cons_zero, List.getElem?_cons_succ] at t0 t1 t2
      refine wpOp_step rfl fun K hK => ?_
      simp only [h27] at hK ⊢
      go_simp
      exact hK _ _ ⟨_, rfl, Below.refl _ _, fun d hd => by cases hd; exact rfl⟩
    · intro x u hbu hd
      have h28 : x 28 = .int .i64 t.r := hd 1 (by decide)
      refine wpOp_step rfl fun K hK => ?_
      simp only [h28] at hK ⊢
      go_simp
      exact hK _ _ ⟨_, rfl, Below.refl _ _, fun d hd => by cases hd; exact rfl⟩
    · intro x u hbu hd
      have h29 : x 29 = .bool false := hd 2 (by decide)
      refine wpOp_step rfl fun K hK => ?_
      simp only [h29] at hK ⊢
      go_simp
      exact hK _ _ ⟨_, rfl, Below.refl _ _, fun d hd => by cases hd; exact rfl⟩
    · intro x u hbu hd
      have h30 : x 30 = .bool false := hd 3 (by decide)
      have t0 := (HT.out.on hbu).cell 0
      have t1 := (HT.out.on hbu).cell 1
      have t2 := (HT.out.on hbu).cell 2
      have tl := (HT.out.on hbu).lt
      simp only [List.getElem?_toArray, List.getElem?_cons_zero, List.getElem?_cons_succ] at t0 t1 t2
      refine wpOp_step rfl fun K hK => ?_
      simp only [h30] at hK ⊢
      go_simp
      exact hK _ _ ⟨_, rfl, Below.refl _ _, fun d hd => by cases hd; exact rfl⟩
    · intro x u hbu hd
      have h31 : x 31 = undef := hd 4 (by decide)
      have h30 : x 30 = .bool false := hd 3 (by decide)
      have t0 := (HT.out.on hbu).cell 0
      have t1 := (HT.out.on hbu).cell 1
      have t2 := (HT.out.on hbu).cell 2
      have tl := (HT.out.on hbu).lt
      simp only [List.getElem?_toArray, List.getElem?_cons_zero, List.getElem?_cons_succ] at t0 t1 t2
      refine wpOp_step rfl fun K hK => ?_
      simp only [h31, h30] at hK ⊢
      go_simp
      exact hK _ _ ⟨_, rfl, Below.refl _ _, fun d hd => by cases hd; exact rfl⟩
    · intro x u hbu hd
      have h30 : x 30 = .bool false := hd 3 (by decide)
      have s0 := (HS.out.on hbu).cell 0
      have s1 := (HS.out.on hbu).cell 1
      have sl := (HS.out.on hbu).lt
      simp only [List.getElem?_toArray, List.getElem?_cons_zero, List.getElem?_cons_succ] at s0 s1
      refine wpOp_step rfl fun K hK => ?_
      simp only [h30] at hK ⊢
      go_simp
      exact hK _ _ ⟨_, rfl, Below.refl _ _, fun d hd => by cases hd; exact rfl⟩
    · intro x u hbu hd
      have h33 : x 33 = undef := hd 6 (by decide)
      have h30 : x 30 = .bool false := hd 3 (by decide)
      refine wpOp_step rfl fun K hK => ?_
      simp only [h33, h30] at hK ⊢
      go_simp
      exact hK _ _ ⟨_, rfl, Below.refl _ _, fun d hd => by cases hd; exact rfl⟩
    · intro x u hbu hd
      have h34 : x 34 = undef := hd 7 (by decide)
      have h30 : x 30 = .bool false := hd 3 (by decide)
      refine wpOp_step rfl fun K hK => ?_
      simp only [h34, h30] at hK ⊢
      go_simp
      exact hK _ _ ⟨_, rfl, Below.refl _ _, fun d hd => by cases hd; exact rfl⟩
    · intro x u hbu hd
      have h32 : x 32 = undef := hd 5 (by decide)
      have h35 : x 35 = undef := hd 8 (by decide)
      have h30 : x 30 = .bool false := hd 3 (by decide)
      refine wpOp_step rfl fun K hK => ?_
      simp only [h32, h35, h30] at hK ⊢
      go_simp
      exact hK _ _ ⟨_, rfl, Below.refl _ _, fun d hd => by cases hd; exact rfl⟩
    · intro x u hbu hd
      have h30 : x 30 = .bool false := hd 3 (by decide)
      have h36 : x 36 = undef := hd 9 (by decide)
      refine wpOp_step rfl fun K hK => ?_
      simp only [h30, h36] at hK ⊢
      go_simp
      exact hK _ _ ⟨_, rfl, Below.refl _ _, fun d hd => by cases hd; exact rfl⟩
    · intro x u hbu hd
      have h37 : x 37 = .bool false := hd 10 (by decide)
      refine wpOp_step rfl fun K hK => ?_
      simp only [h37] at hK ⊢
      go_simp
      exact hK _ _ ⟨_, rfl, Below.refl _ _, fun d hd => by cases hd; exact rfl⟩
    · intro x u hbu hd
      have h38 : x 38 = .bool false := hd 11 (by decide)
      have s0 := (HS.out.on hbu).cell 0
      have s1 := (HS.out.on hbu).cell 1
      have sl := (HS.out.on hbu).lt
      simp only [List.getElem?_toArray, List.getElem?_cons_zero, List.getElem?_cons_succ] at s0 s1
      refine wpOp_step rfl fun K hK => ?_
      simp only [h38] at hK ⊢
      go_simp
      exact hK _ _ ⟨_, rfl, Below.refl _ _, fun d hd => by cases hd; exact rfl⟩
    · intro x u hbu hd
      have h38 : x 38 = .bool false := hd 11 (by decide)
      have t0 := (HT.out.on hbu).cell 0
      have t1 := (HT.out.on hbu).cell 1
      have t2 := (HT.out.on hbu).cell 2
      have tl := (HT.out.on hbu).lt
      simp only [List.getElem?_toArray, List.getElem?_cons_zero, List.getElem?_cons_succ] at t0 t1 t2
      refine wpOp_step rfl fun K hK => ?_
      simp only [h38] at hK ⊢
      go_simp
      exact hK _ _ ⟨_, rfl, Below.refl _ _, fun d hd => by cases hd; exact rfl⟩
    · intro x u hbu hd
      have h39 : x 39 = undef := hd 12 (by decide)
      have h40 : x 40 = undef := hd 13 (by decide)
      have h38 : x 38 = .bool false := hd 11 (by decide)
      refine wpOp_step rfl fun K hK => ?_
      simp only [h39, h40, h38] at hK ⊢
      go_simp
      exact hK _ _ ⟨_, rfl, Below.refl _ _, fun d hd => by cases hd; exact rfl⟩
    · intro x u hbu hd
      have h41 : x 41 = undef := hd 14 (by decide)
      have h38 : x 38 = .bool false := hd 11 (by decide)
      refine wpOp_step rfl fun K hK => ?_
      simp only [h41, h38] at hK ⊢
      go_simp
      exact hK _ _ ⟨_, rfl, Below.refl _ _, fun d hd => by cases hd; exact rfl⟩
    · intro x u hbu hd
      have h38 : x 38 = .bool false := hd 11 (by decide)
      have h42 : x 42 = undef := hd 15 (by decide)
      refine wpOp_step rfl fun K hK => ?_
      simp only [h38, h42] at hK ⊢
      go_simp
      exact hK _ _ ⟨_, rfl, Below.refl _ _, fun d hd => by cases hd; exact rfl⟩
    · intro x u hbu hd
      have h43 : x 43 = .bool false := hd 16 (by decide)
      refine wpOp_step rfl fun K hK => ?_
      simp only [h43] at hK ⊢
      go_simp
      exact hK _ _ ⟨_, rfl, Below.refl _ _, fun d hd => by cases hd; exact rfl⟩
  · intro x u hbu hall
    have h4 : x 4 = .bool false := hall 17 (by decide)
    simp only [Reg.frame, Reg.over, Nat.reduceAdd, Nat.reduceBEq, Nat.reduceLeDiff, decide_true, decide_false, Bool.or_true, Bool.or_false, if_true, Bool.false_eq_true, if_false, h4]
    go_wp2_with fail
    go_ret
    exact ⟨HH0.out _ rfl, below_then HBB.out hbu⟩
set_option maxRecDepth 100000 in
theorem scHas_far (s L : Int) (t : Tm) (w : World) (hs : Sc s L) (hk : 0 ≤ t.k) (hk' : t.k < s) (hp : 0 ≤ t.p) (hp' : t.p < L) (h0 : 0 ≤ t.r) (h : 1099511627776 / (s * L) < t.r) :
    Calls Tryd.prog 28 #[.agg #[.int .i64 s, .int .i64 L], .agg #[.int .i64 t.r, .int .i64 t.k, .int .i64 t.p]] w fun e w' => e = .returned (.bool (hasB s L t)) ∧ Below w.heap.size w w' := by
  have HS := Lib.hid ((Blk.new w 50 #[.int .i64 s, .int .i64 L]).alloc (.cells #[.int .i64 t.r, .int .i64 t.k, .int .i64 t.p] 27))
  have HT := Lib.hid (show Blk ((w.alloc (.cells #[.int .i64 s, .int .i64 L] 50)).alloc (.cells #[.int .i64 t.r, .int .i64 t.k, .int .i64 t.p] 27)) (w.heap.size + 1) 27 #[.int .i64 t.r, .int .i64 t.k, .int .i64 t.p] by
    have h := Blk.new (w.alloc (.cells #[.int .i64 s, .int .i64 L] 50)) 27 #[.int .i64 t.r, .int .i64 t.k, .int .i64 t.p]
    rwa [alloc_size] at h)
  have HBB := Lib.hid (below_al (below_al (Below.refl w.heap.size w) (.cells #[.int .i64 s, .int .i64 L] 50)) (.cells #[.int .i64 t.r, .int .i64 t.k, .int .i64 t.p] 27))
  have HH0 := Lib.hid (show ∀ b, b = false → Ending.returned (.bool b) = .returned (.bool (hasB s L t)) by
    rintro b rfl
    exact ret_bool (has_far hs.s1 hs.l1 h).symm)
  have HSC := Lib.hid hs
  obtain ⟨R, hR⟩ : ∃ R, R = s * L := ⟨_, rfl⟩
  have hRb := hs.round
  rw [← hR] at h hRb
  have HR := Lib.hid hR.symm
  obtain ⟨q, hq⟩ : ∃ q, q = 1099511627776 / R := ⟨_, rfl⟩
  rw [← hq] at h
  have hq0 : 0 ≤ q := by rw [hq]; exact Int.ediv_nonneg (by omega) (by omega)
  have hq1 : q ≤ 1099511627776 := by rw [hq]; exact Int.ediv_le_self _ (by omega)
  have hd : (1099511627776 : Int).tdiv R = q := by rw [hq]; exact Int.tdiv_eq_ediv_of_nonneg (by omega)
  have hw1 : IntKind.i64.wrap q = q := IntWalk.i64_in _ (by omega)
  have hR0 : R ≠ 0 := by omega
  have hR1 : (R == 0) = false := beq_eq_false_iff_ne.2 hR0
  have hle : decide (t.r ≤ q) = false := decide_eq_false (by omega)
  clear hs hR hRb hq hq0 hq1
  go_enter Tryd.func28, Tryd.ntmps28
  go_wp2_with fail
  refine Reg.wp_slots (fun t => t == 4 || decide (27 ≤ t)) (by kernel_rfl) (by kernel_rfl) (by kernel_rfl) (fun zz => (Reg.tbl [
    (27, .is (.pointer (some ⟨w.heap.size + 1, 0, none⟩))),
    (28, .is (.int .i64 t.r)),
    (29, .is (.bool true)),
    (30, .is (.bool true)),
    (31, .is (.pointer (some ⟨w.heap.size + 1, 0, none⟩))),
    (32, .is (.int .i64 t.r)),
    (33, .is (.agg #[.int .i64 s, .int .i64 L])),
    (34, .is (.int .i64 R)),
    (35, .is (.int .i64 q)),
    (36, .is (.bool false)),
    (37, .is (.bool false)),
    (38, .is (.bool false)),
    (39, .is (undef)),
    (40, .is (undef)),
    (41, .is (undef)),
    (42, .is (undef)),
    (43, .is (.bool false)),
    (4, .is (.bool false))] zz).P) (fun zz => (Reg.tbl _ zz).on) ?_ ?_
  · simp only [Reg.frame, Reg.over, Nat.reduceAdd, Nat.reduceBEq, Nat.reduceLeDiff, decide_true, decide_false, Bool.or_true, Bool.or_false, if_true, Bool.false_eq_true, if_false]
    refine ⟨?_, ?_, ?_, ?_, ?_, ?_, ?_, ?_, ?_, ?_, ?_, ?_, ?_, ?_, ?_, ?_, ?_, ?_, trivial⟩
    · intro x u hbu hd
      have t0 := (HT.out.on hbu).cell 0
      have t1 := (HT.out.on hbu).cell 1
      have t2 := (HT.out.on hbu).cell 2
      have tl := (HT.out.on hbu).lt
      simp only [List.getElem?_toArray, List.getElem?_cons_zero, List.getElem?_cons_succ] at t0 t1 t2
      refine wpOp_step rfl fun K hK => ?_
      go_simp
      exact hK _ _ ⟨_, rfl, Below.refl _ _, fun d hd => by cases hd; exact rfl⟩
    · intro x u hbu hd
      have h27 : x 27 = .pointer (some ⟨w.heap.size + 1, 0, none⟩) := hd 0 (by decide)
      have t0 := (HT.out.on hbu).cell 0
      have t1 := (HT.out.on hbu).cell 1
      have t2 := (HT.out.on hbu).cell 2
      have tl := (HT.out.on hbu).lt
      simp only [List.getElem?_toArray, List.getElem?_cons_zero, List.getElem?_cons_succ] at t0 t1 t2
      refine wpOp_step rfl fun K hK => ?_
      simp only [h27] at hK ⊢
      go_simp
      exact hK _ _ ⟨_, rfl, Below.refl _ _, fun d hd => by cases hd; exact rfl⟩
    · intro x u hbu hd
      have h28 : x 28 = .int .i64 t.r := hd 1 (by decide)
      refine wpOp_step rfl fun K hK => ?_
      simp only [h28] at hK ⊢
      go_simp
      exact hK _ _ ⟨_, rfl, Below.refl _ _, fun d hd => by cases hd; exact rfl⟩
    · intro x u hbu hd
      have h29 : x 29 = .bool true := hd 2 (by decide)
      refine wpOp_step rfl fun K hK => ?_
      simp only [h29] at hK ⊢
      go_simp
      exact hK _ _ ⟨_, rfl, Below.refl _ _, fun d hd => by cases hd; exact rfl⟩
    · intro x u hbu hd
      have h30 : x 30 = .bool true := hd 3 (by decide)
      have t0 := (HT.out.on hbu).cell 0
      have t1 := (HT.out.on hbu).cell 1
      have t2 := (HT.out.on hbu).cell 2
      have tl := (HT.out.on hbu).lt
      simp only [List.getElem?_toArray, List.getElem?_cons_zero, List.getElem?_cons_succ] at t0 t1 t2
      refine wpOp_step rfl fun K hK => ?_
      simp only [h30] at hK ⊢
      go_simp
      exact hK _ _ ⟨_, rfl, Below.refl _ _, fun d hd => by cases hd; exact rfl⟩
    · intro x u hbu hd
      have h31 : x 31 = .pointer (some ⟨w.heap.size + 1, 0, none⟩) := hd 4 (by decide)
      have h30 : x 30 = .bool true := hd 3 (by decide)
      have t0 := (HT.out.on hbu).cell 0
      have t1 := (HT.out.on hbu).cell 1
      have t2 := (HT.out.on hbu).cell 2
      have tl := (HT.out.on hbu).lt
      simp only [List.getElem?_toArray, List.getElem?_cons_zero, List.getElem?_cons_succ] at t0 t1 t2
      refine wpOp_step rfl fun K hK => ?_
      simp only [h31, h30] at hK ⊢
      go_simp
      exact hK _ _ ⟨_, rfl, Below.refl _ _, fun d hd => by cases hd; exact rfl⟩
    · intro x u hbu hd
      have h30 : x 30 = .bool true := hd 3 (by decide)
      have s0 := (HS.out.on hbu).cell 0
      have s1 := (HS.out.on hbu).cell 1
      have sl := (HS.out.on hbu).lt
      simp only [List.getElem?_toArray, List.getElem?_cons_zero, List.getElem?_cons_succ] at s0 s1
      refine wpOp_step rfl fun K hK => ?_
      simp only [h30] at hK ⊢
      go_simp
      exact hK _ _ ⟨_, rfl, Below.refl _ _, fun d hd => by cases hd; exact rfl⟩
    · intro x u hbu hd
      have h33 : x 33 = .agg #[.int .i64 s, .int .i64 L] := hd 6 (by decide)
      have h30 : x 30 = .bool true := hd 3 (by decide)
      refine wpOp_step rfl fun K hK => ?_
      simp only [h33, h30] at hK ⊢
      go_simp
      with_reducible refine (scRound_is s L R HR.out _ HSC.out).mono ?_
      rintro e u' ⟨rfl, hb'⟩
      exact hK _ _ ⟨_, rfl, hb', fun d hd => by cases hd; exact rfl⟩
    · intro x u hbu hd
      have h34 : x 34 = .int .i64 R := hd 7 (by decide)
      have h30 : x 30 = .bool true := hd 3 (by decide)
      refine wpOp_step rfl fun K hK => ?_
      simp only [h34, h30] at hK ⊢
      go_simp
      exact hK _ _ ⟨_, rfl, Below.refl _ _, fun d hd => by cases hd; exact rfl⟩
    · intro x u hbu hd
      have h32 : x 32 = .int .i64 t.r := hd 5 (by decide)
      have h35 : x 35 = .int .i64 q := hd 8 (by decide)
      have h30 : x 30 = .bool true := hd 3 (by decide)
      refine wpOp_step rfl fun K hK => ?_
      simp only [h32, h35, h30] at hK ⊢
      go_simp
      exact hK _ _ ⟨_, rfl, Below.refl _ _, fun d hd => by cases hd; exact rfl⟩
    · intro x u hbu hd
      have h30 : x 30 = .bool true := hd 3 (by decide)
      have h36 : x 36 = .bool false := hd 9 (by decide)
      refine wpOp_step rfl fun K hK => ?_
      simp only [h30, h36] at hK ⊢
      go_simp
      exact hK _ _ ⟨_, rfl, Below.refl _ _, fun d hd => by cases hd; exact rfl⟩
    · intro x u hbu hd
      have h37 : x 37 = .bool false := hd 10 (by decide)
      refine wpOp_step rfl fun K hK => ?_
      simp only [h37] at hK ⊢
      go_simp
      exact hK _ _ ⟨_, rfl, Below.refl _ _, fun d hd => by cases hd; exact rfl⟩
    · intro x u hbu hd
      have h38 : x 38 = .bool false := hd 11 (by decide)
      have s0 := (HS.out.on hbu).cell 0
      have s1 := (HS.out.on hbu).cell 1
      have sl := (HS.out.on hbu).lt
      simp only [List.getElem?_toArray, List.getElem?_cons_zero, List.getElem?_cons_succ] at s0 s1
      refine wpOp_step rfl fun K hK => ?_
      simp only [h38] at hK ⊢
      go_simp
      exact hK _ _ ⟨_, rfl, Below.refl _ _, fun d hd => by cases hd; exact rfl⟩
    · intro x u hbu hd
      have h38 : x 38 = .bool false := hd 11 (by decide)
      have t0 := (HT.out.on hbu).cell 0
      have t1 := (HT.out.on hbu).cell 1
      have t2 := (HT.out.on hbu).cell 2
      have tl := (HT.out.on hbu).lt
      simp only [List.getElem?_toArray, List.getElem?_cons_zero, List.getElem?_cons_succ] at t0 t1 t2
      refine wpOp_step rfl fun K hK => ?_
      simp only [h38] at hK ⊢
      go_simp
      exact hK _ _ ⟨_, rfl, Below.refl _ _, fun d hd => by cases hd; exact rfl⟩
    · intro x u hbu hd
      have h39 : x 39 = undef := hd 12 (by decide)
      have h40 : x 40 = undef := hd 13 (by decide)
      have h38 : x 38 = .bool false := hd 11 (by decide)
      refine wpOp_step rfl fun K hK => ?_
      simp only [h39, h40, h38] at hK ⊢
      go_simp
      exact hK _ _ ⟨_, rfl, Below.refl _ _, fun d hd => by cases hd; exact rfl⟩
    · intro x u hbu hd
      have h41 : x 41 = undef := hd 14 (by decide)
      have h38 : x 38 = .bool false := hd 11 (by decide)
      refine wpOp_step rfl fun K hK => ?_
      simp only [h41, h38] at hK ⊢
      go_simp
      exact hK _ _ ⟨_, rfl, Below.refl _ _, fun d hd => by cases hd; exact rfl⟩
    · intro x u hbu hd
      have h38 : x 38 = .bool false := hd 11 (by decide)
      have h42 : x 42 = undef := hd 15 (by decide)
      refine wpOp_step rfl fun K hK => ?_
      simp only [h38, h42] at hK ⊢
      go_simp
      exact hK _ _ ⟨_, rfl, Below.refl _ _, fun d hd => by cases hd; exact rfl⟩
    · intro x u hbu hd
      have h43 : x 43 = .bool false := hd 16 (by decide)
      refine wpOp_step rfl fun K hK => ?_
      simp only [h43] at hK ⊢
      go_simp
      exact hK _ _ ⟨_, rfl, Below.refl _ _, fun d hd => by cases hd; exact rfl⟩
  · intro x u hbu hall
    have h4 : x 4 = .bool false := hall 17 (by decide)
    simp only [Reg.frame, Reg.over, Nat.reduceAdd, Nat.reduceBEq, Nat.reduceLeDiff, decide_true, decide_false, Bool.or_true, Bool.or_false, if_true, Bool.false_eq_true, if_false, h4]
    go_wp2_with fail
    go_ret
    exact ⟨HH0.out _ rfl, below_then HBB.out hbu⟩
set_option maxRecDepth 100000 in
theorem scHas_near (s L : Int) (t : Tm) (w : World) (hs : Sc s L) (hk : 0 ≤ t.k) (hk' : t.k < s) (hp : 0 ≤ t.p) (hp' : t.p < L) (h0 : 0 ≤ t.r) (h : t.r ≤ 1099511627776 / (s * L)) :
    Calls Tryd.prog 28 #[.agg #[.int .i64 s, .int .i64 L], .agg #[.int .i64 t.r, .int .i64 t.k, .int .i64 t.p]] w fun e w' => e = .returned (.bool (hasB s L t)) ∧ Below w.heap.size w w' := by
  have HS := Lib.hid ((Blk.new w 50 #[.int .i64 s, .int .i64 L]).alloc (.cells #[.int .i64 t.r, .int .i64 t.k, .int .i64 t.p] 27))
  have HT := Lib.hid (show Blk ((w.alloc (.cells #[.int .i64 s, .int .i64 L] 50)).alloc (.cells #[.int .i64 t.r, .int .i64 t.k, .int .i64 t.p] 27)) (w.heap.size + 1) 27 #[.int .i64 t.r, .int .i64 t.k, .int .i64 t.p] by
    have h := Blk.new (w.alloc (.cells #[.int .i64 s, .int .i64 L] 50)) 27 #[.int .i64 t.r, .int .i64 t.k, .int .i64 t.p]
    rwa [alloc_size] at h)
  have HBB := Lib.hid (below_al (below_al (Below.refl w.heap.size w) (.cells #[.int .i64 s, .int .i64 L] 50)) (.cells #[.int .i64 t.r, .int .i64 t.k, .int .i64 t.p] 27))
  have hnear := has_near hs.s1 hs.l1 h
  have hsh := short hs.l1 hk hk' hp hp'
  have hkl : 0 ≤ t.k * L := Int.mul_nonneg hk (by have := hs.l1; omega)
  have hr2 : t.r ≤ 1099511627776 := Int.le_trans h (Int.ediv_le_self _ (by omega))
  have hrs : 0 ≤ t.r * s := Int.mul_nonneg h0 (by have := hs.s1; omega)
  have hrs2 : t.r * s ≤ 1099511627776 * 65536 := Int.le_trans (Int.mul_le_mul_of_nonneg_right hr2 (by have := hs.s1; omega)) (Int.mul_le_mul_of_nonneg_left hs.s2 (by omega))
  have hRb := hs.round
  have hrR : 0 ≤ t.r * (s * L) := Int.mul_nonneg h0 (by omega)
  have hup : upM s t * L = t.r * (s * L) + t.k * L := by simp only [upM, Int.add_mul, Int.mul_assoc]
  have HF := Lib.hid (show Fit s L t from ⟨hrs, hrs2, hk, by have := hs.s2; omega, by rw [hup]; omega, by rw [hup]; omega, hp, by have := hs.l2; omega⟩)
  have HSC := Lib.hid hs
  obtain ⟨a, ha⟩ : ∃ a, a = ageM s L t := ⟨_, rfl⟩
  have HA := Lib.hid ha.symm
  obtain ⟨b, hb⟩ : ∃ b, b = Cl.isAge a := ⟨_, rfl⟩
  have HAB := Lib.hid hb.symm
  have ha0 : 0 ≤ a := by rw [ha, age_form]; omega
  have HH0 := Lib.hid (show ∀ c, c = b → Ending.returned (.bool c) = .returned (.bool (hasB s L t)) by
    rintro c rfl
    refine ret_bool ?_
    rw [hb]
    simp only [hasB, ← ha, Cl.isAge, hk, hk', hp, hp', h0, ha0, true_and])
  obtain ⟨R, hR⟩ : ∃ R, R = s * L := ⟨_, rfl⟩
  rw [← hR] at h hRb
  have HR := Lib.hid hR.symm
  obtain ⟨q, hq⟩ : ∃ q, q = 1099511627776 / R := ⟨_, rfl⟩
  rw [← hq] at h
  have hq0 : 0 ≤ q := by rw [hq]; exact Int.ediv_nonneg (by omega) (by omega)
  have hq1 : q ≤ 1099511627776 := by rw [hq]; exact Int.ediv_le_self _ (by omega)
  have hd : (1099511627776 : Int).tdiv R = q := by rw [hq]; exact Int.tdiv_eq_ediv_of_nonneg (by omega)
  have hw1 : IntKind.i64.wrap q = q := IntWalk.i64_in _ (by omega)
  have hR0 : R ≠ 0 := by omega
  have hR1 : (R == 0) = false := beq_eq_false_iff_ne.2 hR0
  have hle : decide (t.r ≤ q) = true := decide_eq_true (by omega)
  clear hs hR hRb hq hq0 hq1 hnear hsh hkl hr2 hrs hrs2 hrR hup ha hb ha0
  go_enter Tryd.func28, Tryd.ntmps28
  go_wp2_with fail
  refine Reg.wp_slots (fun t => t == 4 || decide (27 ≤ t)) (by kernel_rfl) (by kernel_rfl) (by kernel_rfl) (fun zz => (Reg.tbl [
    (27, .is (.pointer (some ⟨w.heap.size + 1, 0, none⟩))),
    (28, .is (.int .i64 t.r)),
    (29, .is (.bool true)),
    (30, .is (.bool true)),
    (31, .is (.pointer (some ⟨w.heap.size + 1, 0, none⟩))),
    (32, .is (.int .i64 t.r)),
    (33, .is (.agg #[.int .i64 s, .int .i64 L])),
    (34, .is (.int .i64 R)),
    (35, .is (.int .i64 q)),
    (36, .is (.bool true)),
    (37, .is (.bool true)),
    (38, .is (.bool true)),
    (39, .is (.agg #[.int .i64 s, .int .i64 L])),
    (40, .is (.agg #[.int .i64 t.r, .int .i64 t.k, .int .i64 t.p])),
    (41, .is (.int .i64 a)),
    (42, .is (.bool b)),
    (43, .is (.bool b)),
    (4, .is (.bool b))] zz).P) (fun zz => (Reg.tbl _ zz).on) ?_ ?_
  · simp only [Reg.frame, Reg.over, Nat.reduceAdd, Nat.reduceBEq, Nat.reduceLeDiff, decide_true, decide_false, Bool.or_true, Bool.or_false, if_true, Bool.false_eq_true, if_false]
    refine ⟨?_, ?_, ?_, ?_, ?_, ?_, ?_, ?_, ?_, ?_, ?_, ?_, ?_, ?_, ?_, ?_, ?_, ?_, trivial⟩
    · intro x u hbu hd
      have t0 := (HT.out.on hbu).cell 0
      have t1 := (HT.out.on hbu).cell 1
      have t2 := (HT.out.on hbu).cell 2
      have tl := (HT.out.on hbu).lt
      simp only [List.getElem?_toArray, List.getElem?_cons_zero, List.getElem?_cons_succ] at t0 t1 t2
      refine wpOp_step rfl fun K hK => ?_
      go_simp
      exact hK _ _ ⟨_, rfl, Below.refl _ _, fun d hd => by cases hd; exact rfl⟩
    · intro x u hbu hd
      have h27 : x 27 = .pointer (some ⟨w.heap.size + 1, 0, none⟩) := hd 0 (by decide)
      have t0 := (HT.out.on hbu).cell 0
      have t1 := (HT.out.on hbu).cell 1
      have t2 := (HT.out.on hbu).cell 2
      have tl := (HT.out.on hbu).lt
      simp only [List.getElem?_toArray, List.getElem?_cons_zero, List.getElem?_cons_succ] at t0 t1 t2
      refine wpOp_step rfl fun K hK => ?_
      simp only [h27] at hK ⊢
      go_simp
      exact hK _ _ ⟨_, rfl, Below.refl _ _, fun d hd => by cases hd; exact rfl⟩
    · intro x u hbu hd
      have h28 : x 28 = .int .i64 t.r := hd 1 (by decide)
      refine wpOp_step rfl fun K hK => ?_
      simp only [h28] at hK ⊢
      go_simp
      exact hK _ _ ⟨_, rfl, Below.refl _ _, fun d hd => by cases hd; exact rfl⟩
    · intro x u hbu hd
      have h29 : x 29 = .bool true := hd 2 (by decide)
      refine wpOp_step rfl fun K hK => ?_
      simp only [h29] at hK ⊢
      go_simp
      exact hK _ _ ⟨_, rfl, Below.refl _ _, fun d hd => by cases hd; exact rfl⟩
    · intro x u hbu hd
      have h30 : x 30 = .bool true := hd 3 (by decide)
      have t0 := (HT.out.on hbu).cell 0
      have t1 := (HT.out.on hbu).cell 1
      have t2 := (HT.out.on hbu).cell 2
      have tl := (HT.out.on hbu).lt
      simp only [List.getElem?_toArray, List.getElem?_cons_zero, List.getElem?_cons_succ] at t0 t1 t2
      refine wpOp_step rfl fun K hK => ?_
      simp only [h30] at hK ⊢
      go_simp
      exact hK _ _ ⟨_, rfl, Below.refl _ _, fun d hd => by cases hd; exact rfl⟩
    · intro x u hbu hd
      have h31 : x 31 = .pointer (some ⟨w.heap.size + 1, 0, none⟩) := hd 4 (by decide)
      have h30 : x 30 = .bool true := hd 3 (by decide)
      have t0 := (HT.out.on hbu).cell 0
      have t1 := (HT.out.on hbu).cell 1
      have t2 := (HT.out.on hbu).cell 2
      have tl := (HT.out.on hbu).lt
      simp only [List.getElem?_toArray, List.getElem?_cons_zero, List.getElem?_cons_succ] at t0 t1 t2
      refine wpOp_step rfl fun K hK => ?_
      simp only [h31, h30] at hK ⊢
      go_simp
      exact hK _ _ ⟨_, rfl, Below.refl _ _, fun d hd => by cases hd; exact rfl⟩
    · intro x u hbu hd
      have h30 : x 30 = .bool true := hd 3 (by decide)
      have s0 := (HS.out.on hbu).cell 0
      have s1 := (HS.out.on hbu).cell 1
      have sl := (HS.out.on hbu).lt
      simp only [List.getElem?_toArray, List.getElem?_cons_zero, List.getElem?_cons_succ] at s0 s1
      refine wpOp_step rfl fun K hK => ?_
      simp only [h30] at hK ⊢
      go_simp
      exact hK _ _ ⟨_, rfl, Below.refl _ _, fun d hd => by cases hd; exact rfl⟩
    · intro x u hbu hd
      have h33 : x 33 = .agg #[.int .i64 s, .int .i64 L] := hd 6 (by decide)
      have h30 : x 30 = .bool true := hd 3 (by decide)
      refine wpOp_step rfl fun K hK => ?_
      simp only [h33, h30] at hK ⊢
      go_simp
      with_reducible refine (scRound_is s L R HR.out _ HSC.out).mono ?_
      rintro e u' ⟨rfl, hb'⟩
      exact hK _ _ ⟨_, rfl, hb', fun d hd => by cases hd; exact rfl⟩
    · intro x u hbu hd
      have h34 : x 34 = .int .i64 R := hd 7 (by decide)
      have h30 : x 30 = .bool true := hd 3 (by decide)
      refine wpOp_step rfl fun K hK => ?_
      simp only [h34, h30] at hK ⊢
      go_simp
      exact hK _ _ ⟨_, rfl, Below.refl _ _, fun d hd => by cases hd; exact rfl⟩
    · intro x u hbu hd
      have h32 : x 32 = .int .i64 t.r := hd 5 (by decide)
      have h35 : x 35 = .int .i64 q := hd 8 (by decide)
      have h30 : x 30 = .bool true := hd 3 (by decide)
      refine wpOp_step rfl fun K hK => ?_
      simp only [h32, h35, h30] at hK ⊢
      go_simp
      exact hK _ _ ⟨_, rfl, Below.refl _ _, fun d hd => by cases hd; exact rfl⟩
    · intro x u hbu hd
      have h30 : x 30 = .bool true := hd 3 (by decide)
      have h36 : x 36 = .bool true := hd 9 (by decide)
      refine wpOp_step rfl fun K hK => ?_
      simp only [h30, h36] at hK ⊢
      go_simp
      exact hK _ _ ⟨_, rfl, Below.refl _ _, fun d hd => by cases hd; exact rfl⟩
    · intro x u hbu hd
      have h37 : x 37 = .bool true := hd 10 (by decide)
      refine wpOp_step rfl fun K hK => ?_
      simp only [h37] at hK ⊢
      go_simp
      exact hK _ _ ⟨_, rfl, Below.refl _ _, fun d hd => by cases hd; exact rfl⟩
    · intro x u hbu hd
      have h38 : x 38 = .bool true := hd 11 (by decide)
      have s0 := (HS.out.on hbu).cell 0
      have s1 := (HS.out.on hbu).cell 1
      have sl := (HS.out.on hbu).lt
      simp only [List.getElem?_toArray, List.getElem?_cons_zero, List.getElem?_cons_succ] at s0 s1
      refine wpOp_step rfl fun K hK => ?_
      simp only [h38] at hK ⊢
      go_simp
      exact hK _ _ ⟨_, rfl, Below.refl _ _, fun d hd => by cases hd; exact rfl⟩
    · intro x u hbu hd
      have h38 : x 38 = .bool true := hd 11 (by decide)
      have t0 := (HT.out.on hbu).cell 0
      have t1 := (HT.out.on hbu).cell 1
      have t2 := (HT.out.on hbu).cell 2
      have tl := (HT.out.on hbu).lt
      simp only [List.getElem?_toArray, List.getElem?_cons_zero, List.getElem?_cons_succ] at t0 t1 t2
      refine wpOp_step rfl fun K hK => ?_
      simp only [h38] at hK ⊢
      go_simp
      exact hK _ _ ⟨_, rfl, Below.refl _ _, fun d hd => by cases hd; exact rfl⟩
    · intro x u hbu hd
      have h39 : x 39 = .agg #[.int .i64 s, .int .i64 L] := hd 12 (by decide)
      have h40 : x 40 = .agg #[.int .i64 t.r, .int .i64 t.k, .int .i64 t.p] := hd 13 (by decide)
      have h38 : x 38 = .bool true := hd 11 (by decide)
      refine wpOp_step rfl fun K hK => ?_
      simp only [h39, h40, h38] at hK ⊢
      go_simp
      with_reducible refine (scAge_is s L t a HA.out _ HF.out).mono ?_
      rintro e u' ⟨rfl, hb'⟩
      exact hK _ _ ⟨_, rfl, hb', fun d hd => by cases hd; exact rfl⟩
    · intro x u hbu hd
      have h41 : x 41 = .int .i64 a := hd 14 (by decide)
      have h38 : x 38 = .bool true := hd 11 (by decide)
      refine wpOp_step rfl fun K hK => ?_
      simp only [h41, h38] at hK ⊢
      go_simp
      with_reducible refine (isAge_is a b HAB.out _).mono ?_
      rintro e u' ⟨rfl, hb'⟩
      exact hK _ _ ⟨_, rfl, hb', fun d hd => by cases hd; exact rfl⟩
    · intro x u hbu hd
      have h38 : x 38 = .bool true := hd 11 (by decide)
      have h42 : x 42 = .bool b := hd 15 (by decide)
      refine wpOp_step rfl fun K hK => ?_
      simp only [h38, h42] at hK ⊢
      go_simp
      exact hK _ _ ⟨_, rfl, Below.refl _ _, fun d hd => by cases hd; exact rfl⟩
    · intro x u hbu hd
      have h43 : x 43 = .bool b := hd 16 (by decide)
      refine wpOp_step rfl fun K hK => ?_
      simp only [h43] at hK ⊢
      go_simp
      exact hK _ _ ⟨_, rfl, Below.refl _ _, fun d hd => by cases hd; exact rfl⟩
  · intro x u hbu hall
    have h4 : x 4 = .bool b := hall 17 (by decide)
    simp only [Reg.frame, Reg.over, Nat.reduceAdd, Nat.reduceBEq, Nat.reduceLeDiff, decide_true, decide_false, Bool.or_true, Bool.or_false, if_true, Bool.false_eq_true, if_false, h4]
    go_wp2_with fail
    go_ret
    exact ⟨HH0.out _ rfl, below_then HBB.out hbu⟩
theorem scHas_any (s L : Int) (t : Tm) (w : World) (hs : Sc s L) :
    Calls Tryd.prog 28 #[.agg #[.int .i64 s, .int .i64 L], .agg #[.int .i64 t.r, .int .i64 t.k, .int .i64 t.p]] w fun e w' => e = .returned (.bool (hasB s L t)) ∧ Below w.heap.size w w' := by
  by_cases h : (0 ≤ t.k ∧ t.k < s) ∧ 0 ≤ t.p ∧ t.p < L
  · obtain ⟨⟨h1, h2⟩, h3, h4⟩ := h
    by_cases h5 : t.r < 0
    · exact scHas_below s L t w hs h1 h2 h3 h4 h5
    · by_cases h6 : t.r ≤ 1099511627776 / (s * L)
      · exact scHas_near s L t w hs h1 h2 h3 h4 (by omega) h6
      · exact scHas_far s L t w hs h1 h2 h3 h4 (by omega) (by omega)
  · exact scHas_out s L t w h
theorem scHas_is (s L : Int) (t : Tm) (b : Bool) (hb : hasB s L t = b) (w : World) (hs : Sc s L) :
    Calls Tryd.prog 28 #[.agg #[.int .i64 s, .int .i64 L], .agg #[.int .i64 t.r, .int .i64 t.k, .int .i64 t.p]] w fun e w' => e = .returned (.bool b) ∧ Below w.heap.size w w' := by
  subst hb; exact scHas_any s L t w hs
/-- A time that an age has is no too great one. -/
theorem fit_of {s L : Int} {t : Tm} (hs : Sc s L) (h : hasB s L t = true) : Fit s L t := by
  simp only [hasB, decide_eq_true_eq] at h
  obtain ⟨⟨hk, hk'⟩, ⟨hp, hp'⟩, hr, ha⟩ := h
  have hsh := short hs.l1 hk hk' hp hp'
  have hkl : 0 ≤ t.k * L := Int.mul_nonneg hk (by have := hs.l1; omega)
  have hRb := hs.round
  have hrR : t.r ≤ t.r * (s * L) := by
    have := Int.mul_le_mul_of_nonneg_left hRb.1 hr
    omega
  have hup : upM s t * L = t.r * (s * L) + t.k * L := by simp only [upM, Int.add_mul, Int.mul_assoc]
  rw [age_form] at ha
  have hr2 : t.r ≤ 1099511627776 := by omega
  have hrs : 0 ≤ t.r * s := Int.mul_nonneg hr (by have := hs.s1; omega)
  have hrs2 : t.r * s ≤ 1099511627776 * 65536 := Int.le_trans (Int.mul_le_mul_of_nonneg_right hr2 (by have := hs.s1; omega)) (Int.mul_le_mul_of_nonneg_left hs.s2 (by omega))
  exact ⟨hrs, hrs2, hk, by have := hs.s2; omega, by rw [hup]; omega, by rw [hup]; omega, hp, by have := hs.l2; omega⟩
end Go.Proofs.YtonddecdeeikgaaDoor
