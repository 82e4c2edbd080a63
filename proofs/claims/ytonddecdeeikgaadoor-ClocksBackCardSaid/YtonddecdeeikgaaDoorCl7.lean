/-
  The contracts of a clock's Tick, as one function of what it runs, and of its Slot. Conditions: the clock's reading; the scale's numbers are within their bounds.
-/
import Derived.Test.YtonddecdeeikgaaDoorCl6
namespace Go.Proofs.YtonddecdeeikgaaDoor
open Go.RowKit Cl
set_option linter.unusedVariables false

set_option maxRecDepth 100000 in
set_option maxHeartbeats 4000000 in
theorem tick_unmade (g : Nat) (s L : Int) (a : Int) (sure : Bool) (w : World) (hC : Clk w g s L 0 Tm.zero) :
    Calls Tryd.prog 18 #[.pointer (some ⟨g, 0, none⟩), .int .i64 a, .bool sure] w fun e w' => e = .returned (.tuple #[.agg #[.int .i64 0, .int .i64 0, .int .i64 0], .bool false]) ∧ Clk w' g s L 0 Tm.zero ∧ But g w w' := by
  have hlt := Blk.lt hC
  have hC1 := Blk.alloc hC (.cells #[.int .i64 0, .int .i64 0, .int .i64 0] 27)
  have hZ1 := Blk.new w 27 #[.int .i64 0, .int .i64 0, .int .i64 0]
  have hK1 : But g w (w.alloc (.cells #[.int .i64 0, .int .i64 0, .int .i64 0] 27)) := But.grow (Nat.le_of_lt hlt) (below_al (Below.refl _ _) _)
  have c0 := hC1.cell 0
  have c1 := hC1.cell 1
  have c2 := hC1.cell 2
  have c3 := hC1.cell 3
  have c4 := hC1.cell 4
  have c5 := hC1.cell 5
  have cl := hC1.lt
  simp only [List.getElem?_toArray, List.getElem?_cons_zero, List.getElem?_cons_succ] at c0 c1 c2 c3 c4 c5
  have f0 := hC1.frozen 0
  have f1 := hC1.frozen 1
  have f2 := hC1.frozen 2
  have f3 := hC1.frozen 3
  have f4 := hC1.frozen 4
  have f5 := hC1.frozen 5
  go_enter Tryd.func18, Tryd.ntmps18
  go_wp2_with fail
  refine wp_at (fun U => Clk U g s L 0 Tm.zero ∧ Blk U w.heap.size 27 #[.int .i64 0, .int .i64 0, .int .i64 0] ∧ But g w U) ⟨?_, ?_, ?_⟩ ?_
  · exact hC1
  · exact hZ1
  · exact hK1
  rintro U ⟨hCU, hZU, hKU⟩
  clear c0 c1 c2 c3 c4 c5 cl f0 f1 f2 f3 f4 f5
  have hCV : Blk U g 53 #[.int .i64 s, .int .i64 L, .int .i64 0, .int .i64 0, .int .i64 0, .int .i64 0] := hCU
  have c0 := hCV.cell 0
  have c1 := hCV.cell 1
  have c2 := hCV.cell 2
  have c3 := hCV.cell 3
  have c4 := hCV.cell 4
  have c5 := hCV.cell 5
  have cl := hCV.lt
  simp only [List.getElem?_toArray, List.getElem?_cons_zero, List.getElem?_cons_succ] at c0 c1 c2 c3 c4 c5
  have z0 := hZU.cell 0
  have z1 := hZU.cell 1
  have z2 := hZU.cell 2
  have zl := hZU.lt
  simp only [List.getElem?_toArray, List.getElem?_cons_zero, List.getElem?_cons_succ] at z0 z1 z2
  have f0 := hZU.frozen 0
  have f1 := hZU.frozen 1
  have f2 := hZU.frozen 2
  have hgz : g ≠ w.heap.size := Nat.ne_of_lt hlt
  go_region
  all_goals (go_wp2_with fail)
  all_goals (
    obtain ⟨x0, x1, x2⟩ := blk_three hZU (.int .i64 0) (.int .i64 0) (.int .i64 0)
    refine bodyPost_ret (v := .tuple #[.agg #[.int .i64 0, .int .i64 0, .int .i64 0], .bool false]) (by simp [results, Tryd.results18, go_sem, x0, x1, x2]) rfl ⟨rfl, ?_, ?_⟩
    · exact Blk.far3 hCU hgz
    · exact (But.late hKU (Nat.le_refl _) hlt _ _ _).drew)

/-- What a clock runs behind a tick; its time, or an empty one. -/
def begO (s L a : Int) (sure : Bool) : Option Tm := if begB s L a sure then some (timeM s L a) else none
def tickO (s L : Int) (o : Option Tm) (a : Int) (sure : Bool) : Option Tm := match o with
  | some t => if t.p + 1 < L then some ⟨t.r, t.k, t.p + 1⟩ else begO s L a sure
  | none => begO s L a sure
def tmO : Option Tm → Tm
  | some t => t
  | none => Tm.zero
def upO (s : Int) : Option Tm → Int
  | some t => upM s t
  | none => 0
def stO : Option Tm → Int
  | some _ => 2
  | none => 1
def ClkO (w : World) (g : Nat) (s L : Int) (o : Option Tm) : Prop := Clk w g s L (stO o) (tmO o)
/-- It is within its bounds. -/
def OkT (s L : Int) (t : Tm) : Prop := 0 ≤ t.r ∧ t.r ≤ 1099511627776 ∧ 0 ≤ t.k ∧ t.k < s ∧ 0 ≤ t.p ∧ t.p < L
def OkO (s L : Int) (o : Option Tm) : Prop := ∀ t, o = some t → OkT s L t
theorem begB_age {s L a : Int} {sure : Bool} (h : begB s L a sure = true) : 0 ≤ a ∧ a ≤ 1099511627776 := by
  simp [begB, Cl.isAge] at h
  omega
theorem begO_ok {s L a : Int} {sure : Bool} (hs : Sc s L) : OkO s L (begO s L a sure) := by
  intro t h
  unfold begO at h
  split at h
  · rename_i hb
    cases h
    obtain ⟨h1, h2⟩ := begB_age hb
    have := time_bd hs.s1 hs.l1 h1
    exact ⟨this.1, by omega, this.2.2.1, this.2.2.2.1, this.2.2.2.2.1, this.2.2.2.2.2⟩
  · cases h
theorem tickO_ok {s L a : Int} {o : Option Tm} {sure : Bool} (hs : Sc s L) (ho : OkO s L o) : OkO s L (tickO s L o a sure) := by
  cases o with
  | none => exact begO_ok hs
  | some t =>
    obtain ⟨h1, h2, h3, h4, h5, h6⟩ := ho t rfl
    unfold tickO
    simp only
    split
    · rename_i hp
      intro u hu
      cases hu
      exact ⟨h1, h2, h3, h4, by simp only; omega, hp⟩
    · exact begO_ok hs
theorem tick_any (g : Nat) (s L : Int) (o : Option Tm) (a : Int) (sure : Bool) (w : World) (hC : ClkO w g s L o) (hs : Sc s L) (ho : OkO s L o) :
    Calls Tryd.prog 18 #[.pointer (some ⟨g, 0, none⟩), .int .i64 a, .bool sure] w fun e w' => e = .returned (.tuple #[.agg #[.int .i64 (tmO (tickO s L o a sure)).r, .int .i64 (tmO (tickO s L o a sure)).k, .int .i64 (tmO (tickO s L o a sure)).p], .bool (tickO s L o a sure).isSome]) ∧ ClkO w' g s L (tickO s L o a sure) ∧ But g w w' := by
  cases o with
  | none =>
    simp only [tickO, begO]
    by_cases hb : begB s L a sure = true
    · rw [if_pos hb]
      obtain ⟨h1, h2⟩ := begB_age hb
      exact tick_wait_yes g s L a sure w hC hs hb _ rfl h1 h2
    · rw [if_neg hb]
      exact tick_wait_no g s L a sure w hC hs (by simpa using hb)
  | some t =>
    obtain ⟨h1, h2, h3, h4, h5, h6⟩ := ho t rfl
    simp only [tickO]
    by_cases hp : t.p + 1 < L
    · rw [if_pos hp]
      exact tick_run g s L t a sure w hC h5 hp hs.l2
    · rw [if_neg hp]
      simp only [begO]
      by_cases hb : begB s L a sure = true
      · rw [if_pos hb]
        obtain ⟨k1, k2⟩ := begB_age hb
        exact tick_last_yes g s L t a sure w hC hs h5 hp (by have := hs.l2; omega) hb _ rfl k1 k2
      · rw [if_neg hb]
        exact tick_last_no g s L t a sure w hC hs h5 hp (by have := hs.l2; omega) (by simpa using hb)
theorem tick_is (g : Nat) (s L : Int) (o : Option Tm) (a : Int) (sure : Bool) (x : Tm) (b : Bool) (o' : Option Tm) (ho' : tickO s L o a sure = o') (hx : tmO o' = x) (hb : o'.isSome = b) (w : World) (hC : ClkO w g s L o) (hs : Sc s L) (ho : OkO s L o) :
    Calls Tryd.prog 18 #[.pointer (some ⟨g, 0, none⟩), .int .i64 a, .bool sure] w fun e w' => e = .returned (.tuple #[.agg #[.int .i64 x.r, .int .i64 x.k, .int .i64 x.p], .bool b]) ∧ ClkO w' g s L o' ∧ But g w w' := by
  subst ho' hx hb; exact tick_any g s L o a sure w hC hs ho

theorem slot_nil (w : World) :
    Calls Tryd.prog 19 #[.pointer none] w fun e w' => e = .returned (.tuple #[.int .i64 0, .bool false]) ∧ Below w.heap.size w w' := by
  go_enter Tryd.func19, Tryd.ntmps19
  go_wp2_with fail
  go_ret2
  exact ⟨rfl, Below.refl _ _⟩
theorem slot_none (g : Nat) (s L st : Int) (t : Tm) (w : World) (hC : Clk w g s L st t) (h : st ≠ 2) :
    Calls Tryd.prog 19 #[.pointer (some ⟨g, 0, none⟩)] w fun e w' => e = .returned (.tuple #[.int .i64 0, .bool false]) ∧ Below w.heap.size w w' := by
  have c0 := hC.cell 0
  have c1 := hC.cell 1
  have c2 := hC.cell 2
  have c3 := hC.cell 3
  have c4 := hC.cell 4
  have c5 := hC.cell 5
  have cl := hC.lt
  simp only [List.getElem?_toArray, List.getElem?_cons_zero, List.getElem?_cons_succ] at c0 c1 c2 c3 c4 c5
  have hst : (st == 2) = false := beq_eq_false_iff_ne.2 h
  clear hC h
  go_enter Tryd.func19, Tryd.ntmps19
  go_wp2_with fail
  go_ret2
  exact ⟨rfl, Below.refl _ _⟩
set_option maxRecDepth 100000 in
theorem slot_runs (g : Nat) (s L : Int) (t : Tm) (y : Int) (hy : upM s t = y) (w : World) (hC : Clk w g s L 2 t) (h1 : 0 ≤ t.r * s) (h2 : t.r * s ≤ 1099511627776 * 65536) (h3 : 0 ≤ t.k) (h4 : t.k ≤ 65536) :
    Calls Tryd.prog 19 #[.pointer (some ⟨g, 0, none⟩)] w fun e w' => e = .returned (.tuple #[.int .i64 y, .bool true]) ∧ Below w.heap.size w w' := by
  have c0 := hC.cell 0
  have c1 := hC.cell 1
  have c2 := hC.cell 2
  have c3 := hC.cell 3
  have c4 := hC.cell 4
  have c5 := hC.cell 5
  have cl := hC.lt
  simp only [List.getElem?_toArray, List.getElem?_cons_zero, List.getElem?_cons_succ] at c0 c1 c2 c3 c4 c5
  have HC := Lib.hid hC
  have HY := Lib.hid hy
  have H1 := Lib.hid h1
  have H2 := Lib.hid h2
  have H3 := Lib.hid h3
  have H4 := Lib.hid h4
  clear hC hy h1 h2 h3 h4
  go_enter Tryd.func19, Tryd.ntmps19
  go_wp2_with fail
  clear c0 c1 c2 c3 c4 c5 cl
  refine Reg.wp_slots (fun t => t == 2 || t == 3 || decide (13 ≤ t)) (by kernel_rfl) (by kernel_rfl) (by kernel_rfl) (fun zz => (Reg.tbl [
    (13, .is (.pointer (some ⟨g, 0, none⟩))),
    (14, .is (.pointer (some ⟨g, 0, none⟩))),
    (15, .is (.pointer (some ⟨g, 0, none⟩))),
    (16, .is (.agg #[.int .i64 s, .int .i64 L])),
    (17, .is (.pointer (some ⟨g, 0, none⟩))),
    (18, .is (.pointer (some ⟨g, 0, none⟩))),
    (19, .is (.pointer (some ⟨g, 3, none⟩))),
    (20, .is (.agg #[.int .i64 t.r, .int .i64 t.k, .int .i64 t.p])),
    (21, .is (.int .i64 y)),
    (2, .is (.int .i64 y)),
    (3, .is (.bool true))] zz).P) (fun zz => (Reg.tbl _ zz).on) ?_ ?_
  · simp only [Reg.frame, Reg.over, Nat.reduceAdd, Nat.reduceBEq, Nat.reduceLeDiff, decide_true, decide_false, Bool.or_true, Bool.or_false, if_true, Bool.false_eq_true, if_false]
    refine ⟨?_, ?_, ?_, ?_, ?_, ?_, ?_, ?_, ?_, ?_, ?_, trivial⟩
    · intro x u hbu hd
      refine wpOp_step rfl fun K hK => ?_
      go_simp
      exact hK _ _ ⟨_, rfl, Below.refl _ _, fun d hd => by cases hd; exact rfl⟩
    · intro x u hbu hd
      have h13 : x 13 = .pointer (some ⟨g, 0, none⟩) := hd 0 (by decide)
      have c0 := (Blk.on HC.out hbu).cell 0
      have c1 := (Blk.on HC.out hbu).cell 1
      have c2 := (Blk.on HC.out hbu).cell 2
      have c3 := (Blk.on HC.out hbu).cell 3
      have c4 := (Blk.on HC.out hbu).cell 4
      have c5 := (Blk.on HC.out hbu).cell 5
      have cl := (Blk.on HC.out hbu).lt
      simp only [List.getElem?_toArray, List.getElem?_cons_zero, List.getElem?_cons_succ] at c0 c1 c2 c3 c4 c5
      refine wpOp_step rfl fun K hK => ?_
      simp only [h13] at hK ⊢
      go_simp
      exact hK _ _ ⟨_, rfl, Below.refl _ _, fun d hd => by cases hd; exact rfl⟩
    · intro x u hbu hd
      have h14 : x 14 = .pointer (some ⟨g, 0, none⟩) := hd 1 (by decide)
      refine wpOp_step rfl fun K hK => ?_
      simp only [h14] at hK ⊢
      go_simp
      exact hK _ _ ⟨_, rfl, Below.refl _ _, fun d hd => by cases hd; exact rfl⟩
    · intro x u hbu hd
      have h15 : x 15 = .pointer (some ⟨g, 0, none⟩) := hd 2 (by decide)
      have c0 := (Blk.on HC.out hbu).cell 0
      have c1 := (Blk.on HC.out hbu).cell 1
      have c2 := (Blk.on HC.out hbu).cell 2
      have c3 := (Blk.on HC.out hbu).cell 3
      have c4 := (Blk.on HC.out hbu).cell 4
      have c5 := (Blk.on HC.out hbu).cell 5
      have cl := (Blk.on HC.out hbu).lt
      simp only [List.getElem?_toArray, List.getElem?_cons_zero, List.getElem?_cons_succ] at c0 c1 c2 c3 c4 c5
      refine wpOp_step rfl fun K hK => ?_
      simp only [h15] at hK ⊢
      go_simp
      exact hK _ _ ⟨_, rfl, Below.refl _ _, fun d hd => by cases hd; exact rfl⟩
    · intro x u hbu hd
      refine wpOp_step rfl fun K hK => ?_
      go_simp
      exact hK _ _ ⟨_, rfl, Below.refl _ _, fun d hd => by cases hd; exact rfl⟩
    · intro x u hbu hd
      have h17 : x 17 = .pointer (some ⟨g, 0, none⟩) := hd 4 (by decide)
      have c0 := (Blk.on HC.out hbu).cell 0
      have c1 := (Blk.on HC.out hbu).cell 1
      have c2 := (Blk.on HC.out hbu).cell 2
      have c3 := (Blk.on HC.out hbu).cell 3
      have c4 := (Blk.on HC.out hbu).cell 4
      have c5 := (Blk.on HC.out hbu).cell 5
      have cl := (Blk.on HC.out hbu).lt
      simp only [List.getElem?_toArray, List.getElem?_cons_zero, List.getElem?_cons_succ] at c0 c1 c2 c3 c4 c5
      refine wpOp_step rfl fun K hK => ?_
      simp only [h17] at hK ⊢
      go_simp
      exact hK _ _ ⟨_, rfl, Below.refl _ _, fun d hd => by cases hd; exact rfl⟩
    · intro x u hbu hd
      have h18 : x 18 = .pointer (some ⟨g, 0, none⟩) := hd 5 (by decide)
      refine wpOp_step rfl fun K hK => ?_
      simp only [h18] at hK ⊢
      go_simp
      exact hK _ _ ⟨_, rfl, Below.refl _ _, fun d hd => by cases hd; exact rfl⟩
    · intro x u hbu hd
      have h19 : x 19 = .pointer (some ⟨g, 3, none⟩) := hd 6 (by decide)
      have c0 := (Blk.on HC.out hbu).cell 0
      have c1 := (Blk.on HC.out hbu).cell 1
      have c2 := (Blk.on HC.out hbu).cell 2
      have c3 := (Blk.on HC.out hbu).cell 3
      have c4 := (Blk.on HC.out hbu).cell 4
      have c5 := (Blk.on HC.out hbu).cell 5
      have cl := (Blk.on HC.out hbu).lt
      simp only [List.getElem?_toArray, List.getElem?_cons_zero, List.getElem?_cons_succ] at c0 c1 c2 c3 c4 c5
      refine wpOp_step rfl fun K hK => ?_
      simp only [h19] at hK ⊢
      go_simp
      exact hK _ _ ⟨_, rfl, Below.refl _ _, fun d hd => by cases hd; exact rfl⟩
    · intro x u hbu hd
      have h16 : x 16 = .agg #[.int .i64 s, .int .i64 L] := hd 3 (by decide)
      have h20 : x 20 = .agg #[.int .i64 t.r, .int .i64 t.k, .int .i64 t.p] := hd 7 (by decide)
      refine wpOp_step rfl fun K hK => ?_
      simp only [h16, h20] at hK ⊢
      go_simp
      with_reducible refine (scUp_is s L t y HY.out _ H1.out H2.out H3.out H4.out).mono ?_
      rintro e u' ⟨rfl, hb'⟩
      exact hK _ _ ⟨_, rfl, hb', fun d hd => by cases hd; exact rfl⟩
    · intro x u hbu hd
      have h21 : x 21 = .int .i64 y := hd 8 (by decide)
      refine wpOp_step rfl fun K hK => ?_
      simp only [h21] at hK ⊢
      go_simp
      exact hK _ _ ⟨_, rfl, Below.refl _ _, fun d hd => by cases hd; exact rfl⟩
    · intro x u hbu hd
      refine wpOp_step rfl fun K hK => ?_
      go_simp
      exact hK _ _ ⟨_, rfl, Below.refl _ _, fun d hd => by cases hd; exact rfl⟩
  · intro x u hbu hall
    have h2 : x 2 = .int .i64 y := hall 9 (by decide)
    have h3 : x 3 = .bool true := hall 10 (by decide)
    simp only [Reg.frame, Reg.over, Nat.reduceAdd, Nat.reduceBEq, Nat.reduceLeDiff, decide_true, decide_false, Bool.or_true, Bool.or_false, if_true, Bool.false_eq_true, if_false, h2, h3]
    go_wp2_with fail
    go_ret2
    exact ⟨rfl, hbu⟩
theorem slot_any (g : Nat) (s L : Int) (o : Option Tm) (w : World) (hC : ClkO w g s L o) (hs : Sc s L) (ho : OkO s L o) :
    Calls Tryd.prog 19 #[.pointer (some ⟨g, 0, none⟩)] w fun e w' => e = .returned (.tuple #[.int .i64 (upO s o), .bool o.isSome]) ∧ Below w.heap.size w w' := by
  cases o with
  | none => exact slot_none g s L 1 Tm.zero w hC (by omega)
  | some t =>
    obtain ⟨h1, h2, h3, h4, h5, h6⟩ := ho t rfl
    have hrs : 0 ≤ t.r * s := Int.mul_nonneg h1 (by omega)
    have hrs2 : t.r * s ≤ 1099511627776 * 65536 := Int.le_trans (Int.mul_le_mul_of_nonneg_right h2 (by omega)) (Int.mul_le_mul_of_nonneg_left hs.s2 (by omega))
    exact slot_runs g s L t _ rfl w hC hrs hrs2 h3 (by have := hs.s2; omega)
theorem slot_is (g : Nat) (s L : Int) (o : Option Tm) (y : Int) (b : Bool) (hy : upO s o = y) (hb : o.isSome = b) (w : World) (hC : ClkO w g s L o) (hs : Sc s L) (ho : OkO s L o) :
    Calls Tryd.prog 19 #[.pointer (some ⟨g, 0, none⟩)] w fun e w' => e = .returned (.tuple #[.int .i64 y, .bool b]) ∧ Below w.heap.size w w' := by
  subst hy hb; exact slot_any g s L o w hC hs ho
end Go.Proofs.YtonddecdeeikgaaDoor
