/-
  The document's words: the contract of the reference's Same. Conditions: the rows' reading, their tables' lengths.
-/
import Derived.Test.YtcangipaoancnaaWd9
import Derived.Test.YtcangipaoancnaaOwF
namespace Go.Proofs.Ytcangipaoancnaa
open Go.RowKit
set_option linter.unusedVariables false
set_option linter.unusedSimpArgs false

set_option maxRecDepth 100000 in
set_option maxHeartbeats 1000000 in
theorem rsaid_is (s : Sa) (w : World) : Calls Try.prog 102 #[.agg (saL s).toArray] w fun e w' => e = .returned (.agg (saL (plS s)).toArray) ∧ Below w.heap.size w w' := by
  have HS : Hid (plS s = if (s.i && ((decide (0 ≤ s.a) && decide (s.a ≤ 1099511627776)) && (s.k == 1 || s.k == 2))) = true then s else saN) := Lib.hid rfl
  have HB : Hid (∀ Z : Array Value, Below w.heap.size w ((w.alloc (.cells (saL s).toArray 42)).alloc (.cells Z 42))) := Lib.hid (fun Z => below_al (below_al (Below.refl _ w) _) _)
  obtain ⟨i, a, k, s', q, v⟩ := s
  show Calls Try.prog 102 #[.agg #[.bool i, .int .i64 a, .int .u8 k, .int .u8 s', .int .u32 q, .int .u32 v]] w _
  have HN : Hid (∀ b : Bool, b = false → (i && ((decide (0 ≤ a) && decide (a ≤ 1099511627776)) && (k == 1 || k == 2))) = b → plS ⟨i, a, k, s', q, v⟩ = saN) := Lib.hid (fun b hb e => by rw [HS.out]; show (if (i && _) = true then _ else _) = _; rw [e, hb]; rfl)
  have HY : Hid (∀ b : Bool, b = true → (i && ((decide (0 ≤ a) && decide (a ≤ 1099511627776)) && (k == 1 || k == 2))) = b → plS ⟨i, a, k, s', q, v⟩ = ⟨i, a, k, s', q, v⟩) := Lib.hid (fun b hb e => by rw [HS.out]; show (if (i && _) = true then _ else _) = _; rw [e, hb]; rfl)
  clear HS
  cases i
  · go_enter Try.func102, Try.ntmps102
    go_wp2_with fail
    rw [HN.out _ rfl (by rfl)]
    exact bodyPost_ret (v := .agg (saL saN).toArray) (by simp [results, Try.results102, go_sem, saL, saN]) rfl ⟨rfl, by simpa [saL] using HB.out _⟩
  by_cases h0 : 0 ≤ a
  · by_cases h1 : a ≤ 1099511627776
    · by_cases k1 : k = 1
      · subst k1
        go_enter Try.func102, Try.ntmps102
        go_wp2_with fail
        rw [HY.out _ rfl (by simp [h0, h1])]
        exact bodyPost_ret (v := .agg (saL ⟨true, a, 1, s', q, v⟩).toArray) (by simp [results, Try.results102, go_sem, saL]) rfl ⟨rfl, by simpa [saL] using HB.out _⟩
      · have e1 : (k == 1) = false := by simpa using k1
        by_cases k2 : k = 2
        · subst k2
          go_enter Try.func102, Try.ntmps102
          go_wp2_with fail
          rw [HY.out _ rfl (by simp [h0, h1])]
          exact bodyPost_ret (v := .agg (saL ⟨true, a, 2, s', q, v⟩).toArray) (by simp [results, Try.results102, go_sem, saL]) rfl ⟨rfl, by simpa [saL] using HB.out _⟩
        · have e2 : (k == 2) = false := by simpa using k2
          go_enter Try.func102, Try.ntmps102
          go_wp2_with fail
          rw [HN.out _ rfl (by simp [e1, e2])]
          exact bodyPost_ret (v := .agg (saL saN).toArray) (by simp [results, Try.results102, go_sem, saL, saN]) rfl ⟨rfl, by simpa [saL] using HB.out _⟩
    · go_enter Try.func102, Try.ntmps102
      go_wp2_with fail
      rw [HN.out _ rfl (by rw [decide_eq_false (show ¬ a ≤ 1099511627776 by omega)]; simp)]
      exact bodyPost_ret (v := .agg (saL saN).toArray) (by simp [results, Try.results102, go_sem, saL, saN]) rfl ⟨rfl, by simpa [saL] using HB.out _⟩
  · go_enter Try.func102, Try.ntmps102
    go_wp2_with fail
    rw [HN.out _ rfl (by rw [decide_eq_false (show ¬ 0 ≤ a by omega)]; simp)]
    exact bodyPost_ret (v := .agg (saL saN).toArray) (by simp [results, Try.results102, go_sem, saL, saN]) rfl ⟨rfl, by simpa [saL] using HB.out _⟩
theorem ce_c (c : Ce) : (ceL c)[53]? = some (.int .i8 c.v.c) := by
  unfold ceL
  rw [List.getElem?_cons_succ, List.getElem?_append_right (by rw [saL_len]; omega), saL_len, List.getElem?_append_right (by rw [saL_len]; omega), saL_len]
  exact vw_c c.v
theorem ce_d (c : Ce) : (ceL c)[54]? = some (.int .u8 c.v.d) := by
  unfold ceL
  rw [List.getElem?_cons_succ, List.getElem?_append_right (by rw [saL_len]; omega), saL_len, List.getElem?_append_right (by rw [saL_len]; omega), saL_len]
  exact vw_d c.v
theorem ce_setC (c : Ce) (x : Int) : (ceL c).set 53 (.int .i8 x) = ceL { c with v := { c.v with c := x } } := by
  unfold ceL
  rw [List.set_cons_succ, List.set_append_right _ _ (by rw [saL_len]; omega), saL_len, List.set_append_right _ _ (by rw [saL_len]; omega), saL_len]
  exact congrArg (fun l => Value.int .i64 c.a :: (saL c.o ++ (saL c.r ++ l))) (vw_setC c.v x)
theorem ce_setD (c : Ce) (x : Int) : (ceL c).set 54 (.int .u8 x) = ceL { c with v := { c.v with d := x } } := by
  unfold ceL
  rw [List.set_cons_succ, List.set_append_right _ _ (by rw [saL_len]; omega), saL_len, List.set_append_right _ _ (by rw [saL_len]; omega), saL_len]
  exact congrArg (fun l => Value.int .i64 c.a :: (saL c.o ++ (saL c.r ++ l))) (vw_setD c.v x)
def RC (w : World) (c : Ce) (U : World) : Prop := PIn U w.heap.size 0 51 [] [] (ceL c) ∧ (∃ Z : List Value, Z.length = 55 ∧ PIn U (w.heap.size + 1) 0 51 [] [] Z) ∧ Below w.heap.size w U
theorem RC.turn {w U V : World} {c d : Ce} (h : RC w c U) (p : PIn V w.heap.size 0 51 [] [] (ceL d)) (b : But w.heap.size U V) : RC w d V := by
  obtain ⟨h1, ⟨Z, h2, h3⟩, h4⟩ := h
  exact ⟨p, ⟨Z, h2, h3.but b (by omega)⟩, h4.trans (b.low (Nat.le_refl _))⟩
theorem RC.on {w U V : World} {c : Ce} (h : RC w c U) (b : Below U.heap.size U V) : RC w c V := by
  obtain ⟨h1, ⟨Z, h2, h3⟩, h4⟩ := h
  exact ⟨h1.on b, ⟨Z, h2, h3.on b⟩, below_then h4 b⟩
theorem RC.start (w : World) (c : Ce) (Z : Array Value) (hZ : Z.size = 55) : RC w c ((w.alloc (.cells (ceL c).toArray 51)).alloc (.cells Z 51)) := by
  have := Boxed.mk_ w 51 51 (ceL c) Z 55 hZ
  exact ⟨this.x.pin, this.res, this.b⟩
set_option maxRecDepth 100000 in
theorem size_sa : (Try.prog.info? 42).map (·.size) = some 6 := by kernel_rfl
set_option maxRecDepth 100000 in
set_option maxHeartbeats 4000000 in
theorem rcell_is (c : Ce) (w : World) : Calls Try.prog 85 #[.agg (ceL c).toArray] w fun e w' => e = .returned (.agg (ceL (plC c)).toArray) ∧ Below w.heap.size w w' := by
  have HE : Hid (({ { { { c with a := plA1 c.a } with o := plS c.o } with r := plS c.r } with v := plV c.v } : Ce) = plC c) := Lib.hid rfl
  go_enter Try.func85, Try.ntmps85
  go_upto_region 1 with fail
  refine wp_at (RC w c) (RC.start _ _ _ rfl) ?_
  intro U hU
  have c0 : U.cell? ⟨w.heap.size, 0, none⟩ = some (.int .i64 c.a) := (hU.1.cell0 (by simp [ceL_len])).trans rfl
  have f0 := hU.1.frozen 0
  have l0 := hU.1.lt
  have HU := Lib.hid hU
  have HA : Hid (∀ y, y = plA1 c.a → RC w { c with a := plA1 c.a } (U.setCell ⟨w.heap.size, 0, none⟩ (.int .i64 y))) := Lib.hid (fun y hy => by subst hy; exact hU.turn ((hU.1.set_ 0 _ (by simp [ceL_len])).cs rfl) (But.one 0 _))
  clear hU
  obtain ⟨x, hx⟩ : ∃ x, x = c.a := ⟨_, rfl⟩
  have HX := Lib.hid hx
  rw [← hx] at c0
  clear hx
  have stage : ∀ W, RC w { c with a := plA1 c.a } W → True := fun _ _ => trivial
  clear stage
  by_cases h0 : x < 0
  · go_upto_region 3 with fail
    refine wp_at (RC w { c with a := plA1 c.a }) (HA.out _ (by rw [← HX.out]; unfold plA1 tmB; rw [decide_eq_false (by omega)]; rfl)) ?_
    clear c0 f0 l0 HU HA
    generalize hya : plA1 c.a = ya
    intro U1 hU1
    obtain ⟨d, hd⟩ : ∃ d : Ce, d = { c with a := ya } := ⟨_, rfl⟩
    rw [← hd] at hU1
    have HYA := Lib.hid hya
    have HD := Lib.hid hd
    clear hya hd
    have hp2 := PIn.part (P := [.int .i64 d.a]) (M := saL d.o) (S := saL d.r ++ vwL d.v) (o := 1) hU1.1 rfl
    have HP2 := Lib.hid hp2
    have HU2 := Lib.hid hU1
    have hl2 := hU1.1.lt
    clear hp2 hU1
    go_upto_region 4 with (first
      | (refine wpList_load_pin rfl 42 (.tmp 12) rfl HP2.out (by simp [Act.eval]) _ Try.underlying42 rfl 6 size_sa rfl ?_)
      | (go_at_call 102; (with_reducible refine (rsaid_is _ _).mono ?_); rintro e w1 ⟨rfl, b1⟩; have hl1 := (HP2.out.on b1).lt)
      | (refine wpList_store_pin rfl 42 (.tmp 15) (.tmp 14) rfl (HP2.out.on b1) (saL (plS d.o)) (by simp [Act.eval]) (by simp [Act.eval]) 6 size_sa rfl rfl (saL_one _) ?_; intro w2 p2 b2))
    refine wp_at (RC w { d with o := plS d.o }) ((HU2.out.on b1).turn (PIn.whole (P := [.int .i64 d.a]) (S := saL d.r ++ vwL d.v) p2 rfl) b2) ?_
    clear HP2 HU2 p2 b2 b1 hl1 hl2
    generalize hyo : plS d.o = y2
    intro U2 hU2
    obtain ⟨d2, hd2⟩ : ∃ d2 : Ce, d2 = { d with o := y2 } := ⟨_, rfl⟩
    rw [← hd2] at hU2
    have HYO := Lib.hid hyo
    have HD2 := Lib.hid hd2
    clear hyo hd2
    have hp3 := PIn.part (P := .int .i64 d2.a :: saL d2.o) (M := saL d2.r) (S := vwL d2.v) (o := 7) hU2.1 rfl
    have HP3 := Lib.hid hp3
    have HU3 := Lib.hid hU2
    have hl3 := hU2.1.lt
    clear hp3 hU2
    go_upto_region 5 with (first
      | (refine wpList_load_pin rfl 42 (.tmp 16) rfl HP3.out (by simp [Act.eval]) _ Try.underlying42 rfl 6 size_sa rfl ?_)
      | (go_at_call 102; (with_reducible refine (rsaid_is _ _).mono ?_); rintro e w1 ⟨rfl, b1⟩; have hl1 := (HP3.out.on b1).lt)
      | (refine wpList_store_pin rfl 42 (.tmp 19) (.tmp 18) rfl (HP3.out.on b1) (saL (plS d2.r)) (by simp [Act.eval]) (by simp [Act.eval]) 6 size_sa rfl rfl (saL_one _) ?_; intro w2 p2 b2))
    refine wp_at (RC w { d2 with r := plS d2.r }) ((HU3.out.on b1).turn (PIn.whole (P := .int .i64 d2.a :: saL d2.o) (S := vwL d2.v) p2 rfl) b2) ?_
    clear HP3 HU3 p2 b2 b1 hl1 hl3
    generalize hyr : plS d2.r = y3
    intro U3 hU3
    obtain ⟨d3, hd3⟩ : ∃ d3 : Ce, d3 = { d2 with r := y3 } := ⟨_, rfl⟩
    rw [← hd3] at hU3
    have HYR := Lib.hid hyr
    have HD3 := Lib.hid hd3
    clear hyr hd3
    have c53 : U3.cell? ⟨w.heap.size, 53, none⟩ = some (.int .i8 d3.v.c) := by have := hU3.1.cell 53 (by simp [ceL_len]); rw [Nat.zero_add] at this; rw [this, ce_c]
    have c54 : U3.cell? ⟨w.heap.size, 54, none⟩ = some (.int .u8 d3.v.d) := by have := hU3.1.cell 54 (by simp [ceL_len]); rw [Nat.zero_add] at this; rw [this, ce_d]
    have hA1 : PIn (U3.setCell ⟨w.heap.size, 53, none⟩ (.int .i8 (-1))) w.heap.size 0 51 [] [] (ceL { d3 with v := { d3.v with c := -1 } }) := by
      have := hU3.1.set_ 53 (.int .i8 (-1)) (by simp [ceL_len])
      rwa [Nat.zero_add, ce_setC] at this
    have c54' : (U3.setCell ⟨w.heap.size, 53, none⟩ (.int .i8 (-1))).cell? ⟨w.heap.size, 54, none⟩ = some (.int .u8 d3.v.d) := by have := hA1.cell 54 (by simp [ceL_len]); rw [Nat.zero_add] at this; rw [this, ce_d]
    have f53 := hU3.1.frozen 53
    have f54 := hU3.1.frozen 54
    have f54' := hA1.frozen 54
    have l3 := hU3.1.lt
    have HA := Lib.hid (hU3.turn hA1 (But.one 53 _))
    have HAB : Hid (RC w { d3 with v := { d3.v with c := -1, d := 0 } } ((U3.setCell ⟨w.heap.size, 53, none⟩ (.int .i8 (-1))).setCell ⟨w.heap.size, 54, none⟩ (.int .u8 0))) := Lib.hid ((hU3.turn hA1 (But.one 53 _)).turn (by have := hA1.set_ 54 (.int .u8 0) (by simp [ceL_len]); rwa [Nat.zero_add, ce_setD] at this) (But.one 54 _))
    have HB : Hid (RC w { d3 with v := { d3.v with d := 0 } } (U3.setCell ⟨w.heap.size, 54, none⟩ (.int .u8 0))) := Lib.hid (hU3.turn (by have := hU3.1.set_ 54 (.int .u8 0) (by simp [ceL_len]); rwa [Nat.zero_add, ce_setD] at this) (But.one 54 _))
    have HU3 := Lib.hid hU3
    obtain ⟨p, hp⟩ : ∃ p, p = d3.v.c := ⟨_, rfl⟩
    obtain ⟨q, hq⟩ : ∃ q, q = d3.v.d := ⟨_, rfl⟩
    have HP := Lib.hid hp
    have HQ := Lib.hid hq
    rw [← hp] at c53
    rw [← hq] at c54 c54'
    clear hU3 hA1 hp hq
    by_cases g0 : p < 0
    · by_cases h7 : 7 < q
      · go_upto_region 9 with fail
        refine wp_at (RC w { d3 with v := plV d3.v }) (by rw [show plV d3.v = { d3.v with c := -1, d := 0 } from by unfold plV; rw [show plC1 d3.v.c = -1 by rw [← HP.out]; unfold plC1; rw [decide_eq_true (show p < 0 by omega)]; rfl, show plD1 d3.v.d = 0 by rw [← HQ.out]; unfold plD1; rw [decide_eq_true (show 7 < q by omega)]; rfl]]; exact HAB.out) ?_
        clear c53 c54 c54' f53 f54 f54' l3 HA HAB HB HU3
        intro U4 hU4
        obtain ⟨q1, ⟨Z, q2, q3⟩, q4⟩ := hU4
        have HQ1 := Lib.hid q1
        have HQ2 := Lib.hid q2
        have HQ3 := Lib.hid q3
        have HQ4 := Lib.hid q4
        have hl4 := q1.lt
        clear q1 q2 q3 q4
        refine wp_region_lit ?_
        go_wp2_with (first
          | (refine wpList_load_pin rfl 51 (.tmp 1) rfl HQ1.out (by simp [Act.eval]) _ Try.underlying51 rfl 55 size_ce (ceL_len _) ?_)
          | (refine wpList_store_pin rfl 51 (.tmp 2) (.tmp 38) rfl HQ3.out (ceL { d3 with v := plV d3.v }) (by simp [Act.eval, Act.put]) (by simp [Act.eval, Act.put]) 55 size_ce HQ2.out (ceL_len _) (ceL_one _) ?_; intro w3 p3 b3))
        have hld := p3.var 51 _ Try.underlying51 rfl 55 size_ce (ceL_len _)
        have he : ({ d3 with v := plV d3.v } : Ce) = plC c := by rw [HD3.out, ← HYR.out, HD2.out, ← HYO.out, HD.out, ← HYA.out]; exact HE.out
        rw [he] at hld
        exact bodyPost_ret (v := .agg (ceL (plC c)).toArray) (by simp [results, Try.results85, asAddr, Act.put, hld]) rfl ⟨rfl, HQ4.out.trans (b3.low (Nat.le_succ _))⟩
      · go_upto_region 9 with fail
        refine wp_at (RC w { d3 with v := plV d3.v }) (by rw [show plV d3.v = { d3.v with c := -1 } from by unfold plV; rw [show plC1 d3.v.c = -1 by rw [← HP.out]; unfold plC1; rw [decide_eq_true (show p < 0 by omega)]; rfl, show plD1 d3.v.d = d3.v.d by rw [← HQ.out]; unfold plD1; rw [decide_eq_false (show ¬ 7 < q by omega)]; rfl]]; exact HA.out) ?_
        clear c53 c54 c54' f53 f54 f54' l3 HA HAB HB HU3
        intro U4 hU4
        obtain ⟨q1, ⟨Z, q2, q3⟩, q4⟩ := hU4
        have HQ1 := Lib.hid q1
        have HQ2 := Lib.hid q2
        have HQ3 := Lib.hid q3
        have HQ4 := Lib.hid q4
        have hl4 := q1.lt
        clear q1 q2 q3 q4
        refine wp_region_lit ?_
        go_wp2_with (first
          | (refine wpList_load_pin rfl 51 (.tmp 1) rfl HQ1.out (by simp [Act.eval]) _ Try.underlying51 rfl 55 size_ce (ceL_len _) ?_)
          | (refine wpList_store_pin rfl 51 (.tmp 2) (.tmp 38) rfl HQ3.out (ceL { d3 with v := plV d3.v }) (by simp [Act.eval, Act.put]) (by simp [Act.eval, Act.put]) 55 size_ce HQ2.out (ceL_len _) (ceL_one _) ?_; intro w3 p3 b3))
        have hld := p3.var 51 _ Try.underlying51 rfl 55 size_ce (ceL_len _)
        have he : ({ d3 with v := plV d3.v } : Ce) = plC c := by rw [HD3.out, ← HYR.out, HD2.out, ← HYO.out, HD.out, ← HYA.out]; exact HE.out
        rw [he] at hld
        exact bodyPost_ret (v := .agg (ceL (plC c)).toArray) (by simp [results, Try.results85, asAddr, Act.put, hld]) rfl ⟨rfl, HQ4.out.trans (b3.low (Nat.le_succ _))⟩
    by_cases g8 : 8 ≤ p
    · by_cases h7 : 7 < q
      · go_upto_region 9 with fail
        refine wp_at (RC w { d3 with v := plV d3.v }) (by rw [show plV d3.v = { d3.v with c := -1, d := 0 } from by unfold plV; rw [show plC1 d3.v.c = -1 by rw [← HP.out]; unfold plC1; rw [decide_eq_true (show 8 ≤ p by omega), Bool.or_true]; rfl, show plD1 d3.v.d = 0 by rw [← HQ.out]; unfold plD1; rw [decide_eq_true (show 7 < q by omega)]; rfl]]; exact HAB.out) ?_
        clear c53 c54 c54' f53 f54 f54' l3 HA HAB HB HU3
        intro U4 hU4
        obtain ⟨q1, ⟨Z, q2, q3⟩, q4⟩ := hU4
        have HQ1 := Lib.hid q1
        have HQ2 := Lib.hid q2
        have HQ3 := Lib.hid q3
        have HQ4 := Lib.hid q4
        have hl4 := q1.lt
        clear q1 q2 q3 q4
        refine wp_region_lit ?_
        go_wp2_with (first
          | (refine wpList_load_pin rfl 51 (.tmp 1) rfl HQ1.out (by simp [Act.eval]) _ Try.underlying51 rfl 55 size_ce (ceL_len _) ?_)
          | (refine wpList_store_pin rfl 51 (.tmp 2) (.tmp 38) rfl HQ3.out (ceL { d3 with v := plV d3.v }) (by simp [Act.eval, Act.put]) (by simp [Act.eval, Act.put]) 55 size_ce HQ2.out (ceL_len _) (ceL_one _) ?_; intro w3 p3 b3))
        have hld := p3.var 51 _ Try.underlying51 rfl 55 size_ce (ceL_len _)
        have he : ({ d3 with v := plV d3.v } : Ce) = plC c := by rw [HD3.out, ← HYR.out, HD2.out, ← HYO.out, HD.out, ← HYA.out]; exact HE.out
        rw [he] at hld
        exact bodyPost_ret (v := .agg (ceL (plC c)).toArray) (by simp [results, Try.results85, asAddr, Act.put, hld]) rfl ⟨rfl, HQ4.out.trans (b3.low (Nat.le_succ _))⟩
      · go_upto_region 9 with fail
        refine wp_at (RC w { d3 with v := plV d3.v }) (by rw [show plV d3.v = { d3.v with c := -1 } from by unfold plV; rw [show plC1 d3.v.c = -1 by rw [← HP.out]; unfold plC1; rw [decide_eq_true (show 8 ≤ p by omega), Bool.or_true]; rfl, show plD1 d3.v.d = d3.v.d by rw [← HQ.out]; unfold plD1; rw [decide_eq_false (show ¬ 7 < q by omega)]; rfl]]; exact HA.out) ?_
        clear c53 c54 c54' f53 f54 f54' l3 HA HAB HB HU3
        intro U4 hU4
        obtain ⟨q1, ⟨Z, q2, q3⟩, q4⟩ := hU4
        have HQ1 := Lib.hid q1
        have HQ2 := Lib.hid q2
        have HQ3 := Lib.hid q3
        have HQ4 := Lib.hid q4
        have hl4 := q1.lt
        clear q1 q2 q3 q4
        refine wp_region_lit ?_
        go_wp2_with (first
          | (refine wpList_load_pin rfl 51 (.tmp 1) rfl HQ1.out (by simp [Act.eval]) _ Try.underlying51 rfl 55 size_ce (ceL_len _) ?_)
          | (refine wpList_store_pin rfl 51 (.tmp 2) (.tmp 38) rfl HQ3.out (ceL { d3 with v := plV d3.v }) (by simp [Act.eval, Act.put]) (by simp [Act.eval, Act.put]) 55 size_ce HQ2.out (ceL_len _) (ceL_one _) ?_; intro w3 p3 b3))
        have hld := p3.var 51 _ Try.underlying51 rfl 55 size_ce (ceL_len _)
        have he : ({ d3 with v := plV d3.v } : Ce) = plC c := by rw [HD3.out, ← HYR.out, HD2.out, ← HYO.out, HD.out, ← HYA.out]; exact HE.out
        rw [he] at hld
        exact bodyPost_ret (v := .agg (ceL (plC c)).toArray) (by simp [results, Try.results85, asAddr, Act.put, hld]) rfl ⟨rfl, HQ4.out.trans (b3.low (Nat.le_succ _))⟩
    · by_cases h7 : 7 < q
      · go_upto_region 9 with fail
        refine wp_at (RC w { d3 with v := plV d3.v }) (by rw [show plV d3.v = { d3.v with d := 0 } from by unfold plV; rw [show plC1 d3.v.c = d3.v.c by rw [← HP.out]; unfold plC1; rw [decide_eq_false (show ¬ p < 0 by omega), decide_eq_false (show ¬ 8 ≤ p by omega)]; rfl, show plD1 d3.v.d = 0 by rw [← HQ.out]; unfold plD1; rw [decide_eq_true (show 7 < q by omega)]; rfl]]; exact HB.out) ?_
        clear c53 c54 c54' f53 f54 f54' l3 HA HAB HB HU3
        intro U4 hU4
        obtain ⟨q1, ⟨Z, q2, q3⟩, q4⟩ := hU4
        have HQ1 := Lib.hid q1
        have HQ2 := Lib.hid q2
        have HQ3 := Lib.hid q3
        have HQ4 := Lib.hid q4
        have hl4 := q1.lt
        clear q1 q2 q3 q4
        refine wp_region_lit ?_
        go_wp2_with (first
          | (refine wpList_load_pin rfl 51 (.tmp 1) rfl HQ1.out (by simp [Act.eval]) _ Try.underlying51 rfl 55 size_ce (ceL_len _) ?_)
          | (refine wpList_store_pin rfl 51 (.tmp 2) (.tmp 38) rfl HQ3.out (ceL { d3 with v := plV d3.v }) (by simp [Act.eval, Act.put]) (by simp [Act.eval, Act.put]) 55 size_ce HQ2.out (ceL_len _) (ceL_one _) ?_; intro w3 p3 b3))
        have hld := p3.var 51 _ Try.underlying51 rfl 55 size_ce (ceL_len _)
        have he : ({ d3 with v := plV d3.v } : Ce) = plC c := by rw [HD3.out, ← HYR.out, HD2.out, ← HYO.out, HD.out, ← HYA.out]; exact HE.out
        rw [he] at hld
        exact bodyPost_ret (v := .agg (ceL (plC c)).toArray) (by simp [results, Try.results85, asAddr, Act.put, hld]) rfl ⟨rfl, HQ4.out.trans (b3.low (Nat.le_succ _))⟩
      · go_upto_region 9 with fail
        refine wp_at (RC w { d3 with v := plV d3.v }) (by rw [show plV d3.v = d3.v from by unfold plV; rw [show plC1 d3.v.c = d3.v.c by rw [← HP.out]; unfold plC1; rw [decide_eq_false (show ¬ p < 0 by omega), decide_eq_false (show ¬ 8 ≤ p by omega)]; rfl, show plD1 d3.v.d = d3.v.d by rw [← HQ.out]; unfold plD1; rw [decide_eq_false (show ¬ 7 < q by omega)]; rfl]]; exact HU3.out) ?_
        clear c53 c54 c54' f53 f54 f54' l3 HA HAB HB HU3
        intro U4 hU4
        obtain ⟨q1, ⟨Z, q2, q3⟩, q4⟩ := hU4
        have HQ1 := Lib.hid q1
        have HQ2 := Lib.hid q2
        have HQ3 := Lib.hid q3
        have HQ4 := Lib.hid q4
        have hl4 := q1.lt
        clear q1 q2 q3 q4
        refine wp_region_lit ?_
        go_wp2_with (first
          | (refine wpList_load_pin rfl 51 (.tmp 1) rfl HQ1.out (by simp [Act.eval]) _ Try.underlying51 rfl 55 size_ce (ceL_len _) ?_)
          | (refine wpList_store_pin rfl 51 (.tmp 2) (.tmp 38) rfl HQ3.out (ceL { d3 with v := plV d3.v }) (by simp [Act.eval, Act.put]) (by simp [Act.eval, Act.put]) 55 size_ce HQ2.out (ceL_len _) (ceL_one _) ?_; intro w3 p3 b3))
        have hld := p3.var 51 _ Try.underlying51 rfl 55 size_ce (ceL_len _)
        have he : ({ d3 with v := plV d3.v } : Ce) = plC c := by rw [HD3.out, ← HYR.out, HD2.out, ← HYO.out, HD.out, ← HYA.out]; exact HE.out
        rw [he] at hld
        exact bodyPost_ret (v := .agg (ceL (plC c)).toArray) (by simp [results, Try.results85, asAddr, Act.put, hld]) rfl ⟨rfl, HQ4.out.trans (b3.low (Nat.le_succ _))⟩
  by_cases h1 : 1099511627776 < x
  · go_upto_region 3 with fail
    refine wp_at (RC w { c with a := plA1 c.a }) (HA.out _ (by rw [← HX.out]; unfold plA1 tmB; rw [decide_eq_false (show ¬ x ≤ 1099511627776 by omega), Bool.and_false]; rfl)) ?_
    clear c0 f0 l0 HU HA
    generalize hya : plA1 c.a = ya
    intro U1 hU1
    obtain ⟨d, hd⟩ : ∃ d : Ce, d = { c with a := ya } := ⟨_, rfl⟩
    rw [← hd] at hU1
    have HYA := Lib.hid hya
    have HD := Lib.hid hd
    clear hya hd
    have hp2 := PIn.part (P := [.int .i64 d.a]) (M := saL d.o) (S := saL d.r ++ vwL d.v) (o := 1) hU1.1 rfl
    have HP2 := Lib.hid hp2
    have HU2 := Lib.hid hU1
    have hl2 := hU1.1.lt
    clear hp2 hU1
    go_upto_region 4 with (first
      | (refine wpList_load_pin rfl 42 (.tmp 12) rfl HP2.out (by simp [Act.eval]) _ Try.underlying42 rfl 6 size_sa rfl ?_)
      | (go_at_call 102; (with_reducible refine (rsaid_is _ _).mono ?_); rintro e w1 ⟨rfl, b1⟩; have hl1 := (HP2.out.on b1).lt)
      | (refine wpList_store_pin rfl 42 (.tmp 15) (.tmp 14) rfl (HP2.out.on b1) (saL (plS d.o)) (by simp [Act.eval]) (by simp [Act.eval]) 6 size_sa rfl rfl (saL_one _) ?_; intro w2 p2 b2))
    refine wp_at (RC w { d with o := plS d.o }) ((HU2.out.on b1).turn (PIn.whole (P := [.int .i64 d.a]) (S := saL d.r ++ vwL d.v) p2 rfl) b2) ?_
    clear HP2 HU2 p2 b2 b1 hl1 hl2
    generalize hyo : plS d.o = y2
    intro U2 hU2
    obtain ⟨d2, hd2⟩ : ∃ d2 : Ce, d2 = { d with o := y2 } := ⟨_, rfl⟩
    rw [← hd2] at hU2
    have HYO := Lib.hid hyo
    have HD2 := Lib.hid hd2
    clear hyo hd2
    have hp3 := PIn.part (P := .int .i64 d2.a :: saL d2.o) (M := saL d2.r) (S := vwL d2.v) (o := 7) hU2.1 rfl
    have HP3 := Lib.hid hp3
    have HU3 := Lib.hid hU2
    have hl3 := hU2.1.lt
    clear hp3 hU2
    go_upto_region 5 with (first
      | (refine wpList_load_pin rfl 42 (.tmp 16) rfl HP3.out (by simp [Act.eval]) _ Try.underlying42 rfl 6 size_sa rfl ?_)
      | (go_at_call 102; (with_reducible refine (rsaid_is _ _).mono ?_); rintro e w1 ⟨rfl, b1⟩; have hl1 := (HP3.out.on b1).lt)
      | (refine wpList_store_pin rfl 42 (.tmp 19) (.tmp 18) rfl (HP3.out.on b1) (saL (plS d2.r)) (by simp [Act.eval]) (by simp [Act.eval]) 6 size_sa rfl rfl (saL_one _) ?_; intro w2 p2 b2))
    refine wp_at (RC w { d2 with r := plS d2.r }) ((HU3.out.on b1).turn (PIn.whole (P := .int .i64 d2.a :: saL d2.o) (S := vwL d2.v) p2 rfl) b2) ?_
    clear HP3 HU3 p2 b2 b1 hl1 hl3
    generalize hyr : plS d2.r = y3
    intro U3 hU3
    obtain ⟨d3, hd3⟩ : ∃ d3 : Ce, d3 = { d2 with r := y3 } := ⟨_, rfl⟩
    rw [← hd3] at hU3
    have HYR := Lib.hid hyr
    have HD3 := Lib.hid hd3
    clear hyr hd3
    have c53 : U3.cell? ⟨w.heap.size, 53, none⟩ = some (.int .i8 d3.v.c) := by have := hU3.1.cell 53 (by simp [ceL_len]); rw [Nat.zero_add] at this; rw [this, ce_c]
    have c54 : U3.cell? ⟨w.heap.size, 54, none⟩ = some (.int .u8 d3.v.d) := by have := hU3.1.cell 54 (by simp [ceL_len]); rw [Nat.zero_add] at this; rw [this, ce_d]
    have hA1 : PIn (U3.setCell ⟨w.heap.size, 53, none⟩ (.int .i8 (-1))) w.heap.size 0 51 [] [] (ceL { d3 with v := { d3.v with c := -1 } }) := by
      have := hU3.1.set_ 53 (.int .i8 (-1)) (by simp [ceL_len])
      rwa [Nat.zero_add, ce_setC] at this
    have c54' : (U3.setCell ⟨w.heap.size, 53, none⟩ (.int .i8 (-1))).cell? ⟨w.heap.size, 54, none⟩ = some (.int .u8 d3.v.d) := by have := hA1.cell 54 (by simp [ceL_len]); rw [Nat.zero_add] at this; rw [this, ce_d]
    have f53 := hU3.1.frozen 53
    have f54 := hU3.1.frozen 54
    have f54' := hA1.frozen 54
    have l3 := hU3.1.lt
    have HA := Lib.hid (hU3.turn hA1 (But.one 53 _))
    have HAB : Hid (RC w { d3 with v := { d3.v with c := -1, d := 0 } } ((U3.setCell ⟨w.heap.size, 53, none⟩ (.int .i8 (-1))).setCell ⟨w.heap.size, 54, none⟩ (.int .u8 0))) := Lib.hid ((hU3.turn hA1 (But.one 53 _)).turn (by have := hA1.set_ 54 (.int .u8 0) (by simp [ceL_len]); rwa [Nat.zero_add, ce_setD] at this) (But.one 54 _))
    have HB : Hid (RC w { d3 with v := { d3.v with d := 0 } } (U3.setCell ⟨w.heap.size, 54, none⟩ (.int .u8 0))) := Lib.hid (hU3.turn (by have := hU3.1.set_ 54 (.int .u8 0) (by simp [ceL_len]); rwa [Nat.zero_add, ce_setD] at this) (But.one 54 _))
    have HU3 := Lib.hid hU3
    obtain ⟨p, hp⟩ : ∃ p, p = d3.v.c := ⟨_, rfl⟩
    obtain ⟨q, hq⟩ : ∃ q, q = d3.v.d := ⟨_, rfl⟩
    have HP := Lib.hid hp
    have HQ := Lib.hid hq
    rw [← hp] at c53
    rw [← hq] at c54 c54'
    clear hU3 hA1 hp hq
    by_cases g0 : p < 0
    · by_cases h7 : 7 < q
      · go_upto_region 9 with fail
        refine wp_at (RC w { d3 with v := plV d3.v }) (by rw [show plV d3.v = { d3.v with c := -1, d := 0 } from by unfold plV; rw [show plC1 d3.v.c = -1 by rw [← HP.out]; unfold plC1; rw [decide_eq_true (show p < 0 by omega)]; rfl, show plD1 d3.v.d = 0 by rw [← HQ.out]; unfold plD1; rw [decide_eq_true (show 7 < q by omega)]; rfl]]; exact HAB.out) ?_
        clear c53 c54 c54' f53 f54 f54' l3 HA HAB HB HU3
        intro U4 hU4
        obtain ⟨q1, ⟨Z, q2, q3⟩, q4⟩ := hU4
        have HQ1 := Lib.hid q1
        have HQ2 := Lib.hid q2
        have HQ3 := Lib.hid q3
        have HQ4 := Lib.hid q4
        have hl4 := q1.lt
        clear q1 q2 q3 q4
        refine wp_region_lit ?_
        go_wp2_with (first
          | (refine wpList_load_pin rfl 51 (.tmp 1) rfl HQ1.out (by simp [Act.eval]) _ Try.underlying51 rfl 55 size_ce (ceL_len _) ?_)
          | (refine wpList_store_pin rfl 51 (.tmp 2) (.tmp 38) rfl HQ3.out (ceL { d3 with v := plV d3.v }) (by simp [Act.eval, Act.put]) (by simp [Act.eval, Act.put]) 55 size_ce HQ2.out (ceL_len _) (ceL_one _) ?_; intro w3 p3 b3))
        have hld := p3.var 51 _ Try.underlying51 rfl 55 size_ce (ceL_len _)
        have he : ({ d3 with v := plV d3.v } : Ce) = plC c := by rw [HD3.out, ← HYR.out, HD2.out, ← HYO.out, HD.out, ← HYA.out]; exact HE.out
        rw [he] at hld
        exact bodyPost_ret (v := .agg (ceL (plC c)).toArray) (by simp [results, Try.results85, asAddr, Act.put, hld]) rfl ⟨rfl, HQ4.out.trans (b3.low (Nat.le_succ _))⟩
      · go_upto_region 9 with fail
        refine wp_at (RC w { d3 with v := plV d3.v }) (by rw [show plV d3.v = { d3.v with c := -1 } from by unfold plV; rw [show plC1 d3.v.c = -1 by rw [← HP.out]; unfold plC1; rw [decide_eq_true (show p < 0 by omega)]; rfl, show plD1 d3.v.d = d3.v.d by rw [← HQ.out]; unfold plD1; rw [decide_eq_false (show ¬ 7 < q by omega)]; rfl]]; exact HA.out) ?_
        clear c53 c54 c54' f53 f54 f54' l3 HA HAB HB HU3
        intro U4 hU4
        obtain ⟨q1, ⟨Z, q2, q3⟩, q4⟩ := hU4
        have HQ1 := Lib.hid q1
        have HQ2 := Lib.hid q2
        have HQ3 := Lib.hid q3
        have HQ4 := Lib.hid q4
        have hl4 := q1.lt
        clear q1 q2 q3 q4
        refine wp_region_lit ?_
        go_wp2_with (first
          | (refine wpList_load_pin rfl 51 (.tmp 1) rfl HQ1.out (by simp [Act.eval]) _ Try.underlying51 rfl 55 size_ce (ceL_len _) ?_)
          | (refine wpList_store_pin rfl 51 (.tmp 2) (.tmp 38) rfl HQ3.out (ceL { d3 with v := plV d3.v }) (by simp [Act.eval, Act.put]) (by simp [Act.eval, Act.put]) 55 size_ce HQ2.out (ceL_len _) (ceL_one _) ?_; intro w3 p3 b3))
        have hld := p3.var 51 _ Try.underlying51 rfl 55 size_ce (ceL_len _)
        have he : ({ d3 with v := plV d3.v } : Ce) = plC c := by rw [HD3.out, ← HYR.out, HD2.out, ← HYO.out, HD.out, ← HYA.out]; exact HE.out
        rw [he] at hld
        exact bodyPost_ret (v := .agg (ceL (plC c)).toArray) (by simp [results, Try.results85, asAddr, Act.put, hld]) rfl ⟨rfl, HQ4.out.trans (b3.low (Nat.le_succ _))⟩
    by_cases g8 : 8 ≤ p
    · by_cases h7 : 7 < q
      · go_upto_region 9 with fail
        refine wp_at (RC w { d3 with v := plV d3.v }) (by rw [show plV d3.v = { d3.v with c := -1, d := 0 } from by unfold plV; rw [show plC1 d3.v.c = -1 by rw [← HP.out]; unfold plC1; rw [decide_eq_true (show 8 ≤ p by omega), Bool.or_true]; rfl, show plD1 d3.v.d = 0 by rw [← HQ.out]; unfold plD1; rw [decide_eq_true (show 7 < q by omega)]; rfl]]; exact HAB.out) ?_
        clear c53 c54 c54' f53 f54 f54' l3 HA HAB HB HU3
        intro U4 hU4
        obtain ⟨q1, ⟨Z, q2, q3⟩, q4⟩ := hU4
        have HQ1 := Lib.hid q1
        have HQ2 := Lib.hid q2
        have HQ3 := Lib.hid q3
        have HQ4 := Lib.hid q4
        have hl4 := q1.lt
        clear q1 q2 q3 q4
        refine wp_region_lit ?_
        go_wp2_with (first
          | (refine wpList_load_pin rfl 51 (.tmp 1) rfl HQ1.out (by simp [Act.eval]) _ Try.underlying51 rfl 55 size_ce (ceL_len _) ?_)
          | (refine wpList_store_pin rfl 51 (.tmp 2) (.tmp 38) rfl HQ3.out (ceL { d3 with v := plV d3.v }) (by simp [Act.eval, Act.put]) (by simp [Act.eval, Act.put]) 55 size_ce HQ2.out (ceL_len _) (ceL_one _) ?_; intro w3 p3 b3))
        have hld := p3.var 51 _ Try.underlying51 rfl 55 size_ce (ceL_len _)
        have he : ({ d3 with v := plV d3.v } : Ce) = plC c := by rw [HD3.out, ← HYR.out, HD2.out, ← HYO.out, HD.out, ← HYA.out]; exact HE.out
        rw [he] at hld
        exact bodyPost_ret (v := .agg (ceL (plC c)).toArray) (by simp [results, Try.results85, asAddr, Act.put, hld]) rfl ⟨rfl, HQ4.out.trans (b3.low (Nat.le_succ _))⟩
      · go_upto_region 9 with fail
        refine wp_at (RC w { d3 with v := plV d3.v }) (by rw [show plV d3.v = { d3.v with c := -1 } from by unfold plV; rw [show plC1 d3.v.c = -1 by rw [← HP.out]; unfold plC1; rw [decide_eq_true (show 8 ≤ p by omega), Bool.or_true]; rfl, show plD1 d3.v.d = d3.v.d by rw [← HQ.out]; unfold plD1; rw [decide_eq_false (show ¬ 7 < q by omega)]; rfl]]; exact HA.out) ?_
        clear c53 c54 c54' f53 f54 f54' l3 HA HAB HB HU3
        intro U4 hU4
        obtain ⟨q1, ⟨Z, q2, q3⟩, q4⟩ := hU4
        have HQ1 := Lib.hid q1
        have HQ2 := Lib.hid q2
        have HQ3 := Lib.hid q3
        have HQ4 := Lib.hid q4
        have hl4 := q1.lt
        clear q1 q2 q3 q4
        refine wp_region_lit ?_
        go_wp2_with (first
          | (refine wpList_load_pin rfl 51 (.tmp 1) rfl HQ1.out (by simp [Act.eval]) _ Try.underlying51 rfl 55 size_ce (ceL_len _) ?_)
          | (refine wpList_store_pin rfl 51 (.tmp 2) (.tmp 38) rfl HQ3.out (ceL { d3 with v := plV d3.v }) (by simp [Act.eval, Act.put]) (by simp [Act.eval, Act.put]) 55 size_ce HQ2.out (ceL_len _) (ceL_one _) ?_; intro w3 p3 b3))
        have hld := p3.var 51 _ Try.underlying51 rfl 55 size_ce (ceL_len _)
        have he : ({ d3 with v := plV d3.v } : Ce) = plC c := by rw [HD3.out, ← HYR.out, HD2.out, ← HYO.out, HD.out, ← HYA.out]; exact HE.out
        rw [he] at hld
        exact bodyPost_ret (v := .agg (ceL (plC c)).toArray) (by simp [results, Try.results85, asAddr, Act.put, hld]) rfl ⟨rfl, HQ4.out.trans (b3.low (Nat.le_succ _))⟩
    · by_cases h7 : 7 < q
      · go_upto_region 9 with fail
        refine wp_at (RC w { d3 with v := plV d3.v }) (by rw [show plV d3.v = { d3.v with d := 0 } from by unfold plV; rw [show plC1 d3.v.c = d3.v.c by rw [← HP.out]; unfold plC1; rw [decide_eq_false (show ¬ p < 0 by omega), decide_eq_false (show ¬ 8 ≤ p by omega)]; rfl, show plD1 d3.v.d = 0 by rw [← HQ.out]; unfold plD1; rw [decide_eq_true (show 7 < q by omega)]; rfl]]; exact HB.out) ?_
        clear c53 c54 c54' f53 f54 f54' l3 HA HAB HB HU3
        intro U4 hU4
        obtain ⟨q1, ⟨Z, q2, q3⟩, q4⟩ := hU4
        have HQ1 := Lib.hid q1
        have HQ2 := Lib.hid q2
        have HQ3 := Lib.hid q3
        have HQ4 := Lib.hid q4
        have hl4 := q1.lt
        clear q1 q2 q3 q4
        refine wp_region_lit ?_
        go_wp2_with (first
          | (refine wpList_load_pin rfl 51 (.tmp 1) rfl HQ1.out (by simp [Act.eval]) _ Try.underlying51 rfl 55 size_ce (ceL_len _) ?_)
          | (refine wpList_store_pin rfl 51 (.tmp 2) (.tmp 38) rfl HQ3.out (ceL { d3 with v := plV d3.v }) (by simp [Act.eval, Act.put]) (by simp [Act.eval, Act.put]) 55 size_ce HQ2.out (ceL_len _) (ceL_one _) ?_; intro w3 p3 b3))
        have hld := p3.var 51 _ Try.underlying51 rfl 55 size_ce (ceL_len _)
        have he : ({ d3 with v := plV d3.v } : Ce) = plC c := by rw [HD3.out, ← HYR.out, HD2.out, ← HYO.out, HD.out, ← HYA.out]; exact HE.out
        rw [he] at hld
        exact bodyPost_ret (v := .agg (ceL (plC c)).toArray) (by simp [results, Try.results85, asAddr, Act.put, hld]) rfl ⟨rfl, HQ4.out.trans (b3.low (Nat.le_succ _))⟩
      · go_upto_region 9 with fail
        refine wp_at (RC w { d3 with v := plV d3.v }) (by rw [show plV d3.v = d3.v from by unfold plV; rw [show plC1 d3.v.c = d3.v.c by rw [← HP.out]; unfold plC1; rw [decide_eq_false (show ¬ p < 0 by omega), decide_eq_false (show ¬ 8 ≤ p by omega)]; rfl, show plD1 d3.v.d = d3.v.d by rw [← HQ.out]; unfold plD1; rw [decide_eq_false (show ¬ 7 < q by omega)]; rfl]]; exact HU3.out) ?_
        clear c53 c54 c54' f53 f54 f54' l3 HA HAB HB HU3
        intro U4 hU4
        obtain ⟨q1, ⟨Z, q2, q3⟩, q4⟩ := hU4
        have HQ1 := Lib.hid q1
        have HQ2 := Lib.hid q2
        have HQ3 := Lib.hid q3
        have HQ4 := Lib.hid q4
        have hl4 := q1.lt
        clear q1 q2 q3 q4
        refine wp_region_lit ?_
        go_wp2_with (first
          | (refine wpList_load_pin rfl 51 (.tmp 1) rfl HQ1.out (by simp [Act.eval]) _ Try.underlying51 rfl 55 size_ce (ceL_len _) ?_)
          | (refine wpList_store_pin rfl 51 (.tmp 2) (.tmp 38) rfl HQ3.out (ceL { d3 with v := plV d3.v }) (by simp [Act.eval, Act.put]) (by simp [Act.eval, Act.put]) 55 size_ce HQ2.out (ceL_len _) (ceL_one _) ?_; intro w3 p3 b3))
        have hld := p3.var 51 _ Try.underlying51 rfl 55 size_ce (ceL_len _)
        have he : ({ d3 with v := plV d3.v } : Ce) = plC c := by rw [HD3.out, ← HYR.out, HD2.out, ← HYO.out, HD.out, ← HYA.out]; exact HE.out
        rw [he] at hld
        exact bodyPost_ret (v := .agg (ceL (plC c)).toArray) (by simp [results, Try.results85, asAddr, Act.put, hld]) rfl ⟨rfl, HQ4.out.trans (b3.low (Nat.le_succ _))⟩
  · go_upto_region 3 with fail
    refine wp_at (RC w { c with a := plA1 c.a }) (by rw [show plA1 c.a = c.a by rw [← HX.out]; unfold plA1 tmB; rw [decide_eq_true (show 0 ≤ x by omega), decide_eq_true (show x ≤ 1099511627776 by omega)]; rfl]; exact HU.out) ?_
    clear c0 f0 l0 HU HA
    generalize hya : plA1 c.a = ya
    intro U1 hU1
    obtain ⟨d, hd⟩ : ∃ d : Ce, d = { c with a := ya } := ⟨_, rfl⟩
    rw [← hd] at hU1
    have HYA := Lib.hid hya
    have HD := Lib.hid hd
    clear hya hd
    have hp2 := PIn.part (P := [.int .i64 d.a]) (M := saL d.o) (S := saL d.r ++ vwL d.v) (o := 1) hU1.1 rfl
    have HP2 := Lib.hid hp2
    have HU2 := Lib.hid hU1
    have hl2 := hU1.1.lt
    clear hp2 hU1
    go_upto_region 4 with (first
      | (refine wpList_load_pin rfl 42 (.tmp 12) rfl HP2.out (by simp [Act.eval]) _ Try.underlying42 rfl 6 size_sa rfl ?_)
      | (go_at_call 102; (with_reducible refine (rsaid_is _ _).mono ?_); rintro e w1 ⟨rfl, b1⟩; have hl1 := (HP2.out.on b1).lt)
      | (refine wpList_store_pin rfl 42 (.tmp 15) (.tmp 14) rfl (HP2.out.on b1) (saL (plS d.o)) (by simp [Act.eval]) (by simp [Act.eval]) 6 size_sa rfl rfl (saL_one _) ?_; intro w2 p2 b2))
    refine wp_at (RC w { d with o := plS d.o }) ((HU2.out.on b1).turn (PIn.whole (P := [.int .i64 d.a]) (S := saL d.r ++ vwL d.v) p2 rfl) b2) ?_
    clear HP2 HU2 p2 b2 b1 hl1 hl2
    generalize hyo : plS d.o = y2
    intro U2 hU2
    obtain ⟨d2, hd2⟩ : ∃ d2 : Ce, d2 = { d with o := y2 } := ⟨_, rfl⟩
    rw [← hd2] at hU2
    have HYO := Lib.hid hyo
    have HD2 := Lib.hid hd2
    clear hyo hd2
    have hp3 := PIn.part (P := .int .i64 d2.a :: saL d2.o) (M := saL d2.r) (S := vwL d2.v) (o := 7) hU2.1 rfl
    have HP3 := Lib.hid hp3
    have HU3 := Lib.hid hU2
    have hl3 := hU2.1.lt
    clear hp3 hU2
    go_upto_region 5 with (first
      | (refine wpList_load_pin rfl 42 (.tmp 16) rfl HP3.out (by simp [Act.eval]) _ Try.underlying42 rfl 6 size_sa rfl ?_)
      | (go_at_call 102; (with_reducible refine (rsaid_is _ _).mono ?_); rintro e w1 ⟨rfl, b1⟩; have hl1 := (HP3.out.on b1).lt)
      | (refine wpList_store_pin rfl 42 (.tmp 19) (.tmp 18) rfl (HP3.out.on b1) (saL (plS d2.r)) (by simp [Act.eval]) (by simp [Act.eval]) 6 size_sa rfl rfl (saL_one _) ?_; intro w2 p2 b2))
    refine wp_at (RC w { d2 with r := plS d2.r }) ((HU3.out.on b1).turn (PIn.whole (P := .int .i64 d2.a :: saL d2.o) (S := vwL d2.v) p2 rfl) b2) ?_
    clear HP3 HU3 p2 b2 b1 hl1 hl3
    generalize hyr : plS d2.r = y3
    intro U3 hU3
    obtain ⟨d3, hd3⟩ : ∃ d3 : Ce, d3 = { d2 with r := y3 } := ⟨_, rfl⟩
    rw [← hd3] at hU3
    have HYR := Lib.hid hyr
    have HD3 := Lib.hid hd3
    clear hyr hd3
    have c53 : U3.cell? ⟨w.heap.size, 53, none⟩ = some (.int .i8 d3.v.c) := by have := hU3.1.cell 53 (by simp [ceL_len]); rw [Nat.zero_add] at this; rw [this, ce_c]
    have c54 : U3.cell? ⟨w.heap.size, 54, none⟩ = some (.int .u8 d3.v.d) := by have := hU3.1.cell 54 (by simp [ceL_len]); rw [Nat.zero_add] at this; rw [this, ce_d]
    have hA1 : PIn (U3.setCell ⟨w.heap.size, 53, none⟩ (.int .i8 (-1))) w.heap.size 0 51 [] [] (ceL { d3 with v := { d3.v with c := -1 } }) := by
      have := hU3.1.set_ 53 (.int .i8 (-1)) (by simp [ceL_len])
      rwa [Nat.zero_add, ce_setC] at this
    have c54' : (U3.setCell ⟨w.heap.size, 53, none⟩ (.int .i8 (-1))).cell? ⟨w.heap.size, 54, none⟩ = some (.int .u8 d3.v.d) := by have := hA1.cell 54 (by simp [ceL_len]); rw [Nat.zero_add] at this; rw [this, ce_d]
    have f53 := hU3.1.frozen 53
    have f54 := hU3.1.frozen 54
    have f54' := hA1.frozen 54
    have l3 := hU3.1.lt
    have HA := Lib.hid (hU3.turn hA1 (But.one 53 _))
    have HAB : Hid (RC w { d3 with v := { d3.v with c := -1, d := 0 } } ((U3.setCell ⟨w.heap.size, 53, none⟩ (.int .i8 (-1))).setCell ⟨w.heap.size, 54, none⟩ (.int .u8 0))) := Lib.hid ((hU3.turn hA1 (But.one 53 _)).turn (by have := hA1.set_ 54 (.int .u8 0) (by simp [ceL_len]); rwa [Nat.zero_add, ce_setD] at this) (But.one 54 _))
    have HB : Hid (RC w { d3 with v := { d3.v with d := 0 } } (U3.setCell ⟨w.heap.size, 54, none⟩ (.int .u8 0))) := Lib.hid (hU3.turn (by have := hU3.1.set_ 54 (.int .u8 0) (by simp [ceL_len]); rwa [Nat.zero_add, ce_setD] at this) (But.one 54 _))
    have HU3 := Lib.hid hU3
    obtain ⟨p, hp⟩ : ∃ p, p = d3.v.c := ⟨_, rfl⟩
    obtain ⟨q, hq⟩ : ∃ q, q = d3.v.d := ⟨_, rfl⟩
    have HP := Lib.hid hp
    have HQ := Lib.hid hq
    rw [← hp] at c53
    rw [← hq] at c54 c54'
    clear hU3 hA1 hp hq
    by_cases g0 : p < 0
    · by_cases h7 : 7 < q
      · go_upto_region 9 with fail
        refine wp_at (RC w { d3 with v := plV d3.v }) (by rw [show plV d3.v = { d3.v with c := -1, d := 0 } from by unfold plV; rw [show plC1 d3.v.c = -1 by rw [← HP.out]; unfold plC1; rw [decide_eq_true (show p < 0 by omega)]; rfl, show plD1 d3.v.d = 0 by rw [← HQ.out]; unfold plD1; rw [decide_eq_true (show 7 < q by omega)]; rfl]]; exact HAB.out) ?_
        clear c53 c54 c54' f53 f54 f54' l3 HA HAB HB HU3
        intro U4 hU4
        obtain ⟨q1, ⟨Z, q2, q3⟩, q4⟩ := hU4
        have HQ1 := Lib.hid q1
        have HQ2 := Lib.hid q2
        have HQ3 := Lib.hid q3
        have HQ4 := Lib.hid q4
        have hl4 := q1.lt
        clear q1 q2 q3 q4
        refine wp_region_lit ?_
        go_wp2_with (first
          | (refine wpList_load_pin rfl 51 (.tmp 1) rfl HQ1.out (by simp [Act.eval]) _ Try.underlying51 rfl 55 size_ce (ceL_len _) ?_)
          | (refine wpList_store_pin rfl 51 (.tmp 2) (.tmp 38) rfl HQ3.out (ceL { d3 with v := plV d3.v }) (by simp [Act.eval, Act.put]) (by simp [Act.eval, Act.put]) 55 size_ce HQ2.out (ceL_len _) (ceL_one _) ?_; intro w3 p3 b3))
        have hld := p3.var 51 _ Try.underlying51 rfl 55 size_ce (ceL_len _)
        have he : ({ d3 with v := plV d3.v } : Ce) = plC c := by rw [HD3.out, ← HYR.out, HD2.out, ← HYO.out, HD.out, ← HYA.out]; exact HE.out
        rw [he] at hld
        exact bodyPost_ret (v := .agg (ceL (plC c)).toArray) (by simp [results, Try.results85, asAddr, Act.put, hld]) rfl ⟨rfl, HQ4.out.trans (b3.low (Nat.le_succ _))⟩
      · go_upto_region 9 with fail
        refine wp_at (RC w { d3 with v := plV d3.v }) (by rw [show plV d3.v = { d3.v with c := -1 } from by unfold plV; rw [show plC1 d3.v.c = -1 by rw [← HP.out]; unfold plC1; rw [decide_eq_true (show p < 0 by omega)]; rfl, show plD1 d3.v.d = d3.v.d by rw [← HQ.out]; unfold plD1; rw [decide_eq_false (show ¬ 7 < q by omega)]; rfl]]; exact HA.out) ?_
        clear c53 c54 c54' f53 f54 f54' l3 HA HAB HB HU3
        intro U4 hU4
        obtain ⟨q1, ⟨Z, q2, q3⟩, q4⟩ := hU4
        have HQ1 := Lib.hid q1
        have HQ2 := Lib.hid q2
        have HQ3 := Lib.hid q3
        have HQ4 := Lib.hid q4
        have hl4 := q1.lt
        clear q1 q2 q3 q4
        refine wp_region_lit ?_
        go_wp2_with (first
          | (refine wpList_load_pin rfl 51 (.tmp 1) rfl HQ1.out (by simp [Act.eval]) _ Try.underlying51 rfl 55 size_ce (ceL_len _) ?_)
          | (refine wpList_store_pin rfl 51 (.tmp 2) (.tmp 38) rfl HQ3.out (ceL { d3 with v := plV d3.v }) (by simp [Act.eval, Act.put]) (by simp [Act.eval, Act.put]) 55 size_ce HQ2.out (ceL_len _) (ceL_one _) ?_; intro w3 p3 b3))
        have hld := p3.var 51 _ Try.underlying51 rfl 55 size_ce (ceL_len _)
        have he : ({ d3 with v := plV d3.v } : Ce) = plC c := by rw [HD3.out, ← HYR.out, HD2.out, ← HYO.out, HD.out, ← HYA.out]; exact HE.out
        rw [he] at hld
        exact bodyPost_ret (v := .agg (ceL (plC c)).toArray) (by simp [results, Try.results85, asAddr, Act.put, hld]) rfl ⟨rfl, HQ4.out.trans (b3.low (Nat.le_succ _))⟩
    by_cases g8 : 8 ≤ p
    · by_cases h7 : 7 < q
      · go_upto_region 9 with fail
        refine wp_at (RC w { d3 with v := plV d3.v }) (by rw [show plV d3.v = { d3.v with c := -1, d := 0 } from by unfold plV; rw [show plC1 d3.v.c = -1 by rw [← HP.out]; unfold plC1; rw [decide_eq_true (show 8 ≤ p by omega), Bool.or_true]; rfl, show plD1 d3.v.d = 0 by rw [← HQ.out]; unfold plD1; rw [decide_eq_true (show 7 < q by omega)]; rfl]]; exact HAB.out) ?_
        clear c53 c54 c54' f53 f54 f54' l3 HA HAB HB HU3
        intro U4 hU4
        obtain ⟨q1, ⟨Z, q2, q3⟩, q4⟩ := hU4
        have HQ1 := Lib.hid q1
        have HQ2 := Lib.hid q2
        have HQ3 := Lib.hid q3
        have HQ4 := Lib.hid q4
        have hl4 := q1.lt
        clear q1 q2 q3 q4
        refine wp_region_lit ?_
        go_wp2_with (first
          | (refine wpList_load_pin rfl 51 (.tmp 1) rfl HQ1.out (by simp [Act.eval]) _ Try.underlying51 rfl 55 size_ce (ceL_len _) ?_)
          | (refine wpList_store_pin rfl 51 (.tmp 2) (.tmp 38) rfl HQ3.out (ceL { d3 with v := plV d3.v }) (by simp [Act.eval, Act.put]) (by simp [Act.eval, Act.put]) 55 size_ce HQ2.out (ceL_len _) (ceL_one _) ?_; intro w3 p3 b3))
        have hld := p3.var 51 _ Try.underlying51 rfl 55 size_ce (ceL_len _)
        have he : ({ d3 with v := plV d3.v } : Ce) = plC c := by rw [HD3.out, ← HYR.out, HD2.out, ← HYO.out, HD.out, ← HYA.out]; exact HE.out
        rw [he] at hld
        exact bodyPost_ret (v := .agg (ceL (plC c)).toArray) (by simp [results, Try.results85, asAddr, Act.put, hld]) rfl ⟨rfl, HQ4.out.trans (b3.low (Nat.le_succ _))⟩
      · go_upto_region 9 with fail
        refine wp_at (RC w { d3 with v := plV d3.v }) (by rw [show plV d3.v = { d3.v with c := -1 } from by unfold plV; rw [show plC1 d3.v.c = -1 by rw [← HP.out]; unfold plC1; rw [decide_eq_true (show 8 ≤ p by omega), Bool.or_true]; rfl, show plD1 d3.v.d = d3.v.d by rw [← HQ.out]; unfold plD1; rw [decide_eq_false (show ¬ 7 < q by omega)]; rfl]]; exact HA.out) ?_
        clear c53 c54 c54' f53 f54 f54' l3 HA HAB HB HU3
        intro U4 hU4
        obtain ⟨q1, ⟨Z, q2, q3⟩, q4⟩ := hU4
        have HQ1 := Lib.hid q1
        have HQ2 := Lib.hid q2
        have HQ3 := Lib.hid q3
        have HQ4 := Lib.hid q4
        have hl4 := q1.lt
        clear q1 q2 q3 q4
        refine wp_region_lit ?_
        go_wp2_with (first
          | (refine wpList_load_pin rfl 51 (.tmp 1) rfl HQ1.out (by simp [Act.eval]) _ Try.underlying51 rfl 55 size_ce (ceL_len _) ?_)
          | (refine wpList_store_pin rfl 51 (.tmp 2) (.tmp 38) rfl HQ3.out (ceL { d3 with v := plV d3.v }) (by simp [Act.eval, Act.put]) (by simp [Act.eval, Act.put]) 55 size_ce HQ2.out (ceL_len _) (ceL_one _) ?_; intro w3 p3 b3))
        have hld := p3.var 51 _ Try.underlying51 rfl 55 size_ce (ceL_len _)
        have he : ({ d3 with v := plV d3.v } : Ce) = plC c := by rw [HD3.out, ← HYR.out, HD2.out, ← HYO.out, HD.out, ← HYA.out]; exact HE.out
        rw [he] at hld
        exact bodyPost_ret (v := .agg (ceL (plC c)).toArray) (by simp [results, Try.results85, asAddr, Act.put, hld]) rfl ⟨rfl, HQ4.out.trans (b3.low (Nat.le_succ _))⟩
    · by_cases h7 : 7 < q
      · go_upto_region 9 with fail
        refine wp_at (RC w { d3 with v := plV d3.v }) (by rw [show plV d3.v = { d3.v with d := 0 } from by unfold plV; rw [show plC1 d3.v.c = d3.v.c by rw [← HP.out]; unfold plC1; rw [decide_eq_false (show ¬ p < 0 by omega), decide_eq_false (show ¬ 8 ≤ p by omega)]; rfl, show plD1 d3.v.d = 0 by rw [← HQ.out]; unfold plD1; rw [decide_eq_true (show 7 < q by omega)]; rfl]]; exact HB.out) ?_
        clear c53 c54 c54' f53 f54 f54' l3 HA HAB HB HU3
        intro U4 hU4
        obtain ⟨q1, ⟨Z, q2, q3⟩, q4⟩ := hU4
        have HQ1 := Lib.hid q1
        have HQ2 := Lib.hid q2
        have HQ3 := Lib.hid q3
        have HQ4 := Lib.hid q4
        have hl4 := q1.lt
        clear q1 q2 q3 q4
        refine wp_region_lit ?_
        go_wp2_with (first
          | (refine wpList_load_pin rfl 51 (.tmp 1) rfl HQ1.out (by simp [Act.eval]) _ Try.underlying51 rfl 55 size_ce (ceL_len _) ?_)
          | (refine wpList_store_pin rfl 51 (.tmp 2) (.tmp 38) rfl HQ3.out (ceL { d3 with v := plV d3.v }) (by simp [Act.eval, Act.put]) (by simp [Act.eval, Act.put]) 55 size_ce HQ2.out (ceL_len _) (ceL_one _) ?_; intro w3 p3 b3))
        have hld := p3.var 51 _ Try.underlying51 rfl 55 size_ce (ceL_len _)
        have he : ({ d3 with v := plV d3.v } : Ce) = plC c := by rw [HD3.out, ← HYR.out, HD2.out, ← HYO.out, HD.out, ← HYA.out]; exact HE.out
        rw [he] at hld
        exact bodyPost_ret (v := .agg (ceL (plC c)).toArray) (by simp [results, Try.results85, asAddr, Act.put, hld]) rfl ⟨rfl, HQ4.out.trans (b3.low (Nat.le_succ _))⟩
      · go_upto_region 9 with fail
        refine wp_at (RC w { d3 with v := plV d3.v }) (by rw [show plV d3.v = d3.v from by unfold plV; rw [show plC1 d3.v.c = d3.v.c by rw [← HP.out]; unfold plC1; rw [decide_eq_false (show ¬ p < 0 by omega), decide_eq_false (show ¬ 8 ≤ p by omega)]; rfl, show plD1 d3.v.d = d3.v.d by rw [← HQ.out]; unfold plD1; rw [decide_eq_false (show ¬ 7 < q by omega)]; rfl]]; exact HU3.out) ?_
        clear c53 c54 c54' f53 f54 f54' l3 HA HAB HB HU3
        intro U4 hU4
        obtain ⟨q1, ⟨Z, q2, q3⟩, q4⟩ := hU4
        have HQ1 := Lib.hid q1
        have HQ2 := Lib.hid q2
        have HQ3 := Lib.hid q3
        have HQ4 := Lib.hid q4
        have hl4 := q1.lt
        clear q1 q2 q3 q4
        refine wp_region_lit ?_
        go_wp2_with (first
          | (refine wpList_load_pin rfl 51 (.tmp 1) rfl HQ1.out (by simp [Act.eval]) _ Try.underlying51 rfl 55 size_ce (ceL_len _) ?_)
          | (refine wpList_store_pin rfl 51 (.tmp 2) (.tmp 38) rfl HQ3.out (ceL { d3 with v := plV d3.v }) (by simp [Act.eval, Act.put]) (by simp [Act.eval, Act.put]) 55 size_ce HQ2.out (ceL_len _) (ceL_one _) ?_; intro w3 p3 b3))
        have hld := p3.var 51 _ Try.underlying51 rfl 55 size_ce (ceL_len _)
        have he : ({ d3 with v := plV d3.v } : Ce) = plC c := by rw [HD3.out, ← HYR.out, HD2.out, ← HYO.out, HD.out, ← HYA.out]; exact HE.out
        rw [he] at hld
        exact bodyPost_ret (v := .agg (ceL (plC c)).toArray) (by simp [results, Try.results85, asAddr, Act.put, hld]) rfl ⟨rfl, HQ4.out.trans (b3.low (Nat.le_succ _))⟩
end Go.Proofs.Ytcangipaoancnaa

namespace Go.Proofs.Ytcangipaoancnaa
open Go.RowKit
set_option linter.unusedVariables false
set_option linter.unusedSimpArgs false

set_option maxRecDepth 100000 in
theorem elemRHelds : Try.prog.underlying 72 = some (.slice 106) := by kernel_rfl
set_option maxRecDepth 100000 in
theorem sizeRHelds (w : World) : (sizeOf 106).run Try.prog w = .ok 56 w := by kernel_rfl
set_option maxRecDepth 100000 in
theorem idxRHelds {A : Option Addr} {n : Nat} (c : Nat) {k b off : Nat} (hA : A = some ⟨b, off, none⟩) (hk : k < n) (w : World) :
    (Instr.indexAt 72 (.slice A n c) (.int .i64 (k : Int))).run Try.prog w = .ok (.pointer (some ⟨b, off + k * 56, none⟩)) w := by
  subst hA
  rw [run_indexAt_slice (h := elemRHelds), if_pos (by omega), show Try.prog.elem 72 = 106 by kernel_rfl, sizeRHelds]
  simp [Result.andThen, Addr.add_lit]
/-- A row's table is the row's own. -/
def OwnT (w : World) (Q : Rw) : Prop := w.ownsRow 0 106 56 (.slice Q.A Q.n Q.p) Q.n (hesL Q.T Q.n)
theorem OwnT.on {w w' : World} {Q : Rw} (h : OwnT w Q) (hb : Below w.heap.size w w') : OwnT w' Q := ownsF_on h hb
theorem OwnT.kept {w w' : World} {Q : Rw} {ts : List TypeId} (h : OwnT w Q) (k : KeptBut w w' ts) (ht : 106 ∉ ts) : OwnT w' Q := ownsF_kept h k ht
theorem OwnT.lies {w : World} {Q : Rw} (h : OwnT w Q) : LiesH w w.heap.size Q.A Q.n Q.T := owns_liesF (f := fun i => heL (Q.T i)) (fun i => heL_len _) h
theorem OwnT.nil_ {w : World} (b : Bool) (c : Ce) (T : Nat → He) : OwnT w ⟨b, c, none, 0, 0, T⟩ := ownsF_nil
/-- Boxes of the row, of the result, of what is to be. -/
structure RP (w : World) (o : Nat) (b : Bool) (c : Ce) (A : Option Addr) (m p : Nat) (L : List Value) (U : World) : Prop where
  x : Blk U w.heap.size 74 (roL b c A m p).toArray
  z : ∃ Z : List Value, Z.length = 57 ∧ PIn U (w.heap.size + 1) 0 74 [] [] Z
  q : PIn U o 0 74 [] [] L
  b : Below w.heap.size w U
  lo : w.heap.size + 1 < o
theorem RP.turn {w U V : World} {o : Nat} {b : Bool} {c : Ce} {A : Option Addr} {m p : Nat} {L M : List Value} (h : RP w o b c A m p L U) (q : PIn V o 0 74 [] [] M) (k : But o U V) : RP w o b c A m p M V := by
  obtain ⟨Z, h2, h3⟩ := h.z
  have := h.lo
  exact ⟨k.blk h.x (by omega), ⟨Z, h2, h3.but k (by omega)⟩, q, h.b.trans (k.low (by omega)), h.lo⟩
theorem RP.on {w U V : World} {o : Nat} {b : Bool} {c : Ce} {A : Option Addr} {m p : Nat} {L : List Value} (h : RP w o b c A m p L U) (k : Below (o + 1) U V) : RP w o b c A m p L V := by
  obtain ⟨Z, h2, h3⟩ := h.z
  have := h.lo
  exact ⟨h.x.below k (by omega), ⟨Z, h2, ⟨h3.blk.below k (by omega), h3.len⟩⟩, ⟨h.q.blk.below k (by omega), h.q.len⟩, h.b.trans (k.mono (by omega)), h.lo⟩
/-- .. and what is held, in a block of its own; the row that is appended to. -/
structure SH (w : World) (o : Nat) (c : Ce) (A : Option Addr) (m p k : Nat) (A' : Option Addr) (p' : Nat) (D : Nat → He) (h : Nat) (X : He) (U : World) : Prop where
  s : PIn U h 0 106 [] [] (heL X)
  r : RP w o true c A m p (roL true (plC c) A' k p') U
  w : U.ownsRow (o + 1) 106 56 (.slice A' k p') k (hesL D k)
  ne : ∀ g, A' = some ⟨g, 0, none⟩ → g ≠ h
  lo : o < h
theorem SH.turn {w U V : World} {o : Nat} {c : Ce} {A A' : Option Addr} {m p k p' h : Nat} {D : Nat → He} {X Y : He} (H : SH w o c A m p k A' p' D h X U) (q : PIn V h 0 106 [] [] (heL Y)) (b : But h U V) : SH w o c A m p k A' p' D h Y V :=
  ⟨q, H.r.on (b.low (by have := H.lo; omega)), ownsF_but H.w b H.ne, H.ne, H.lo⟩
theorem SH.on {w U V : World} {o : Nat} {c : Ce} {A A' : Option Addr} {m p k p' h : Nat} {D : Nat → He} {X : He} (H : SH w o c A m p k A' p' D h X U) (b : Below U.heap.size U V) : SH w o c A m p k A' p' D h X V :=
  ⟨H.s.on b, H.r.on (b.mono H.r.q.lt), ownsF_on H.w b, H.ne, H.lo⟩
set_option maxRecDepth 100000 in
set_option maxHeartbeats 1000000 in
theorem rplain_no (N : Int) (b : Bool) (c : Ce) (A : Option Addr) (m p : Nat) (hno : (b && nmB N) = false) (w : World) :
    Calls Try.prog 61 #[.int .i64 N, .agg (roL b c A m p).toArray] w fun e w' => e = .returned (.agg (roL false ceN none 0 0).toArray) ∧ Below w.heap.size w w' := by
  have HNO := Lib.hid hno
  clear hno
  go_enter Try.func61, Try.ntmps61
  go_upto_region 1 with fail
  refine wp_at (Boxed w 74 74 (roL b c A m p) 57) (Boxed.mk_ _ _ _ _ _ _ rfl) ?_
  intro U hU
  have HU := Lib.hid hU
  have HZN : Hid (∀ Z : Array Value, Z.size = 57 → PIn (U.alloc (.cells Z 74)) U.heap.size 0 74 [] [] Z.toList ∧ Z.toList.length = 57) := Lib.hid (fun Z hZ => ⟨Blk.pin (by simpa using Blk.new U 74 Z), by simpa using hZ⟩)
  have hlt := hU.lt
  clear hU
  go_upto_region 2 with (refine wpList_store_pin rfl 74 (.tmp 5) (.tmp 8) rfl (HZN.out _ rfl).1 (roL false ceN none 0 0) (by simp [Act.eval, Act.put]) (by kernel_rfl) 57 size_rrow (HZN.out _ rfl).2 (roL_len _ _ _ _ _) (roL_one _ _ _ _ _) ?_; intro w1 p1 b1; have HP1 := Lib.hid p1; have HB1 := Lib.hid b1; clear p1 b1)
  refine wp_at (RP w U.heap.size b c A m p (roL false ceN none 0 0)) ⟨(HB1.out.blk ((HU.out.x).alloc _) (by omega)), (by obtain ⟨Z, z1, z2⟩ := HU.out.res; exact ⟨Z, z1, (z2.on (below_al (Below.refl _ U) _)).but HB1.out (by omega)⟩), HP1.out, (below_al HU.out.b _).trans (HB1.out.low (by have := HU.out.b.size; omega)), hlt⟩ ?_
  intro V hV
  obtain ⟨o, ho⟩ : ∃ o, o = U.heap.size := ⟨_, rfl⟩
  rw [← ho] at hV ⊢
  clear ho HZN HU HP1 HB1 hlt
  have HV := Lib.hid hV
  have c0 : V.cell? ⟨w.heap.size, 0, none⟩ = some (.bool b) := (hV.x.pin.cell0 (by simp [roL])).trans rfl
  have lx := hV.x.lt
  have lo := hV.q.lt
  have lz : w.heap.size + 1 < V.heap.size := by obtain ⟨Z, _, z2⟩ := hV.z; exact z2.lt
  clear hV
  obtain ⟨Z, hzl, hz⟩ := HV.out.z
  have HZ := Lib.hid hz
  have HZL := Lib.hid hzl
  clear hz hzl
  by_cases n0 : N < 0
  · go_wp2_with (first
      | (refine wpList_load_pin rfl 74 (.tmp 5) rfl HV.out.q (by simp [Act.eval, Act.put]) _ Try.underlying74 rfl 57 size_rrow (roL_len _ _ _ _ _) ?_)
      | (refine wpList_store_pin rfl 74 (.tmp 4) (.tmp 20) rfl HZ.out (roL false ceN none 0 0) (by simp [Act.eval, Act.put]) (by simp [Act.eval, Act.put]) 57 size_rrow HZL.out (roL_len _ _ _ _ _) (roL_one _ _ _ _ _) ?_; intro w2 p2 b2))
    have hld := p2.var 74 _ Try.underlying74 rfl 57 size_rrow (roL_len _ _ _ _ _)
    exact bodyPost_ret (v := .agg (roL false ceN none 0 0).toArray) (by simp [results, Try.results61, asAddr, Act.put, hld]) rfl ⟨rfl, HV.out.b.trans (b2.low (Nat.le_succ _))⟩
  by_cases n1 : 16 < N
  · go_wp2_with (first
      | (refine wpList_load_pin rfl 74 (.tmp 5) rfl HV.out.q (by simp [Act.eval, Act.put]) _ Try.underlying74 rfl 57 size_rrow (roL_len _ _ _ _ _) ?_)
      | (refine wpList_store_pin rfl 74 (.tmp 4) (.tmp 20) rfl HZ.out (roL false ceN none 0 0) (by simp [Act.eval, Act.put]) (by simp [Act.eval, Act.put]) 57 size_rrow HZL.out (roL_len _ _ _ _ _) (roL_one _ _ _ _ _) ?_; intro w2 p2 b2))
    have hld := p2.var 74 _ Try.underlying74 rfl 57 size_rrow (roL_len _ _ _ _ _)
    exact bodyPost_ret (v := .agg (roL false ceN none 0 0).toArray) (by simp [results, Try.results61, asAddr, Act.put, hld]) rfl ⟨rfl, HV.out.b.trans (b2.low (Nat.le_succ _))⟩
  obtain rfl : b = false := by
    have := HNO.out
    rw [show nmB N = true by unfold nmB; simp; omega] at this
    simpa using this
  go_wp2_with (first
    | (refine wpList_load_pin rfl 74 (.tmp 5) rfl HV.out.q (by simp [Act.eval, Act.put]) _ Try.underlying74 rfl 57 size_rrow (roL_len _ _ _ _ _) ?_)
    | (refine wpList_store_pin rfl 74 (.tmp 4) (.tmp 20) rfl HZ.out (roL false ceN none 0 0) (by simp [Act.eval, Act.put]) (by simp [Act.eval, Act.put]) 57 size_rrow HZL.out (roL_len _ _ _ _ _) (roL_one _ _ _ _ _) ?_; intro w2 p2 b2))
  have hld := p2.var 74 _ Try.underlying74 rfl 57 size_rrow (roL_len _ _ _ _ _)
  exact bodyPost_ret (v := .agg (roL false ceN none 0 0).toArray) (by simp [results, Try.results61, asAddr, Act.put, hld]) rfl ⟨rfl, HV.out.b.trans (b2.low (Nat.le_succ _))⟩
set_option maxRecDepth 100000 in
set_option maxHeartbeats 4000000 in
theorem rplain_yes (n : Nat) (hn : n ≤ 16) (c : Ce) (A : Option Addr) (m p : Nat) (hm : m ≤ 65536) (T : Nat → He) (w : World) (hT : LiesH w w.heap.size A m T) :
    Calls Try.prog 61 #[.int .i64 (n : Int), .agg (roL true c A m p).toArray] w fun e w' => ∃ A' p', e = .returned (.agg (roL true (plC c) A' n p').toArray) ∧ OwnT w' ⟨true, plC c, A', n, p', fun i => plH (fitH T m i)⟩ ∧ Below w.heap.size w w' := by
  obtain ⟨b, hb⟩ : ∃ b, b = true := ⟨_, rfl⟩
  rw [← hb]
  have HBT := Lib.hid hb
  have HT := Lib.hid hT
  have HN := Lib.hid hn
  have HM := Lib.hid hm
  obtain ⟨i0, hi0, hz0, hz1, hz2⟩ := info_parts infoRHeld
  have HI := Lib.hid hi0
  have HZ0 := Lib.hid hz0
  have HZ1 := Lib.hid hz1
  have HZ2 := Lib.hid hz2
  obtain ⟨D, hD⟩ : ∃ D : Nat → He, D = fun i => plH (fitH T m i) := ⟨_, rfl⟩
  have HD := Lib.hid hD
  rw [← hD]
  clear hT hn hm hi0 hz0 hz1 hz2 hD hb
  go_enter Try.func61, Try.ntmps61
  go_upto_region 1 with fail
  refine wp_at (Boxed w 74 74 (roL b c A m p) 57) (Boxed.mk_ _ _ _ _ _ _ rfl) ?_
  intro U hU
  have HU := Lib.hid hU
  have HZN : Hid (∀ Z : Array Value, Z.size = 57 → PIn (U.alloc (.cells Z 74)) U.heap.size 0 74 [] [] Z.toList ∧ Z.toList.length = 57) := Lib.hid (fun Z hZ => ⟨Blk.pin (by simpa using Blk.new U 74 Z), by simpa using hZ⟩)
  have hlt := hU.lt
  clear hU
  go_upto_region 2 with (refine wpList_store_pin rfl 74 (.tmp 5) (.tmp 8) rfl (HZN.out _ rfl).1 (roL false ceN none 0 0) (by simp [Act.eval, Act.put]) (by kernel_rfl) 57 size_rrow (HZN.out _ rfl).2 (roL_len _ _ _ _ _) (roL_one _ _ _ _ _) ?_; intro w1 p1 b1; have HP1 := Lib.hid p1; have HB1 := Lib.hid b1; clear p1 b1)
  refine wp_at (RP w U.heap.size b c A m p (roL false ceN none 0 0)) ⟨(HB1.out.blk ((HU.out.x).alloc _) (by omega)), (by obtain ⟨Z, z1, z2⟩ := HU.out.res; exact ⟨Z, z1, (z2.on (below_al (Below.refl _ U) _)).but HB1.out (by omega)⟩), HP1.out, (below_al HU.out.b _).trans (HB1.out.low (by have := HU.out.b.size; omega)), hlt⟩ ?_
  intro V hV
  obtain ⟨o, ho⟩ : ∃ o, o = U.heap.size := ⟨_, rfl⟩
  rw [← ho] at hV ⊢
  clear ho HZN HU HP1 HB1 hlt
  have HV := Lib.hid hV
  have c0 : V.cell? ⟨w.heap.size, 0, none⟩ = some (.bool b) := (hV.x.pin.cell0 (by simp [roL])).trans rfl
  have lx := hV.x.lt
  have lo := hV.q.lt
  have lz : w.heap.size + 1 < V.heap.size := by obtain ⟨Z, _, z2⟩ := hV.z; exact z2.lt
  clear hV
  obtain rfl := HBT.out
  have e0 : decide ((n : Int) < 0) = false := by simp
  have e1 : decide ((16 : Int) < (n : Int)) = false := by have := HN.out; simp; omega
  have e2 : ¬ (16 < n) := by have := HN.out; omega
  have f0 := HV.out.q.frozen 0
  have o0 : V.cell? ⟨o, 0, none⟩ = some (.bool false) := (HV.out.q.cell0 (by simp [roL])).trans rfl
  have HP4 := Lib.hid (HV.out.q.set_ 0 (.bool true) (by simp [roL]))
  have e4 : (roL false ceN none 0 0).set 0 (.bool true) = roL true ceN none 0 0 := rfl
  rw [e4] at HP4
  clear e4
  go_upto_region 5 with fail
  refine wp_at (RP w o true c A m p (roL true ceN none 0 0)) (HV.out.turn (by simpa using HP4.out) (But.one 0 _)) ?_
  clear f0 o0 HP4 HV c0 lx lo lz
  intro V hV
  have lo := hV.q.lt
  have lx := hV.x.lt
  have HPC := Lib.hid (PIn.part (P := [.bool true]) (M := ceL ceN) (S := [.slice none 0 0]) (o := 1) hV.q rfl)
  have HRC := Lib.hid hV.x.rowCell
  have HV := Lib.hid hV
  have HLO := Lib.hid hV.lo
  clear hV
  go_upto_region 6 with (first
    | (refine wpList_load_mid rfl 51 (.tmp 22) rfl w.heap.size 1 (by simp [Act.eval, Act.put]) (ceL c) _ HRC.out Try.underlying51 rfl (by rw [size_ce, ceL_len]) ?_)
    | (go_at_call 85; (with_reducible refine (rcell_is c _).mono ?_); rintro e w1 ⟨rfl, b1⟩; have hl1 := (HPC.out.on b1).lt)
    | (refine wpList_store_pin rfl 51 (.tmp 25) (.tmp 24) rfl (HPC.out.on b1) (ceL (plC c)) (by simp [Act.eval, Act.put]) (by simp [Act.eval, Act.put]) 55 size_ce (ceL_len _) (ceL_len _) (ceL_one _) ?_; intro w2 p2 b2; have HP2 := Lib.hid p2; have HB2 := Lib.hid b2; have HB1 := Lib.hid b1; clear p2 b2 b1 hl1))
  refine wp_at (RP w o true c A m p (roL true (plC c) none 0 0)) (((HV.out.on (HB1.out.mono lo)).turn (PIn.whole (P := [.bool true]) (S := [.slice none 0 0]) HP2.out rfl) HB2.out)) ?_
  clear HP2 HB2 HB1 HPC HRC HV lo lx
  intro V hV
  have HV := Lib.hid hV
  clear hV
  go_wp2_with fail
  go_loopw [6] (fun s wr => ∃ k : Nat, k ≤ n ∧ s = .int .i64 (k : Int) ∧ ∃ (A' : Option Addr) (p' : Nat), Hid (RP w o true c A m p (roL true (plC c) A' k p') wr) ∧ Hid (wr.ownsRow (o + 1) 106 56 (.slice A' k p') k (hesL D k))) (fun s _ => n - (intOf s).toNat)
  case atStart => exact ⟨0, by omega, rfl, none, 0, HV, Lib.hid ownsF_nil⟩
  case round =>
    clear HV
    obtain ⟨k, hk, rfl, A', p', HR, HO⟩ := hrel
    by_cases hlt : k < n
    · have HZN : Hid (∀ Z : Array Value, Z.size = 56 → PIn (wr.alloc (.cells Z 106)) wr.heap.size 0 106 [] [] Z.toList ∧ Z.toList.length = 56) := Lib.hid (fun Z hZ => ⟨Blk.pin (by simpa using Blk.new wr 106 Z), by simpa using hZ⟩)
      have lo := HR.out.q.lt
      go_upto_region 10 with (refine wpList_store_pin rfl 106 (.tmp 7) (.tmp 31) rfl (HZN.out _ rfl).1 (heL heN) (by simp [Act.eval, Act.put]) (by kernel_rfl) 56 size_rhe (HZN.out _ rfl).2 (heL_len _) (heL_one _) ?_; intro w1 p1 b1; have HP1 := Lib.hid p1; have HB1 := Lib.hid b1; clear p1 b1)
      refine wp_at (SH w o c A m p k A' p' D wr.heap.size heN) ⟨HP1.out, (HR.out.on ((below_al (Below.refl _ wr) _).mono lo)).on (HB1.out.low lo), ownsF_but (ownsF_on HO.out (below_al (Below.refl _ wr) _)) HB1.out (fun g hg => by have := ownsF_lt HO.out hg; omega), (fun g hg => by have := ownsF_lt HO.out hg; omega), lo⟩ ?_
      intro U hU
      obtain ⟨h, hh⟩ : ∃ h, h = wr.heap.size := ⟨_, rfl⟩
      rw [← hh] at hU ⊢
      clear hh HZN HP1 HB1 lo HR HO
      have HU := Lib.hid hU
      have c56 := hU.r.x.rowTab
      have lx := hU.r.x.lt
      have lo := hU.r.q.lt
      have lh := hU.s.lt
      clear hU
      by_cases hkm : k < m
      · obtain ⟨tb, toff, rfl, htb, hct⟩ := HT.out (by omega)
        have HTB := Lib.hid htb
        have HCT := Lib.hid (hct k hkm)
        have hix := fun W => idxRHelds (A := some ⟨tb, toff, none⟩) (n := m) p rfl hkm W
        have hc0 : U.cell? ⟨tb, toff + k * 56, none⟩ = some (.bool (T k).i) := (HU.out.r.b.cell (p := ⟨tb, _, none⟩) htb).trans (hct k hkm 0 _ rfl)
        clear htb hct
        cases hti : (T k).i
        · rw [hti] at hc0
          have HDK : Hid (D k = heN) := Lib.hid (by rw [HD.out]; simp [fitH, hkm, plH, hti])
          clear hti
          go_upto_region 13 with fail
          refine wp_at (SH w o c _ m p k A' p' D h (D k)) (by rw [HDK.out]; exact HU.out) ?_
          clear c56 lx lo lh HU
          intro U2 hU2
          have HU2 := Lib.hid hU2
          have o56 : U2.cell? ⟨o, 56, none⟩ = some (.slice A' k p') := by have := hU2.r.q.cell 56 (by rw [roL_len]; omega); rw [Nat.zero_add] at this; rw [this, ro_tab]
          have fo56 := hU2.r.q.frozen 56
          have lo2 := hU2.r.q.lt
          have lh2 := hU2.s.lt
          have HBS := Lib.hid (run_bsl_one (P := Try.prog) U2 72 106 i0 (heL heN) 56 elemRHelds HI.out HZ0.out HZ1.out (heL_len _) (by decide) (by decide) (heL (D k)) (heL_len _))
          have HOW := Lib.hid (ownsF_on hU2.w (below_al (Below.refl _ U2) (.cells (heL (D k)).toArray 106)))
          have HNB := Lib.hid (Blk.new U2 106 (heL (D k)).toArray)
          clear hU2
          go_wp2_with (first
            | (refine wpList_load_pin rfl 106 (.tmp 7) rfl HU2.out.s (by simp [Act.eval, Act.put]) _ Try.underlying106 rfl 56 size_rhe (heL_len _) ?_)
            | (refine wpList_bsl rfl 72 1 _ rfl #[(0, .agg (heL (D k)).toArray)] (by simp [Act.eval, Act.put]) _ _ HBS.out ?_)
            | (at_builtin; refine wpList_append_G rfl (.tmp 55) (.tmp 57) 72 rfl (o + 1) 106 i0 _ 56 136 elemRHelds HI.out HZ0.out HZ1.out HZ2.out (by simp [Value.cells, heL_len]) (by decide) A' k p' (hesL D k) (by simp [Act.eval, Act.put]) HOW.out U2.heap.size 1 1 (heL (D k)) (by simp [Act.eval, Act.put]) HNB.out (heL_len _) (heL_one _) (by decide) (by unfold maxLen; omega) (by omega) (by simp; omega) ?_; intro A2 p2 w2 hO2 hb2 _; have HO2 := Lib.hid hO2; have hr2 := (HU2.out.r.on ((below_al (Below.refl _ U2) (.cells (heL (D k)).toArray 106)).mono lo2)).on hb2; have HR2 := Lib.hid hr2; have o56' : w2.cell? ⟨o, 56, none⟩ = some (.slice A' k p') := (by have := hr2.q.cell 56 (by rw [roL_len]; omega); rw [Nat.zero_add] at this; rw [this, ro_tab]); have fo56' := hr2.q.frozen 56; have lo2' := hr2.q.lt; clear hO2 hr2 hb2))
          go_roundw
          case rel =>
            refine ⟨k + 1, by omega, by go_num, A2, p2, Lib.hid ?_, Lib.hid (ownsF_but (by rw [hesL_succ]; exact HO2.out) (But.one 56 _) (fun g hg => by have := ownsF_lt HO2.out hg; omega))⟩
            have := HR2.out.q.set_ 56 (.slice A2 (k + 1) p2) (by rw [roL_len]; omega)
            rw [ro_setTab, Nat.zero_add] at this
            exact HR2.out.turn this (But.one 56 _)
          case measure => simp [intOf]; omega
        · rw [hti] at hc0
          have HDK : Hid (D k = ⟨true, plC (T k).c⟩) := Lib.hid (by rw [HD.out]; simp [fitH, hkm, plH, hti])
          clear hti
          have HPC := Lib.hid (PIn.part (P := [.bool true]) (M := ceL ceN) (S := []) (o := 1) (A := []) (Z := []) (g := h) (T := 106) (O := 0) (w := U.setCell ⟨h, 0, none⟩ (.bool true)) (by
            have := HU.out.s.set_ 0 (.bool true) (by simp [heL])
            rw [Nat.zero_add] at this
            exact this.cs (by simp [heL, heN])) rfl)
          have fh0 := HU.out.s.frozen 0
          have ch0 : U.cell? ⟨h, 0, none⟩ = some (.bool false) := (HU.out.s.cell0 (by simp [heL])).trans rfl
          have c56' : (U.setCell ⟨h, 0, none⟩ (.bool true)).cell? ⟨w.heap.size, 56, none⟩ = some (.slice (some ⟨tb, toff, none⟩) m p) := by
            have : But h U (U.setCell ⟨h, 0, none⟩ (.bool true)) := But.one 0 _
            have hl := HU.out.lo
            have hl2 := HU.out.r.lo
            exact (this.blk HU.out.r.x (by omega)).rowTab
          have HRG : Hid ((U.setCell ⟨h, 0, none⟩ (.bool true)).rangeAt tb (toff + k * 56 + 1) (ceL (T k).c)) := Lib.hid (fun j v hv => by
            have hl := HU.out.lo
            have hl2 := HU.out.r.lo
            have hlow : Below w.heap.size w (U.setCell ⟨h, 0, none⟩ (.bool true)) := HU.out.r.b.trans ((But.one (u := U) (g := h) 0 (.bool true)).low (by omega))
            rw [Nat.add_assoc]
            exact (hlow.cell (p := ⟨tb, _, none⟩) HTB.out).trans (HCT.out (1 + j) v (by rw [Nat.add_comm]; exact hv)))
          go_upto_region 13 with (first
            | (refine wpList_load_mid rfl 51 (.tmp 50) rfl tb (toff + k * 56 + 1) (by simp [Act.eval, Act.put]) (ceL (T k).c) _ HRG.out Try.underlying51 rfl (by rw [size_ce, ceL_len]) ?_)
            | (go_at_call 85; (with_reducible refine (rcell_is (T k).c _).mono ?_); rintro e w1 ⟨rfl, b1⟩; have hl1 := (HPC.out.on b1).lt)
            | (refine wpList_store_pin rfl 51 (.tmp 53) (.tmp 52) rfl (HPC.out.on b1) (ceL (plC (T k).c)) (by simp [Act.eval, Act.put]) (by simp [Act.eval, Act.put]) 55 size_ce (ceL_len _) (ceL_len _) (ceL_one _) ?_; intro w2 p2 b2; have HP2 := Lib.hid p2; have HB2 := Lib.hid b2; have HB1 := Lib.hid b1; clear p2 b2 b1 hl1))
          refine wp_at (SH w o c _ m p k A' p' D h (D k)) (by
            have q1 : SH w o c (some ⟨tb, toff, none⟩) m p k A' p' D h ⟨true, ceN⟩ (U.setCell ⟨h, 0, none⟩ (.bool true)) := HU.out.turn ((PIn.whole (P := [.bool true]) (S := []) HPC.out rfl).cs (by simp [heL])) (But.one 0 _)
            have q2 := (q1.on HB1.out).turn (Y := D k) ((PIn.whole (P := [.bool true]) (S := []) HP2.out rfl).cs (by rw [HDK.out]; simp [heL])) HB2.out
            exact q2) ?_
          clear c56 c56' ch0 fh0 lx lo lh HU HPC HRG HP2 HB2 HB1
          intro U2 hU2
          have HU2 := Lib.hid hU2
          have o56 : U2.cell? ⟨o, 56, none⟩ = some (.slice A' k p') := by have := hU2.r.q.cell 56 (by rw [roL_len]; omega); rw [Nat.zero_add] at this; rw [this, ro_tab]
          have fo56 := hU2.r.q.frozen 56
          have lo2 := hU2.r.q.lt
          have lh2 := hU2.s.lt
          have HBS := Lib.hid (run_bsl_one (P := Try.prog) U2 72 106 i0 (heL heN) 56 elemRHelds HI.out HZ0.out HZ1.out (heL_len _) (by decide) (by decide) (heL (D k)) (heL_len _))
          have HOW := Lib.hid (ownsF_on hU2.w (below_al (Below.refl _ U2) (.cells (heL (D k)).toArray 106)))
          have HNB := Lib.hid (Blk.new U2 106 (heL (D k)).toArray)
          clear hU2
          go_wp2_with (first
            | (refine wpList_load_pin rfl 106 (.tmp 7) rfl HU2.out.s (by simp [Act.eval, Act.put]) _ Try.underlying106 rfl 56 size_rhe (heL_len _) ?_)
            | (refine wpList_bsl rfl 72 1 _ rfl #[(0, .agg (heL (D k)).toArray)] (by simp [Act.eval, Act.put]) _ _ HBS.out ?_)
            | (at_builtin; refine wpList_append_G rfl (.tmp 55) (.tmp 57) 72 rfl (o + 1) 106 i0 _ 56 136 elemRHelds HI.out HZ0.out HZ1.out HZ2.out (by simp [Value.cells, heL_len]) (by decide) A' k p' (hesL D k) (by simp [Act.eval, Act.put]) HOW.out U2.heap.size 1 1 (heL (D k)) (by simp [Act.eval, Act.put]) HNB.out (heL_len _) (heL_one _) (by decide) (by unfold maxLen; omega) (by omega) (by simp; omega) ?_; intro A2 p2 w2 hO2 hb2 _; have HO2 := Lib.hid hO2; have hr2 := (HU2.out.r.on ((below_al (Below.refl _ U2) (.cells (heL (D k)).toArray 106)).mono lo2)).on hb2; have HR2 := Lib.hid hr2; have o56' : w2.cell? ⟨o, 56, none⟩ = some (.slice A' k p') := (by have := hr2.q.cell 56 (by rw [roL_len]; omega); rw [Nat.zero_add] at this; rw [this, ro_tab]); have fo56' := hr2.q.frozen 56; have lo2' := hr2.q.lt; clear hO2 hr2 hb2))
          go_roundw
          case rel =>
            refine ⟨k + 1, by omega, by go_num, A2, p2, Lib.hid ?_, Lib.hid (ownsF_but (by rw [hesL_succ]; exact HO2.out) (But.one 56 _) (fun g hg => by have := ownsF_lt HO2.out hg; omega))⟩
            have := HR2.out.q.set_ 56 (.slice A2 (k + 1) p2) (by rw [roL_len]; omega)
            rw [ro_setTab, Nat.zero_add] at this
            exact HR2.out.turn this (But.one 56 _)
          case measure => simp [intOf]; omega
      · have HDK : Hid (D k = heN) := Lib.hid (by rw [HD.out]; simp [fitH, hkm, plH, heN])
        go_upto_region 13 with fail
        refine wp_at (SH w o c _ m p k A' p' D h (D k)) (by rw [HDK.out]; exact HU.out) ?_
        clear c56 lx lo lh HU
        intro U2 hU2
        have HU2 := Lib.hid hU2
        have o56 : U2.cell? ⟨o, 56, none⟩ = some (.slice A' k p') := by have := hU2.r.q.cell 56 (by rw [roL_len]; omega); rw [Nat.zero_add] at this; rw [this, ro_tab]
        have fo56 := hU2.r.q.frozen 56
        have lo2 := hU2.r.q.lt
        have lh2 := hU2.s.lt
        have HBS := Lib.hid (run_bsl_one (P := Try.prog) U2 72 106 i0 (heL heN) 56 elemRHelds HI.out HZ0.out HZ1.out (heL_len _) (by decide) (by decide) (heL (D k)) (heL_len _))
        have HOW := Lib.hid (ownsF_on hU2.w (below_al (Below.refl _ U2) (.cells (heL (D k)).toArray 106)))
        have HNB := Lib.hid (Blk.new U2 106 (heL (D k)).toArray)
        clear hU2
        go_wp2_with (first
          | (refine wpList_load_pin rfl 106 (.tmp 7) rfl HU2.out.s (by simp [Act.eval, Act.put]) _ Try.underlying106 rfl 56 size_rhe (heL_len _) ?_)
          | (refine wpList_bsl rfl 72 1 _ rfl #[(0, .agg (heL (D k)).toArray)] (by simp [Act.eval, Act.put]) _ _ HBS.out ?_)
          | (at_builtin; refine wpList_append_G rfl (.tmp 55) (.tmp 57) 72 rfl (o + 1) 106 i0 _ 56 136 elemRHelds HI.out HZ0.out HZ1.out HZ2.out (by simp [Value.cells, heL_len]) (by decide) A' k p' (hesL D k) (by simp [Act.eval, Act.put]) HOW.out U2.heap.size 1 1 (heL (D k)) (by simp [Act.eval, Act.put]) HNB.out (heL_len _) (heL_one _) (by decide) (by unfold maxLen; omega) (by omega) (by simp; omega) ?_; intro A2 p2 w2 hO2 hb2 _; have HO2 := Lib.hid hO2; have hr2 := (HU2.out.r.on ((below_al (Below.refl _ U2) (.cells (heL (D k)).toArray 106)).mono lo2)).on hb2; have HR2 := Lib.hid hr2; have o56' : w2.cell? ⟨o, 56, none⟩ = some (.slice A' k p') := (by have := hr2.q.cell 56 (by rw [roL_len]; omega); rw [Nat.zero_add] at this; rw [this, ro_tab]); have fo56' := hr2.q.frozen 56; have lo2' := hr2.q.lt; clear hO2 hr2 hb2))
        go_roundw
        case rel =>
          refine ⟨k + 1, by omega, by go_num, A2, p2, Lib.hid ?_, Lib.hid (ownsF_but (by rw [hesL_succ]; exact HO2.out) (But.one 56 _) (fun g hg => by have := ownsF_lt HO2.out hg; omega))⟩
          have := HR2.out.q.set_ 56 (.slice A2 (k + 1) p2) (by rw [roL_len]; omega)
          rw [ro_setTab, Nat.zero_add] at this
          exact HR2.out.turn this (But.one 56 _)
        case measure => simp [intOf]; omega
    · go_upto_region 14 with fail
      obtain rfl : k = n := by omega
      obtain ⟨Z, hzl, hz⟩ := HR.out.z
      have HZ := Lib.hid hz
      have HZL := Lib.hid hzl
      clear hz hzl
      refine wp_region_lit ?_
      go_wp2_with (first
        | (refine wpList_load_pin rfl 74 (.tmp 5) rfl HR.out.q (by simp [Act.eval, Act.put]) _ Try.underlying74 rfl 57 size_rrow (roL_len _ _ _ _ _) ?_)
        | (refine wpList_store_pin rfl 74 (.tmp 4) (.tmp 60) rfl HZ.out (roL true (plC c) A' k p') (by simp [Act.eval, Act.put]) (by simp [Act.eval, Act.put]) 57 size_rrow HZL.out (roL_len _ _ _ _ _) (roL_one _ _ _ _ _) ?_; intro w2 p2 b2))
      have hld := p2.var 74 _ Try.underlying74 rfl 57 size_rrow (roL_len _ _ _ _ _)
      exact bodyPost_ret (v := .agg (roL true (plC c) A' k p').toArray) (by simp [results, Try.results61, asAddr, Act.put, hld]) rfl ⟨A', p', rfl, ownsF_mono (ownsF_but HO.out b2 (fun g hg => by have := ownsF_lt HO.out hg; have := HR.out.lo; omega)) (Nat.zero_le _), HR.out.b.trans (b2.low (Nat.le_succ _))⟩
/-- In one word. -/
theorem rplain_any (N : Int) (n : Nat) (hN : N = (n : Int)) (hn : n ≤ 16) (r : Rw) (hm : r.n ≤ 65536) (w : World) (hT : LiesH w w.heap.size r.A r.n r.T) :
    Calls Try.prog 61 #[.int .i64 N, .agg r.l.toArray] w fun e w' => ∃ Q : Rw, e = .returned (.agg Q.l.toArray) ∧ Q.ro = plR n r.ro ∧ OwnT w' Q ∧ Below w.heap.size w w' := by
  subst hN
  obtain ⟨b, c, A, m, p, T⟩ := r
  cases b
  · exact (rplain_no n false c A m p rfl w).mono fun e w' ⟨h1, h2⟩ => ⟨rwN, h1, rfl, OwnT.nil_ _ _ _, h2⟩
  · exact (rplain_yes n hn c A m p hm T w hT).mono fun e w' ⟨A', p', h1, h2, h3⟩ => ⟨⟨true, plC c, A', n, p', fun i => plH (fitH T m i)⟩, h1, rfl, h2, h3⟩
end Go.Proofs.Ytcangipaoancnaa

namespace Go.Proofs.Ytcangipaoancnaa
open Go.RowKit
set_option linter.unusedVariables false
set_option linter.unusedSimpArgs false

set_option maxRecDepth 100000 in
theorem elemRRows : Try.prog.underlying 60 = some (.slice 74) := by kernel_rfl
set_option maxRecDepth 100000 in
theorem sizeRRows (w : World) : (sizeOf 74).run Try.prog w = .ok 57 w := by kernel_rfl
set_option maxRecDepth 100000 in
theorem idxRRows {A : Option Addr} {n : Nat} (c : Nat) {k b off : Nat} (hA : A = some ⟨b, off, none⟩) (hk : k < n) (w : World) :
    (Instr.indexAt 60 (.slice A n c) (.int .i64 (k : Int))).run Try.prog w = .ok (.pointer (some ⟨b, off + k * 57, none⟩)) w := by
  subst hA
  rw [run_indexAt_slice (h := elemRRows), if_pos (by omega), show Try.prog.elem 60 = 74 by kernel_rfl, sizeRRows]
  simp [Result.andThen, Addr.add_lit]
/-- Rows whose tables are their own, in a list. -/
def OwnTs (w : World) (k : Nat) (Q : Nat → Rw) : Prop := ∀ i, i < k → OwnT w (Q i)
theorem OwnTs.on {w w' : World} {k : Nat} {Q : Nat → Rw} (h : OwnTs w k Q) (hb : Below w.heap.size w w') : OwnTs w' k Q := fun i hi => (h i hi).on hb
theorem OwnTs.kept {w w' : World} {k : Nat} {Q : Nat → Rw} {ts : List TypeId} (h : OwnTs w k Q) (hk : KeptBut w w' ts) (ht : 106 ∉ ts) : OwnTs w' k Q := fun i hi => (h i hi).kept hk ht
/-- The boxes of Norm: the word, the result, what is to be; its rows. -/
structure NB (w : World) (A : Option Addr) (m c k : Nat) (A' : Option Addr) (c' : Nat) (Q : Nat → Rw) (U : World) : Prop where
  x : Blk U w.heap.size 63 #[.slice A m c]
  z : Blk U (w.heap.size + 1) 63 #[.slice none 0 0]
  q : Blk U (w.heap.size + 1 + 1) 63 #[.slice A' k c']
  r : U.ownsRow (w.heap.size + 3) 74 57 (.slice A' k c') k (flL (fun i => (Q i).l) k)
  t : OwnTs U k Q
  b : Below w.heap.size w U
theorem NB.on {w U V : World} {A A' : Option Addr} {m c k c' : Nat} {Q : Nat → Rw} (h : NB w A m c k A' c' Q U) (b : Below U.heap.size U V) : NB w A m c k A' c' Q V := ⟨h.x.on b, h.z.on b, h.q.on b, ownsF_on h.r b, h.t.on b, below_then h.b b⟩
theorem NB.lt {w U : World} {A A' : Option Addr} {m c k c' : Nat} {Q : Nat → Rw} (h : NB w A m c k A' c' Q U) : w.heap.size + 2 < U.heap.size := h.q.lt
theorem NB.but {w U V : World} {A A' : Option Addr} {m c k c' g : Nat} {Q : Nat → Rw} {cs : Array Value} (h : NB w A m c k A' c' Q U) (hB : Blk U g 74 cs) (b : But g U V) (hg : w.heap.size + 2 < g) (hne : ∀ q, A' = some ⟨q, 0, none⟩ → q ≠ g) : NB w A m c k A' c' Q V :=
  ⟨b.blk h.x (by omega), b.blk h.z (by omega), b.blk h.q (by omega), ownsF_but h.r b hne, h.t.kept (b.kept hB) (by decide), h.b.trans (b.low (by omega))⟩
/-- .. and a row in a block of its own. -/
structure NH (w : World) (A : Option Addr) (m c k : Nat) (A' : Option Addr) (c' : Nat) (Q : Nat → Rw) (h : Nat) (X : List Value) (U : World) : Prop where
  n : NB w A m c k A' c' Q U
  s : PIn U h 0 74 [] [] X
  ne : ∀ q, A' = some ⟨q, 0, none⟩ → q ≠ h
  lo : w.heap.size + 2 < h
theorem NB.start (w : World) (A : Option Addr) (m c : Nat) (Q : Nat → Rw) : NB w A m c 0 none 0 Q (((w.alloc (.cells #[.slice A m c] 63)).alloc (.cells #[.slice none 0 0] 63)).alloc (.cells #[.slice none 0 0] 63)) := by
  refine ⟨((Blk.new w _ _).alloc _).alloc _, ?_, ?_, ownsF_nil, fun i hi => absurd hi (by omega), below_al (below_al (below_al (Below.refl _ w) _) _) _⟩
  · have := (Blk.new (w.alloc (.cells #[.slice A m c] 63)) 63 #[.slice none 0 0]).alloc (.cells #[.slice none 0 0] 63)
    rwa [alloc_size] at this
  · have := Blk.new ((w.alloc (.cells #[.slice A m c] 63)).alloc (.cells #[.slice none 0 0] 63)) 63 #[.slice none 0 0]
    rwa [alloc_size, alloc_size] at this
theorem NB.set_ {w U : World} {A A' : Option Addr} {m c k c' : Nat} {Q2 : Nat → Rw} (hx : Blk U w.heap.size 63 #[.slice A m c]) (hz : Blk U (w.heap.size + 1) 63 #[.slice none 0 0]) (hq : Blk U (w.heap.size + 1 + 1) 63 #[.slice A' k c']) (hb : Below w.heap.size w U) (A2 : Option Addr) (c2 j : Nat) (h2 : U.ownsRow (w.heap.size + 3) 74 57 (.slice A2 j c2) j (flL (fun i => (Q2 i).l) j)) (ht : OwnTs U j Q2) : NB w A m c j A2 c2 Q2 (U.setCell ⟨w.heap.size + 1 + 1, 0, none⟩ (.slice A2 j c2)) := by
  have b := But.one (u := U) (g := w.heap.size + 1 + 1) 0 (.slice A2 j c2)
  exact ⟨b.blk hx (by omega), b.blk hz (by omega), hq.set_ 0 _, ownsF_but h2 b (fun g hg => by have := ownsF_lt h2 hg; omega), ht.kept (b.kept hq) (by decide), hb.trans (b.low (by omega))⟩
set_option maxRecDepth 100000 in
set_option maxHeartbeats 1000000 in
theorem rnorm_bad (N : Int) (hN : nmB N = false) (A : Option Addr) (m c : Nat) (w : World) :
    Calls Try.prog 55 #[.int .i64 N, .agg #[.slice A m c]] w fun e w' => e = .returned (.agg #[.slice none 0 0]) ∧ Below w.heap.size w w' := by
  have HN := Lib.hid hN
  clear hN
  go_enter Try.func55, Try.ntmps55
  go_upto_region 2 with fail
  refine wp_at (NB w A m c 0 none 0 (fun _ => rwN)) (NB.start _ _ _ _ _) ?_
  intro U hU
  have HU := Lib.hid hU
  clear hU
  go_wp2_with fail
  go_loopw [6] (fun s wr => s = .int .i64 0 ∧ Hid (NB w A m c 0 none 0 (fun _ => rwN) wr)) (fun s _ => 0)
  case atStart => exact ⟨rfl, HU⟩
  case round =>
    obtain ⟨rfl, HB⟩ := hrel
    have cq : wr.cell? ⟨w.heap.size + 1 + 1, 0, none⟩ = some (.slice none 0 0) := (HB.out.q.cell 0).trans rfl
    have cz : wr.cell? ⟨w.heap.size + 1, 0, none⟩ = some (.slice none 0 0) := (HB.out.z.cell 0).trans rfl
    have fz := HB.out.z.frozen 0
    have lq := HB.out.q.lt
    have lz := HB.out.z.lt
    have b := But.one (u := wr) (g := w.heap.size + 1) 0 (.slice none 0 0)
    have HBL := Lib.hid (HB.out.b.trans (b.low (by omega)))
    clear b
    by_cases h0 : 0 < N
    · have h1 : ¬ N ≤ 16 := by have := HN.out; unfold nmB at this; simp at this; omega
      go_wp2_with fail
      exact bodyPost_ret (v := .agg #[.slice none 0 0]) (by simp [results, Try.results55, go_sem, cz, lz]) rfl ⟨rfl, HBL.out⟩
    · go_wp2_with fail
      exact bodyPost_ret (v := .agg #[.slice none 0 0]) (by simp [results, Try.results55, go_sem, cz, lz]) rfl ⟨rfl, HBL.out⟩
set_option maxRecDepth 100000 in
set_option maxHeartbeats 4000000 in
theorem rnorm_yes (n : Nat) (hn : n ≤ 16) (A : Option Addr) (m c : Nat) (hm : m ≤ 65536) (R : Nat → Rw) (hRn : ∀ i, i < m → (R i).n ≤ 65536) (w : World) (hR : LiesR w w.heap.size A m R) :
    Calls Try.prog 55 #[.int .i64 (n : Int), .agg #[.slice A m c]] w fun e w' => ∃ A' c' Q, e = .returned (.agg #[.slice A' n c']) ∧ w'.ownsRow w.heap.size 74 57 (.slice A' n c') n (flL (fun i => (Q i).l) n) ∧ OwnTs w' n Q ∧ (∀ i, i < n → (Q i).ro = plR n (fitF R m rwN i).ro) ∧ Below w.heap.size w w' := by
  have HR := Lib.hid hR
  have HRN := Lib.hid hRn
  have HN := Lib.hid hn
  have HM := Lib.hid hm
  obtain ⟨i0, hi0, hz0, hz1, hz2⟩ := info_parts infoRRow
  have HI := Lib.hid hi0
  have HZ0 := Lib.hid hz0
  have HZ1 := Lib.hid hz1
  have HZ2 := Lib.hid hz2
  clear hR hRn hm hi0 hz0 hz1 hz2
  go_enter Try.func55, Try.ntmps55
  go_upto_region 2 with fail
  refine wp_at (NB w A m c 0 none 0 (fun _ => rwN)) (NB.start _ _ _ _ _) ?_
  intro U hU
  have HU := Lib.hid hU
  clear hU
  go_wp2_with fail
  go_loopw [6] (fun s wr => ∃ k : Nat, k ≤ n ∧ s = .int .i64 (k : Int) ∧ ∃ (A' : Option Addr) (c' : Nat) (Q : Nat → Rw), Hid (NB w A m c k A' c' Q wr) ∧ Hid (∀ i, i < k → (Q i).ro = plR n (fitF R m rwN i).ro)) (fun s _ => n - (intOf s).toNat)
  case atStart => exact ⟨0, by omega, rfl, none, 0, _, HU, Lib.hid fun i hi => absurd hi (by omega)⟩
  case round =>
    clear HU
    obtain ⟨k, hk, rfl, A', c', Q, HB, HQ⟩ := hrel
    by_cases hlt : k < n
    · have HZN : Hid (∀ Z : Array Value, Z.size = 57 → PIn (wr.alloc (.cells Z 74)) wr.heap.size 0 74 [] [] Z.toList ∧ Z.toList.length = 57) := Lib.hid (fun Z hZ => ⟨Blk.pin (by simpa using Blk.new wr 74 Z), by simpa using hZ⟩)
      have hlo := HB.out.lt
      have e1 : (n : Int) ≤ 16 := by omega
      go_upto_region 6 with (refine wpList_store_pin rfl 74 (.tmp 7) (.tmp 18) rfl (HZN.out _ rfl).1 (roL false ceN none 0 0) (by simp [Act.eval, Act.put]) (by kernel_rfl) 57 size_rrow (HZN.out _ rfl).2 (roL_len _ _ _ _ _) (roL_one _ _ _ _ _) ?_; intro w1 p1 b1; have HP1 := Lib.hid p1; have HB1 := Lib.hid b1; clear p1 b1)
      refine wp_at (NH w A m c k A' c' Q wr.heap.size (roL false ceN none 0 0)) (by
        have hne : ∀ q, A' = some ⟨q, 0, none⟩ → q ≠ wr.heap.size := fun q hq => by have := ownsF_lt HB.out.r hq; omega
        exact ⟨(HB.out.on (below_al (Below.refl _ wr) _)).but (Blk.new wr 74 _) HB1.out hlo hne, HP1.out, hne, hlo⟩) ?_
      intro U hU
      obtain ⟨h, hh⟩ : ∃ h, h = wr.heap.size := ⟨_, rfl⟩
      rw [← hh] at hU ⊢
      clear hh HZN HP1 HB1 hlo HB
      have HU := Lib.hid hU
      have cx : U.cell? ⟨w.heap.size, 0, none⟩ = some (.slice A m c) := (hU.n.x.cell 0).trans rfl
      have lx := hU.n.x.lt
      have lq := hU.n.q.lt
      have lh := hU.s.lt
      clear hU
      by_cases hkm : k < m
      · obtain ⟨tb, toff, rfl, htb, hct⟩ := HR.out.f (by omega)
        have hix := fun W => idxRRows (A := some ⟨tb, toff, none⟩) (n := m) c rfl hkm W
        have HRG : Hid (U.rangeAt tb (toff + k * 57) (R k).l) := Lib.hid (fun j v hv => (HU.out.n.b.cell (p := ⟨tb, _, none⟩) htb).trans (hct k hkm j v hv))
        have HTR : Hid (LiesH U U.heap.size (R k).A (R k).n (R k).T) := Lib.hid (((HR.out.t k hkm).low HU.out.n.b).up HU.out.n.b.size)
        have HRK := Lib.hid (HRN.out k hkm)
        clear hct htb
        go_upto_region 8 with (first
          | (refine wpList_load_mid rfl 74 (.tmp 28) rfl tb (toff + k * 57) (by simp [Act.eval, Act.put]) (R k).l _ HRG.out Try.underlying74 rfl (by rw [size_rrow, Rw.l_len]) ?_)
          | (go_at_call 61; (with_reducible refine (rplain_any _ n rfl HN.out (R k) HRK.out _ HTR.out).mono ?_); rintro e w1 ⟨X, rfl, x1, x2, x3⟩; have HX1 := Lib.hid x1; have HX2 := Lib.hid x2; have HX3 := Lib.hid x3; have hs1 := (HU.out.s.on x3).lt; clear x1 x2 x3)
          | (refine wpList_store_pin rfl 74 (.tmp 7) (.tmp 30) rfl (HU.out.s.on HX3.out) X.l (by simp [Act.eval, Act.put]) (by simp [Act.eval, Act.put]) 57 size_rrow (roL_len _ _ _ _ _) X.l_len (roL_one _ _ _ _ _) ?_; intro w2 p2 b2; have HP2 := Lib.hid p2; have HB2 := Lib.hid b2; clear p2 b2 hs1))
        refine wp_at (fun V => ∃ X : Rw, NH w (some ⟨tb, toff, none⟩) m c k A' c' Q h X.l V ∧ X.ro = plR n (fitF R m rwN k).ro ∧ OwnT V X) ⟨X, ⟨(HU.out.n.on HX3.out).but (HU.out.s.on HX3.out).blk HB2.out HU.out.lo HU.out.ne, HP2.out, HU.out.ne, HU.out.lo⟩, by rw [HX1.out]; simp [fitF, hkm], HX2.out.kept (HB2.out.kept (HU.out.s.on HX3.out).blk) (by decide)⟩ ?_
        clear cx lx lq lh HU HRG HTR HRK HX1 HX2 HX3 HP2 HB2
        intro U2 hU2
        obtain ⟨X, hX⟩ := hU2
        have HU2 := Lib.hid hX.1
        have HX2 := Lib.hid hX.2.1
        have HX3 := Lib.hid hX.2.2
        have cq : U2.cell? ⟨w.heap.size + 1 + 1, 0, none⟩ = some (.slice A' k c') := (hX.1.n.q.cell 0).trans rfl
        have lq2 := hX.1.n.q.lt
        have lh2 := hX.1.s.lt
        clear hX
        have HBS := Lib.hid (run_bsl_one (P := Try.prog) U2 60 74 i0 (roL false ceN none 0 0) 57 elemRRows HI.out HZ0.out HZ1.out (roL_len _ _ _ _ _) (by decide) (by decide) X.l X.l_len)
        have HNB := Lib.hid (HU2.out.n.on (below_al (Below.refl _ U2) (.cells X.l.toArray 74)))
        have HNR := Lib.hid (Blk.new U2 74 X.l.toArray)
        have HXT := Lib.hid (OwnT.on HX3.out (below_al (Below.refl _ U2) (.cells X.l.toArray 74)))
        go_wp2_with (first
          | (refine wpList_load_pin rfl 74 (.tmp 7) rfl HU2.out.s (by simp [Act.eval, Act.put]) _ Try.underlying74 rfl 57 size_rrow X.l_len ?_)
          | (refine wpList_bsl rfl 60 1 _ rfl #[(0, .agg X.l.toArray)] (by simp [Act.eval, Act.put]) _ _ HBS.out ?_)
          | (at_builtin; refine wpList_append_G rfl (.tmp 32) (.tmp 34) 60 rfl (w.heap.size + 3) 74 i0 _ 57 160 elemRRows HI.out HZ0.out HZ1.out HZ2.out (by simp [Value.cells, roL_len]) (by decide) A' k c' _ (by simp [Act.eval, Act.put]) HNB.out.r U2.heap.size 1 1 X.l (by simp [Act.eval, Act.put]) HNR.out X.l_len (roL_one _ _ _ _ _) (by decide) (by unfold maxLen; omega) (by omega) (by simp; omega) ?_; intro A2 c2 w2 hO2 hb2 hk2; have HO2 := Lib.hid hO2; have HB2 := Lib.hid hb2; have HK2 := Lib.hid hk2; have cq' : w2.cell? ⟨w.heap.size + 1 + 1, 0, none⟩ = some (.slice A' k c') := ((HNB.out.q.below hb2 (by omega)).cell 0).trans rfl; have fq' := (HNB.out.q.below hb2 (by omega)).frozen 0; have lq' := (HNB.out.q.below hb2 (by omega)).lt; clear hO2 hb2 hk2))
        go_roundw
        case rel =>
          refine ⟨k + 1, by omega, by go_num, A2, c2, fun i => if i = k then X else Q i, Lib.hid (NB.set_ (HNB.out.x.below HB2.out (by omega)) (HNB.out.z.below HB2.out (by omega)) (HNB.out.q.below HB2.out (by omega)) (HNB.out.b.trans (HB2.out.mono (by omega))) A2 c2 (k + 1) ?_ ?_), Lib.hid ?_⟩
          · have := HO2.out
            rw [show flL (fun i => (Q i).l) k ++ X.l = flL (fun i => ((if i = k then X else Q i : Rw)).l) (k + 1) by rw [flL_succ, if_pos rfl]; congr 1; exact flL_congr fun i hi => by rw [if_neg (by omega)]] at this
            exact this
          · intro i hi
            by_cases e : i = k
            · simp only [e, if_true]; exact HXT.out.kept HK2.out (by decide)
            · simp only [e, if_false]; exact (HNB.out.t i (by omega)).kept HK2.out (by decide)
          · intro i hi
            by_cases e : i = k
            · simp only [e, if_true]; exact HX2.out
            · simp only [e, if_false]; exact HQ.out i (by omega)
        case measure => simp [intOf]; omega
      · go_upto_region 8 with fail
        refine wp_at (fun V => ∃ X : Rw, NH w _ m c k A' c' Q h X.l V ∧ X.ro = plR n (fitF R m rwN k).ro ∧ OwnT V X) ⟨rwN, HU.out, by simp [fitF, hkm, plR, rwN, Rw.ro, roN], OwnT.nil_ _ _ _⟩ ?_
        clear cx lx lq lh HU
        intro U2 hU2
        obtain ⟨X, hX⟩ := hU2
        have HU2 := Lib.hid hX.1
        have HX2 := Lib.hid hX.2.1
        have HX3 := Lib.hid hX.2.2
        have cq : U2.cell? ⟨w.heap.size + 1 + 1, 0, none⟩ = some (.slice A' k c') := (hX.1.n.q.cell 0).trans rfl
        have lq2 := hX.1.n.q.lt
        have lh2 := hX.1.s.lt
        clear hX
        have HBS := Lib.hid (run_bsl_one (P := Try.prog) U2 60 74 i0 (roL false ceN none 0 0) 57 elemRRows HI.out HZ0.out HZ1.out (roL_len _ _ _ _ _) (by decide) (by decide) X.l X.l_len)
        have HNB := Lib.hid (HU2.out.n.on (below_al (Below.refl _ U2) (.cells X.l.toArray 74)))
        have HNR := Lib.hid (Blk.new U2 74 X.l.toArray)
        have HXT := Lib.hid (OwnT.on HX3.out (below_al (Below.refl _ U2) (.cells X.l.toArray 74)))
        go_wp2_with (first
          | (refine wpList_load_pin rfl 74 (.tmp 7) rfl HU2.out.s (by simp [Act.eval, Act.put]) _ Try.underlying74 rfl 57 size_rrow X.l_len ?_)
          | (refine wpList_bsl rfl 60 1 _ rfl #[(0, .agg X.l.toArray)] (by simp [Act.eval, Act.put]) _ _ HBS.out ?_)
          | (at_builtin; refine wpList_append_G rfl (.tmp 32) (.tmp 34) 60 rfl (w.heap.size + 3) 74 i0 _ 57 160 elemRRows HI.out HZ0.out HZ1.out HZ2.out (by simp [Value.cells, roL_len]) (by decide) A' k c' _ (by simp [Act.eval, Act.put]) HNB.out.r U2.heap.size 1 1 X.l (by simp [Act.eval, Act.put]) HNR.out X.l_len (roL_one _ _ _ _ _) (by decide) (by unfold maxLen; omega) (by omega) (by simp; omega) ?_; intro A2 c2 w2 hO2 hb2 hk2; have HO2 := Lib.hid hO2; have HB2 := Lib.hid hb2; have HK2 := Lib.hid hk2; have cq' : w2.cell? ⟨w.heap.size + 1 + 1, 0, none⟩ = some (.slice A' k c') := ((HNB.out.q.below hb2 (by omega)).cell 0).trans rfl; have fq' := (HNB.out.q.below hb2 (by omega)).frozen 0; have lq' := (HNB.out.q.below hb2 (by omega)).lt; clear hO2 hb2 hk2))
        go_roundw
        case rel =>
          refine ⟨k + 1, by omega, by go_num, A2, c2, fun i => if i = k then X else Q i, Lib.hid (NB.set_ (HNB.out.x.below HB2.out (by omega)) (HNB.out.z.below HB2.out (by omega)) (HNB.out.q.below HB2.out (by omega)) (HNB.out.b.trans (HB2.out.mono (by omega))) A2 c2 (k + 1) ?_ ?_), Lib.hid ?_⟩
          · have := HO2.out
            rw [show flL (fun i => (Q i).l) k ++ X.l = flL (fun i => ((if i = k then X else Q i : Rw)).l) (k + 1) by rw [flL_succ, if_pos rfl]; congr 1; exact flL_congr fun i hi => by rw [if_neg (by omega)]] at this
            exact this
          · intro i hi
            by_cases e : i = k
            · simp only [e, if_true]; exact HXT.out.kept HK2.out (by decide)
            · simp only [e, if_false]; exact (HNB.out.t i (by omega)).kept HK2.out (by decide)
          · intro i hi
            by_cases e : i = k
            · simp only [e, if_true]; exact HX2.out
            · simp only [e, if_false]; exact HQ.out i (by omega)
        case measure => simp [intOf]; omega
    · obtain rfl : k = n := by omega
      have cq : wr.cell? ⟨w.heap.size + 1 + 1, 0, none⟩ = some (.slice A' k c') := (HB.out.q.cell 0).trans rfl
      have cz : wr.cell? ⟨w.heap.size + 1, 0, none⟩ = some (.slice none 0 0) := (HB.out.z.cell 0).trans rfl
      have fz := HB.out.z.frozen 0
      have lq := HB.out.q.lt
      have lz := HB.out.z.lt
      go_wp2_with fail
      have b := But.one (u := wr) (g := w.heap.size + 1) 0 (.slice A' k c')
      exact bodyPost_ret (v := .agg #[.slice A' k c']) (by simp [results, Try.results55, go_sem, cz, lz]) rfl ⟨A', c', Q, rfl, ownsF_mono (ownsF_but HB.out.r b (fun g hg => by have := ownsF_lt HB.out.r hg; omega)) (by omega), HB.out.t.kept (b.kept HB.out.z) (by decide), HQ.out, HB.out.b.trans (b.low (by omega))⟩
end Go.Proofs.Ytcangipaoancnaa

namespace Go.Proofs.Ytcangipaoancnaa
open Go.RowKit
set_option linter.unusedVariables false
set_option linter.unusedSimpArgs false

set_option maxRecDepth 100000 in
set_option maxHeartbeats 4000000 in
theorem rsame_rows (a b : Rw) (hn : a.n ≤ 65536) (hm : b.n ≤ 65536) (w : World) (hT : LiesH w w.heap.size a.A a.n a.T) (hU : LiesH w w.heap.size b.A b.n b.T) :
    Calls Try.prog 58 #[.agg a.l.toArray, .agg b.l.toArray] w fun e w' => e = .returned (.bool (eqR a.ro b.ro)) ∧ Below w.heap.size w w' := by
  obtain ⟨ab, ac, aA, an, ap, aT⟩ := a
  obtain ⟨bb, bc, bA, bn, bp, bT⟩ := b
  have hT' : LiesH w w.heap.size aA an aT := hT
  have hU' : LiesH w w.heap.size bA bn bT := hU
  have HT := Lib.hid hT'
  have HU := Lib.hid hU'
  have hn' : an ≤ 65536 := hn
  have hm' : bn ≤ 65536 := hm
  clear hT hU hT' hU' hn hm
  have hq := fun W => cell_neq ac bc W
  obtain ⟨t, ht⟩ : ∃ t, t = ceE ac bc := ⟨_, rfl⟩
  rw [← ht] at hq
  have HE : Hid (eqR (Rw.ro ⟨ab, ac, aA, an, ap, aT⟩) (Rw.ro ⟨bb, bc, bA, bn, bp, bT⟩) = (ab == bb && (t && eqHs an bn aT bT))) := Lib.hid (by rw [ht]; rfl)
  clear ht
  go_enter Try.func58, Try.ntmps58
  go_upto_region 1 with fail
  refine wp_at (fun U => Blk U w.heap.size 74 (roL ab ac aA an ap).toArray ∧ Blk U (w.heap.size + 1) 74 (roL bb bc bA bn bp).toArray ∧ Below w.heap.size w U) (box_two w _ _ _ _) ?_
  rintro U ⟨h1, h2, h3⟩
  have a0 : U.cell? ⟨w.heap.size, 0, none⟩ = some (.bool ab) := (h1.pin.cell0 (by simp [roL])).trans rfl
  have b0 : U.cell? ⟨w.heap.size + 1, 0, none⟩ = some (.bool bb) := (h2.pin.cell0 (by simp [roL])).trans rfl
  have a56 := h1.rowTab
  have b56 := h2.rowTab
  have l1 := h1.lt
  have l2 := h2.lt
  have HA := Lib.hid h1
  have HBC := Lib.hid h2
  have HB := Lib.hid h3
  clear h1 h2 h3
  have hno : ∀ x : Bool, x = false → (ab == bb && (t && eqHs an bn aT bT)) = x → eqR (Rw.ro ⟨ab, ac, aA, an, ap, aT⟩) (Rw.ro ⟨bb, bc, bA, bn, bp, bT⟩) = false := fun x hx e => by rw [HE.out, e, hx]
  have HNO := Lib.hid hno
  clear hno
  by_cases hab : ab = bb
  · subst hab
    have e0 : (ab != ab) = false := by simp
    cases t
    · go_wp2_with (first
        | (refine wpList_load_want 51 (.tmp 12) rfl w.heap.size 1 (ceL ac) HA.out.rowCell (by simp [Act.eval, Act.put]) (by kernel_rfl) _ Try.underlying51 rfl (by rw [size_ce, ceL_len]) ?_)
        | (refine wpList_load_want 51 (.tmp 14) rfl (w.heap.size + 1) 1 (ceL bc) HBC.out.rowCell (by simp [Act.eval, Act.put]) (by kernel_rfl) _ Try.underlying51 rfl (by rw [size_ce, ceL_len]) ?_))
      go_ret
      rw [HNO.out _ rfl (by simp)]
      exact ⟨rfl, HB.out⟩
    · by_cases hnm : an = bn
      · subst hnm
        have e1 : ((an : Int) != (an : Int)) = false := by simp
        go_wp2_with (first
          | (refine wpList_load_want 51 (.tmp 12) rfl w.heap.size 1 (ceL ac) HA.out.rowCell (by simp [Act.eval, Act.put]) (by kernel_rfl) _ Try.underlying51 rfl (by rw [size_ce, ceL_len]) ?_)
          | (refine wpList_load_want 51 (.tmp 14) rfl (w.heap.size + 1) 1 (ceL bc) HBC.out.rowCell (by simp [Act.eval, Act.put]) (by kernel_rfl) _ Try.underlying51 rfl (by rw [size_ce, ceL_len]) ?_))
        go_loopw [5] (fun s wr => ∃ k : Nat, k ≤ an ∧ s = .int .i64 (k : Int) ∧ Hid (allE k aT bT = true) ∧ Hid (Below U.heap.size U wr)) (fun s _ => an - (intOf s).toNat)
        case atStart => exact ⟨0, by omega, rfl, Lib.hid rfl, Lib.hid (Below.refl _ _)⟩
        case round =>
          clear a0 b0 a56 b56 l1 l2 hq
          obtain ⟨k, hk, rfl, HAL, HBW⟩ := hrel
          have a56 := (HA.out.on HBW.out).rowTab
          have b56 := (HBC.out.on HBW.out).rowTab
          have l1 := (HA.out.on HBW.out).lt
          have l2 := (HBC.out.on HBW.out).lt
          by_cases hlt : k < an
          · obtain ⟨ba, oa, rfl, hba, hca⟩ := HT.out (by omega)
            obtain ⟨bd, ob, rfl, hbb, hcb⟩ := HU.out (by omega)
            have HL := Lib.hid (HB.out.trans (HBW.out.mono HB.out.size))
            have HRA : Hid (∀ u, Below w.heap.size w u → u.rangeAt ba (oa + k * 56) (heL (aT k))) := Lib.hid (fun u hb j v hv => (hb.cell (p := ⟨ba, _, none⟩) hba).trans (hca k hlt j v hv))
            have HRB : Hid (∀ u, Below w.heap.size w u → u.rangeAt bd (ob + k * 56) (heL (bT k))) := Lib.hid (fun u hb j v hv => (hb.cell (p := ⟨bd, _, none⟩) hbb).trans (hcb k hlt j v hv))
            have hixa := fun W => idxRHelds (A := some ⟨ba, oa, none⟩) (n := an) ap rfl hlt W
            have hixb := fun W => idxRHelds (A := some ⟨bd, ob, none⟩) (n := an) bp rfl hlt W
            have hne := fun W => rheld_neq (aT k) (bT k) W
            obtain ⟨t, ht⟩ : ∃ t, t = heE (aT k) (bT k) := ⟨_, rfl⟩
            rw [← ht] at hne
            have HT' := Lib.hid ht
            clear ht hca hcb hba hbb
            go_wp2_with fail
            refine Reg.wp_slots2 (fun t => decide (34 ≤ t)) (Reg.KJ wr.heap.size [] []) (Reg.KJ.drew _ (by simp)) Reg.KJ.trans (by kernel_rfl) (by kernel_rfl) (by kernel_rfl) (fun zz => (Reg.tblK [
              (34, .is (.pointer (some ⟨w.heap.size, 56, none⟩))),
              (35, .is (.slice (some ⟨ba, oa, none⟩) an ap)),
              (36, .is (.int .i64 (k : Int))),
              (37, .is (.pointer (some ⟨ba, oa + k * 56, none⟩))),
              (38, .is (.agg (heL (aT k)).toArray)),
              (39, .is (.pointer (some ⟨w.heap.size + 1, 56, none⟩))),
              (40, .is (.slice (some ⟨bd, ob, none⟩) an bp)),
              (41, .is (.int .i64 (k : Int))),
              (42, .is (.pointer (some ⟨bd, ob + k * 56, none⟩))),
              (43, .is (.agg (heL (bT k)).toArray)),
              (44, .is (.bool (!t)))] zz).P) (fun zz => (Reg.tblK _ zz).on) (fun zz => (Reg.memK [] zz).P) (fun zz => (Reg.memK _ zz).on) ?_ ?_
            · simp only [Reg.frame, Reg.over, Nat.reduceAdd, Nat.reduceLeDiff, decide_true, decide_false, if_true, Bool.false_eq_true, if_false]
              refine ⟨?_, ?_, ?_, ?_, ?_, ?_, ?_, ?_, ?_, ?_, ?_, trivial⟩
              · intro x u hku hd
                refine wpOp_step rfl fun KK hK => ?_
                go_simp
                exact hK _ _ ⟨_, rfl, Reg.KJ.refl _, fun d hd => by cases hd; exact rfl, fun h => by cases h⟩
              · intro x u hku hd
                have h34 : x 34 = .pointer (some ⟨w.heap.size, 56, none⟩) := hd 0 (by decide)
                have c35 := ((HA.out.on HBW.out).on hku.below).rowTab
                have z35 := ((HA.out.on HBW.out).on hku.below).lt
                refine wpOp_step rfl fun KK hK => ?_
                simp only [h34] at hK ⊢
                go_simp
                exact hK _ _ ⟨_, rfl, Reg.KJ.refl _, fun d hd => by cases hd; exact rfl, fun h => by cases h⟩
              · intro x u hku hd
                refine wpOp_step rfl fun KK hK => ?_
                go_simp
                exact hK _ _ ⟨_, rfl, Reg.KJ.refl _, fun d hd => by cases hd; exact rfl, fun h => by cases h⟩
              · intro x u hku hd
                have h35 : x 35 = .slice (some ⟨ba, oa, none⟩) an ap := hd 1 (by decide)
                have h36 : x 36 = .int .i64 (k : Int) := hd 2 (by decide)
                refine wpOp_step rfl fun KK hK => ?_
                simp only [h35, h36] at hK ⊢
                go_simp
                exact hK _ _ ⟨_, rfl, Reg.KJ.refl _, fun d hd => by cases hd; exact rfl, fun h => by cases h⟩
              · intro x u hku hd
                have h37 : x 37 = .pointer (some ⟨ba, oa + k * 56, none⟩) := hd 3 (by decide)
                refine wpOp_step rfl fun KK hK => ?_
                refine Reg.step_load_mid (by rfl) 106 (.tmp 37) (by rfl) ba (oa + k * 56) (by exact h37) (heL (aT k)) (HRA.out u (HL.out.trans (hku.below.mono HL.out.size))) _ Try.underlying106 rfl (by rw [size_rhe, heL_len]) ?_
                exact hK _ _ ⟨_, rfl, Reg.KJ.refl _, fun d hd => by cases hd; exact rfl, fun h => by cases h⟩
              · intro x u hku hd
                refine wpOp_step rfl fun KK hK => ?_
                go_simp
                exact hK _ _ ⟨_, rfl, Reg.KJ.refl _, fun d hd => by cases hd; exact rfl, fun h => by cases h⟩
              · intro x u hku hd
                have h39 : x 39 = .pointer (some ⟨w.heap.size + 1, 56, none⟩) := hd 5 (by decide)
                have c40 := ((HBC.out.on HBW.out).on hku.below).rowTab
                have z40 := ((HBC.out.on HBW.out).on hku.below).lt
                refine wpOp_step rfl fun KK hK => ?_
                simp only [h39] at hK ⊢
                go_simp
                exact hK _ _ ⟨_, rfl, Reg.KJ.refl _, fun d hd => by cases hd; exact rfl, fun h => by cases h⟩
              · intro x u hku hd
                refine wpOp_step rfl fun KK hK => ?_
                go_simp
                exact hK _ _ ⟨_, rfl, Reg.KJ.refl _, fun d hd => by cases hd; exact rfl, fun h => by cases h⟩
              · intro x u hku hd
                have h40 : x 40 = .slice (some ⟨bd, ob, none⟩) an bp := hd 6 (by decide)
                have h41 : x 41 = .int .i64 (k : Int) := hd 7 (by decide)
                refine wpOp_step rfl fun KK hK => ?_
                simp only [h40, h41] at hK ⊢
                go_simp
                exact hK _ _ ⟨_, rfl, Reg.KJ.refl _, fun d hd => by cases hd; exact rfl, fun h => by cases h⟩
              · intro x u hku hd
                have h42 : x 42 = .pointer (some ⟨bd, ob + k * 56, none⟩) := hd 8 (by decide)
                refine wpOp_step rfl fun KK hK => ?_
                refine Reg.step_load_mid (by rfl) 106 (.tmp 42) (by rfl) bd (ob + k * 56) (by exact h42) (heL (bT k)) (HRB.out u (HL.out.trans (hku.below.mono HL.out.size))) _ Try.underlying106 rfl (by rw [size_rhe, heL_len]) ?_
                exact hK _ _ ⟨_, rfl, Reg.KJ.refl _, fun d hd => by cases hd; exact rfl, fun h => by cases h⟩
              · intro x u hku hd
                have h38 : x 38 = .agg (heL (aT k)).toArray := hd 4 (by decide)
                have h43 : x 43 = .agg (heL (bT k)).toArray := hd 9 (by decide)
                refine wpOp_step rfl fun KK hK => ?_
                simp only [h38, h43] at hK ⊢
                go_simp
                exact hK _ _ ⟨_, rfl, Reg.KJ.refl _, fun d hd => by cases hd; exact rfl, fun h => by cases h⟩
            · intro x u hku hd
              have HBu := Lib.hid (HBW.out.trans (hku.below.mono HBW.out.size))
              have e44 : x 44 = .bool (!t) := hd 10 (by decide)
              simp only [Reg.frame, Reg.over, Nat.reduceAdd, Nat.reduceLeDiff, decide_true, decide_false, if_true, Bool.false_eq_true, if_false, e44]
              cases t
              · go_wp2_with fail
                go_ret
                refine ⟨?_, HB.out.trans (HBu.out.mono HB.out.size)⟩
                have : eqR (Rw.ro ⟨ab, ac, some ⟨ba, oa, none⟩, an, ap, aT⟩) (Rw.ro ⟨ab, bc, some ⟨bd, ob, none⟩, an, bp, bT⟩) = false := HNO.out _ rfl (by unfold eqHs; rw [allE_no hlt HT'.out.symm]; simp)
                rw [this]; rfl
              · go_wp2_with fail
                go_roundw
                case rel => exact ⟨k + 1, by omega, by go_num, Lib.hid (by rw [allE_succ, HAL.out, ← HT'.out]; rfl), HBu⟩
                case measure => simp [intOf]; omega
          · obtain rfl : k = an := by omega
            go_wp2_with fail
            go_ret
            refine ⟨?_, HB.out.trans (HBW.out.mono HB.out.size)⟩
            have : eqR (Rw.ro ⟨ab, ac, aA, k, ap, aT⟩) (Rw.ro ⟨ab, bc, bA, k, bp, bT⟩) = true := by rw [HE.out]; unfold eqHs; rw [HAL.out]; simp
            rw [this]; rfl
      · have e1 : ((an : Int) != (bn : Int)) = true := bne_iff_ne.2 (fun h => hnm (by omega))
        go_wp2_with (first
          | (refine wpList_load_want 51 (.tmp 12) rfl w.heap.size 1 (ceL ac) HA.out.rowCell (by simp [Act.eval, Act.put]) (by kernel_rfl) _ Try.underlying51 rfl (by rw [size_ce, ceL_len]) ?_)
          | (refine wpList_load_want 51 (.tmp 14) rfl (w.heap.size + 1) 1 (ceL bc) HBC.out.rowCell (by simp [Act.eval, Act.put]) (by kernel_rfl) _ Try.underlying51 rfl (by rw [size_ce, ceL_len]) ?_))
        go_ret
        rw [HNO.out _ rfl (by unfold eqHs; rw [beq_eq_false_iff_ne.2 hnm]; simp)]
        exact ⟨rfl, HB.out⟩
  · have e0 : (ab != bb) = true := bne_iff_ne.2 hab
    go_wp2_with fail
    go_ret
    rw [HNO.out _ rfl (by rw [beq_eq_false_iff_ne.2 hab]; rfl)]
    exact ⟨rfl, HB.out⟩
end Go.Proofs.Ytcangipaoancnaa

