/-
  The document's words: the contracts of the reference's said and Cell. No condition.
-/
import Derived.Test.YtmmgbhdjjejacaaWd9
namespace Go.Proofs.Ytmmgbhdjjejacaa
open Go.RowKit
set_option linter.unusedVariables false
set_option linter.unusedSimpArgs false

set_option maxRecDepth 100000 in
set_option maxHeartbeats 1000000 in
theorem rsaid_is (s : Sa) (w : World) : Calls Try.prog 58 #[.agg (saL s).toArray] w fun e w' => e = .returned (.agg (saL (plS s)).toArray) ∧ Below w.heap.size w w' := by
  have HS : Hid (plS s = if (s.i && ((decide (0 ≤ s.a) && decide (s.a ≤ 1099511627776)) && (s.k == 1 || s.k == 2))) = true then s else saN) := Lib.hid rfl
  have HB : Hid (∀ Z : Array Value, Below w.heap.size w ((w.alloc (.cells (saL s).toArray 42)).alloc (.cells Z 42))) := Lib.hid (fun Z => below_al (below_al (Below.refl _ w) _) _)
  obtain ⟨i, a, k, s', q, v⟩ := s
  show Calls Try.prog 58 #[.agg #[.bool i, .int .i64 a, .int .u8 k, .int .u8 s', .int .u32 q, .int .u32 v]] w _
  have HN : Hid (∀ b : Bool, b = false → (i && ((decide (0 ≤ a) && decide (a ≤ 1099511627776)) && (k == 1 || k == 2))) = b → plS ⟨i, a, k, s', q, v⟩ = saN) := Lib.hid (fun b hb e => by rw [HS.out]; show (if (i && _) = true then _ else _) = _; rw [e, hb]; rfl)
  have HY : Hid (∀ b : Bool, b = true → (i && ((decide (0 ≤ a) && decide (a ≤ 1099511627776)) && (k == 1 || k == 2))) = b → plS ⟨i, a, k, s', q, v⟩ = ⟨i, a, k, s', q, v⟩) := Lib.hid (fun b hb e => by rw [HS.out]; show (if (i && _) = true then _ else _) = _; rw [e, hb]; rfl)
  clear HS
  cases i
  · go_enter Try.func58, Try.ntmps58
    go_wp2_with fail
    rw [HN.out _ rfl (by rfl)]
    exact bodyPost_ret (v := .agg (saL saN).toArray) (by simp [results, Try.results58, go_sem, saL, saN]) rfl ⟨rfl, by simpa [saL] using HB.out _⟩
  by_cases h0 : 0 ≤ a
  · by_cases h1 : a ≤ 1099511627776
    · by_cases k1 : k = 1
      · subst k1
        go_enter Try.func58, Try.ntmps58
        go_wp2_with fail
        rw [HY.out _ rfl (by simp [h0, h1])]
        exact bodyPost_ret (v := .agg (saL ⟨true, a, 1, s', q, v⟩).toArray) (by simp [results, Try.results58, go_sem, saL]) rfl ⟨rfl, by simpa [saL] using HB.out _⟩
      · have e1 : (k == 1) = false := by simpa using k1
        by_cases k2 : k = 2
        · subst k2
          go_enter Try.func58, Try.ntmps58
          go_wp2_with fail
          rw [HY.out _ rfl (by simp [h0, h1])]
          exact bodyPost_ret (v := .agg (saL ⟨true, a, 2, s', q, v⟩).toArray) (by simp [results, Try.results58, go_sem, saL]) rfl ⟨rfl, by simpa [saL] using HB.out _⟩
        · have e2 : (k == 2) = false := by simpa using k2
          go_enter Try.func58, Try.ntmps58
          go_wp2_with fail
          rw [HN.out _ rfl (by simp [e1, e2])]
          exact bodyPost_ret (v := .agg (saL saN).toArray) (by simp [results, Try.results58, go_sem, saL, saN]) rfl ⟨rfl, by simpa [saL] using HB.out _⟩
    · go_enter Try.func58, Try.ntmps58
      go_wp2_with fail
      rw [HN.out _ rfl (by rw [decide_eq_false (show ¬ a ≤ 1099511627776 by omega)]; simp)]
      exact bodyPost_ret (v := .agg (saL saN).toArray) (by simp [results, Try.results58, go_sem, saL, saN]) rfl ⟨rfl, by simpa [saL] using HB.out _⟩
  · go_enter Try.func58, Try.ntmps58
    go_wp2_with fail
    rw [HN.out _ rfl (by rw [decide_eq_false (show ¬ 0 ≤ a by omega)]; simp)]
    exact bodyPost_ret (v := .agg (saL saN).toArray) (by simp [results, Try.results58, go_sem, saL, saN]) rfl ⟨rfl, by simpa [saL] using HB.out _⟩
theorem ce_c (c : Ce) : (ceL c)[53]? = some (.int .i8 c.v.c) := by
  unfold ceL
  rw [List.getElem?_cons_succ, List.getElem?_append_right (by rw [saL_len]; omega), saL_len, List.getElem?_append_right (by rw [saL_len]; omega), saL_len]
  exact vw_c c.v
theorem ce_d (c : Ce) : (ceL c)[54]? = some (.int .u8 c.v.d) := by
  unfold ceL
  rw [List.getElem?_cons_succ, List.getElem?_append_right (by rw [saL_len]; omega), saL_len, List.getElem?_append_right (by rw [saL_len]; omega), saL_len]
  exact vw_d c.v
theorem ce_setC (c : Ce) (x : Int) : (ceL c).set 53 (.int .i8 x) = ceL { c with v := { c.v with c := x } } := by
  unfold ceL
  rw [List.set_cons_succ, List.set_append_right _ _ (by rw [saL_len]; omega), saL_len, List.set_append_right _ _ (by rw [saL_len]; omega), saL_len]
  exact congrArg (fun l => Value.int .i64 c.a :: (saL c.o ++ (saL c.r ++ l))) (vw_setC c.v x)
theorem ce_setD (c : Ce) (x : Int) : (ceL c).set 54 (.int .u8 x) = ceL { c with v := { c.v with d := x } } := by
  unfold ceL
  rw [List.set_cons_succ, List.set_append_right _ _ (by rw [saL_len]; omega), saL_len, List.set_append_right _ _ (by rw [saL_len]; omega), saL_len]
  exact congrArg (fun l => Value.int .i64 c.a :: (saL c.o ++ (saL c.r ++ l))) (vw_setD c.v x)
def RC (w : World) (c : Ce) (U : World) : Prop := PIn U w.heap.size 0 51 [] [] (ceL c) ∧ (∃ Z : List Value, Z.length = 55 ∧ PIn U (w.heap.size + 1) 0 51 [] [] Z) ∧ Below w.heap.size w U
theorem RC.turn {w U V : World} {c d : Ce} (h : RC w c U) (p : PIn V w.heap.size 0 51 [] [] (ceL d)) (b : But w.heap.size U V) : RC w d V := by
  obtain ⟨h1, ⟨Z, h2, h3⟩, h4⟩ := h
  exact ⟨p, ⟨Z, h2, h3.but b (by omega)⟩, h4.trans (b.low (Nat.le_refl _))⟩
theorem RC.on {w U V : World} {c : Ce} (h : RC w c U) (b : Below U.heap.size U V) : RC w c V := by
  obtain ⟨h1, ⟨Z, h2, h3⟩, h4⟩ := h
  exact ⟨h1.on b, ⟨Z, h2, h3.on b⟩, below_then h4 b⟩
theorem RC.start (w : World) (c : Ce) (Z : Array Value) (hZ : Z.size = 55) : RC w c ((w.alloc (.cells (ceL c).toArray 51)).alloc (.cells Z 51)) := by
  have := Boxed.mk_ w 51 51 (ceL c) Z 55 hZ
  exact ⟨this.x.pin, this.res, this.b⟩
set_option maxRecDepth 100000 in
theorem size_sa : (Try.prog.info? 42).map (·.size) = some 6 := by kernel_rfl
set_option maxRecDepth 100000 in
set_option maxHeartbeats 4000000 in
theorem rcell_is (c : Ce) (w : World) : Calls Try.prog 28 #[.agg (ceL c).toArray] w fun e w' => e = .returned (.agg (ceL (plC c)).toArray) ∧ Below w.heap.size w w' := by
  have HE : Hid (({ { { { c with a := plA1 c.a } with o := plS c.o } with r := plS c.r } with v := plV c.v } : Ce) = plC c) := Lib.hid rfl
  go_enter Try.func28, Try.ntmps28
  go_upto_region 1 with fail
  refine wp_at (RC w c) (RC.start _ _ _ rfl) ?_
  intro U hU
  have c0 : U.cell? ⟨w.heap.size, 0, none⟩ = some (.int .i64 c.a) := (hU.1.cell0 (by simp [ceL_len])).trans rfl
  have f0 := hU.1.frozen 0
  have l0 := hU.1.lt
  have HU := Lib.hid hU
  have HA : Hid (∀ y, y = plA1 c.a → RC w { c with a := plA1 c.a } (U.setCell ⟨w.heap.size, 0, none⟩ (.int .i64 y))) := Lib.hid (fun y hy => by subst hy; exact hU.turn ((hU.1.set_ 0 _ (by simp [ceL_len])).cs rfl) (But.one 0 _))
  clear hU
  obtain ⟨x, hx⟩ : ∃ x, x = c.a := ⟨_, rfl⟩
  have HX := Lib.hid hx
  rw [← hx] at c0
  clear hx
  have stage : ∀ W, RC w { c with a := plA1 c.a } W → True := fun _ _ => trivial
  clear stage
  by_cases h0 : x < 0
  · go_upto_region 3 with fail
    refine wp_at (RC w { c with a := plA1 c.a }) (HA.out _ (by rw [← HX.out]; unfold plA1 tmB; rw [decide_eq_false (by omega)]; rfl)) ?_
    clear c0 f0 l0 HU HA
    generalize hya : plA1 c.a = ya
    intro U1 hU1
    obtain ⟨d, hd⟩ : ∃ d : Ce, d = { c with a := ya } := ⟨_, rfl⟩
    rw [← hd] at hU1
    have HYA := Lib.hid hya
    have HD := Lib.hid hd
    clear hya hd
    have hp2 := PIn.part (P := [.int .i64 d.a]) (M := saL d.o) (S := saL d.r ++ vwL d.v) (o := 1) hU1.1 rfl
    have HP2 := Lib.hid hp2
    have HU2 := Lib.hid hU1
    have hl2 := hU1.1.lt
    clear hp2 hU1
    go_upto_region 4 with (first
      | (refine wpList_load_pin rfl 42 (.tmp 12) rfl HP2.out (by simp [Act.eval]) _ Try.underlying42 rfl 6 size_sa rfl ?_)
      | (go_at_call 58; (with_reducible refine (rsaid_is _ _).mono ?_); rintro e w1 ⟨rfl, b1⟩; have hl1 := (HP2.out.on b1).lt)
      | (refine wpList_store_pin rfl 42 (.tmp 15) (.tmp 14) rfl (HP2.out.on b1) (saL (plS d.o)) (by simp [Act.eval]) (by simp [Act.eval]) 6 size_sa rfl rfl (saL_one _) ?_; intro w2 p2 b2))
    refine wp_at (RC w { d with o := plS d.o }) ((HU2.out.on b1).turn (PIn.whole (P := [.int .i64 d.a]) (S := saL d.r ++ vwL d.v) p2 rfl) b2) ?_
    clear HP2 HU2 p2 b2 b1 hl1 hl2
    generalize hyo : plS d.o = y2
    intro U2 hU2
    obtain ⟨d2, hd2⟩ : ∃ d2 : Ce, d2 = { d with o := y2 } := ⟨_, rfl⟩
    rw [← hd2] at hU2
    have HYO := Lib.hid hyo
    have HD2 := Lib.hid hd2
    clear hyo hd2
    have hp3 := PIn.part (P := .int .i64 d2.a :: saL d2.o) (M := saL d2.r) (S := vwL d2.v) (o := 7) hU2.1 rfl
    have HP3 := Lib.hid hp3
    have HU3 := Lib.hid hU2
    have hl3 := hU2.1.lt
    clear hp3 hU2
    go_upto_region 5 with (first
      | (refine wpList_load_pin rfl 42 (.tmp 16) rfl HP3.out (by simp [Act.eval]) _ Try.underlying42 rfl 6 size_sa rfl ?_)
      | (go_at_call 58; (with_reducible refine (rsaid_is _ _).mono ?_); rintro e w1 ⟨rfl, b1⟩; have hl1 := (HP3.out.on b1).lt)
      | (refine wpList_store_pin rfl 42 (.tmp 19) (.tmp 18) rfl (HP3.out.on b1) (saL (plS d2.r)) (by simp [Act.eval]) (by simp [Act.eval]) 6 size_sa rfl rfl (saL_one _) ?_; intro w2 p2 b2))
    refine wp_at (RC w { d2 with r := plS d2.r }) ((HU3.out.on b1).turn (PIn.whole (P := .int .i64 d2.a :: saL d2.o) (S := vwL d2.v) p2 rfl) b2) ?_
    clear HP3 HU3 p2 b2 b1 hl1 hl3
    generalize hyr : plS d2.r = y3
    intro U3 hU3
    obtain ⟨d3, hd3⟩ : ∃ d3 : Ce, d3 = { d2 with r := y3 } := ⟨_, rfl⟩
    rw [← hd3] at hU3
    have HYR := Lib.hid hyr
    have HD3 := Lib.hid hd3
    clear hyr hd3
    have c53 : U3.cell? ⟨w.heap.size, 53, none⟩ = some (.int .i8 d3.v.c) := by have := hU3.1.cell 53 (by simp [ceL_len]); rw [Nat.zero_add] at this; rw [this, ce_c]
    have c54 : U3.cell? ⟨w.heap.size, 54, none⟩ = some (.int .u8 d3.v.d) := by have := hU3.1.cell 54 (by simp [ceL_len]); rw [Nat.zero_add] at this; rw [this, ce_d]
    have hA1 : PIn (U3.setCell ⟨w.heap.size, 53, none⟩ (.int .i8 (-1))) w.heap.size 0 51 [] [] (ceL { d3 with v := { d3.v with c := -1 } }) := by
      have := hU3.1.set_ 53 (.int .i8 (-1)) (by simp [ceL_len])
      rwa [Nat.zero_add, ce_setC] at this
    have c54' : (U3.setCell ⟨w.heap.size, 53, none⟩ (.int .i8 (-1))).cell? ⟨w.heap.size, 54, none⟩ = some (.int .u8 d3.v.d) := by have := hA1.cell 54 (by simp [ceL_len]); rw [Nat.zero_add] at this; rw [this, ce_d]
    have f53 := hU3.1.frozen 53
    have f54 := hU3.1.frozen 54
    have f54' := hA1.frozen 54
    have l3 := hU3.1.lt
    have HA := Lib.hid (hU3.turn hA1 (But.one 53 _))
    have HAB : Hid (RC w { d3 with v := { d3.v with c := -1, d := 0 } } ((U3.setCell ⟨w.heap.size, 53, none⟩ (.int .i8 (-1))).setCell ⟨w.heap.size, 54, none⟩ (.int .u8 0))) := Lib.hid ((hU3.turn hA1 (But.one 53 _)).turn (by have := hA1.set_ 54 (.int .u8 0) (by simp [ceL_len]); rwa [Nat.zero_add, ce_setD] at this) (But.one 54 _))
    have HB : Hid (RC w { d3 with v := { d3.v with d := 0 } } (U3.setCell ⟨w.heap.size, 54, none⟩ (.int .u8 0))) := Lib.hid (hU3.turn (by have := hU3.1.set_ 54 (.int .u8 0) (by simp [ceL_len]); rwa [Nat.zero_add, ce_setD] at this) (But.one 54 _))
    have HU3 := Lib.hid hU3
    obtain ⟨p, hp⟩ : ∃ p, p = d3.v.c := ⟨_, rfl⟩
    obtain ⟨q, hq⟩ : ∃ q, q = d3.v.d := ⟨_, rfl⟩
    have HP := Lib.hid hp
    have HQ := Lib.hid hq
    rw [← hp] at c53
    rw [← hq] at c54 c54'
    clear hU3 hA1 hp hq
    by_cases g0 : p < 0
    · by_cases h7 : 7 < q
      · go_upto_region 9 with fail
        refine wp_at (RC w { d3 with v := plV d3.v }) (by rw [show plV d3.v = { d3.v with c := -1, d := 0 } from by unfold plV; rw [show plC1 d3.v.c = -1 by rw [← HP.out]; unfold plC1; rw [decide_eq_true (show p < 0 by omega)]; rfl, show plD1 d3.v.d = 0 by rw [← HQ.out]; unfold plD1; rw [decide_eq_true (show 7 < q by omega)]; rfl]]; exact HAB.out) ?_
        clear c53 c54 c54' f53 f54 f54' l3 HA HAB HB HU3
        intro U4 hU4
        obtain ⟨q1, ⟨Z, q2, q3⟩, q4⟩ := hU4
        have HQ1 := Lib.hid q1
        have HQ2 := Lib.hid q2
        have HQ3 := Lib.hid q3
        have HQ4 := Lib.hid q4
        have hl4 := q1.lt
        clear q1 q2 q3 q4
        refine wp_region_lit ?_
        go_wp2_with (first
          | (refine wpList_load_pin rfl 51 (.tmp 1) rfl HQ1.out (by simp [Act.eval]) _ Try.underlying51 rfl 55 size_ce (ceL_len _) ?_)
          | (refine wpList_store_pin rfl 51 (.tmp 2) (.tmp 38) rfl HQ3.out (ceL { d3 with v := plV d3.v }) (by simp [Act.eval, Act.put]) (by simp [Act.eval, Act.put]) 55 size_ce HQ2.out (ceL_len _) (ceL_one _) ?_; intro w3 p3 b3))
        have hld := p3.var 51 _ Try.underlying51 rfl 55 size_ce (ceL_len _)
        have he : ({ d3 with v := plV d3.v } : Ce) = plC c := by rw [HD3.out, ← HYR.out, HD2.out, ← HYO.out, HD.out, ← HYA.out]; exact HE.out
        rw [he] at hld
        exact bodyPost_ret (v := .agg (ceL (plC c)).toArray) (by simp [results, Try.results28, asAddr, Act.put, hld]) rfl ⟨rfl, HQ4.out.trans (b3.low (Nat.le_succ _))⟩
      · go_upto_region 9 with fail
        refine wp_at (RC w { d3 with v := plV d3.v }) (by rw [show plV d3.v = { d3.v with c := -1 } from by unfold plV; rw [show plC1 d3.v.c = -1 by rw [← HP.out]; unfold plC1; rw [decide_eq_true (show p < 0 by omega)]; rfl, show plD1 d3.v.d = d3.v.d by rw [← HQ.out]; unfold plD1; rw [decide_eq_false (show ¬ 7 < q by omega)]; rfl]]; exact HA.out) ?_
        clear c53 c54 c54' f53 f54 f54' l3 HA HAB HB HU3
        intro U4 hU4
        obtain ⟨q1, ⟨Z, q2, q3⟩, q4⟩ := hU4
        have HQ1 := Lib.hid q1
        have HQ2 := Lib.hid q2
        have HQ3 := Lib.hid q3
        have HQ4 := Lib.hid q4
        have hl4 := q1.lt
        clear q1 q2 q3 q4
        refine wp_region_lit ?_
        go_wp2_with (first
          | (refine wpList_load_pin rfl 51 (.tmp 1) rfl HQ1.out (by simp [Act.eval]) _ Try.underlying51 rfl 55 size_ce (ceL_len _) ?_)
          | (refine wpList_store_pin rfl 51 (.tmp 2) (.tmp 38) rfl HQ3.out (ceL { d3 with v := plV d3.v }) (by simp [Act.eval, Act.put]) (by simp [Act.eval, Act.put]) 55 size_ce HQ2.out (ceL_len _) (ceL_one _) ?_; intro w3 p3 b3))
        have hld := p3.var 51 _ Try.underlying51 rfl 55 size_ce (ceL_len _)
        have he : ({ d3 with v := plV d3.v } : Ce) = plC c := by rw [HD3.out, ← HYR.out, HD2.out, ← HYO.out, HD.out, ← HYA.out]; exact HE.out
        rw [he] at hld
        exact bodyPost_ret (v := .agg (ceL (plC c)).toArray) (by simp [results, Try.results28, asAddr, Act.put, hld]) rfl ⟨rfl, HQ4.out.trans (b3.low (Nat.le_succ _))⟩
    by_cases g8 : 8 ≤ p
    · by_cases h7 : 7 < q
      · go_upto_region 9 with fail
        refine wp_at (RC w { d3 with v := plV d3.v }) (by rw [show plV d3.v = { d3.v with c := -1, d := 0 } from by unfold plV; rw [show plC1 d3.v.c = -1 by rw [← HP.out]; unfold plC1; rw [decide_eq_true (show 8 ≤ p by omega), Bool.or_true]; rfl, show plD1 d3.v.d = 0 by rw [← HQ.out]; unfold plD1; rw [decide_eq_true (show 7 < q by omega)]; rfl]]; exact HAB.out) ?_
        clear c53 c54 c54' f53 f54 f54' l3 HA HAB HB HU3
        intro U4 hU4
        obtain ⟨q1, ⟨Z, q2, q3⟩, q4⟩ := hU4
        have HQ1 := Lib.hid q1
        have HQ2 := Lib.hid q2
        have HQ3 := Lib.hid q3
        have HQ4 := Lib.hid q4
        have hl4 := q1.lt
        clear q1 q2 q3 q4
        refine wp_region_lit ?_
        go_wp2_with (first
          | (refine wpList_load_pin rfl 51 (.tmp 1) rfl HQ1.out (by simp [Act.eval]) _ Try.underlying51 rfl 55 size_ce (ceL_len _) ?_)
          | (refine wpList_store_pin rfl 51 (.tmp 2) (.tmp 38) rfl HQ3.out (ceL { d3 with v := plV d3.v }) (by simp [Act.eval, Act.put]) (by simp [Act.eval, Act.put]) 55 size_ce HQ2.out (ceL_len _) (ceL_one _) ?_; intro w3 p3 b3))
        have hld := p3.var 51 _ Try.underlying51 rfl 55 size_ce (ceL_len _)
        have he : ({ d3 with v := plV d3.v } : Ce) = plC c := by rw [HD3.out, ← HYR.out, HD2.out, ← HYO.out, HD.out, ← HYA.out]; exact HE.out
        rw [he] at hld
        exact bodyPost_ret (v := .agg (ceL (plC c)).toArray) (by simp [results, Try.results28, asAddr, Act.put, hld]) rfl ⟨rfl, HQ4.out.trans (b3.low (Nat.le_succ _))⟩
      · go_upto_region 9 with fail
        refine wp_at (RC w { d3 with v := plV d3.v }) (by rw [show plV d3.v = { d3.v with c := -1 } from by unfold plV; rw [show plC1 d3.v.c = -1 by rw [← HP.out]; unfold plC1; rw [decide_eq_true (show 8 ≤ p by omega), Bool.or_true]; rfl, show plD1 d3.v.d = d3.v.d by rw [← HQ.out]; unfold plD1; rw [decide_eq_false (show ¬ 7 < q by omega)]; rfl]]; exact HA.out) ?_
        clear c53 c54 c54' f53 f54 f54' l3 HA HAB HB HU3
        intro U4 hU4
        obtain ⟨q1, ⟨Z, q2, q3⟩, q4⟩ := hU4
        have HQ1 := Lib.hid q1
        have HQ2 := Lib.hid q2
        have HQ3 := Lib.hid q3
        have HQ4 := Lib.hid q4
        have hl4 := q1.lt
        clear q1 q2 q3 q4
        refine wp_region_lit ?_
        go_wp2_with (first
          | (refine wpList_load_pin rfl 51 (.tmp 1) rfl HQ1.out (by simp [Act.eval]) _ Try.underlying51 rfl 55 size_ce (ceL_len _) ?_)
          | (refine wpList_store_pin rfl 51 (.tmp 2) (.tmp 38) rfl HQ3.out (ceL { d3 with v := plV d3.v }) (by simp [Act.eval, Act.put]) (by simp [Act.eval, Act.put]) 55 size_ce HQ2.out (ceL_len _) (ceL_one _) ?_; intro w3 p3 b3))
        have hld := p3.var 51 _ Try.underlying51 rfl 55 size_ce (ceL_len _)
        have he : ({ d3 with v := plV d3.v } : Ce) = plC c := by rw [HD3.out, ← HYR.out, HD2.out, ← HYO.out, HD.out, ← HYA.out]; exact HE.out
        rw [he] at hld
        exact bodyPost_ret (v := .agg (ceL (plC c)).toArray) (by simp [results, Try.results28, asAddr, Act.put, hld]) rfl ⟨rfl, HQ4.out.trans (b3.low (Nat.le_succ _))⟩
    · by_cases h7 : 7 < q
      · go_upto_region 9 with fail
        refine wp_at (RC w { d3 with v := plV d3.v }) (by rw [show plV d3.v = { d3.v with d := 0 } from by unfold plV; rw [show plC1 d3.v.c = d3.v.c by rw [← HP.out]; unfold plC1; rw [decide_eq_false (show ¬ p < 0 by omega), decide_eq_false (show ¬ 8 ≤ p by omega)]; rfl, show plD1 d3.v.d = 0 by rw [← HQ.out]; unfold plD1; rw [decide_eq_true (show 7 < q by omega)]; rfl]]; exact HB.out) ?_
        clear c53 c54 c54' f53 f54 f54' l3 HA HAB HB HU3
        intro U4 hU4
        obtain ⟨q1, ⟨Z, q2, q3⟩, q4⟩ := hU4
        have HQ1 := Lib.hid q1
        have HQ2 := Lib.hid q2
        have HQ3 := Lib.hid q3
        have HQ4 := Lib.hid q4
        have hl4 := q1.lt
        clear q1 q2 q3 q4
        refine wp_region_lit ?_
        go_wp2_with (first
          | (refine wpList_load_pin rfl 51 (.tmp 1) rfl HQ1.out (by simp [Act.eval]) _ Try.underlying51 rfl 55 size_ce (ceL_len _) ?_)
          | (refine wpList_store_pin rfl 51 (.tmp 2) (.tmp 38) rfl HQ3.out (ceL { d3 with v := plV d3.v }) (by simp [Act.eval, Act.put]) (by simp [Act.eval, Act.put]) 55 size_ce HQ2.out (ceL_len _) (ceL_one _) ?_; intro w3 p3 b3))
        have hld := p3.var 51 _ Try.underlying51 rfl 55 size_ce (ceL_len _)
        have he : ({ d3 with v := plV d3.v } : Ce) = plC c := by rw [HD3.out, ← HYR.out, HD2.out, ← HYO.out, HD.out, ← HYA.out]; exact HE.out
        rw [he] at hld
        exact bodyPost_ret (v := .agg (ceL (plC c)).toArray) (by simp [results, Try.results28, asAddr, Act.put, hld]) rfl ⟨rfl, HQ4.out.trans (b3.low (Nat.le_succ _))⟩
      · go_upto_region 9 with fail
        refine wp_at (RC w { d3 with v := plV d3.v }) (by rw [show plV d3.v = d3.v from by unfold plV; rw [show plC1 d3.v.c = d3.v.c by rw [← HP.out]; unfold plC1; rw [decide_eq_false (show ¬ p < 0 by omega), decide_eq_false (show ¬ 8 ≤ p by omega)]; rfl, show plD1 d3.v.d = d3.v.d by rw [← HQ.out]; unfold plD1; rw [decide_eq_false (show ¬ 7 < q by omega)]; rfl]]; exact HU3.out) ?_
        clear c53 c54 c54' f53 f54 f54' l3 HA HAB HB HU3
        intro U4 hU4
        obtain ⟨q1, ⟨Z, q2, q3⟩, q4⟩ := hU4
        have HQ1 := Lib.hid q1
        have HQ2 := Lib.hid q2
        have HQ3 := Lib.hid q3
        have HQ4 := Lib.hid q4
        have hl4 := q1.lt
        clear q1 q2 q3 q4
        refine wp_region_lit ?_
        go_wp2_with (first
          | (refine wpList_load_pin rfl 51 (.tmp 1) rfl HQ1.out (by simp [Act.eval]) _ Try.underlying51 rfl 55 size_ce (ceL_len _) ?_)
          | (refine wpList_store_pin rfl 51 (.tmp 2) (.tmp 38) rfl HQ3.out (ceL { d3 with v := plV d3.v }) (by simp [Act.eval, Act.put]) (by simp [Act.eval, Act.put]) 55 size_ce HQ2.out (ceL_len _) (ceL_one _) ?_; intro w3 p3 b3))
        have hld := p3.var 51 _ Try.underlying51 rfl 55 size_ce (ceL_len _)
        have he : ({ d3 with v := plV d3.v } : Ce) = plC c := by rw [HD3.out, ← HYR.out, HD2.out, ← HYO.out, HD.out, ← HYA.out]; exact HE.out
        rw [he] at hld
        exact bodyPost_ret (v := .agg (ceL (plC c)).toArray) (by simp [results, Try.results28, asAddr, Act.put, hld]) rfl ⟨rfl, HQ4.out.trans (b3.low (Nat.le_succ _))⟩
  by_cases h1 : 1099511627776 < x
  · go_upto_region 3 with fail
    refine wp_at (RC w { c with a := plA1 c.a }) (HA.out _ (by rw [← HX.out]; unfold plA1 tmB; rw [decide_eq_false (show ¬ x ≤ 1099511627776 by omega), Bool.and_false]; rfl)) ?_
    clear c0 f0 l0 HU HA
    generalize hya : plA1 c.a = ya
    intro U1 hU1
    obtain ⟨d, hd⟩ : ∃ d : Ce, d = { c with a := ya } := ⟨_, rfl⟩
    rw [← hd] at hU1
    have HYA := Lib.hid hya
    have HD := Lib.hid hd
    clear hya hd
    have hp2 := PIn.part (P := [.int .i64 d.a]) (M := saL d.o) (S := saL d.r ++ vwL d.v) (o := 1) hU1.1 rfl
    have HP2 := Lib.hid hp2
    have HU2 := Lib.hid hU1
    have hl2 := hU1.1.lt
    clear hp2 hU1
    go_upto_region 4 with (first
      | (refine wpList_load_pin rfl 42 (.tmp 12) rfl HP2.out (by simp [Act.eval]) _ Try.underlying42 rfl 6 size_sa rfl ?_)
      | (go_at_call 58; (with_reducible refine (rsaid_is _ _).mono ?_); rintro e w1 ⟨rfl, b1⟩; have hl1 := (HP2.out.on b1).lt)
      | (refine wpList_store_pin rfl 42 (.tmp 15) (.tmp 14) rfl (HP2.out.on b1) (saL (plS d.o)) (by simp [Act.eval]) (by simp [Act.eval]) 6 size_sa rfl rfl (saL_one _) ?_; intro w2 p2 b2))
    refine wp_at (RC w { d with o := plS d.o }) ((HU2.out.on b1).turn (PIn.whole (P := [.int .i64 d.a]) (S := saL d.r ++ vwL d.v) p2 rfl) b2) ?_
    clear HP2 HU2 p2 b2 b1 hl1 hl2
    generalize hyo : plS d.o = y2
    intro U2 hU2
    obtain ⟨d2, hd2⟩ : ∃ d2 : Ce, d2 = { d with o := y2 } := ⟨_, rfl⟩
    rw [← hd2] at hU2
    have HYO := Lib.hid hyo
    have HD2 := Lib.hid hd2
    clear hyo hd2
    have hp3 := PIn.part (P := .int .i64 d2.a :: saL d2.o) (M := saL d2.r) (S := vwL d2.v) (o := 7) hU2.1 rfl
    have HP3 := Lib.hid hp3
    have HU3 := Lib.hid hU2
    have hl3 := hU2.1.lt
    clear hp3 hU2
    go_upto_region 5 with (first
      | (refine wpList_load_pin rfl 42 (.tmp 16) rfl HP3.out (by simp [Act.eval]) _ Try.underlying42 rfl 6 size_sa rfl ?_)
      | (go_at_call 58; (with_reducible refine (rsaid_is _ _).mono ?_); rintro e w1 ⟨rfl, b1⟩; have hl1 := (HP3.out.on b1).lt)
      | (refine wpList_store_pin rfl 42 (.tmp 19) (.tmp 18) rfl (HP3.out.on b1) (saL (plS d2.r)) (by simp [Act.eval]) (by simp [Act.eval]) 6 size_sa rfl rfl (saL_one _) ?_; intro w2 p2 b2))
    refine wp_at (RC w { d2 with r := plS d2.r }) ((HU3.out.on b1).turn (PIn.whole (P := .int .i64 d2.a :: saL d2.o) (S := vwL d2.v) p2 rfl) b2) ?_
    clear HP3 HU3 p2 b2 b1 hl1 hl3
    generalize hyr : plS d2.r = y3
    intro U3 hU3
    obtain ⟨d3, hd3⟩ : ∃ d3 : Ce, d3 = { d2 with r := y3 } := ⟨_, rfl⟩
    rw [← hd3] at hU3
    have HYR := Lib.hid hyr
    have HD3 := Lib.hid hd3
    clear hyr hd3
    have c53 : U3.cell? ⟨w.heap.size, 53, none⟩ = some (.int .i8 d3.v.c) := by have := hU3.1.cell 53 (by simp [ceL_len]); rw [Nat.zero_add] at this; rw [this, ce_c]
    have c54 : U3.cell? ⟨w.heap.size, 54, none⟩ = some (.int .u8 d3.v.d) := by have := hU3.1.cell 54 (by simp [ceL_len]); rw [Nat.zero_add] at this; rw [this, ce_d]
    have hA1 : PIn (U3.setCell ⟨w.heap.size, 53, none⟩ (.int .i8 (-1))) w.heap.size 0 51 [] [] (ceL { d3 with v := { d3.v with c := -1 } }) := by
      have := hU3.1.set_ 53 (.int .i8 (-1)) (by simp [ceL_len])
      rwa [Nat.zero_add, ce_setC] at this
    have c54' : (U3.setCell ⟨w.heap.size, 53, none⟩ (.int .i8 (-1))).cell? ⟨w.heap.size, 54, none⟩ = some (.int .u8 d3.v.d) := by have := hA1.cell 54 (by simp [ceL_len]); rw [Nat.zero_add] at this; rw [this, ce_d]
    have f53 := hU3.1.frozen 53
    have f54 := hU3.1.frozen 54
    have f54' := hA1.frozen 54
    have l3 := hU3.1.lt
    have HA := Lib.hid (hU3.turn hA1 (But.one 53 _))
    have HAB : Hid (RC w { d3 with v := { d3.v with c := -1, d := 0 } } ((U3.setCell ⟨w.heap.size, 53, none⟩ (.int .i8 (-1))).setCell ⟨w.heap.size, 54, none⟩ (.int .u8 0))) := Lib.hid ((hU3.turn hA1 (But.one 53 _)).turn (by have := hA1.set_ 54 (.int .u8 0) (by simp [ceL_len]); rwa [Nat.zero_add, ce_setD] at this) (But.one 54 _))
    have HB : Hid (RC w { d3 with v := { d3.v with d := 0 } } (U3.setCell ⟨w.heap.size, 54, none⟩ (.int .u8 0))) := Lib.hid (hU3.turn (by have := hU3.1.set_ 54 (.int .u8 0) (by simp [ceL_len]); rwa [Nat.zero_add, ce_setD] at this) (But.one 54 _))
    have HU3 := Lib.hid hU3
    obtain ⟨p, hp⟩ : ∃ p, p = d3.v.c := ⟨_, rfl⟩
    obtain ⟨q, hq⟩ : ∃ q, q = d3.v.d := ⟨_, rfl⟩
    have HP := Lib.hid hp
    have HQ := Lib.hid hq
    rw [← hp] at c53
    rw [← hq] at c54 c54'
    clear hU3 hA1 hp hq
    by_cases g0 : p < 0
    · by_cases h7 : 7 < q
      · go_upto_region 9 with fail
        refine wp_at (RC w { d3 with v := plV d3.v }) (by rw [show plV d3.v = { d3.v with c := -1, d := 0 } from by unfold plV; rw [show plC1 d3.v.c = -1 by rw [← HP.out]; unfold plC1; rw [decide_eq_true (show p < 0 by omega)]; rfl, show plD1 d3.v.d = 0 by rw [← HQ.out]; unfold plD1; rw [decide_eq_true (show 7 < q by omega)]; rfl]]; exact HAB.out) ?_
        clear c53 c54 c54' f53 f54 f54' l3 HA HAB HB HU3
        intro U4 hU4
        obtain ⟨q1, ⟨Z, q2, q3⟩, q4⟩ := hU4
        have HQ1 := Lib.hid q1
        have HQ2 := Lib.hid q2
        have HQ3 := Lib.hid q3
        have HQ4 := Lib.hid q4
        have hl4 := q1.lt
        clear q1 q2 q3 q4
        refine wp_region_lit ?_
        go_wp2_with (first
          | (refine wpList_load_pin rfl 51 (.tmp 1) rfl HQ1.out (by simp [Act.eval]) _ Try.underlying51 rfl 55 size_ce (ceL_len _) ?_)
          | (refine wpList_store_pin rfl 51 (.tmp 2) (.tmp 38) rfl HQ3.out (ceL { d3 with v := plV d3.v }) (by simp [Act.eval, Act.put]) (by simp [Act.eval, Act.put]) 55 size_ce HQ2.out (ceL_len _) (ceL_one _) ?_; intro w3 p3 b3))
        have hld := p3.var 51 _ Try.underlying51 rfl 55 size_ce (ceL_len _)
        have he : ({ d3 with v := plV d3.v } : Ce) = plC c := by rw [HD3.out, ← HYR.out, HD2.out, ← HYO.out, HD.out, ← HYA.out]; exact HE.out
        rw [he] at hld
        exact bodyPost_ret (v := .agg (ceL (plC c)).toArray) (by simp [results, Try.results28, asAddr, Act.put, hld]) rfl ⟨rfl, HQ4.out.trans (b3.low (Nat.le_succ _))⟩
      · go_upto_region 9 with fail
        refine wp_at (RC w { d3 with v := plV d3.v }) (by rw [show plV d3.v = { d3.v with c := -1 } from by unfold plV; rw [show plC1 d3.v.c = -1 by rw [← HP.out]; unfold plC1; rw [decide_eq_true (show p < 0 by omega)]; rfl, show plD1 d3.v.d = d3.v.d by rw [← HQ.out]; unfold plD1; rw [decide_eq_false (show ¬ 7 < q by omega)]; rfl]]; exact HA.out) ?_
        clear c53 c54 c54' f53 f54 f54' l3 HA HAB HB HU3
        intro U4 hU4
        obtain ⟨q1, ⟨Z, q2, q3⟩, q4⟩ := hU4
        have HQ1 := Lib.hid q1
        have HQ2 := Lib.hid q2
        have HQ3 := Lib.hid q3
        have HQ4 := Lib.hid q4
        have hl4 := q1.lt
        clear q1 q2 q3 q4
        refine wp_region_lit ?_
        go_wp2_with (first
          | (refine wpList_load_pin rfl 51 (.tmp 1) rfl HQ1.out (by simp [Act.eval]) _ Try.underlying51 rfl 55 size_ce (ceL_len _) ?_)
          | (refine wpList_store_pin rfl 51 (.tmp 2) (.tmp 38) rfl HQ3.out (ceL { d3 with v := plV d3.v }) (by simp [Act.eval, Act.put]) (by simp [Act.eval, Act.put]) 55 size_ce HQ2.out (ceL_len _) (ceL_one _) ?_; intro w3 p3 b3))
        have hld := p3.var 51 _ Try.underlying51 rfl 55 size_ce (ceL_len _)
        have he : ({ d3 with v := plV d3.v } : Ce) = plC c := by rw [HD3.out, ← HYR.out, HD2.out, ← HYO.out, HD.out, ← HYA.out]; exact HE.out
        rw [he] at hld
        exact bodyPost_ret (v := .agg (ceL (plC c)).toArray) (by simp [results, Try.results28, asAddr, Act.put, hld]) rfl ⟨rfl, HQ4.out.trans (b3.low (Nat.le_succ _))⟩
    by_cases g8 : 8 ≤ p
    · by_cases h7 : 7 < q
      · go_upto_region 9 with fail
        refine wp_at (RC w { d3 with v := plV d3.v }) (by rw [show plV d3.v = { d3.v with c := -1, d := 0 } from by unfold plV; rw [show plC1 d3.v.c = -1 by rw [← HP.out]; unfold plC1; rw [decide_eq_true (show 8 ≤ p by omega), Bool.or_true]; rfl, show plD1 d3.v.d = 0 by rw [← HQ.out]; unfold plD1; rw [decide_eq_true (show 7 < q by omega)]; rfl]]; exact HAB.out) ?_
        clear c53 c54 c54' f53 f54 f54' l3 HA HAB HB HU3
        intro U4 hU4
        obtain ⟨q1, ⟨Z, q2, q3⟩, q4⟩ := hU4
        have HQ1 := Lib.hid q1
        have HQ2 := Lib.hid q2
        have HQ3 := Lib.hid q3
        have HQ4 := Lib.hid q4
        have hl4 := q1.lt
        clear q1 q2 q3 q4
        refine wp_region_lit ?_
        go_wp2_with (first
          | (refine wpList_load_pin rfl 51 (.tmp 1) rfl HQ1.out (by simp [Act.eval]) _ Try.underlying51 rfl 55 size_ce (ceL_len _) ?_)
          | (refine wpList_store_pin rfl 51 (.tmp 2) (.tmp 38) rfl HQ3.out (ceL { d3 with v := plV d3.v }) (by simp [Act.eval, Act.put]) (by simp [Act.eval, Act.put]) 55 size_ce HQ2.out (ceL_len _) (ceL_one _) ?_; intro w3 p3 b3))
        have hld := p3.var 51 _ Try.underlying51 rfl 55 size_ce (ceL_len _)
        have he : ({ d3 with v := plV d3.v } : Ce) = plC c := by rw [HD3.out, ← HYR.out, HD2.out, ← HYO.out, HD.out, ← HYA.out]; exact HE.out
        rw [he] at hld
        exact bodyPost_ret (v := .agg (ceL (plC c)).toArray) (by simp [results, Try.results28, asAddr, Act.put, hld]) rfl ⟨rfl, HQ4.out.trans (b3.low (Nat.le_succ _))⟩
      · go_upto_region 9 with fail
        refine wp_at (RC w { d3 with v := plV d3.v }) (by rw [show plV d3.v = { d3.v with c := -1 } from by unfold plV; rw [show plC1 d3.v.c = -1 by rw [← HP.out]; unfold plC1; rw [decide_eq_true (show 8 ≤ p by omega), Bool.or_true]; rfl, show plD1 d3.v.d = d3.v.d by rw [← HQ.out]; unfold plD1; rw [decide_eq_false (show ¬ 7 < q by omega)]; rfl]]; exact HA.out) ?_
        clear c53 c54 c54' f53 f54 f54' l3 HA HAB HB HU3
        intro U4 hU4
        obtain ⟨q1, ⟨Z, q2, q3⟩, q4⟩ := hU4
        have HQ1 := Lib.hid q1
        have HQ2 := Lib.hid q2
        have HQ3 := Lib.hid q3
        have HQ4 := Lib.hid q4
        have hl4 := q1.lt
        clear q1 q2 q3 q4
        refine wp_region_lit ?_
        go_wp2_with (first
          | (refine wpList_load_pin rfl 51 (.tmp 1) rfl HQ1.out (by simp [Act.eval]) _ Try.underlying51 rfl 55 size_ce (ceL_len _) ?_)
          | (refine wpList_store_pin rfl 51 (.tmp 2) (.tmp 38) rfl HQ3.out (ceL { d3 with v := plV d3.v }) (by simp [Act.eval, Act.put]) (by simp [Act.eval, Act.put]) 55 size_ce HQ2.out (ceL_len _) (ceL_one _) ?_; intro w3 p3 b3))
        have hld := p3.var 51 _ Try.underlying51 rfl 55 size_ce (ceL_len _)
        have he : ({ d3 with v := plV d3.v } : Ce) = plC c := by rw [HD3.out, ← HYR.out, HD2.out, ← HYO.out, HD.out, ← HYA.out]; exact HE.out
        rw [he] at hld
        exact bodyPost_ret (v := .agg (ceL (plC c)).toArray) (by simp [results, Try.results28, asAddr, Act.put, hld]) rfl ⟨rfl, HQ4.out.trans (b3.low (Nat.le_succ _))⟩
    · by_cases h7 : 7 < q
      · go_upto_region 9 with fail
        refine wp_at (RC w { d3 with v := plV d3.v }) (by rw [show plV d3.v = { d3.v with d := 0 } from by unfold plV; rw [show plC1 d3.v.c = d3.v.c by rw [← HP.out]; unfold plC1; rw [decide_eq_false (show ¬ p < 0 by omega), decide_eq_false (show ¬ 8 ≤ p by omega)]; rfl, show plD1 d3.v.d = 0 by rw [← HQ.out]; unfold plD1; rw [decide_eq_true (show 7 < q by omega)]; rfl]]; exact HB.out) ?_
        clear c53 c54 c54' f53 f54 f54' l3 HA HAB HB HU3
        intro U4 hU4
        obtain ⟨q1, ⟨Z, q2, q3⟩, q4⟩ := hU4
        have HQ1 := Lib.hid q1
        have HQ2 := Lib.hid q2
        have HQ3 := Lib.hid q3
        have HQ4 := Lib.hid q4
        have hl4 := q1.lt
        clear q1 q2 q3 q4
        refine wp_region_lit ?_
        go_wp2_with (first
          | (refine wpList_load_pin rfl 51 (.tmp 1) rfl HQ1.out (by simp [Act.eval]) _ Try.underlying51 rfl 55 size_ce (ceL_len _) ?_)
          | (refine wpList_store_pin rfl 51 (.tmp 2) (.tmp 38) rfl HQ3.out (ceL { d3 with v := plV d3.v }) (by simp [Act.eval, Act.put]) (by simp [Act.eval, Act.put]) 55 size_ce HQ2.out (ceL_len _) (ceL_one _) ?_; intro w3 p3 b3))
        have hld := p3.var 51 _ Try.underlying51 rfl 55 size_ce (ceL_len _)
        have he : ({ d3 with v := plV d3.v } : Ce) = plC c := by rw [HD3.out, ← HYR.out, HD2.out, ← HYO.out, HD.out, ← HYA.out]; exact HE.out
        rw [he] at hld
        exact bodyPost_ret (v := .agg (ceL (plC c)).toArray) (by simp [results, Try.results28, asAddr, Act.put, hld]) rfl ⟨rfl, HQ4.out.trans (b3.low (Nat.le_succ _))⟩
      · go_upto_region 9 with fail
        refine wp_at (RC w { d3 with v := plV d3.v }) (by rw [show plV d3.v = d3.v from by unfold plV; rw [show plC1 d3.v.c = d3.v.c by rw [← HP.out]; unfold plC1; rw [decide_eq_false (show ¬ p < 0 by omega), decide_eq_false (show ¬ 8 ≤ p by omega)]; rfl, show plD1 d3.v.d = d3.v.d by rw [← HQ.out]; unfold plD1; rw [decide_eq_false (show ¬ 7 < q by omega)]; rfl]]; exact HU3.out) ?_
        clear c53 c54 c54' f53 f54 f54' l3 HA HAB HB HU3
        intro U4 hU4
        obtain ⟨q1, ⟨Z, q2, q3⟩, q4⟩ := hU4
        have HQ1 := Lib.hid q1
        have HQ2 := Lib.hid q2
        have HQ3 := Lib.hid q3
        have HQ4 := Lib.hid q4
        have hl4 := q1.lt
        clear q1 q2 q3 q4
        refine wp_region_lit ?_
        go_wp2_with (first
          | (refine wpList_load_pin rfl 51 (.tmp 1) rfl HQ1.out (by simp [Act.eval]) _ Try.underlying51 rfl 55 size_ce (ceL_len _) ?_)
          | (refine wpList_store_pin rfl 51 (.tmp 2) (.tmp 38) rfl HQ3.out (ceL { d3 with v := plV d3.v }) (by simp [Act.eval, Act.put]) (by simp [Act.eval, Act.put]) 55 size_ce HQ2.out (ceL_len _) (ceL_one _) ?_; intro w3 p3 b3))
        have hld := p3.var 51 _ Try.underlying51 rfl 55 size_ce (ceL_len _)
        have he : ({ d3 with v := plV d3.v } : Ce) = plC c := by rw [HD3.out, ← HYR.out, HD2.out, ← HYO.out, HD.out, ← HYA.out]; exact HE.out
        rw [he] at hld
        exact bodyPost_ret (v := .agg (ceL (plC c)).toArray) (by simp [results, Try.results28, asAddr, Act.put, hld]) rfl ⟨rfl, HQ4.out.trans (b3.low (Nat.le_succ _))⟩
  · go_upto_region 3 with fail
    refine wp_at (RC w { c with a := plA1 c.a }) (by rw [show plA1 c.a = c.a by rw [← HX.out]; unfold plA1 tmB; rw [decide_eq_true (show 0 ≤ x by omega), decide_eq_true (show x ≤ 1099511627776 by omega)]; rfl]; exact HU.out) ?_
    clear c0 f0 l0 HU HA
    generalize hya : plA1 c.a = ya
    intro U1 hU1
    obtain ⟨d, hd⟩ : ∃ d : Ce, d = { c with a := ya } := ⟨_, rfl⟩
    rw [← hd] at hU1
    have HYA := Lib.hid hya
    have HD := Lib.hid hd
    clear hya hd
    have hp2 := PIn.part (P := [.int .i64 d.a]) (M := saL d.o) (S := saL d.r ++ vwL d.v) (o := 1) hU1.1 rfl
    have HP2 := Lib.hid hp2
    have HU2 := Lib.hid hU1
    have hl2 := hU1.1.lt
    clear hp2 hU1
    go_upto_region 4 with (first
      | (refine wpList_load_pin rfl 42 (.tmp 12) rfl HP2.out (by simp [Act.eval]) _ Try.underlying42 rfl 6 size_sa rfl ?_)
      | (go_at_call 58; (with_reducible refine (rsaid_is _ _).mono ?_); rintro e w1 ⟨rfl, b1⟩; have hl1 := (HP2.out.on b1).lt)
      | (refine wpList_store_pin rfl 42 (.tmp 15) (.tmp 14) rfl (HP2.out.on b1) (saL (plS d.o)) (by simp [Act.eval]) (by simp [Act.eval]) 6 size_sa rfl rfl (saL_one _) ?_; intro w2 p2 b2))
    refine wp_at (RC w { d with o := plS d.o }) ((HU2.out.on b1).turn (PIn.whole (P := [.int .i64 d.a]) (S := saL d.r ++ vwL d.v) p2 rfl) b2) ?_
    clear HP2 HU2 p2 b2 b1 hl1 hl2
    generalize hyo : plS d.o = y2
    intro U2 hU2
    obtain ⟨d2, hd2⟩ : ∃ d2 : Ce, d2 = { d with o := y2 } := ⟨_, rfl⟩
    rw [← hd2] at hU2
    have HYO := Lib.hid hyo
    have HD2 := Lib.hid hd2
    clear hyo hd2
    have hp3 := PIn.part (P := .int .i64 d2.a :: saL d2.o) (M := saL d2.r) (S := vwL d2.v) (o := 7) hU2.1 rfl
    have HP3 := Lib.hid hp3
    have HU3 := Lib.hid hU2
    have hl3 := hU2.1.lt
    clear hp3 hU2
    go_upto_region 5 with (first
      | (refine wpList_load_pin rfl 42 (.tmp 16) rfl HP3.out (by simp [Act.eval]) _ Try.underlying42 rfl 6 size_sa rfl ?_)
      | (go_at_call 58; (with_reducible refine (rsaid_is _ _).mono ?_); rintro e w1 ⟨rfl, b1⟩; have hl1 := (HP3.out.on b1).lt)
      | (refine wpList_store_pin rfl 42 (.tmp 19) (.tmp 18) rfl (HP3.out.on b1) (saL (plS d2.r)) (by simp [Act.eval]) (by simp [Act.eval]) 6 size_sa rfl rfl (saL_one _) ?_; intro w2 p2 b2))
    refine wp_at (RC w { d2 with r := plS d2.r }) ((HU3.out.on b1).turn (PIn.whole (P := .int .i64 d2.a :: saL d2.o) (S := vwL d2.v) p2 rfl) b2) ?_
    clear HP3 HU3 p2 b2 b1 hl1 hl3
    generalize hyr : plS d2.r = y3
    intro U3 hU3
    obtain ⟨d3, hd3⟩ : ∃ d3 : Ce, d3 = { d2 with r := y3 } := ⟨_, rfl⟩
    rw [← hd3] at hU3
    have HYR := Lib.hid hyr
    have HD3 := Lib.hid hd3
    clear hyr hd3
    have c53 : U3.cell? ⟨w.heap.size, 53, none⟩ = some (.int .i8 d3.v.c) := by have := hU3.1.cell 53 (by simp [ceL_len]); rw [Nat.zero_add] at this; rw [this, ce_c]
    have c54 : U3.cell? ⟨w.heap.size, 54, none⟩ = some (.int .u8 d3.v.d) := by have := hU3.1.cell 54 (by simp [ceL_len]); rw [Nat.zero_add] at this; rw [this, ce_d]
    have hA1 : PIn (U3.setCell ⟨w.heap.size, 53, none⟩ (.int .i8 (-1))) w.heap.size 0 51 [] [] (ceL { d3 with v := { d3.v with c := -1 } }) := by
      have := hU3.1.set_ 53 (.int .i8 (-1)) (by simp [ceL_len])
      rwa [Nat.zero_add, ce_setC] at this
    have c54' : (U3.setCell ⟨w.heap.size, 53, none⟩ (.int .i8 (-1))).cell? ⟨w.heap.size, 54, none⟩ = some (.int .u8 d3.v.d) := by have := hA1.cell 54 (by simp [ceL_len]); rw [Nat.zero_add] at this; rw [this, ce_d]
    have f53 := hU3.1.frozen 53
    have f54 := hU3.1.frozen 54
    have f54' := hA1.frozen 54
    have l3 := hU3.1.lt
    have HA := Lib.hid (hU3.turn hA1 (But.one 53 _))
    have HAB : Hid (RC w { d3 with v := { d3.v with c := -1, d := 0 } } ((U3.setCell ⟨w.heap.size, 53, none⟩ (.int .i8 (-1))).setCell ⟨w.heap.size, 54, none⟩ (.int .u8 0))) := Lib.hid ((hU3.turn hA1 (But.one 53 _)).turn (by have := hA1.set_ 54 (.int .u8 0) (by simp [ceL_len]); rwa [Nat.zero_add, ce_setD] at this) (But.one 54 _))
    have HB : Hid (RC w { d3 with v := { d3.v with d := 0 } } (U3.setCell ⟨w.heap.size, 54, none⟩ (.int .u8 0))) := Lib.hid (hU3.turn (by have := hU3.1.set_ 54 (.int .u8 0) (by simp [ceL_len]); rwa [Nat.zero_add, ce_setD] at this) (But.one 54 _))
    have HU3 := Lib.hid hU3
    obtain ⟨p, hp⟩ : ∃ p, p = d3.v.c := ⟨_, rfl⟩
    obtain ⟨q, hq⟩ : ∃ q, q = d3.v.d := ⟨_, rfl⟩
    have HP := Lib.hid hp
    have HQ := Lib.hid hq
    rw [← hp] at c53
    rw [← hq] at c54 c54'
    clear hU3 hA1 hp hq
    by_cases g0 : p < 0
    · by_cases h7 : 7 < q
      · go_upto_region 9 with fail
        refine wp_at (RC w { d3 with v := plV d3.v }) (by rw [show plV d3.v = { d3.v with c := -1, d := 0 } from by unfold plV; rw [show plC1 d3.v.c = -1 by rw [← HP.out]; unfold plC1; rw [decide_eq_true (show p < 0 by omega)]; rfl, show plD1 d3.v.d = 0 by rw [← HQ.out]; unfold plD1; rw [decide_eq_true (show 7 < q by omega)]; rfl]]; exact HAB.out) ?_
        clear c53 c54 c54' f53 f54 f54' l3 HA HAB HB HU3
        intro U4 hU4
        obtain ⟨q1, ⟨Z, q2, q3⟩, q4⟩ := hU4
        have HQ1 := Lib.hid q1
        have HQ2 := Lib.hid q2
        have HQ3 := Lib.hid q3
        have HQ4 := Lib.hid q4
        have hl4 := q1.lt
        clear q1 q2 q3 q4
        refine wp_region_lit ?_
        go_wp2_with (first
          | (refine wpList_load_pin rfl 51 (.tmp 1) rfl HQ1.out (by simp [Act.eval]) _ Try.underlying51 rfl 55 size_ce (ceL_len _) ?_)
          | (refine wpList_store_pin rfl 51 (.tmp 2) (.tmp 38) rfl HQ3.out (ceL { d3 with v := plV d3.v }) (by simp [Act.eval, Act.put]) (by simp [Act.eval, Act.put]) 55 size_ce HQ2.out (ceL_len _) (ceL_one _) ?_; intro w3 p3 b3))
        have hld := p3.var 51 _ Try.underlying51 rfl 55 size_ce (ceL_len _)
        have he : ({ d3 with v := plV d3.v } : Ce) = plC c := by rw [HD3.out, ← HYR.out, HD2.out, ← HYO.out, HD.out, ← HYA.out]; exact HE.out
        rw [he] at hld
        exact bodyPost_ret (v := .agg (ceL (plC c)).toArray) (by simp [results, Try.results28, asAddr, Act.put, hld]) rfl ⟨rfl, HQ4.out.trans (b3.low (Nat.le_succ _))⟩
      · go_upto_region 9 with fail
        refine wp_at (RC w { d3 with v := plV d3.v }) (by rw [show plV d3.v = { d3.v with c := -1 } from by unfold plV; rw [show plC1 d3.v.c = -1 by rw [← HP.out]; unfold plC1; rw [decide_eq_true (show p < 0 by omega)]; rfl, show plD1 d3.v.d = d3.v.d by rw [← HQ.out]; unfold plD1; rw [decide_eq_false (show ¬ 7 < q by omega)]; rfl]]; exact HA.out) ?_
        clear c53 c54 c54' f53 f54 f54' l3 HA HAB HB HU3
        intro U4 hU4
        obtain ⟨q1, ⟨Z, q2, q3⟩, q4⟩ := hU4
        have HQ1 := Lib.hid q1
        have HQ2 := Lib.hid q2
        have HQ3 := Lib.hid q3
        have HQ4 := Lib.hid q4
        have hl4 := q1.lt
        clear q1 q2 q3 q4
        refine wp_region_lit ?_
        go_wp2_with (first
          | (refine wpList_load_pin rfl 51 (.tmp 1) rfl HQ1.out (by simp [Act.eval]) _ Try.underlying51 rfl 55 size_ce (ceL_len _) ?_)
          | (refine wpList_store_pin rfl 51 (.tmp 2) (.tmp 38) rfl HQ3.out (ceL { d3 with v := plV d3.v }) (by simp [Act.eval, Act.put]) (by simp [Act.eval, Act.put]) 55 size_ce HQ2.out (ceL_len _) (ceL_one _) ?_; intro w3 p3 b3))
        have hld := p3.var 51 _ Try.underlying51 rfl 55 size_ce (ceL_len _)
        have he : ({ d3 with v := plV d3.v } : Ce) = plC c := by rw [HD3.out, ← HYR.out, HD2.out, ← HYO.out, HD.out, ← HYA.out]; exact HE.out
        rw [he] at hld
        exact bodyPost_ret (v := .agg (ceL (plC c)).toArray) (by simp [results, Try.results28, asAddr, Act.put, hld]) rfl ⟨rfl, HQ4.out.trans (b3.low (Nat.le_succ _))⟩
    by_cases g8 : 8 ≤ p
    · by_cases h7 : 7 < q
      · go_upto_region 9 with fail
        refine wp_at (RC w { d3 with v := plV d3.v }) (by rw [show plV d3.v = { d3.v with c := -1, d := 0 } from by unfold plV; rw [show plC1 d3.v.c = -1 by rw [← HP.out]; unfold plC1; rw [decide_eq_true (show 8 ≤ p by omega), Bool.or_true]; rfl, show plD1 d3.v.d = 0 by rw [← HQ.out]; unfold plD1; rw [decide_eq_true (show 7 < q by omega)]; rfl]]; exact HAB.out) ?_
        clear c53 c54 c54' f53 f54 f54' l3 HA HAB HB HU3
        intro U4 hU4
        obtain ⟨q1, ⟨Z, q2, q3⟩, q4⟩ := hU4
        have HQ1 := Lib.hid q1
        have HQ2 := Lib.hid q2
        have HQ3 := Lib.hid q3
        have HQ4 := Lib.hid q4
        have hl4 := q1.lt
        clear q1 q2 q3 q4
        refine wp_region_lit ?_
        go_wp2_with (first
          | (refine wpList_load_pin rfl 51 (.tmp 1) rfl HQ1.out (by simp [Act.eval]) _ Try.underlying51 rfl 55 size_ce (ceL_len _) ?_)
          | (refine wpList_store_pin rfl 51 (.tmp 2) (.tmp 38) rfl HQ3.out (ceL { d3 with v := plV d3.v }) (by simp [Act.eval, Act.put]) (by simp [Act.eval, Act.put]) 55 size_ce HQ2.out (ceL_len _) (ceL_one _) ?_; intro w3 p3 b3))
        have hld := p3.var 51 _ Try.underlying51 rfl 55 size_ce (ceL_len _)
        have he : ({ d3 with v := plV d3.v } : Ce) = plC c := by rw [HD3.out, ← HYR.out, HD2.out, ← HYO.out, HD.out, ← HYA.out]; exact HE.out
        rw [he] at hld
        exact bodyPost_ret (v := .agg (ceL (plC c)).toArray) (by simp [results, Try.results28, asAddr, Act.put, hld]) rfl ⟨rfl, HQ4.out.trans (b3.low (Nat.le_succ _))⟩
      · go_upto_region 9 with fail
        refine wp_at (RC w { d3 with v := plV d3.v }) (by rw [show plV d3.v = { d3.v with c := -1 } from by unfold plV; rw [show plC1 d3.v.c = -1 by rw [← HP.out]; unfold plC1; rw [decide_eq_true (show 8 ≤ p by omega), Bool.or_true]; rfl, show plD1 d3.v.d = d3.v.d by rw [← HQ.out]; unfold plD1; rw [decide_eq_false (show ¬ 7 < q by omega)]; rfl]]; exact HA.out) ?_
        clear c53 c54 c54' f53 f54 f54' l3 HA HAB HB HU3
        intro U4 hU4
        obtain ⟨q1, ⟨Z, q2, q3⟩, q4⟩ := hU4
        have HQ1 := Lib.hid q1
        have HQ2 := Lib.hid q2
        have HQ3 := Lib.hid q3
        have HQ4 := Lib.hid q4
        have hl4 := q1.lt
        clear q1 q2 q3 q4
        refine wp_region_lit ?_
        go_wp2_with (first
          | (refine wpList_load_pin rfl 51 (.tmp 1) rfl HQ1.out (by simp [Act.eval]) _ Try.underlying51 rfl 55 size_ce (ceL_len _) ?_)
          | (refine wpList_store_pin rfl 51 (.tmp 2) (.tmp 38) rfl HQ3.out (ceL { d3 with v := plV d3.v }) (by simp [Act.eval, Act.put]) (by simp [Act.eval, Act.put]) 55 size_ce HQ2.out (ceL_len _) (ceL_one _) ?_; intro w3 p3 b3))
        have hld := p3.var 51 _ Try.underlying51 rfl 55 size_ce (ceL_len _)
        have he : ({ d3 with v := plV d3.v } : Ce) = plC c := by rw [HD3.out, ← HYR.out, HD2.out, ← HYO.out, HD.out, ← HYA.out]; exact HE.out
        rw [he] at hld
        exact bodyPost_ret (v := .agg (ceL (plC c)).toArray) (by simp [results, Try.results28, asAddr, Act.put, hld]) rfl ⟨rfl, HQ4.out.trans (b3.low (Nat.le_succ _))⟩
    · by_cases h7 : 7 < q
      · go_upto_region 9 with fail
        refine wp_at (RC w { d3 with v := plV d3.v }) (by rw [show plV d3.v = { d3.v with d := 0 } from by unfold plV; rw [show plC1 d3.v.c = d3.v.c by rw [← HP.out]; unfold plC1; rw [decide_eq_false (show ¬ p < 0 by omega), decide_eq_false (show ¬ 8 ≤ p by omega)]; rfl, show plD1 d3.v.d = 0 by rw [← HQ.out]; unfold plD1; rw [decide_eq_true (show 7 < q by omega)]; rfl]]; exact HB.out) ?_
        clear c53 c54 c54' f53 f54 f54' l3 HA HAB HB HU3
        intro U4 hU4
        obtain ⟨q1, ⟨Z, q2, q3⟩, q4⟩ := hU4
        have HQ1 := Lib.hid q1
        have HQ2 := Lib.hid q2
        have HQ3 := Lib.hid q3
        have HQ4 := Lib.hid q4
        have hl4 := q1.lt
        clear q1 q2 q3 q4
        refine wp_region_lit ?_
        go_wp2_with (first
          | (refine wpList_load_pin rfl 51 (.tmp 1) rfl HQ1.out (by simp [Act.eval]) _ Try.underlying51 rfl 55 size_ce (ceL_len _) ?_)
          | (refine wpList_store_pin rfl 51 (.tmp 2) (.tmp 38) rfl HQ3.out (ceL { d3 with v := plV d3.v }) (by simp [Act.eval, Act.put]) (by simp [Act.eval, Act.put]) 55 size_ce HQ2.out (ceL_len _) (ceL_one _) ?_; intro w3 p3 b3))
        have hld := p3.var 51 _ Try.underlying51 rfl 55 size_ce (ceL_len _)
        have he : ({ d3 with v := plV d3.v } : Ce) = plC c := by rw [HD3.out, ← HYR.out, HD2.out, ← HYO.out, HD.out, ← HYA.out]; exact HE.out
        rw [he] at hld
        exact bodyPost_ret (v := .agg (ceL (plC c)).toArray) (by simp [results, Try.results28, asAddr, Act.put, hld]) rfl ⟨rfl, HQ4.out.trans (b3.low (Nat.le_succ _))⟩
      · go_upto_region 9 with fail
        refine wp_at (RC w { d3 with v := plV d3.v }) (by rw [show plV d3.v = d3.v from by unfold plV; rw [show plC1 d3.v.c = d3.v.c by rw [← HP.out]; unfold plC1; rw [decide_eq_false (show ¬ p < 0 by omega), decide_eq_false (show ¬ 8 ≤ p by omega)]; rfl, show plD1 d3.v.d = d3.v.d by rw [← HQ.out]; unfold plD1; rw [decide_eq_false (show ¬ 7 < q by omega)]; rfl]]; exact HU3.out) ?_
        clear c53 c54 c54' f53 f54 f54' l3 HA HAB HB HU3
        intro U4 hU4
        obtain ⟨q1, ⟨Z, q2, q3⟩, q4⟩ := hU4
        have HQ1 := Lib.hid q1
        have HQ2 := Lib.hid q2
        have HQ3 := Lib.hid q3
        have HQ4 := Lib.hid q4
        have hl4 := q1.lt
        clear q1 q2 q3 q4
        refine wp_region_lit ?_
        go_wp2_with (first
          | (refine wpList_load_pin rfl 51 (.tmp 1) rfl HQ1.out (by simp [Act.eval]) _ Try.underlying51 rfl 55 size_ce (ceL_len _) ?_)
          | (refine wpList_store_pin rfl 51 (.tmp 2) (.tmp 38) rfl HQ3.out (ceL { d3 with v := plV d3.v }) (by simp [Act.eval, Act.put]) (by simp [Act.eval, Act.put]) 55 size_ce HQ2.out (ceL_len _) (ceL_one _) ?_; intro w3 p3 b3))
        have hld := p3.var 51 _ Try.underlying51 rfl 55 size_ce (ceL_len _)
        have he : ({ d3 with v := plV d3.v } : Ce) = plC c := by rw [HD3.out, ← HYR.out, HD2.out, ← HYO.out, HD.out, ← HYA.out]; exact HE.out
        rw [he] at hld
        exact bodyPost_ret (v := .agg (ceL (plC c)).toArray) (by simp [results, Try.results28, asAddr, Act.put, hld]) rfl ⟨rfl, HQ4.out.trans (b3.low (Nat.le_succ _))⟩
end Go.Proofs.Ytmmgbhdjjejacaa

