/-
  The contracts of the document's answers for windows: Of, At; the law's Same. Conditions: a config that may be, and its reading; the numbers are of their kinds.
-/
import Derived.Test.YtkejpkcaojidaaaGreatDoorWn4
import Derived.Test.YtkejpkcaojidaaaGreatDoorLawNet
import Derived.Deep.Cut
import Derived.BigQuiet
namespace Go.Proofs.YtkejpkcaojidaaaGreatDoor
set_option linter.unusedVariables false
set_option linter.unusedSimpArgs false
open Go.RowKit Rg
set_option linter.unusedVariables false

/-- Of a config that may be: a node's window in a slot of a pair. -/
theorem of_ok {c : Cf} (h0 : newE c = 0) (hl : c.P.length = c.pn) {d o x : Int} (hd : d = 0 ∨ d = 1) (ho : 0 ≤ o ∧ o < c.pn) (hx : 0 ≤ x ∧ x < c.N) :
    ∃ k f, atM c.P o = f ∧ 0 ≤ f ∧ f < c.N ∧ placeM c.N d f x = k ∧ 0 ≤ k ∧ k < c.N ∧ ofW c.N c.P d o x = wnM k ∧ ofWE c.N c.P d o x = 0 := by
  have ok := newE_ok.1 h0
  have hN := ok.nodes
  have hf : 0 ≤ atM c.P o ∧ atM c.P o < c.N := by
    obtain ⟨q, rfl⟩ : ∃ q : Nat, o = q := ⟨o.toNat, by omega⟩
    rw [atM_nat c.P q (by omega)]
    exact okP_at ok.okP q (by omega)
  have hp := pl_of (N := c.N) (P := c.P) (d := d) (o := o) (x := x) rfl ⟨hN.1, hN.2, by omega, by omega, hf.1, hf.2, hx.1, hx.2⟩
  have hy := of_yes (N := c.N) (P := c.P) (d := d) (o := o) (x := x) (by omega) rfl (by omega)
  exact ⟨_, _, rfl, hf.1, hf.2, hp.1.symm, hp.2.1, hp.2.2, hy.1, hy.2⟩
end Go.Proofs.YtkejpkcaojidaaaGreatDoor

namespace Go.Proofs.YtkejpkcaojidaaaGreatDoor
open Go.RowKit Rg
set_option linter.unusedVariables false

theorem refPlace_same (n d f x k : Int) (hk : placeM n d f x = k) (w : World) (hd : 0 ≤ d) (hd' : d ≤ 255) :
    Calls Tryz.prog 59 #[.int .i64 n, .int .u8 d, .int .i64 f, .int .i64 x] w fun e w' => e = .returned (.int .i64 k) ∧ w' = w := by
  subst hk; exact (refPlace_any n d f x w hd hd').mono fun _ _ ⟨a, b⟩ => ⟨a, b.symm⟩

theorem refAt_is (X : Wn) (q : Int) (i : Int) (hi : opI X q = i) (b : Bool) (hb : opB X q = b) (w : World) (hX : WnFit X) :
    Calls Tryz.prog 32 #[.agg #[.int .i64 X.r, .int .i64 X.p, .int .i64 X.b, .int .i64 X.e], .int .i64 q] w fun e w' => e = .returned (.tuple #[.int .i64 i, .bool b]) ∧ Below w.heap.size w w' := by
  obtain ⟨f1, f2, f3, f4⟩ := hX
  have hb0 := below_al (Below.refl w.heap.size w) (.cells #[.int .i64 X.r, .int .i64 X.p, .int .i64 X.b, .int .i64 X.e] 101)
  have HB := Lib.hid hb
  have HI := Lib.hid hi
  obtain ⟨xr, xp, xb, xe⟩ := X
  simp only at f1 f2 f3 f4
  have hw0 : IntKind.i64.wrap (xe - xb) = xe - xb := IntWalk.i64_in _ (by omega)
  clear hi hb
  go_enter Tryz.func32, Tryz.ntmps32
  go_wp2_with fail
  go_loop [6] (fun s6 => ∃ k : Int, 0 ≤ k ∧ k ≤ xe - xb ∧ s6 = .int .i64 k ∧ Hid (q < xb ∨ xb + k ≤ q)) (fun s6 => (xe - xb - intOf s6).toNat)
  case atStart => exact ⟨0, by omega, by omega, rfl, Lib.hid (by omega)⟩
  case round =>
    obtain ⟨k, k0, k1, rfl, HK⟩ := hrel
    have hw1 : IntKind.i64.wrap (xb + k) = xb + k := IntWalk.i64_in _ (by omega)
    by_cases hlt : k < xe - xb
    · by_cases hq : xb + k = q
      · have HB1 := Lib.hid (show b = true by rw [← HB.out]; exact decide_eq_true (by simp only; omega))
        have HI1 := Lib.hid (show i = k by rw [← HI.out, opI, HB.out, HB1.out]; simp only [if_true]; omega)
        have c1 : (xb + k == q) = true := by simpa using hq
        clear hq
        go_wp2_with fail
        rw [HI1.out, HB1.out]
        exact bodyPost_ret (v := .tuple #[.int .i64 k, .bool true]) (by simp [results, Tryz.results32, go_sem]) rfl ⟨rfl, hb0⟩
      · have c1 : (xb + k == q) = false := by simpa using hq
        have HK1 := Lib.hid (show q < xb ∨ xb + (k + 1) ≤ q by have := HK.out; omega)
        clear hq
        go_wp2_with fail
        go_round
        case rel => exact ⟨k + 1, by omega, by omega, rfl, HK1⟩
        case measure => simp [intOf]; omega
    · have HB1 := Lib.hid (show b = false by rw [← HB.out]; exact decide_eq_false (by simp only; have := HK.out; omega))
      have HI1 := Lib.hid (show i = 0 by rw [← HI.out, opI, HB.out, HB1.out]; rfl)
      go_wp2_with fail
      rw [HI1.out, HB1.out]
      exact bodyPost_ret (v := .tuple #[.int .i64 0, .bool false]) (by simp [results, Tryz.results32, go_sem]) rfl ⟨rfl, hb0⟩

/-- No such direction, pair or node. -/
theorem of_bad {c : Cf} (h0 : newE c = 0) (hl : c.P.length = c.pn) {d o x : Int} (h : 1 < d ∨ o < 0 ∨ c.pn ≤ o ∨ x < 0 ∨ c.N ≤ x) : ofW c.N c.P d o x = wn0 ∧ ofWE c.N c.P d o x = 1 := by
  have ok := newE_ok.1 h0
  have hN := ok.nodes
  have hat : o < 0 ∨ c.pn ≤ o → atM c.P o = -1 := fun h => by rw [atM, if_neg]; omega
  refine of_no (by omega) (pl_none ?_)
  rcases h with h | h | h | h | h
  · omega
  · rw [hat (.inl h)]; omega
  · rw [hat (.inr h)]; omega
  · omega
  · omega
theorem refOf_bad (c : Cf) (d o x : Int) (w : World) (h0 : newE c = 0) (hl : c.P.length = c.pn) (hd : 0 ≤ d) (hd' : d ≤ 255) (h : 1 < d ∨ o < 0 ∨ c.pn ≤ o ∨ x < 0 ∨ c.N ≤ x) :
    Calls Tryz.prog 31 #[.agg #[.int .i64 c.N, .slice c.pA c.pn c.pc, .slice c.sA c.sn c.sc, .int .i64 c.L, .slice c.bA c.bn c.bc, .slice c.tA c.tn c.tc, .int .i64 c.M, .int .i64 c.G, .int .i64 c.F], .int .u8 d, .int .i64 o, .int .i64 x] w fun e w' => e = .returned (.tuple #[.agg #[.int .i64 0, .int .i64 0, .int .i64 0, .int .i64 0], .int .i64 1]) ∧ Below w.heap.size w w' := by
  have hb0 : Below w.heap.size w ((w.alloc (.cells #[.int .i64 c.N, .slice c.pA c.pn c.pc, .slice c.sA c.sn c.sc, .int .i64 c.L, .slice c.bA c.bn c.bc, .slice c.tA c.tn c.tc, .int .i64 c.M, .int .i64 c.G, .int .i64 c.F] 25)).alloc (.cells #[.int .i64 0, .int .i64 0, .int .i64 0, .int .i64 0] 101)) := below_al (below_al (Below.refl _ _) _) _
  have HB0 := Lib.hid hb0
  clear hb0 h0 hl
  have key : 1 < d ∨ (d ≤ 1 ∧ o < 0) ∨ (d ≤ 1 ∧ 0 ≤ o ∧ (c.pn : Int) ≤ o) ∨ (d ≤ 1 ∧ 0 ≤ o ∧ o < c.pn ∧ x < 0) ∨ (d ≤ 1 ∧ 0 ≤ o ∧ o < c.pn ∧ 0 ≤ x ∧ c.N ≤ x) := by omega
  clear h
  rcases key with h1 | ⟨h1, h2⟩ | ⟨h1, h2, h3⟩ | ⟨h1, h2, h3, h4⟩ | ⟨h1, h2, h3, h4, h5⟩
  · have d1 : decide (1 < d) = true := decide_eq_true h1
    go_enter Tryz.func31, Tryz.ntmps31
    go_wp2_with fail
    exact bodyPost_ret (v := .tuple #[.agg #[.int .i64 0, .int .i64 0, .int .i64 0, .int .i64 0], .int .i64 1]) (by simp [results, Tryz.results31, go_sem]) rfl ⟨rfl, HB0.out⟩
  · have d1 : decide (1 < d) = false := decide_eq_false (by omega)
    have d2 : decide (o < 0) = true := decide_eq_true h2
    go_enter Tryz.func31, Tryz.ntmps31
    go_wp2_with fail
    exact bodyPost_ret (v := .tuple #[.agg #[.int .i64 0, .int .i64 0, .int .i64 0, .int .i64 0], .int .i64 1]) (by simp [results, Tryz.results31, go_sem]) rfl ⟨rfl, HB0.out⟩
  · have d1 : decide (1 < d) = false := decide_eq_false (by omega)
    have d2 : decide (o < 0) = false := decide_eq_false (by omega)
    have d3 : decide ((c.pn : Int) ≤ o) = true := decide_eq_true h3
    go_enter Tryz.func31, Tryz.ntmps31
    go_wp2_with fail
    exact bodyPost_ret (v := .tuple #[.agg #[.int .i64 0, .int .i64 0, .int .i64 0, .int .i64 0], .int .i64 1]) (by simp [results, Tryz.results31, go_sem]) rfl ⟨rfl, HB0.out⟩
  · have d1 : decide (1 < d) = false := decide_eq_false (by omega)
    have d2 : decide (o < 0) = false := decide_eq_false (by omega)
    have d3 : decide ((c.pn : Int) ≤ o) = false := decide_eq_false (by omega)
    have d4 : decide (x < 0) = true := decide_eq_true h4
    go_enter Tryz.func31, Tryz.ntmps31
    go_wp2_with fail
    exact bodyPost_ret (v := .tuple #[.agg #[.int .i64 0, .int .i64 0, .int .i64 0, .int .i64 0], .int .i64 1]) (by simp [results, Tryz.results31, go_sem]) rfl ⟨rfl, HB0.out⟩
  · have d1 : decide (1 < d) = false := decide_eq_false (by omega)
    have d2 : decide (o < 0) = false := decide_eq_false (by omega)
    have d3 : decide ((c.pn : Int) ≤ o) = false := decide_eq_false (by omega)
    have d4 : decide (x < 0) = false := decide_eq_false (by omega)
    have d5 : decide (c.N ≤ x) = true := decide_eq_true h5
    go_enter Tryz.func31, Tryz.ntmps31
    go_wp2_with fail
    exact bodyPost_ret (v := .tuple #[.agg #[.int .i64 0, .int .i64 0, .int .i64 0, .int .i64 0], .int .i64 1]) (by simp [results, Tryz.results31, go_sem]) rfl ⟨rfl, HB0.out⟩
set_option maxRecDepth 100000 in
theorem refOf_yes (c : Cf) (d : Int) (o : Nat) (x f k : Int) (w : World) (hc : CfIn w c) (hd : 0 ≤ d) (hd1 : d ≤ 1) (ho : o < c.pn) (hx0 : 0 ≤ x) (hx1 : x < c.N) (hf : atM c.P o = f) (hk : placeM c.N d f x = k) (k0 : 0 ≤ k) (k1 : k ≤ 15) :
    Calls Tryz.prog 31 #[.agg #[.int .i64 c.N, .slice c.pA c.pn c.pc, .slice c.sA c.sn c.sc, .int .i64 c.L, .slice c.bA c.bn c.bc, .slice c.tA c.tn c.tc, .int .i64 c.M, .int .i64 c.G, .int .i64 c.F], .int .u8 d, .int .i64 o, .int .i64 x] w fun e w' => e = .returned (.tuple #[.agg #[.int .i64 (roleM k), .int .i64 k, .int .i64 (1 + k), .int .i64 (1 + k + 114)], .int .i64 0]) ∧ Below w.heap.size w w' := by
  have hb0 : Below w.heap.size w ((w.alloc (.cells #[.int .i64 c.N, .slice c.pA c.pn c.pc, .slice c.sA c.sn c.sc, .int .i64 c.L, .slice c.bA c.bn c.bc, .slice c.tA c.tn c.tc, .int .i64 c.M, .int .i64 c.G, .int .i64 c.F] 25)).alloc (.cells #[.int .i64 0, .int .i64 0, .int .i64 0, .int .i64 0] 101)) := below_al (below_al (Below.refl _ _) _) _
  have hC0 := (Blk.new w 25 #[.int .i64 c.N, .slice c.pA c.pn c.pc, .slice c.sA c.sn c.sc, .int .i64 c.L, .slice c.bA c.bn c.bc, .slice c.tA c.tn c.tc, .int .i64 c.M, .int .i64 c.G, .int .i64 c.F]).alloc (.cells #[.int .i64 0, .int .i64 0, .int .i64 0, .int .i64 0] 101)
  have hZ0 : Blk ((w.alloc (.cells #[.int .i64 c.N, .slice c.pA c.pn c.pc, .slice c.sA c.sn c.sc, .int .i64 c.L, .slice c.bA c.bn c.bc, .slice c.tA c.tn c.tc, .int .i64 c.M, .int .i64 c.G, .int .i64 c.F] 25)).alloc (.cells #[.int .i64 0, .int .i64 0, .int .i64 0, .int .i64 0] 101)) (w.heap.size + 1) 101 #[.int .i64 0, .int .i64 0, .int .i64 0, .int .i64 0] := by
    have h := Blk.new (w.alloc (.cells #[.int .i64 c.N, .slice c.pA c.pn c.pc, .slice c.sA c.sn c.sc, .int .i64 c.L, .slice c.bA c.bn c.bc, .slice c.tA c.tn c.tc, .int .i64 c.M, .int .i64 c.G, .int .i64 c.F] 25)) 101 #[.int .i64 0, .int .i64 0, .int .i64 0, .int .i64 0]
    rwa [alloc_size] at h
  obtain ⟨b, off, hA, hbl, hcc⟩ := hc.p.at_ (by omega)
  have hcell := hcc o ho
  have hlen := hc.p.len
  rw [← atM_nat c.P o (by omega), hf] at hcell
  have hcell2 := (hb0.cell (p := ⟨b, off + o, none⟩) hbl).trans hcell
  have hix := fun W => idxNums (n := c.pn) c.pc hA ho W
  have hbl2 : b < ((w.alloc (.cells #[.int .i64 c.N, .slice c.pA c.pn c.pc, .slice c.sA c.sn c.sc, .int .i64 c.L, .slice c.bA c.bn c.bc, .slice c.tA c.tn c.tc, .int .i64 c.M, .int .i64 c.G, .int .i64 c.F] 25)).alloc (.cells #[.int .i64 0, .int .i64 0, .int .i64 0, .int .i64 0] 101)).heap.size := Nat.lt_of_lt_of_le hbl hb0.size
  have HK := Lib.hid hk
  have d1 : decide (1 < d) = false := decide_eq_false (by omega)
  have d2 : decide ((o : Int) < 0) = false := decide_eq_false (by omega)
  have d3 : decide ((c.pn : Int) ≤ o) = false := decide_eq_false (by omega)
  have d3' : decide (c.pn ≤ o) = false := decide_eq_false (by omega)
  have d4 : decide (x < 0) = false := decide_eq_false (by omega)
  have d5 : decide (c.N ≤ x) = false := decide_eq_false (by omega)
  have w1 : IntKind.i64.wrap (1 + k) = 1 + k := IntWalk.i64_in _ (by omega)
  have w2 : IntKind.i64.wrap (1 + k + 114) = 1 + k + 114 := IntWalk.i64_in _ (by omega)
  have HB0 := Lib.hid hb0
  have hC := hC0
  obtain ⟨q0, q1, q2, q3, q4, q5, q6, q7, q8⟩ := hC.cf
  have ql := hC.lt
  have HZ0 := Lib.hid hZ0
  clear hcc hbl hcell hf hk hc hC0 hC hZ0 hb0 hlen hA
  go_enter Tryz.func31, Tryz.ntmps31
  go_upto_region 3 with fail
  obtain ⟨u, hu⟩ : ∃ u, u = ((w.alloc (.cells #[.int .i64 c.N, .slice c.pA c.pn c.pc, .slice c.sA c.sn c.sc, .int .i64 c.L, .slice c.bA c.bn c.bc, .slice c.tA c.tn c.tc, .int .i64 c.M, .int .i64 c.G, .int .i64 c.F] 25)).alloc (.cells #[.int .i64 0, .int .i64 0, .int .i64 0, .int .i64 0] 101)) := ⟨_, rfl⟩
  rw [← hu] at HB0 HZ0 hcell2 hbl2 q0 q1 q2 q3 q4 q5 q6 q7 q8 ql ⊢
  clear hu
  go_quiet ((go_at_call 59; exact Calls.quiet_of_same (refPlace_same c.N d f x k HK.out _ hd (by omega))))
  have HBv := Lib.hid (below_drewN HB0.out nq)
  have hZv : Blk (u.drewN nq) (w.heap.size + 1) 101 #[.int .i64 0, .int .i64 0, .int .i64 0, .int .i64 0] := HZ0.out
  obtain ⟨v, hv⟩ : ∃ v, v = u.drewN nq := ⟨_, rfl⟩
  rw [← hv] at HBv hZv ⊢
  clear hv q0 q1 q2 q3 q4 q5 q6 q7 q8 ql hcell2 hbl2 HB0 HZ0 hix d1 d2 d3 d3' d4 d5
  have z0 := hZv.cell 0
  have z1 := hZv.cell 1
  have z2 := hZv.cell 2
  have z3 := hZv.cell 3
  have zl := hZv.lt
  have zf := hZv.frozen
  simp only [List.getElem?_toArray, List.getElem?_cons_zero, List.getElem?_cons_succ] at z0 z1 z2 z3
  have key : k ≤ 1 ∨ k = 2 ∨ 3 ≤ k := by omega
  rcases key with h | rfl | h
  · have HR := Lib.hid (show roleM k = 1 from role_half.2 h)
    have d1 : decide (k < 2) = true := decide_eq_true (by omega)
    have d2 : (k == 2) = false := beq_eq_false_iff_ne.2 (by omega)
    clear h
    go_wp2_with fail
    obtain ⟨x0, x1, x2, x3⟩ := blk_four hZv (.int .i64 1) (.int .i64 k) (.int .i64 (1 + k)) (.int .i64 (1 + k + 114))
    rw [HR.out]
    exact bodyPost_ret (v := .tuple #[.agg #[.int .i64 1, .int .i64 k, .int .i64 (1 + k), .int .i64 (1 + k + 114)], .int .i64 0]) (by simp [results, Tryz.results31, go_sem, x0, x1, x2, x3]) rfl ⟨rfl, below_four HBv.out (by omega) _ _ _ _⟩
  · go_wp2_with fail
    obtain ⟨x0, x1, x2, x3⟩ := blk_four hZv (.int .i64 2) (.int .i64 2) (.int .i64 3) (.int .i64 117)
    exact bodyPost_ret (v := .tuple #[.agg #[.int .i64 2, .int .i64 2, .int .i64 3, .int .i64 117], .int .i64 0]) (by simp [results, Tryz.results31, go_sem, x0, x1, x2, x3]) rfl ⟨rfl, below_four HBv.out (by omega) _ _ _ _⟩
  · have HR := Lib.hid (show roleM k = 3 by rw [roleM, if_neg (by omega), if_neg (by omega)])
    have d1 : decide (k < 2) = false := decide_eq_false (by omega)
    have d2 : (k == 2) = false := beq_eq_false_iff_ne.2 (by omega)
    clear h
    go_wp2_with fail
    obtain ⟨x0, x1, x2, x3⟩ := blk_four hZv (.int .i64 3) (.int .i64 k) (.int .i64 (1 + k)) (.int .i64 (1 + k + 114))
    rw [HR.out]
    exact bodyPost_ret (v := .tuple #[.agg #[.int .i64 3, .int .i64 k, .int .i64 (1 + k), .int .i64 (1 + k + 114)], .int .i64 0]) (by simp [results, Tryz.results31, go_sem, x0, x1, x2, x3]) rfl ⟨rfl, below_four HBv.out (by omega) _ _ _ _⟩
theorem refOfW_is (c : Cf) (d o x : Int) (X : Wn) (hX : ofW c.N c.P d o x = X) (E : Int) (hE : ofWE c.N c.P d o x = E) (w : World) (hc : CfIn w c) (h0 : newE c = 0) (hd : 0 ≤ d) (hd' : d ≤ 255) :
    Calls Tryz.prog 31 #[.agg #[.int .i64 c.N, .slice c.pA c.pn c.pc, .slice c.sA c.sn c.sc, .int .i64 c.L, .slice c.bA c.bn c.bc, .slice c.tA c.tn c.tc, .int .i64 c.M, .int .i64 c.G, .int .i64 c.F], .int .u8 d, .int .i64 o, .int .i64 x] w fun e w' => e = .returned (.tuple #[.agg #[.int .i64 X.r, .int .i64 X.p, .int .i64 X.b, .int .i64 X.e], .int .i64 E]) ∧ Below w.heap.size w w' := by
  subst hX hE
  have hl := hc.p.len
  by_cases h : 1 < d ∨ o < 0 ∨ c.pn ≤ o ∨ x < 0 ∨ c.N ≤ x
  · obtain ⟨e1, e2⟩ := of_bad h0 hl h
    rw [e1, e2]
    exact refOf_bad c d o x w h0 hl hd hd' h
  · obtain ⟨k, f, hf, f0, f1, hk, k0, k1, e1, e2⟩ := of_ok h0 hl (d := d) (o := o) (x := x) (by omega) (by omega) (by omega)
    rw [e1, e2]
    have := (newE_ok.1 h0).nodes
    obtain ⟨n, rfl⟩ : ∃ n : Nat, o = n := ⟨o.toNat, by omega⟩
    exact refOf_yes c d n x f k w hc hd (by omega) (by omega) (by omega) (by omega) hf hk k0 (by omega)
end Go.Proofs.YtkejpkcaojidaaaGreatDoor

