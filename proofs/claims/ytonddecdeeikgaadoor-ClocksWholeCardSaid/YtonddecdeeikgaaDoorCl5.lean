/-
  The contracts of a clock's mayBegin, Tick and Slot. Conditions: the clock's reading; the scale's numbers are within their bounds.
-/
import Derived.Test.YtonddecdeeikgaaDoorCl4
namespace Go.Proofs.YtonddecdeeikgaaDoor
open Go.RowKit Cl
set_option linter.unusedVariables false

/-- Does a tick like this begin a slot, if none runs? -/
def begB (s L a : Int) (sure : Bool) : Bool := sure && Cl.isAge a && (timeM s L a).p == 0
theorem may_un (g : Nat) (s L st : Int) (t : Tm) (a : Int) (w : World) (hC : Clk w g s L st t)  :
    Calls Tryd.prog 31 #[.pointer (some ⟨g, 0, none⟩), .int .i64 a, .bool false] w fun e w' => e = .returned (.bool (begB s L a false)) ∧ Below w.heap.size w w' := by
  have HBB := Lib.hid (Below.refl w.heap.size w)
  have HM := Lib.hid (show begB s L a false = false from rfl)
  have HBL := HBB
  clear hC
  go_enter Tryd.func31, Tryd.ntmps31
  go_wp2_with fail
  go_ret
  exact ⟨ret_bool (by first | exact HM.out.symm | (rw [HM.out])), HBL.out⟩
theorem may_no (g : Nat) (s L st : Int) (t : Tm) (a : Int) (w : World) (hC : Clk w g s L st t) (ha : Cl.isAge a = false) :
    Calls Tryd.prog 31 #[.pointer (some ⟨g, 0, none⟩), .int .i64 a, .bool true] w fun e w' => e = .returned (.bool (begB s L a true)) ∧ Below w.heap.size w w' := by
  have HBB := Lib.hid (Below.refl w.heap.size w)
  have HM := Lib.hid (show begB s L a true = false by simp [begB, ha])
  have HA := Lib.hid ha
  clear hC ha
  go_enter Tryd.func31, Tryd.ntmps31
  go_wp2_with (go_at_call 25; (with_reducible refine (isAge_is a false HA.out _).mono ?_); rintro e w1 ⟨rfl, b1⟩; have HBL := Lib.hid b1)
  go_ret
  exact ⟨ret_bool (by first | exact HM.out.symm | (rw [HM.out])), HBL.out⟩
theorem may_yes (g : Nat) (s L st : Int) (t : Tm) (a : Int) (w : World) (hC : Clk w g s L st t) (ha : Cl.isAge a = true) (hs : Sc s L) :
    Calls Tryd.prog 31 #[.pointer (some ⟨g, 0, none⟩), .int .i64 a, .bool true] w fun e w' => e = .returned (.bool (begB s L a true)) ∧ Below w.heap.size w w' := by
  have HBB := Lib.hid (Below.refl w.heap.size w)
  have HM := Lib.hid (show begB s L a true = ((timeM s L a).p == 0) by simp [begB, ha])
  have HA := Lib.hid ha
  obtain ⟨X, hX⟩ : ∃ X, X = timeM s L a := ⟨_, rfl⟩
  rw [← hX] at HM
  have HX := Lib.hid hX.symm
  have HA1 := Lib.hid (show 0 ≤ a by simp [Cl.isAge] at ha; omega)
  have HA2 := Lib.hid (show a ≤ 1099511627776 by simp [Cl.isAge] at ha; omega)
  have HSC := Lib.hid hs
  have hfd : ∀ W : World, (Instr.field 27 (.agg #[.int .i64 X.r, .int .i64 X.k, .int .i64 X.p]) 2).run Tryd.prog W = .ok (.int .i64 X.p) W := fun _ => by kernel_rfl
  clear ha hs hX
  go_enter Tryd.func31, Tryd.ntmps31
  go_wp2_with (first
    | (go_at_call 25; (with_reducible refine (isAge_is a true HA.out _).mono ?_); rintro e w1 ⟨rfl, b1⟩; have hC1 := Blk.on hC b1; have c0 := hC1.cell 0; have c1 := hC1.cell 1; have c2 := hC1.cell 2; have c3 := hC1.cell 3; have c4 := hC1.cell 4; have c5 := hC1.cell 5; have cl := hC1.lt; simp only [List.getElem?_toArray, List.getElem?_cons_zero, List.getElem?_cons_succ] at c0 c1 c2 c3 c4 c5)
    | (go_at_call 26; (with_reducible refine (scTime_is s L a X HX.out _ HSC.out HA1.out HA2.out).mono ?_); rintro e w2 ⟨rfl, b2⟩; have HBL := Lib.hid (below_then b1 b2)))
  go_ret
  exact ⟨ret_bool (by first | exact HM.out.symm | (rw [HM.out])), HBL.out⟩
theorem may_any (g : Nat) (s L st : Int) (t : Tm) (a : Int) (sure : Bool) (w : World) (hC : Clk w g s L st t) (hs : Sc s L) :
    Calls Tryd.prog 31 #[.pointer (some ⟨g, 0, none⟩), .int .i64 a, .bool sure] w fun e w' => e = .returned (.bool (begB s L a sure)) ∧ Below w.heap.size w w' := by
  cases sure
  · exact may_un g s L st t a w hC
  · by_cases ha : Cl.isAge a = true
    · exact may_yes g s L st t a w hC ha hs
    · exact may_no g s L st t a w hC (by simpa using ha)
theorem may_is (g : Nat) (s L st : Int) (t : Tm) (a : Int) (sure b : Bool) (hb : begB s L a sure = b) (w : World) (hC : Clk w g s L st t) (hs : Sc s L) :
    Calls Tryd.prog 31 #[.pointer (some ⟨g, 0, none⟩), .int .i64 a, .bool sure] w fun e w' => e = .returned (.bool b) ∧ Below w.heap.size w w' := by
  subst hb; exact may_any g s L st t a sure w hC hs

theorem tick_nil (a : Int) (sure : Bool) (w : World) :
    Calls Tryd.prog 18 #[.pointer none, .int .i64 a, .bool sure] w fun e w' => e = .returned (.tuple #[.agg #[.int .i64 0, .int .i64 0, .int .i64 0], .bool false]) ∧ Below w.heap.size w w' := by
  go_enter Tryd.func18, Tryd.ntmps18
  go_wp2_with fail
  exact bodyPost_ret (v := .tuple #[.agg #[.int .i64 0, .int .i64 0, .int .i64 0], .bool false]) (by simp [results, Tryd.results18, go_sem]) rfl ⟨rfl, by first | exact below_al (Below.refl _ _) _ | exact (Below.refl _ _).alloc (Nat.le_refl _) _⟩
section
variable {g h : Nat} {t : TypeId} {u : World} {u0 u1 u2 : Value}
theorem Blk.far {cs : Array Value} (hB : Blk u g t cs) {p : Addr} (hp : g ≠ p.block) (v : Value) : Blk (u.setCell p v) g t cs := (Below.heap_setCell u p v g hp).trans hB
theorem Blk.far3 {cs : Array Value} (hB : Blk u g t cs) (hp : g ≠ h) : Blk (((u.setCell ⟨h, 0, none⟩ u0).setCell ⟨h, 1, none⟩ u1).setCell ⟨h, 2, none⟩ u2) g t cs :=
  ((hB.far (p := ⟨h, 0, none⟩) hp u0).far (p := ⟨h, 1, none⟩) hp u1).far (p := ⟨h, 2, none⟩) hp u2
theorem Reg.KJ.one {B : Nat} {S : List Nat} (i : Nat) (v : Value) (hB : B ≤ g) (hg : g ∈ S) : Reg.KJ B S [] u (u.setCell ⟨g, i, none⟩ v) :=
  ⟨(Below.refl _ _).setCell (p := ⟨g, i, none⟩) hB v, fun k _ hk => Below.heap_setCell _ _ _ _ fun e => hk (e ▸ hg), fun _ h => by cases h⟩
end
/-- The clock's cells, written one by one. -/
theorem Clk.put {u : World} {g : Nat} {s L st : Int} {t : Tm} (hC : Clk u g s L st t) (st' : Int) (x : Tm) : Clk ((((u.setCell ⟨g, 2, none⟩ (.int .i64 st')).setCell ⟨g, 3, none⟩ (.int .i64 x.r)).setCell ⟨g, 4, none⟩ (.int .i64 x.k)).setCell ⟨g, 5, none⟩ (.int .i64 x.p)) g s L st' x :=
  (((Blk.set_ hC 2 (.int .i64 st')).set_ 3 (.int .i64 x.r)).set_ 4 (.int .i64 x.k)).set_ 5 (.int .i64 x.p)
theorem Reg.KJ.put {u : World} {g : Nat} (v2 v3 v4 v5 : Value) : Reg.KJ g [g] [] u ((((u.setCell ⟨g, 2, none⟩ v2).setCell ⟨g, 3, none⟩ v3).setCell ⟨g, 4, none⟩ v4).setCell ⟨g, 5, none⟩ v5) :=
  Reg.KJ.trans _ _ _ (Reg.KJ.trans _ _ _ (Reg.KJ.trans _ _ _ (Reg.KJ.one 2 v2 (Nat.le_refl _) (by simp)) (Reg.KJ.one 3 v3 (Nat.le_refl _) (by simp))) (Reg.KJ.one 4 v4 (Nat.le_refl _) (by simp))) (Reg.KJ.one 5 v5 (Nat.le_refl _) (by simp))
theorem Blk.put {u : World} {g h : Nat} {t : TypeId} {cs : Array Value} (hB : Blk u h t cs) (hp : h ≠ g) (v2 v3 v4 v5 : Value) : Blk ((((u.setCell ⟨g, 2, none⟩ v2).setCell ⟨g, 3, none⟩ v3).setCell ⟨g, 4, none⟩ v4).setCell ⟨g, 5, none⟩ v5) h t cs :=
  (((hB.far (p := ⟨g, 2, none⟩) hp v2).far (p := ⟨g, 3, none⟩) hp v3).far (p := ⟨g, 4, none⟩) hp v4).far (p := ⟨g, 5, none⟩) hp v5
/-- From w on: all but the block g of what was there in w stays. -/
def But (g : Nat) (w w' : World) : Prop := Below g w w' ∧ ∀ b, b < w.heap.size → b ≠ g → w'.heap[b]? = w.heap[b]?
theorem But.blk {g b : Nat} {w w' : World} {t : TypeId} {cs : Array Value} (h : But g w w') (hB : Blk w b t cs) (hb : b ≠ g) : Blk w' b t cs := (h.2 b hB.lt hb).trans hB
theorem But.trans {g : Nat} {a b c : World} (h : But g a b) (k : But g b c) : But g a c := ⟨h.1.trans k.1, fun x hx hn => (k.2 x (Nat.lt_of_lt_of_le hx h.1.size) hn).trans (h.2 x hx hn)⟩
theorem But.grow {g : Nat} {w w' : World} (hg : g ≤ w.heap.size) (h : Below w.heap.size w w') : But g w w' := ⟨h.mono hg, fun b hb _ => h.block b hb⟩
theorem But.drew {g : Nat} {w u : World} (h : But g w u) : But g w u.drew := ⟨h.1.drew, h.2⟩
theorem wp_at {P : Program} {C : Code} {Q : Exit → Act → World → Prop} {a : Act} {W : World} (S : World → Prop) (h : S W) (k : ∀ U, S U → Code.wp P C Q a U) : Code.wp P C Q a W := k W h
theorem But.al {g : Nat} {w u : World} (hg : g < w.heap.size) (h : But g w u) (o : Obj) : But g w (u.alloc o) := ⟨h.1.alloc (Nat.le_trans (Nat.le_of_lt hg) h.1.size) o, fun b hb hn => (Below.heap_alloc u o b (Nat.lt_of_lt_of_le hb h.1.size)).trans (h.2 b hb hn)⟩
theorem Blk.newS (w : World) (p : Addr) (v : Value) (t : TypeId) (cs : Array Value) : Blk ((w.setCell p v).alloc (.cells cs t)) w.heap.size t cs := by
  have h := Blk.new (w.setCell p v) t cs
  simpa using h
theorem But.refl (g : Nat) (w : World) : But g w w := ⟨Below.refl _ _, fun _ _ _ => rfl⟩
theorem But.put {u : World} {g : Nat} (v2 v3 v4 v5 : Value) : But g u ((((u.setCell ⟨g, 2, none⟩ v2).setCell ⟨g, 3, none⟩ v3).setCell ⟨g, 4, none⟩ v4).setCell ⟨g, 5, none⟩ v5) :=
  ⟨(Reg.KJ.put v2 v3 v4 v5).1, fun b hb hn => (Reg.KJ.put v2 v3 v4 v5).2.1 b hb (by simpa using hn)⟩
theorem But.one {u : World} {g : Nat} (i : Nat) (v : Value) : But g u (u.setCell ⟨g, i, none⟩ v) :=
  ⟨(Below.refl _ _).setCell (p := ⟨g, i, none⟩) (Nat.le_refl _) v, fun _ _ hk => Below.heap_setCell _ _ _ _ hk⟩
/-- A new block that is written behind it. -/
theorem But.late {g b : Nat} {w u : World} (h : But g w u) (hb : w.heap.size ≤ b) (hg : g < w.heap.size) (u0 u1 u2 : Value) : But g w (((u.setCell ⟨b, 0, none⟩ u0).setCell ⟨b, 1, none⟩ u1).setCell ⟨b, 2, none⟩ u2) :=
  ⟨below_three h.1 (by omega) _ _ _, fun k hk hn => by
    have hne : k ≠ b := by omega
    rw [Below.heap_setCell _ _ _ _ hne, Below.heap_setCell _ _ _ _ hne, Below.heap_setCell _ _ _ _ hne]
    exact h.2 k hk hn⟩
set_option maxRecDepth 100000 in
set_option maxHeartbeats 4000000 in
theorem tick_run (g : Nat) (s L : Int) (t : Tm) (a : Int) (sure : Bool) (w : World) (hC : Clk w g s L 2 t) (h0 : 0 ≤ t.p) (h1 : t.p + 1 < L) (h2 : L ≤ 4096) :
    Calls Tryd.prog 18 #[.pointer (some ⟨g, 0, none⟩), .int .i64 a, .bool sure] w fun e w' => e = .returned (.tuple #[.agg #[.int .i64 t.r, .int .i64 t.k, .int .i64 (t.p + 1)], .bool true]) ∧ Clk w' g s L 2 ⟨t.r, t.k, t.p + 1⟩ ∧ But g w w' := by
  have hlt := Blk.lt hC
  have hC1 := Blk.alloc hC (.cells #[.int .i64 0, .int .i64 0, .int .i64 0] 27)
  have hZ1 := Blk.new w 27 #[.int .i64 0, .int .i64 0, .int .i64 0]
  have hK1 : But g w (w.alloc (.cells #[.int .i64 0, .int .i64 0, .int .i64 0] 27)) := But.grow (Nat.le_of_lt hlt) (below_al (Below.refl _ _) _)
  have hwr : IntKind.i64.wrap (t.p + 1) = t.p + 1 := IntWalk.i64_in _ (by omega)
  have c0 := hC1.cell 0
  have c1 := hC1.cell 1
  have c2 := hC1.cell 2
  have c3 := hC1.cell 3
  have c4 := hC1.cell 4
  have c5 := hC1.cell 5
  have cl := hC1.lt
  simp only [List.getElem?_toArray, List.getElem?_cons_zero, List.getElem?_cons_succ] at c0 c1 c2 c3 c4 c5
  have f0 := hC1.frozen 0
  have f1 := hC1.frozen 1
  have f2 := hC1.frozen 2
  have f3 := hC1.frozen 3
  have f4 := hC1.frozen 4
  have f5 := hC1.frozen 5
  go_enter Tryd.func18, Tryd.ntmps18
  go_wp2_with fail
  go_region
  go_wp2_with fail
  refine wp_at (fun U => Clk U g s L 2 ⟨t.r, t.k, t.p + 1⟩ ∧ Blk U w.heap.size 27 #[.int .i64 0, .int .i64 0, .int .i64 0] ∧ But g w U) ⟨?_, ?_, ?_⟩ ?_
  · exact (Blk.set_ hC 5 _).alloc _
  · exact Blk.newS w _ _ _ _
  · exact (But.al hlt (But.one 5 _) _).drew
  rintro U ⟨hCU, hZU, hKU⟩
  clear c0 c1 c2 c3 c4 c5 cl f0 f1 f2 f3 f4 f5
  have hCV := hCU
  have c0 := hCV.cell 0
  have c1 := hCV.cell 1
  have c2 := hCV.cell 2
  have c3 := hCV.cell 3
  have c4 := hCV.cell 4
  have c5 := hCV.cell 5
  have cl := hCV.lt
  simp only [List.getElem?_toArray, List.getElem?_cons_zero, List.getElem?_cons_succ] at c0 c1 c2 c3 c4 c5
  have z0 := hZU.cell 0
  have z1 := hZU.cell 1
  have z2 := hZU.cell 2
  have zl := hZU.lt
  simp only [List.getElem?_toArray, List.getElem?_cons_zero, List.getElem?_cons_succ] at z0 z1 z2
  have f0 := hZU.frozen 0
  have f1 := hZU.frozen 1
  have f2 := hZU.frozen 2
  have hgz : g ≠ w.heap.size := Nat.ne_of_lt hlt
  go_region
  all_goals (go_wp2_with fail)
  all_goals (
    obtain ⟨x0, x1, x2⟩ := blk_three hZU (.int .i64 t.r) (.int .i64 t.k) (.int .i64 (t.p + 1))
    refine bodyPost_ret (v := .tuple #[.agg #[.int .i64 t.r, .int .i64 t.k, .int .i64 (t.p + 1)], .bool true]) (by simp [results, Tryd.results18, go_sem, x0, x1, x2]) rfl ⟨rfl, ?_, ?_⟩
    · exact Blk.far3 hCU hgz
    · exact (But.late hKU (Nat.le_refl _) hlt _ _ _).drew)
set_option maxRecDepth 100000 in
set_option maxHeartbeats 4000000 in
theorem tick_wait_yes (g : Nat) (s L : Int) (a : Int) (sure : Bool) (w : World) (hC : Clk w g s L 1 Tm.zero) (hs : Sc s L) (hb : begB s L a sure = true) (X : Tm) (hX : timeM s L a = X) (ha : 0 ≤ a) (ha' : a ≤ 1099511627776) :
    Calls Tryd.prog 18 #[.pointer (some ⟨g, 0, none⟩), .int .i64 a, .bool sure] w fun e w' => e = .returned (.tuple #[.agg #[.int .i64 X.r, .int .i64 X.k, .int .i64 X.p], .bool true]) ∧ Clk w' g s L 2 X ∧ But g w w' := by
  have hlt := Blk.lt hC
  have hC1 := Blk.alloc hC (.cells #[.int .i64 0, .int .i64 0, .int .i64 0] 27)
  have hZ1 := Blk.new w 27 #[.int .i64 0, .int .i64 0, .int .i64 0]
  have hK1 : But g w (w.alloc (.cells #[.int .i64 0, .int .i64 0, .int .i64 0] 27)) := But.grow (Nat.le_of_lt hlt) (below_al (Below.refl _ _) _)
  have HSC := Lib.hid hs
  have HB := Lib.hid hb
  have HCX := Lib.hid (show Clk (w.alloc (.cells #[.int .i64 0, .int .i64 0, .int .i64 0] 27)) g s L 1 Tm.zero from hC1)
  have HZX := Lib.hid (show Blk (w.alloc (.cells #[.int .i64 0, .int .i64 0, .int .i64 0] 27)) w.heap.size 27 #[.int .i64 0, .int .i64 0, .int .i64 0] from hZ1)
  have HKX := Lib.hid (show But g w (w.alloc (.cells #[.int .i64 0, .int .i64 0, .int .i64 0] 27)) from hK1)
  have HLX := Lib.hid (show g ≤ (w.alloc (.cells #[.int .i64 0, .int .i64 0, .int .i64 0] 27)).heap.size from Nat.le_of_lt (Blk.lt HCX.out))
  have HX := Lib.hid hX
  have HA := Lib.hid ha
  have HA2 := Lib.hid ha'
  clear hX ha ha'
  clear hb hs
  have c0 := hC1.cell 0
  have c1 := hC1.cell 1
  have c2 := hC1.cell 2
  have c3 := hC1.cell 3
  have c4 := hC1.cell 4
  have c5 := hC1.cell 5
  have cl := hC1.lt
  simp only [List.getElem?_toArray, List.getElem?_cons_zero, List.getElem?_cons_succ] at c0 c1 c2 c3 c4 c5
  have f0 := hC1.frozen 0
  have f1 := hC1.frozen 1
  have f2 := hC1.frozen 2
  have f3 := hC1.frozen 3
  have f4 := hC1.frozen 4
  have f5 := hC1.frozen 5
  go_enter Tryd.func18, Tryd.ntmps18
  go_wp2_with (first
    | (go_at_call 31; (with_reducible refine (may_is g s L 1 Tm.zero a sure true HB.out (w.alloc (.cells #[.int .i64 0, .int .i64 0, .int .i64 0] 27)) HCX.out HSC.out).mono ?_); rintro e w2 ⟨rfl, b2⟩; have hC2 := Blk.on (w := (w.alloc (.cells #[.int .i64 0, .int .i64 0, .int .i64 0] 27))) HCX.out b2; have hZ2 := Blk.on (w := (w.alloc (.cells #[.int .i64 0, .int .i64 0, .int .i64 0] 27))) HZX.out b2; have hK2 := HKX.out.trans (But.grow HLX.out b2); clear c0 c1 c2 c3 c4 c5 cl f0 f1 f2 f3 f4 f5 b2; have c0 := hC2.cell 0; have c1 := hC2.cell 1; have c2 := hC2.cell 2; have c3 := hC2.cell 3; have c4 := hC2.cell 4; have c5 := hC2.cell 5; have cl := hC2.lt; simp only [List.getElem?_toArray, List.getElem?_cons_zero, List.getElem?_cons_succ] at c0 c1 c2 c3 c4 c5; have f0 := hC2.frozen 0; have f1 := hC2.frozen 1; have f2 := hC2.frozen 2; have f3 := hC2.frozen 3; have f4 := hC2.frozen 4; have f5 := hC2.frozen 5)
    | (go_at_call 26; (with_reducible refine (scTime_is s L a X HX.out _ HSC.out HA.out HA2.out).mono ?_); rintro e w3 ⟨rfl, b3⟩; have hC3 := Blk.on hC2 b3; have hZ3 := Blk.on hZ2 b3; have hK3 := hK2.trans (But.grow (Nat.le_of_lt (Blk.lt hC2)) b3); clear c0 c1 c2 c3 c4 c5 cl f0 f1 f2 f3 f4 f5 b3; have c0 := hC3.cell 0; have c1 := hC3.cell 1; have c2 := hC3.cell 2; have c3 := hC3.cell 3; have c4 := hC3.cell 4; have c5 := hC3.cell 5; have cl := hC3.lt; simp only [List.getElem?_toArray, List.getElem?_cons_zero, List.getElem?_cons_succ] at c0 c1 c2 c3 c4 c5; have f0 := hC3.frozen 0; have f1 := hC3.frozen 1; have f2 := hC3.frozen 2; have f3 := hC3.frozen 3; have f4 := hC3.frozen 4; have f5 := hC3.frozen 5))
  refine wp_at (fun U => Clk U g s L 2 X ∧ Blk U w.heap.size 27 #[.int .i64 0, .int .i64 0, .int .i64 0] ∧ But g w U) ⟨?_, ?_, ?_⟩ ?_
  · exact Clk.put hC3 2 X
  · exact hZ3.put (Nat.ne_of_gt hlt) _ _ _ _
  · exact hK3.trans (But.put _ _ _ _)
  rintro U ⟨hCU, hZU, hKU⟩
  clear c0 c1 c2 c3 c4 c5 cl f0 f1 f2 f3 f4 f5
  have hCV := hCU
  have c0 := hCV.cell 0
  have c1 := hCV.cell 1
  have c2 := hCV.cell 2
  have c3 := hCV.cell 3
  have c4 := hCV.cell 4
  have c5 := hCV.cell 5
  have cl := hCV.lt
  simp only [List.getElem?_toArray, List.getElem?_cons_zero, List.getElem?_cons_succ] at c0 c1 c2 c3 c4 c5
  have z0 := hZU.cell 0
  have z1 := hZU.cell 1
  have z2 := hZU.cell 2
  have zl := hZU.lt
  simp only [List.getElem?_toArray, List.getElem?_cons_zero, List.getElem?_cons_succ] at z0 z1 z2
  have f0 := hZU.frozen 0
  have f1 := hZU.frozen 1
  have f2 := hZU.frozen 2
  have hgz : g ≠ w.heap.size := Nat.ne_of_lt hlt
  go_region
  all_goals (go_wp2_with fail)
  all_goals (
    obtain ⟨x0, x1, x2⟩ := blk_three hZU (.int .i64 X.r) (.int .i64 X.k) (.int .i64 X.p)
    refine bodyPost_ret (v := .tuple #[.agg #[.int .i64 X.r, .int .i64 X.k, .int .i64 X.p], .bool true]) (by simp [results, Tryd.results18, go_sem, x0, x1, x2]) rfl ⟨rfl, ?_, ?_⟩
    · exact Blk.far3 hCU hgz
    · exact (But.late hKU (Nat.le_refl _) hlt _ _ _).drew)
set_option maxRecDepth 100000 in
set_option maxHeartbeats 4000000 in
theorem tick_wait_no (g : Nat) (s L : Int) (a : Int) (sure : Bool) (w : World) (hC : Clk w g s L 1 Tm.zero) (hs : Sc s L) (hb : begB s L a sure = false) :
    Calls Tryd.prog 18 #[.pointer (some ⟨g, 0, none⟩), .int .i64 a, .bool sure] w fun e w' => e = .returned (.tuple #[.agg #[.int .i64 0, .int .i64 0, .int .i64 0], .bool false]) ∧ Clk w' g s L 1 Tm.zero ∧ But g w w' := by
  have hlt := Blk.lt hC
  have hC1 := Blk.alloc hC (.cells #[.int .i64 0, .int .i64 0, .int .i64 0] 27)
  have hZ1 := Blk.new w 27 #[.int .i64 0, .int .i64 0, .int .i64 0]
  have hK1 : But g w (w.alloc (.cells #[.int .i64 0, .int .i64 0, .int .i64 0] 27)) := But.grow (Nat.le_of_lt hlt) (below_al (Below.refl _ _) _)
  have HSC := Lib.hid hs
  have HB := Lib.hid hb
  have HCX := Lib.hid (show Clk (w.alloc (.cells #[.int .i64 0, .int .i64 0, .int .i64 0] 27)) g s L 1 Tm.zero from hC1)
  have HZX := Lib.hid (show Blk (w.alloc (.cells #[.int .i64 0, .int .i64 0, .int .i64 0] 27)) w.heap.size 27 #[.int .i64 0, .int .i64 0, .int .i64 0] from hZ1)
  have HKX := Lib.hid (show But g w (w.alloc (.cells #[.int .i64 0, .int .i64 0, .int .i64 0] 27)) from hK1)
  have HLX := Lib.hid (show g ≤ (w.alloc (.cells #[.int .i64 0, .int .i64 0, .int .i64 0] 27)).heap.size from Nat.le_of_lt (Blk.lt HCX.out))
  clear hb hs
  have c0 := hC1.cell 0
  have c1 := hC1.cell 1
  have c2 := hC1.cell 2
  have c3 := hC1.cell 3
  have c4 := hC1.cell 4
  have c5 := hC1.cell 5
  have cl := hC1.lt
  simp only [List.getElem?_toArray, List.getElem?_cons_zero, List.getElem?_cons_succ] at c0 c1 c2 c3 c4 c5
  have f0 := hC1.frozen 0
  have f1 := hC1.frozen 1
  have f2 := hC1.frozen 2
  have f3 := hC1.frozen 3
  have f4 := hC1.frozen 4
  have f5 := hC1.frozen 5
  go_enter Tryd.func18, Tryd.ntmps18
  go_wp2_with (go_at_call 31; (with_reducible refine (may_is g s L 1 Tm.zero a sure false HB.out (w.alloc (.cells #[.int .i64 0, .int .i64 0, .int .i64 0] 27)) HCX.out HSC.out).mono ?_); rintro e w2 ⟨rfl, b2⟩; have hC2 := Blk.on (w := (w.alloc (.cells #[.int .i64 0, .int .i64 0, .int .i64 0] 27))) HCX.out b2; have hZ2 := Blk.on (w := (w.alloc (.cells #[.int .i64 0, .int .i64 0, .int .i64 0] 27))) HZX.out b2; have hK2 := HKX.out.trans (But.grow HLX.out b2); clear c0 c1 c2 c3 c4 c5 cl f0 f1 f2 f3 f4 f5 b2)
  refine wp_at (fun U => Clk U g s L 1 Tm.zero ∧ Blk U w.heap.size 27 #[.int .i64 0, .int .i64 0, .int .i64 0] ∧ But g w U) ⟨?_, ?_, ?_⟩ ?_
  · exact hC2
  · exact hZ2
  · exact hK2
  rintro U ⟨hCU, hZU, hKU⟩
  have hCV : Blk U g 53 #[.int .i64 s, .int .i64 L, .int .i64 1, .int .i64 0, .int .i64 0, .int .i64 0] := hCU
  have c0 := hCV.cell 0
  have c1 := hCV.cell 1
  have c2 := hCV.cell 2
  have c3 := hCV.cell 3
  have c4 := hCV.cell 4
  have c5 := hCV.cell 5
  have cl := hCV.lt
  simp only [List.getElem?_toArray, List.getElem?_cons_zero, List.getElem?_cons_succ] at c0 c1 c2 c3 c4 c5
  have z0 := hZU.cell 0
  have z1 := hZU.cell 1
  have z2 := hZU.cell 2
  have zl := hZU.lt
  simp only [List.getElem?_toArray, List.getElem?_cons_zero, List.getElem?_cons_succ] at z0 z1 z2
  have f0 := hZU.frozen 0
  have f1 := hZU.frozen 1
  have f2 := hZU.frozen 2
  have hgz : g ≠ w.heap.size := Nat.ne_of_lt hlt
  go_region
  all_goals (go_wp2_with fail)
  all_goals (
    obtain ⟨x0, x1, x2⟩ := blk_three hZU (.int .i64 0) (.int .i64 0) (.int .i64 0)
    refine bodyPost_ret (v := .tuple #[.agg #[.int .i64 0, .int .i64 0, .int .i64 0], .bool false]) (by simp [results, Tryd.results18, go_sem, x0, x1, x2]) rfl ⟨rfl, ?_, ?_⟩
    · exact Blk.far3 hCU hgz
    · exact (But.late hKU (Nat.le_refl _) hlt _ _ _).drew)
end Go.Proofs.YtonddecdeeikgaaDoor
