/-
  The law's word on the chapter's examples: they are as the chapter has them. No condition.
-/
import Derived.Test.YtmmgbhdjjejacaaWdL1
namespace Go.Proofs.Ytmmgbhdjjejacaa
open Go.RowKit
set_option linter.unusedVariables false
set_option linter.unusedSimpArgs false

theorem wpList_build_want {P : Program} {ops : Array Oper} {rest : List Oper} {o : Oper} {a : Act} {w : World} {Q : Exit → Act → World → Prop} (t : TypeId) (parts : Array (Nat × Operand)) (ho : o.op = .build t parts) (cells : Array Value) (hb : P.built t (parts.map fun (i, x) => (i, a.eval x)).toList = some cells) (hw : Region.wanted o (yielded ops a.tmps) = true)
    (h : wpList P ops Q rest (a.put o.dst (.agg cells)) w) : wpList P ops Q (o :: rest) a w := by
  refine wpList_want hw fun K hK => ?_
  unfold Oper.wp execOp
  simp only [ho, Sem.run_bind, run_build w t _ cells hb, Result.andThen_ok, Sem.run_pure]
  exact hK _ _ h
def exC : Ce := ⟨-5, ⟨true, 0, 9, 0, 0, 0⟩, saN, { vwN with c := 99 }⟩
def exD : Ce := ⟨-1, saN, saN, { vwN with c := -1 }⟩
def exE : Ce := { ceN with a := 5 }
def exF13 : Ce := { ceN with a := 7 }
theorem exC_pl : plC exC = exD := rfl
theorem exF_pl : plC exF13 = exF13 := rfl
def exRow : Rw := ⟨false, exE, none, 0, 0, fun _ => heN⟩
theorem exRow_lies {w : World} {g : Nat} (h : Blk w g 54 exRow.l.toArray) : LiesR w w.heap.size (some ⟨g, 0, none⟩) 1 (fun _ => exRow) := by
  refine ⟨?_, fun i hi => LiesH.nil_⟩
  refine Blk.liesF (f := fun _ => exRow.l) (n := 1) (m := 57) (t := 54) (by decide) (fun _ => Rw.l_len _) ?_
  rw [show flL (fun _ => exRow.l) 1 = exRow.l by simp [flL, List.range_succ]]
  exact h
/-- Behind the three calls. -/
structure LV (w : World) (g1 g2 g3 G : Nat) (Ls : Nat → List Value) (L3 : List Value) (U : World) : Prop where
  a : Blk U g1 51 (ceL exD).toArray
  b : Blk U g2 24 #[.slice (some ⟨G, 0, none⟩) 2 2]
  c : Blk U G 54 (flL Ls 2).toArray
  l : ∀ i, (Ls i).length = 57
  z : ∀ i, i < 2 → ∃ A p, Ls i = roL false ceN A 0 p
  d : Blk U g3 54 L3.toArray
  e : ∃ A p, L3 = roL true exF13 A 1 p
  k : Below w.heap.size w U
set_option maxRecDepth 100000 in
set_option maxHeartbeats 4000000 in
theorem lives_wd (w : World) : Calls Try.prog 12 #[] w fun e w' => e = .returned (.bool true) ∧ Below w.heap.size w w' := by
  have hb7 : (Try.prog).built 51 [(0, .int .i64 (-5)), (1, .agg #[.bool true, .int .i64 0, .int .u8 9, .int .u8 0, .int .u32 0, .int .u32 0]), (3, .agg (vwL { vwN with c := 99 }).toArray)] = some (ceL exC).toArray := by kernel_rfl
  obtain ⟨i0, hi0, hz0, hz1, hz2⟩ := info_parts infoRow
  have HI := Lib.hid hi0
  have HZ0 := Lib.hid hz0
  have HZ1 := Lib.hid hz1
  clear hi0 hz0 hz1 hz2
  have HC : Hid (∀ u, Calls Try.prog 27 #[.agg (ceL exC).toArray] u fun e w' => e = .returned (.agg (ceL exD).toArray) ∧ Below u.heap.size u w') := Lib.hid (fun u => by have := cell_is exC u; rw [exC_pl] at this; exact this)
  go_enter Try.func12, Try.ntmps12
  go_upto_region 2 with (first
    | (refine wpList_build rfl 49 _ rfl (vwL { vwN with c := 99 }).toArray (by kernel_rfl) ?_)
    | (refine wpList_build rfl 51 _ rfl (ceL exC).toArray (by simpa [Act.eval, Act.put] using hb7) ?_)
    | (go_at_call 27; (with_reducible refine (HC.out _).mono ?_); rintro e w1 ⟨rfl, b1⟩; have HB1 := Lib.hid b1; have HZN : Hid (∀ Z : Array Value, Z.size = 55 → PIn (w1.alloc (.cells Z 51)) w1.heap.size 0 51 [] [] Z.toList ∧ Z.toList.length = 55) := Lib.hid (fun Z hZ => ⟨Blk.pin (by simpa using Blk.new w1 51 Z), by simpa using hZ⟩); clear b1)
    | (refine wpList_store_pin rfl 51 (.tmp 1) (.tmp 8) rfl (HZN.out _ rfl).1 (ceL exD) (by simp [Act.eval, Act.put]) (by simp [Act.eval, Act.put]) 55 size_ce (HZN.out _ rfl).2 (ceL_len _) (ceL_one _) ?_; intro w2 p2 b2; have HP2 := Lib.hid p2; have HB2 := Lib.hid b2; clear p2 b2))
  refine wp_at (fun U => Blk U w1.heap.size 51 (ceL exD).toArray ∧ Below w.heap.size w U) ⟨HP2.out.blk_, (below_al HB1.out _).trans (HB2.out.low HB1.out.size)⟩ ?_
  rintro U1 ⟨hU1, hU2⟩
  obtain ⟨g1, hg1⟩ : ∃ g1, g1 = w1.heap.size := ⟨_, rfl⟩
  rw [← hg1] at hU1 ⊢
  have HA := Lib.hid hU1
  have HK := Lib.hid hU2
  clear hU1 hU2 hg1 HZN HB1 HP2 HB2 hb7
  have HR0 : Hid (∀ u : World, LiesR (u.alloc (.cells exRow.l.toArray 54)) (u.alloc (.cells exRow.l.toArray 54)).heap.size (some ⟨u.heap.size, 0, none⟩) 1 (fun _ => exRow)) := Lib.hid (fun u => exRow_lies (Blk.new u _ _))
  have HNM : Hid (∀ (u : World) (A : Option Addr), LiesR u u.heap.size A 1 (fun _ => exRow) → Calls Try.prog 14 #[.int .i64 2, .agg #[.slice A 1 1]] u fun e w' => ∃ (G : Nat) (Ls : Nat → List Value), e = .returned (.agg #[.slice (some ⟨G, 0, none⟩) 2 2]) ∧ u.heap.size ≤ G ∧ (∀ i, (Ls i).length = 57) ∧ Blk w' G 54 (flL Ls 2).toArray ∧ RowsO w' (G + 1) 2 (fun i => plR 2 (fitF (fun _ => exRow) 1 rwN i).ro) Ls ∧ Below u.heap.size u w') := Lib.hid (fun u A h => norm_is 2 (by decide) A 1 1 (fun _ => exRow) u h)
  have HBS : Hid (∀ u : World, (Instr.buildSlice 22 1 #[(0, .agg exRow.l.toArray)]).run Try.prog u = .ok (.slice (some ⟨u.heap.size, 0, none⟩) 1 1) (u.alloc (.cells exRow.l.toArray 54))) := Lib.hid (fun u => run_bsl_one (P := Try.prog) u 22 54 i0 (roL false ceN none 0 0) 57 elemRows HI.out HZ0.out HZ1.out (roL_len _ _ _ _ _) (by decide) (by decide) exRow.l exRow.l_len)
  go_upto_region 3 with (first
    | (refine wpList_build rfl 51 _ rfl (ceL exE).toArray (by kernel_rfl) ?_)
    | (refine wpList_build rfl 54 _ rfl exRow.l.toArray (by simp [Act.eval, Act.put]; kernel_rfl) ?_)
    | (refine wpList_bsl rfl 22 1 _ rfl #[(0, .agg exRow.l.toArray)] (by simp [Act.eval, Act.put]) _ _ (HBS.out _) ?_)
    | (go_at_call 14; (with_reducible refine (HNM.out _ _ (HR0.out U1)).mono ?_); rintro e w3 ⟨G, Ls, rfl, q1, q2, q3, q4, q5⟩; have HQ1 := Lib.hid q1; have HQ2 := Lib.hid q2; have HQ3 := Lib.hid q3; have HQ4 := Lib.hid q4; have HQ5 := Lib.hid q5; clear q1 q2 q3 q4 q5))
  refine wp_at (fun U => Blk U g1 51 (ceL exD).toArray ∧ Blk U w3.heap.size 24 #[.slice (some ⟨G, 0, none⟩) 2 2] ∧ Blk U G 54 (flL Ls 2).toArray ∧ Below w.heap.size w U) ⟨((HA.out.alloc _).on HQ5.out).alloc _, Blk.new w3 _ _, HQ3.out.alloc _, below_al ((below_al HK.out _).trans (HQ5.out.mono (by have := HK.out.size; simp; omega))) _⟩ ?_
  rintro U2 ⟨h1, h2, h3, h4⟩
  obtain ⟨g2, hg2⟩ : ∃ g2, g2 = w3.heap.size := ⟨_, rfl⟩
  rw [← hg2] at h2 ⊢
  have HA2 := Lib.hid h1
  have HB2 := Lib.hid h2
  have HG2 := Lib.hid h3
  have HK2 := Lib.hid h4
  have HZ : Hid (∀ i, i < 2 → ∃ A p, Ls i = roL false ceN A 0 p) := Lib.hid (fun i hi => by
    obtain ⟨A, p, h, _⟩ := (show RowO w3 (G + 1) (plR 2 (fitF (fun _ => exRow) 1 rwN i).ro) (Ls i) from HQ4.out i hi)
    rw [show plR 2 (fitF (fun _ => exRow) 1 rwN i).ro = roN from by
      unfold fitF
      split <;> rfl] at h
    exact ⟨A, p, h⟩)
  clear h1 h2 h3 h4 hg2 HQ1 HQ3 HQ4 HQ5 HA HK HR0 HBS
  have HPL : Hid (∀ u : World, Calls Try.prog 22 #[.int .i64 1, .agg (Rw.l ⟨true, exF13, none, 0, 0, fun _ => heN⟩).toArray] u fun e w' => ∃ L : List Value, e = .returned (.agg L.toArray) ∧ RowO w' u.heap.size (plR 1 (Rw.ro ⟨true, exF13, none, 0, 0, fun _ => heN⟩)) L ∧ Below u.heap.size u w') := Lib.hid (fun u => plain_any 1 (by decide) ⟨true, exF13, none, 0, 0, fun _ => heN⟩ u LiesH.nil_)
  go_upto_region 4 with (first
    | (refine wpList_build rfl 51 _ rfl (ceL exF13).toArray (by kernel_rfl) ?_)
    | (refine wpList_build rfl 54 _ rfl (Rw.l ⟨true, exF13, none, 0, 0, fun _ => heN⟩).toArray (by simp [Act.eval, Act.put]; kernel_rfl) ?_)
    | (go_at_call 22; (with_reducible refine (HPL.out _).mono ?_); rintro e w4 ⟨L3, rfl, q1, q2⟩; have HR3 := Lib.hid q1; have HB3 := Lib.hid q2; have HZN : Hid (∀ Z : Array Value, Z.size = 57 → PIn (w4.alloc (.cells Z 54)) w4.heap.size 0 54 [] [] Z.toList ∧ Z.toList.length = 57) := Lib.hid (fun Z hZ => ⟨Blk.pin (by simpa using Blk.new w4 54 Z), by simpa using hZ⟩); clear q1 q2)
    | (refine wpList_store_pin rfl 54 (.tmp 3) (.tmp 16) rfl (HZN.out _ rfl).1 L3 (by simp [Act.eval, Act.put]) (by simp [Act.eval, Act.put]) 57 size_row (HZN.out _ rfl).2 HR3.out.len HR3.out.one ?_; intro w5 p5 b5; have HP5 := Lib.hid p5; have HB5 := Lib.hid b5; clear p5 b5))
  refine wp_at (LV w g1 g2 w4.heap.size G Ls L3) (by
    have k : ∀ {x : Nat} {t : TypeId} {cs : Array Value}, Blk U2 x t cs → Blk w5 x t cs := fun {x t cs} h => HB5.out.blk ((h.on HB3.out).alloc _) (by have := (h.on HB3.out).lt; omega)
    refine ⟨k HA2.out, k HB2.out, k HG2.out, HQ2.out, HZ.out, HP5.out.blk_, ?_, (below_al (below_then HK2.out HB3.out) _).trans (HB5.out.low (by have := HK2.out.size; have := HB3.out.size; omega))⟩
    obtain ⟨A, p, h, _⟩ := HR3.out
    exact ⟨A, p, h⟩) ?_
  intro U hU
  obtain ⟨g3, hg3⟩ : ∃ g3, g3 = w4.heap.size := ⟨_, rfl⟩
  rw [← hg3] at hU ⊢
  clear hg3 HA2 HB2 HG2 HK2 HZ HQ2 HPL HR3 HB3 HZN HP5 HB5
  obtain ⟨A3, p3, e3⟩ := hU.e
  subst e3
  obtain ⟨A0, p0, e0⟩ := hU.z 0 (by decide)
  have hG : U.rangeAt G 0 (roL false ceN A0 0 p0) := by
    have := range_of (w := U) (g := G) (o := 0) (t := 54) (Ls 0) [] (Ls 1) (by have := hU.c; simpa [flL, List.range_succ] using this) rfl
    rwa [e0] at this
  have HGC : Hid (U.rangeAt G 1 (ceL ceN)) := Lib.hid (fun j v hv => by
    have := hG (1 + j) v (by
     have hj : j < 55 := by have := (List.getElem?_eq_some_iff.1 hv).1; rwa [ceL_len] at this
     rw [Nat.add_comm]
     unfold roL
     rw [List.getElem?_cons_succ, List.getElem?_append_left (by rw [ceL_len]; exact hj)]
     exact hv)
    rwa [Nat.zero_add] at this)
  have cg0 : U.cell? ⟨G, 0, none⟩ = some (.bool false) := hG 0 _ rfl
  have cb0 : U.cell? ⟨g2, 0, none⟩ = some (.slice (some ⟨G, 0, none⟩) 2 2) := (hU.b.cell 0).trans rfl
  have cd0 : U.cell? ⟨g3, 0, none⟩ = some (.bool true) := (hU.d.pin.cell0 (by simp [roL])).trans rfl
  have cd1 : U.cell? ⟨g3, 1, none⟩ = some (.int .i64 7) := hU.d.rowCell 0 (.int .i64 7) rfl
  have cd56 := hU.d.rowTab
  have l1 := hU.a.lt
  have l2 := hU.b.lt
  have l3 := hU.c.lt
  have l4 := hU.d.lt
  have HPA := Lib.hid hU.a.pin
  have HK := Lib.hid hU.k
  have hq1 := fun W => cell_eql exD exD W
  have hq2 := fun W => cell_eql ceN ceN W
  rw [ceE_refl] at hq1 hq2
  have hix := fun W => idxRows (A := some ⟨G, 0, none⟩) (n := 2) 2 (k := 0) rfl (by decide) W
  simp only [Nat.zero_mul, Nat.add_zero] at hix
  clear hU hG e0
  go_wp2_with (first
    | (refine wpList_load_pin rfl 51 (.tmp 1) rfl HPA.out (by simp [Act.eval, Act.put]) _ Try.underlying51 rfl 55 size_ce (ceL_len _) ?_)
    | (refine wpList_build rfl 49 _ rfl (vwL { vwN with c := -1 }).toArray (by kernel_rfl) ?_)
    | (refine wpList_build rfl 51 _ rfl (ceL exD).toArray (by simp [Act.eval, Act.put]; kernel_rfl) ?_)
    | (refine wpList_load_want 51 (.tmp 39) rfl G 1 (ceL ceN) HGC.out (by simp [Act.eval, Act.put]) (by kernel_rfl) _ Try.underlying51 rfl (by rw [size_ce, ceL_len]) ?_)
    | (refine wpList_build_want 51 _ rfl (ceL ceN).toArray (by kernel_rfl) (by kernel_rfl) ?_))
  go_ret
  exact ⟨rfl, HK.out⟩
end Go.Proofs.Ytmmgbhdjjejacaa

