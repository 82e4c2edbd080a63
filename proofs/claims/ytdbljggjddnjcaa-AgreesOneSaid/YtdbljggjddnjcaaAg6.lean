/-
  The law's examples of stage 15: lives returns true. No condition.
-/
import Derived.Test.YtdbljggjddnjcaaAg5
import Derived.Test.YtdbljggjddnjcaaBsl4
namespace Go.Proofs.Ytdbljggjddnjcaa
open Go.RowKit
set_option linter.unusedVariables false
set_option linter.unusedSimpArgs false

theorem Reg.step_build_wantT {P : Program} {ops : Array Oper} {o : Oper} {a : Act} {w : World} {K : Act → World → Prop} {Q : Exit → Act → World → Prop} {E : Prop} (hw : Region.wanted o (yielded ops a.tmps) = true) (t : TypeId) (parts : Array (Nat × Operand)) (ho : o.op = .build t parts) (cells : Array Value) (hb : P.built t (parts.map fun (i, x) => (i, a.eval x)).toList = some cells) (h : K (a.put o.dst (.agg cells)) w) :
    if Region.wanted o (yielded ops a.tmps) = true then Oper.wp P o a w K Q else E := by
  rw [if_pos hw]
  unfold Oper.wp execOp
  simp only [ho, Sem.run_bind, run_build w t _ cells hb, Result.andThen_ok, Sem.run_pure]
  exact h
theorem Reg.KJ.belowA {B : Nat} {Js : List (World → Prop)} {w w' : World} (h : Reg.KJ B [] Js w w') : Below w.heap.size w w' := ⟨h.1.os, h.1.tape, h.1.output, h.1.size, fun k hk => h.2.1 k hk (by simp)⟩
def RoA (x : Int) : Ro := ⟨true, ceN, 4, sT 0 x⟩
theorem told0 (x : Int) : tolM 0 (RoA x) = ⟨true, cA x⟩ := rfl
theorem told1 (x : Int) : tolM 1 (RoA x) = heN := rfl
theorem ceE_cA (a b : Int) : ceE (cA a) (cA b) = decide (a = b) := by
  rw [Bool.eq_iff_iff, ceE_iff, decide_eq_true_eq]
  exact ⟨fun h => congrArg Ce.a h, fun h => by rw [h]⟩
theorem ex_all (F : Nat → Ro) (h1 : F 1 = RoA 5) (h2 : F 2 = RoA 5) : agM 4 0 F 4 = ⟨true, cA 5⟩ := by
  have s2 : agS 4 0 F 2 = none := by simp [agS, mapA, okA, h1, told0, look, incC, ceE_cA]
  have m2 : mapA 0 F 2 = [(cA 5, 1)] := by simp [mapA, okA, h1, told0, incC]
  have m3 : mapA 0 F 3 = [(cA 5, 2)] := by rw [mapA, m2]; simp [okA, h2, told0, incC, ceE_cA]
  have s3 : agS 4 0 F 3 = some ⟨true, cA 5⟩ := by rw [agS, s2, m3]; simp [okA, h2, told0, look, ceE_cA]
  unfold agM
  rw [agS_stays s3 (by decide)]; rfl
theorem ex_two (F : Nat → Ro) (h1 : F 1 = RoA 5) (h2 : F 2 = RoA 6) (h3 : F 3 = RoA 5) : agM 4 0 F 4 = ⟨true, cA 5⟩ := by
  have s2 : agS 4 0 F 2 = none := by simp [agS, mapA, okA, h1, told0, look, incC, ceE_cA]
  have m2 : mapA 0 F 2 = [(cA 5, 1)] := by simp [mapA, okA, h1, told0, incC]
  have m3 : mapA 0 F 3 = [(cA 5, 1), (cA 6, 1)] := by rw [mapA, m2]; simp [okA, h2, told0, incC, ceE_cA]
  have s3 : agS 4 0 F 3 = none := by rw [agS, s2, m3]; simp [okA, h2, told0, look, ceE_cA]
  have m4 : mapA 0 F 4 = [(cA 5, 2), (cA 6, 1)] := by rw [mapA, m3]; simp [okA, h3, told0, incC, ceE_cA]
  have s4 : agS 4 0 F 4 = some ⟨true, cA 5⟩ := by rw [agS, s3, m4]; simp [okA, h3, told0, look, ceE_cA]
  unfold agM
  rw [s4]; rfl
theorem ex_no (F : Nat → Ro) (h1 : F 1 = RoA 5) (h2 : F 2 = RoA 6) (h3 : F 3 = RoA 7) : agM 4 0 F 4 = heN := by
  have s2 : agS 4 0 F 2 = none := by simp [agS, mapA, okA, h1, told0, look, incC, ceE_cA]
  have m2 : mapA 0 F 2 = [(cA 5, 1)] := by simp [mapA, okA, h1, told0, incC]
  have m3 : mapA 0 F 3 = [(cA 5, 1), (cA 6, 1)] := by rw [mapA, m2]; simp [okA, h2, told0, incC, ceE_cA]
  have s3 : agS 4 0 F 3 = none := by rw [agS, s2, m3]; simp [okA, h2, told0, look, ceE_cA]
  have m4 : mapA 0 F 4 = [(cA 5, 1), (cA 6, 1), (cA 7, 1)] := by rw [mapA, m3]; simp [okA, h3, told0, incC, ceE_cA]
  have s4 : agS 4 0 F 4 = none := by rw [agS, s3, m4]; simp [okA, h3, told0, look, ceE_cA]
  unfold agM
  rw [s4]; rfl
theorem ag_none {N s : Nat} {F : Nat → Ro} : ∀ {m : Nat}, (∀ k, k < m → (tolM s (F k)).i = false) → agS N s F m = none
  | 0, _ => rfl
  | m + 1, h => by
    rw [agS, ag_none fun k hk => h k (by omega)]
    have : okA s m (tolM s (F m)) = false := by simp [okA, h m (by omega)]
    simp [this]
theorem nuW_zero (k : IntKind) (hk : (Lit.int k 0).wf = true) : nuW k (Vector.replicate 8 0) := fun i h => by simpa using hk
theorem cew_cA {a : Int} (h : (Lit.int .i64 a).wf = true) : CeW (cA a) := by
  have hs : SaW saN := ⟨by decide, by decide, by decide, by decide, by decide⟩
  exact ⟨h, hs, hs, nuW_zero _ (by decide), nuW_zero _ (by decide), nuW_zero _ (by decide), (show (Lit.int .i8 0).wf = true by decide), (show (Lit.int .u8 0).wf = true by decide)⟩
theorem cew_told {s : Nat} {a : Int} (h : (Lit.int .i64 a).wf = true) : CeW (tolM s (RoA a)).c := by
  have h0 : CeW ceN := cew_cA (a := 0) (by decide)
  unfold tolM
  split
  · show CeW (sT 0 a s).c
    unfold sT
    split
    · exact cew_cA h
    · exact h0
  · exact h0
/-- A held list's cells. -/
theorem held_bool {w : World} {G n i : Nat} {X : Nat → He} (h : Blk w G 118 (hesL X n).toArray) (hi : i < n) : w.cell? ⟨G, i * 56, none⟩ = some (.bool (X i).i) := by
  have hg : (hesL X n)[i * 56 + 0]? = (heL (X i))[0]? := flL_get (f := fun i => heL (X i)) (fun _ => heL_len _) hi 0 (by decide)
  have := (h.cell (i * 56 + 0)).trans (by rw [List.getElem?_toArray, hg]; rfl : _ = some (Value.bool (X i).i))
  exact this
theorem held_range {w : World} {G n i : Nat} {X : Nat → He} (h : Blk w G 118 (hesL X n).toArray) (hi : i < n) : w.rangeAt G (i * 56) (heL (X i)) := by
  intro j v hv
  have hj : j < 56 := by have := (List.getElem?_eq_some_iff.1 hv).1; rwa [heL_len] at this
  have hg : (hesL X n)[i * 56 + j]? = (heL (X i))[j]? := flL_get (f := fun i => heL (X i)) (fun _ => heL_len _) hi j hj
  rw [h.cell, List.getElem?_toArray, hg]
  exact hv

/-- Four rows, one behind the other, and what Agree makes of them. -/
def r4 (g0 g1 g2 g3 : Nat) (a b c d : Int) : Nat → Rw := fun k => if k = 0 then rS g0 4 0 a else if k = 1 then rS g1 4 0 b else if k = 2 then rS g2 4 0 c else rS g3 4 0 d
theorem r4_l (g0 g1 g2 g3 : Nat) (a b c d : Int) : flL (fun i => (r4 g0 g1 g2 g3 a b c d i).l) 4 = (rS g0 4 0 a).l ++ ((rS g1 4 0 b).l ++ ((rS g2 4 0 c).l ++ (rS g3 4 0 d).l)) := by
  simp [flL, r4, List.range, List.range.loop]
def tA (a b c d : Int) : Nat → He := fun s => agM 4 s (fun j => (r4 0 0 0 0 a b c d j).ro) 4
theorem r4_ro (g0 g1 g2 g3 : Nat) (a b c d : Int) : (fun j => (r4 g0 g1 g2 g3 a b c d j).ro) = fun j => (r4 0 0 0 0 a b c d j).ro := by
  funext j
  unfold r4
  split
  · rfl
  · split
    · rfl
    · split <;> rfl
theorem r4_at (a b c d : Int) (k : Nat) : (r4 0 0 0 0 a b c d k).ro = RoA (if k = 0 then a else if k = 1 then b else if k = 2 then c else d) := by
  unfold r4
  split
  · rfl
  · split
    · rfl
    · split <;> rfl
theorem tA_1 (a b c d : Int) : (tA a b c d 1).i = false := by
  unfold tA agM
  rw [ag_none fun k hk => by show (tolM 1 (r4 0 0 0 0 a b c d k).ro).i = false; rw [r4_at, told1]; rfl]
  rfl
theorem agree4 (g0 g1 g2 g3 : Nat) (a b c d : Int) (ha : (Lit.int .i64 a).wf = true) (hb : (Lit.int .i64 b).wf = true) (hc : (Lit.int .i64 c).wf = true) (hd : (Lit.int .i64 d).wf = true) (u : World)
    (h0 : Blk u g0 118 (hesL (sT 0 a) 4).toArray) (h1 : Blk u g1 118 (hesL (sT 0 b) 4).toArray) (h2 : Blk u g2 118 (hesL (sT 0 c) 4).toArray) (h3 : Blk u g3 118 (hesL (sT 0 d) 4).toArray) :
    Calls Try.prog 40 #[.int .i64 4, .slice (some ⟨u.heap.size, 0, none⟩) 4 4] (u.alloc (.cells ((rS g0 4 0 a).l ++ ((rS g1 4 0 b).l ++ ((rS g2 4 0 c).l ++ (rS g3 4 0 d).l))).toArray 54)) fun e w' => ∃ G, e = .returned (.slice (some ⟨G, 0, none⟩) 4 4) ∧ Blk w' G 118 (hesL (tA a b c d) 4).toArray ∧ Below u.heap.size u w' := by
  have hk := below_al (Below.refl u.heap.size u) (.cells ((rS g0 4 0 a).l ++ ((rS g1 4 0 b).l ++ ((rS g2 4 0 c).l ++ (rS g3 4 0 d).l))).toArray 54)
  have hB := Blk.new u 54 ((rS g0 4 0 a).l ++ ((rS g1 4 0 b).l ++ ((rS g2 4 0 c).l ++ (rS g3 4 0 d).l))).toArray
  refine (agree_is 4 (by decide) (some ⟨u.heap.size, 0, none⟩) 4 4 4 (by decide) (.inr ⟨_, _, rfl⟩) (by decide) (by decide) (r4 g0 g1 g2 g3 a b c d) (fun k hk => ?_) (fun s k hs hk => ?_) _ ⟨Blk.liesF (by decide) (fun _ => Rw.l_len _) (by rw [r4_l]; exact hB), fun i hi => ?_⟩).mono ?_
  · rcases (show k = 0 ∨ k = 1 ∨ k = 2 ∨ k = 3 by omega) with rfl | rfl | rfl | rfl <;> exact (show (4 : Nat) ≤ _ by decide)
  · rcases (show k = 0 ∨ k = 1 ∨ k = 2 ∨ k = 3 by omega) with rfl | rfl | rfl | rfl
    · exact cew_told ha
    · exact cew_told hb
    · exact cew_told hc
    · exact cew_told hd
  · rcases (show i = 0 ∨ i = 1 ∨ i = 2 ∨ i = 3 by omega) with rfl | rfl | rfl | rfl
    · exact Blk.liesH_ (h0.on hk)
    · exact Blk.liesH_ (h1.on hk)
    · exact Blk.liesH_ (h2.on hk)
    · exact Blk.liesH_ (h3.on hk)
  · rintro e w' ⟨rfl, q1, q2⟩
    refine ⟨_, rfl, ?_, hk.trans (q2.mono (by simp))⟩
    rw [r4_ro] at q1
    exact q1
/-- What the law knows of memory, step by step. -/
structure LG1 (w : World) (G1 : Nat) (U : World) : Prop where
  g1 : Blk U G1 118 (hesL (tA 9 5 5 5) 4).toArray
  b : Below w.heap.size w U
structure LG2 (w : World) (G1 G2 : Nat) (U : World) : Prop where
  p : LG1 w G1 U
  g2 : Blk U G2 118 (hesL (tA 9 5 6 5) 4).toArray
structure LG3 (w : World) (G1 G2 G3 : Nat) (U : World) : Prop where
  p : LG2 w G1 G2 U
  g3 : Blk U G3 118 (hesL (tA 9 5 6 7) 4).toArray
def r2 : Nat → Rw := fun k => if k = 0 then ⟨true, cA 3, none, 0, 0, fun _ => heN⟩ else rwN
structure LG4 (w : World) (G1 G2 G3 G4 : Nat) (U : World) : Prop where
  p : LG3 w G1 G2 G3 U
  g4 : Blk U G4 118 (hesL (fun k => tblM (r2 k).ro) 2).toArray
section
variable {w U V : World} {G1 G2 G3 G4 : Nat}
theorem LG1.on (h : LG1 w G1 U) (hb : Below U.heap.size U V) : LG1 w G1 V := ⟨h.g1.on hb, below_then h.b hb⟩
theorem LG2.on (h : LG2 w G1 G2 U) (hb : Below U.heap.size U V) : LG2 w G1 G2 V := ⟨h.p.on hb, h.g2.on hb⟩
theorem LG3.on (h : LG3 w G1 G2 G3 U) (hb : Below U.heap.size U V) : LG3 w G1 G2 G3 V := ⟨h.p.on hb, h.g3.on hb⟩
theorem LG4.on (h : LG4 w G1 G2 G3 G4 U) (hb : Below U.heap.size U V) : LG4 w G1 G2 G3 G4 V := ⟨h.p.on hb, h.g4.on hb⟩
end
set_option maxRecDepth 100000 in
theorem built_rowC : (Try.prog).built 54 [(0, .bool true), (1, .agg (ceL (cA 3)).toArray)] = some (r2 0).l.toArray := by kernel_rfl
set_option maxRecDepth 100000 in
set_option maxHeartbeats 4000000 in
theorem lives_ag (w : World) : Calls Try.prog 38 #[] w fun e w' => e = .returned (.bool true) ∧ Below w.heap.size w w' := by
  obtain ⟨i0, hi0, hz0, hz1, hz2⟩ := info_parts infoRow
  have HI := Lib.hid hi0
  have HZ0 := Lib.hid hz0
  have HZ1 := Lib.hid hz1
  have HBS := Lib.hid (fun (u : World) (a b c d : List Value) (ha : a.length = 57) (hb : b.length = 57) (hc : c.length = 57) (hd : d.length = 57) => run_bsl_four (P := Try.prog) u 32 54 i0 (roL false ceN none 0 0) 57 elemRows HI.out HZ0.out HZ1.out (roL_len _ _ _ _ _) (by decide) (by decide) a b c d ha hb hc hd)
  have HB2 := Lib.hid (fun (u : World) => run_bsl_two (P := Try.prog) u 32 54 i0 (roL false ceN none 0 0) 57 elemRows HI.out HZ0.out HZ1.out (roL_len _ _ _ _ _) (by decide) (by decide) (r2 0).l (r2 1).l (Rw.l_len _) (Rw.l_len _))
  have HSD : Hid (∀ (u : World) (a : Int), Calls Try.prog 61 #[.int .i64 4, .int .i64 0, .int .i64 a] u fun e w' => ∃ g, e = .returned (.agg (rS g 4 0 a).l.toArray) ∧ u.heap.size ≤ g ∧ Blk w' g 118 (hesL (sT 0 a) 4).toArray ∧ Below u.heap.size u w') := Lib.hid (fun u a => said_is 4 0 a (by decide) (by decide) u)
  clear hi0 hz0 hz1 hz2
  go_enter Try.func38, Try.ntmps38
  go_upto_region 2 with fail
  (with_reducible refine (HSD.out _ 9).mono ?_)
  rintro e u10 ⟨g10, rfl, _, q1, q2⟩
  have S10 := Lib.hid q1
  have T10 := Lib.hid q2
  clear q1 q2
  go_upto_region 2 with fail
  (with_reducible refine (HSD.out _ 5).mono ?_)
  rintro e u11 ⟨g11, rfl, _, q1, q2⟩
  have S11 := Lib.hid q1
  have T11 := Lib.hid q2
  clear q1 q2
  go_upto_region 2 with fail
  (with_reducible refine (HSD.out _ 5).mono ?_)
  rintro e u12 ⟨g12, rfl, _, q1, q2⟩
  have S12 := Lib.hid q1
  have T12 := Lib.hid q2
  clear q1 q2
  go_upto_region 2 with fail
  (with_reducible refine (HSD.out _ 5).mono ?_)
  rintro e u13 ⟨g13, rfl, _, q1, q2⟩
  have S13 := Lib.hid q1
  have T13 := Lib.hid q2
  clear q1 q2
  have R10 := Lib.hid (((S10.out.on T11.out).on T12.out).on T13.out)
  have R11 := Lib.hid ((S11.out.on T12.out).on T13.out)
  have R12 := Lib.hid (S12.out.on T13.out)
  have BB1 := Lib.hid (below_then (below_then (below_then T10.out T11.out) T12.out) T13.out)
  have HAG1 := Lib.hid (agree4 g10 g11 g12 g13 9 5 5 5 (by decide) (by decide) (by decide) (by decide) u13 R10.out R11.out R12.out S13.out)
  clear S10 T10 S11 T11 S12 T12 S13 T13 R10 R11 R12
  go_upto_region 2 with (refine wpList_bsl rfl 32 4 _ rfl #[(0, .agg (rS g10 4 0 9).l.toArray), (1, .agg (rS g11 4 0 5).l.toArray), (2, .agg (rS g12 4 0 5).l.toArray), (3, .agg (rS g13 4 0 5).l.toArray)] (by simp [Act.eval, Act.put]) _ _ (HBS.out _ (rS g10 4 0 9).l (rS g11 4 0 5).l (rS g12 4 0 5).l (rS g13 4 0 5).l (Rw.l_len _) (Rw.l_len _) (Rw.l_len _) (Rw.l_len _)) ?_)
  (with_reducible refine HAG1.out.mono ?_)
  rintro e v1 ⟨G1, rfl, q1, q2⟩
  have HL1 : Hid (LG1 w G1 v1) := Lib.hid ⟨q1, below_then BB1.out q2⟩
  clear q1 q2 HAG1 BB1
  go_upto_region 3 with fail
  (with_reducible refine (HSD.out _ 9).mono ?_)
  rintro e u20 ⟨g20, rfl, _, q1, q2⟩
  have S20 := Lib.hid q1
  have T20 := Lib.hid q2
  clear q1 q2
  go_upto_region 3 with fail
  (with_reducible refine (HSD.out _ 5).mono ?_)
  rintro e u21 ⟨g21, rfl, _, q1, q2⟩
  have S21 := Lib.hid q1
  have T21 := Lib.hid q2
  clear q1 q2
  go_upto_region 3 with fail
  (with_reducible refine (HSD.out _ 6).mono ?_)
  rintro e u22 ⟨g22, rfl, _, q1, q2⟩
  have S22 := Lib.hid q1
  have T22 := Lib.hid q2
  clear q1 q2
  go_upto_region 3 with fail
  (with_reducible refine (HSD.out _ 5).mono ?_)
  rintro e u23 ⟨g23, rfl, _, q1, q2⟩
  have S23 := Lib.hid q1
  have T23 := Lib.hid q2
  clear q1 q2
  have R20 := Lib.hid (((S20.out.on T21.out).on T22.out).on T23.out)
  have R21 := Lib.hid ((S21.out.on T22.out).on T23.out)
  have R22 := Lib.hid (S22.out.on T23.out)
  have BB2 := Lib.hid (below_then (below_then (below_then T20.out T21.out) T22.out) T23.out)
  have HAG2 := Lib.hid (agree4 g20 g21 g22 g23 9 5 6 5 (by decide) (by decide) (by decide) (by decide) u23 R20.out R21.out R22.out S23.out)
  clear S20 T20 S21 T21 S22 T22 S23 T23 R20 R21 R22
  go_upto_region 3 with (refine wpList_bsl rfl 32 4 _ rfl #[(0, .agg (rS g20 4 0 9).l.toArray), (1, .agg (rS g21 4 0 5).l.toArray), (2, .agg (rS g22 4 0 6).l.toArray), (3, .agg (rS g23 4 0 5).l.toArray)] (by simp [Act.eval, Act.put]) _ _ (HBS.out _ (rS g20 4 0 9).l (rS g21 4 0 5).l (rS g22 4 0 6).l (rS g23 4 0 5).l (Rw.l_len _) (Rw.l_len _) (Rw.l_len _) (Rw.l_len _)) ?_)
  (with_reducible refine HAG2.out.mono ?_)
  rintro e v2 ⟨G2, rfl, q1, q2⟩
  have HL2 : Hid (LG2 w G1 G2 v2) := Lib.hid ⟨HL1.out.on (below_then BB2.out q2), q1⟩
  clear q1 q2 HAG2 BB2 HL1
  go_upto_region 4 with fail
  (with_reducible refine (HSD.out _ 9).mono ?_)
  rintro e u30 ⟨g30, rfl, _, q1, q2⟩
  have S30 := Lib.hid q1
  have T30 := Lib.hid q2
  clear q1 q2
  go_upto_region 4 with fail
  (with_reducible refine (HSD.out _ 5).mono ?_)
  rintro e u31 ⟨g31, rfl, _, q1, q2⟩
  have S31 := Lib.hid q1
  have T31 := Lib.hid q2
  clear q1 q2
  go_upto_region 4 with fail
  (with_reducible refine (HSD.out _ 6).mono ?_)
  rintro e u32 ⟨g32, rfl, _, q1, q2⟩
  have S32 := Lib.hid q1
  have T32 := Lib.hid q2
  clear q1 q2
  go_upto_region 4 with fail
  (with_reducible refine (HSD.out _ 7).mono ?_)
  rintro e u33 ⟨g33, rfl, _, q1, q2⟩
  have S33 := Lib.hid q1
  have T33 := Lib.hid q2
  clear q1 q2
  have R30 := Lib.hid (((S30.out.on T31.out).on T32.out).on T33.out)
  have R31 := Lib.hid ((S31.out.on T32.out).on T33.out)
  have R32 := Lib.hid (S32.out.on T33.out)
  have BB3 := Lib.hid (below_then (below_then (below_then T30.out T31.out) T32.out) T33.out)
  have HAG3 := Lib.hid (agree4 g30 g31 g32 g33 9 5 6 7 (by decide) (by decide) (by decide) (by decide) u33 R30.out R31.out R32.out S33.out)
  clear S30 T30 S31 T31 S32 T32 S33 T33 R30 R31 R32
  go_upto_region 4 with (refine wpList_bsl rfl 32 4 _ rfl #[(0, .agg (rS g30 4 0 9).l.toArray), (1, .agg (rS g31 4 0 5).l.toArray), (2, .agg (rS g32 4 0 6).l.toArray), (3, .agg (rS g33 4 0 7).l.toArray)] (by simp [Act.eval, Act.put]) _ _ (HBS.out _ (rS g30 4 0 9).l (rS g31 4 0 5).l (rS g32 4 0 6).l (rS g33 4 0 7).l (Rw.l_len _) (Rw.l_len _) (Rw.l_len _) (Rw.l_len _)) ?_)
  (with_reducible refine HAG3.out.mono ?_)
  rintro e v3 ⟨G3, rfl, q1, q2⟩
  have HL3 : Hid (LG3 w G1 G2 G3 v3) := Lib.hid ⟨HL2.out.on (below_then BB3.out q2), q1⟩
  clear q1 q2 HAG3 BB3 HL2
  have HTB : Hid (Calls Try.prog 39 #[.slice (some ⟨v3.heap.size, 0, none⟩) 2 2] (v3.alloc (.cells ((r2 0).l ++ (r2 1).l).toArray 54)) fun e w' => ∃ G, e = .returned (.slice (some ⟨G, 0, none⟩) 2 2) ∧ Blk w' G 118 (hesL (fun k => tblM (r2 k).ro) 2).toArray ∧ Below v3.heap.size v3 w') := Lib.hid (by
    have hk := below_al (Below.refl v3.heap.size v3) (.cells ((r2 0).l ++ (r2 1).l).toArray 54)
    have hB := Blk.new v3 54 ((r2 0).l ++ (r2 1).l).toArray
    refine (table_is (some ⟨v3.heap.size, 0, none⟩) 2 2 (by decide) r2 _ ⟨Blk.liesF (by decide) (fun _ => Rw.l_len _) (by simpa [flL, List.range, List.range.loop] using hB), fun i hi => ?_⟩).mono ?_
    · rcases (show i = 0 ∨ i = 1 by omega) with rfl | rfl
      · exact LiesH.nil_
      · exact LiesH.nil_
    · rintro e w' ⟨rfl, q1, q2⟩
      exact ⟨_, rfl, q1, hk.trans (q2.mono (by simp))⟩)
  obtain ⟨c3, hc3⟩ : ∃ c3, c3 = cA 3 := ⟨_, rfl⟩
  obtain ⟨c5, hc5⟩ : ∃ c5, c5 = cA 5 := ⟨_, rfl⟩
  obtain ⟨F, hF⟩ : ∃ F : He, F = ⟨true, c5⟩ := ⟨_, rfl⟩
  obtain ⟨H3, hH3⟩ : ∃ H3 : He, H3 = ⟨true, c3⟩ := ⟨_, rfl⟩
  obtain ⟨X0, hX0⟩ : ∃ X0, X0 = (r2 0).l := ⟨_, rfl⟩
  obtain ⟨X1, hX1⟩ : ∃ X1, X1 = (r2 1).l := ⟨_, rfl⟩
  have HC3 : Hid ((Try.prog).built 51 [(0, .int .i64 3)] = some (ceL c3).toArray) := Lib.hid (by rw [hc3]; exact built_cA 3)
  have HC5 : Hid ((Try.prog).built 51 [(0, .int .i64 5)] = some (ceL c5).toArray) := Lib.hid (by rw [hc5]; exact built_cA 5)
  have HR0 : Hid ((Try.prog).built 54 [(0, .bool true), (1, .agg (ceL c3).toArray)] = some X0.toArray) := Lib.hid (by rw [hc3, hX0]; exact built_rowC)
  have HR1 : Hid ((Try.prog).built 54 [] = some X1.toArray) := Lib.hid (by rw [hX1]; exact built_row0)
  have HH5 : Hid ((Try.prog).built 118 [(0, .bool true), (1, .agg (ceL c5).toArray)] = some (heL F).toArray) := Lib.hid (by rw [hF]; exact built_heldC c5)
  have HH3 : Hid ((Try.prog).built 118 [(0, .bool true), (1, .agg (ceL c3).toArray)] = some (heL H3).toArray) := Lib.hid (by rw [hH3]; exact built_heldC c3)
  have HB2' : Hid ((Instr.buildSlice 32 2 #[(0, .agg X0.toArray), (1, .agg X1.toArray)]).run Try.prog v3 = .ok (.slice (some ⟨v3.heap.size, 0, none⟩) 2 2) (v3.alloc (.cells (X0 ++ X1).toArray 54))) := Lib.hid (by rw [hX0, hX1]; exact HB2.out v3)
  rw [← hX0, ← hX1] at HTB
  have HT1 : Hid (tA 9 5 5 5 0 = F ∧ tA 9 5 6 5 0 = F ∧ (tA 9 5 6 7 0).i = false) := Lib.hid (by
    rw [hF, hc5]
    exact ⟨ex_all _ rfl rfl, ex_two _ rfl rfl rfl, by show (agM 4 0 _ 4).i = false; rw [ex_no _ rfl rfl rfl]; rfl⟩)
  have HT4 : Hid (tblM (r2 0).ro = H3 ∧ (tblM (r2 1).ro).i = false) := Lib.hid ⟨by rw [hH3, hc3]; rfl, rfl⟩
  clear HB2 hc3 hc5 hF hH3 hX0 hX1
  go_upto_region 5 with (first
    | (refine wpList_build rfl 51 _ rfl (ceL c3).toArray (by simpa [Act.eval, Act.put] using HC3.out) ?_)
    | (refine wpList_build rfl 54 _ rfl X0.toArray (by simpa [Act.eval, Act.put] using HR0.out) ?_)
    | (refine wpList_build rfl 54 _ rfl X1.toArray (by simpa [Act.eval, Act.put] using HR1.out) ?_)
    | (refine wpList_bsl rfl 32 2 _ rfl #[(0, .agg X0.toArray), (1, .agg X1.toArray)] (by simp [Act.eval, Act.put]) _ _ HB2'.out ?_)
    | (go_at_call 39; (with_reducible refine HTB.out.mono ?_); rintro e v4 ⟨G4, rfl, q1, q2⟩; have HL4 : Hid (LG4 w G1 G2 G3 G4 v4) := Lib.hid ⟨HL3.out.on q2, q1⟩; have HZN : Hid (∀ Z : Array Value, Z.size = 56 → PIn (v4.alloc (.cells Z 118)) v4.heap.size 0 118 [] [] Z.toList ∧ Z.toList.length = 56) := Lib.hid (fun Z hZ => ⟨Blk.pin (by simpa using Blk.new v4 118 Z), by simpa using hZ⟩); clear q1 q2))
  clear HTB HB2' HR0 HR1 HBS HSD HL3
  go_upto_region 6 with (first
    | (refine wpList_build rfl 51 _ rfl (ceL c5).toArray (by simpa [Act.eval, Act.put] using HC5.out) ?_)
    | (refine wpList_build rfl 118 _ rfl (heL F).toArray (by simpa [Act.eval, Act.put] using HH5.out) ?_)
    | (refine wpList_store_pin rfl 118 (.tmp 5) (.tmp 30) rfl (HZN.out _ rfl).1 (heL F) (by simp [Act.eval, Act.put]) (by simp [Act.eval, Act.put]) 56 size_he (HZN.out _ rfl).2 (heL_len _) (heL_one _) ?_; intro v5 p1 b1; have HP1 := Lib.hid p1; have HB1 := Lib.hid b1; clear p1 b1))
  have hlt4 : G1 < v4.heap.size ∧ G2 < v4.heap.size ∧ G3 < v4.heap.size ∧ G4 < v4.heap.size := ⟨HL4.out.p.p.p.g1.lt, HL4.out.p.p.g2.lt, HL4.out.p.g3.lt, HL4.out.g4.lt⟩
  refine wp_at (fun V => LG4 w G1 G2 G3 G4 V ∧ Blk V v4.heap.size 118 (heL F).toArray) ⟨⟨⟨⟨⟨HB1.out.blk (HL4.out.p.p.p.g1.alloc _) (by omega), (below_al HL4.out.p.p.p.b _).trans (HB1.out.low HL4.out.p.p.p.b.size)⟩, HB1.out.blk (HL4.out.p.p.g2.alloc _) (by omega)⟩, HB1.out.blk (HL4.out.p.g3.alloc _) (by omega)⟩, HB1.out.blk (HL4.out.g4.alloc _) (by omega)⟩, HP1.out.blk_⟩ ?_
  rintro V ⟨hV, hV5⟩
  obtain ⟨g5, hg5⟩ : ∃ g5, g5 = v4.heap.size := ⟨_, rfl⟩
  rw [← hg5] at hV5 ⊢
  have HV := Lib.hid hV
  have HV5 := Lib.hid hV5
  clear hV hV5 hg5 hlt4 HZN HP1 HB1 HL4 HC5 HH5
  have HE := Lib.hid (fun W => held_eql F F W)
  have HE3 := Lib.hid (fun W => held_eql H3 H3 W)
  go_wp2_with fail
  simp only [Act.put]
  refine Reg.wp_slots2 (fun t => t == 0 || (decide (31 ≤ t) && decide (t ≤ 91))) (Reg.KJ V.heap.size [] []) (Reg.KJ.drew _ (by simp)) Reg.KJ.trans (by kernel_rfl) (by kernel_rfl) (by kernel_rfl) (fun zz => (Reg.tblK [
    (31, .is (.slice (some ⟨G1, 0, none⟩) 4 4)),
    (32, .is (.int .i64 4)),
    (33, .is (.bool true)),
    (34, .is (.bool true)),
    (35, .is (.slice (some ⟨G1, 0, none⟩) 4 4)),
    (36, .is (.pointer (some ⟨G1, 0, none⟩))),
    (37, .is (.agg (heL F).toArray)),
    (38, .is (.agg (heL F).toArray)),
    (39, .is (.bool true)),
    (40, .is (.bool true)),
    (41, .is (.bool true)),
    (42, .is (.slice (some ⟨G1, 0, none⟩) 4 4)),
    (43, .is (.pointer (some ⟨G1, 56, none⟩))),
    (44, .is (.pointer (some ⟨G1, 56, none⟩))),
    (45, .is (.bool false)),
    (46, .is (.bool true)),
    (47, .is (.bool true)),
    (48, .is (.bool true)),
    (49, .is (.slice (some ⟨G2, 0, none⟩) 4 4)),
    (50, .is (.int .i64 4)),
    (51, .is (.bool true)),
    (52, .is (.bool true)),
    (53, .is (.bool true)),
    (54, .is (.slice (some ⟨G2, 0, none⟩) 4 4)),
    (55, .is (.pointer (some ⟨G2, 0, none⟩))),
    (56, .is (.agg (heL F).toArray)),
    (57, .is (.agg (heL F).toArray)),
    (58, .is (.bool true)),
    (59, .is (.bool true)),
    (60, .is (.bool true)),
    (61, .is (.slice (some ⟨G3, 0, none⟩) 4 4)),
    (62, .is (.int .i64 4)),
    (63, .is (.bool true)),
    (64, .is (.bool true)),
    (65, .is (.bool true)),
    (66, .is (.slice (some ⟨G3, 0, none⟩) 4 4)),
    (67, .is (.pointer (some ⟨G3, 0, none⟩))),
    (68, .is (.pointer (some ⟨G3, 0, none⟩))),
    (69, .is (.bool false)),
    (70, .is (.bool true)),
    (71, .is (.bool true)),
    (72, .is (.bool true)),
    (73, .is (.slice (some ⟨G4, 0, none⟩) 2 2)),
    (74, .is (.int .i64 2)),
    (75, .is (.bool true)),
    (76, .is (.bool true)),
    (77, .is (.bool true)),
    (78, .is (.slice (some ⟨G4, 0, none⟩) 2 2)),
    (79, .is (.pointer (some ⟨G4, 0, none⟩))),
    (80, .is (.agg (heL H3).toArray)),
    (81, .is (.agg (ceL c3).toArray)),
    (82, .is (.agg (heL H3).toArray)),
    (83, .is (.bool true)),
    (84, .is (.bool true)),
    (85, .is (.bool true)),
    (86, .is (.slice (some ⟨G4, 0, none⟩) 2 2)),
    (87, .is (.pointer (some ⟨G4, 56, none⟩))),
    (88, .is (.pointer (some ⟨G4, 56, none⟩))),
    (89, .is (.bool false)),
    (90, .is (.bool true)),
    (91, .is (.bool true)),
    (0, .is (.bool true))] zz).P) (fun zz => (Reg.tblK _ zz).on) (fun zz => (Reg.memK [] zz).P) (fun zz => (Reg.memK _ zz).on) ?_ ?_
  · simp only [Reg.frame, Reg.over, Nat.reduceAdd, Nat.reduceBEq, Nat.reduceLeDiff, decide_true, decide_false, Bool.or_true, Bool.or_false, if_true, Bool.false_eq_true, if_false, Bool.and_true, Bool.and_false]
    refine ⟨?_, ?_, ?_, ?_, ?_, ?_, ?_, ?_, ?_, ?_, ?_, ?_, ?_, ?_, ?_, ?_, ?_, ?_, ?_, ?_, ?_, ?_, ?_, ?_, ?_, ?_, ?_, ?_, ?_, ?_, ?_, ?_, ?_, ?_, ?_, ?_, ?_, ?_, ?_, ?_, ?_, ?_, ?_, ?_, ?_, ?_, ?_, ?_, ?_, ?_, ?_, ?_, ?_, ?_, ?_, ?_, ?_, ?_, ?_, ?_, ?_, ?_, trivial⟩
    · intro x u hku hd
      refine wpOp_step rfl fun KK hK => ?_
      go_simp
      exact hK _ _ ⟨_, rfl, Reg.KJ.refl _, fun d hd => by cases hd; exact rfl, fun h => by cases h⟩
    · intro x u hku hd
      have h31 : x 31 = .slice (some ⟨G1, 0, none⟩) 4 4 := hd 0 (by decide)
      refine wpOp_step rfl fun KK hK => ?_
      simp only [h31] at hK ⊢
      go_simp
      exact hK _ _ ⟨_, rfl, Reg.KJ.refl _, fun d hd => by cases hd; exact rfl, fun h => by cases h⟩
    · intro x u hku hd
      have h32 : x 32 = .int .i64 4 := hd 1 (by decide)
      refine wpOp_step rfl fun KK hK => ?_
      simp only [h32] at hK ⊢
      go_simp
      exact hK _ _ ⟨_, rfl, Reg.KJ.refl _, fun d hd => by cases hd; exact rfl, fun h => by cases h⟩
    · intro x u hku hd
      have h33 : x 33 = .bool true := hd 2 (by decide)
      refine wpOp_step rfl fun KK hK => ?_
      simp only [h33] at hK ⊢
      go_simp
      exact hK _ _ ⟨_, rfl, Reg.KJ.refl _, fun d hd => by cases hd; exact rfl, fun h => by cases h⟩
    · intro x u hku hd
      have h34 : x 34 = .bool true := hd 3 (by decide)
      refine wpOp_step rfl fun KK hK => ?_
      simp only [h34] at hK ⊢
      go_simp
      exact hK _ _ ⟨_, rfl, Reg.KJ.refl _, fun d hd => by cases hd; exact rfl, fun h => by cases h⟩
    · intro x u hku hd
      have h35 : x 35 = .slice (some ⟨G1, 0, none⟩) 4 4 := hd 4 (by decide)
      have h34 : x 34 = .bool true := hd 3 (by decide)
      have hix : ∀ W, (Instr.indexAt 52 (.slice (some ⟨G1, 0, none⟩) 4 4) (.int .i64 0)).run Try.prog W = .ok (.pointer (some ⟨G1, 0, none⟩)) W := fun W => idxHelds (A := some ⟨G1, 0, none⟩) (n := 4) 4 (k := 0) rfl (by decide) W
      refine wpOp_step rfl fun KK hK => ?_
      simp only [h35, h34] at hK ⊢
      go_simp
      exact hK _ _ ⟨_, rfl, Reg.KJ.refl _, fun d hd => by cases hd; exact rfl, fun h => by cases h⟩
    · intro x u hku hd
      have h36 : x 36 = .pointer (some ⟨G1, 0, none⟩) := hd 5 (by decide)
      have h34 : x 34 = .bool true := hd 3 (by decide)
      refine wpOp_step rfl fun KK hK => ?_
      refine Reg.step_load_wantT (by simp only [h34]; kernel_rfl) 118 (.tmp 36) (by rfl) G1 0 (by exact h36) (heL F) (by have := held_range (i := 0) (HV.out.on hku.belowA).p.p.p.g1 (by decide); rwa [HT1.out.1, Nat.zero_mul] at this) _ Try.underlying118 rfl (by rw [size_he, heL_len]) ?_
      exact hK _ _ ⟨_, rfl, Reg.KJ.refl _, fun d hd => by cases hd; exact rfl, fun h => by cases h⟩
    · intro x u hku hd
      have h34 : x 34 = .bool true := hd 3 (by decide)
      refine wpOp_step rfl fun KK hK => ?_
      refine Reg.step_load_wantT (by simp only [h34]; kernel_rfl) 118 (.tmp 5) (by rfl) g5 0 (by rfl) (heL F) ((HV5.out.on hku.belowA).pin.range) _ Try.underlying118 rfl (by rw [size_he, heL_len]) ?_
      exact hK _ _ ⟨_, rfl, Reg.KJ.refl _, fun d hd => by cases hd; exact rfl, fun h => by cases h⟩
    · intro x u hku hd
      have h37 : x 37 = .agg (heL F).toArray := hd 6 (by decide)
      have h38 : x 38 = .agg (heL F).toArray := hd 7 (by decide)
      have h34 : x 34 = .bool true := hd 3 (by decide)
      have he := HE.out
      rw [heE_refl] at he
      refine wpOp_step rfl fun KK hK => ?_
      simp only [h37, h38, h34] at hK ⊢
      go_simp
      exact hK _ _ ⟨_, rfl, Reg.KJ.refl _, fun d hd => by cases hd; exact rfl, fun h => by cases h⟩
    · intro x u hku hd
      have h34 : x 34 = .bool true := hd 3 (by decide)
      have h39 : x 39 = .bool true := hd 8 (by decide)
      refine wpOp_step rfl fun KK hK => ?_
      simp only [h34, h39] at hK ⊢
      go_simp
      exact hK _ _ ⟨_, rfl, Reg.KJ.refl _, fun d hd => by cases hd; exact rfl, fun h => by cases h⟩
    · intro x u hku hd
      have h40 : x 40 = .bool true := hd 9 (by decide)
      refine wpOp_step rfl fun KK hK => ?_
      simp only [h40] at hK ⊢
      go_simp
      exact hK _ _ ⟨_, rfl, Reg.KJ.refl _, fun d hd => by cases hd; exact rfl, fun h => by cases h⟩
    · intro x u hku hd
      have h41 : x 41 = .bool true := hd 10 (by decide)
      refine wpOp_step rfl fun KK hK => ?_
      simp only [h41] at hK ⊢
      go_simp
      exact hK _ _ ⟨_, rfl, Reg.KJ.refl _, fun d hd => by cases hd; exact rfl, fun h => by cases h⟩
    · intro x u hku hd
      have h42 : x 42 = .slice (some ⟨G1, 0, none⟩) 4 4 := hd 11 (by decide)
      have h41 : x 41 = .bool true := hd 10 (by decide)
      have hix : ∀ W, (Instr.indexAt 52 (.slice (some ⟨G1, 0, none⟩) 4 4) (.int .i64 1)).run Try.prog W = .ok (.pointer (some ⟨G1, 56, none⟩)) W := fun W => idxHelds (A := some ⟨G1, 0, none⟩) (n := 4) 4 (k := 1) rfl (by decide) W
      refine wpOp_step rfl fun KK hK => ?_
      simp only [h42, h41] at hK ⊢
      go_simp
      exact hK _ _ ⟨_, rfl, Reg.KJ.refl _, fun d hd => by cases hd; exact rfl, fun h => by cases h⟩
    · intro x u hku hd
      have h43 : x 43 = .pointer (some ⟨G1, 56, none⟩) := hd 12 (by decide)
      have h41 : x 41 = .bool true := hd 10 (by decide)
      have hv := HV.out.on hku.belowA
      have l5 := hv.p.p.p.g1.lt
      refine wpOp_step rfl fun KK hK => ?_
      simp only [h43, h41] at hK ⊢
      go_simp
      exact hK _ _ ⟨_, rfl, Reg.KJ.refl _, fun d hd => by cases hd; exact rfl, fun h => by cases h⟩
    · intro x u hku hd
      have h44 : x 44 = .pointer (some ⟨G1, 56, none⟩) := hd 13 (by decide)
      have h41 : x 41 = .bool true := hd 10 (by decide)
      have hv := HV.out.on hku.belowA
      have c5' := held_bool (i := 1) hv.p.p.p.g1 (by decide)
      rw [tA_1] at c5'
      have l5 := hv.p.p.p.g1.lt
      refine wpOp_step rfl fun KK hK => ?_
      simp only [h44, h41] at hK ⊢
      go_simp
      exact hK _ _ ⟨_, rfl, Reg.KJ.refl _, fun d hd => by cases hd; exact rfl, fun h => by cases h⟩
    · intro x u hku hd
      have h45 : x 45 = .bool false := hd 14 (by decide)
      have h41 : x 41 = .bool true := hd 10 (by decide)
      refine wpOp_step rfl fun KK hK => ?_
      simp only [h45, h41] at hK ⊢
      go_simp
      exact hK _ _ ⟨_, rfl, Reg.KJ.refl _, fun d hd => by cases hd; exact rfl, fun h => by cases h⟩
    · intro x u hku hd
      have h41 : x 41 = .bool true := hd 10 (by decide)
      have h46 : x 46 = .bool true := hd 15 (by decide)
      refine wpOp_step rfl fun KK hK => ?_
      simp only [h41, h46] at hK ⊢
      go_simp
      exact hK _ _ ⟨_, rfl, Reg.KJ.refl _, fun d hd => by cases hd; exact rfl, fun h => by cases h⟩
    · intro x u hku hd
      have h47 : x 47 = .bool true := hd 16 (by decide)
      refine wpOp_step rfl fun KK hK => ?_
      simp only [h47] at hK ⊢
      go_simp
      exact hK _ _ ⟨_, rfl, Reg.KJ.refl _, fun d hd => by cases hd; exact rfl, fun h => by cases h⟩
    · intro x u hku hd
      have h48 : x 48 = .bool true := hd 17 (by decide)
      refine wpOp_step rfl fun KK hK => ?_
      simp only [h48] at hK ⊢
      go_simp
      exact hK _ _ ⟨_, rfl, Reg.KJ.refl _, fun d hd => by cases hd; exact rfl, fun h => by cases h⟩
    · intro x u hku hd
      have h49 : x 49 = .slice (some ⟨G2, 0, none⟩) 4 4 := hd 18 (by decide)
      have h48 : x 48 = .bool true := hd 17 (by decide)
      refine wpOp_step rfl fun KK hK => ?_
      simp only [h49, h48] at hK ⊢
      go_simp
      exact hK _ _ ⟨_, rfl, Reg.KJ.refl _, fun d hd => by cases hd; exact rfl, fun h => by cases h⟩
    · intro x u hku hd
      have h50 : x 50 = .int .i64 4 := hd 19 (by decide)
      have h48 : x 48 = .bool true := hd 17 (by decide)
      refine wpOp_step rfl fun KK hK => ?_
      simp only [h50, h48] at hK ⊢
      go_simp
      exact hK _ _ ⟨_, rfl, Reg.KJ.refl _, fun d hd => by cases hd; exact rfl, fun h => by cases h⟩
    · intro x u hku hd
      have h48 : x 48 = .bool true := hd 17 (by decide)
      have h51 : x 51 = .bool true := hd 20 (by decide)
      refine wpOp_step rfl fun KK hK => ?_
      simp only [h48, h51] at hK ⊢
      go_simp
      exact hK _ _ ⟨_, rfl, Reg.KJ.refl _, fun d hd => by cases hd; exact rfl, fun h => by cases h⟩
    · intro x u hku hd
      have h52 : x 52 = .bool true := hd 21 (by decide)
      refine wpOp_step rfl fun KK hK => ?_
      simp only [h52] at hK ⊢
      go_simp
      exact hK _ _ ⟨_, rfl, Reg.KJ.refl _, fun d hd => by cases hd; exact rfl, fun h => by cases h⟩
    · intro x u hku hd
      have h53 : x 53 = .bool true := hd 22 (by decide)
      refine wpOp_step rfl fun KK hK => ?_
      simp only [h53] at hK ⊢
      go_simp
      exact hK _ _ ⟨_, rfl, Reg.KJ.refl _, fun d hd => by cases hd; exact rfl, fun h => by cases h⟩
    · intro x u hku hd
      have h54 : x 54 = .slice (some ⟨G2, 0, none⟩) 4 4 := hd 23 (by decide)
      have h53 : x 53 = .bool true := hd 22 (by decide)
      have hix : ∀ W, (Instr.indexAt 52 (.slice (some ⟨G2, 0, none⟩) 4 4) (.int .i64 0)).run Try.prog W = .ok (.pointer (some ⟨G2, 0, none⟩)) W := fun W => idxHelds (A := some ⟨G2, 0, none⟩) (n := 4) 4 (k := 0) rfl (by decide) W
      refine wpOp_step rfl fun KK hK => ?_
      simp only [h54, h53] at hK ⊢
      go_simp
      exact hK _ _ ⟨_, rfl, Reg.KJ.refl _, fun d hd => by cases hd; exact rfl, fun h => by cases h⟩
    · intro x u hku hd
      have h55 : x 55 = .pointer (some ⟨G2, 0, none⟩) := hd 24 (by decide)
      have h53 : x 53 = .bool true := hd 22 (by decide)
      refine wpOp_step rfl fun KK hK => ?_
      refine Reg.step_load_wantT (by simp only [h53]; kernel_rfl) 118 (.tmp 55) (by rfl) G2 0 (by exact h55) (heL F) (by have := held_range (i := 0) (HV.out.on hku.belowA).p.p.g2 (by decide); rwa [HT1.out.2.1, Nat.zero_mul] at this) _ Try.underlying118 rfl (by rw [size_he, heL_len]) ?_
      exact hK _ _ ⟨_, rfl, Reg.KJ.refl _, fun d hd => by cases hd; exact rfl, fun h => by cases h⟩
    · intro x u hku hd
      have h53 : x 53 = .bool true := hd 22 (by decide)
      refine wpOp_step rfl fun KK hK => ?_
      refine Reg.step_load_wantT (by simp only [h53]; kernel_rfl) 118 (.tmp 5) (by rfl) g5 0 (by rfl) (heL F) ((HV5.out.on hku.belowA).pin.range) _ Try.underlying118 rfl (by rw [size_he, heL_len]) ?_
      exact hK _ _ ⟨_, rfl, Reg.KJ.refl _, fun d hd => by cases hd; exact rfl, fun h => by cases h⟩
    · intro x u hku hd
      have h56 : x 56 = .agg (heL F).toArray := hd 25 (by decide)
      have h57 : x 57 = .agg (heL F).toArray := hd 26 (by decide)
      have h53 : x 53 = .bool true := hd 22 (by decide)
      have he := HE.out
      rw [heE_refl] at he
      refine wpOp_step rfl fun KK hK => ?_
      simp only [h56, h57, h53] at hK ⊢
      go_simp
      exact hK _ _ ⟨_, rfl, Reg.KJ.refl _, fun d hd => by cases hd; exact rfl, fun h => by cases h⟩
    · intro x u hku hd
      have h53 : x 53 = .bool true := hd 22 (by decide)
      have h58 : x 58 = .bool true := hd 27 (by decide)
      refine wpOp_step rfl fun KK hK => ?_
      simp only [h53, h58] at hK ⊢
      go_simp
      exact hK _ _ ⟨_, rfl, Reg.KJ.refl _, fun d hd => by cases hd; exact rfl, fun h => by cases h⟩
    · intro x u hku hd
      have h59 : x 59 = .bool true := hd 28 (by decide)
      refine wpOp_step rfl fun KK hK => ?_
      simp only [h59] at hK ⊢
      go_simp
      exact hK _ _ ⟨_, rfl, Reg.KJ.refl _, fun d hd => by cases hd; exact rfl, fun h => by cases h⟩
    · intro x u hku hd
      have h60 : x 60 = .bool true := hd 29 (by decide)
      refine wpOp_step rfl fun KK hK => ?_
      simp only [h60] at hK ⊢
      go_simp
      exact hK _ _ ⟨_, rfl, Reg.KJ.refl _, fun d hd => by cases hd; exact rfl, fun h => by cases h⟩
    · intro x u hku hd
      have h61 : x 61 = .slice (some ⟨G3, 0, none⟩) 4 4 := hd 30 (by decide)
      have h60 : x 60 = .bool true := hd 29 (by decide)
      refine wpOp_step rfl fun KK hK => ?_
      simp only [h61, h60] at hK ⊢
      go_simp
      exact hK _ _ ⟨_, rfl, Reg.KJ.refl _, fun d hd => by cases hd; exact rfl, fun h => by cases h⟩
    · intro x u hku hd
      have h62 : x 62 = .int .i64 4 := hd 31 (by decide)
      have h60 : x 60 = .bool true := hd 29 (by decide)
      refine wpOp_step rfl fun KK hK => ?_
      simp only [h62, h60] at hK ⊢
      go_simp
      exact hK _ _ ⟨_, rfl, Reg.KJ.refl _, fun d hd => by cases hd; exact rfl, fun h => by cases h⟩
    · intro x u hku hd
      have h60 : x 60 = .bool true := hd 29 (by decide)
      have h63 : x 63 = .bool true := hd 32 (by decide)
      refine wpOp_step rfl fun KK hK => ?_
      simp only [h60, h63] at hK ⊢
      go_simp
      exact hK _ _ ⟨_, rfl, Reg.KJ.refl _, fun d hd => by cases hd; exact rfl, fun h => by cases h⟩
    · intro x u hku hd
      have h64 : x 64 = .bool true := hd 33 (by decide)
      refine wpOp_step rfl fun KK hK => ?_
      simp only [h64] at hK ⊢
      go_simp
      exact hK _ _ ⟨_, rfl, Reg.KJ.refl _, fun d hd => by cases hd; exact rfl, fun h => by cases h⟩
    · intro x u hku hd
      have h65 : x 65 = .bool true := hd 34 (by decide)
      refine wpOp_step rfl fun KK hK => ?_
      simp only [h65] at hK ⊢
      go_simp
      exact hK _ _ ⟨_, rfl, Reg.KJ.refl _, fun d hd => by cases hd; exact rfl, fun h => by cases h⟩
    · intro x u hku hd
      have h66 : x 66 = .slice (some ⟨G3, 0, none⟩) 4 4 := hd 35 (by decide)
      have h65 : x 65 = .bool true := hd 34 (by decide)
      have hix : ∀ W, (Instr.indexAt 52 (.slice (some ⟨G3, 0, none⟩) 4 4) (.int .i64 0)).run Try.prog W = .ok (.pointer (some ⟨G3, 0, none⟩)) W := fun W => idxHelds (A := some ⟨G3, 0, none⟩) (n := 4) 4 (k := 0) rfl (by decide) W
      refine wpOp_step rfl fun KK hK => ?_
      simp only [h66, h65] at hK ⊢
      go_simp
      exact hK _ _ ⟨_, rfl, Reg.KJ.refl _, fun d hd => by cases hd; exact rfl, fun h => by cases h⟩
    · intro x u hku hd
      have h67 : x 67 = .pointer (some ⟨G3, 0, none⟩) := hd 36 (by decide)
      have h65 : x 65 = .bool true := hd 34 (by decide)
      have hv := HV.out.on hku.belowA
      have l5 := hv.p.g3.lt
      refine wpOp_step rfl fun KK hK => ?_
      simp only [h67, h65] at hK ⊢
      go_simp
      exact hK _ _ ⟨_, rfl, Reg.KJ.refl _, fun d hd => by cases hd; exact rfl, fun h => by cases h⟩
    · intro x u hku hd
      have h68 : x 68 = .pointer (some ⟨G3, 0, none⟩) := hd 37 (by decide)
      have h65 : x 65 = .bool true := hd 34 (by decide)
      have hv := HV.out.on hku.belowA
      have c5' := held_bool (i := 0) hv.p.g3 (by decide)
      rw [HT1.out.2.2, Nat.zero_mul] at c5'
      have l5 := hv.p.g3.lt
      refine wpOp_step rfl fun KK hK => ?_
      simp only [h68, h65] at hK ⊢
      go_simp
      exact hK _ _ ⟨_, rfl, Reg.KJ.refl _, fun d hd => by cases hd; exact rfl, fun h => by cases h⟩
    · intro x u hku hd
      have h69 : x 69 = .bool false := hd 38 (by decide)
      have h65 : x 65 = .bool true := hd 34 (by decide)
      refine wpOp_step rfl fun KK hK => ?_
      simp only [h69, h65] at hK ⊢
      go_simp
      exact hK _ _ ⟨_, rfl, Reg.KJ.refl _, fun d hd => by cases hd; exact rfl, fun h => by cases h⟩
    · intro x u hku hd
      have h65 : x 65 = .bool true := hd 34 (by decide)
      have h70 : x 70 = .bool true := hd 39 (by decide)
      refine wpOp_step rfl fun KK hK => ?_
      simp only [h65, h70] at hK ⊢
      go_simp
      exact hK _ _ ⟨_, rfl, Reg.KJ.refl _, fun d hd => by cases hd; exact rfl, fun h => by cases h⟩
    · intro x u hku hd
      have h71 : x 71 = .bool true := hd 40 (by decide)
      refine wpOp_step rfl fun KK hK => ?_
      simp only [h71] at hK ⊢
      go_simp
      exact hK _ _ ⟨_, rfl, Reg.KJ.refl _, fun d hd => by cases hd; exact rfl, fun h => by cases h⟩
    · intro x u hku hd
      have h72 : x 72 = .bool true := hd 41 (by decide)
      refine wpOp_step rfl fun KK hK => ?_
      simp only [h72] at hK ⊢
      go_simp
      exact hK _ _ ⟨_, rfl, Reg.KJ.refl _, fun d hd => by cases hd; exact rfl, fun h => by cases h⟩
    · intro x u hku hd
      have h73 : x 73 = .slice (some ⟨G4, 0, none⟩) 2 2 := hd 42 (by decide)
      have h72 : x 72 = .bool true := hd 41 (by decide)
      refine wpOp_step rfl fun KK hK => ?_
      simp only [h73, h72] at hK ⊢
      go_simp
      exact hK _ _ ⟨_, rfl, Reg.KJ.refl _, fun d hd => by cases hd; exact rfl, fun h => by cases h⟩
    · intro x u hku hd
      have h74 : x 74 = .int .i64 2 := hd 43 (by decide)
      have h72 : x 72 = .bool true := hd 41 (by decide)
      refine wpOp_step rfl fun KK hK => ?_
      simp only [h74, h72] at hK ⊢
      go_simp
      exact hK _ _ ⟨_, rfl, Reg.KJ.refl _, fun d hd => by cases hd; exact rfl, fun h => by cases h⟩
    · intro x u hku hd
      have h72 : x 72 = .bool true := hd 41 (by decide)
      have h75 : x 75 = .bool true := hd 44 (by decide)
      refine wpOp_step rfl fun KK hK => ?_
      simp only [h72, h75] at hK ⊢
      go_simp
      exact hK _ _ ⟨_, rfl, Reg.KJ.refl _, fun d hd => by cases hd; exact rfl, fun h => by cases h⟩
    · intro x u hku hd
      have h76 : x 76 = .bool true := hd 45 (by decide)
      refine wpOp_step rfl fun KK hK => ?_
      simp only [h76] at hK ⊢
      go_simp
      exact hK _ _ ⟨_, rfl, Reg.KJ.refl _, fun d hd => by cases hd; exact rfl, fun h => by cases h⟩
    · intro x u hku hd
      have h77 : x 77 = .bool true := hd 46 (by decide)
      refine wpOp_step rfl fun KK hK => ?_
      simp only [h77] at hK ⊢
      go_simp
      exact hK _ _ ⟨_, rfl, Reg.KJ.refl _, fun d hd => by cases hd; exact rfl, fun h => by cases h⟩
    · intro x u hku hd
      have h78 : x 78 = .slice (some ⟨G4, 0, none⟩) 2 2 := hd 47 (by decide)
      have h77 : x 77 = .bool true := hd 46 (by decide)
      have hix : ∀ W, (Instr.indexAt 52 (.slice (some ⟨G4, 0, none⟩) 2 2) (.int .i64 0)).run Try.prog W = .ok (.pointer (some ⟨G4, 0, none⟩)) W := fun W => idxHelds (A := some ⟨G4, 0, none⟩) (n := 2) 2 (k := 0) rfl (by decide) W
      refine wpOp_step rfl fun KK hK => ?_
      simp only [h78, h77] at hK ⊢
      go_simp
      exact hK _ _ ⟨_, rfl, Reg.KJ.refl _, fun d hd => by cases hd; exact rfl, fun h => by cases h⟩
    · intro x u hku hd
      have h79 : x 79 = .pointer (some ⟨G4, 0, none⟩) := hd 48 (by decide)
      have h77 : x 77 = .bool true := hd 46 (by decide)
      refine wpOp_step rfl fun KK hK => ?_
      refine Reg.step_load_wantT (by simp only [h77]; kernel_rfl) 118 (.tmp 79) (by rfl) G4 0 (by exact h79) (heL H3) (by have := held_range (i := 0) (HV.out.on hku.belowA).g4 (by decide); rwa [HT4.out.1, Nat.zero_mul] at this) _ Try.underlying118 rfl (by rw [size_he, heL_len]) ?_
      exact hK _ _ ⟨_, rfl, Reg.KJ.refl _, fun d hd => by cases hd; exact rfl, fun h => by cases h⟩
    · intro x u hku hd
      have h77 : x 77 = .bool true := hd 46 (by decide)
      refine wpOp_step rfl fun KK hK => ?_
      refine Reg.step_build_wantT (by simp only [h77]; kernel_rfl) 51 _ (by rfl) _ (by simpa [Act.eval] using HC3.out) ?_
      exact hK _ _ ⟨_, rfl, Reg.KJ.refl _, fun d hd => by cases hd; exact rfl, fun h => by cases h⟩
    · intro x u hku hd
      have h81 : x 81 = .agg (ceL c3).toArray := hd 50 (by decide)
      have h77 : x 77 = .bool true := hd 46 (by decide)
      refine wpOp_step rfl fun KK hK => ?_
      refine Reg.step_build_wantT (by simp only [h77]; kernel_rfl) 118 _ (by rfl) _ (by simpa [Act.eval, h81] using HH3.out) ?_
      exact hK _ _ ⟨_, rfl, Reg.KJ.refl _, fun d hd => by cases hd; exact rfl, fun h => by cases h⟩
    · intro x u hku hd
      have h80 : x 80 = .agg (heL H3).toArray := hd 49 (by decide)
      have h82 : x 82 = .agg (heL H3).toArray := hd 51 (by decide)
      have h77 : x 77 = .bool true := hd 46 (by decide)
      have he := HE3.out
      rw [heE_refl] at he
      refine wpOp_step rfl fun KK hK => ?_
      simp only [h80, h82, h77] at hK ⊢
      go_simp
      exact hK _ _ ⟨_, rfl, Reg.KJ.refl _, fun d hd => by cases hd; exact rfl, fun h => by cases h⟩
    · intro x u hku hd
      have h77 : x 77 = .bool true := hd 46 (by decide)
      have h83 : x 83 = .bool true := hd 52 (by decide)
      refine wpOp_step rfl fun KK hK => ?_
      simp only [h77, h83] at hK ⊢
      go_simp
      exact hK _ _ ⟨_, rfl, Reg.KJ.refl _, fun d hd => by cases hd; exact rfl, fun h => by cases h⟩
    · intro x u hku hd
      have h84 : x 84 = .bool true := hd 53 (by decide)
      refine wpOp_step rfl fun KK hK => ?_
      simp only [h84] at hK ⊢
      go_simp
      exact hK _ _ ⟨_, rfl, Reg.KJ.refl _, fun d hd => by cases hd; exact rfl, fun h => by cases h⟩
    · intro x u hku hd
      have h85 : x 85 = .bool true := hd 54 (by decide)
      refine wpOp_step rfl fun KK hK => ?_
      simp only [h85] at hK ⊢
      go_simp
      exact hK _ _ ⟨_, rfl, Reg.KJ.refl _, fun d hd => by cases hd; exact rfl, fun h => by cases h⟩
    · intro x u hku hd
      have h86 : x 86 = .slice (some ⟨G4, 0, none⟩) 2 2 := hd 55 (by decide)
      have h85 : x 85 = .bool true := hd 54 (by decide)
      have hix : ∀ W, (Instr.indexAt 52 (.slice (some ⟨G4, 0, none⟩) 2 2) (.int .i64 1)).run Try.prog W = .ok (.pointer (some ⟨G4, 56, none⟩)) W := fun W => idxHelds (A := some ⟨G4, 0, none⟩) (n := 2) 2 (k := 1) rfl (by decide) W
      refine wpOp_step rfl fun KK hK => ?_
      simp only [h86, h85] at hK ⊢
      go_simp
      exact hK _ _ ⟨_, rfl, Reg.KJ.refl _, fun d hd => by cases hd; exact rfl, fun h => by cases h⟩
    · intro x u hku hd
      have h87 : x 87 = .pointer (some ⟨G4, 56, none⟩) := hd 56 (by decide)
      have h85 : x 85 = .bool true := hd 54 (by decide)
      have hv := HV.out.on hku.belowA
      have l5 := hv.g4.lt
      refine wpOp_step rfl fun KK hK => ?_
      simp only [h87, h85] at hK ⊢
      go_simp
      exact hK _ _ ⟨_, rfl, Reg.KJ.refl _, fun d hd => by cases hd; exact rfl, fun h => by cases h⟩
    · intro x u hku hd
      have h88 : x 88 = .pointer (some ⟨G4, 56, none⟩) := hd 57 (by decide)
      have h85 : x 85 = .bool true := hd 54 (by decide)
      have hv := HV.out.on hku.belowA
      have c5' := held_bool (i := 1) hv.g4 (by decide)
      rw [HT4.out.2] at c5'
      have l5 := hv.g4.lt
      refine wpOp_step rfl fun KK hK => ?_
      simp only [h88, h85] at hK ⊢
      go_simp
      exact hK _ _ ⟨_, rfl, Reg.KJ.refl _, fun d hd => by cases hd; exact rfl, fun h => by cases h⟩
    · intro x u hku hd
      have h89 : x 89 = .bool false := hd 58 (by decide)
      have h85 : x 85 = .bool true := hd 54 (by decide)
      refine wpOp_step rfl fun KK hK => ?_
      simp only [h89, h85] at hK ⊢
      go_simp
      exact hK _ _ ⟨_, rfl, Reg.KJ.refl _, fun d hd => by cases hd; exact rfl, fun h => by cases h⟩
    · intro x u hku hd
      have h85 : x 85 = .bool true := hd 54 (by decide)
      have h90 : x 90 = .bool true := hd 59 (by decide)
      refine wpOp_step rfl fun KK hK => ?_
      simp only [h85, h90] at hK ⊢
      go_simp
      exact hK _ _ ⟨_, rfl, Reg.KJ.refl _, fun d hd => by cases hd; exact rfl, fun h => by cases h⟩
    · intro x u hku hd
      have h91 : x 91 = .bool true := hd 60 (by decide)
      refine wpOp_step rfl fun KK hK => ?_
      simp only [h91] at hK ⊢
      go_simp
      exact hK _ _ ⟨_, rfl, Reg.KJ.refl _, fun d hd => by cases hd; exact rfl, fun h => by cases h⟩
  · intro y V6 hku hall
    have e0 : y 0 = .bool true := hall 61 (by decide)
    have HFIN := Lib.hid (below_then HV.out.p.p.p.b hku.belowA)
    clear hku hall
    simp only [Reg.frame, Reg.over, Nat.reduceAdd, Nat.reduceLeDiff, Nat.reduceBEq, Bool.or_true, Bool.or_false, decide_true, decide_false, if_true, Bool.false_eq_true, if_false, Bool.and_true, Bool.and_false, e0]
    go_wp2_with fail
    go_ret
    exact ⟨rfl, HFIN.out⟩
end Go.Proofs.Ytdbljggjddnjcaa

