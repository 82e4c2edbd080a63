/-
  The walk of the law RingsPaths: true, whatever came in. Condition: the table of directions is as the program's text lays it.
-/
import Derived.Test.YthjplgiinkijcaaDoorRgLives
import Derived.Test.YthjplgiinkijcaaDoorRgRefP
import Derived.Test.YthjplgiinkijcaaDoorBookW
import Derived.Test.YthjplgiinkijcaaDoorApart
import Derived.Test.YthjplgiinkijcaaDoorReg
namespace Go.Proofs.YthjplgiinkijcaaDoor
open Go.RowKit Rg

/-- The path's nodes; none, if there is no path. -/
def pathA (n d a b h : Int) : List Int := if pathB n d a b h = true then pathL n d a b h else []
theorem pathA_len (n d a b h : Int) : (pathA n d a b h).length ≤ 100 := by
  unfold pathA
  split
  · rw [pathL_len]
    rename_i hp
    have := path_iff.1 hp
    have := dist_bd n d a b
    omega
  · simp
theorem path_any (n d a b h : Int) (w : World) (hw : Ways w) (hd : 0 ≤ d) (hd' : d ≤ 255) :
    Calls Tryd.prog 21 #[.int .i64 n, .int .u8 d, .int .i64 a, .int .i64 b, .int .i64 h] w fun e w' => ∃ Y, e = .returned (.tuple #[.slice Y (pathA n d a b h).length (pathA n d a b h).length, .bool (pathB n d a b h)]) ∧ Lies .i64 w' w'.heap.size Y (pathA n d a b h).length (pathA n d a b h) ∧ Ent w' 3 w.heap.size (Y, (pathA n d a b h).length) ∧ Below w.heap.size w w' := by
  by_cases hp : pathB n d a b h = true
  · have e : pathA n d a b h = pathL n d a b h := by rw [pathA, if_pos hp]
    rw [e, hp]
    refine (path_yes n d a b h w hw hd hp).mono fun e w' q => ?_
    obtain ⟨g, h1, h2, h3, h4⟩ := q
    exact ⟨_, h1, h3.lies rfl, h3.ent rfl h2, h4⟩
  · have e : pathA n d a b h = [] := by rw [pathA, if_neg hp]
    rw [e, bfalse hp]
    refine (path_no n d a b h w hw hd hd' (bfalse hp)).mono fun e w' q => ?_
    exact ⟨none, q.1, Lies.nil_, fun h0 => absurd h0 (by simp), q.2⟩
theorem refPath_any (n d a b h : Int) (w : World) (hd : 0 ≤ d) (hd' : d ≤ 255) :
    Calls Tryd.prog 22 #[.int .i64 n, .int .u8 d, .int .i64 a, .int .i64 b, .int .i64 h] w fun e w' => ∃ A c, e = .returned (.tuple #[.slice A (pathA n d a b h).length c, .bool (pathB n d a b h)]) ∧ Lies .i64 w' w'.heap.size A (pathA n d a b h).length (pathA n d a b h) ∧ Below w.heap.size w w' := by
  by_cases hp : pathB n d a b h = true
  · have e : pathA n d a b h = pathL n d a b h := by rw [pathA, if_pos hp]
    have hE := ex2.1 (path_ex hp)
    rw [e, hp]
    exact refPath_yes n d a (by omega) _ b h w hp rfl
  · have e : pathA n d a b h = [] := by rw [pathA, if_neg hp]
    rw [e, bfalse hp]
    refine (refPath_no n d a b h w hd hd' (bfalse hp)).mono fun e w' q => ?_
    exact ⟨none, 0, q.1, Lies.nil_, q.2⟩

set_option maxRecDepth 100000 in
set_option maxHeartbeats 4000000 in
theorem ringsPaths_walk (n d p0 p1 p2 : Int) (w : World) (hw : Ways w) (_ : (Lit.int .i64 n).wf = true) (hd : (Lit.int .u8 d).wf = true) (_ : (Lit.int .i64 p0).wf = true) (_ : (Lit.int .i64 p1).wf = true) (_ : (Lit.int .i64 p2).wf = true) :
    Calls Tryd.prog 5 #[.int .i64 n, .int .u8 d, .agg #[.int .i64 p0, .int .i64 p1, .int .i64 p2]] w fun e w' => e = .returned (.bool true) ∧ Below w.heap.size w w' := by
  have hbd := bounds_u8 hd
  have HA := Lib.hid (fun W hW => path_any n d p0 p1 p2 W hW hbd.1 hbd.2)
  have HR := Lib.hid (fun W => refPath_any n d p0 p1 p2 W hbd.1 hbd.2)
  have HP1 := Lib.hid (fun W hW => place_any n d p0 p1 W hW hbd.1 hbd.2)
  have HP2 := Lib.hid (fun W => refPlace_any n d p0 p1 W hbd.1 hbd.2)
  have hN := pathA_len n d p0 p1 p2
  obtain ⟨s1, e1⟩ : ∃ s, s = placeM n d p0 p1 := ⟨_, rfl⟩
  rw [← e1] at HP1 HP2
  obtain ⟨L, e2⟩ : ∃ s, s = pathA n d p0 p1 p2 := ⟨_, rfl⟩
  rw [← e2] at HA HR hN
  obtain ⟨ok, e3⟩ : ∃ s, s = pathB n d p0 p1 p2 := ⟨_, rfl⟩
  rw [← e3] at HA HR
  obtain ⟨N, e4⟩ : ∃ s, s = L.length := ⟨_, rfl⟩
  rw [← e4] at HA HR hN
  clear e1 e2 e3 e4 hd hbd
  have hu0 := hw.al (.cells #[.int .i64 p0, .int .i64 p1, .int .i64 p2] 29)
  have hB0 := below_al (Below.refl w.heap.size w) (.cells #[.int .i64 p0, .int .i64 p1, .int .i64 p2] 29)
  have HK0 := Lib.hid (Blk.new w 29 #[.int .i64 p0, .int .i64 p1, .int .i64 p2])
  have c0 : (ok != ok) = false := by simp
  have Hw := Lib.hid hw
  clear hw
  go_enter Tryd.func5, Tryd.ntmps5
  go_wp2_with fail
  with_reducible refine (HA.out _ hu0).mono ?_
  rintro e w2 ⟨Y, rfl, hl, hE, b2⟩
  have hu := hu0.on b2
  have hB := below_then hB0 b2
  have hE2 := hE.mono (base' := w.heap.size) (Nat.le_trans (Nat.le_succ _) (by simp))
  have HK2 := Lib.hid (HK0.out.on b2)
  have hc0 := HK2.out.cell 0
  have hc1 := HK2.out.cell 1
  have hc2 := HK2.out.cell 2
  simp only [List.getElem?_toArray, List.getElem?_cons_zero, List.getElem?_cons_succ] at hc0 hc1 hc2
  clear hE b2 hu0 hB0 HK0
  go_wp2_with fail
  with_reducible refine (HR.out _).mono ?_
  rintro e w3 ⟨A, c, rfl, hr, b3⟩
  replace hu := hu.on b3
  replace hB := below_then hB b3
  replace hl := hl.on b3
  replace hE2 := hE2.on b3
  have HK3 := Lib.hid (HK2.out.on b3)
  clear hc0 hc1 hc2 HK2 b3 HR
  have hc0 := HK3.out.cell 0
  have hc1 := HK3.out.cell 1
  have hc2 := HK3.out.cell 2
  have hz := HK3.out.lt
  simp only [List.getElem?_toArray, List.getElem?_cons_zero, List.getElem?_cons_succ] at hc0 hc1 hc2
  go_wp2_with fail
  refine Reg.wp_slots (fun t => decide (40 ≤ t)) (by kernel_rfl) (by kernel_rfl) (by kernel_rfl) (fun zz => (Reg.tbl [
    (40, .is (.bool ok)),
    (41, .is (.bool ok)),
    (42, .is (.bool false)),
    (43, .is (.bool false)),
    (44, .is (.slice Y N N)),
    (45, .is (.slice A N c)),
    (46, .is (.bool true)),
    (47, .is (.bool false)),
    (48, .is (.bool false)),
    (49, .is (.bool false)),
    (50, .is (.int .i64 n)),
    (51, .is (.int .u8 d)),
    (52, .is (.pointer (some ⟨w.heap.size, 0, none⟩))),
    (53, .is (.int .i64 p0)),
    (54, .is (.pointer (some ⟨w.heap.size, 1, none⟩))),
    (55, .is (.int .i64 p1)),
    (56, .is (.int .i64 s1)),
    (57, .is (.int .i64 n)),
    (58, .is (.int .u8 d)),
    (59, .is (.pointer (some ⟨w.heap.size, 0, none⟩))),
    (60, .is (.int .i64 p0)),
    (61, .is (.pointer (some ⟨w.heap.size, 1, none⟩))),
    (62, .is (.int .i64 p1)),
    (63, .is (.int .i64 s1)),
    (64, .is (.bool false)),
    (65, .is (.bool false))] zz).P) (fun zz => (Reg.tbl _ zz).on) ?_ ?_
  · simp only [Reg.frame, Reg.over, Nat.reduceAdd, Nat.reduceLeDiff, decide_true, decide_false, if_true, Bool.false_eq_true, if_false]
    refine ⟨?_, ?_, ?_, ?_, ?_, ?_, ?_, ?_, ?_, ?_, ?_, ?_, ?_, ?_, ?_, ?_, ?_, ?_, ?_, ?_, ?_, ?_, ?_, ?_, ?_, ?_, trivial⟩
    · intro x u hbu hd
      refine wpOp_step rfl fun K hK => ?_
      go_simp
      exact hK _ _ ⟨_, rfl, Below.refl _ _, fun d hd => by cases hd; exact rfl⟩
    · intro x u hbu hd
      refine wpOp_step rfl fun K hK => ?_
      go_simp
      exact hK _ _ ⟨_, rfl, Below.refl _ _, fun d hd => by cases hd; exact rfl⟩
    · intro x u hbu hd
      have h40 : x 40 = .bool ok := hd 0 (by decide)
      have h41 : x 41 = .bool ok := hd 1 (by decide)
      refine wpOp_step rfl fun K hK => ?_
      simp only [h40, h41] at hK ⊢
      go_simp
      exact hK _ _ ⟨_, rfl, Below.refl _ _, fun d hd => by cases hd; exact rfl⟩
    · intro x u hbu hd
      have h42 : x 42 = .bool false := hd 2 (by decide)
      refine wpOp_step rfl fun K hK => ?_
      simp only [h42] at hK ⊢
      go_simp
      exact hK _ _ ⟨_, rfl, Below.refl _ _, fun d hd => by cases hd; exact rfl⟩
    · intro x u hbu hd
      have h43 : x 43 = .bool false := hd 3 (by decide)
      refine wpOp_step rfl fun K hK => ?_
      simp only [h43] at hK ⊢
      go_simp
      exact hK _ _ ⟨_, rfl, Below.refl _ _, fun d hd => by cases hd; exact rfl⟩
    · intro x u hbu hd
      have h43 : x 43 = .bool false := hd 3 (by decide)
      refine wpOp_step rfl fun K hK => ?_
      simp only [h43] at hK ⊢
      go_simp
      exact hK _ _ ⟨_, rfl, Below.refl _ _, fun d hd => by cases hd; exact rfl⟩
    · intro x u hbu hd
      have h44 : x 44 = .slice Y N N := hd 4 (by decide)
      have h45 : x 45 = .slice A N c := hd 5 (by decide)
      have h43 : x 43 = .bool false := hd 3 (by decide)
      refine wpOp_step rfl fun K hK => ?_
      simp only [h44, h45, h43] at hK ⊢
      go_simp
      have l1 := hl.on hbu
      have l2 := hr.on hbu
      with_reducible refine (sameNums_true _ _ _ _ _ _ _ _ u l1 l2 (by omega) (by omega) rfl).mono ?_
      rintro e u' ⟨rfl, hb'⟩
      exact hK _ _ ⟨_, rfl, hb', fun d hd => by cases hd; exact rfl⟩
    · intro x u hbu hd
      have h46 : x 46 = .bool true := hd 6 (by decide)
      have h43 : x 43 = .bool false := hd 3 (by decide)
      refine wpOp_step rfl fun K hK => ?_
      simp only [h46, h43] at hK ⊢
      go_simp
      exact hK _ _ ⟨_, rfl, Below.refl _ _, fun d hd => by cases hd; exact rfl⟩
    · intro x u hbu hd
      have h43 : x 43 = .bool false := hd 3 (by decide)
      have h47 : x 47 = .bool false := hd 7 (by decide)
      refine wpOp_step rfl fun K hK => ?_
      simp only [h43, h47] at hK ⊢
      go_simp
      exact hK _ _ ⟨_, rfl, Below.refl _ _, fun d hd => by cases hd; exact rfl⟩
    · intro x u hbu hd
      have h48 : x 48 = .bool false := hd 8 (by decide)
      refine wpOp_step rfl fun K hK => ?_
      simp only [h48] at hK ⊢
      go_simp
      exact hK _ _ ⟨_, rfl, Below.refl _ _, fun d hd => by cases hd; exact rfl⟩
    · intro x u hbu hd
      have h49 : x 49 = .bool false := hd 9 (by decide)
      refine wpOp_step rfl fun K hK => ?_
      simp only [h49] at hK ⊢
      go_simp
      exact hK _ _ ⟨_, rfl, Below.refl _ _, fun d hd => by cases hd; exact rfl⟩
    · intro x u hbu hd
      have h49 : x 49 = .bool false := hd 9 (by decide)
      refine wpOp_step rfl fun K hK => ?_
      simp only [h49] at hK ⊢
      go_simp
      exact hK _ _ ⟨_, rfl, Below.refl _ _, fun d hd => by cases hd; exact rfl⟩
    · intro x u hbu hd
      have h49 : x 49 = .bool false := hd 9 (by decide)
      refine wpOp_step rfl fun K hK => ?_
      simp only [h49] at hK ⊢
      go_simp
      exact hK _ _ ⟨_, rfl, Below.refl _ _, fun d hd => by cases hd; exact rfl⟩
    · intro x u hbu hd
      have h52 : x 52 = .pointer (some ⟨w.heap.size, 0, none⟩) := hd 12 (by decide)
      have h49 : x 49 = .bool false := hd 9 (by decide)
      have hc := (hbu.cell (p := ⟨w.heap.size, 0, none⟩) hz).trans hc0
      refine wpOp_step rfl fun K hK => ?_
      simp only [h52, h49] at hK ⊢
      go_simp
      exact hK _ _ ⟨_, rfl, Below.refl _ _, fun d hd => by cases hd; exact rfl⟩
    · intro x u hbu hd
      have h49 : x 49 = .bool false := hd 9 (by decide)
      refine wpOp_step rfl fun K hK => ?_
      simp only [h49] at hK ⊢
      go_simp
      exact hK _ _ ⟨_, rfl, Below.refl _ _, fun d hd => by cases hd; exact rfl⟩
    · intro x u hbu hd
      have h54 : x 54 = .pointer (some ⟨w.heap.size, 1, none⟩) := hd 14 (by decide)
      have h49 : x 49 = .bool false := hd 9 (by decide)
      have hc := (hbu.cell (p := ⟨w.heap.size, 1, none⟩) hz).trans hc1
      refine wpOp_step rfl fun K hK => ?_
      simp only [h54, h49] at hK ⊢
      go_simp
      exact hK _ _ ⟨_, rfl, Below.refl _ _, fun d hd => by cases hd; exact rfl⟩
    · intro x u hbu hd
      have h50 : x 50 = .int .i64 n := hd 10 (by decide)
      have h51 : x 51 = .int .u8 d := hd 11 (by decide)
      have h53 : x 53 = .int .i64 p0 := hd 13 (by decide)
      have h55 : x 55 = .int .i64 p1 := hd 15 (by decide)
      have h49 : x 49 = .bool false := hd 9 (by decide)
      refine wpOp_step rfl fun K hK => ?_
      simp only [h50, h51, h53, h55, h49] at hK ⊢
      go_simp
      with_reducible refine (HP1.out u (hu.on hbu)).mono ?_
      rintro e u' ⟨rfl, hb'⟩
      exact hK _ _ ⟨_, rfl, hb', fun d hd => by cases hd; exact rfl⟩
    · intro x u hbu hd
      have h49 : x 49 = .bool false := hd 9 (by decide)
      refine wpOp_step rfl fun K hK => ?_
      simp only [h49] at hK ⊢
      go_simp
      exact hK _ _ ⟨_, rfl, Below.refl _ _, fun d hd => by cases hd; exact rfl⟩
    · intro x u hbu hd
      have h49 : x 49 = .bool false := hd 9 (by decide)
      refine wpOp_step rfl fun K hK => ?_
      simp only [h49] at hK ⊢
      go_simp
      exact hK _ _ ⟨_, rfl, Below.refl _ _, fun d hd => by cases hd; exact rfl⟩
    · intro x u hbu hd
      have h49 : x 49 = .bool false := hd 9 (by decide)
      refine wpOp_step rfl fun K hK => ?_
      simp only [h49] at hK ⊢
      go_simp
      exact hK _ _ ⟨_, rfl, Below.refl _ _, fun d hd => by cases hd; exact rfl⟩
    · intro x u hbu hd
      have h59 : x 59 = .pointer (some ⟨w.heap.size, 0, none⟩) := hd 19 (by decide)
      have h49 : x 49 = .bool false := hd 9 (by decide)
      have hc := (hbu.cell (p := ⟨w.heap.size, 0, none⟩) hz).trans hc0
      refine wpOp_step rfl fun K hK => ?_
      simp only [h59, h49] at hK ⊢
      go_simp
      exact hK _ _ ⟨_, rfl, Below.refl _ _, fun d hd => by cases hd; exact rfl⟩
    · intro x u hbu hd
      have h49 : x 49 = .bool false := hd 9 (by decide)
      refine wpOp_step rfl fun K hK => ?_
      simp only [h49] at hK ⊢
      go_simp
      exact hK _ _ ⟨_, rfl, Below.refl _ _, fun d hd => by cases hd; exact rfl⟩
    · intro x u hbu hd
      have h61 : x 61 = .pointer (some ⟨w.heap.size, 1, none⟩) := hd 21 (by decide)
      have h49 : x 49 = .bool false := hd 9 (by decide)
      have hc := (hbu.cell (p := ⟨w.heap.size, 1, none⟩) hz).trans hc1
      refine wpOp_step rfl fun K hK => ?_
      simp only [h61, h49] at hK ⊢
      go_simp
      exact hK _ _ ⟨_, rfl, Below.refl _ _, fun d hd => by cases hd; exact rfl⟩
    · intro x u hbu hd
      have h57 : x 57 = .int .i64 n := hd 17 (by decide)
      have h58 : x 58 = .int .u8 d := hd 18 (by decide)
      have h60 : x 60 = .int .i64 p0 := hd 20 (by decide)
      have h62 : x 62 = .int .i64 p1 := hd 22 (by decide)
      have h49 : x 49 = .bool false := hd 9 (by decide)
      refine wpOp_step rfl fun K hK => ?_
      simp only [h57, h58, h60, h62, h49] at hK ⊢
      go_simp
      with_reducible refine (HP2.out u).mono ?_
      rintro e u' ⟨rfl, rfl⟩
      exact hK _ _ ⟨_, rfl, Below.refl _ _, fun d hd => by cases hd; exact rfl⟩
    · intro x u hbu hd
      have h56 : x 56 = .int .i64 s1 := hd 16 (by decide)
      have h63 : x 63 = .int .i64 s1 := hd 23 (by decide)
      have h49 : x 49 = .bool false := hd 9 (by decide)
      refine wpOp_step rfl fun K hK => ?_
      simp only [h56, h63, h49] at hK ⊢
      go_simp
      exact hK _ _ ⟨_, rfl, Below.refl _ _, fun d hd => by cases hd; exact rfl⟩
    · intro x u hbu hd
      have h49 : x 49 = .bool false := hd 9 (by decide)
      have h64 : x 64 = .bool false := hd 24 (by decide)
      refine wpOp_step rfl fun K hK => ?_
      simp only [h49, h64] at hK ⊢
      go_simp
      exact hK _ _ ⟨_, rfl, Below.refl _ _, fun d hd => by cases hd; exact rfl⟩
  · intro x u hbu hall
    have h65 : x 65 = .bool false := hall 25 (by decide)
    simp only [Reg.frame, Reg.over, Nat.reduceAdd, Nat.reduceLeDiff, decide_true, decide_false, if_true, Bool.false_eq_true, if_false, h65]
    have HK4 := Lib.hid (HK3.out.on hbu)
    replace hu := hu.on hbu
    replace hB := below_then hB hbu
    replace hE2 := hE2.on hbu
    have hY := hl.on hbu
    clear hc0 hc1 hc2 hz hl hr hall hbu HK3
    have hc0 := HK4.out.cell 0
    have hc1 := HK4.out.cell 1
    have hc2 := HK4.out.cell 2
    simp only [List.getElem?_toArray, List.getElem?_cons_zero, List.getElem?_cons_succ] at hc0 hc1 hc2
    go_wp2_with fail
    with_reducible refine (HA.out _ hu).mono ?_
    rintro e w4 ⟨Z, rfl, hlz, hEz, b4⟩
    have hfar : 0 < N → 0 < N → Y ≠ Z := fun h0 _ => by
      obtain ⟨g, cs, e, _, hBk, _⟩ := hE2 h0
      dsimp only at e
      rw [e]
      exact hEz.far hBk.lt h0
    replace hu := hu.on b4
    have hE4 := hE2.on b4
    have hZ4 := hEz.mono (base' := w.heap.size) hB.size
    replace hB := below_then hB b4
    clear hE2 hEz b4 HA HK4 hc0 hc1 hc2 hlz hY HP1 HP2 h65
    go_wp2_with fail
    have hk := BookIs.empty (Blk.new w4 38 #[.slice none 0 0, .slice none 0 0, .slice none 0 0, .bool false]) hB.size
    replace hE4 := hE4.on (below_al (Below.refl _ _) (.cells #[.slice none 0 0, .slice none 0 0, .slice none 0 0, .bool false] 38))
    replace hZ4 := hZ4.on (below_al (Below.refl _ _) (.cells #[.slice none 0 0, .slice none 0 0, .slice none 0 0, .bool false] 38))
    replace hB := below_al hB (.cells #[.slice none 0 0, .slice none 0 0, .slice none 0 0, .bool false] 38)
    with_reducible refine (bookNums _ _ _ _ _ _ _ _ _ _ _ hk (by simp)).mono ?_
    rintro e w6 ⟨rfl, ⟨v', hk'⟩, hbb, hkk⟩
    replace hE4 := hE4.kept hkk (by decide)
    replace hZ4 := hZ4.kept hkk (by decide)
    replace hB := hB.trans hbb
    clear hkk hbb hk
    simp only [List.nil_append] at hk'
    go_wp2_with fail
    with_reducible refine (bookNums _ _ _ _ _ _ _ _ _ _ _ hk' (by simp)).mono ?_
    rintro e w7 ⟨rfl, ⟨v'', hk⟩, hbb, hkk⟩
    replace hE4 := hE4.kept hkk (by decide)
    replace hZ4 := hZ4.kept hkk (by decide)
    replace hB := hB.trans hbb
    clear hkk hbb hk'
    simp only [List.nil_append, List.cons_append] at hk
    have hent : Ents _ 3 w.heap.size [(Y, N), (Z, N)] := ents_cons hE4 (ents_cons hZ4 ents0)
    have hdist : Dist [(Y, N), (Z, N)] := dist2 hfar
    go_wp2_with fail
    with_reducible refine (apart_any _ _ _ _ _ _ _ _ _ hk (by simp) (by simp) (by simp) (by simp) (by simp; omega) (by simp) ents0 hent ents0 dist0 hdist dist0).mono ?_
    rintro e w8 ⟨rfl, hbb⟩
    replace hB := hB.trans hbb
    have hu8 := Hw.out.on hB
    clear hk hbb hent hdist hE4 hZ4 hu
    go_wp2_with fail
    with_reducible refine (lives_any _ hu8).mono ?_
    rintro e w9 ⟨rfl, b9⟩
    go_wp2_with fail
    go_ret
    exact ⟨rfl, below_then hB b9⟩
end Go.Proofs.YthjplgiinkijcaaDoor
