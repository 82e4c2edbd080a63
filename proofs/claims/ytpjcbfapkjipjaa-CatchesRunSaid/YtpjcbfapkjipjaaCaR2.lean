/-
  The contracts of the reference's frame, whole, High, Unlike. Conditions: the catch's reading; 112, 113, 114 pairs.
-/
import Derived.Test.YtpjcbfapkjipjaaCaR1
namespace Go.Proofs.Ytpjcbfapkjipjaa
open Go.RowKit Crc
set_option linter.unusedVariables false

section
variable {w w' : World} {g base n m c d : Nat} {o : Int} {x y : Nat → Int} {A B : Option Addr}
theorem rbytes_all (A : Option Addr) (n c : Nat) (xs : List Int) (w : World) (hx : Lies .u8 w w.heap.size A n xs) (hn : n ≤ 65536) (hc : n ≤ c) (L : List Int) (hL : bytesP xs = L) (m : Nat) (hm : L.length = m) (r : Bool) (hr : bytesOk xs = r) :
    Calls Try.prog 42 #[.slice A n c] w fun e w' => ∃ A' c', e = .returned (.tuple #[.slice A' m c', .bool r]) ∧ Lies .u8 w' w'.heap.size A' m L ∧ m ≤ c' ∧ Below w.heap.size w w' := by
  subst hL hm hr
  have hl := hx.len
  cases h : bytesOk xs with
  | true =>
    refine (refBytes_owns A n c xs w hx hn hc h).mono fun e w' ⟨A', c', h1, h2, h3⟩ => ?_
    have e1 : (bytesP xs).length = n / 8 := by rw [bytesP_yes h, bytesL_length, hl]
    rw [e1, bytesP_yes h]
    exact ⟨A', c', h1, lies_of_owns h2, owns_cap h2, h3⟩
  | false =>
    refine (refBytes_no A n c xs w hx hn h).mono fun e w' ⟨h1, h2⟩ => ?_
    subst h2
    rw [bytesP_no h]
    exact ⟨none, 0, h1, Lies.nil_, Nat.le_refl _, Below.refl _ _⟩
theorem fnL_bo (n : Nat) : fnL (bo x y) (n + 1) = fnL (bo x y) n ++ [bo x y n] := fnL_succ _ _
set_option maxRecDepth 100000 in
set_option maxHeartbeats 8000000 in
theorem rFrame_is (h : RC w g base o x y n m A c B d) (hn : 112 ≤ n) (hm : 112 ≤ m) (r : Bool) (hr : isB o (bodyW x y) = r) (F : Fr) (hF : getF (bytesP (bodyW x y)) = F) :
    Calls Try.prog 33 #[.pointer (some ⟨g, 0, none⟩)] w fun e w' => e = .returned (.tuple #[.agg #[.int .i64 F.o, .int .u8 F.k, .int .u8 F.s, .int .u32 F.q, .int .u32 F.v], .bool r]) ∧ Below w.heap.size w w' := by
  obtain ⟨i0, hi0, hz0, hz1, hz2⟩ := info_parts infoSyms
  have HX := Lib.hid h
  have hbd := bytesP_bd (bodyW x y)
  have hbl : (bodyW x y).length = 112 := bodyW_length
  have HBW := Lib.hid (show fnL (bo x y) 112 = bodyW x y from rfl)
  rw [isB] at hr
  obtain ⟨L, hL⟩ : ∃ L, bytesP (bodyW x y) = L := ⟨_, rfl⟩
  obtain ⟨mm, hmm⟩ : ∃ mm, L.length = mm := ⟨_, rfl⟩
  obtain ⟨okb, hok⟩ : ∃ okb, bytesOk (bodyW x y) = okb := ⟨_, rfl⟩
  have HBY := Lib.hid (fun u A' c' (hu : Lies .u8 u u.heap.size A' 112 (bodyW x y)) hc => rbytes_all A' 112 c' (bodyW x y) u hu (by omega) hc L hL mm hmm okb hok)
  rw [hL] at hbd hr hF
  have HGT := Lib.hid (fun u A' c' (hu : Lies .u8 u u.heap.size A' mm L) hc => refGet_any A' mm c' L u hu hbd hc)
  have hE : okb = false → getE L = 4 := fun q => by
    subst q
    rw [bytesP_no hok] at hL
    subst hL
    rfl
  rw [hF] at HGT
  rw [hF] at hr
  obtain ⟨E, hEE⟩ : ∃ E, getE L = E := ⟨_, rfl⟩
  rw [hEE] at HGT hr hE
  have hR := Blk.new w 46 #[.int .i64 0, .int .u8 0, .int .u8 0, .int .u32 0, .int .u32 0]
  have hb := below_al (Below.refl w.heap.size w) (.cells #[.int .i64 0, .int .u8 0, .int .u8 0, .int .u32 0, .int .u32 0] 46)
  clear h hbd hbl hL hmm hok hF hEE
  go_enter Try.func33, Try.ntmps33
  go_wp2_with fail
  go_loopw [4, 5] (fun v iv wr => ∃ (i : Nat) (A' : Option Addr) (c' : Nat), i ≤ 112 ∧ iv = .int .i64 i ∧ v = .slice A' i c' ∧ wr.ownsRow w.heap.size 31 1 (.slice A' i c') i ((fnL (bo x y) i).map (Value.int .u8)) ∧ Blk wr w.heap.size 46 #[.int .i64 0, .int .u8 0, .int .u8 0, .int .u32 0, .int .u32 0] ∧ Below w.heap.size w wr) (fun _ iv _ => 112 - (intOf iv).toNat)
  case atStart => exact ⟨0, none, 0, Nat.zero_le _, rfl, rfl, owns_none, hR, hb⟩
  case round =>
    clear hR hb
    obtain ⟨i, A', c', hi, rfl, rfl, hown, hR, hb⟩ := hrel
    have hH := HX.out.on hb
    obtain ⟨c0, c1, c2, cl⟩ := hH.cs
    by_cases hlt : i < 112
    · have hlti : (i : Int) < 112 := by omega
      have hltn : (i : Int) < (n : Int) := by omega
      have HB := Lib.hid (rBody_is hH i (by omega) (by omega) _ rfl)
      obtain ⟨z, hz⟩ : ∃ z, z = bo x y i := ⟨_, rfl⟩
      have HZ := Lib.hid hz
      rw [← hz] at HB
      clear hz hH
      have hown5 := hown.alloc (.cells #[.int .u8 z] 31)
      have hcu : (wr.alloc (.cells #[.int .u8 z] 31)).cell? ⟨wr.heap.size, 0, none⟩ = some (.int .u8 z) := by simp
      go_wp2_with (first
        | (go_at_call 31; (with_reducible refine HB.out.mono ?_); rintro e w1 ⟨rfl, rfl⟩)
        | (at_builtin; with_reducible refine wpList_append_one rfl (.tmp 23) (.tmp 27) 22 rfl w.heap.size 31 i0 _ 1 Try.underlying22 hi0 hz0 hz1 hz2 rfl (.slice A' i c') i _ rfl hown5 wr.heap.size (.int .u8 z) rfl hcu rfl (by unfold maxLen; omega) (by omega) (Nat.le_trans hb.size (by simp)) ?_))
      intro A2 c2' w5 hown6 hg5
      have hb5 := (below_al hb (.cells #[.int .u8 z] 31)).grown hg5 (Nat.le_trans hb.size (by simp)) (fun r hr => (hown.lt r hr).1)
      have hkk := KeptBut.grown hown5 hg5
      have hR5 : Blk w5 w.heap.size 46 #[.int .i64 0, .int .u8 0, .int .u8 0, .int .u32 0, .int .u32 0] := hkk _ _ _ (by decide) (Blk.alloc hR _)
      have hown7 : w5.ownsRow w.heap.size 31 1 (.slice A2 (i + 1) c2') (i + 1) ((fnL (bo x y) (i + 1)).map (Value.int .u8)) := by
        rw [fnL_bo, List.map_append, ← HZ.out]
        exact hown6
      clear hown hown5 hown6 hg5 hcu hR hkk c0 c1 c2 cl
      go_wp2_with fail
      go_roundw
      case rel => exact ⟨i + 1, A2, c2', by omega, by go_num, rfl, hown7, hR5, hb5⟩
      case measure => simp [intOf]; omega
    · have hlti : (112 : Int) ≤ (i : Int) := by omega
      obtain rfl : i = 112 := by omega
      rw [HBW.out] at hown
      have hl := lies_of_owns hown
      have hcp := owns_cap hown
      clear hlt hi hi0 hz0 hz1 hz2 hown c0 c1 c2 cl hH
      go_wp2_with (first
        | (go_at_call 42; (with_reducible refine (HBY.out _ _ _ hl hcp).mono ?_); rintro e w2 ⟨A2, c2, rfl, hl2, hcp2, b2⟩)
        | (go_at_call 43; (with_reducible refine (HGT.out _ _ _ hl2 hcp2).mono ?_); rintro e w3 ⟨rfl, b3⟩; have hR3 := (hR.on b2).on b3; have hlt1 := hR3.lt; have x0 := hR3.cell 0; have x1 := hR3.cell 1; have x2 := hR3.cell 2; have x3 := hR3.cell 3; have x4 := hR3.cell 4; have y0 := hR3.frozen 0; have y1 := hR3.frozen 1; have y2 := hR3.frozen 2; have y3 := hR3.frozen 3; have y4 := hR3.frozen 4; simp only [List.getElem?_toArray, List.getElem?_cons_zero, List.getElem?_cons_succ] at x0 x1 x2 x3 x4; have hN3 := Blk.new w3 46 #[.int .i64 F.o, .int .u8 F.k, .int .u8 F.s, .int .u32 F.q, .int .u32 F.v]; have hlt2 := hN3.lt; have p0 := hN3.cell 0; have p1 := hN3.cell 1; have p2 := hN3.cell 2; have p3 := hN3.cell 3; have p4 := hN3.cell 4; have q0 := hN3.frozen 0; have q1 := hN3.frozen 1; have q2 := hN3.frozen 2; have q3 := hN3.frozen 3; have q4 := hN3.frozen 4; simp only [List.getElem?_toArray, List.getElem?_cons_zero, List.getElem?_cons_succ] at p0 p1 p2 p3 p4; have hH3 := ((HX.out.on hb).on b2).on b3; obtain ⟨c0, c1, c2, cl⟩ := hH3.cs; have hb3 := below_then (below_then hb b2) b3))
      have HBC := Lib.hid (hH3.blk.alloc (.cells #[.int .i64 F.o, .int .u8 F.k, .int .u8 F.s, .int .u32 F.q, .int .u32 F.v] 46))
      have HG := Lib.hid (show g ≠ w.heap.size from Nat.ne_of_lt HX.out.blk.lt)
      have HJ5 := Lib.hid (show has5 w.heap.size 46 (w3.alloc (.cells #[.int .i64 F.o, .int .u8 F.k, .int .u8 F.s, .int .u32 F.q, .int .u32 F.v] 46)) from ⟨_, _, _, _, _, hR3.alloc _⟩)
      have H8 := Lib.hid (show w3.heap.size ≠ w.heap.size from Nat.ne_of_gt hlt1)
      have HB8 := Lib.hid hN3
      have HBW := Lib.hid (below_al hb3 (.cells #[.int .i64 F.o, .int .u8 F.k, .int .u8 F.s, .int .u32 F.q, .int .u32 F.v] 46))
      have HJ := Lib.hid (show ∀ J ∈ [has5 w.heap.size 46, is5 w.heap.size 46 F], ∀ u u' : World, Below u.heap.size u u' → J u → J u' by
        simp only [List.forall_mem_cons]
        exact ⟨fun u u' k ⟨v0, v1, v2, v3, v4, hB⟩ => ⟨v0, v1, v2, v3, v4, hB.on k⟩, fun u u' k h => Blk.on h k, fun _ h => by cases h⟩)
      obtain ⟨g8, hg8⟩ : ∃ g8, g8 = w3.heap.size := ⟨_, rfl⟩
      obtain ⟨W3, hW3⟩ : ∃ W3, W3 = w3.alloc (.cells #[.int .i64 F.o, .int .u8 F.k, .int .u8 F.s, .int .u32 F.q, .int .u32 F.v] 46) := ⟨_, rfl⟩
      rw [← hg8] at H8 HB8 ⊢
      rw [← hW3] at HBC HJ5 HB8 HBW ⊢
      clear hg8 hW3 hb3 hH3 hR3 hN3 hl2 hcp2 b2 b3 hR hb hl hcp c0 c1 c2 cl x0 x1 x2 x3 x4 y0 y1 y2 y3 y4 p0 p1 p2 p3 p4 q0 q1 q2 q3 q4 hlt1 hlt2
      cases okb with
      | false =>
        have he := hE rfl
        subst he
        have hr : false = r := hr
        subst hr
        refine Reg.wp_slots2 (fun t => t == 3 || decide (39 ≤ t)) (Reg.KJ w.heap.size [w.heap.size] [has5 w.heap.size 46, is5 w.heap.size 46 F]) (Reg.KJ.drew _ HJ.out) Reg.KJ.trans (by kernel_rfl) (by kernel_rfl) (by kernel_rfl) (fun zz => (Reg.tblK [
          (39, .is (.agg #[.int .i64 F.o, .int .u8 F.k, .int .u8 F.s, .int .u32 F.q, .int .u32 F.v])),
          (40, .is (.bool false)),
          (41, .is (.bool false)),
          (42, .is (undef)),
          (43, .is (undef)),
          (44, .is (.bool false)),
          (45, .is (.bool false)),
          (46, .is (undef)),
          (47, .is (undef)),
          (48, .is (undef)),
          (49, .is (undef)),
          (50, .is (undef)),
          (51, .is (undef)),
          (52, .is (undef)),
          (53, .is (.bool false)),
          (3, .is (.bool false))] zz).P) (fun zz => (Reg.tblK _ zz).on) (fun zz => (Reg.memK [(15, .j (is5 w.heap.size 46 F) (by simp))] zz).P) (fun zz => (Reg.memK _ zz).on) ?_ ?_
        · simp only [Reg.frame, Reg.over, Nat.reduceAdd, Nat.reduceBEq, Nat.reduceLeDiff, decide_true, decide_false, Bool.or_true, Bool.or_false, if_true, Bool.false_eq_true, if_false]
          refine ⟨?_, ?_, ?_, ?_, ?_, ?_, ?_, ?_, ?_, ?_, ?_, ?_, ?_, ?_, ?_, ?_, ?_, trivial⟩
          · intro x u hku hd
            have hB := hku.blk (by simp only [List.mem_singleton]; exact H8.out) HB8.out
            have c0 := hB.cell 0
            have c1 := hB.cell 1
            have c2 := hB.cell 2
            have c3 := hB.cell 3
            have c4 := hB.cell 4
            simp only [List.getElem?_toArray, List.getElem?_cons_zero, List.getElem?_cons_succ] at c0 c1 c2 c3 c4
            have hlt := hB.lt
            refine wpOp_step rfl fun KK hK => ?_
            go_simp
            exact hK _ _ ⟨_, rfl, Reg.KJ.refl _, fun d hd => by cases hd; exact rfl, fun h => by cases h⟩
          · intro x u hku hd
            refine wpOp_step rfl fun KK hK => ?_
            go_simp
            exact hK _ _ ⟨_, rfl, Reg.KJ.refl _, fun d hd => by cases hd; exact rfl, fun h => by cases h⟩
          · intro x u hku hd
            have h40 : x 40 = .bool false := hd 1 (by decide)
            refine wpOp_step rfl fun KK hK => ?_
            simp only [h40] at hK ⊢
            go_simp
            exact hK _ _ ⟨_, rfl, Reg.KJ.refl _, fun d hd => by cases hd; exact rfl, fun h => by cases h⟩
          · intro x u hku hd
            have h41 : x 41 = .bool false := hd 2 (by decide)
            refine wpOp_step rfl fun KK hK => ?_
            simp only [h41] at hK ⊢
            go_simp
            exact hK _ _ ⟨_, rfl, Reg.KJ.refl _, fun d hd => by cases hd; exact rfl, fun h => by cases h⟩
          · intro x u hku hd
            have h42 : x 42 = undef := hd 3 (by decide)
            have h41 : x 41 = .bool false := hd 2 (by decide)
            refine wpOp_step rfl fun KK hK => ?_
            simp only [h42, h41] at hK ⊢
            go_simp
            exact hK _ _ ⟨_, rfl, Reg.KJ.refl _, fun d hd => by cases hd; exact rfl, fun h => by cases h⟩
          · intro x u hku hd
            have h41 : x 41 = .bool false := hd 2 (by decide)
            have h43 : x 43 = undef := hd 4 (by decide)
            refine wpOp_step rfl fun KK hK => ?_
            simp only [h41, h43] at hK ⊢
            go_simp
            exact hK _ _ ⟨_, rfl, Reg.KJ.refl _, fun d hd => by cases hd; exact rfl, fun h => by cases h⟩
          · intro x u hku hd
            have h44 : x 44 = .bool false := hd 5 (by decide)
            refine wpOp_step rfl fun KK hK => ?_
            simp only [h44] at hK ⊢
            go_simp
            exact hK _ _ ⟨_, rfl, Reg.KJ.refl _, fun d hd => by cases hd; exact rfl, fun h => by cases h⟩
          · intro x u hku hd
            have h45 : x 45 = .bool false := hd 6 (by decide)
            refine wpOp_step rfl fun KK hK => ?_
            simp only [h45] at hK ⊢
            go_simp
            exact hK _ _ ⟨_, rfl, Reg.KJ.refl _, fun d hd => by cases hd; exact rfl, fun h => by cases h⟩
          · intro x u hku hd
            have h46 : x 46 = undef := hd 7 (by decide)
            have h45 : x 45 = .bool false := hd 6 (by decide)
            refine wpOp_step rfl fun KK hK => ?_
            simp only [h46, h45] at hK ⊢
            go_simp
            exact hK _ _ ⟨_, rfl, Reg.KJ.refl _, fun d hd => by cases hd; exact rfl, fun h => by cases h⟩
          · intro x u hku hd
            have h45 : x 45 = .bool false := hd 6 (by decide)
            refine wpOp_step rfl fun KK hK => ?_
            simp only [h45] at hK ⊢
            go_simp
            exact hK _ _ ⟨_, rfl, Reg.KJ.refl _, fun d hd => by cases hd; exact rfl, fun h => by cases h⟩
          · intro x u hku hd
            have h48 : x 48 = undef := hd 9 (by decide)
            have h45 : x 45 = .bool false := hd 6 (by decide)
            refine wpOp_step rfl fun KK hK => ?_
            simp only [h48, h45] at hK ⊢
            go_simp
            exact hK _ _ ⟨_, rfl, Reg.KJ.refl _, fun d hd => by cases hd; exact rfl, fun h => by cases h⟩
          · intro x u hku hd
            have h49 : x 49 = undef := hd 10 (by decide)
            have h45 : x 45 = .bool false := hd 6 (by decide)
            refine wpOp_step rfl fun KK hK => ?_
            simp only [h49, h45] at hK ⊢
            go_simp
            exact hK _ _ ⟨_, rfl, Reg.KJ.refl _, fun d hd => by cases hd; exact rfl, fun h => by cases h⟩
          · intro x u hku hd
            have h50 : x 50 = undef := hd 11 (by decide)
            have h45 : x 45 = .bool false := hd 6 (by decide)
            refine wpOp_step rfl fun KK hK => ?_
            simp only [h50, h45] at hK ⊢
            go_simp
            exact hK _ _ ⟨_, rfl, Reg.KJ.refl _, fun d hd => by cases hd; exact rfl, fun h => by cases h⟩
          · intro x u hku hd
            have h47 : x 47 = undef := hd 8 (by decide)
            have h51 : x 51 = undef := hd 12 (by decide)
            have h45 : x 45 = .bool false := hd 6 (by decide)
            refine wpOp_step rfl fun KK hK => ?_
            simp only [h47, h51, h45] at hK ⊢
            go_simp
            exact hK _ _ ⟨_, rfl, Reg.KJ.refl _, fun d hd => by cases hd; exact rfl, fun h => by cases h⟩
          · intro x u hku hd
            have h45 : x 45 = .bool false := hd 6 (by decide)
            have h52 : x 52 = undef := hd 13 (by decide)
            refine wpOp_step rfl fun KK hK => ?_
            simp only [h45, h52] at hK ⊢
            go_simp
            exact hK _ _ ⟨_, rfl, Reg.KJ.refl _, fun d hd => by cases hd; exact rfl, fun h => by cases h⟩
          · intro x u hku hd
            have h39 : x 39 = .agg #[.int .i64 F.o, .int .u8 F.k, .int .u8 F.s, .int .u32 F.q, .int .u32 F.v] := hd 0 (by decide)
            obtain ⟨v0, v1, v2, v3, v4, hB⟩ := hku.j (has5 w.heap.size 46) (by simp) HJ5.out
            have c0 := hB.cell 0
            have f0 := hB.frozen 0
            have c1 := hB.cell 1
            have f1 := hB.frozen 1
            have c2 := hB.cell 2
            have f2 := hB.frozen 2
            have c3 := hB.cell 3
            have f3 := hB.frozen 3
            have c4 := hB.cell 4
            have f4 := hB.frozen 4
            simp only [List.getElem?_toArray, List.getElem?_cons_zero, List.getElem?_cons_succ] at c0 c1 c2 c3 c4
            have hlt := hB.lt
            have HFIN := Lib.hid (hB.five F)
            clear hB
            refine wpOp_step rfl fun KK hK => ?_
            simp only [h39] at hK ⊢
            go_simp
            exact hK _ _ ⟨undef, rfl, Reg.KJ.five (Nat.le_refl _) (by simp) (by simp only [List.forall_mem_cons]; exact ⟨fun _ => HFIN.out.has, fun _ => HFIN.out, fun _ h => by cases h⟩), fun d hd => (by cases hd), fun _ => HFIN.out⟩
          · intro x u hku hd
            have h53 : x 53 = .bool false := hd 14 (by decide)
            refine wpOp_step rfl fun KK hK => ?_
            simp only [h53] at hK ⊢
            go_simp
            exact hK _ _ ⟨_, rfl, Reg.KJ.refl _, fun d hd => by cases hd; exact rfl, fun h => by cases h⟩
        · intro x u hku hall
          have h3 : x 3 = .bool false := hall 16 (by decide)
          have m5 : is5 w.heap.size 46 F u := hall 15 (by decide)
          have c0 := m5.cell 0
          have c1 := m5.cell 1
          have c2 := m5.cell 2
          have c3 := m5.cell 3
          have c4 := m5.cell 4
          simp only [List.getElem?_toArray, List.getElem?_cons_zero, List.getElem?_cons_succ] at c0 c1 c2 c3 c4
          simp only [Reg.frame, Reg.over, Nat.reduceAdd, Nat.reduceBEq, Nat.reduceLeDiff, decide_true, decide_false, Bool.or_true, Bool.or_false, if_true, Bool.false_eq_true, if_false, h3]
          go_wp2_with fail
          refine bodyPost_ret (v := .tuple #[.agg #[.int .i64 F.o, .int .u8 F.k, .int .u8 F.s, .int .u32 F.q, .int .u32 F.v], .bool false]) (by simp [results, Try.results33, go_sem, c0, c1, c2, c3, c4]) rfl ⟨rfl, ?_⟩
          exact HBW.out.trans hku.1
      | true =>
        by_cases e0 : E = 0
        · subst e0
          rw [beq_self_eq_true, Bool.true_and] at hr
          refine Reg.wp_slots2 (fun t => t == 3 || decide (39 ≤ t)) (Reg.KJ w.heap.size [w.heap.size] [has5 w.heap.size 46, is5 w.heap.size 46 F]) (Reg.KJ.drew _ HJ.out) Reg.KJ.trans (by kernel_rfl) (by kernel_rfl) (by kernel_rfl) (fun zz => (Reg.tblK [
            (39, .is (.agg #[.int .i64 F.o, .int .u8 F.k, .int .u8 F.s, .int .u32 F.q, .int .u32 F.v])),
            (40, .is (.bool true)),
            (41, .is (.bool true)),
            (42, .is (.int .i64 0)),
            (43, .is (.bool true)),
            (44, .is (.bool true)),
            (45, .is (.bool true)),
            (46, .is (.pointer (some ⟨g8, 0, none⟩))),
            (47, .is (.int .i64 F.o)),
            (48, .is (.pointer (some ⟨g, 0, none⟩))),
            (49, .is (.pointer (some ⟨g, 0, none⟩))),
            (50, .is (.pointer (some ⟨g, 0, none⟩))),
            (51, .is (.int .i64 o)),
            (52, .is (.bool r)),
            (53, .is (.bool r)),
            (3, .is (.bool r))] zz).P) (fun zz => (Reg.tblK _ zz).on) (fun zz => (Reg.memK [(15, .j (is5 w.heap.size 46 F) (by simp))] zz).P) (fun zz => (Reg.memK _ zz).on) ?_ ?_
          · simp only [Reg.frame, Reg.over, Nat.reduceAdd, Nat.reduceBEq, Nat.reduceLeDiff, decide_true, decide_false, Bool.or_true, Bool.or_false, if_true, Bool.false_eq_true, if_false]
            refine ⟨?_, ?_, ?_, ?_, ?_, ?_, ?_, ?_, ?_, ?_, ?_, ?_, ?_, ?_, ?_, ?_, ?_, trivial⟩
            · intro x u hku hd
              have hB := hku.blk (by simp only [List.mem_singleton]; exact H8.out) HB8.out
              have c0 := hB.cell 0
              have c1 := hB.cell 1
              have c2 := hB.cell 2
              have c3 := hB.cell 3
              have c4 := hB.cell 4
              simp only [List.getElem?_toArray, List.getElem?_cons_zero, List.getElem?_cons_succ] at c0 c1 c2 c3 c4
              have hlt := hB.lt
              refine wpOp_step rfl fun KK hK => ?_
              go_simp
              exact hK _ _ ⟨_, rfl, Reg.KJ.refl _, fun d hd => by cases hd; exact rfl, fun h => by cases h⟩
            · intro x u hku hd
              refine wpOp_step rfl fun KK hK => ?_
              go_simp
              exact hK _ _ ⟨_, rfl, Reg.KJ.refl _, fun d hd => by cases hd; exact rfl, fun h => by cases h⟩
            · intro x u hku hd
              have h40 : x 40 = .bool true := hd 1 (by decide)
              refine wpOp_step rfl fun KK hK => ?_
              simp only [h40] at hK ⊢
              go_simp
              exact hK _ _ ⟨_, rfl, Reg.KJ.refl _, fun d hd => by cases hd; exact rfl, fun h => by cases h⟩
            · intro x u hku hd
              have h41 : x 41 = .bool true := hd 2 (by decide)
              refine wpOp_step rfl fun KK hK => ?_
              simp only [h41] at hK ⊢
              go_simp
              exact hK _ _ ⟨_, rfl, Reg.KJ.refl _, fun d hd => by cases hd; exact rfl, fun h => by cases h⟩
            · intro x u hku hd
              have h42 : x 42 = .int .i64 0 := hd 3 (by decide)
              have h41 : x 41 = .bool true := hd 2 (by decide)
              refine wpOp_step rfl fun KK hK => ?_
              simp only [h42, h41] at hK ⊢
              go_simp
              exact hK _ _ ⟨_, rfl, Reg.KJ.refl _, fun d hd => by cases hd; exact rfl, fun h => by cases h⟩
            · intro x u hku hd
              have h41 : x 41 = .bool true := hd 2 (by decide)
              have h43 : x 43 = .bool true := hd 4 (by decide)
              refine wpOp_step rfl fun KK hK => ?_
              simp only [h41, h43] at hK ⊢
              go_simp
              exact hK _ _ ⟨_, rfl, Reg.KJ.refl _, fun d hd => by cases hd; exact rfl, fun h => by cases h⟩
            · intro x u hku hd
              have h44 : x 44 = .bool true := hd 5 (by decide)
              refine wpOp_step rfl fun KK hK => ?_
              simp only [h44] at hK ⊢
              go_simp
              exact hK _ _ ⟨_, rfl, Reg.KJ.refl _, fun d hd => by cases hd; exact rfl, fun h => by cases h⟩
            · intro x u hku hd
              have h45 : x 45 = .bool true := hd 6 (by decide)
              refine wpOp_step rfl fun KK hK => ?_
              simp only [h45] at hK ⊢
              go_simp
              exact hK _ _ ⟨_, rfl, Reg.KJ.refl _, fun d hd => by cases hd; exact rfl, fun h => by cases h⟩
            · intro x u hku hd
              have h46 : x 46 = .pointer (some ⟨g8, 0, none⟩) := hd 7 (by decide)
              have h45 : x 45 = .bool true := hd 6 (by decide)
              have hB := hku.blk (by simp only [List.mem_singleton]; exact H8.out) HB8.out
              have c0 := hB.cell 0
              have c1 := hB.cell 1
              have c2 := hB.cell 2
              have c3 := hB.cell 3
              have c4 := hB.cell 4
              simp only [List.getElem?_toArray, List.getElem?_cons_zero, List.getElem?_cons_succ] at c0 c1 c2 c3 c4
              have hlt := hB.lt
              refine wpOp_step rfl fun KK hK => ?_
              simp only [h46, h45] at hK ⊢
              go_simp
              exact hK _ _ ⟨_, rfl, Reg.KJ.refl _, fun d hd => by cases hd; exact rfl, fun h => by cases h⟩
            · intro x u hku hd
              have h45 : x 45 = .bool true := hd 6 (by decide)
              refine wpOp_step rfl fun KK hK => ?_
              simp only [h45] at hK ⊢
              go_simp
              exact hK _ _ ⟨_, rfl, Reg.KJ.refl _, fun d hd => by cases hd; exact rfl, fun h => by cases h⟩
            · intro x u hku hd
              have h48 : x 48 = .pointer (some ⟨g, 0, none⟩) := hd 9 (by decide)
              have h45 : x 45 = .bool true := hd 6 (by decide)
              refine wpOp_step rfl fun KK hK => ?_
              simp only [h48, h45] at hK ⊢
              go_simp
              exact hK _ _ ⟨_, rfl, Reg.KJ.refl _, fun d hd => by cases hd; exact rfl, fun h => by cases h⟩
            · intro x u hku hd
              have h49 : x 49 = .pointer (some ⟨g, 0, none⟩) := hd 10 (by decide)
              have h45 : x 45 = .bool true := hd 6 (by decide)
              refine wpOp_step rfl fun KK hK => ?_
              simp only [h49, h45] at hK ⊢
              go_simp
              exact hK _ _ ⟨_, rfl, Reg.KJ.refl _, fun d hd => by cases hd; exact rfl, fun h => by cases h⟩
            · intro x u hku hd
              have h50 : x 50 = .pointer (some ⟨g, 0, none⟩) := hd 11 (by decide)
              have h45 : x 45 = .bool true := hd 6 (by decide)
              have hB := hku.blk (by simp only [List.mem_singleton]; exact HG.out) HBC.out
              have c0 := (hB.cell 0).trans (show _ = some (Value.int .i64 o) from rfl)
              have hlt := hB.lt
              refine wpOp_step rfl fun KK hK => ?_
              simp only [h50, h45] at hK ⊢
              go_simp
              exact hK _ _ ⟨_, rfl, Reg.KJ.refl _, fun d hd => by cases hd; exact rfl, fun h => by cases h⟩
            · intro x u hku hd
              have h47 : x 47 = .int .i64 F.o := hd 8 (by decide)
              have h51 : x 51 = .int .i64 o := hd 12 (by decide)
              have h45 : x 45 = .bool true := hd 6 (by decide)
              refine wpOp_step rfl fun KK hK => ?_
              simp only [h47, h51, h45] at hK ⊢
              go_simp
              exact hK _ _ ⟨_, rfl, Reg.KJ.refl _, fun d hd => by cases hd; exact rfl, fun h => by cases h⟩
            · intro x u hku hd
              have h45 : x 45 = .bool true := hd 6 (by decide)
              have h52 : x 52 = .bool r := hd 13 (by decide)
              refine wpOp_step rfl fun KK hK => ?_
              simp only [h45, h52] at hK ⊢
              go_simp
              exact hK _ _ ⟨_, rfl, Reg.KJ.refl _, fun d hd => by cases hd; exact rfl, fun h => by cases h⟩
            · intro x u hku hd
              have h39 : x 39 = .agg #[.int .i64 F.o, .int .u8 F.k, .int .u8 F.s, .int .u32 F.q, .int .u32 F.v] := hd 0 (by decide)
              obtain ⟨v0, v1, v2, v3, v4, hB⟩ := hku.j (has5 w.heap.size 46) (by simp) HJ5.out
              have c0 := hB.cell 0
              have f0 := hB.frozen 0
              have c1 := hB.cell 1
              have f1 := hB.frozen 1
              have c2 := hB.cell 2
              have f2 := hB.frozen 2
              have c3 := hB.cell 3
              have f3 := hB.frozen 3
              have c4 := hB.cell 4
              have f4 := hB.frozen 4
              simp only [List.getElem?_toArray, List.getElem?_cons_zero, List.getElem?_cons_succ] at c0 c1 c2 c3 c4
              have hlt := hB.lt
              have HFIN := Lib.hid (hB.five F)
              clear hB
              refine wpOp_step rfl fun KK hK => ?_
              simp only [h39] at hK ⊢
              go_simp
              exact hK _ _ ⟨undef, rfl, Reg.KJ.five (Nat.le_refl _) (by simp) (by simp only [List.forall_mem_cons]; exact ⟨fun _ => HFIN.out.has, fun _ => HFIN.out, fun _ h => by cases h⟩), fun d hd => (by cases hd), fun _ => HFIN.out⟩
            · intro x u hku hd
              have h53 : x 53 = .bool r := hd 14 (by decide)
              refine wpOp_step rfl fun KK hK => ?_
              simp only [h53] at hK ⊢
              go_simp
              exact hK _ _ ⟨_, rfl, Reg.KJ.refl _, fun d hd => by cases hd; exact rfl, fun h => by cases h⟩
          · intro x u hku hall
            have h3 : x 3 = .bool r := hall 16 (by decide)
            have m5 : is5 w.heap.size 46 F u := hall 15 (by decide)
            have c0 := m5.cell 0
            have c1 := m5.cell 1
            have c2 := m5.cell 2
            have c3 := m5.cell 3
            have c4 := m5.cell 4
            simp only [List.getElem?_toArray, List.getElem?_cons_zero, List.getElem?_cons_succ] at c0 c1 c2 c3 c4
            simp only [Reg.frame, Reg.over, Nat.reduceAdd, Nat.reduceBEq, Nat.reduceLeDiff, decide_true, decide_false, Bool.or_true, Bool.or_false, if_true, Bool.false_eq_true, if_false, h3]
            go_wp2_with fail
            refine bodyPost_ret (v := .tuple #[.agg #[.int .i64 F.o, .int .u8 F.k, .int .u8 F.s, .int .u32 F.q, .int .u32 F.v], .bool r]) (by simp [results, Try.results33, go_sem, c0, c1, c2, c3, c4]) rfl ⟨rfl, ?_⟩
            exact HBW.out.trans hku.1
        · have q1 : (E == 0) = false := beq_eq_false_iff_ne.2 e0
          rw [q1, Bool.false_and] at hr
          subst hr
          clear e0
          refine Reg.wp_slots2 (fun t => t == 3 || decide (39 ≤ t)) (Reg.KJ w.heap.size [w.heap.size] [has5 w.heap.size 46, is5 w.heap.size 46 F]) (Reg.KJ.drew _ HJ.out) Reg.KJ.trans (by kernel_rfl) (by kernel_rfl) (by kernel_rfl) (fun zz => (Reg.tblK [
            (39, .is (.agg #[.int .i64 F.o, .int .u8 F.k, .int .u8 F.s, .int .u32 F.q, .int .u32 F.v])),
            (40, .is (.bool true)),
            (41, .is (.bool true)),
            (42, .is (.int .i64 E)),
            (43, .is (.bool false)),
            (44, .is (.bool false)),
            (45, .is (.bool false)),
            (46, .is (undef)),
            (47, .is (undef)),
            (48, .is (undef)),
            (49, .is (undef)),
            (50, .is (undef)),
            (51, .is (undef)),
            (52, .is (undef)),
            (53, .is (.bool false)),
            (3, .is (.bool false))] zz).P) (fun zz => (Reg.tblK _ zz).on) (fun zz => (Reg.memK [(15, .j (is5 w.heap.size 46 F) (by simp))] zz).P) (fun zz => (Reg.memK _ zz).on) ?_ ?_
          · simp only [Reg.frame, Reg.over, Nat.reduceAdd, Nat.reduceBEq, Nat.reduceLeDiff, decide_true, decide_false, Bool.or_true, Bool.or_false, if_true, Bool.false_eq_true, if_false]
            refine ⟨?_, ?_, ?_, ?_, ?_, ?_, ?_, ?_, ?_, ?_, ?_, ?_, ?_, ?_, ?_, ?_, ?_, trivial⟩
            · intro x u hku hd
              have hB := hku.blk (by simp only [List.mem_singleton]; exact H8.out) HB8.out
              have c0 := hB.cell 0
              have c1 := hB.cell 1
              have c2 := hB.cell 2
              have c3 := hB.cell 3
              have c4 := hB.cell 4
              simp only [List.getElem?_toArray, List.getElem?_cons_zero, List.getElem?_cons_succ] at c0 c1 c2 c3 c4
              have hlt := hB.lt
              refine wpOp_step rfl fun KK hK => ?_
              go_simp
              exact hK _ _ ⟨_, rfl, Reg.KJ.refl _, fun d hd => by cases hd; exact rfl, fun h => by cases h⟩
            · intro x u hku hd
              refine wpOp_step rfl fun KK hK => ?_
              go_simp
              exact hK _ _ ⟨_, rfl, Reg.KJ.refl _, fun d hd => by cases hd; exact rfl, fun h => by cases h⟩
            · intro x u hku hd
              have h40 : x 40 = .bool true := hd 1 (by decide)
              refine wpOp_step rfl fun KK hK => ?_
              simp only [h40] at hK ⊢
              go_simp
              exact hK _ _ ⟨_, rfl, Reg.KJ.refl _, fun d hd => by cases hd; exact rfl, fun h => by cases h⟩
            · intro x u hku hd
              have h41 : x 41 = .bool true := hd 2 (by decide)
              refine wpOp_step rfl fun KK hK => ?_
              simp only [h41] at hK ⊢
              go_simp
              exact hK _ _ ⟨_, rfl, Reg.KJ.refl _, fun d hd => by cases hd; exact rfl, fun h => by cases h⟩
            · intro x u hku hd
              have h42 : x 42 = .int .i64 E := hd 3 (by decide)
              have h41 : x 41 = .bool true := hd 2 (by decide)
              refine wpOp_step rfl fun KK hK => ?_
              simp only [h42, h41] at hK ⊢
              go_simp
              exact hK _ _ ⟨_, rfl, Reg.KJ.refl _, fun d hd => by cases hd; exact rfl, fun h => by cases h⟩
            · intro x u hku hd
              have h41 : x 41 = .bool true := hd 2 (by decide)
              have h43 : x 43 = .bool false := hd 4 (by decide)
              refine wpOp_step rfl fun KK hK => ?_
              simp only [h41, h43] at hK ⊢
              go_simp
              exact hK _ _ ⟨_, rfl, Reg.KJ.refl _, fun d hd => by cases hd; exact rfl, fun h => by cases h⟩
            · intro x u hku hd
              have h44 : x 44 = .bool false := hd 5 (by decide)
              refine wpOp_step rfl fun KK hK => ?_
              simp only [h44] at hK ⊢
              go_simp
              exact hK _ _ ⟨_, rfl, Reg.KJ.refl _, fun d hd => by cases hd; exact rfl, fun h => by cases h⟩
            · intro x u hku hd
              have h45 : x 45 = .bool false := hd 6 (by decide)
              refine wpOp_step rfl fun KK hK => ?_
              simp only [h45] at hK ⊢
              go_simp
              exact hK _ _ ⟨_, rfl, Reg.KJ.refl _, fun d hd => by cases hd; exact rfl, fun h => by cases h⟩
            · intro x u hku hd
              have h46 : x 46 = undef := hd 7 (by decide)
              have h45 : x 45 = .bool false := hd 6 (by decide)
              refine wpOp_step rfl fun KK hK => ?_
              simp only [h46, h45] at hK ⊢
              go_simp
              exact hK _ _ ⟨_, rfl, Reg.KJ.refl _, fun d hd => by cases hd; exact rfl, fun h => by cases h⟩
            · intro x u hku hd
              have h45 : x 45 = .bool false := hd 6 (by decide)
              refine wpOp_step rfl fun KK hK => ?_
              simp only [h45] at hK ⊢
              go_simp
              exact hK _ _ ⟨_, rfl, Reg.KJ.refl _, fun d hd => by cases hd; exact rfl, fun h => by cases h⟩
            · intro x u hku hd
              have h48 : x 48 = undef := hd 9 (by decide)
              have h45 : x 45 = .bool false := hd 6 (by decide)
              refine wpOp_step rfl fun KK hK => ?_
              simp only [h48, h45] at hK ⊢
              go_simp
              exact hK _ _ ⟨_, rfl, Reg.KJ.refl _, fun d hd => by cases hd; exact rfl, fun h => by cases h⟩
            · intro x u hku hd
              have h49 : x 49 = undef := hd 10 (by decide)
              have h45 : x 45 = .bool false := hd 6 (by decide)
              refine wpOp_step rfl fun KK hK => ?_
              simp only [h49, h45] at hK ⊢
              go_simp
              exact hK _ _ ⟨_, rfl, Reg.KJ.refl _, fun d hd => by cases hd; exact rfl, fun h => by cases h⟩
            · intro x u hku hd
              have h50 : x 50 = undef := hd 11 (by decide)
              have h45 : x 45 = .bool false := hd 6 (by decide)
              refine wpOp_step rfl fun KK hK => ?_
              simp only [h50, h45] at hK ⊢
              go_simp
              exact hK _ _ ⟨_, rfl, Reg.KJ.refl _, fun d hd => by cases hd; exact rfl, fun h => by cases h⟩
            · intro x u hku hd
              have h47 : x 47 = undef := hd 8 (by decide)
              have h51 : x 51 = undef := hd 12 (by decide)
              have h45 : x 45 = .bool false := hd 6 (by decide)
              refine wpOp_step rfl fun KK hK => ?_
              simp only [h47, h51, h45] at hK ⊢
              go_simp
              exact hK _ _ ⟨_, rfl, Reg.KJ.refl _, fun d hd => by cases hd; exact rfl, fun h => by cases h⟩
            · intro x u hku hd
              have h45 : x 45 = .bool false := hd 6 (by decide)
              have h52 : x 52 = undef := hd 13 (by decide)
              refine wpOp_step rfl fun KK hK => ?_
              simp only [h45, h52] at hK ⊢
              go_simp
              exact hK _ _ ⟨_, rfl, Reg.KJ.refl _, fun d hd => by cases hd; exact rfl, fun h => by cases h⟩
            · intro x u hku hd
              have h39 : x 39 = .agg #[.int .i64 F.o, .int .u8 F.k, .int .u8 F.s, .int .u32 F.q, .int .u32 F.v] := hd 0 (by decide)
              obtain ⟨v0, v1, v2, v3, v4, hB⟩ := hku.j (has5 w.heap.size 46) (by simp) HJ5.out
              have c0 := hB.cell 0
              have f0 := hB.frozen 0
              have c1 := hB.cell 1
              have f1 := hB.frozen 1
              have c2 := hB.cell 2
              have f2 := hB.frozen 2
              have c3 := hB.cell 3
              have f3 := hB.frozen 3
              have c4 := hB.cell 4
              have f4 := hB.frozen 4
              simp only [List.getElem?_toArray, List.getElem?_cons_zero, List.getElem?_cons_succ] at c0 c1 c2 c3 c4
              have hlt := hB.lt
              have HFIN := Lib.hid (hB.five F)
              clear hB
              refine wpOp_step rfl fun KK hK => ?_
              simp only [h39] at hK ⊢
              go_simp
              exact hK _ _ ⟨undef, rfl, Reg.KJ.five (Nat.le_refl _) (by simp) (by simp only [List.forall_mem_cons]; exact ⟨fun _ => HFIN.out.has, fun _ => HFIN.out, fun _ h => by cases h⟩), fun d hd => (by cases hd), fun _ => HFIN.out⟩
            · intro x u hku hd
              have h53 : x 53 = .bool false := hd 14 (by decide)
              refine wpOp_step rfl fun KK hK => ?_
              simp only [h53] at hK ⊢
              go_simp
              exact hK _ _ ⟨_, rfl, Reg.KJ.refl _, fun d hd => by cases hd; exact rfl, fun h => by cases h⟩
          · intro x u hku hall
            have h3 : x 3 = .bool false := hall 16 (by decide)
            have m5 : is5 w.heap.size 46 F u := hall 15 (by decide)
            have c0 := m5.cell 0
            have c1 := m5.cell 1
            have c2 := m5.cell 2
            have c3 := m5.cell 3
            have c4 := m5.cell 4
            simp only [List.getElem?_toArray, List.getElem?_cons_zero, List.getElem?_cons_succ] at c0 c1 c2 c3 c4
            simp only [Reg.frame, Reg.over, Nat.reduceAdd, Nat.reduceBEq, Nat.reduceLeDiff, decide_true, decide_false, Bool.or_true, Bool.or_false, if_true, Bool.false_eq_true, if_false, h3]
            go_wp2_with fail
            refine bodyPost_ret (v := .tuple #[.agg #[.int .i64 F.o, .int .u8 F.k, .int .u8 F.s, .int .u32 F.q, .int .u32 F.v], .bool false]) (by simp [results, Try.results33, go_sem, c0, c1, c2, c3, c4]) rfl ⟨rfl, ?_⟩
            exact HBW.out.trans hku.1
end
end Go.Proofs.Ytpjcbfapkjipjaa

