/-
  The law TracksVoid. Conditions: the tick's reading, lengths such as a list may have.
-/
import Derived.Test.YtclpdahjmjhlgaaTk17
namespace Go.Proofs.Ytclpdahjmjhlgaa
open Go.RowKit
set_option linter.unusedVariables false
set_option linter.unusedSimpArgs false

def tinN : Tin := ⟨fun _ => none, fun _ => 0, fun _ => 0, fun _ _ => rwN, rwN, 0⟩
set_option maxRecDepth 100000 in
theorem infoTick : (Try.prog.info? 56).map (fun i => (i.zero, i.size)) = some (some (.agg tinN.l.toArray), 62) := by kernel_rfl
theorem infoTick_parts : ∃ i, Try.prog.info? 56 = some i ∧ i.zero = some (.agg tinN.l.toArray) ∧ i.size = 62 := by
  have h := infoTick
  cases e : Try.prog.info? 56 with
  | none => rw [e] at h; cases h
  | some i =>
    rw [e] at h
    simp only [Option.map_some, Option.some.injEq, Prod.mk.injEq] at h
    exact ⟨i, rfl, h.1, h.2⟩
set_option maxRecDepth 100000 in
theorem zeroLane0 : ∃ Z : Array Value, Try.zeroCells88 = Z ∧ Z[0]? = some (.int .i64 0) := ⟨_, rfl, by kernel_rfl⟩
theorem Blk.same_ {u : World} {g x : Nat} {T : TypeId} {v : Value} (h : Blk u g T #[v]) : Blk (u.setCell ⟨x, 0, none⟩ v) g T #[v] := by
  by_cases e : g = x
  · subst e
    exact h.set_ 0 v
  · exact (But.one (u := u) (g := x) 0 v).blk h e
theorem set_same {u : World} {g : Nat} {T : TypeId} {v : Value} (h : Blk u g T #[v]) (k : Nat) : (u.setCell ⟨g, 0, none⟩ v).heap[k]? = u.heap[k]? := by
  by_cases e : k = g
  · subst e
    exact (Blk.set_ h 0 v).trans (Eq.symm h)
  · exact Below.heap_setCell u ⟨g, 0, none⟩ v k e
theorem Reg.KJ.same {B : Nat} {u : World} {g : Nat} {T : TypeId} {v : Value} (h : Blk u g T #[v]) : Reg.KJ B [] [] u (u.setCell ⟨g, 0, none⟩ v) :=
  ⟨⟨rfl, rfl, rfl, Nat.le_of_eq (by simp), fun k _ => set_same h k⟩, fun k _ _ => set_same h k, fun J hJ => by cases hJ⟩
def Reg.FactK.wz {B : Nat} (lo : Nat) : Reg.FactK (Reg.KJ B [] []) := ⟨fun v w => ∃ g, v = .pointer (some ⟨g, 0, none⟩) ∧ Blk w g 34 #[.slice none 0 0] ∧ lo ≤ g, fun _ _ _ hb h => by
  obtain ⟨g, e, q, l⟩ := h
  exact ⟨g, e, hb.blk (by simp) q, l⟩⟩
set_option maxRecDepth 100000 in
theorem elemLanes : Try.prog.underlying 89 = some (.slice (Try.prog.elem 89)) := by kernel_rfl
theorem idxLanes {h j n : Nat} (c : Nat) (hj : j < n) (w : World) :
    (Instr.indexAt 89 (.slice (some ⟨h, 0, none⟩) n c) (.int .i64 (j : Int))).run Try.prog w = .ok (.pointer (some ⟨h, j, none⟩)) w := by
  rw [run_indexAt_slice (h := elemLanes), if_pos (by omega), show (sizeOf (Try.prog.elem 89)).run Try.prog w = .ok 1 w by kernel_rfl]
  simp [Result.andThen, Addr.add_lit]
set_option maxRecDepth 100000 in
set_option maxHeartbeats 4000000 in
theorem tracksVoid_walk (xt : Tin) (w : World) (hX : TinR w w.heap.size xt) (hm : ∀ k, k < 4 → xt.m k ≤ 9223372036854775807) :
    Calls Try.prog 4 #[.agg xt.l.toArray] w fun e w' => e = .returned (.bool true) ∧ Below w.heap.size w w' := by
  obtain ⟨i0, hi0, hz0, hz1⟩ := infoTick_parts
  have HI := Lib.hid hi0
  have HZ0 := Lib.hid hz0
  have HZ1 := Lib.hid hz1
  have HX := Lib.hid hX
  have HM := Lib.hid hm
  clear hi0 hz0 hz1 hX hm
  go_enter Try.func4, Try.ntmps4
  go_upto_region 1 with fail
  refine wp_at (fun U => Blk U w.heap.size 56 xt.l.toArray ∧ Below w.heap.size w U) ⟨Blk.new w _ _, below_al (Below.refl _ w) _⟩ ?_
  rintro U ⟨h1, h2⟩
  have H1 := Lib.hid h1
  have HB := Lib.hid h2
  clear h1 h2
  obtain ⟨gx, hgx⟩ : ∃ gx, gx = w.heap.size := ⟨_, rfl⟩
  have HGX := Lib.hid hgx
  rw [← hgx] at H1 ⊢
  clear hgx
  have HBS : Hid (∀ u : World, (Instr.buildSlice 22 1 #[(0, .agg xt.l.toArray)]).run Try.prog u = .ok (.slice (some ⟨u.heap.size, 0, none⟩) 1 1) (u.alloc (.cells xt.l.toArray 56))) := Lib.hid (fun u => run_bsl_one (P := Try.prog) u 22 56 i0 tinN.l 62 elemTicks HI.out HZ0.out HZ1.out tinN.l_len (by decide) (by decide) xt.l xt.l_len)
  have HGR : Hid (Calls Try.prog 11 #[.slice (some ⟨U.heap.size, 0, none⟩) 1 1] (U.alloc (.cells xt.l.toArray 56)) fun e w' => RetB e ∧ Below U.heap.size U w') := Lib.hid ((great14_is _ 1 1 (fun _ => xt) _ ⟨Blk.liesF (by decide) (fun _ => xt.l_len) (by simpa [flL] using Blk.new U 56 xt.l.toArray), fun i hi => (HX.out.on HB.out).on (below_al (Below.refl _ U) _)⟩ (fun i hi => HM.out)).mono fun e w' h => ⟨h.1, (below_al (Below.refl _ U) _).trans (h.2.mono (by simp))⟩)
  go_upto_region 2 with (first
    | (refine wpList_load_mid rfl 56 (.tmp 1) rfl gx 0 (by simp [Act.eval, Act.put]) xt.l _ H1.out.pin.range Try.underlying56 rfl (by rw [size_tin, Tin.l_len]) ?_)
    | (refine wpList_bsl rfl 22 1 _ rfl #[(0, .agg xt.l.toArray)] (by simp [Act.eval, Act.put]) _ _ (HBS.out _) ?_))
  (with_reducible refine HGR.out.mono ?_)
  rintro e w2 ⟨⟨g0, rfl⟩, q1⟩
  have HB2 := Lib.hid (below_then HB.out q1)
  have H2 := Lib.hid (H1.out.on q1)
  have HLV : Hid (∀ u, Below w.heap.size w u → Calls Try.prog 12 #[] u fun e w' => e = .returned (.bool true) ∧ Below w.heap.size w w') := Lib.hid (fun u hu => (lives_tk u).mono fun e w' h => ⟨h.1, below_then hu h.2⟩)
  clear HGR HBS q1 HI HZ0 HZ1
  cases g0 with
  | true =>
    go_wp2_with (go_at_call 12; (with_reducible refine (HLV.out _ HB2.out).mono ?_); rintro e w3 ⟨rfl, q1⟩; have HB3 := Lib.hid q1; clear q1)
    go_ret
    exact ⟨rfl, HB3.out⟩
  | false =>
    obtain ⟨Z, hZ, hZ0⟩ := zeroLane0
    go_upto_region 5 with fail
    clear hZ
    refine wp_at (fun V => V.cell? ⟨w2.heap.size, 0, none⟩ = some (.int .i64 0) ∧ Blk V (w2.heap.size + 1) 25 #[.pointer none, .pointer (some ⟨w2.heap.size, 0, none⟩)] ∧ Blk V gx 56 xt.l.toArray ∧ Below w.heap.size w V) ⟨?_, ?_, (H2.out.alloc _).alloc _, below_al (below_al HB2.out _) _⟩ ?_
    · exact (((Blk.new w2 88 Z).alloc _).cell 0).trans hZ0
    · have := Blk.new (w2.alloc (.cells Z 88)) 25 #[.pointer none, .pointer (some ⟨w2.heap.size, 0, none⟩)]
      rwa [alloc_size] at this
    rintro V ⟨v1, v2, v3, v4⟩
    obtain ⟨gl, hgl⟩ : ∃ gl, gl = w2.heap.size := ⟨_, rfl⟩
    obtain ⟨gs, hgs⟩ : ∃ gs, gs = w2.heap.size + 1 := ⟨_, rfl⟩
    rw [← hgs] at v2
    rw [← hgl] at v1 v2
    have V1 := Lib.hid v1
    have V2 := Lib.hid v2
    have V3 := Lib.hid v3
    have V4 := Lib.hid v4
    clear v1 v2 v3 v4 hZ0 H2 HB2
    go_upto_region 6 with fail
    rw [← hgs, ← hgl]
    clear hgs hgl
    go_loopw [5] (fun sv wr => ∃ k : Nat, k ≤ 2 ∧ sv = .int .i64 (k : Int) ∧ Hid (Below V.heap.size V wr)) (fun sv _ => 2 - (intOf sv).toNat)
    case atStart => exact ⟨0, by omega, rfl, Lib.hid (Below.refl _ _)⟩
    case round =>
      obtain ⟨k, hk, rfl, HW⟩ := hrel
      by_cases hlt : k < 2
      · have hd : decide ((k : Int) < 2) = true := decide_eq_true (by omega)
        have hix := fun W => idxLanes (h := gs) (n := 2) 2 hlt W
        have HP : ∃ p : Option Addr, (#[Value.pointer none, .pointer (some ⟨gl, 0, none⟩)] : Array Value)[k]? = some (.pointer p) ∧ (∀ u, Below V.heap.size V u → ∀ a b c d, Calls Try.prog 17 #[.pointer p, .agg #[a, b, c, d]] u fun e w' => e = .returned (.slice none 0 0) ∧ Below u.heap.size u w') ∧ (∀ u, Below V.heap.size V u → Calls Try.prog 21 #[.pointer p, .agg xt.o.l.toArray] u fun e w' => e = .returned (.tuple #[.agg #[.slice none 0 0], .agg #[.slice none 0 0]]) ∧ Below u.heap.size u w') := by
          rcases (show k = 0 ∨ k = 1 by omega) with rfl | rfl
          · exact ⟨none, rfl, fun u hu a b c d => hear_nil a b c d u, fun u hu => say_nil _ (Rw.l_len _) u⟩
          · exact ⟨some ⟨gl, 0, none⟩, rfl, fun u hu a b c d => hear_zero gl a b c d u (belowW hu V1.out), fun u hu => say_zero gl _ (Rw.l_len _) u (belowW hu V1.out)⟩
        obtain ⟨p, hp, hh, hs⟩ := HP
        have HPC : Hid (∀ u, Below wr.heap.size wr u → u.cell? ⟨gs, k, none⟩ = some (.pointer p) ∧ gs < u.heap.size) := Lib.hid (fun u hu => by have h2 := (V2.out.on HW.out).on hu; exact ⟨(h2.cell k).trans hp, h2.lt⟩)
        have HXB : Hid (∀ u, Below wr.heap.size wr u → Blk u gx 56 xt.l.toArray) := Lib.hid (fun u hu => (V3.out.on HW.out).on hu)
        have HH := Lib.hid hh
        have HS := Lib.hid hs
        clear hp hh hs
        go_upto_region 8 with fail
        refine Reg.wp_slots2 (fun t => t == 6 || (decide (18 ≤ t) && decide (t ≤ 24))) (Reg.KJ wr.heap.size [] []) (Reg.KJ.drew _ (by simp)) Reg.KJ.trans (by kernel_rfl) (by kernel_rfl) (by kernel_rfl) (fun zz => (Reg.tblK [
          (18, .is (.slice (some ⟨gs, 0, none⟩) 2 2)),
          (19, .is (.int .i64 (k : Int))),
          (20, .is (.pointer (some ⟨gs, k, none⟩))),
          (21, .is (.pointer p)),
          (22, .is (.pointer (some ⟨gx, 0, none⟩))),
          (23, .is (.agg #[.slice (xt.A 0) (xt.m 0) (xt.c 0), .slice (xt.A 1) (xt.m 1) (xt.c 1), .slice (xt.A 2) (xt.m 2) (xt.c 2), .slice (xt.A 3) (xt.m 3) (xt.c 3)])),
          (24, .is (.slice none 0 0)),
          (6, .is (.slice none 0 0))] zz).P) (fun zz => (Reg.tblK _ zz).on) (fun zz => (Reg.memK [] zz).P) (fun zz => (Reg.memK _ zz).on) ?_ ?_
        · simp only [Reg.frame, Reg.over, Nat.reduceAdd, Nat.reduceBEq, Nat.reduceLeDiff, decide_true, decide_false, Bool.or_true, Bool.or_false, if_true, Bool.false_eq_true, if_false, Bool.and_true, Bool.and_false]
          refine ⟨?_, ?_, ?_, ?_, ?_, ?_, ?_, ?_, trivial⟩
          · intro x u hku hd
            refine wpOp_step rfl fun KK hK => ?_
            go_simp
            exact hK _ _ ⟨_, rfl, Reg.KJ.refl _, fun d hd => by cases hd; exact rfl, fun h => by cases h⟩
          · intro x u hku hd
            refine wpOp_step rfl fun KK hK => ?_
            go_simp
            exact hK _ _ ⟨_, rfl, Reg.KJ.refl _, fun d hd => by cases hd; exact rfl, fun h => by cases h⟩
          · intro x u hku hd
            have h18 : x 18 = .slice (some ⟨gs, 0, none⟩) 2 2 := hd 0 (by decide)
            have h19 : x 19 = .int .i64 (k : Int) := hd 1 (by decide)
            refine wpOp_step rfl fun KK hK => ?_
            simp only [h18, h19] at hK ⊢
            go_simp
            exact hK _ _ ⟨_, rfl, Reg.KJ.refl _, fun d hd => by cases hd; exact rfl, fun h => by cases h⟩
          · intro x u hku hd
            have h20 : x 20 = .pointer (some ⟨gs, k, none⟩) := hd 2 (by decide)
            obtain ⟨cp, lp⟩ := HPC.out u hku.belowT
            refine wpOp_step rfl fun KK hK => ?_
            simp only [h20] at hK ⊢
            go_simp
            exact hK _ _ ⟨_, rfl, Reg.KJ.refl _, fun d hd => by cases hd; exact rfl, fun h => by cases h⟩
          · intro x u hku hd
            have hx := HXB.out u hku.belowT
            have lx := hx.lt
            refine wpOp_step rfl fun KK hK => ?_
            go_simp
            exact hK _ _ ⟨_, rfl, Reg.KJ.refl _, fun d hd => by cases hd; exact rfl, fun h => by cases h⟩
          · intro x u hku hd
            have h22 : x 22 = .pointer (some ⟨gx, 0, none⟩) := hd 4 (by decide)
            have hx := HXB.out u hku.belowT
            have lx := hx.lt
            have cx0 : u.cell? ⟨gx, 0, none⟩ = some (.slice (xt.A 0) (xt.m 0) (xt.c 0)) := hx.cell 0
            have cx1 : u.cell? ⟨gx, 1, none⟩ = some (.slice (xt.A 1) (xt.m 1) (xt.c 1)) := hx.cell 1
            have cx2 : u.cell? ⟨gx, 2, none⟩ = some (.slice (xt.A 2) (xt.m 2) (xt.c 2)) := hx.cell 2
            have cx3 : u.cell? ⟨gx, 3, none⟩ = some (.slice (xt.A 3) (xt.m 3) (xt.c 3)) := hx.cell 3
            refine wpOp_step rfl fun KK hK => ?_
            simp only [h22] at hK ⊢
            go_simp
            exact hK _ _ ⟨_, rfl, Reg.KJ.refl _, fun d hd => by cases hd; exact rfl, fun h => by cases h⟩
          · intro x u hku hd
            have h21 : x 21 = .pointer p := hd 3 (by decide)
            have h23 : x 23 = .agg #[.slice (xt.A 0) (xt.m 0) (xt.c 0), .slice (xt.A 1) (xt.m 1) (xt.c 1), .slice (xt.A 2) (xt.m 2) (xt.c 2), .slice (xt.A 3) (xt.m 3) (xt.c 3)] := hd 5 (by decide)
            have hV : Below V.heap.size V u := below_then HW.out hku.belowT
            refine wpOp_step rfl fun KK hK => ?_
            simp only [h21, h23] at hK ⊢
            go_simp
            go_at_call 17
            (with_reducible refine (HH.out _ hV _ _ _ _).mono ?_)
            rintro e u' ⟨rfl, q1⟩
            exact hK _ _ ⟨_, rfl, Reg.KJ.grow (by simp) hku.size q1, fun d hd => by cases hd; exact rfl, fun h => by cases h⟩
          · intro x u hku hd
            have h24 : x 24 = .slice none 0 0 := hd 6 (by decide)
            refine wpOp_step rfl fun KK hK => ?_
            simp only [h24] at hK ⊢
            go_simp
            exact hK _ _ ⟨_, rfl, Reg.KJ.refl _, fun d hd => by cases hd; exact rfl, fun h => by cases h⟩
        · intro y V7 hku hall
          have e6 : y 6 = .slice none 0 0 := hall 7 (by decide)
          have H7 := Lib.hid hku.belowT
          clear hku hall
          simp only [Reg.frame, Reg.over, Nat.reduceAdd, Nat.reduceLeDiff, Nat.reduceBEq, Bool.or_true, Bool.or_false, decide_true, decide_false, if_true, Bool.false_eq_true, if_false, Bool.and_true, Bool.and_false, e6]
          go_wp2_with fail
          refine Reg.wp_slots2 (fun t => t == 7 || t == 8 || (decide (25 ≤ t) && decide (t ≤ 34))) (Reg.KJ V7.heap.size [] []) (Reg.KJ.drew _ (by simp)) Reg.KJ.trans (by kernel_rfl) (by kernel_rfl) (by kernel_rfl) (fun zz => (Reg.tblK [
            (26, .is (.slice (some ⟨gs, 0, none⟩) 2 2)),
            (27, .is (.int .i64 (k : Int))),
            (28, .is (.pointer (some ⟨gs, k, none⟩))),
            (29, .is (.pointer p)),
            (30, .is (.pointer (some ⟨gx, 4, none⟩))),
            (31, .is (.agg xt.o.l.toArray)),
            (32, .is (.tuple #[.agg #[.slice none 0 0], .agg #[.slice none 0 0]])),
            (25, .is (.tuple #[.agg #[.slice none 0 0], .agg #[.slice none 0 0]])),
            (33, .is (.agg #[.slice none 0 0])),
            (34, .is (.agg #[.slice none 0 0])),
            (7, .wz V7.heap.size),
            (8, .wz V7.heap.size)] zz).P) (fun zz => (Reg.tblK _ zz).on) (fun zz => (Reg.memK [] zz).P) (fun zz => (Reg.memK _ zz).on) ?_ ?_
          · simp only [Reg.frame, Reg.over, Nat.reduceAdd, Nat.reduceBEq, Nat.reduceLeDiff, decide_true, decide_false, Bool.or_true, Bool.or_false, if_true, Bool.false_eq_true, if_false, Bool.and_true, Bool.and_false]
            refine ⟨?_, ?_, ?_, ?_, ?_, ?_, ?_, ?_, ?_, ?_, ?_, ?_, ?_, ?_, trivial⟩
            · intro x u hku hd
              refine wpOp_step rfl fun KK hK => ?_
              go_simp
              exact hK _ _ ⟨_, rfl, Reg.KJ.refl _, fun d hd => by cases hd; exact rfl, fun h => by cases h⟩
            · intro x u hku hd
              refine wpOp_step rfl fun KK hK => ?_
              go_simp
              exact hK _ _ ⟨_, rfl, Reg.KJ.refl _, fun d hd => by cases hd; exact rfl, fun h => by cases h⟩
            · intro x u hku hd
              have h26 : x 26 = .slice (some ⟨gs, 0, none⟩) 2 2 := hd 0 (by decide)
              have h27 : x 27 = .int .i64 (k : Int) := hd 1 (by decide)
              refine wpOp_step rfl fun KK hK => ?_
              simp only [h26, h27] at hK ⊢
              go_simp
              exact hK _ _ ⟨_, rfl, Reg.KJ.refl _, fun d hd => by cases hd; exact rfl, fun h => by cases h⟩
            · intro x u hku hd
              have h28 : x 28 = .pointer (some ⟨gs, k, none⟩) := hd 2 (by decide)
              obtain ⟨cp, lp⟩ := HPC.out u (below_then H7.out hku.belowT)
              refine wpOp_step rfl fun KK hK => ?_
              simp only [h28] at hK ⊢
              go_simp
              exact hK _ _ ⟨_, rfl, Reg.KJ.refl _, fun d hd => by cases hd; exact rfl, fun h => by cases h⟩
            · intro x u hku hd
              have hx := HXB.out u (below_then H7.out hku.belowT)
              have lx := hx.lt
              refine wpOp_step rfl fun KK hK => ?_
              go_simp
              exact hK _ _ ⟨_, rfl, Reg.KJ.refl _, fun d hd => by cases hd; exact rfl, fun h => by cases h⟩
            · intro x u hku hd
              have h30 : x 30 = .pointer (some ⟨gx, 4, none⟩) := hd 4 (by decide)
              have hx := HXB.out u (below_then H7.out hku.belowT)
              have lx := hx.lt
              have hro : u.rangeAt gx 4 xt.o.l := fun j v hv => by have := rangeAt_drop (A := [.slice (xt.A 0) (xt.m 0) (xt.c 0), .slice (xt.A 1) (xt.m 1) (xt.c 1), .slice (xt.A 2) (xt.m 2) (xt.c 2), .slice (xt.A 3) (xt.m 3) (xt.c 3)]) hx.pin.range j v (by rw [List.getElem?_append_left (List.getElem?_eq_some_iff.1 hv).1]; exact hv); exact this
              refine wpOp_step rfl fun KK hK => ?_
              refine Reg.step_load_mid (by rfl) 54 (.tmp 30) (by rfl) gx 4 (by exact h30) xt.o.l hro _ Try.underlying54 rfl (by rw [size_row, Rw.l_len]) ?_
              exact hK _ _ ⟨_, rfl, Reg.KJ.refl _, fun d hd => by cases hd; exact rfl, fun h => by cases h⟩
            · intro x u hku hd
              have h29 : x 29 = .pointer p := hd 3 (by decide)
              have h31 : x 31 = .agg xt.o.l.toArray := hd 5 (by decide)
              have hV : Below V.heap.size V u := below_then (below_then HW.out H7.out) hku.belowT
              refine wpOp_step rfl fun KK hK => ?_
              simp only [h29, h31] at hK ⊢
              go_simp
              go_at_call 21
              (with_reducible refine (HS.out _ hV).mono ?_)
              rintro e u' ⟨rfl, q1⟩
              exact hK _ _ ⟨_, rfl, Reg.KJ.grow (by simp) hku.size q1, fun d hd => by cases hd; exact rfl, fun h => by cases h⟩
            · intro x u hku hd
              have h32 : x 32 = .tuple #[.agg #[.slice none 0 0], .agg #[.slice none 0 0]] := hd 6 (by decide)
              refine wpOp_step rfl fun KK hK => ?_
              simp only [h32] at hK ⊢
              go_simp
              exact hK _ _ ⟨_, rfl, Reg.KJ.refl _, fun d hd => by cases hd; exact rfl, fun h => by cases h⟩
            · intro x u hku hd
              have h25 : x 25 = .tuple #[.agg #[.slice none 0 0], .agg #[.slice none 0 0]] := hd 7 (by decide)
              refine wpOp_step rfl fun KK hK => ?_
              simp only [h25] at hK ⊢
              go_simp
              exact hK _ _ ⟨_, rfl, Reg.KJ.refl _, fun d hd => by cases hd; exact rfl, fun h => by cases h⟩
            · intro x u hku hd
              have h25 : x 25 = .tuple #[.agg #[.slice none 0 0], .agg #[.slice none 0 0]] := hd 7 (by decide)
              refine wpOp_step rfl fun KK hK => ?_
              simp only [h25] at hK ⊢
              go_simp
              exact hK _ _ ⟨_, rfl, Reg.KJ.refl _, fun d hd => by cases hd; exact rfl, fun h => by cases h⟩
            · intro x u hku hd
              refine wpOp_step rfl fun KK hK => ?_
              go_simp
              exact hK _ _ ⟨_, rfl, Reg.KJ.grow (by simp) hku.size (below_al (Below.refl _ _) _), fun d hd => by cases hd; exact ⟨u.heap.size, rfl, Blk.new u _ _, hku.size⟩, fun h => by cases h⟩
            · intro x u hku hd
              refine wpOp_step rfl fun KK hK => ?_
              go_simp
              exact hK _ _ ⟨_, rfl, Reg.KJ.grow (by simp) hku.size (below_al (Below.refl _ _) _), fun d hd => by cases hd; exact ⟨u.heap.size, rfl, Blk.new u _ _, hku.size⟩, fun h => by cases h⟩
            · intro x u hku hd
              have k7 : (Reg.FactK.wz V7.heap.size : Reg.FactK (Reg.KJ V7.heap.size [] [])).P (x 7) u := hd 10 (by decide)
              obtain ⟨g7, h7, q7, l7⟩ := k7
              have h33 : x 33 = .agg #[.slice none 0 0] := hd 8 (by decide)
              have c7 := q7.cell 0
              have f7 := q7.frozen 0
              have l7' := q7.lt
              refine wpOp_step rfl fun KK hK => ?_
              simp only [h7, h33] at hK ⊢
              go_simp
              exact hK _ _ ⟨.int .i64 0, rfl, Reg.KJ.same q7, (fun d hd => by cases hd), fun _ => trivial⟩
            · intro x u hku hd
              have k8 : (Reg.FactK.wz V7.heap.size : Reg.FactK (Reg.KJ V7.heap.size [] [])).P (x 8) u := hd 11 (by decide)
              obtain ⟨g8, h8, q8, l8⟩ := k8
              have h34 : x 34 = .agg #[.slice none 0 0] := hd 9 (by decide)
              have c7 := q8.cell 0
              have f7 := q8.frozen 0
              have l7' := q8.lt
              refine wpOp_step rfl fun KK hK => ?_
              simp only [h8, h34] at hK ⊢
              go_simp
              exact hK _ _ ⟨.int .i64 0, rfl, Reg.KJ.same q8, (fun d hd => by cases hd), fun _ => trivial⟩
          · intro z V8 hku hall
            have k7 := hall 10 (by decide)
            have k8 := hall 11 (by decide)
            obtain ⟨g7, h7, q7, l7⟩ := k7
            obtain ⟨g8, h8, q8, l8⟩ := k8
            have e7 : z 7 = .pointer (some ⟨g7, 0, none⟩) := h7
            have e8 : z 8 = .pointer (some ⟨g8, 0, none⟩) := h8
            have H8 := Lib.hid (below_then HW.out (below_then H7.out hku.belowT))
            have c7 := q7.cell 0
            have lt7 := q7.lt
            have c8 := q8.cell 0
            have lt8 := q8.lt
            clear hku hall h7 h8 q7 q8 l7 l8
            simp only [Reg.frame, Reg.over, Nat.reduceAdd, Nat.reduceLeDiff, Nat.reduceBEq, Bool.or_true, Bool.or_false, decide_true, decide_false, if_true, Bool.false_eq_true, if_false, Bool.and_true, Bool.and_false, e7, e8]
            go_wp2_with fail
            go_roundw
            case rel => exact ⟨k + 1, by omega, by go_num, H8⟩
            case measure => simp [intOf]; omega
      · obtain rfl : k = 2 := by omega
        go_wp2_with (go_at_call 12; (with_reducible refine (HLV.out _ (below_then V4.out HW.out)).mono ?_); rintro e w3 ⟨rfl, q1⟩; have HB3 := Lib.hid q1; clear q1)
        go_ret
        exact ⟨rfl, HB3.out⟩
end Go.Proofs.Ytclpdahjmjhlgaa

