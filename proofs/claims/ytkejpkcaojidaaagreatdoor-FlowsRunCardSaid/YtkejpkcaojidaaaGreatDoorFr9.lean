/-
  Words of reading symbols (the frame, the tail, what is wrong first), and the contract of frames.Read. Conditions: the slice's reading, a length of at most 65536 within the capacity.
-/
import Derived.Test.YtkejpkcaojidaaaGreatDoorFr6
import Derived.Test.YtkejpkcaojidaaaGreatDoorReg2
import Derived.Deep.RegionLaw
namespace Go.Proofs.YtkejpkcaojidaaaGreatDoor
set_option linter.unusedVariables false
set_option linter.unusedSimpArgs false
open Go.RowKit Crc

/-- The block g of the symbols to be: the first of them are X; all are there. -/
def symsIn (g : Nat) (X : List Int) (u : World) : Prop := ∃ Y : List Int, Y.length = 114 ∧ Y.take 112 = X ∧ Blk u g 47 (cellsOf .u8 Y)
def symsDone (g : Nat) (X : List Int) (a b : Bool) (u : World) : Prop := Blk u g 47 (cellsOf .u8 (X ++ tailL a b))
theorem symsDone.in_ {g : Nat} {X : List Int} {a b : Bool} {u : World} (h : symsDone g X a b u) (hX : X.length = 112) : symsIn g X u :=
  ⟨X ++ tailL a b, by simp [hX, tailL], by rw [List.take_append_of_le_length (by omega), List.take_of_length_le (by omega)], h⟩
theorem splice_tail (Y X T : List Int) (hY : Y.length = 114) (hX : Y.take 112 = X) (hT : T.length = 2) : splice (Y.map (Value.int .u8)) 112 (T.map (Value.int .u8)) = (X ++ T).map (Value.int .u8) := by
  simp only [splice, List.length_map, hT, ← List.map_take, ← List.map_drop, ← List.map_append, hX]
  rw [List.drop_of_length_le (by omega), List.append_nil]
theorem splice_head (X : List Int) (hX : X.length = 112) : splice ((List.replicate 114 (0 : Int)).map (Value.int .u8)) 0 (X.map (Value.int .u8)) = (X ++ [0, 0]).map (Value.int .u8) := by
  simp only [splice, List.length_map, hX, ← List.map_take, ← List.map_drop, ← List.map_append]
  rfl

theorem frSyms_no (f : Fr) (a b : Bool) (w : World) (hm : mayB f.o f.k = false) :
    Calls Tryz.prog 117 #[.agg #[.int .i64 f.o, .int .u8 f.k, .int .u8 f.s, .int .u32 f.q, .int .u32 f.v], .agg #[.bool a, .bool b]] w fun e w' => e = .returned (.tuple #[.slice none 0 0, .int .i64 1]) ∧ Below w.heap.size w w' := by
  have HP := Lib.hid (fun u => frPut_no f u hm)
  clear hm
  go_enter Tryz.func117, Tryz.ntmps117
  go_wp2_with (go_at_call 128; (with_reducible refine (HP.out _).mono ?_); rintro e w1 ⟨rfl, hb1⟩)
  go_ret2
  exact ⟨rfl, below_then (below_al (below_al (Below.refl _ _) _) _) hb1⟩

set_option maxRecDepth 100000 in
set_option maxHeartbeats 4000000 in
theorem frSyms_yes (f : Fr) (a b : Bool) (w : World) (hf : f.Fit) (hm : mayB f.o f.k = true) :
    Calls Tryz.prog 117 #[.agg #[.int .i64 f.o, .int .u8 f.k, .int .u8 f.s, .int .u32 f.q, .int .u32 f.v], .agg #[.bool a, .bool b]] w fun e w' => ∃ g, e = .returned (.tuple #[.slice (some ⟨g, 0, none⟩) 114 114, .int .i64 0]) ∧ w.heap.size ≤ g ∧ Blk w' g 47 (cellsOf .u8 (ofL (putL f.body) ++ tailL a b)) ∧ Below w.heap.size w w' := by
  have HP := Lib.hid (fun u => frPut_yes f u hf hm)
  have HPB := Lib.hid (putL_bd _ (Fr.body_bd hf hm))
  have HPL := Lib.hid (show (putL f.body).length = 14 by rw [putL_length]; rfl)
  obtain ⟨L, hL⟩ : ∃ L, L = putL f.body := ⟨_, rfl⟩
  rw [← hL] at HP HPB HPL ⊢
  have HXL := Lib.hid (show (ofL L).length = 112 by rw [ofL_length, HPL.out])
  have HO := Lib.hid (fun u g (h : Lies .u8 u u.heap.size (some ⟨g, 0, none⟩) 14 L) => of_any (some ⟨g, 0, none⟩) 14 14 L u h HPB.out (by omega))
  obtain ⟨X, hX⟩ : ∃ X, X = ofL L := ⟨_, rfl⟩
  rw [← hX] at HO HXL ⊢
  have hmk := fun u => makeSyms 114 (by omega) (by omega) u
  rw [show (114 : Int).toNat = 114 from rfl, cellsOf_made] at hmk
  obtain ⟨Z, hZ⟩ : ∃ Z, Z = List.replicate 114 (0 : Int) := ⟨_, rfl⟩
  rw [← hZ] at hmk
  have HZR := Lib.hid hZ
  have hT := Blk.new (w.alloc (.cells #[.int .i64 f.o, .int .u8 f.k, .int .u8 f.s, .int .u32 f.q, .int .u32 f.v] 112)) 114 #[.bool a, .bool b]
  rw [alloc_size] at hT
  have HT := Lib.hid hT
  simp only [show 8 * 14 = 112 from rfl] at HO
  clear hf hm hL hX hT hZ
  go_enter Tryz.func117, Tryz.ntmps117
  go_wp2_with (go_at_call 128; (with_reducible refine (HP.out _).mono ?_); rintro e w1 ⟨g1, rfl, hg1, hB1, hb1⟩)
  have hB1' := hB1.alloc (.cells (cellsOf .u8 Z) 47)
  with_reducible refine (HO.out _ g1 (hB1'.lies HPL.out)).mono ?_
  rintro e w2 ⟨g2, rfl, hg2, hB2, hb2⟩
  have hO := (Blk.new w1 47 (cellsOf .u8 Z)).on hb2
  have hbw := below_then (below_al (below_then (below_al (below_al (Below.refl _ _) _) _) hb1) _) hb2
  obtain ⟨g0, hg0⟩ : ∃ g0, g0 = w1.heap.size := ⟨_, rfl⟩
  rw [← hg0] at hO ⊢
  have HG0 := Lib.hid (show w.heap.size ≤ g0 by have := hb1.size; simp at this; omega)
  have HTW := Lib.hid (((HT.out.on hb1).alloc (.cells (cellsOf .u8 Z) 47)).on hb2)
  have HTG := Lib.hid (show w.heap.size + 1 < g0 by rw [hg0]; exact (HT.out.on hb1).lt)
  clear hmk hB1 hB1' hb1 hb2 hg2 hg1 hg0
  have HO2 := Lib.hid hO
  have HSR := Lib.hid (fun h => (hB2.lies (n := 112) HXL.out).src h)
  have HBW := Lib.hid hbw
  obtain ⟨cs, hcs⟩ : ∃ cs, cs = X.map (Value.int .u8) := ⟨_, rfl⟩
  obtain ⟨zs, hzs⟩ : ∃ zs, zs = Z.map (Value.int .u8) := ⟨_, rfl⟩
  rw [← hcs] at HSR
  have HCS := Lib.hid hcs
  have HZS := Lib.hid hzs
  have HCL := Lib.hid (show cs.length = 112 by rw [hcs, List.length_map, HXL.out])
  have HZL := Lib.hid (show zs.length = 114 by rw [hzs, List.length_map, HZR.out]; rfl)
  clear hbw hO hB2 hcs hzs HO HP
  go_wp2_with (with_reducible refine wpList_copy_splice rfl (.tmp 18) (.tmp 20) 126 126 rfl 47 Tryz.underlying126 szSyms (some ⟨g0, 0, none⟩) (some ⟨g2, 0, none⟩) 114 114 112 112 rfl rfl g0 0 zs 47 ?h1 cs ?h2 ?h3 ?h4 ?h5 g0 w2 (Below.refl _ _) (Nat.le_refl _) ?_)
  case h1 => rw [HZS.out]; exact HO2.out
  case h2 => rw [HCL.out]; rfl
  case h3 =>
    intro h0 j v hv
    obtain ⟨ad, e, h⟩ := HSR.out (by rw [HCL.out]; omega)
    cases e
    have h := h j v hv
    rw [Addr.add_lit, Nat.zero_add] at h
    exact h
  case h4 => rw [HCL.out, HZL.out]; omega
  case h5 => rw [HCS.out]; exact ints_oneCell _ _
  intro w3 hrow hb3
  have hblk : Blk w3 g0 47 (cellsOf .u8 (X ++ [0, 0])) := by
    have h := hrow.out
    rw [HCS.out, HZS.out, HZR.out, splice_head X HXL.out] at h
    exact h
  have HIN0 := Lib.hid (show symsIn g0 X w3 from ⟨X ++ [0, 0], by simp [HXL.out], by rw [List.take_append_of_le_length (by rw [HXL.out]; omega), List.take_of_length_le (by rw [HXL.out]; omega)], hblk⟩)
  have HG1 := Lib.hid hblk.lt
  have HT3 := Lib.hid (HTW.out.below hb3 HTG.out)
  have HZ := Lib.hid (show w.heap.size ≤ w3.heap.size by have := HBW.out.size; have := hb3.size; omega)
  have HBW3 := Lib.hid (show Below w.heap.size w w3 from HBW.out.trans (hb3.mono HG0.out))
  have HJ := Lib.hid (show ∀ J ∈ [symsIn g0 X, symsDone g0 X a b], ∀ u u', Below u.heap.size u u' → J u → J u' by
    simp only [List.forall_mem_cons]
    exact ⟨fun u u' h ⟨Y, h1, h2, h3⟩ => ⟨Y, h1, h2, h3.on h⟩, fun u u' h h1 => Blk.on h1 h, fun _ h => by cases h⟩)
  have hsl := fun W => fromSyms (some ⟨g0, 0, none⟩) 114 114 112 (by omega) (by omega) W
  rw [show cutA (some ⟨g0, 0, none⟩) 114 (112 : Int).toNat = some ⟨g0, 112, none⟩ from rfl] at hsl
  clear hrow hb3 hblk HSR
  go_wp2_with fail
  refine Reg.wp_slots2 (fun t => decide (22 ≤ t) && decide (t ≤ 26)) (Reg.KJ w.heap.size [g0] [symsIn g0 X, symsDone g0 X a b]) (Reg.KJ.drew _ HJ.out) Reg.KJ.trans (by kernel_rfl) (by kernel_rfl) (by kernel_rfl) (fun zz => (Reg.tblK [
    (22, .is (.slice (some ⟨g0, 0, none⟩) 114 114)),
    (23, .is (.slice (some ⟨g0, 112, none⟩) 2 2)),
    (24, .is (.agg #[.bool a, .bool b])),
    (25, .blk 47 .u8 2 (tailL a b) g0),
    (26, .mem (symsDone g0 X a b) (by simp))] zz).P) (fun zz => (Reg.tblK _ zz).on) (fun zz => (Reg.memK [] zz).P) (fun zz => (Reg.memK _ zz).on) ?_ ?_
  · simp only [Reg.frame, Reg.over, Nat.reduceAdd, Nat.reduceLeDiff, decide_true, decide_false, if_true, Bool.false_eq_true, if_false, Bool.and_true, Bool.and_false]
    refine ⟨?_, ?_, ?_, ?_, ?_, trivial⟩
    · intro x u hku hd
      refine wpOp_step rfl fun KK hK => ?_
      go_simp
      exact hK _ _ ⟨_, rfl, Reg.KJ.refl _, fun d hd => by cases hd; exact rfl, fun h => by cases h⟩
    · intro x u hku hd
      have h22 : x 22 = .slice (some ⟨g0, 0, none⟩) 114 114 := hd 0 (by decide)
      refine wpOp_step rfl fun KK hK => ?_
      simp only [h22] at hK ⊢
      go_simp
      exact hK _ _ ⟨_, rfl, Reg.KJ.refl _, fun d hd => by cases hd; exact rfl, fun h => by cases h⟩
    · intro x u hku hd
      have c0 := (hku.blk (by have := HTG.out; simp; omega) HT3.out).cell 0
      have c1 := (hku.blk (by have := HTG.out; simp; omega) HT3.out).cell 1
      have hlt := (hku.blk (by have := HTG.out; simp; omega) HT3.out).lt
      refine wpOp_step rfl fun KK hK => ?_
      go_simp
      exact hK _ _ ⟨_, rfl, Reg.KJ.refl _, fun d hd => by cases hd; exact rfl, fun h => by cases h⟩
    · intro x u hku hd
      have h24 : x 24 = .agg #[.bool a, .bool b] := hd 2 (by decide)
      refine wpOp_step rfl fun KK hK => ?_
      simp only [h24] at hK ⊢
      go_simp
      with_reducible refine (tsyms_any a b _).mono ?_
      rintro e u' ⟨g, rfl, hg, hB, hb'⟩
      exact hK _ _ ⟨_, rfl, Reg.KJ.grow HJ.out (Nat.le_trans HZ.out hku.size) hb', fun d hd => by cases hd; exact ⟨g, rfl, Nat.le_trans (Nat.le_of_lt HG1.out) (Nat.le_trans hku.size hg), (by simp; have := HG1.out; have := hku.size; omega), hB⟩, fun h => by cases h⟩
    · intro x u hku hd
      have h23 : x 23 = .slice (some ⟨g0, 112, none⟩) 2 2 := hd 1 (by decide)
      have k25 : (Reg.FactK.blk 47 .u8 2 (tailL a b) g0 : Reg.FactK (Reg.KJ w.heap.size [g0] [symsIn g0 X, symsDone g0 X a b])).P (x 25) u := hd 3 (by decide)
      obtain ⟨g25, h25, hg25, hs25, hB25⟩ := k25
      refine wpOp_step rfl fun KK hK => ?_
      simp only [h23, h25] at hK ⊢
      obtain ⟨Y, hY, hY2, hYB⟩ := hku.j (symsIn g0 X) (by simp) HIN0.out
      refine Reg.step_copy_own ?gd (.tmp 23) (.tmp 25) 126 126 ?ho 47 Tryz.underlying126 szSyms ⟨g25, 0, none⟩ 2 2 2 2 g0 112 ?hd ?hs (Y.map (Value.int .u8)) 47 hYB ((tailL a b).map (Value.int .u8)) rfl ?h1 ?h2 (ints_oneCell _ _) ?h3
      case gd => rfl
      case ho => rfl
      case hd => rfl
      case hs => rfl
      case h1 =>
        obtain ⟨ad, e, hsrc⟩ := (hB25.lies (n := 2) rfl).src (by simp [tailL])
        cases e
        exact hsrc
      case h2 => simp [hY, tailL]
      case h3 =>
        rintro cs' rfl
        have hfin : symsDone g0 X a b (u.setRow g0 (splice (Y.map (Value.int .u8)) 112 ((tailL a b).map (Value.int .u8))).toArray) := by
          have h := setRow_heap u g0 (cellsOf .u8 Y) (splice (Y.map (Value.int .u8)) 112 ((tailL a b).map (Value.int .u8))).toArray _ _ hYB
          unfold symsDone Blk
          rw [h]
          congr 1
          simp only [cellsOf, splice_tail Y X (tailL a b) hY hY2 rfl]
        exact hK _ _ ⟨_, rfl, Reg.KJ.row HG0.out (by simp) (by simp only [List.forall_mem_cons]; exact ⟨fun _ => hfin.in_ HXL.out, fun _ => hfin, fun _ h => by cases h⟩), fun d hd => by cases hd; exact hfin, fun h => by cases h⟩
  · intro x u hku hall
    have hfin : symsDone g0 X a b u := hall 4 (by decide)
    simp only [Reg.frame, Reg.over, Nat.reduceAdd, Nat.reduceLeDiff, decide_true, decide_false, if_true, Bool.false_eq_true, if_false, Bool.and_true, Bool.and_false]
    go_wp2_with fail
    go_ret2
    exact ⟨g0, rfl, HG0.out, hfin, HBW3.out.trans hku.1⟩
end Go.Proofs.YtkejpkcaojidaaaGreatDoor

namespace Go.Proofs.YtkejpkcaojidaaaGreatDoor
open Go.RowKit Crc

/-- append of a list onto a row of the call's own, as one step of a region that draws its order. -/
theorem step_append_lies {P : Program} {ops : Array Oper} {o : Oper} {a : Act} {w : World} {K : Act → World → Prop} {Q : Exit → Act → World → Prop} {E : Prop} (hgd : o.guard = none) (s x : Operand) (t : TypeId)
    (ho : o.op = .call { callee := .builtin .append, args := #[s, x], argTypes := #[t, t] })
    (base : Nat) (e : TypeId) (i : TypeInfo) (z : Value) (bytes : Nat) (ht : P.underlying t = some (.slice e)) (hi : P.info? e = some i) (hz : i.zero = some z)
    (hsize : i.size = 1) (hby : i.bytes = bytes) (hzs : z.cells.size = 1) (k : IntKind)
    (A : Option Addr) (n c : Nat) (xs : List Int) (hs : a.eval s = .slice A n c) (hown : w.ownsRow base e 1 (.slice A n c) n (xs.map (Value.int k)))
    (B : Option Addr) (m d : Nat) (ys : List Int) (hx : a.eval x = .slice B m d) (hr : Lies k w w.heap.size B m ys) (N : Nat) (hN : n + m = N) (h63 : N ≤ maxLen) (hbytes : N * bytes ≤ 140737488355328) (hbase : base ≤ w.heap.size)
    (h : ∀ A' c' w', w'.ownsRow base e 1 (.slice A' N c') N ((xs ++ ys).map (Value.int k)) → w.grownBy w' (Value.slice A n c).ownBlock → K (a.put o.dst (.slice A' N c')) w') :
    if Region.wanted o (yielded ops a.tmps) = true then Oper.wp P o a w K Q else E := by
  have hw : Region.wanted o (yielded ops a.tmps) = true := by simp [Region.wanted, hgd]
  rw [if_pos hw]
  subst hN
  obtain ⟨A', c', w', hrun, h2, h3, h4⟩ := run_append_lies (P := P) w base t o.type e i z bytes ht hi hz hsize hby hzs k (.slice A n c) n xs hown B m d ys hr h63 hbytes hbase
  unfold Oper.wp
  simp only [execOp, ho, resolve, invoke, builtin, Sem.run_bind, Sem.run_pure, Result.andThen_ok, List.map_toArray, List.map_cons, List.map_nil, hs, hx, hrun]
  exact h A' c' w' h2 h3

theorem Blk.onD {w w' : World} {g : Nat} {t : TypeId} {cs : Array Value} (h : Blk w g t cs) (hb : Below w.drew.heap.size w.drew w') : Blk w' g t cs := Blk.on (w := w.drew) h hb
theorem refFrSyms_no (f : Fr) (a b : Bool) (w : World) (hm : mayB f.o f.k = false) :
    Calls Tryz.prog 57 #[.agg #[.int .i64 f.o, .int .u8 f.k, .int .u8 f.s, .int .u32 f.q, .int .u32 f.v], .agg #[.bool a, .bool b]] w fun e w' => e = .returned (.tuple #[.slice none 0 0, .int .i64 1]) ∧ Below w.heap.size w w' := by
  have HP := Lib.hid (fun u => refFrPut_no f u hm)
  clear hm
  go_enter Tryz.func57, Tryz.ntmps57
  go_wp2_with (go_at_call 100; (with_reducible refine (HP.out _).mono ?_); rintro e w1 ⟨rfl, hb1⟩)
  go_ret2
  exact ⟨rfl, below_then (below_al (below_al (Below.refl _ _) _) _) hb1⟩

set_option maxRecDepth 100000 in
set_option maxHeartbeats 4000000 in
theorem refFrSyms_yes (f : Fr) (a b : Bool) (w : World) (hf : f.Fit) (hm : mayB f.o f.k = true) :
    Calls Tryz.prog 57 #[.agg #[.int .i64 f.o, .int .u8 f.k, .int .u8 f.s, .int .u32 f.q, .int .u32 f.v], .agg #[.bool a, .bool b]] w fun e w' => ∃ A' c', e = .returned (.tuple #[.slice A' 114 c', .int .i64 0]) ∧ Lies .u8 w' w'.heap.size A' 114 (ofL (putL f.body) ++ tailL a b) ∧ Below w.heap.size w w' := by
  obtain ⟨i0, hi0, hz0, hz1, hz2⟩ := info_parts info_sym
  have HP := Lib.hid (fun u => refFrPut_yes f u hf hm)
  have HPB := Lib.hid (putL_bd _ (Fr.body_bd hf hm))
  obtain ⟨L, hL⟩ : ∃ L, L = putL f.body := ⟨_, rfl⟩
  rw [← hL] at HP HPB ⊢
  have HO := Lib.hid (fun u A c (h : Lies .u8 u u.heap.size A 14 L) => refSyms_owns A 14 c L u h HPB.out (by omega))
  simp only [show 8 * 14 = 112 from rfl] at HO
  obtain ⟨X, hX⟩ : ∃ X, X = ofL L := ⟨_, rfl⟩
  rw [← hX] at HO ⊢
  have hT := Blk.new (w.alloc (.cells #[.int .i64 f.o, .int .u8 f.k, .int .u8 f.s, .int .u32 f.q, .int .u32 f.v] 123)) 153 #[.bool a, .bool b]
  rw [alloc_size] at hT
  clear hf hm hL hX
  go_enter Tryz.func57, Tryz.ntmps57
  go_wp2_with (go_at_call 100; (with_reducible refine (HP.out _).mono ?_); rintro e w1 ⟨A1, c1, rfl, hl1, hb1⟩; have hT1 := hT.on hb1; have t0 := hT1.cell 0; have t1 := hT1.cell 1; have hlt := hT1.lt)
  have hbw := below_then (below_al (below_al (Below.refl _ _) _) _) hb1
  simp only [List.getElem?_toArray, List.getElem?_cons_zero, List.getElem?_cons_succ] at t0 t1
  clear hT hb1 HP
  go_region_law (first
    | (go_simp; go_at_call 101; with_reducible refine (HO.out _ A1 c1 hl1.drew).mono ?_; rintro e w2 ⟨A2, c2, rfl, hown, hb2⟩; have hT2 := hT1.onD hb2; have u0 := hT2.cell 0; have u1 := hT2.cell 1; have hlt2 := hT2.lt; simp only [List.getElem?_toArray, List.getElem?_cons_zero, List.getElem?_cons_succ] at u0 u1)
    | (go_simp; go_at_call 102; with_reducible refine (refTail_any a b _).mono ?_; rintro e w3 ⟨g3, rfl, hg3, hB3, hb3⟩; have hown3 := owns_kept hown (KeptBut.below hb3 []) (by simp); have hl3 := hB3.lies (n := 2) rfl; have hsz3 := Nat.le_trans hb2.size hb3.size)
    | (refine step_append_lies rfl (.tmp 17) (.tmp 19) 126 rfl w1.drew.heap.size 47 i0 _ 1 Tryz.underlying126 hi0 hz0 hz1 hz2 rfl .u8 A2 112 c2 X (by simp [Act.eval]) hown3 (some ⟨g3, 0, none⟩) 2 2 (tailL a b) (by simp [Act.eval]) hl3 114 rfl (by unfold maxLen; omega) (by omega) hsz3 ?_; intro A4 c4 w4 hown4 hg4))
  all_goals
    have hb4 := (below_then (hbw.drew) (below_then hb2 hb3)).grown hg4 (Nat.le_trans hbw.size hsz3) (fun g hg => Nat.le_trans hbw.size ((hown3.lt g hg).1))
    go_wp2_with fail
    go_ret2
    exact ⟨A4, c4, rfl, lies_of_owns hown4, hb4⟩
end Go.Proofs.YtkejpkcaojidaaaGreatDoor

namespace Go.Proofs.YtkejpkcaojidaaaGreatDoor
open Go.RowKit Crc

/-- Are these whole frame symbols? What Read answers. -/
def readOk (xs : List Int) : Bool := decide (xs.length = 114) && wholeL xs
def readE (xs : List Int) : Int := if readOk xs then getE (bytesL (xs.take 112)) else 4
def readF (xs : List Int) : Fr := if readOk xs then getF (bytesL (xs.take 112)) else Fr.zero
def readA (xs : List Int) : Bool := readOk xs && xs.getD 112 0 == 2
def readB (xs : List Int) : Bool := readOk xs && xs.getD 113 0 == 2
theorem read_no {xs : List Int} (h : readOk xs = false) : readE xs = 4 ∧ readF xs = Fr.zero ∧ readA xs = false ∧ readB xs = false := by simp [readE, readF, readA, readB, h]
theorem read_yes {xs : List Int} (h : readOk xs = true) : readE xs = getE (bytesL (xs.take 112)) ∧ readF xs = getF (bytesL (xs.take 112)) ∧ readA xs = (xs.getD 112 0 == 2) ∧ readB xs = (xs.getD 113 0 == 2) := by simp [readE, readF, readA, readB, h]
theorem bytesL_bd (xs : List Int) (hw : wholeL xs = true) : ∀ x ∈ bytesL xs, 0 ≤ x ∧ x ≤ 255 := by
  intro x hx
  simp only [bytesL, byL, List.mem_map, List.mem_range] at hx
  obtain ⟨j, hj, rfl⟩ := hx
  have h := byAt_bd xs xs.length j hw (by omega)
  have h2 : (2 : Int) ^ (min (xs.length - 8 * j) 8) ≤ 2 ^ 8 := by exact_mod_cast Nat.pow_le_pow_right (by decide) (Nat.min_le_right _ _)
  omega
theorem wholeL_take (xs : List Int) (n : Nat) (h : wholeL xs = true) : wholeL (xs.take n) = true := by
  rw [wholeL, List.all_eq_true] at h ⊢
  exact fun x hx => h x (List.mem_of_mem_take hx)

/-- A block of five cells, of two; the frame's, the tail's. -/
def has5 (g : Nat) (t : TypeId) (u : World) : Prop := ∃ v0 v1 v2 v3 v4, Blk u g t #[v0, v1, v2, v3, v4]
def is5 (g : Nat) (t : TypeId) (f : Fr) (u : World) : Prop := Blk u g t #[.int .i64 f.o, .int .u8 f.k, .int .u8 f.s, .int .u32 f.q, .int .u32 f.v]
def has2 (g : Nat) (t : TypeId) (u : World) : Prop := ∃ v0 v1, Blk u g t #[v0, v1]
def is2 (g : Nat) (t : TypeId) (a b : Bool) (u : World) : Prop := Blk u g t #[.bool a, .bool b]
section
variable {g h : Nat} {t : TypeId} {f : Fr} {a b : Bool} {u : World} {u0 u1 u2 u3 u4 v0 v1 v2 v3 v4 : Value}
theorem is5.has (h : is5 g t f u) : has5 g t u := ⟨_, _, _, _, _, h⟩
theorem is2.has (h : is2 g t a b u) : has2 g t u := ⟨_, _, h⟩
theorem Blk.five (hB : Blk u g t #[v0, v1, v2, v3, v4]) (f : Fr) : is5 g t f (((((u.setCell ⟨g, 0, none⟩ (.int .i64 f.o)).setCell ⟨g, 1, none⟩ (.int .u8 f.k)).setCell ⟨g, 2, none⟩ (.int .u8 f.s)).setCell ⟨g, 3, none⟩ (.int .u32 f.q)).setCell ⟨g, 4, none⟩ (.int .u32 f.v)) :=
  ((((hB.set_ 0 (.int .i64 f.o)).set_ 1 (.int .u8 f.k)).set_ 2 (.int .u8 f.s)).set_ 3 (.int .u32 f.q)).set_ 4 (.int .u32 f.v)
theorem Blk.far {cs : Array Value} (hB : Blk u g t cs) {p : Addr} (hp : g ≠ p.block) (v : Value) : Blk (u.setCell p v) g t cs := (Below.heap_setCell u p v g hp).trans hB
theorem Blk.far5 {cs : Array Value} (hB : Blk u g t cs) (hp : g ≠ h) : Blk (((((u.setCell ⟨h, 0, none⟩ u0).setCell ⟨h, 1, none⟩ u1).setCell ⟨h, 2, none⟩ u2).setCell ⟨h, 3, none⟩ u3).setCell ⟨h, 4, none⟩ u4) g t cs :=
  ((((hB.far (p := ⟨h, 0, none⟩) hp u0).far (p := ⟨h, 1, none⟩) hp u1).far (p := ⟨h, 2, none⟩) hp u2).far (p := ⟨h, 3, none⟩) hp u3).far (p := ⟨h, 4, none⟩) hp u4
theorem has2.five (k : has2 g t u) (hp : g ≠ h) : has2 g t (((((u.setCell ⟨h, 0, none⟩ u0).setCell ⟨h, 1, none⟩ u1).setCell ⟨h, 2, none⟩ u2).setCell ⟨h, 3, none⟩ u3).setCell ⟨h, 4, none⟩ u4) := by
  obtain ⟨v0, v1, hB⟩ := k
  exact ⟨v0, v1, hB.far5 hp⟩
theorem is2.five (k : is2 g t a b u) (hp : g ≠ h) : is2 g t a b (((((u.setCell ⟨h, 0, none⟩ u0).setCell ⟨h, 1, none⟩ u1).setCell ⟨h, 2, none⟩ u2).setCell ⟨h, 3, none⟩ u3).setCell ⟨h, 4, none⟩ u4) := Blk.far5 k hp
theorem Reg.KJ.five {B : Nat} {S : List Nat} {Js : List (World → Prop)} (hB : B ≤ g) (hg : g ∈ S) (hJ : ∀ J ∈ Js, J u → J (((((u.setCell ⟨g, 0, none⟩ u0).setCell ⟨g, 1, none⟩ u1).setCell ⟨g, 2, none⟩ u2).setCell ⟨g, 3, none⟩ u3).setCell ⟨g, 4, none⟩ u4)) :
    Reg.KJ B S Js u (((((u.setCell ⟨g, 0, none⟩ u0).setCell ⟨g, 1, none⟩ u1).setCell ⟨g, 2, none⟩ u2).setCell ⟨g, 3, none⟩ u3).setCell ⟨g, 4, none⟩ u4) :=
  ⟨below_five (Below.refl _ _) hB _ _ _ _ _, fun k _ hk => by
    have hne : k ≠ g := fun e => hk (e ▸ hg)
    rw [Below.heap_setCell _ _ _ _ hne, Below.heap_setCell _ _ _ _ hne, Below.heap_setCell _ _ _ _ hne, Below.heap_setCell _ _ _ _ hne, Below.heap_setCell _ _ _ _ hne], hJ⟩
end
end Go.Proofs.YtkejpkcaojidaaaGreatDoor

