/-
  The contracts of frames.Syms and of the reference's: a frame's symbols with a tail, in new memory; ErrArg and nothing, if it may not be. Conditions: the frame's numbers are of their kinds.
-/
import Derived.Test.YtpjcbfapkjipjaaFr6
import Derived.Test.YtpjcbfapkjipjaaReg2
namespace Go.Proofs.Ytpjcbfapkjipjaa
open Go.RowKit Crc

/-- The block g of the symbols to be: the first of them are X; all are there. -/
def symsIn (g : Nat) (X : List Int) (u : World) : Prop := ∃ Y : List Int, Y.length = 114 ∧ Y.take 112 = X ∧ Blk u g 31 (cellsOf .u8 Y)
def symsDone (g : Nat) (X : List Int) (a b : Bool) (u : World) : Prop := Blk u g 31 (cellsOf .u8 (X ++ tailL a b))
theorem symsDone.in_ {g : Nat} {X : List Int} {a b : Bool} {u : World} (h : symsDone g X a b u) (hX : X.length = 112) : symsIn g X u :=
  ⟨X ++ tailL a b, by simp [hX, tailL], by rw [List.take_append_of_le_length (by omega), List.take_of_length_le (by omega)], h⟩
theorem splice_tail (Y X T : List Int) (hY : Y.length = 114) (hX : Y.take 112 = X) (hT : T.length = 2) : splice (Y.map (Value.int .u8)) 112 (T.map (Value.int .u8)) = (X ++ T).map (Value.int .u8) := by
  simp only [splice, List.length_map, hT, ← List.map_take, ← List.map_drop, ← List.map_append, hX]
  rw [List.drop_of_length_le (by omega), List.append_nil]
theorem splice_head (X : List Int) (hX : X.length = 112) : splice ((List.replicate 114 (0 : Int)).map (Value.int .u8)) 0 (X.map (Value.int .u8)) = (X ++ [0, 0]).map (Value.int .u8) := by
  simp only [splice, List.length_map, hX, ← List.map_take, ← List.map_drop, ← List.map_append]
  rfl

theorem frSyms_no (f : Fr) (a b : Bool) (w : World) (hm : mayB f.o f.k = false) :
    Calls Try.prog 40 #[.agg #[.int .i64 f.o, .int .u8 f.k, .int .u8 f.s, .int .u32 f.q, .int .u32 f.v], .agg #[.bool a, .bool b]] w fun e w' => e = .returned (.tuple #[.slice none 0 0, .int .i64 1]) ∧ Below w.heap.size w w' := by
  have HP := Lib.hid (fun u => frPut_no f u hm)
  clear hm
  go_enter Try.func40, Try.ntmps40
  go_wp2_with (go_at_call 47; (with_reducible refine (HP.out _).mono ?_); rintro e w1 ⟨rfl, hb1⟩)
  go_ret2
  exact ⟨rfl, below_then (below_al (below_al (Below.refl _ _) _) _) hb1⟩

set_option maxRecDepth 100000 in
set_option maxHeartbeats 4000000 in
theorem frSyms_yes (f : Fr) (a b : Bool) (w : World) (hf : f.Fit) (hm : mayB f.o f.k = true) :
    Calls Try.prog 40 #[.agg #[.int .i64 f.o, .int .u8 f.k, .int .u8 f.s, .int .u32 f.q, .int .u32 f.v], .agg #[.bool a, .bool b]] w fun e w' => ∃ g, e = .returned (.tuple #[.slice (some ⟨g, 0, none⟩) 114 114, .int .i64 0]) ∧ w.heap.size ≤ g ∧ Blk w' g 31 (cellsOf .u8 (ofL (putL f.body) ++ tailL a b)) ∧ Below w.heap.size w w' := by
  have HP := Lib.hid (fun u => frPut_yes f u hf hm)
  have HPB := Lib.hid (putL_bd _ (Fr.body_bd hf hm))
  have HPL := Lib.hid (show (putL f.body).length = 14 by rw [putL_length]; rfl)
  obtain ⟨L, hL⟩ : ∃ L, L = putL f.body := ⟨_, rfl⟩
  rw [← hL] at HP HPB HPL ⊢
  have HXL := Lib.hid (show (ofL L).length = 112 by rw [ofL_length, HPL.out])
  have HO := Lib.hid (fun u g (h : Lies .u8 u u.heap.size (some ⟨g, 0, none⟩) 14 L) => of_any (some ⟨g, 0, none⟩) 14 14 L u h HPB.out (by omega))
  obtain ⟨X, hX⟩ : ∃ X, X = ofL L := ⟨_, rfl⟩
  rw [← hX] at HO HXL ⊢
  have hmk := fun u => makeSyms 114 (by omega) (by omega) u
  rw [show (114 : Int).toNat = 114 from rfl, cellsOf_made] at hmk
  obtain ⟨Z, hZ⟩ : ∃ Z, Z = List.replicate 114 (0 : Int) := ⟨_, rfl⟩
  rw [← hZ] at hmk
  have HZR := Lib.hid hZ
  have hT := Blk.new (w.alloc (.cells #[.int .i64 f.o, .int .u8 f.k, .int .u8 f.s, .int .u32 f.q, .int .u32 f.v] 42)) 55 #[.bool a, .bool b]
  rw [alloc_size] at hT
  have HT := Lib.hid hT
  simp only [show 8 * 14 = 112 from rfl] at HO
  clear hf hm hL hX hT hZ
  go_enter Try.func40, Try.ntmps40
  go_wp2_with (go_at_call 47; (with_reducible refine (HP.out _).mono ?_); rintro e w1 ⟨g1, rfl, hg1, hB1, hb1⟩)
  have hB1' := hB1.alloc (.cells (cellsOf .u8 Z) 31)
  with_reducible refine (HO.out _ g1 (hB1'.lies HPL.out)).mono ?_
  rintro e w2 ⟨g2, rfl, hg2, hB2, hb2⟩
  have hO := (Blk.new w1 31 (cellsOf .u8 Z)).on hb2
  have hbw := below_then (below_al (below_then (below_al (below_al (Below.refl _ _) _) _) hb1) _) hb2
  obtain ⟨g0, hg0⟩ : ∃ g0, g0 = w1.heap.size := ⟨_, rfl⟩
  rw [← hg0] at hO ⊢
  have HG0 := Lib.hid (show w.heap.size ≤ g0 by have := hb1.size; simp at this; omega)
  have HTW := Lib.hid (((HT.out.on hb1).alloc (.cells (cellsOf .u8 Z) 31)).on hb2)
  have HTG := Lib.hid (show w.heap.size + 1 < g0 by rw [hg0]; exact (HT.out.on hb1).lt)
  clear hmk hB1 hB1' hb1 hb2 hg2 hg1 hg0
  have HO2 := Lib.hid hO
  have HSR := Lib.hid (fun h => (hB2.lies (n := 112) HXL.out).src h)
  have HBW := Lib.hid hbw
  obtain ⟨cs, hcs⟩ : ∃ cs, cs = X.map (Value.int .u8) := ⟨_, rfl⟩
  obtain ⟨zs, hzs⟩ : ∃ zs, zs = Z.map (Value.int .u8) := ⟨_, rfl⟩
  rw [← hcs] at HSR
  have HCS := Lib.hid hcs
  have HZS := Lib.hid hzs
  have HCL := Lib.hid (show cs.length = 112 by rw [hcs, List.length_map, HXL.out])
  have HZL := Lib.hid (show zs.length = 114 by rw [hzs, List.length_map, HZR.out]; rfl)
  clear hbw hO hB2 hcs hzs HO HP
  go_wp2_with (with_reducible refine wpList_copy_splice rfl (.tmp 18) (.tmp 20) 22 22 rfl 31 Try.underlying22 szSyms (some ⟨g0, 0, none⟩) (some ⟨g2, 0, none⟩) 114 114 112 112 rfl rfl g0 0 zs 31 ?h1 cs ?h2 ?h3 ?h4 ?h5 g0 w2 (Below.refl _ _) (Nat.le_refl _) ?_)
  case h1 => rw [HZS.out]; exact HO2.out
  case h2 => rw [HCL.out]; rfl
  case h3 =>
    intro h0 j v hv
    obtain ⟨ad, e, h⟩ := HSR.out (by rw [HCL.out]; omega)
    cases e
    have h := h j v hv
    rw [Addr.add_lit, Nat.zero_add] at h
    exact h
  case h4 => rw [HCL.out, HZL.out]; omega
  case h5 => rw [HCS.out]; exact ints_oneCell _ _
  intro w3 hrow hb3
  have hblk : Blk w3 g0 31 (cellsOf .u8 (X ++ [0, 0])) := by
    have h := hrow.out
    rw [HCS.out, HZS.out, HZR.out, splice_head X HXL.out] at h
    exact h
  have HIN0 := Lib.hid (show symsIn g0 X w3 from ⟨X ++ [0, 0], by simp [HXL.out], by rw [List.take_append_of_le_length (by rw [HXL.out]; omega), List.take_of_length_le (by rw [HXL.out]; omega)], hblk⟩)
  have HG1 := Lib.hid hblk.lt
  have HT3 := Lib.hid (HTW.out.below hb3 HTG.out)
  have HZ := Lib.hid (show w.heap.size ≤ w3.heap.size by have := HBW.out.size; have := hb3.size; omega)
  have HBW3 := Lib.hid (show Below w.heap.size w w3 from HBW.out.trans (hb3.mono HG0.out))
  have HJ := Lib.hid (show ∀ J ∈ [symsIn g0 X, symsDone g0 X a b], ∀ u u', Below u.heap.size u u' → J u → J u' by
    simp only [List.forall_mem_cons]
    exact ⟨fun u u' h ⟨Y, h1, h2, h3⟩ => ⟨Y, h1, h2, h3.on h⟩, fun u u' h h1 => Blk.on h1 h, fun _ h => by cases h⟩)
  have hsl := fun W => fromSyms (some ⟨g0, 0, none⟩) 114 114 112 (by omega) (by omega) W
  rw [show cutA (some ⟨g0, 0, none⟩) 114 (112 : Int).toNat = some ⟨g0, 112, none⟩ from rfl] at hsl
  clear hrow hb3 hblk HSR
  go_wp2_with fail
  refine Reg.wp_slots2 (fun t => decide (22 ≤ t) && decide (t ≤ 26)) (Reg.KJ w.heap.size [g0] [symsIn g0 X, symsDone g0 X a b]) (Reg.KJ.drew _ HJ.out) Reg.KJ.trans (by kernel_rfl) (by kernel_rfl) (by kernel_rfl) (fun zz => (Reg.tblK [
    (22, .is (.slice (some ⟨g0, 0, none⟩) 114 114)),
    (23, .is (.slice (some ⟨g0, 112, none⟩) 2 2)),
    (24, .is (.agg #[.bool a, .bool b])),
    (25, .blk 31 .u8 2 (tailL a b) g0),
    (26, .mem (symsDone g0 X a b) (by simp))] zz).P) (fun zz => (Reg.tblK _ zz).on) (fun zz => (Reg.memK [] zz).P) (fun zz => (Reg.memK _ zz).on) ?_ ?_
  · simp only [Reg.frame, Reg.over, Nat.reduceAdd, Nat.reduceLeDiff, decide_true, decide_false, if_true, Bool.false_eq_true, if_false, Bool.and_true, Bool.and_false]
    refine ⟨?_, ?_, ?_, ?_, ?_, trivial⟩
    · intro x u hku hd
      refine wpOp_step rfl fun KK hK => ?_
      go_simp
      exact hK _ _ ⟨_, rfl, Reg.KJ.refl _, fun d hd => by cases hd; exact rfl, fun h => by cases h⟩
    · intro x u hku hd
      have h22 : x 22 = .slice (some ⟨g0, 0, none⟩) 114 114 := hd 0 (by decide)
      refine wpOp_step rfl fun KK hK => ?_
      simp only [h22] at hK ⊢
      go_simp
      exact hK _ _ ⟨_, rfl, Reg.KJ.refl _, fun d hd => by cases hd; exact rfl, fun h => by cases h⟩
    · intro x u hku hd
      have c0 := (hku.blk (by have := HTG.out; simp; omega) HT3.out).cell 0
      have c1 := (hku.blk (by have := HTG.out; simp; omega) HT3.out).cell 1
      have hlt := (hku.blk (by have := HTG.out; simp; omega) HT3.out).lt
      refine wpOp_step rfl fun KK hK => ?_
      go_simp
      exact hK _ _ ⟨_, rfl, Reg.KJ.refl _, fun d hd => by cases hd; exact rfl, fun h => by cases h⟩
    · intro x u hku hd
      have h24 : x 24 = .agg #[.bool a, .bool b] := hd 2 (by decide)
      refine wpOp_step rfl fun KK hK => ?_
      simp only [h24] at hK ⊢
      go_simp
      with_reducible refine (tsyms_any a b _).mono ?_
      rintro e u' ⟨g, rfl, hg, hB, hb'⟩
      exact hK _ _ ⟨_, rfl, Reg.KJ.grow HJ.out (Nat.le_trans HZ.out hku.size) hb', fun d hd => by cases hd; exact ⟨g, rfl, Nat.le_trans (Nat.le_of_lt HG1.out) (Nat.le_trans hku.size hg), (by simp; have := HG1.out; have := hku.size; omega), hB⟩, fun h => by cases h⟩
    · intro x u hku hd
      have h23 : x 23 = .slice (some ⟨g0, 112, none⟩) 2 2 := hd 1 (by decide)
      have k25 : (Reg.FactK.blk 31 .u8 2 (tailL a b) g0 : Reg.FactK (Reg.KJ w.heap.size [g0] [symsIn g0 X, symsDone g0 X a b])).P (x 25) u := hd 3 (by decide)
      obtain ⟨g25, h25, hg25, hs25, hB25⟩ := k25
      refine wpOp_step rfl fun KK hK => ?_
      simp only [h23, h25] at hK ⊢
      obtain ⟨Y, hY, hY2, hYB⟩ := hku.j (symsIn g0 X) (by simp) HIN0.out
      refine Reg.step_copy_own ?gd (.tmp 23) (.tmp 25) 22 22 ?ho 31 Try.underlying22 szSyms ⟨g25, 0, none⟩ 2 2 2 2 g0 112 ?hd ?hs (Y.map (Value.int .u8)) 31 hYB ((tailL a b).map (Value.int .u8)) rfl ?h1 ?h2 (ints_oneCell _ _) ?h3
      case gd => rfl
      case ho => rfl
      case hd => rfl
      case hs => rfl
      case h1 =>
        obtain ⟨ad, e, hsrc⟩ := (hB25.lies (n := 2) rfl).src (by simp [tailL])
        cases e
        exact hsrc
      case h2 => simp [hY, tailL]
      case h3 =>
        rintro cs' rfl
        have hfin : symsDone g0 X a b (u.setRow g0 (splice (Y.map (Value.int .u8)) 112 ((tailL a b).map (Value.int .u8))).toArray) := by
          have h := setRow_heap u g0 (cellsOf .u8 Y) (splice (Y.map (Value.int .u8)) 112 ((tailL a b).map (Value.int .u8))).toArray _ _ hYB
          unfold symsDone Blk
          rw [h]
          congr 1
          simp only [cellsOf, splice_tail Y X (tailL a b) hY hY2 rfl]
        exact hK _ _ ⟨_, rfl, Reg.KJ.row HG0.out (by simp) (by simp only [List.forall_mem_cons]; exact ⟨fun _ => hfin.in_ HXL.out, fun _ => hfin, fun _ h => by cases h⟩), fun d hd => by cases hd; exact hfin, fun h => by cases h⟩
  · intro x u hku hall
    have hfin : symsDone g0 X a b u := hall 4 (by decide)
    simp only [Reg.frame, Reg.over, Nat.reduceAdd, Nat.reduceLeDiff, decide_true, decide_false, if_true, Bool.false_eq_true, if_false, Bool.and_true, Bool.and_false]
    go_wp2_with fail
    go_ret2
    exact ⟨g0, rfl, HG0.out, hfin, HBW3.out.trans hku.1⟩
end Go.Proofs.Ytpjcbfapkjipjaa
