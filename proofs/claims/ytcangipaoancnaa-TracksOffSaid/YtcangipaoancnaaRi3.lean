/-
  The ring: what goes out instead of a word. Conditions: the ring's, the acts', the words' readings.
-/
import Derived.Test.YtcangipaoancnaaRiS
import Derived.Test.YtcangipaoancnaaRiA
import Derived.Deep.CutBlock
namespace Go.Proofs.Ytcangipaoancnaa
open Go.RowKit
set_option linter.unusedVariables false
set_option linter.unusedSimpArgs false

/-- The acts, as they were handed in. -/
structure FaIn (B : Nat) (u : World) (F : Fa) : Prop where
  a : F.a < 256
  w : F.w < 256
  n : F.n ≤ 900
  K : ∀ i, i < F.n → (F.K i).k < 256 ∧ (F.K i).s < 256
  f : LiesF u B F.A F.n 59 fun i => (F.K i).l
  t : ∀ i, i < F.n → LiesH u B (F.K i).r.A (F.K i).r.n (F.K i).r.T
theorem FaIn.low {B : Nat} {u v : World} {F : Fa} (h : FaIn B u F) (b : Below B u v) : FaIn B v F := ⟨h.a, h.w, h.n, h.K, h.f.low b, fun i hi => (h.t i hi).low b⟩
theorem Ak.l_one (a : Ak) : ∀ v ∈ a.l, v.oneCell' = true := by
  intro v hv
  simp only [Ak.l, List.mem_cons] at hv
  rcases hv with rfl | rfl | hv
  · rfl
  · rfl
  · exact roL_one _ _ _ _ _ v hv
/-- Is a link none of what is faulty? -/
def clB (N i k : Nat) (F : Fa) : Bool := !(decide (F.a % N = i)) || (F.l && !(decide (F.w % 4 = k))) || decide (F.n = 0)
set_option maxRecDepth 100000 in
theorem size_act : (Try.prog.info? 154).map (·.size) = some 59 := by kernel_rfl
set_option maxRecDepth 100000 in
theorem elemActs : Try.prog.underlying 81 = some (.slice 154) := by kernel_rfl
set_option maxRecDepth 100000 in
theorem idxActs {A : Option Addr} {n : Nat} (c : Nat) {k b off : Nat} (hA : A = some ⟨b, off, none⟩) (hk : k < n) (w : World) :
    (Instr.indexAt 81 (.slice A n c) (.int .i64 (k : Int))).run Try.prog w = .ok (.pointer (some ⟨b, off + k * 59, none⟩)) w := by
  subst hA
  rw [run_indexAt_slice (h := elemActs), if_pos (by omega), show Try.prog.elem 81 = 154 by kernel_rfl, show (sizeOf 154).run Try.prog w = .ok 59 w by kernel_rfl]
  simp [Result.andThen, Addr.add_lit]
/-- What said knows of memory: the boxes of both words, and of what it answers. -/
structure SD (w : World) (x y : Wo) (U : World) : Prop where
  x : Blk U w.heap.size 34 #[x.v]
  y : Blk U (w.heap.size + 1) 34 #[y.v]
  z : ∃ Z : List Value, Z.length = 1 ∧ PIn U (w.heap.size + 2) 0 34 [] [] Z
  b : Below w.heap.size w U
theorem SD.on {w U V : World} {x y : Wo} (h : SD w x y U) (b : Below U.heap.size U V) : SD w x y V := by
  obtain ⟨Z, z1, z2⟩ := h.z
  exact ⟨h.x.on b, h.y.on b, ⟨Z, z1, z2.on b⟩, below_then h.b b⟩
def Reg.FactK.act {B : Nat} (lo : Nat) : Reg.FactK (Reg.KJ B [] []) := ⟨fun v w => ∃ g, v = .pointer (some ⟨g, 0, none⟩) ∧ lo ≤ g ∧ ∃ Z : List Value, Z.length = 59 ∧ PIn w g 0 154 [] [] Z, fun _ _ _ hb h => by
  obtain ⟨g, e, hg, Z, q, r⟩ := h
  exact ⟨g, e, hg, Z, q, hb.pin r⟩⟩
/-- A copy of rows, one of them another one. -/
theorem copy_sr {B lo g m s : Nat} {v : World} {x : Wo} {r : Rw} {Z : List Value} (hB : Blk v g 54 (flL (fun j => ((if j = s then r else x.R j : Rw)).l) m ++ Z).toArray) (hx : SR B v x.A m x.R) (hr : ∀ u, KR B v u → LiesH u u.heap.size r.A r.n r.T) (c : Nat) : SW B v ⟨some ⟨g, 0, none⟩, m, c, fun j => if j = s then r else x.R j⟩ := by
  intro u k
  have h1 := k.t _ _ _ (.inl rfl) hB
  refine ⟨fun h0 => ⟨g, 0, rfl, h1.lt, fun i hi j v hv => ?_⟩, fun i hi => ?_⟩
  · have hj : j < 57 := by have := (List.getElem?_eq_some_iff.1 hv).1; rwa [Rw.l_len] at this
    rw [Nat.zero_add, h1.cell, List.getElem?_toArray, List.getElem?_append_left (by rw [flL_len (fun _ => Rw.l_len _)]; have : i * 57 + 57 ≤ m * 57 := by rw [← Nat.succ_mul]; exact Nat.mul_le_mul_right _ hi
                                                                                    omega), flL_get (f := fun j => ((if j = s then r else x.R j : Rw)).l) (fun _ => Rw.l_len _) hi j hj]
    exact hv
  · show LiesH u u.heap.size (if i = s then r else x.R i : Rw).A (if i = s then r else x.R i : Rw).n (if i = s then r else x.R i : Rw).T
    split
    · exact hr u k
    · exact (hx u k).t i hi
set_option maxRecDepth 100000 in
set_option maxHeartbeats 8000000 in
theorem said_is (B gr N Tn : Nat) (F : Fa) (VL VO VS : Value) (S : Nat → Nat → Nat → Wo) (i k : Nat) (x y : Wo) (hN : 4 ≤ N ∧ N ≤ 16) (hT : Tn ≤ 1000) (hi : i < N) (hk : k < 4) (w : World) (hB : B ≤ w.heap.size) (hr : Blk w gr 158 (rgL N F VL VO VS).toArray) (hS : SentS B w VS N Tn S) (hF : FaIn B w F) (hx : SW B w x) (hy : SW B w y) (hm : x.m ≤ 65536) :
    Calls Try.prog 64 #[.pointer (some ⟨gr, 0, none⟩), .int .i64 (i : Int), .int .i64 (k : Int), .agg #[x.v], .agg #[y.v]] w fun e v => ∃ X : Wo, e = .returned (.agg #[X.v]) ∧ SW B v X ∧ (clB N i k F = true → X = x) ∧ Below w.heap.size w v := by
  obtain ⟨A0, c0, g0, q0, rfl, _⟩ := hS.l
  have HN := Lib.hid hN
  have HR := Lib.hid hr
  have HS := Lib.hid hS
  have HF := Lib.hid hF
  have HX := Lib.hid hx
  have HY := Lib.hid hy
  have HM := Lib.hid hm
  have HB := Lib.hid hB
  have HBT := Lib.hid built_word0
  have HSD : Hid (∀ Z : Array Value, Z.size = 1 → SD w x y (((w.alloc (.cells #[x.v] 34)).alloc (.cells #[y.v] 34)).alloc (.cells Z 34))) := Lib.hid (fun Z hZ => ⟨((Blk.new w _ _).alloc _).alloc _, (by have := (Blk.new (w.alloc (.cells #[x.v] 34)) 34 #[y.v]).alloc (.cells Z 34); rwa [alloc_size] at this), ⟨Z.toList, by simpa using hZ, Blk.pin (by have := Blk.new ((w.alloc (.cells #[x.v] 34)).alloc (.cells #[y.v] 34)) 34 Z; rw [alloc_size, alloc_size] at this; simpa using this)⟩, below_al (below_al (below_al (Below.refl _ w) _) _) _⟩)
  clear hr hS hF hx hy hB hm
  go_enter Try.func64, Try.ntmps64
  go_upto_region 1 with fail
  refine wp_at (SD w x y) (HSD.out _ rfl) ?_
  clear HSD
  intro U hU
  have HU := Lib.hid hU
  obtain ⟨ra, hra⟩ : ∃ n, n = F.a % N := ⟨_, rfl⟩
  obtain ⟨rw4, hrw⟩ : ∃ n, n = F.w % 4 := ⟨_, rfl⟩
  obtain ⟨bn, hbn⟩ : ∃ b, b = ((F.n : Int) == 0) := ⟨_, rfl⟩
  obtain ⟨cb, hcb⟩ : ∃ b, b = clB N i k F := ⟨_, rfl⟩
  have HCB := Lib.hid hcb
  have HBN : Hid (bn = decide (F.n = 0)) := Lib.hid (by rw [hbn, Bool.eq_iff_iff]; simp)
  have HEQ : Hid ((F.a : Int).tmod (N : Int) = (ra : Int) ∧ (F.a : Int) % (N : Int) = (ra : Int) ∧ IntKind.i64.wrap (ra : Int) = (ra : Int) ∧ IntKind.i64.wrap (F.a : Int) = (F.a : Int)) := Lib.hid ⟨by rw [hra]; rfl, by rw [hra]; rfl, IntWalk.i64_in _ (by have := Nat.mod_lt F.a (show 0 < N by omega); omega), IntWalk.i64_in _ (by have := HF.out.a; omega)⟩
  have HEW : Hid ((F.w : Int).tmod 4 = (rw4 : Int) ∧ (F.w : Int) % 4 = (rw4 : Int) ∧ IntKind.i64.wrap (rw4 : Int) = (rw4 : Int) ∧ IntKind.i64.wrap (F.w : Int) = (F.w : Int)) := Lib.hid ⟨by rw [hrw]; rfl, by rw [hrw]; rfl, IntWalk.i64_in _ (by omega), IntWalk.i64_in _ (by have := HF.out.w; omega)⟩
  have HEN : Hid (((F.n : Int) == 0) = bn) := Lib.hid hbn.symm
  have HC : Hid (∀ u, Below U.heap.size U u → u.cell? ⟨gr, 0, none⟩ = some (.int .i64 (N : Int)) ∧ u.cell? ⟨gr, 1, none⟩ = some (.bool F.l) ∧ u.cell? ⟨gr, 2, none⟩ = some (.int .u8 (F.a : Int)) ∧ u.cell? ⟨gr, 3, none⟩ = some (.int .u8 (F.w : Int)) ∧ u.cell? ⟨gr, 4, none⟩ = some (.slice F.A F.n F.c) ∧ u.cell? ⟨gr, 7, none⟩ = some (.slice A0 Tn c0) ∧ gr < u.heap.size) := Lib.hid (fun u hu => by
    have h := (HR.out.on hU.b).on hu
    exact ⟨h.cell 0, h.cell 1, h.cell 2, h.cell 3, h.cell 4, h.cell 7, h.lt⟩)
  have HNZ : Hid (N ≠ 0) := Lib.hid (by omega)
  have HCL : Hid (clB N i k F = (!(decide (ra = i)) || (F.l && !(decide (rw4 = k))) || bn)) := Lib.hid (by rw [HBN.out, hra, hrw]; rfl)
  clear hU hra hrw hbn hcb
  go_cut [54] from 15 to 53 (fun s54 wx => s54 = .bool cb ∧ Hid (SD w x y wx))
  case first =>
    by_cases h1 : ra = i
    · have e27 : ((ra : Int) != (i : Int)) = false := by simp [h1]
      have H27 := Lib.hid e27
      have HRI := Lib.hid h1
      clear h1 e27
      obtain ⟨fl, hfl⟩ : ∃ b, b = F.l := ⟨_, rfl⟩
      have HFL := Lib.hid hfl
      clear hfl
      cases fl with
      | true =>
        by_cases h2 : rw4 = k
        · have e43 : ((rw4 : Int) != (k : Int)) = false := by simp [h2]
          have H43 := Lib.hid e43
          have HEC : Hid (bn = cb) := Lib.hid (by rw [HCB.out, HCL.out, ← HFL.out, HRI.out, h2]; simp)
          clear h2 e43
          refine Reg.wp_slots2 (fun tt => decide (15 ≤ tt) && decide (tt ≤ 54)) (Reg.KJ U.heap.size [] []) (Reg.KJ.drew _ (by simp)) Reg.KJ.trans (by kernel_rfl) (by kernel_rfl) (by kernel_rfl) (fun zz => (Reg.tblK [
            (15, .is (.pointer (some ⟨gr, 0, none⟩))),
            (16, .is (.pointer (some ⟨gr, 0, none⟩))),
            (17, .is (.pointer (some ⟨gr, 1, none⟩))),
            (18, .is (.pointer (some ⟨gr, 2, none⟩))),
            (19, .is (.int .u8 (F.a : Int))),
            (20, .is (.int .i64 (F.a : Int))),
            (21, .is (.pointer (some ⟨gr, 0, none⟩))),
            (22, .is (.pointer (some ⟨gr, 0, none⟩))),
            (23, .is (.pointer (some ⟨gr, 0, none⟩))),
            (24, .is (.int .i64 (N : Int))),
            (25, .is (.int .i64 (ra : Int))),
            (26, .is (.int .i64 (i : Int))),
            (27, .is (.bool false)),
            (28, .is (.bool false)),
            (29, .is (.pointer (some ⟨gr, 0, none⟩))),
            (30, .is (.pointer (some ⟨gr, 0, none⟩))),
            (31, .is (.pointer (some ⟨gr, 1, none⟩))),
            (32, .is (.pointer (some ⟨gr, 1, none⟩))),
            (33, .is (.bool true)),
            (34, .is (.bool true)),
            (35, .is (.pointer (some ⟨gr, 0, none⟩))),
            (36, .is (.pointer (some ⟨gr, 0, none⟩))),
            (37, .is (.pointer (some ⟨gr, 1, none⟩))),
            (38, .is (.pointer (some ⟨gr, 3, none⟩))),
            (39, .is (.int .u8 (F.w : Int))),
            (40, .is (.int .i64 (F.w : Int))),
            (41, .is (.int .i64 (rw4 : Int))),
            (42, .is (.int .i64 (k : Int))),
            (43, .is (.bool false)),
            (44, .is (.bool false)),
            (45, .is (.bool false)),
            (46, .is (.bool false)),
            (47, .is (.pointer (some ⟨gr, 0, none⟩))),
            (48, .is (.pointer (some ⟨gr, 0, none⟩))),
            (49, .is (.pointer (some ⟨gr, 1, none⟩))),
            (50, .is (.pointer (some ⟨gr, 4, none⟩))),
            (51, .is (.slice F.A F.n F.c)),
            (52, .is (.int .i64 (F.n : Int))),
            (53, .is (.bool bn)),
            (54, .is (.bool bn))] zz).P) (fun zz => (Reg.tblK _ zz).on) (fun zz => (Reg.memK [] zz).P) (fun zz => (Reg.memK _ zz).on) ?_ ?_
          · simp only [Reg.frame, Reg.over, Nat.reduceAdd, Nat.reduceLeDiff, decide_true, decide_false, if_true, Bool.false_eq_true, if_false, Bool.and_true, Bool.and_false]
            refine ⟨?_, ?_, ?_, ?_, ?_, ?_, ?_, ?_, ?_, ?_, ?_, ?_, ?_, ?_, ?_, ?_, ?_, ?_, ?_, ?_, ?_, ?_, ?_, ?_, ?_, ?_, ?_, ?_, ?_, ?_, ?_, ?_, ?_, ?_, ?_, ?_, ?_, ?_, ?_, ?_, trivial⟩
            · intro z u hku hd
              refine wpOp_step rfl fun KK hK => ?_
              go_simp
              exact hK _ _ ⟨_, rfl, Reg.KJ.refl _, fun d hd => by cases hd; exact rfl, fun h => by cases h⟩
            · intro z u hku hd
              have h15 : z 15 = .pointer (some ⟨gr, 0, none⟩) := hd 0 (by decide)
              obtain ⟨c0', c1', c2', c3', c4', c7', lr'⟩ := HC.out u hku.below
              refine wpOp_step rfl fun KK hK => ?_
              simp only [h15] at hK ⊢
              go_simp
              exact hK _ _ ⟨_, rfl, Reg.KJ.refl _, fun d hd => by cases hd; exact rfl, fun h => by cases h⟩
            · intro z u hku hd
              have h16 : z 16 = .pointer (some ⟨gr, 0, none⟩) := hd 1 (by decide)
              refine wpOp_step rfl fun KK hK => ?_
              simp only [h16] at hK ⊢
              go_simp
              exact hK _ _ ⟨_, rfl, Reg.KJ.refl _, fun d hd => by cases hd; exact rfl, fun h => by cases h⟩
            · intro z u hku hd
              have h17 : z 17 = .pointer (some ⟨gr, 1, none⟩) := hd 2 (by decide)
              refine wpOp_step rfl fun KK hK => ?_
              simp only [h17] at hK ⊢
              go_simp
              exact hK _ _ ⟨_, rfl, Reg.KJ.refl _, fun d hd => by cases hd; exact rfl, fun h => by cases h⟩
            · intro z u hku hd
              have h18 : z 18 = .pointer (some ⟨gr, 2, none⟩) := hd 3 (by decide)
              obtain ⟨c0', c1', c2', c3', c4', c7', lr'⟩ := HC.out u hku.below
              refine wpOp_step rfl fun KK hK => ?_
              simp only [h18] at hK ⊢
              go_simp
              exact hK _ _ ⟨_, rfl, Reg.KJ.refl _, fun d hd => by cases hd; exact rfl, fun h => by cases h⟩
            · intro z u hku hd
              have h19 : z 19 = .int .u8 (F.a : Int) := hd 4 (by decide)
              have hq := HEQ.out.2.2.2
              refine wpOp_step rfl fun KK hK => ?_
              simp only [h19] at hK ⊢
              go_simp
              exact hK _ _ ⟨_, rfl, Reg.KJ.refl _, fun d hd => by cases hd; exact rfl, fun h => by cases h⟩
            · intro z u hku hd
              refine wpOp_step rfl fun KK hK => ?_
              go_simp
              exact hK _ _ ⟨_, rfl, Reg.KJ.refl _, fun d hd => by cases hd; exact rfl, fun h => by cases h⟩
            · intro z u hku hd
              have h21 : z 21 = .pointer (some ⟨gr, 0, none⟩) := hd 6 (by decide)
              obtain ⟨c0', c1', c2', c3', c4', c7', lr'⟩ := HC.out u hku.below
              refine wpOp_step rfl fun KK hK => ?_
              simp only [h21] at hK ⊢
              go_simp
              exact hK _ _ ⟨_, rfl, Reg.KJ.refl _, fun d hd => by cases hd; exact rfl, fun h => by cases h⟩
            · intro z u hku hd
              have h22 : z 22 = .pointer (some ⟨gr, 0, none⟩) := hd 7 (by decide)
              refine wpOp_step rfl fun KK hK => ?_
              simp only [h22] at hK ⊢
              go_simp
              exact hK _ _ ⟨_, rfl, Reg.KJ.refl _, fun d hd => by cases hd; exact rfl, fun h => by cases h⟩
            · intro z u hku hd
              have h23 : z 23 = .pointer (some ⟨gr, 0, none⟩) := hd 8 (by decide)
              obtain ⟨c0', c1', c2', c3', c4', c7', lr'⟩ := HC.out u hku.below
              refine wpOp_step rfl fun KK hK => ?_
              simp only [h23] at hK ⊢
              go_simp
              exact hK _ _ ⟨_, rfl, Reg.KJ.refl _, fun d hd => by cases hd; exact rfl, fun h => by cases h⟩
            · intro z u hku hd
              have h20 : z 20 = .int .i64 (F.a : Int) := hd 5 (by decide)
              have h24 : z 24 = .int .i64 (N : Int) := hd 9 (by decide)
              have h1 := HEQ.out.1
              have h2 := HEQ.out.2.1
              have h3 : N ≠ 0 := HNZ.out
              have h4 := HEQ.out.2.2.1
              refine wpOp_step rfl fun KK hK => ?_
              simp only [h20, h24] at hK ⊢
              go_simp
              exact hK _ _ ⟨_, rfl, Reg.KJ.refl _, fun d hd => by cases hd; exact rfl, fun h => by cases h⟩
            · intro z u hku hd
              refine wpOp_step rfl fun KK hK => ?_
              go_simp
              exact hK _ _ ⟨_, rfl, Reg.KJ.refl _, fun d hd => by cases hd; exact rfl, fun h => by cases h⟩
            · intro z u hku hd
              have h25 : z 25 = .int .i64 (ra : Int) := hd 10 (by decide)
              have h26 : z 26 = .int .i64 (i : Int) := hd 11 (by decide)
              have h1 := H27.out
              refine wpOp_step rfl fun KK hK => ?_
              simp only [h25, h26] at hK ⊢
              go_simp
              exact hK _ _ ⟨_, rfl, Reg.KJ.refl _, fun d hd => by cases hd; exact rfl, fun h => by cases h⟩
            · intro z u hku hd
              have h27 : z 27 = .bool false := hd 12 (by decide)
              refine wpOp_step rfl fun KK hK => ?_
              simp only [h27] at hK ⊢
              go_simp
              exact hK _ _ ⟨_, rfl, Reg.KJ.refl _, fun d hd => by cases hd; exact rfl, fun h => by cases h⟩
            · intro z u hku hd
              have h28 : z 28 = .bool false := hd 13 (by decide)
              refine wpOp_step rfl fun KK hK => ?_
              simp only [h28] at hK ⊢
              go_simp
              exact hK _ _ ⟨_, rfl, Reg.KJ.refl _, fun d hd => by cases hd; exact rfl, fun h => by cases h⟩
            · intro z u hku hd
              have h29 : z 29 = .pointer (some ⟨gr, 0, none⟩) := hd 14 (by decide)
              have h28 : z 28 = .bool false := hd 13 (by decide)
              obtain ⟨c0', c1', c2', c3', c4', c7', lr'⟩ := HC.out u hku.below
              refine wpOp_step rfl fun KK hK => ?_
              simp only [h29, h28] at hK ⊢
              go_simp
              exact hK _ _ ⟨_, rfl, Reg.KJ.refl _, fun d hd => by cases hd; exact rfl, fun h => by cases h⟩
            · intro z u hku hd
              have h30 : z 30 = .pointer (some ⟨gr, 0, none⟩) := hd 15 (by decide)
              have h28 : z 28 = .bool false := hd 13 (by decide)
              refine wpOp_step rfl fun KK hK => ?_
              simp only [h30, h28] at hK ⊢
              go_simp
              exact hK _ _ ⟨_, rfl, Reg.KJ.refl _, fun d hd => by cases hd; exact rfl, fun h => by cases h⟩
            · intro z u hku hd
              have h31 : z 31 = .pointer (some ⟨gr, 1, none⟩) := hd 16 (by decide)
              have h28 : z 28 = .bool false := hd 13 (by decide)
              refine wpOp_step rfl fun KK hK => ?_
              simp only [h31, h28] at hK ⊢
              go_simp
              exact hK _ _ ⟨_, rfl, Reg.KJ.refl _, fun d hd => by cases hd; exact rfl, fun h => by cases h⟩
            · intro z u hku hd
              have h32 : z 32 = .pointer (some ⟨gr, 1, none⟩) := hd 17 (by decide)
              have h28 : z 28 = .bool false := hd 13 (by decide)
              obtain ⟨c0', c1', c2', c3', c4', c7', lr'⟩ := HC.out u hku.below
              rw [← HFL.out] at c1'
              refine wpOp_step rfl fun KK hK => ?_
              simp only [h32, h28] at hK ⊢
              go_simp
              exact hK _ _ ⟨_, rfl, Reg.KJ.refl _, fun d hd => by cases hd; exact rfl, fun h => by cases h⟩
            · intro z u hku hd
              have h33 : z 33 = .bool true := hd 18 (by decide)
              have h28 : z 28 = .bool false := hd 13 (by decide)
              refine wpOp_step rfl fun KK hK => ?_
              simp only [h33, h28] at hK ⊢
              go_simp
              exact hK _ _ ⟨_, rfl, Reg.KJ.refl _, fun d hd => by cases hd; exact rfl, fun h => by cases h⟩
            · intro z u hku hd
              have h34 : z 34 = .bool true := hd 19 (by decide)
              refine wpOp_step rfl fun KK hK => ?_
              simp only [h34] at hK ⊢
              go_simp
              exact hK _ _ ⟨_, rfl, Reg.KJ.refl _, fun d hd => by cases hd; exact rfl, fun h => by cases h⟩
            · intro z u hku hd
              have h35 : z 35 = .pointer (some ⟨gr, 0, none⟩) := hd 20 (by decide)
              have h34 : z 34 = .bool true := hd 19 (by decide)
              obtain ⟨c0', c1', c2', c3', c4', c7', lr'⟩ := HC.out u hku.below
              refine wpOp_step rfl fun KK hK => ?_
              simp only [h35, h34] at hK ⊢
              go_simp
              exact hK _ _ ⟨_, rfl, Reg.KJ.refl _, fun d hd => by cases hd; exact rfl, fun h => by cases h⟩
            · intro z u hku hd
              have h36 : z 36 = .pointer (some ⟨gr, 0, none⟩) := hd 21 (by decide)
              have h34 : z 34 = .bool true := hd 19 (by decide)
              refine wpOp_step rfl fun KK hK => ?_
              simp only [h36, h34] at hK ⊢
              go_simp
              exact hK _ _ ⟨_, rfl, Reg.KJ.refl _, fun d hd => by cases hd; exact rfl, fun h => by cases h⟩
            · intro z u hku hd
              have h37 : z 37 = .pointer (some ⟨gr, 1, none⟩) := hd 22 (by decide)
              have h34 : z 34 = .bool true := hd 19 (by decide)
              refine wpOp_step rfl fun KK hK => ?_
              simp only [h37, h34] at hK ⊢
              go_simp
              exact hK _ _ ⟨_, rfl, Reg.KJ.refl _, fun d hd => by cases hd; exact rfl, fun h => by cases h⟩
            · intro z u hku hd
              have h38 : z 38 = .pointer (some ⟨gr, 3, none⟩) := hd 23 (by decide)
              have h34 : z 34 = .bool true := hd 19 (by decide)
              obtain ⟨c0', c1', c2', c3', c4', c7', lr'⟩ := HC.out u hku.below
              refine wpOp_step rfl fun KK hK => ?_
              simp only [h38, h34] at hK ⊢
              go_simp
              exact hK _ _ ⟨_, rfl, Reg.KJ.refl _, fun d hd => by cases hd; exact rfl, fun h => by cases h⟩
            · intro z u hku hd
              have h39 : z 39 = .int .u8 (F.w : Int) := hd 24 (by decide)
              have h34 : z 34 = .bool true := hd 19 (by decide)
              have hq := HEW.out.2.2.2
              refine wpOp_step rfl fun KK hK => ?_
              simp only [h39, h34] at hK ⊢
              go_simp
              exact hK _ _ ⟨_, rfl, Reg.KJ.refl _, fun d hd => by cases hd; exact rfl, fun h => by cases h⟩
            · intro z u hku hd
              have h40 : z 40 = .int .i64 (F.w : Int) := hd 25 (by decide)
              have h34 : z 34 = .bool true := hd 19 (by decide)
              have h1 := HEW.out.1
              have h2 := HEW.out.2.1
              have h4 := HEW.out.2.2.1
              refine wpOp_step rfl fun KK hK => ?_
              simp only [h40, h34] at hK ⊢
              go_simp
              exact hK _ _ ⟨_, rfl, Reg.KJ.refl _, fun d hd => by cases hd; exact rfl, fun h => by cases h⟩
            · intro z u hku hd
              have h34 : z 34 = .bool true := hd 19 (by decide)
              refine wpOp_step rfl fun KK hK => ?_
              simp only [h34] at hK ⊢
              go_simp
              exact hK _ _ ⟨_, rfl, Reg.KJ.refl _, fun d hd => by cases hd; exact rfl, fun h => by cases h⟩
            · intro z u hku hd
              have h41 : z 41 = .int .i64 (rw4 : Int) := hd 26 (by decide)
              have h42 : z 42 = .int .i64 (k : Int) := hd 27 (by decide)
              have h34 : z 34 = .bool true := hd 19 (by decide)
              have h1 := H43.out
              refine wpOp_step rfl fun KK hK => ?_
              simp only [h41, h42, h34] at hK ⊢
              go_simp
              exact hK _ _ ⟨_, rfl, Reg.KJ.refl _, fun d hd => by cases hd; exact rfl, fun h => by cases h⟩
            · intro z u hku hd
              have h34 : z 34 = .bool true := hd 19 (by decide)
              have h43 : z 43 = .bool false := hd 28 (by decide)
              have h28 : z 28 = .bool false := hd 13 (by decide)
              refine wpOp_step rfl fun KK hK => ?_
              simp only [h34, h43, h28] at hK ⊢
              go_simp
              exact hK _ _ ⟨_, rfl, Reg.KJ.refl _, fun d hd => by cases hd; exact rfl, fun h => by cases h⟩
            · intro z u hku hd
              have h28 : z 28 = .bool false := hd 13 (by decide)
              have h44 : z 44 = .bool false := hd 29 (by decide)
              refine wpOp_step rfl fun KK hK => ?_
              simp only [h28, h44] at hK ⊢
              go_simp
              exact hK _ _ ⟨_, rfl, Reg.KJ.refl _, fun d hd => by cases hd; exact rfl, fun h => by cases h⟩
            · intro z u hku hd
              have h45 : z 45 = .bool false := hd 30 (by decide)
              refine wpOp_step rfl fun KK hK => ?_
              simp only [h45] at hK ⊢
              go_simp
              exact hK _ _ ⟨_, rfl, Reg.KJ.refl _, fun d hd => by cases hd; exact rfl, fun h => by cases h⟩
            · intro z u hku hd
              have h46 : z 46 = .bool false := hd 31 (by decide)
              refine wpOp_step rfl fun KK hK => ?_
              simp only [h46] at hK ⊢
              go_simp
              exact hK _ _ ⟨_, rfl, Reg.KJ.refl _, fun d hd => by cases hd; exact rfl, fun h => by cases h⟩
            · intro z u hku hd
              have h47 : z 47 = .pointer (some ⟨gr, 0, none⟩) := hd 32 (by decide)
              have h46 : z 46 = .bool false := hd 31 (by decide)
              obtain ⟨c0', c1', c2', c3', c4', c7', lr'⟩ := HC.out u hku.below
              refine wpOp_step rfl fun KK hK => ?_
              simp only [h47, h46] at hK ⊢
              go_simp
              exact hK _ _ ⟨_, rfl, Reg.KJ.refl _, fun d hd => by cases hd; exact rfl, fun h => by cases h⟩
            · intro z u hku hd
              have h48 : z 48 = .pointer (some ⟨gr, 0, none⟩) := hd 33 (by decide)
              have h46 : z 46 = .bool false := hd 31 (by decide)
              refine wpOp_step rfl fun KK hK => ?_
              simp only [h48, h46] at hK ⊢
              go_simp
              exact hK _ _ ⟨_, rfl, Reg.KJ.refl _, fun d hd => by cases hd; exact rfl, fun h => by cases h⟩
            · intro z u hku hd
              have h49 : z 49 = .pointer (some ⟨gr, 1, none⟩) := hd 34 (by decide)
              have h46 : z 46 = .bool false := hd 31 (by decide)
              refine wpOp_step rfl fun KK hK => ?_
              simp only [h49, h46] at hK ⊢
              go_simp
              exact hK _ _ ⟨_, rfl, Reg.KJ.refl _, fun d hd => by cases hd; exact rfl, fun h => by cases h⟩
            · intro z u hku hd
              have h50 : z 50 = .pointer (some ⟨gr, 4, none⟩) := hd 35 (by decide)
              have h46 : z 46 = .bool false := hd 31 (by decide)
              obtain ⟨c0', c1', c2', c3', c4', c7', lr'⟩ := HC.out u hku.below
              refine wpOp_step rfl fun KK hK => ?_
              simp only [h50, h46] at hK ⊢
              go_simp
              exact hK _ _ ⟨_, rfl, Reg.KJ.refl _, fun d hd => by cases hd; exact rfl, fun h => by cases h⟩
            · intro z u hku hd
              have h51 : z 51 = .slice F.A F.n F.c := hd 36 (by decide)
              have h46 : z 46 = .bool false := hd 31 (by decide)
              refine wpOp_step rfl fun KK hK => ?_
              simp only [h51, h46] at hK ⊢
              go_simp
              exact hK _ _ ⟨_, rfl, Reg.KJ.refl _, fun d hd => by cases hd; exact rfl, fun h => by cases h⟩
            · intro z u hku hd
              have h52 : z 52 = .int .i64 (F.n : Int) := hd 37 (by decide)
              have h46 : z 46 = .bool false := hd 31 (by decide)
              have hn0 := HEN.out
              refine wpOp_step rfl fun KK hK => ?_
              simp only [h52, h46] at hK ⊢
              go_simp
              exact hK _ _ ⟨_, rfl, Reg.KJ.refl _, fun d hd => by cases hd; exact rfl, fun h => by cases h⟩
            · intro z u hku hd
              have h46 : z 46 = .bool false := hd 31 (by decide)
              have h53 : z 53 = .bool bn := hd 38 (by decide)
              refine wpOp_step rfl fun KK hK => ?_
              simp only [h46, h53] at hK ⊢
              go_simp
              exact hK _ _ ⟨_, rfl, Reg.KJ.refl _, fun d hd => by cases hd; exact rfl, fun h => by cases h⟩
          · intro z u hku hall
            have e54 : z 54 = .bool bn := hall 39 (by decide)
            rw [HEC.out] at e54
            simp only [Reg.frame, Reg.over, Nat.reduceAdd, Nat.reduceLeDiff, decide_true, decide_false, if_true, Bool.false_eq_true, if_false, Bool.and_true, Bool.and_false, e54]
            have HKU := Lib.hid hku.below
            clear hku hall
            go_wp2_with fail
            go_meet
            exact ⟨rfl, Lib.hid (HU.out.on HKU.out)⟩
        · have e43 : ((rw4 : Int) != (k : Int)) = true := by simp; omega
          have H43 := Lib.hid e43
          have HEC : Hid (true = cb) := Lib.hid (by rw [HCB.out, HCL.out, ← HFL.out]; simp [h2])
          clear h2 e43
          refine Reg.wp_slots2 (fun tt => decide (15 ≤ tt) && decide (tt ≤ 54)) (Reg.KJ U.heap.size [] []) (Reg.KJ.drew _ (by simp)) Reg.KJ.trans (by kernel_rfl) (by kernel_rfl) (by kernel_rfl) (fun zz => (Reg.tblK [
            (15, .is (.pointer (some ⟨gr, 0, none⟩))),
            (16, .is (.pointer (some ⟨gr, 0, none⟩))),
            (17, .is (.pointer (some ⟨gr, 1, none⟩))),
            (18, .is (.pointer (some ⟨gr, 2, none⟩))),
            (19, .is (.int .u8 (F.a : Int))),
            (20, .is (.int .i64 (F.a : Int))),
            (21, .is (.pointer (some ⟨gr, 0, none⟩))),
            (22, .is (.pointer (some ⟨gr, 0, none⟩))),
            (23, .is (.pointer (some ⟨gr, 0, none⟩))),
            (24, .is (.int .i64 (N : Int))),
            (25, .is (.int .i64 (ra : Int))),
            (26, .is (.int .i64 (i : Int))),
            (27, .is (.bool false)),
            (28, .is (.bool false)),
            (29, .is (.pointer (some ⟨gr, 0, none⟩))),
            (30, .is (.pointer (some ⟨gr, 0, none⟩))),
            (31, .is (.pointer (some ⟨gr, 1, none⟩))),
            (32, .is (.pointer (some ⟨gr, 1, none⟩))),
            (33, .is (.bool true)),
            (34, .is (.bool true)),
            (35, .is (.pointer (some ⟨gr, 0, none⟩))),
            (36, .is (.pointer (some ⟨gr, 0, none⟩))),
            (37, .is (.pointer (some ⟨gr, 1, none⟩))),
            (38, .is (.pointer (some ⟨gr, 3, none⟩))),
            (39, .is (.int .u8 (F.w : Int))),
            (40, .is (.int .i64 (F.w : Int))),
            (41, .is (.int .i64 (rw4 : Int))),
            (42, .is (.int .i64 (k : Int))),
            (43, .is (.bool true)),
            (44, .is (.bool true)),
            (45, .is (.bool true)),
            (46, .is (.bool true)),
            (47, .is (undef)),
            (48, .is (undef)),
            (49, .is (undef)),
            (50, .is (undef)),
            (51, .is (undef)),
            (52, .is (undef)),
            (53, .is (undef)),
            (54, .is (.bool true))] zz).P) (fun zz => (Reg.tblK _ zz).on) (fun zz => (Reg.memK [] zz).P) (fun zz => (Reg.memK _ zz).on) ?_ ?_
          · simp only [Reg.frame, Reg.over, Nat.reduceAdd, Nat.reduceLeDiff, decide_true, decide_false, if_true, Bool.false_eq_true, if_false, Bool.and_true, Bool.and_false]
            refine ⟨?_, ?_, ?_, ?_, ?_, ?_, ?_, ?_, ?_, ?_, ?_, ?_, ?_, ?_, ?_, ?_, ?_, ?_, ?_, ?_, ?_, ?_, ?_, ?_, ?_, ?_, ?_, ?_, ?_, ?_, ?_, ?_, ?_, ?_, ?_, ?_, ?_, ?_, ?_, ?_, trivial⟩
            · intro z u hku hd
              refine wpOp_step rfl fun KK hK => ?_
              go_simp
              exact hK _ _ ⟨_, rfl, Reg.KJ.refl _, fun d hd => by cases hd; exact rfl, fun h => by cases h⟩
            · intro z u hku hd
              have h15 : z 15 = .pointer (some ⟨gr, 0, none⟩) := hd 0 (by decide)
              obtain ⟨c0', c1', c2', c3', c4', c7', lr'⟩ := HC.out u hku.below
              refine wpOp_step rfl fun KK hK => ?_
              simp only [h15] at hK ⊢
              go_simp
              exact hK _ _ ⟨_, rfl, Reg.KJ.refl _, fun d hd => by cases hd; exact rfl, fun h => by cases h⟩
            · intro z u hku hd
              have h16 : z 16 = .pointer (some ⟨gr, 0, none⟩) := hd 1 (by decide)
              refine wpOp_step rfl fun KK hK => ?_
              simp only [h16] at hK ⊢
              go_simp
              exact hK _ _ ⟨_, rfl, Reg.KJ.refl _, fun d hd => by cases hd; exact rfl, fun h => by cases h⟩
            · intro z u hku hd
              have h17 : z 17 = .pointer (some ⟨gr, 1, none⟩) := hd 2 (by decide)
              refine wpOp_step rfl fun KK hK => ?_
              simp only [h17] at hK ⊢
              go_simp
              exact hK _ _ ⟨_, rfl, Reg.KJ.refl _, fun d hd => by cases hd; exact rfl, fun h => by cases h⟩
            · intro z u hku hd
              have h18 : z 18 = .pointer (some ⟨gr, 2, none⟩) := hd 3 (by decide)
              obtain ⟨c0', c1', c2', c3', c4', c7', lr'⟩ := HC.out u hku.below
              refine wpOp_step rfl fun KK hK => ?_
              simp only [h18] at hK ⊢
              go_simp
              exact hK _ _ ⟨_, rfl, Reg.KJ.refl _, fun d hd => by cases hd; exact rfl, fun h => by cases h⟩
            · intro z u hku hd
              have h19 : z 19 = .int .u8 (F.a : Int) := hd 4 (by decide)
              have hq := HEQ.out.2.2.2
              refine wpOp_step rfl fun KK hK => ?_
              simp only [h19] at hK ⊢
              go_simp
              exact hK _ _ ⟨_, rfl, Reg.KJ.refl _, fun d hd => by cases hd; exact rfl, fun h => by cases h⟩
            · intro z u hku hd
              refine wpOp_step rfl fun KK hK => ?_
              go_simp
              exact hK _ _ ⟨_, rfl, Reg.KJ.refl _, fun d hd => by cases hd; exact rfl, fun h => by cases h⟩
            · intro z u hku hd
              have h21 : z 21 = .pointer (some ⟨gr, 0, none⟩) := hd 6 (by decide)
              obtain ⟨c0', c1', c2', c3', c4', c7', lr'⟩ := HC.out u hku.below
              refine wpOp_step rfl fun KK hK => ?_
              simp only [h21] at hK ⊢
              go_simp
              exact hK _ _ ⟨_, rfl, Reg.KJ.refl _, fun d hd => by cases hd; exact rfl, fun h => by cases h⟩
            · intro z u hku hd
              have h22 : z 22 = .pointer (some ⟨gr, 0, none⟩) := hd 7 (by decide)
              refine wpOp_step rfl fun KK hK => ?_
              simp only [h22] at hK ⊢
              go_simp
              exact hK _ _ ⟨_, rfl, Reg.KJ.refl _, fun d hd => by cases hd; exact rfl, fun h => by cases h⟩
            · intro z u hku hd
              have h23 : z 23 = .pointer (some ⟨gr, 0, none⟩) := hd 8 (by decide)
              obtain ⟨c0', c1', c2', c3', c4', c7', lr'⟩ := HC.out u hku.below
              refine wpOp_step rfl fun KK hK => ?_
              simp only [h23] at hK ⊢
              go_simp
              exact hK _ _ ⟨_, rfl, Reg.KJ.refl _, fun d hd => by cases hd; exact rfl, fun h => by cases h⟩
            · intro z u hku hd
              have h20 : z 20 = .int .i64 (F.a : Int) := hd 5 (by decide)
              have h24 : z 24 = .int .i64 (N : Int) := hd 9 (by decide)
              have h1 := HEQ.out.1
              have h2 := HEQ.out.2.1
              have h3 : N ≠ 0 := HNZ.out
              have h4 := HEQ.out.2.2.1
              refine wpOp_step rfl fun KK hK => ?_
              simp only [h20, h24] at hK ⊢
              go_simp
              exact hK _ _ ⟨_, rfl, Reg.KJ.refl _, fun d hd => by cases hd; exact rfl, fun h => by cases h⟩
            · intro z u hku hd
              refine wpOp_step rfl fun KK hK => ?_
              go_simp
              exact hK _ _ ⟨_, rfl, Reg.KJ.refl _, fun d hd => by cases hd; exact rfl, fun h => by cases h⟩
            · intro z u hku hd
              have h25 : z 25 = .int .i64 (ra : Int) := hd 10 (by decide)
              have h26 : z 26 = .int .i64 (i : Int) := hd 11 (by decide)
              have h1 := H27.out
              refine wpOp_step rfl fun KK hK => ?_
              simp only [h25, h26] at hK ⊢
              go_simp
              exact hK _ _ ⟨_, rfl, Reg.KJ.refl _, fun d hd => by cases hd; exact rfl, fun h => by cases h⟩
            · intro z u hku hd
              have h27 : z 27 = .bool false := hd 12 (by decide)
              refine wpOp_step rfl fun KK hK => ?_
              simp only [h27] at hK ⊢
              go_simp
              exact hK _ _ ⟨_, rfl, Reg.KJ.refl _, fun d hd => by cases hd; exact rfl, fun h => by cases h⟩
            · intro z u hku hd
              have h28 : z 28 = .bool false := hd 13 (by decide)
              refine wpOp_step rfl fun KK hK => ?_
              simp only [h28] at hK ⊢
              go_simp
              exact hK _ _ ⟨_, rfl, Reg.KJ.refl _, fun d hd => by cases hd; exact rfl, fun h => by cases h⟩
            · intro z u hku hd
              have h29 : z 29 = .pointer (some ⟨gr, 0, none⟩) := hd 14 (by decide)
              have h28 : z 28 = .bool false := hd 13 (by decide)
              obtain ⟨c0', c1', c2', c3', c4', c7', lr'⟩ := HC.out u hku.below
              refine wpOp_step rfl fun KK hK => ?_
              simp only [h29, h28] at hK ⊢
              go_simp
              exact hK _ _ ⟨_, rfl, Reg.KJ.refl _, fun d hd => by cases hd; exact rfl, fun h => by cases h⟩
            · intro z u hku hd
              have h30 : z 30 = .pointer (some ⟨gr, 0, none⟩) := hd 15 (by decide)
              have h28 : z 28 = .bool false := hd 13 (by decide)
              refine wpOp_step rfl fun KK hK => ?_
              simp only [h30, h28] at hK ⊢
              go_simp
              exact hK _ _ ⟨_, rfl, Reg.KJ.refl _, fun d hd => by cases hd; exact rfl, fun h => by cases h⟩
            · intro z u hku hd
              have h31 : z 31 = .pointer (some ⟨gr, 1, none⟩) := hd 16 (by decide)
              have h28 : z 28 = .bool false := hd 13 (by decide)
              refine wpOp_step rfl fun KK hK => ?_
              simp only [h31, h28] at hK ⊢
              go_simp
              exact hK _ _ ⟨_, rfl, Reg.KJ.refl _, fun d hd => by cases hd; exact rfl, fun h => by cases h⟩
            · intro z u hku hd
              have h32 : z 32 = .pointer (some ⟨gr, 1, none⟩) := hd 17 (by decide)
              have h28 : z 28 = .bool false := hd 13 (by decide)
              obtain ⟨c0', c1', c2', c3', c4', c7', lr'⟩ := HC.out u hku.below
              rw [← HFL.out] at c1'
              refine wpOp_step rfl fun KK hK => ?_
              simp only [h32, h28] at hK ⊢
              go_simp
              exact hK _ _ ⟨_, rfl, Reg.KJ.refl _, fun d hd => by cases hd; exact rfl, fun h => by cases h⟩
            · intro z u hku hd
              have h33 : z 33 = .bool true := hd 18 (by decide)
              have h28 : z 28 = .bool false := hd 13 (by decide)
              refine wpOp_step rfl fun KK hK => ?_
              simp only [h33, h28] at hK ⊢
              go_simp
              exact hK _ _ ⟨_, rfl, Reg.KJ.refl _, fun d hd => by cases hd; exact rfl, fun h => by cases h⟩
            · intro z u hku hd
              have h34 : z 34 = .bool true := hd 19 (by decide)
              refine wpOp_step rfl fun KK hK => ?_
              simp only [h34] at hK ⊢
              go_simp
              exact hK _ _ ⟨_, rfl, Reg.KJ.refl _, fun d hd => by cases hd; exact rfl, fun h => by cases h⟩
            · intro z u hku hd
              have h35 : z 35 = .pointer (some ⟨gr, 0, none⟩) := hd 20 (by decide)
              have h34 : z 34 = .bool true := hd 19 (by decide)
              obtain ⟨c0', c1', c2', c3', c4', c7', lr'⟩ := HC.out u hku.below
              refine wpOp_step rfl fun KK hK => ?_
              simp only [h35, h34] at hK ⊢
              go_simp
              exact hK _ _ ⟨_, rfl, Reg.KJ.refl _, fun d hd => by cases hd; exact rfl, fun h => by cases h⟩
            · intro z u hku hd
              have h36 : z 36 = .pointer (some ⟨gr, 0, none⟩) := hd 21 (by decide)
              have h34 : z 34 = .bool true := hd 19 (by decide)
              refine wpOp_step rfl fun KK hK => ?_
              simp only [h36, h34] at hK ⊢
              go_simp
              exact hK _ _ ⟨_, rfl, Reg.KJ.refl _, fun d hd => by cases hd; exact rfl, fun h => by cases h⟩
            · intro z u hku hd
              have h37 : z 37 = .pointer (some ⟨gr, 1, none⟩) := hd 22 (by decide)
              have h34 : z 34 = .bool true := hd 19 (by decide)
              refine wpOp_step rfl fun KK hK => ?_
              simp only [h37, h34] at hK ⊢
              go_simp
              exact hK _ _ ⟨_, rfl, Reg.KJ.refl _, fun d hd => by cases hd; exact rfl, fun h => by cases h⟩
            · intro z u hku hd
              have h38 : z 38 = .pointer (some ⟨gr, 3, none⟩) := hd 23 (by decide)
              have h34 : z 34 = .bool true := hd 19 (by decide)
              obtain ⟨c0', c1', c2', c3', c4', c7', lr'⟩ := HC.out u hku.below
              refine wpOp_step rfl fun KK hK => ?_
              simp only [h38, h34] at hK ⊢
              go_simp
              exact hK _ _ ⟨_, rfl, Reg.KJ.refl _, fun d hd => by cases hd; exact rfl, fun h => by cases h⟩
            · intro z u hku hd
              have h39 : z 39 = .int .u8 (F.w : Int) := hd 24 (by decide)
              have h34 : z 34 = .bool true := hd 19 (by decide)
              have hq := HEW.out.2.2.2
              refine wpOp_step rfl fun KK hK => ?_
              simp only [h39, h34] at hK ⊢
              go_simp
              exact hK _ _ ⟨_, rfl, Reg.KJ.refl _, fun d hd => by cases hd; exact rfl, fun h => by cases h⟩
            · intro z u hku hd
              have h40 : z 40 = .int .i64 (F.w : Int) := hd 25 (by decide)
              have h34 : z 34 = .bool true := hd 19 (by decide)
              have h1 := HEW.out.1
              have h2 := HEW.out.2.1
              have h4 := HEW.out.2.2.1
              refine wpOp_step rfl fun KK hK => ?_
              simp only [h40, h34] at hK ⊢
              go_simp
              exact hK _ _ ⟨_, rfl, Reg.KJ.refl _, fun d hd => by cases hd; exact rfl, fun h => by cases h⟩
            · intro z u hku hd
              have h34 : z 34 = .bool true := hd 19 (by decide)
              refine wpOp_step rfl fun KK hK => ?_
              simp only [h34] at hK ⊢
              go_simp
              exact hK _ _ ⟨_, rfl, Reg.KJ.refl _, fun d hd => by cases hd; exact rfl, fun h => by cases h⟩
            · intro z u hku hd
              have h41 : z 41 = .int .i64 (rw4 : Int) := hd 26 (by decide)
              have h42 : z 42 = .int .i64 (k : Int) := hd 27 (by decide)
              have h34 : z 34 = .bool true := hd 19 (by decide)
              have h1 := H43.out
              refine wpOp_step rfl fun KK hK => ?_
              simp only [h41, h42, h34] at hK ⊢
              go_simp
              exact hK _ _ ⟨_, rfl, Reg.KJ.refl _, fun d hd => by cases hd; exact rfl, fun h => by cases h⟩
            · intro z u hku hd
              have h34 : z 34 = .bool true := hd 19 (by decide)
              have h43 : z 43 = .bool true := hd 28 (by decide)
              have h28 : z 28 = .bool false := hd 13 (by decide)
              refine wpOp_step rfl fun KK hK => ?_
              simp only [h34, h43, h28] at hK ⊢
              go_simp
              exact hK _ _ ⟨_, rfl, Reg.KJ.refl _, fun d hd => by cases hd; exact rfl, fun h => by cases h⟩
            · intro z u hku hd
              have h28 : z 28 = .bool false := hd 13 (by decide)
              have h44 : z 44 = .bool true := hd 29 (by decide)
              refine wpOp_step rfl fun KK hK => ?_
              simp only [h28, h44] at hK ⊢
              go_simp
              exact hK _ _ ⟨_, rfl, Reg.KJ.refl _, fun d hd => by cases hd; exact rfl, fun h => by cases h⟩
            · intro z u hku hd
              have h45 : z 45 = .bool true := hd 30 (by decide)
              refine wpOp_step rfl fun KK hK => ?_
              simp only [h45] at hK ⊢
              go_simp
              exact hK _ _ ⟨_, rfl, Reg.KJ.refl _, fun d hd => by cases hd; exact rfl, fun h => by cases h⟩
            · intro z u hku hd
              have h46 : z 46 = .bool true := hd 31 (by decide)
              refine wpOp_step rfl fun KK hK => ?_
              simp only [h46] at hK ⊢
              go_simp
              exact hK _ _ ⟨_, rfl, Reg.KJ.refl _, fun d hd => by cases hd; exact rfl, fun h => by cases h⟩
            · intro z u hku hd
              have h47 : z 47 = undef := hd 32 (by decide)
              have h46 : z 46 = .bool true := hd 31 (by decide)
              refine wpOp_step rfl fun KK hK => ?_
              simp only [h47, h46] at hK ⊢
              go_simp
              exact hK _ _ ⟨_, rfl, Reg.KJ.refl _, fun d hd => by cases hd; exact rfl, fun h => by cases h⟩
            · intro z u hku hd
              have h48 : z 48 = undef := hd 33 (by decide)
              have h46 : z 46 = .bool true := hd 31 (by decide)
              refine wpOp_step rfl fun KK hK => ?_
              simp only [h48, h46] at hK ⊢
              go_simp
              exact hK _ _ ⟨_, rfl, Reg.KJ.refl _, fun d hd => by cases hd; exact rfl, fun h => by cases h⟩
            · intro z u hku hd
              have h49 : z 49 = undef := hd 34 (by decide)
              have h46 : z 46 = .bool true := hd 31 (by decide)
              refine wpOp_step rfl fun KK hK => ?_
              simp only [h49, h46] at hK ⊢
              go_simp
              exact hK _ _ ⟨_, rfl, Reg.KJ.refl _, fun d hd => by cases hd; exact rfl, fun h => by cases h⟩
            · intro z u hku hd
              have h50 : z 50 = undef := hd 35 (by decide)
              have h46 : z 46 = .bool true := hd 31 (by decide)
              refine wpOp_step rfl fun KK hK => ?_
              simp only [h50, h46] at hK ⊢
              go_simp
              exact hK _ _ ⟨_, rfl, Reg.KJ.refl _, fun d hd => by cases hd; exact rfl, fun h => by cases h⟩
            · intro z u hku hd
              have h51 : z 51 = undef := hd 36 (by decide)
              have h46 : z 46 = .bool true := hd 31 (by decide)
              refine wpOp_step rfl fun KK hK => ?_
              simp only [h51, h46] at hK ⊢
              go_simp
              exact hK _ _ ⟨_, rfl, Reg.KJ.refl _, fun d hd => by cases hd; exact rfl, fun h => by cases h⟩
            · intro z u hku hd
              have h52 : z 52 = undef := hd 37 (by decide)
              have h46 : z 46 = .bool true := hd 31 (by decide)
              refine wpOp_step rfl fun KK hK => ?_
              simp only [h52, h46] at hK ⊢
              go_simp
              exact hK _ _ ⟨_, rfl, Reg.KJ.refl _, fun d hd => by cases hd; exact rfl, fun h => by cases h⟩
            · intro z u hku hd
              have h46 : z 46 = .bool true := hd 31 (by decide)
              have h53 : z 53 = undef := hd 38 (by decide)
              refine wpOp_step rfl fun KK hK => ?_
              simp only [h46, h53] at hK ⊢
              go_simp
              exact hK _ _ ⟨_, rfl, Reg.KJ.refl _, fun d hd => by cases hd; exact rfl, fun h => by cases h⟩
          · intro z u hku hall
            have e54 : z 54 = .bool true := hall 39 (by decide)
            rw [HEC.out] at e54
            simp only [Reg.frame, Reg.over, Nat.reduceAdd, Nat.reduceLeDiff, decide_true, decide_false, if_true, Bool.false_eq_true, if_false, Bool.and_true, Bool.and_false, e54]
            have HKU := Lib.hid hku.below
            clear hku hall
            go_wp2_with fail
            go_meet
            exact ⟨rfl, Lib.hid (HU.out.on HKU.out)⟩
      | false =>
        have HEC : Hid (bn = cb) := Lib.hid (by rw [HCB.out, HCL.out, ← HFL.out, HRI.out]; simp)
        refine Reg.wp_slots2 (fun tt => decide (15 ≤ tt) && decide (tt ≤ 54)) (Reg.KJ U.heap.size [] []) (Reg.KJ.drew _ (by simp)) Reg.KJ.trans (by kernel_rfl) (by kernel_rfl) (by kernel_rfl) (fun zz => (Reg.tblK [
          (15, .is (.pointer (some ⟨gr, 0, none⟩))),
          (16, .is (.pointer (some ⟨gr, 0, none⟩))),
          (17, .is (.pointer (some ⟨gr, 1, none⟩))),
          (18, .is (.pointer (some ⟨gr, 2, none⟩))),
          (19, .is (.int .u8 (F.a : Int))),
          (20, .is (.int .i64 (F.a : Int))),
          (21, .is (.pointer (some ⟨gr, 0, none⟩))),
          (22, .is (.pointer (some ⟨gr, 0, none⟩))),
          (23, .is (.pointer (some ⟨gr, 0, none⟩))),
          (24, .is (.int .i64 (N : Int))),
          (25, .is (.int .i64 (ra : Int))),
          (26, .is (.int .i64 (i : Int))),
          (27, .is (.bool false)),
          (28, .is (.bool false)),
          (29, .is (.pointer (some ⟨gr, 0, none⟩))),
          (30, .is (.pointer (some ⟨gr, 0, none⟩))),
          (31, .is (.pointer (some ⟨gr, 1, none⟩))),
          (32, .is (.pointer (some ⟨gr, 1, none⟩))),
          (33, .is (.bool false)),
          (34, .is (.bool false)),
          (35, .is (undef)),
          (36, .is (undef)),
          (37, .is (undef)),
          (38, .is (undef)),
          (39, .is (undef)),
          (40, .is (undef)),
          (41, .is (undef)),
          (42, .is (undef)),
          (43, .is (undef)),
          (44, .is (.bool false)),
          (45, .is (.bool false)),
          (46, .is (.bool false)),
          (47, .is (.pointer (some ⟨gr, 0, none⟩))),
          (48, .is (.pointer (some ⟨gr, 0, none⟩))),
          (49, .is (.pointer (some ⟨gr, 1, none⟩))),
          (50, .is (.pointer (some ⟨gr, 4, none⟩))),
          (51, .is (.slice F.A F.n F.c)),
          (52, .is (.int .i64 (F.n : Int))),
          (53, .is (.bool bn)),
          (54, .is (.bool bn))] zz).P) (fun zz => (Reg.tblK _ zz).on) (fun zz => (Reg.memK [] zz).P) (fun zz => (Reg.memK _ zz).on) ?_ ?_
        · simp only [Reg.frame, Reg.over, Nat.reduceAdd, Nat.reduceLeDiff, decide_true, decide_false, if_true, Bool.false_eq_true, if_false, Bool.and_true, Bool.and_false]
          refine ⟨?_, ?_, ?_, ?_, ?_, ?_, ?_, ?_, ?_, ?_, ?_, ?_, ?_, ?_, ?_, ?_, ?_, ?_, ?_, ?_, ?_, ?_, ?_, ?_, ?_, ?_, ?_, ?_, ?_, ?_, ?_, ?_, ?_, ?_, ?_, ?_, ?_, ?_, ?_, ?_, trivial⟩
          · intro z u hku hd
            refine wpOp_step rfl fun KK hK => ?_
            go_simp
            exact hK _ _ ⟨_, rfl, Reg.KJ.refl _, fun d hd => by cases hd; exact rfl, fun h => by cases h⟩
          · intro z u hku hd
            have h15 : z 15 = .pointer (some ⟨gr, 0, none⟩) := hd 0 (by decide)
            obtain ⟨c0', c1', c2', c3', c4', c7', lr'⟩ := HC.out u hku.below
            refine wpOp_step rfl fun KK hK => ?_
            simp only [h15] at hK ⊢
            go_simp
            exact hK _ _ ⟨_, rfl, Reg.KJ.refl _, fun d hd => by cases hd; exact rfl, fun h => by cases h⟩
          · intro z u hku hd
            have h16 : z 16 = .pointer (some ⟨gr, 0, none⟩) := hd 1 (by decide)
            refine wpOp_step rfl fun KK hK => ?_
            simp only [h16] at hK ⊢
            go_simp
            exact hK _ _ ⟨_, rfl, Reg.KJ.refl _, fun d hd => by cases hd; exact rfl, fun h => by cases h⟩
          · intro z u hku hd
            have h17 : z 17 = .pointer (some ⟨gr, 1, none⟩) := hd 2 (by decide)
            refine wpOp_step rfl fun KK hK => ?_
            simp only [h17] at hK ⊢
            go_simp
            exact hK _ _ ⟨_, rfl, Reg.KJ.refl _, fun d hd => by cases hd; exact rfl, fun h => by cases h⟩
          · intro z u hku hd
            have h18 : z 18 = .pointer (some ⟨gr, 2, none⟩) := hd 3 (by decide)
            obtain ⟨c0', c1', c2', c3', c4', c7', lr'⟩ := HC.out u hku.below
            refine wpOp_step rfl fun KK hK => ?_
            simp only [h18] at hK ⊢
            go_simp
            exact hK _ _ ⟨_, rfl, Reg.KJ.refl _, fun d hd => by cases hd; exact rfl, fun h => by cases h⟩
          · intro z u hku hd
            have h19 : z 19 = .int .u8 (F.a : Int) := hd 4 (by decide)
            have hq := HEQ.out.2.2.2
            refine wpOp_step rfl fun KK hK => ?_
            simp only [h19] at hK ⊢
            go_simp
            exact hK _ _ ⟨_, rfl, Reg.KJ.refl _, fun d hd => by cases hd; exact rfl, fun h => by cases h⟩
          · intro z u hku hd
            refine wpOp_step rfl fun KK hK => ?_
            go_simp
            exact hK _ _ ⟨_, rfl, Reg.KJ.refl _, fun d hd => by cases hd; exact rfl, fun h => by cases h⟩
          · intro z u hku hd
            have h21 : z 21 = .pointer (some ⟨gr, 0, none⟩) := hd 6 (by decide)
            obtain ⟨c0', c1', c2', c3', c4', c7', lr'⟩ := HC.out u hku.below
            refine wpOp_step rfl fun KK hK => ?_
            simp only [h21] at hK ⊢
            go_simp
            exact hK _ _ ⟨_, rfl, Reg.KJ.refl _, fun d hd => by cases hd; exact rfl, fun h => by cases h⟩
          · intro z u hku hd
            have h22 : z 22 = .pointer (some ⟨gr, 0, none⟩) := hd 7 (by decide)
            refine wpOp_step rfl fun KK hK => ?_
            simp only [h22] at hK ⊢
            go_simp
            exact hK _ _ ⟨_, rfl, Reg.KJ.refl _, fun d hd => by cases hd; exact rfl, fun h => by cases h⟩
          · intro z u hku hd
            have h23 : z 23 = .pointer (some ⟨gr, 0, none⟩) := hd 8 (by decide)
            obtain ⟨c0', c1', c2', c3', c4', c7', lr'⟩ := HC.out u hku.below
            refine wpOp_step rfl fun KK hK => ?_
            simp only [h23] at hK ⊢
            go_simp
            exact hK _ _ ⟨_, rfl, Reg.KJ.refl _, fun d hd => by cases hd; exact rfl, fun h => by cases h⟩
          · intro z u hku hd
            have h20 : z 20 = .int .i64 (F.a : Int) := hd 5 (by decide)
            have h24 : z 24 = .int .i64 (N : Int) := hd 9 (by decide)
            have h1 := HEQ.out.1
            have h2 := HEQ.out.2.1
            have h3 : N ≠ 0 := HNZ.out
            have h4 := HEQ.out.2.2.1
            refine wpOp_step rfl fun KK hK => ?_
            simp only [h20, h24] at hK ⊢
            go_simp
            exact hK _ _ ⟨_, rfl, Reg.KJ.refl _, fun d hd => by cases hd; exact rfl, fun h => by cases h⟩
          · intro z u hku hd
            refine wpOp_step rfl fun KK hK => ?_
            go_simp
            exact hK _ _ ⟨_, rfl, Reg.KJ.refl _, fun d hd => by cases hd; exact rfl, fun h => by cases h⟩
          · intro z u hku hd
            have h25 : z 25 = .int .i64 (ra : Int) := hd 10 (by decide)
            have h26 : z 26 = .int .i64 (i : Int) := hd 11 (by decide)
            have h1 := H27.out
            refine wpOp_step rfl fun KK hK => ?_
            simp only [h25, h26] at hK ⊢
            go_simp
            exact hK _ _ ⟨_, rfl, Reg.KJ.refl _, fun d hd => by cases hd; exact rfl, fun h => by cases h⟩
          · intro z u hku hd
            have h27 : z 27 = .bool false := hd 12 (by decide)
            refine wpOp_step rfl fun KK hK => ?_
            simp only [h27] at hK ⊢
            go_simp
            exact hK _ _ ⟨_, rfl, Reg.KJ.refl _, fun d hd => by cases hd; exact rfl, fun h => by cases h⟩
          · intro z u hku hd
            have h28 : z 28 = .bool false := hd 13 (by decide)
            refine wpOp_step rfl fun KK hK => ?_
            simp only [h28] at hK ⊢
            go_simp
            exact hK _ _ ⟨_, rfl, Reg.KJ.refl _, fun d hd => by cases hd; exact rfl, fun h => by cases h⟩
          · intro z u hku hd
            have h29 : z 29 = .pointer (some ⟨gr, 0, none⟩) := hd 14 (by decide)
            have h28 : z 28 = .bool false := hd 13 (by decide)
            obtain ⟨c0', c1', c2', c3', c4', c7', lr'⟩ := HC.out u hku.below
            refine wpOp_step rfl fun KK hK => ?_
            simp only [h29, h28] at hK ⊢
            go_simp
            exact hK _ _ ⟨_, rfl, Reg.KJ.refl _, fun d hd => by cases hd; exact rfl, fun h => by cases h⟩
          · intro z u hku hd
            have h30 : z 30 = .pointer (some ⟨gr, 0, none⟩) := hd 15 (by decide)
            have h28 : z 28 = .bool false := hd 13 (by decide)
            refine wpOp_step rfl fun KK hK => ?_
            simp only [h30, h28] at hK ⊢
            go_simp
            exact hK _ _ ⟨_, rfl, Reg.KJ.refl _, fun d hd => by cases hd; exact rfl, fun h => by cases h⟩
          · intro z u hku hd
            have h31 : z 31 = .pointer (some ⟨gr, 1, none⟩) := hd 16 (by decide)
            have h28 : z 28 = .bool false := hd 13 (by decide)
            refine wpOp_step rfl fun KK hK => ?_
            simp only [h31, h28] at hK ⊢
            go_simp
            exact hK _ _ ⟨_, rfl, Reg.KJ.refl _, fun d hd => by cases hd; exact rfl, fun h => by cases h⟩
          · intro z u hku hd
            have h32 : z 32 = .pointer (some ⟨gr, 1, none⟩) := hd 17 (by decide)
            have h28 : z 28 = .bool false := hd 13 (by decide)
            obtain ⟨c0', c1', c2', c3', c4', c7', lr'⟩ := HC.out u hku.below
            rw [← HFL.out] at c1'
            refine wpOp_step rfl fun KK hK => ?_
            simp only [h32, h28] at hK ⊢
            go_simp
            exact hK _ _ ⟨_, rfl, Reg.KJ.refl _, fun d hd => by cases hd; exact rfl, fun h => by cases h⟩
          · intro z u hku hd
            have h33 : z 33 = .bool false := hd 18 (by decide)
            have h28 : z 28 = .bool false := hd 13 (by decide)
            refine wpOp_step rfl fun KK hK => ?_
            simp only [h33, h28] at hK ⊢
            go_simp
            exact hK _ _ ⟨_, rfl, Reg.KJ.refl _, fun d hd => by cases hd; exact rfl, fun h => by cases h⟩
          · intro z u hku hd
            have h34 : z 34 = .bool false := hd 19 (by decide)
            refine wpOp_step rfl fun KK hK => ?_
            simp only [h34] at hK ⊢
            go_simp
            exact hK _ _ ⟨_, rfl, Reg.KJ.refl _, fun d hd => by cases hd; exact rfl, fun h => by cases h⟩
          · intro z u hku hd
            have h35 : z 35 = undef := hd 20 (by decide)
            have h34 : z 34 = .bool false := hd 19 (by decide)
            refine wpOp_step rfl fun KK hK => ?_
            simp only [h35, h34] at hK ⊢
            go_simp
            exact hK _ _ ⟨_, rfl, Reg.KJ.refl _, fun d hd => by cases hd; exact rfl, fun h => by cases h⟩
          · intro z u hku hd
            have h36 : z 36 = undef := hd 21 (by decide)
            have h34 : z 34 = .bool false := hd 19 (by decide)
            refine wpOp_step rfl fun KK hK => ?_
            simp only [h36, h34] at hK ⊢
            go_simp
            exact hK _ _ ⟨_, rfl, Reg.KJ.refl _, fun d hd => by cases hd; exact rfl, fun h => by cases h⟩
          · intro z u hku hd
            have h37 : z 37 = undef := hd 22 (by decide)
            have h34 : z 34 = .bool false := hd 19 (by decide)
            refine wpOp_step rfl fun KK hK => ?_
            simp only [h37, h34] at hK ⊢
            go_simp
            exact hK _ _ ⟨_, rfl, Reg.KJ.refl _, fun d hd => by cases hd; exact rfl, fun h => by cases h⟩
          · intro z u hku hd
            have h38 : z 38 = undef := hd 23 (by decide)
            have h34 : z 34 = .bool false := hd 19 (by decide)
            refine wpOp_step rfl fun KK hK => ?_
            simp only [h38, h34] at hK ⊢
            go_simp
            exact hK _ _ ⟨_, rfl, Reg.KJ.refl _, fun d hd => by cases hd; exact rfl, fun h => by cases h⟩
          · intro z u hku hd
            have h39 : z 39 = undef := hd 24 (by decide)
            have h34 : z 34 = .bool false := hd 19 (by decide)
            refine wpOp_step rfl fun KK hK => ?_
            simp only [h39, h34] at hK ⊢
            go_simp
            exact hK _ _ ⟨_, rfl, Reg.KJ.refl _, fun d hd => by cases hd; exact rfl, fun h => by cases h⟩
          · intro z u hku hd
            have h40 : z 40 = undef := hd 25 (by decide)
            have h34 : z 34 = .bool false := hd 19 (by decide)
            refine wpOp_step rfl fun KK hK => ?_
            simp only [h40, h34] at hK ⊢
            go_simp
            exact hK _ _ ⟨_, rfl, Reg.KJ.refl _, fun d hd => by cases hd; exact rfl, fun h => by cases h⟩
          · intro z u hku hd
            have h34 : z 34 = .bool false := hd 19 (by decide)
            refine wpOp_step rfl fun KK hK => ?_
            simp only [h34] at hK ⊢
            go_simp
            exact hK _ _ ⟨_, rfl, Reg.KJ.refl _, fun d hd => by cases hd; exact rfl, fun h => by cases h⟩
          · intro z u hku hd
            have h41 : z 41 = undef := hd 26 (by decide)
            have h42 : z 42 = undef := hd 27 (by decide)
            have h34 : z 34 = .bool false := hd 19 (by decide)
            refine wpOp_step rfl fun KK hK => ?_
            simp only [h41, h42, h34] at hK ⊢
            go_simp
            exact hK _ _ ⟨_, rfl, Reg.KJ.refl _, fun d hd => by cases hd; exact rfl, fun h => by cases h⟩
          · intro z u hku hd
            have h34 : z 34 = .bool false := hd 19 (by decide)
            have h43 : z 43 = undef := hd 28 (by decide)
            have h28 : z 28 = .bool false := hd 13 (by decide)
            refine wpOp_step rfl fun KK hK => ?_
            simp only [h34, h43, h28] at hK ⊢
            go_simp
            exact hK _ _ ⟨_, rfl, Reg.KJ.refl _, fun d hd => by cases hd; exact rfl, fun h => by cases h⟩
          · intro z u hku hd
            have h28 : z 28 = .bool false := hd 13 (by decide)
            have h44 : z 44 = .bool false := hd 29 (by decide)
            refine wpOp_step rfl fun KK hK => ?_
            simp only [h28, h44] at hK ⊢
            go_simp
            exact hK _ _ ⟨_, rfl, Reg.KJ.refl _, fun d hd => by cases hd; exact rfl, fun h => by cases h⟩
          · intro z u hku hd
            have h45 : z 45 = .bool false := hd 30 (by decide)
            refine wpOp_step rfl fun KK hK => ?_
            simp only [h45] at hK ⊢
            go_simp
            exact hK _ _ ⟨_, rfl, Reg.KJ.refl _, fun d hd => by cases hd; exact rfl, fun h => by cases h⟩
          · intro z u hku hd
            have h46 : z 46 = .bool false := hd 31 (by decide)
            refine wpOp_step rfl fun KK hK => ?_
            simp only [h46] at hK ⊢
            go_simp
            exact hK _ _ ⟨_, rfl, Reg.KJ.refl _, fun d hd => by cases hd; exact rfl, fun h => by cases h⟩
          · intro z u hku hd
            have h47 : z 47 = .pointer (some ⟨gr, 0, none⟩) := hd 32 (by decide)
            have h46 : z 46 = .bool false := hd 31 (by decide)
            obtain ⟨c0', c1', c2', c3', c4', c7', lr'⟩ := HC.out u hku.below
            refine wpOp_step rfl fun KK hK => ?_
            simp only [h47, h46] at hK ⊢
            go_simp
            exact hK _ _ ⟨_, rfl, Reg.KJ.refl _, fun d hd => by cases hd; exact rfl, fun h => by cases h⟩
          · intro z u hku hd
            have h48 : z 48 = .pointer (some ⟨gr, 0, none⟩) := hd 33 (by decide)
            have h46 : z 46 = .bool false := hd 31 (by decide)
            refine wpOp_step rfl fun KK hK => ?_
            simp only [h48, h46] at hK ⊢
            go_simp
            exact hK _ _ ⟨_, rfl, Reg.KJ.refl _, fun d hd => by cases hd; exact rfl, fun h => by cases h⟩
          · intro z u hku hd
            have h49 : z 49 = .pointer (some ⟨gr, 1, none⟩) := hd 34 (by decide)
            have h46 : z 46 = .bool false := hd 31 (by decide)
            refine wpOp_step rfl fun KK hK => ?_
            simp only [h49, h46] at hK ⊢
            go_simp
            exact hK _ _ ⟨_, rfl, Reg.KJ.refl _, fun d hd => by cases hd; exact rfl, fun h => by cases h⟩
          · intro z u hku hd
            have h50 : z 50 = .pointer (some ⟨gr, 4, none⟩) := hd 35 (by decide)
            have h46 : z 46 = .bool false := hd 31 (by decide)
            obtain ⟨c0', c1', c2', c3', c4', c7', lr'⟩ := HC.out u hku.below
            refine wpOp_step rfl fun KK hK => ?_
            simp only [h50, h46] at hK ⊢
            go_simp
            exact hK _ _ ⟨_, rfl, Reg.KJ.refl _, fun d hd => by cases hd; exact rfl, fun h => by cases h⟩
          · intro z u hku hd
            have h51 : z 51 = .slice F.A F.n F.c := hd 36 (by decide)
            have h46 : z 46 = .bool false := hd 31 (by decide)
            refine wpOp_step rfl fun KK hK => ?_
            simp only [h51, h46] at hK ⊢
            go_simp
            exact hK _ _ ⟨_, rfl, Reg.KJ.refl _, fun d hd => by cases hd; exact rfl, fun h => by cases h⟩
          · intro z u hku hd
            have h52 : z 52 = .int .i64 (F.n : Int) := hd 37 (by decide)
            have h46 : z 46 = .bool false := hd 31 (by decide)
            have hn0 := HEN.out
            refine wpOp_step rfl fun KK hK => ?_
            simp only [h52, h46] at hK ⊢
            go_simp
            exact hK _ _ ⟨_, rfl, Reg.KJ.refl _, fun d hd => by cases hd; exact rfl, fun h => by cases h⟩
          · intro z u hku hd
            have h46 : z 46 = .bool false := hd 31 (by decide)
            have h53 : z 53 = .bool bn := hd 38 (by decide)
            refine wpOp_step rfl fun KK hK => ?_
            simp only [h46, h53] at hK ⊢
            go_simp
            exact hK _ _ ⟨_, rfl, Reg.KJ.refl _, fun d hd => by cases hd; exact rfl, fun h => by cases h⟩
        · intro z u hku hall
          have e54 : z 54 = .bool bn := hall 39 (by decide)
          rw [HEC.out] at e54
          simp only [Reg.frame, Reg.over, Nat.reduceAdd, Nat.reduceLeDiff, decide_true, decide_false, if_true, Bool.false_eq_true, if_false, Bool.and_true, Bool.and_false, e54]
          have HKU := Lib.hid hku.below
          clear hku hall
          go_wp2_with fail
          go_meet
          exact ⟨rfl, Lib.hid (HU.out.on HKU.out)⟩
    · have e27 : ((ra : Int) != (i : Int)) = true := by simp; omega
      have H27 := Lib.hid e27
      have HEC : Hid (true = cb) := Lib.hid (by rw [HCB.out, HCL.out]; simp [h1])
      clear h1 e27
      refine Reg.wp_slots2 (fun tt => decide (15 ≤ tt) && decide (tt ≤ 54)) (Reg.KJ U.heap.size [] []) (Reg.KJ.drew _ (by simp)) Reg.KJ.trans (by kernel_rfl) (by kernel_rfl) (by kernel_rfl) (fun zz => (Reg.tblK [
        (15, .is (.pointer (some ⟨gr, 0, none⟩))),
        (16, .is (.pointer (some ⟨gr, 0, none⟩))),
        (17, .is (.pointer (some ⟨gr, 1, none⟩))),
        (18, .is (.pointer (some ⟨gr, 2, none⟩))),
        (19, .is (.int .u8 (F.a : Int))),
        (20, .is (.int .i64 (F.a : Int))),
        (21, .is (.pointer (some ⟨gr, 0, none⟩))),
        (22, .is (.pointer (some ⟨gr, 0, none⟩))),
        (23, .is (.pointer (some ⟨gr, 0, none⟩))),
        (24, .is (.int .i64 (N : Int))),
        (25, .is (.int .i64 (ra : Int))),
        (26, .is (.int .i64 (i : Int))),
        (27, .is (.bool true)),
        (28, .is (.bool true)),
        (29, .is (undef)),
        (30, .is (undef)),
        (31, .is (undef)),
        (32, .is (undef)),
        (33, .is (undef)),
        (34, .is (undef)),
        (35, .is (undef)),
        (36, .is (undef)),
        (37, .is (undef)),
        (38, .is (undef)),
        (39, .is (undef)),
        (40, .is (undef)),
        (41, .is (undef)),
        (42, .is (undef)),
        (43, .is (undef)),
        (44, .is (undef)),
        (45, .is (.bool true)),
        (46, .is (.bool true)),
        (47, .is (undef)),
        (48, .is (undef)),
        (49, .is (undef)),
        (50, .is (undef)),
        (51, .is (undef)),
        (52, .is (undef)),
        (53, .is (undef)),
        (54, .is (.bool true))] zz).P) (fun zz => (Reg.tblK _ zz).on) (fun zz => (Reg.memK [] zz).P) (fun zz => (Reg.memK _ zz).on) ?_ ?_
      · simp only [Reg.frame, Reg.over, Nat.reduceAdd, Nat.reduceLeDiff, decide_true, decide_false, if_true, Bool.false_eq_true, if_false, Bool.and_true, Bool.and_false]
        refine ⟨?_, ?_, ?_, ?_, ?_, ?_, ?_, ?_, ?_, ?_, ?_, ?_, ?_, ?_, ?_, ?_, ?_, ?_, ?_, ?_, ?_, ?_, ?_, ?_, ?_, ?_, ?_, ?_, ?_, ?_, ?_, ?_, ?_, ?_, ?_, ?_, ?_, ?_, ?_, ?_, trivial⟩
        · intro z u hku hd
          refine wpOp_step rfl fun KK hK => ?_
          go_simp
          exact hK _ _ ⟨_, rfl, Reg.KJ.refl _, fun d hd => by cases hd; exact rfl, fun h => by cases h⟩
        · intro z u hku hd
          have h15 : z 15 = .pointer (some ⟨gr, 0, none⟩) := hd 0 (by decide)
          obtain ⟨c0', c1', c2', c3', c4', c7', lr'⟩ := HC.out u hku.below
          refine wpOp_step rfl fun KK hK => ?_
          simp only [h15] at hK ⊢
          go_simp
          exact hK _ _ ⟨_, rfl, Reg.KJ.refl _, fun d hd => by cases hd; exact rfl, fun h => by cases h⟩
        · intro z u hku hd
          have h16 : z 16 = .pointer (some ⟨gr, 0, none⟩) := hd 1 (by decide)
          refine wpOp_step rfl fun KK hK => ?_
          simp only [h16] at hK ⊢
          go_simp
          exact hK _ _ ⟨_, rfl, Reg.KJ.refl _, fun d hd => by cases hd; exact rfl, fun h => by cases h⟩
        · intro z u hku hd
          have h17 : z 17 = .pointer (some ⟨gr, 1, none⟩) := hd 2 (by decide)
          refine wpOp_step rfl fun KK hK => ?_
          simp only [h17] at hK ⊢
          go_simp
          exact hK _ _ ⟨_, rfl, Reg.KJ.refl _, fun d hd => by cases hd; exact rfl, fun h => by cases h⟩
        · intro z u hku hd
          have h18 : z 18 = .pointer (some ⟨gr, 2, none⟩) := hd 3 (by decide)
          obtain ⟨c0', c1', c2', c3', c4', c7', lr'⟩ := HC.out u hku.below
          refine wpOp_step rfl fun KK hK => ?_
          simp only [h18] at hK ⊢
          go_simp
          exact hK _ _ ⟨_, rfl, Reg.KJ.refl _, fun d hd => by cases hd; exact rfl, fun h => by cases h⟩
        · intro z u hku hd
          have h19 : z 19 = .int .u8 (F.a : Int) := hd 4 (by decide)
          have hq := HEQ.out.2.2.2
          refine wpOp_step rfl fun KK hK => ?_
          simp only [h19] at hK ⊢
          go_simp
          exact hK _ _ ⟨_, rfl, Reg.KJ.refl _, fun d hd => by cases hd; exact rfl, fun h => by cases h⟩
        · intro z u hku hd
          refine wpOp_step rfl fun KK hK => ?_
          go_simp
          exact hK _ _ ⟨_, rfl, Reg.KJ.refl _, fun d hd => by cases hd; exact rfl, fun h => by cases h⟩
        · intro z u hku hd
          have h21 : z 21 = .pointer (some ⟨gr, 0, none⟩) := hd 6 (by decide)
          obtain ⟨c0', c1', c2', c3', c4', c7', lr'⟩ := HC.out u hku.below
          refine wpOp_step rfl fun KK hK => ?_
          simp only [h21] at hK ⊢
          go_simp
          exact hK _ _ ⟨_, rfl, Reg.KJ.refl _, fun d hd => by cases hd; exact rfl, fun h => by cases h⟩
        · intro z u hku hd
          have h22 : z 22 = .pointer (some ⟨gr, 0, none⟩) := hd 7 (by decide)
          refine wpOp_step rfl fun KK hK => ?_
          simp only [h22] at hK ⊢
          go_simp
          exact hK _ _ ⟨_, rfl, Reg.KJ.refl _, fun d hd => by cases hd; exact rfl, fun h => by cases h⟩
        · intro z u hku hd
          have h23 : z 23 = .pointer (some ⟨gr, 0, none⟩) := hd 8 (by decide)
          obtain ⟨c0', c1', c2', c3', c4', c7', lr'⟩ := HC.out u hku.below
          refine wpOp_step rfl fun KK hK => ?_
          simp only [h23] at hK ⊢
          go_simp
          exact hK _ _ ⟨_, rfl, Reg.KJ.refl _, fun d hd => by cases hd; exact rfl, fun h => by cases h⟩
        · intro z u hku hd
          have h20 : z 20 = .int .i64 (F.a : Int) := hd 5 (by decide)
          have h24 : z 24 = .int .i64 (N : Int) := hd 9 (by decide)
          have h1 := HEQ.out.1
          have h2 := HEQ.out.2.1
          have h3 : N ≠ 0 := HNZ.out
          have h4 := HEQ.out.2.2.1
          refine wpOp_step rfl fun KK hK => ?_
          simp only [h20, h24] at hK ⊢
          go_simp
          exact hK _ _ ⟨_, rfl, Reg.KJ.refl _, fun d hd => by cases hd; exact rfl, fun h => by cases h⟩
        · intro z u hku hd
          refine wpOp_step rfl fun KK hK => ?_
          go_simp
          exact hK _ _ ⟨_, rfl, Reg.KJ.refl _, fun d hd => by cases hd; exact rfl, fun h => by cases h⟩
        · intro z u hku hd
          have h25 : z 25 = .int .i64 (ra : Int) := hd 10 (by decide)
          have h26 : z 26 = .int .i64 (i : Int) := hd 11 (by decide)
          have h1 := H27.out
          refine wpOp_step rfl fun KK hK => ?_
          simp only [h25, h26] at hK ⊢
          go_simp
          exact hK _ _ ⟨_, rfl, Reg.KJ.refl _, fun d hd => by cases hd; exact rfl, fun h => by cases h⟩
        · intro z u hku hd
          have h27 : z 27 = .bool true := hd 12 (by decide)
          refine wpOp_step rfl fun KK hK => ?_
          simp only [h27] at hK ⊢
          go_simp
          exact hK _ _ ⟨_, rfl, Reg.KJ.refl _, fun d hd => by cases hd; exact rfl, fun h => by cases h⟩
        · intro z u hku hd
          have h28 : z 28 = .bool true := hd 13 (by decide)
          refine wpOp_step rfl fun KK hK => ?_
          simp only [h28] at hK ⊢
          go_simp
          exact hK _ _ ⟨_, rfl, Reg.KJ.refl _, fun d hd => by cases hd; exact rfl, fun h => by cases h⟩
        · intro z u hku hd
          have h29 : z 29 = undef := hd 14 (by decide)
          have h28 : z 28 = .bool true := hd 13 (by decide)
          refine wpOp_step rfl fun KK hK => ?_
          simp only [h29, h28] at hK ⊢
          go_simp
          exact hK _ _ ⟨_, rfl, Reg.KJ.refl _, fun d hd => by cases hd; exact rfl, fun h => by cases h⟩
        · intro z u hku hd
          have h30 : z 30 = undef := hd 15 (by decide)
          have h28 : z 28 = .bool true := hd 13 (by decide)
          refine wpOp_step rfl fun KK hK => ?_
          simp only [h30, h28] at hK ⊢
          go_simp
          exact hK _ _ ⟨_, rfl, Reg.KJ.refl _, fun d hd => by cases hd; exact rfl, fun h => by cases h⟩
        · intro z u hku hd
          have h31 : z 31 = undef := hd 16 (by decide)
          have h28 : z 28 = .bool true := hd 13 (by decide)
          refine wpOp_step rfl fun KK hK => ?_
          simp only [h31, h28] at hK ⊢
          go_simp
          exact hK _ _ ⟨_, rfl, Reg.KJ.refl _, fun d hd => by cases hd; exact rfl, fun h => by cases h⟩
        · intro z u hku hd
          have h32 : z 32 = undef := hd 17 (by decide)
          have h28 : z 28 = .bool true := hd 13 (by decide)
          refine wpOp_step rfl fun KK hK => ?_
          simp only [h32, h28] at hK ⊢
          go_simp
          exact hK _ _ ⟨_, rfl, Reg.KJ.refl _, fun d hd => by cases hd; exact rfl, fun h => by cases h⟩
        · intro z u hku hd
          have h33 : z 33 = undef := hd 18 (by decide)
          have h28 : z 28 = .bool true := hd 13 (by decide)
          refine wpOp_step rfl fun KK hK => ?_
          simp only [h33, h28] at hK ⊢
          go_simp
          exact hK _ _ ⟨_, rfl, Reg.KJ.refl _, fun d hd => by cases hd; exact rfl, fun h => by cases h⟩
        · intro z u hku hd
          have h34 : z 34 = undef := hd 19 (by decide)
          refine wpOp_step rfl fun KK hK => ?_
          simp only [h34] at hK ⊢
          go_simp
          exact hK _ _ ⟨_, rfl, Reg.KJ.refl _, fun d hd => by cases hd; exact rfl, fun h => by cases h⟩
        · intro z u hku hd
          have h35 : z 35 = undef := hd 20 (by decide)
          have h34 : z 34 = undef := hd 19 (by decide)
          refine wpOp_step rfl fun KK hK => ?_
          simp only [h35, h34] at hK ⊢
          go_simp
          exact hK _ _ ⟨_, rfl, Reg.KJ.refl _, fun d hd => by cases hd; exact rfl, fun h => by cases h⟩
        · intro z u hku hd
          have h36 : z 36 = undef := hd 21 (by decide)
          have h34 : z 34 = undef := hd 19 (by decide)
          refine wpOp_step rfl fun KK hK => ?_
          simp only [h36, h34] at hK ⊢
          go_simp
          exact hK _ _ ⟨_, rfl, Reg.KJ.refl _, fun d hd => by cases hd; exact rfl, fun h => by cases h⟩
        · intro z u hku hd
          have h37 : z 37 = undef := hd 22 (by decide)
          have h34 : z 34 = undef := hd 19 (by decide)
          refine wpOp_step rfl fun KK hK => ?_
          simp only [h37, h34] at hK ⊢
          go_simp
          exact hK _ _ ⟨_, rfl, Reg.KJ.refl _, fun d hd => by cases hd; exact rfl, fun h => by cases h⟩
        · intro z u hku hd
          have h38 : z 38 = undef := hd 23 (by decide)
          have h34 : z 34 = undef := hd 19 (by decide)
          refine wpOp_step rfl fun KK hK => ?_
          simp only [h38, h34] at hK ⊢
          go_simp
          exact hK _ _ ⟨_, rfl, Reg.KJ.refl _, fun d hd => by cases hd; exact rfl, fun h => by cases h⟩
        · intro z u hku hd
          have h39 : z 39 = undef := hd 24 (by decide)
          have h34 : z 34 = undef := hd 19 (by decide)
          refine wpOp_step rfl fun KK hK => ?_
          simp only [h39, h34] at hK ⊢
          go_simp
          exact hK _ _ ⟨_, rfl, Reg.KJ.refl _, fun d hd => by cases hd; exact rfl, fun h => by cases h⟩
        · intro z u hku hd
          have h40 : z 40 = undef := hd 25 (by decide)
          have h34 : z 34 = undef := hd 19 (by decide)
          refine wpOp_step rfl fun KK hK => ?_
          simp only [h40, h34] at hK ⊢
          go_simp
          exact hK _ _ ⟨_, rfl, Reg.KJ.refl _, fun d hd => by cases hd; exact rfl, fun h => by cases h⟩
        · intro z u hku hd
          have h34 : z 34 = undef := hd 19 (by decide)
          refine wpOp_step rfl fun KK hK => ?_
          simp only [h34] at hK ⊢
          go_simp
          exact hK _ _ ⟨_, rfl, Reg.KJ.refl _, fun d hd => by cases hd; exact rfl, fun h => by cases h⟩
        · intro z u hku hd
          have h41 : z 41 = undef := hd 26 (by decide)
          have h42 : z 42 = undef := hd 27 (by decide)
          have h34 : z 34 = undef := hd 19 (by decide)
          refine wpOp_step rfl fun KK hK => ?_
          simp only [h41, h42, h34] at hK ⊢
          go_simp
          exact hK _ _ ⟨_, rfl, Reg.KJ.refl _, fun d hd => by cases hd; exact rfl, fun h => by cases h⟩
        · intro z u hku hd
          have h34 : z 34 = undef := hd 19 (by decide)
          have h43 : z 43 = undef := hd 28 (by decide)
          have h28 : z 28 = .bool true := hd 13 (by decide)
          refine wpOp_step rfl fun KK hK => ?_
          simp only [h34, h43, h28] at hK ⊢
          go_simp
          exact hK _ _ ⟨_, rfl, Reg.KJ.refl _, fun d hd => by cases hd; exact rfl, fun h => by cases h⟩
        · intro z u hku hd
          have h28 : z 28 = .bool true := hd 13 (by decide)
          have h44 : z 44 = undef := hd 29 (by decide)
          refine wpOp_step rfl fun KK hK => ?_
          simp only [h28, h44] at hK ⊢
          go_simp
          exact hK _ _ ⟨_, rfl, Reg.KJ.refl _, fun d hd => by cases hd; exact rfl, fun h => by cases h⟩
        · intro z u hku hd
          have h45 : z 45 = .bool true := hd 30 (by decide)
          refine wpOp_step rfl fun KK hK => ?_
          simp only [h45] at hK ⊢
          go_simp
          exact hK _ _ ⟨_, rfl, Reg.KJ.refl _, fun d hd => by cases hd; exact rfl, fun h => by cases h⟩
        · intro z u hku hd
          have h46 : z 46 = .bool true := hd 31 (by decide)
          refine wpOp_step rfl fun KK hK => ?_
          simp only [h46] at hK ⊢
          go_simp
          exact hK _ _ ⟨_, rfl, Reg.KJ.refl _, fun d hd => by cases hd; exact rfl, fun h => by cases h⟩
        · intro z u hku hd
          have h47 : z 47 = undef := hd 32 (by decide)
          have h46 : z 46 = .bool true := hd 31 (by decide)
          refine wpOp_step rfl fun KK hK => ?_
          simp only [h47, h46] at hK ⊢
          go_simp
          exact hK _ _ ⟨_, rfl, Reg.KJ.refl _, fun d hd => by cases hd; exact rfl, fun h => by cases h⟩
        · intro z u hku hd
          have h48 : z 48 = undef := hd 33 (by decide)
          have h46 : z 46 = .bool true := hd 31 (by decide)
          refine wpOp_step rfl fun KK hK => ?_
          simp only [h48, h46] at hK ⊢
          go_simp
          exact hK _ _ ⟨_, rfl, Reg.KJ.refl _, fun d hd => by cases hd; exact rfl, fun h => by cases h⟩
        · intro z u hku hd
          have h49 : z 49 = undef := hd 34 (by decide)
          have h46 : z 46 = .bool true := hd 31 (by decide)
          refine wpOp_step rfl fun KK hK => ?_
          simp only [h49, h46] at hK ⊢
          go_simp
          exact hK _ _ ⟨_, rfl, Reg.KJ.refl _, fun d hd => by cases hd; exact rfl, fun h => by cases h⟩
        · intro z u hku hd
          have h50 : z 50 = undef := hd 35 (by decide)
          have h46 : z 46 = .bool true := hd 31 (by decide)
          refine wpOp_step rfl fun KK hK => ?_
          simp only [h50, h46] at hK ⊢
          go_simp
          exact hK _ _ ⟨_, rfl, Reg.KJ.refl _, fun d hd => by cases hd; exact rfl, fun h => by cases h⟩
        · intro z u hku hd
          have h51 : z 51 = undef := hd 36 (by decide)
          have h46 : z 46 = .bool true := hd 31 (by decide)
          refine wpOp_step rfl fun KK hK => ?_
          simp only [h51, h46] at hK ⊢
          go_simp
          exact hK _ _ ⟨_, rfl, Reg.KJ.refl _, fun d hd => by cases hd; exact rfl, fun h => by cases h⟩
        · intro z u hku hd
          have h52 : z 52 = undef := hd 37 (by decide)
          have h46 : z 46 = .bool true := hd 31 (by decide)
          refine wpOp_step rfl fun KK hK => ?_
          simp only [h52, h46] at hK ⊢
          go_simp
          exact hK _ _ ⟨_, rfl, Reg.KJ.refl _, fun d hd => by cases hd; exact rfl, fun h => by cases h⟩
        · intro z u hku hd
          have h46 : z 46 = .bool true := hd 31 (by decide)
          have h53 : z 53 = undef := hd 38 (by decide)
          refine wpOp_step rfl fun KK hK => ?_
          simp only [h46, h53] at hK ⊢
          go_simp
          exact hK _ _ ⟨_, rfl, Reg.KJ.refl _, fun d hd => by cases hd; exact rfl, fun h => by cases h⟩
      · intro z u hku hall
        have e54 : z 54 = .bool true := hall 39 (by decide)
        rw [HEC.out] at e54
        simp only [Reg.frame, Reg.over, Nat.reduceAdd, Nat.reduceLeDiff, decide_true, decide_false, if_true, Bool.false_eq_true, if_false, Bool.and_true, Bool.and_false, e54]
        have HKU := Lib.hid hku.below
        clear hku hall
        go_wp2_with fail
        go_meet
        exact ⟨rfl, Lib.hid (HU.out.on HKU.out)⟩
  case rest =>
    obtain ⟨rfl, HD⟩ := hcut
    clear HU
    cases cb with
    | true =>
      obtain ⟨Z, hZl, hZ⟩ := HD.out.z
      have HZ := Lib.hid hZ
      have HZL := Lib.hid hZl
      clear hZ hZl
      have HRX := Lib.hid (HD.out.x.pin.range)
      go_wp2_with (first
        | (refine wpList_load_mid rfl 34 (.tmp 8) rfl w.heap.size 0 (by simp [Act.eval, Act.put]) [x.v] _ HRX.out Try.underlying34 rfl (by rw [size_word]; rfl) ?_)
        | (refine wpList_store_pin rfl 34 (.tmp 10) (.tmp 55) rfl HZ.out [x.v] (by simp [Act.eval, Act.put]) (by simp [Act.eval, Act.put]) 1 size_word HZL.out rfl (by simp [Wo.v, Value.oneCell']) ?_; intro w1 p1 b1))
      have hld := p1.var 34 _ Try.underlying34 rfl 1 size_word rfl
      exact bodyPost_ret (v := .agg #[x.v]) (by simp [results, Try.results64, asAddr, Act.put, hld]) rfl ⟨x, rfl, HX.out.on (KR.below HB.out (HD.out.b.trans (b1.low (by omega)))), fun _ => rfl, HD.out.b.trans (b1.low (by omega))⟩
    | false =>
      have hnn : F.n ≠ 0 := fun h0 => by
        have h1 := HCB.out
        rw [HCL.out, show bn = true by rw [HBN.out]; exact decide_eq_true h0] at h1
        simp at h1
      obtain ⟨ab, ao, hA, hab, hac⟩ := (HF.out.low (HD.out.b.mono HB.out)).f (by omega)
      obtain ⟨m4, hm4⟩ : ∃ n, n = Tn * 4 := ⟨_, rfl⟩
      obtain ⟨m5, hm5⟩ : ∃ n, n = m4 + k := ⟨_, rfl⟩
      obtain ⟨q, hq⟩ : ∃ n, n = m5 % F.n := ⟨_, rfl⟩
      have hqn : q < F.n := by rw [hq]; exact Nat.mod_lt _ (by omega)
      have hn8 : F.n ≤ 900 := HF.out.n
      obtain ⟨K, hK0⟩ : ∃ K, K = F.K q := ⟨_, rfl⟩
      have hKk : K.k < 256 ∧ K.s < 256 := by rw [hK0]; exact HF.out.K q hqn
      have HLA : Hid (wc.rangeAt ab (ao + q * 59) K.l) := Lib.hid (by rw [hK0]; exact hac q hqn)
      have HLT : Hid (∀ v, KR B w v → LiesH v v.heap.size K.r.A K.r.n K.r.T) := Lib.hid (fun v hv => by rw [hK0]; exact ((HF.out.t q hqn).low hv.b).up (Nat.le_trans HB.out hv.b.size))
      have HAB : Hid (ab < wc.heap.size) := Lib.hid (Nat.lt_of_lt_of_le hab (Nat.le_trans HB.out HD.out.b.size))
      have HM4 : Hid (IntKind.i64.wrap ((Tn : Int) * 4) = (m4 : Int)) := Lib.hid (by rw [IntWalk.i64_in _ (by omega), hm4]; omega)
      have HM5 : Hid (IntKind.i64.wrap ((m4 : Int) + (k : Int)) = (m5 : Int)) := Lib.hid (by rw [IntWalk.i64_in _ (by omega), hm5]; omega)
      have HMQ : Hid ((m5 : Int).tmod (F.n : Int) = (q : Int) ∧ (m5 : Int) % (F.n : Int) = (q : Int) ∧ IntKind.i64.wrap (q : Int) = (q : Int)) := Lib.hid ⟨by rw [hq]; rfl, by rw [hq]; rfl, IntWalk.i64_in _ (by omega)⟩
      have HIX : Hid (∀ W, (Instr.indexAt 81 (.slice F.A F.n F.c) (.int .i64 (q : Int))).run Try.prog W = .ok (.pointer (some ⟨ab, ao + q * 59, none⟩)) W) := Lib.hid (fun W => idxActs (A := F.A) (n := F.n) F.c hA hqn W)
      have HCC : Hid (∀ u, Below wc.heap.size wc u → u.cell? ⟨gr, 0, none⟩ = some (.int .i64 (N : Int)) ∧ u.cell? ⟨gr, 4, none⟩ = some (.slice F.A F.n F.c) ∧ u.cell? ⟨gr, 7, none⟩ = some (.slice A0 Tn c0) ∧ gr < u.heap.size) := Lib.hid (fun u hu => by
        have h := (HR.out.on HD.out.b).on hu
        exact ⟨h.cell 0, h.cell 4, h.cell 7, h.lt⟩)
      have HNN : Hid (F.n ≠ 0) := Lib.hid hnn
      have HKK := Lib.hid hKk
      clear hA hab hac hm4 hm5 hq hK0 hKk HC HCL HBN HEQ HEW HEN hnn hn8 hqn
      go_upto_region 3 with fail
      refine Reg.wp_prefix 23 (by kernel_rfl) (fun tt => decide (56 ≤ tt) && decide (tt ≤ 77) || tt == 11) (Reg.KJ wc.heap.size [] []) (Reg.KJ.drew _ (by simp)) Reg.KJ.trans (by kernel_rfl) (by kernel_rfl) (by kernel_rfl) (by kernel_rfl) (fun zz => (Reg.tblK [
        (56, .is (.pointer (some ⟨gr, 0, none⟩))),
        (57, .is (.pointer (some ⟨gr, 0, none⟩))),
        (58, .is (.pointer (some ⟨gr, 1, none⟩))),
        (59, .is (.pointer (some ⟨gr, 4, none⟩))),
        (60, .is (.slice F.A F.n F.c)),
        (61, .is (.pointer (some ⟨gr, 0, none⟩))),
        (62, .is (.pointer (some ⟨gr, 0, none⟩))),
        (63, .is (.pointer (some ⟨gr, 7, none⟩))),
        (64, .is (.slice A0 Tn c0)),
        (65, .is (.int .i64 (Tn : Int))),
        (66, .is (.int .i64 (m4 : Int))),
        (67, .is (.int .i64 (k : Int))),
        (68, .is (.int .i64 (m5 : Int))),
        (69, .is (.pointer (some ⟨gr, 0, none⟩))),
        (70, .is (.pointer (some ⟨gr, 0, none⟩))),
        (71, .is (.pointer (some ⟨gr, 1, none⟩))),
        (72, .is (.pointer (some ⟨gr, 4, none⟩))),
        (73, .is (.slice F.A F.n F.c)),
        (74, .is (.int .i64 (F.n : Int))),
        (75, .is (.int .i64 (q : Int))),
        (76, .is (.pointer (some ⟨ab, ao + q * 59, none⟩))),
        (77, .is (.agg K.l.toArray)),
        (11, .act wc.heap.size)] zz).P) (fun zz => (Reg.tblK _ zz).on) (fun zz => (Reg.memK [] zz).P) (fun zz => (Reg.memK _ zz).on) ?_ ?_
      · simp only [Reg.frame, Reg.over, Nat.reduceAdd, Nat.reduceBEq, Nat.reduceLeDiff, decide_true, decide_false, Bool.or_true, Bool.or_false, if_true, Bool.false_eq_true, if_false, Bool.and_true, Bool.and_false]
        refine ⟨?_, ?_, ?_, ?_, ?_, ?_, ?_, ?_, ?_, ?_, ?_, ?_, ?_, ?_, ?_, ?_, ?_, ?_, ?_, ?_, ?_, ?_, ?_, trivial⟩
        · intro z u hku hd
          refine wpOp_step rfl fun KK hK => ?_
          go_simp
          exact hK _ _ ⟨_, rfl, Reg.KJ.refl _, fun d hd => by cases hd; exact rfl, fun h => by cases h⟩
        · intro z u hku hd
          have h56 : z 56 = .pointer (some ⟨gr, 0, none⟩) := hd 0 (by decide)
          obtain ⟨c0', c4', c7', lr'⟩ := HCC.out u hku.below
          refine wpOp_step rfl fun KK hK => ?_
          simp only [h56] at hK ⊢
          go_simp
          exact hK _ _ ⟨_, rfl, Reg.KJ.refl _, fun d hd => by cases hd; exact rfl, fun h => by cases h⟩
        · intro z u hku hd
          have h57 : z 57 = .pointer (some ⟨gr, 0, none⟩) := hd 1 (by decide)
          refine wpOp_step rfl fun KK hK => ?_
          simp only [h57] at hK ⊢
          go_simp
          exact hK _ _ ⟨_, rfl, Reg.KJ.refl _, fun d hd => by cases hd; exact rfl, fun h => by cases h⟩
        · intro z u hku hd
          have h58 : z 58 = .pointer (some ⟨gr, 1, none⟩) := hd 2 (by decide)
          refine wpOp_step rfl fun KK hK => ?_
          simp only [h58] at hK ⊢
          go_simp
          exact hK _ _ ⟨_, rfl, Reg.KJ.refl _, fun d hd => by cases hd; exact rfl, fun h => by cases h⟩
        · intro z u hku hd
          have h59 : z 59 = .pointer (some ⟨gr, 4, none⟩) := hd 3 (by decide)
          obtain ⟨c0', c4', c7', lr'⟩ := HCC.out u hku.below
          refine wpOp_step rfl fun KK hK => ?_
          simp only [h59] at hK ⊢
          go_simp
          exact hK _ _ ⟨_, rfl, Reg.KJ.refl _, fun d hd => by cases hd; exact rfl, fun h => by cases h⟩
        · intro z u hku hd
          refine wpOp_step rfl fun KK hK => ?_
          go_simp
          exact hK _ _ ⟨_, rfl, Reg.KJ.refl _, fun d hd => by cases hd; exact rfl, fun h => by cases h⟩
        · intro z u hku hd
          have h61 : z 61 = .pointer (some ⟨gr, 0, none⟩) := hd 5 (by decide)
          obtain ⟨c0', c4', c7', lr'⟩ := HCC.out u hku.below
          refine wpOp_step rfl fun KK hK => ?_
          simp only [h61] at hK ⊢
          go_simp
          exact hK _ _ ⟨_, rfl, Reg.KJ.refl _, fun d hd => by cases hd; exact rfl, fun h => by cases h⟩
        · intro z u hku hd
          have h62 : z 62 = .pointer (some ⟨gr, 0, none⟩) := hd 6 (by decide)
          refine wpOp_step rfl fun KK hK => ?_
          simp only [h62] at hK ⊢
          go_simp
          exact hK _ _ ⟨_, rfl, Reg.KJ.refl _, fun d hd => by cases hd; exact rfl, fun h => by cases h⟩
        · intro z u hku hd
          have h63 : z 63 = .pointer (some ⟨gr, 7, none⟩) := hd 7 (by decide)
          obtain ⟨c0', c4', c7', lr'⟩ := HCC.out u hku.below
          refine wpOp_step rfl fun KK hK => ?_
          simp only [h63] at hK ⊢
          go_simp
          exact hK _ _ ⟨_, rfl, Reg.KJ.refl _, fun d hd => by cases hd; exact rfl, fun h => by cases h⟩
        · intro z u hku hd
          have h64 : z 64 = .slice A0 Tn c0 := hd 8 (by decide)
          refine wpOp_step rfl fun KK hK => ?_
          simp only [h64] at hK ⊢
          go_simp
          exact hK _ _ ⟨_, rfl, Reg.KJ.refl _, fun d hd => by cases hd; exact rfl, fun h => by cases h⟩
        · intro z u hku hd
          have h65 : z 65 = .int .i64 (Tn : Int) := hd 9 (by decide)
          have hw := HM4.out
          refine wpOp_step rfl fun KK hK => ?_
          simp only [h65] at hK ⊢
          go_simp
          exact hK _ _ ⟨_, rfl, Reg.KJ.refl _, fun d hd => by cases hd; exact rfl, fun h => by cases h⟩
        · intro z u hku hd
          refine wpOp_step rfl fun KK hK => ?_
          go_simp
          exact hK _ _ ⟨_, rfl, Reg.KJ.refl _, fun d hd => by cases hd; exact rfl, fun h => by cases h⟩
        · intro z u hku hd
          have h66 : z 66 = .int .i64 (m4 : Int) := hd 10 (by decide)
          have h67 : z 67 = .int .i64 (k : Int) := hd 11 (by decide)
          have hw := HM5.out
          refine wpOp_step rfl fun KK hK => ?_
          simp only [h66, h67] at hK ⊢
          go_simp
          exact hK _ _ ⟨_, rfl, Reg.KJ.refl _, fun d hd => by cases hd; exact rfl, fun h => by cases h⟩
        · intro z u hku hd
          refine wpOp_step rfl fun KK hK => ?_
          go_simp
          exact hK _ _ ⟨_, rfl, Reg.KJ.refl _, fun d hd => by cases hd; exact rfl, fun h => by cases h⟩
        · intro z u hku hd
          have h69 : z 69 = .pointer (some ⟨gr, 0, none⟩) := hd 13 (by decide)
          obtain ⟨c0', c4', c7', lr'⟩ := HCC.out u hku.below
          refine wpOp_step rfl fun KK hK => ?_
          simp only [h69] at hK ⊢
          go_simp
          exact hK _ _ ⟨_, rfl, Reg.KJ.refl _, fun d hd => by cases hd; exact rfl, fun h => by cases h⟩
        · intro z u hku hd
          have h70 : z 70 = .pointer (some ⟨gr, 0, none⟩) := hd 14 (by decide)
          refine wpOp_step rfl fun KK hK => ?_
          simp only [h70] at hK ⊢
          go_simp
          exact hK _ _ ⟨_, rfl, Reg.KJ.refl _, fun d hd => by cases hd; exact rfl, fun h => by cases h⟩
        · intro z u hku hd
          have h71 : z 71 = .pointer (some ⟨gr, 1, none⟩) := hd 15 (by decide)
          refine wpOp_step rfl fun KK hK => ?_
          simp only [h71] at hK ⊢
          go_simp
          exact hK _ _ ⟨_, rfl, Reg.KJ.refl _, fun d hd => by cases hd; exact rfl, fun h => by cases h⟩
        · intro z u hku hd
          have h72 : z 72 = .pointer (some ⟨gr, 4, none⟩) := hd 16 (by decide)
          obtain ⟨c0', c4', c7', lr'⟩ := HCC.out u hku.below
          refine wpOp_step rfl fun KK hK => ?_
          simp only [h72] at hK ⊢
          go_simp
          exact hK _ _ ⟨_, rfl, Reg.KJ.refl _, fun d hd => by cases hd; exact rfl, fun h => by cases h⟩
        · intro z u hku hd
          have h73 : z 73 = .slice F.A F.n F.c := hd 17 (by decide)
          refine wpOp_step rfl fun KK hK => ?_
          simp only [h73] at hK ⊢
          go_simp
          exact hK _ _ ⟨_, rfl, Reg.KJ.refl _, fun d hd => by cases hd; exact rfl, fun h => by cases h⟩
        · intro z u hku hd
          have h68 : z 68 = .int .i64 (m5 : Int) := hd 12 (by decide)
          have h74 : z 74 = .int .i64 (F.n : Int) := hd 18 (by decide)
          have h1 := HMQ.out.1
          have h2 := HMQ.out.2.1
          have h3 : F.n ≠ 0 := HNN.out
          have h4 := HMQ.out.2.2
          refine wpOp_step rfl fun KK hK => ?_
          simp only [h68, h74] at hK ⊢
          go_simp
          exact hK _ _ ⟨_, rfl, Reg.KJ.refl _, fun d hd => by cases hd; exact rfl, fun h => by cases h⟩
        · intro z u hku hd
          have h60 : z 60 = .slice F.A F.n F.c := hd 4 (by decide)
          have h75 : z 75 = .int .i64 (q : Int) := hd 19 (by decide)
          have hix := HIX.out
          refine wpOp_step rfl fun KK hK => ?_
          simp only [h60, h75] at hK ⊢
          go_simp
          exact hK _ _ ⟨_, rfl, Reg.KJ.refl _, fun d hd => by cases hd; exact rfl, fun h => by cases h⟩
        · intro z u hku hd
          have h76 : z 76 = .pointer (some ⟨ab, ao + q * 59, none⟩) := hd 20 (by decide)
          refine wpOp_step rfl fun KK hK => ?_
          refine Reg.step_load_mid (by rfl) 154 (.tmp 76) (by rfl) ab (ao + q * 59) (by exact h76) K.l (fun j v hv => (hku.below.cell (p := ⟨ab, _, none⟩) HAB.out).trans (HLA.out j v hv)) _ Try.underlying154 rfl (by rw [size_act, Ak.l_len]) ?_
          exact hK _ _ ⟨_, rfl, Reg.KJ.refl _, fun d hd => by cases hd; exact rfl, fun h => by cases h⟩
        · intro z u hku hd
          have hzn : ∀ Z : Array Value, Z.size = 59 → PIn (u.alloc (.cells Z 154)) u.heap.size 0 154 [] [] Z.toList ∧ Z.toList.length = 59 := fun Z hZ => ⟨Blk.pin (by simpa using Blk.new u 154 Z), by simpa using hZ⟩
          refine wpOp_step rfl fun KK hK => ?_
          go_simp
          exact hK _ _ ⟨_, rfl, Reg.KJ.grow (by simp) hku.size (below_al (Below.refl _ u) _), fun d hd => by cases hd; exact ⟨u.heap.size, rfl, hku.size, _, (hzn _ rfl).2, (hzn _ rfl).1⟩, fun h => by cases h⟩
      · intro z u hku hd
        have e77 : z 77 = .agg K.l.toArray := hd 21 (by decide)
        obtain ⟨g11, e11, lg11, Z1, z1l, z1⟩ : (∃ g, z 11 = .pointer (some ⟨g, 0, none⟩) ∧ wc.heap.size ≤ g ∧ ∃ Z : List Value, Z.length = 59 ∧ PIn u g 0 154 [] [] Z) := hd 22 (by decide)
        have HD2 := Lib.hid (HD.out.on hku.below)
        have HZ1 := Lib.hid z1
        have HZ1L := Lib.hid z1l
        have HLG := Lib.hid lg11
        have HSZ : Hid (w.heap.size + 2 < wc.heap.size) := Lib.hid (by obtain ⟨Z, _, hz⟩ := HD.out.z; exact hz.lt)
        have HBU := Lib.hid (below_then HD.out.b hku.below)
        clear hku hd z1 z1l
        simp only [Reg.frame, Reg.over, Nat.reduceAdd, Nat.reduceBEq, Nat.reduceLeDiff, decide_true, decide_false, Bool.or_true, Bool.or_false, if_true, Bool.false_eq_true, if_false, Bool.and_true, Bool.and_false, e77, e11, List.drop_succ_cons, List.drop_zero]
        go_upto_region 4 with (refine wpList_store_pin rfl 154 (.tmp 11) (.tmp 77) rfl HZ1.out K.l (by simp [Act.eval, Act.put]) (by simp [Act.eval, Act.put]) 59 size_act HZ1L.out (Ak.l_len _) (Ak.l_one _) ?_; intro w3 p3 b3; have HP3 := Lib.hid p3; have HB3 := Lib.hid b3; clear p3 b3)
        refine wp_at (fun V => SD w x y V ∧ PIn V g11 0 154 [] [] K.l) ⟨by
          obtain ⟨Z, z1, z2⟩ := HD2.out.z
          have l1 := HSZ.out
          have l2 := HLG.out
          exact ⟨HB3.out.blk HD2.out.x (by omega), HB3.out.blk HD2.out.y (by omega), ⟨Z, z1, z2.but HB3.out (by omega)⟩, HBU.out.trans (HB3.out.low (by omega))⟩, HP3.out⟩ ?_
        clear HD HD2 HZ1 HZ1L HBU HP3 HB3 HLA HAB HM4 HM5 HMQ HIX HCC HNN e77 e11
        rintro V ⟨v1, v2⟩
        have HD := Lib.hid v1
        have HPK := Lib.hid v2
        clear v1 v2
        obtain ⟨sm, hsm⟩ : ∃ n, n = K.s % N := ⟨_, rfl⟩
        obtain ⟨km, hkm⟩ : ∃ n, n = K.k % 6 := ⟨_, rfl⟩
        have lkm : km < 6 := by rw [hkm]; exact Nat.mod_lt _ (by decide)
        have lsm : sm < N := by rw [hsm]; exact Nat.mod_lt _ (by omega)
        have HSM : Hid ((K.s : Int).tmod (N : Int) = (sm : Int) ∧ (K.s : Int) % (N : Int) = (sm : Int) ∧ IntKind.i64.wrap (sm : Int) = (sm : Int) ∧ IntKind.i64.wrap (K.s : Int) = (K.s : Int)) := Lib.hid ⟨by rw [hsm]; rfl, by rw [hsm]; rfl, IntWalk.i64_in _ (by omega), IntWalk.i64_in _ (by have := HKK.out; omega)⟩
        have k1 : (K.k : Int).tmod 6 = (km : Int) := by rw [hkm]; rfl
        have k2 : (K.k : Int) % 6 = (km : Int) := by rw [hkm]; rfl
        have k3 : IntKind.u8.wrap (km : Int) = (km : Int) := by simp [IntKind.wrap, IntKind.bits, IntKind.signed]; omega
        have HCC : Hid (∀ u, Below V.heap.size V u → u.cell? ⟨gr, 0, none⟩ = some (.int .i64 (N : Int)) ∧ u.cell? ⟨g11, 1, none⟩ = some (.int .u8 (K.s : Int)) ∧ gr < u.heap.size ∧ g11 < u.heap.size) := Lib.hid (fun u hu => by
          have h := (HR.out.on HD.out.b).on hu
          have h2 := HPK.out.on hu
          exact ⟨h.cell 0, (h2.cell 1 (by rw [Ak.l_len]; decide)).trans rfl, h.lt, h2.lt⟩)
        clear hsm hkm
        simp only [Act.put]
        refine Reg.wp_slots2 (fun tt => decide (78 ≤ tt) && decide (tt ≤ 85) || tt == 12) (Reg.KJ V.heap.size [] []) (Reg.KJ.drew _ (by simp)) Reg.KJ.trans (by kernel_rfl) (by kernel_rfl) (by kernel_rfl) (fun zz => (Reg.tblK [
          (78, .is (.pointer (some ⟨g11, 1, none⟩))),
          (79, .is (.int .u8 (K.s : Int))),
          (80, .is (.int .i64 (K.s : Int))),
          (81, .is (.pointer (some ⟨gr, 0, none⟩))),
          (82, .is (.pointer (some ⟨gr, 0, none⟩))),
          (83, .is (.pointer (some ⟨gr, 0, none⟩))),
          (84, .is (.int .i64 (N : Int))),
          (85, .is (.int .i64 (sm : Int))),
          (12, .is (.int .i64 (sm : Int)))] zz).P) (fun zz => (Reg.tblK _ zz).on) (fun zz => (Reg.memK [] zz).P) (fun zz => (Reg.memK _ zz).on) ?_ ?_
        · simp only [Reg.frame, Reg.over, Nat.reduceAdd, Nat.reduceBEq, Nat.reduceLeDiff, decide_true, decide_false, Bool.or_true, Bool.or_false, if_true, Bool.false_eq_true, if_false, Bool.and_true, Bool.and_false]
          refine ⟨?_, ?_, ?_, ?_, ?_, ?_, ?_, ?_, ?_, trivial⟩
          · intro z u hku hd
            obtain ⟨c0', c1', lr', l11'⟩ := HCC.out u hku.below
            refine wpOp_step rfl fun KK hK => ?_
            go_simp
            exact hK _ _ ⟨_, rfl, Reg.KJ.refl _, fun d hd => by cases hd; exact rfl, fun h => by cases h⟩
          · intro z u hku hd
            have h78 : z 78 = .pointer (some ⟨g11, 1, none⟩) := hd 0 (by decide)
            obtain ⟨c0', c1', lr', l11'⟩ := HCC.out u hku.below
            refine wpOp_step rfl fun KK hK => ?_
            simp only [h78] at hK ⊢
            go_simp
            exact hK _ _ ⟨_, rfl, Reg.KJ.refl _, fun d hd => by cases hd; exact rfl, fun h => by cases h⟩
          · intro z u hku hd
            have h79 : z 79 = .int .u8 (K.s : Int) := hd 1 (by decide)
            have hq := HSM.out.2.2.2
            refine wpOp_step rfl fun KK hK => ?_
            simp only [h79] at hK ⊢
            go_simp
            exact hK _ _ ⟨_, rfl, Reg.KJ.refl _, fun d hd => by cases hd; exact rfl, fun h => by cases h⟩
          · intro z u hku hd
            refine wpOp_step rfl fun KK hK => ?_
            go_simp
            exact hK _ _ ⟨_, rfl, Reg.KJ.refl _, fun d hd => by cases hd; exact rfl, fun h => by cases h⟩
          · intro z u hku hd
            have h81 : z 81 = .pointer (some ⟨gr, 0, none⟩) := hd 3 (by decide)
            obtain ⟨c0', c1', lr', l11'⟩ := HCC.out u hku.below
            refine wpOp_step rfl fun KK hK => ?_
            simp only [h81] at hK ⊢
            go_simp
            exact hK _ _ ⟨_, rfl, Reg.KJ.refl _, fun d hd => by cases hd; exact rfl, fun h => by cases h⟩
          · intro z u hku hd
            have h82 : z 82 = .pointer (some ⟨gr, 0, none⟩) := hd 4 (by decide)
            refine wpOp_step rfl fun KK hK => ?_
            simp only [h82] at hK ⊢
            go_simp
            exact hK _ _ ⟨_, rfl, Reg.KJ.refl _, fun d hd => by cases hd; exact rfl, fun h => by cases h⟩
          · intro z u hku hd
            have h83 : z 83 = .pointer (some ⟨gr, 0, none⟩) := hd 5 (by decide)
            obtain ⟨c0', c1', lr', l11'⟩ := HCC.out u hku.below
            refine wpOp_step rfl fun KK hK => ?_
            simp only [h83] at hK ⊢
            go_simp
            exact hK _ _ ⟨_, rfl, Reg.KJ.refl _, fun d hd => by cases hd; exact rfl, fun h => by cases h⟩
          · intro z u hku hd
            have h80 : z 80 = .int .i64 (K.s : Int) := hd 2 (by decide)
            have h84 : z 84 = .int .i64 (N : Int) := hd 6 (by decide)
            have h1 := HSM.out.1
            have h2 := HSM.out.2.1
            have h3 : N ≠ 0 := HNZ.out
            have h4 := HSM.out.2.2.1
            refine wpOp_step rfl fun KK hK => ?_
            simp only [h80, h84] at hK ⊢
            go_simp
            exact hK _ _ ⟨_, rfl, Reg.KJ.refl _, fun d hd => by cases hd; exact rfl, fun h => by cases h⟩
          · intro z u hku hd
            have h85 : z 85 = .int .i64 (sm : Int) := hd 7 (by decide)
            refine wpOp_step rfl fun KK hK => ?_
            simp only [h85] at hK ⊢
            go_simp
            exact hK _ _ ⟨_, rfl, Reg.KJ.refl _, fun d hd => by cases hd; exact rfl, fun h => by cases h⟩
        · intro z u hku hall
          have e12 : z 12 = .int .i64 (sm : Int) := hall 8 (by decide)
          simp only [Reg.frame, Reg.over, Nat.reduceAdd, Nat.reduceBEq, Nat.reduceLeDiff, decide_true, decide_false, Bool.or_true, Bool.or_false, if_true, Bool.false_eq_true, if_false, Bool.and_true, Bool.and_false, e12]
          have HDU := Lib.hid (HD.out.on hku.below)
          have HPU := Lib.hid (HPK.out.on hku.below)
          clear hku hall e12 HD HPK HCC HSM
          go_upto_region 5 with fail
          refine wp_at (fun Y => SD w x y Y ∧ PIn Y g11 0 154 [] [] K.l) ⟨HDU.out, HPU.out⟩ ?_
          clear HDU HPU
          rintro Y ⟨v1, v2⟩
          have HD := Lib.hid v1
          have HPK := Lib.hid v2
          have c11 : Y.cell? ⟨g11, 0, none⟩ = some (.int .u8 (K.k : Int)) := (v2.cell 0 (by rw [Ak.l_len]; decide)).trans rfl
          have l11 := v2.lt
          clear v1 v2
          go_upto_region 6 with fail
          clear k1 k2 k3 c11 l11
          refine wp_at (fun Y => SD w x y Y ∧ PIn Y g11 0 154 [] [] K.l) ⟨HD.out, HPK.out⟩ ?_
          clear HD HPK
          rintro Y ⟨v1, v2⟩
          have HD := Lib.hid v1
          have HPK := Lib.hid v2
          have HSZ2 : Hid (w.heap.size + 2 < Y.heap.size) := Lib.hid (by obtain ⟨Z, _, hz⟩ := HD.out.z; exact hz.lt)
          clear v1 v2
          rcases (show km = 0 ∨ km = 1 ∨ km = 2 ∨ km = 3 ∨ km = 4 ∨ km = 5 by omega) with hkm | hkm | hkm | hkm | hkm | hkm
          · have e1 : ((km : Int) == 1) = false := by simp [hkm]
            have e2 : ((km : Int) == 2) = false := by simp [hkm]
            have e3 : ((km : Int) == 3) = false := by simp [hkm]
            have e4 : ((km : Int) == 4) = false := by simp [hkm]
            have e5 : ((km : Int) == 5) = false := by simp [hkm]
            clear hkm lkm
            obtain ⟨Z, hZl, hZ⟩ := HD.out.z
            have HZ := Lib.hid hZ
            have HZL := Lib.hid hZl
            clear hZ hZl
            have HRX := Lib.hid (HD.out.x.pin.range)
            go_wp2_with (first
              | (refine wpList_load_mid rfl 34 (.tmp 8) rfl w.heap.size 0 (by simp [Act.eval, Act.put]) [x.v] _ HRX.out Try.underlying34 rfl (by rw [size_word]; rfl) ?_)
              | (refine wpList_store_pin rfl 34 (.tmp 10) (.tmp 139) rfl HZ.out [x.v] (by simp [Act.eval, Act.put]) (by simp [Act.eval, Act.put]) 1 size_word HZL.out rfl (by simp [Wo.v, Value.oneCell']) ?_; intro w1 p1 b1))
            have hld := p1.var 34 _ Try.underlying34 rfl 1 size_word rfl
            exact bodyPost_ret (v := .agg #[x.v]) (by simp [results, Try.results64, asAddr, Act.put, hld]) rfl ⟨x, rfl, HX.out.on (KR.below HB.out (HD.out.b.trans (b1.low (by omega)))), fun h => absurd h (by rw [← HCB.out]; decide), HD.out.b.trans (b1.low (by omega))⟩
          · have e1 : ((km : Int) == 1) = true := by simp [hkm]
            have e2 : ((km : Int) == 2) = false := by simp [hkm]
            have e3 : ((km : Int) == 3) = false := by simp [hkm]
            have e4 : ((km : Int) == 4) = false := by simp [hkm]
            have e5 : ((km : Int) == 5) = false := by simp [hkm]
            clear hkm lkm
            obtain ⟨Z, hZl, hZ⟩ := HD.out.z
            have HZ := Lib.hid hZ
            have HZL := Lib.hid hZl
            clear hZ hZl
            go_wp2_with (first
              | (refine wpList_build rfl 34 _ rfl #[.slice none 0 0] (by simpa [Act.eval, Act.put] using HBT.out) ?_)
              | (refine wpList_store_pin rfl 34 (.tmp 10) (.tmp 91) rfl HZ.out [.slice none 0 0] (by simp [Act.eval, Act.put]) (by simp [Act.eval, Act.put]) 1 size_word HZL.out rfl (by simp [Wo.v, Value.oneCell']) ?_; intro w1 p1 b1))
            have hld := p1.var 34 _ Try.underlying34 rfl 1 size_word rfl
            exact bodyPost_ret (v := .agg #[.slice none 0 0]) (by simp [results, Try.results64, asAddr, Act.put, hld]) rfl ⟨woN, rfl, SW.nil _ _, fun h => absurd h (by rw [← HCB.out]; decide), HD.out.b.trans (b1.low (by omega))⟩
          · have e1 : ((km : Int) == 1) = false := by simp [hkm]
            have e2 : ((km : Int) == 2) = true := by simp [hkm]
            have e3 : ((km : Int) == 3) = false := by simp [hkm]
            have e4 : ((km : Int) == 4) = false := by simp [hkm]
            have e5 : ((km : Int) == 5) = false := by simp [hkm]
            clear hkm lkm
            have HHR : Hid (LiesR Y Y.heap.size x.A x.m x.R) := Lib.hid ((HX.out.on (KR.below HB.out HD.out.b)).now)
            have cx8 : Y.cell? ⟨w.heap.size, 0, none⟩ = some (.slice x.A x.m x.c) := HD.out.x.cell 0
            have lx8 := HD.out.x.lt
            have HZN : Hid (∀ (u : World) (Z : Array Value), Z.size = 1 → PIn (u.alloc (.cells Z 34)) u.heap.size 0 34 [] [] Z.toList ∧ Z.toList.length = 1) := Lib.hid (fun u Z hZ => ⟨Blk.pin (by simpa using Blk.new u 34 Z), by simpa using hZ⟩)
            have HBW := Lib.hid (fun (A : Option Addr) (n p : Nat) => built_wordR A n p)
            by_cases hm0 : x.m = 0
            · have HAN := Lib.hid (fun (u : World) => run_append_none x.A x.c u)
              rw [hm0] at cx8
              have d0 : decide ((sm : Int) < 0) = false := decide_eq_false (by omega)
              clear hm0
              go_upto_region 10 with (first
                | (at_builtin; refine wpList_append_none rfl (.const (.slice none 0 0)) (.tmp 95) 32 rfl x.A x.c (by simp [Act.eval, Act.put]) (by simp [Act.eval, Act.put]) (HAN.out _) ?_)
                | (refine wpList_build rfl 34 _ rfl #[.slice none 0 0] (by simpa [Act.eval, Act.put] using HBW.out none 0 0) ?_))
              refine wp_at (fun Q => SD w x y Q ∧ PIn Q Y.heap.size 0 34 [] [] [.slice none 0 0]) ⟨HD.out.on (below_al (Below.refl _ Y) _), Blk.pin (L := [.slice none 0 0]) (Blk.new Y _ _)⟩ ?_
              obtain ⟨g13, hg13⟩ : ∃ g, g = Y.heap.size := ⟨_, rfl⟩
              rw [← hg13]
              clear hg13 cx8 lx8 HD HPK
              rintro Q ⟨v1, v2⟩
              have HD := Lib.hid v1
              have c13 : Q.cell? ⟨g13, 0, none⟩ = some (.slice none 0 0) := (v2.cell 0 Nat.one_pos).trans rfl
              have l13 := v2.lt
              have HR13 := Lib.hid v2.range
              clear v1 v2
              obtain ⟨Z, hZl, hZ⟩ := HD.out.z
              have HZ := Lib.hid hZ
              have HZL := Lib.hid hZl
              clear hZ hZl
              go_wp2_with (first
                | (refine wpList_load_mid rfl 34 (.tmp 13) rfl g13 0 (by simp [Act.eval, Act.put]) [.slice none 0 0] _ HR13.out Try.underlying34 rfl (by rw [size_word]; rfl) ?_)
                | (refine wpList_store_pin rfl 34 (.tmp 10) (.tmp 109) rfl HZ.out [.slice none 0 0] (by simp [Act.eval, Act.put]) (by simp [Act.eval, Act.put]) 1 size_word HZL.out rfl (by simp [Wo.v, Value.oneCell']) ?_; intro w1 p1 b1))
              have hld := p1.var 34 _ Try.underlying34 rfl 1 size_word rfl
              exact bodyPost_ret (v := .agg #[.slice none 0 0]) (by simp [results, Try.results64, asAddr, Act.put, hld]) rfl ⟨woN, rfl, SW.nil _ _, fun h => absurd h (by rw [← HCB.out]; decide), HD.out.b.trans (b1.low (by omega))⟩
            · obtain ⟨rb, ro, hrA, hrb, _⟩ := HHR.out.f (by omega)
              obtain ⟨ad, had, hsrc⟩ := HHR.out.f.src (by decide) (fun _ => Rw.l_len _) (by rw [flL_len (fun _ => Rw.l_len _)]; omega)
              have HAD := Lib.hid had
              have HSR := Lib.hid hsrc
              have HPM : Hid (0 < x.m) := Lib.hid (by omega)
              obtain ⟨i0, hi0, hz0, hz1, hz2⟩ := info_parts infoRow
              have HI := Lib.hid hi0
              have HZ0 := Lib.hid hz0
              have HZ1 := Lib.hid hz1
              have HZ2 := Lib.hid hz2
              rw [had] at cx8
              clear hrA hrb hm0 had hsrc hi0 hz0 hz1 hz2
              go_upto_region 10 with (first
                | (at_builtin; refine wpList_append_T rfl (.const (.slice none 0 0)) (.tmp 95) 32 rfl Y.heap.size 54 i0 _ 57 160 elemRows HI.out HZ0.out HZ1.out HZ2.out (by simp [Value.cells, roL_len]) (by decide) none 0 0 [] (by simp [Act.eval, Act.put]) ownsF_nil ad x.m x.c (flL (fun j => (x.R j).l) x.m) (by simp [Act.eval, Act.put]) HSR.out (flL_len (fun _ => Rw.l_len _) _) (flL_one (fun i _ => roL_one _ _ _ _ _)) HPM.out (by have := HM.out; unfold maxLen; omega) (by have := HM.out; omega) (Nat.le_refl _) ?_; intro A2 c2 V1 q1 q2 _; rw [show 0 + x.m = x.m from Nat.zero_add x.m, List.nil_append] at q1; rw [show 0 + x.m = x.m from Nat.zero_add x.m]; obtain ⟨gg, ZZ, rfl, lgg, lcc, q3⟩ := rows_of_ownsT q1 HPM.out; have HB7 := Lib.hid q2; have HQ7 := Lib.hid q3; have HLG7 := Lib.hid lgg; clear q1 q2 q3 lgg lcc)
                | (refine wpList_build rfl 34 _ rfl #[.slice (some ⟨gg, 0, none⟩) x.m c2] (by simpa [Act.eval, Act.put] using HBW.out (some ⟨gg, 0, none⟩) x.m c2) ?_))
              refine wp_at (fun Q => SD w x y Q ∧ PIn Q g11 0 154 [] [] K.l ∧ Blk Q gg 54 (flL (fun j => (x.R j).l) x.m ++ ZZ).toArray ∧ PIn Q V1.heap.size 0 34 [] [] [.slice (some ⟨gg, 0, none⟩) x.m c2] ∧ gg < V1.heap.size) ⟨(HD.out.on HB7.out).on (below_al (Below.refl _ V1) _), (HPK.out.on HB7.out).on (below_al (Below.refl _ V1) _), HQ7.out.alloc _, Blk.pin (L := [.slice (some ⟨gg, 0, none⟩) x.m c2]) (Blk.new V1 _ _), HQ7.out.lt⟩ ?_
              obtain ⟨g13, hg13⟩ : ∃ g, g = V1.heap.size := ⟨_, rfl⟩
              rw [← hg13]
              clear hg13 cx8 lx8 HD HPK HB7 HQ7 HHR HSR
              rintro Q ⟨v1, v2, v3, v4, v5⟩
              have HD := Lib.hid v1
              have HPK := Lib.hid v2
              have HQG := Lib.hid v3
              have HP13 := Lib.hid v4
              have HG13 := Lib.hid v5
              have c13 : Q.cell? ⟨g13, 0, none⟩ = some (.slice (some ⟨gg, 0, none⟩) x.m c2) := (v4.cell 0 Nat.one_pos).trans rfl
              have l13 := v4.lt
              have HL8 : Hid (w.heap.size + 2 < gg) := Lib.hid (by have := HSZ2.out; have := HLG7.out; omega)
              clear v1 v2 v3 v4 v5
              by_cases hsm : sm < x.m
              · have dsm : decide ((sm : Int) < (x.m : Int)) = true := decide_eq_true (by omega)
                have hix := fun W => idxRows (A := some ⟨gg, 0, none⟩) (n := x.m) c2 rfl hsm W
                simp only [Nat.zero_add] at hix
                have HRK : Hid (Q.rangeAt g11 2 K.r.l) := Lib.hid (fun j v hv => by
                  have h := HPK.out.range (2 + j) v (by rw [Nat.add_comm]; exact hv)
                  rwa [Nat.zero_add] at h)
                have l11 := HPK.out.lt
                have HPG : Hid (PIn Q gg (sm * 57) 54 (flL (fun j => (x.R j).l) sm) (flL (fun j => (x.R (sm + 1 + j)).l) (x.m - (sm + 1)) ++ ZZ) (x.R sm).l) := Lib.hid ⟨by
                  have h := HQG.out
                  rw [flL_at _ hsm] at h
                  simpa only [List.append_assoc] using h, flL_len (fun _ => Rw.l_len _) _⟩
                go_upto_region 12 with (first
                  | (refine wpList_load_mid rfl 54 (.tmp 106) rfl g11 2 (by simp [Act.eval, Act.put]) K.r.l _ HRK.out Try.underlying54 rfl (by rw [size_row, Rw.l_len]) ?_)
                  | (refine wpList_store_pin rfl 54 (.tmp 108) (.tmp 107) rfl HPG.out K.r.l (by simp [Act.eval, Act.put]) (by simp [Act.eval, Act.put]) 57 size_row (Rw.l_len _) (Rw.l_len _) (roL_one _ _ _ _ _) ?_; intro w7 p7 b7; have HP7 := Lib.hid p7; have HB7 := Lib.hid b7; clear p7 b7))
                refine wp_at (fun Q => SD w x y Q ∧ Blk Q gg 54 (flL (fun j => ((if j = sm then K.r else x.R j : Rw)).l) x.m ++ ZZ).toArray ∧ PIn Q g13 0 34 [] [] [.slice (some ⟨gg, 0, none⟩) x.m c2]) ⟨by
                  have l1 := HL8.out
                  obtain ⟨Z, z1, z2⟩ := HD.out.z
                  exact ⟨HB7.out.blk HD.out.x (by omega), HB7.out.blk HD.out.y (by omega), ⟨Z, z1, z2.but HB7.out (by omega)⟩, HD.out.b.trans (HB7.out.low (by omega))⟩, by
                  have h := HP7.out.blk
                  rw [show flL (fun j => ((if j = sm then K.r else x.R j : Rw)).l) x.m = flL (fun j => if j = sm then K.r.l else (x.R j).l) x.m from flL_congr fun j _ => by split <;> rfl, ← flL_upd (fun j => (x.R j).l) sm K.r.l hsm]
                  simpa only [List.append_assoc] using h, HP13.out.but HB7.out (by have := HG13.out; omega)⟩ ?_
                clear HD HPK HQG HP13 HPG HP7 HB7 HRK c13 l13 l11 hix dsm
                rintro Q2 ⟨v1, v2, v3⟩
                have HD := Lib.hid v1
                have HQG := Lib.hid v2
                have HR13 := Lib.hid v3.range
                clear v1 v2 v3
                obtain ⟨Z, hZl, hZ⟩ := HD.out.z
                have HZ := Lib.hid hZ
                have HZL := Lib.hid hZl
                clear hZ hZl
                go_wp2_with (first
                  | (refine wpList_load_mid rfl 34 (.tmp 13) rfl g13 0 (by simp [Act.eval, Act.put]) [.slice (some ⟨gg, 0, none⟩) x.m c2] _ HR13.out Try.underlying34 rfl (by rw [size_word]; rfl) ?_)
                  | (refine wpList_store_pin rfl 34 (.tmp 10) (.tmp 109) rfl HZ.out [.slice (some ⟨gg, 0, none⟩) x.m c2] (by simp [Act.eval, Act.put]) (by simp [Act.eval, Act.put]) 1 size_word HZL.out rfl (by simp [Wo.v, Value.oneCell']) ?_; intro w1 p1 b1))
                have hld := p1.var 34 _ Try.underlying34 rfl 1 size_word rfl
                exact bodyPost_ret (v := .agg #[.slice (some ⟨gg, 0, none⟩) x.m c2]) (by simp [results, Try.results64, asAddr, Act.put, hld]) rfl ⟨⟨some ⟨gg, 0, none⟩, x.m, c2, fun j => if j = sm then K.r else x.R j⟩, rfl, copy_sr (lo := 0) (b1.blk HQG.out (by have := HL8.out; omega)) (SR.on HX.out (KR.below HB.out (HD.out.b.trans (b1.low (by omega))))) (fun u ku => HLT.out u (KR.trans (KR.below HB.out (HD.out.b.trans (b1.low (by omega)))) ku)) c2, fun h => absurd h (by rw [← HCB.out]; decide), HD.out.b.trans (b1.low (by omega))⟩
              · have dsm : decide ((sm : Int) < (x.m : Int)) = false := decide_eq_false (by omega)
                have HR13 := Lib.hid HP13.out.range
                have HQ2 : Hid (Blk Q gg 54 (flL (fun j => ((if j = sm then K.r else x.R j : Rw)).l) x.m ++ ZZ).toArray) := Lib.hid (by rw [show flL (fun j => ((if j = sm then K.r else x.R j : Rw)).l) x.m = flL (fun j => (x.R j).l) x.m from flL_congr fun j hj => by rw [if_neg (by omega)]]; exact HQG.out)
                obtain ⟨Z, hZl, hZ⟩ := HD.out.z
                have HZ := Lib.hid hZ
                have HZL := Lib.hid hZl
                clear hZ hZl
                go_wp2_with (first
                  | (refine wpList_load_mid rfl 34 (.tmp 13) rfl g13 0 (by simp [Act.eval, Act.put]) [.slice (some ⟨gg, 0, none⟩) x.m c2] _ HR13.out Try.underlying34 rfl (by rw [size_word]; rfl) ?_)
                  | (refine wpList_store_pin rfl 34 (.tmp 10) (.tmp 109) rfl HZ.out [.slice (some ⟨gg, 0, none⟩) x.m c2] (by simp [Act.eval, Act.put]) (by simp [Act.eval, Act.put]) 1 size_word HZL.out rfl (by simp [Wo.v, Value.oneCell']) ?_; intro w1 p1 b1))
                have hld := p1.var 34 _ Try.underlying34 rfl 1 size_word rfl
                exact bodyPost_ret (v := .agg #[.slice (some ⟨gg, 0, none⟩) x.m c2]) (by simp [results, Try.results64, asAddr, Act.put, hld]) rfl ⟨⟨some ⟨gg, 0, none⟩, x.m, c2, fun j => if j = sm then K.r else x.R j⟩, rfl, copy_sr (lo := 0) (b1.blk HQ2.out (by have := HL8.out; omega)) (SR.on HX.out (KR.below HB.out (HD.out.b.trans (b1.low (by omega))))) (fun u ku => HLT.out u (KR.trans (KR.below HB.out (HD.out.b.trans (b1.low (by omega)))) ku)) c2, fun h => absurd h (by rw [← HCB.out]; decide), HD.out.b.trans (b1.low (by omega))⟩
          · have e1 : ((km : Int) == 1) = false := by simp [hkm]
            have e2 : ((km : Int) == 2) = false := by simp [hkm]
            have e3 : ((km : Int) == 3) = true := by simp [hkm]
            have e4 : ((km : Int) == 4) = false := by simp [hkm]
            have e5 : ((km : Int) == 5) = false := by simp [hkm]
            clear hkm lkm
            obtain ⟨sg, hsg⟩ : ∃ n, n = 1 + sm := ⟨_, rfl⟩
            have hwg : IntKind.i64.wrap (1 + (sm : Int)) = (sg : Int) := by rw [IntWalk.i64_in _ (by omega)]; omega
            have HST : Hid (Calls Try.prog 87 #[.pointer (some ⟨gr, 0, none⟩), .int .i64 (i : Int), .int .i64 (k : Int), .int .i64 (sg : Int)] Y fun e w' => e = .returned (.agg #[(sentM N Tn S (i + 2 * N) k sg).v]) ∧ Below Y.heap.size Y w') := Lib.hid (sent_is B gr N Tn F VL VO _ S (i : Int) (i + 2 * N) k sg hN hT (by omega) (by omega) hk (by omega) Y (HR.out.on HD.out.b) (HS.out.on HB.out HD.out.b))
            have HSG : Hid (0 < sg) := Lib.hid (by omega)
            clear hsg
            obtain ⟨Z, hZl, hZ⟩ := HD.out.z
            have HZ := Lib.hid hZ
            have HZL := Lib.hid hZl
            clear hZ hZl
            go_wp2_with (first
              | (go_at_call 87; (with_reducible refine HST.out.mono ?_); rintro e w5 ⟨rfl, q1⟩; have HQ5 := Lib.hid q1; have HZ5 := Lib.hid (HZ.out.on q1); clear q1)
              | (refine wpList_store_pin rfl 34 (.tmp 10) (.tmp 117) rfl HZ5.out [(sentM N Tn S (i + 2 * N) k sg).v] (by simp [Act.eval, Act.put]) (by simp [Act.eval, Act.put]) 1 size_word HZL.out rfl (by simp [Wo.v, Value.oneCell']) ?_; intro w1 p1 b1))
            have hld := p1.var 34 _ Try.underlying34 rfl 1 size_word rfl
            exact bodyPost_ret (v := .agg #[(sentM N Tn S (i + 2 * N) k sg).v]) (by simp [results, Try.results64, asAddr, Act.put, hld]) rfl ⟨sentM N Tn S (i + 2 * N) k sg, rfl, (sentM_w HS.out (by omega) hk HSG.out).on (KR.below HB.out ((below_then HD.out.b HQ5.out).trans (b1.low (by omega)))), fun h => absurd h (by rw [← HCB.out]; decide), (below_then HD.out.b HQ5.out).trans (b1.low (by omega))⟩
          · have e1 : ((km : Int) == 1) = false := by simp [hkm]
            have e2 : ((km : Int) == 2) = false := by simp [hkm]
            have e3 : ((km : Int) == 3) = false := by simp [hkm]
            have e4 : ((km : Int) == 4) = true := by simp [hkm]
            have e5 : ((km : Int) == 5) = false := by simp [hkm]
            clear hkm lkm
            obtain ⟨Z, hZl, hZ⟩ := HD.out.z
            have HZ := Lib.hid hZ
            have HZL := Lib.hid hZl
            clear hZ hZl
            have HRX := Lib.hid (HD.out.y.pin.range)
            go_wp2_with (first
              | (refine wpList_load_mid rfl 34 (.tmp 9) rfl (w.heap.size + 1) 0 (by simp [Act.eval, Act.put]) [y.v] _ HRX.out Try.underlying34 rfl (by rw [size_word]; rfl) ?_)
              | (refine wpList_store_pin rfl 34 (.tmp 10) (.tmp 120) rfl HZ.out [y.v] (by simp [Act.eval, Act.put]) (by simp [Act.eval, Act.put]) 1 size_word HZL.out rfl (by simp [Wo.v, Value.oneCell']) ?_; intro w1 p1 b1))
            have hld := p1.var 34 _ Try.underlying34 rfl 1 size_word rfl
            exact bodyPost_ret (v := .agg #[y.v]) (by simp [results, Try.results64, asAddr, Act.put, hld]) rfl ⟨y, rfl, HY.out.on (KR.below HB.out (HD.out.b.trans (b1.low (by omega)))), fun h => absurd h (by rw [← HCB.out]; decide), HD.out.b.trans (b1.low (by omega))⟩
          · have e1 : ((km : Int) == 1) = false := by simp [hkm]
            have e2 : ((km : Int) == 2) = false := by simp [hkm]
            have e3 : ((km : Int) == 3) = false := by simp [hkm]
            have e4 : ((km : Int) == 4) = false := by simp [hkm]
            have e5 : ((km : Int) == 5) = true := by simp [hkm]
            clear hkm lkm
            have HHR : Hid (LiesR Y Y.heap.size x.A x.m x.R) := Lib.hid ((HX.out.on (KR.below HB.out HD.out.b)).now)
            have cx8 : Y.cell? ⟨w.heap.size, 0, none⟩ = some (.slice x.A x.m x.c) := HD.out.x.cell 0
            have lx8 := HD.out.x.lt
            have HZN : Hid (∀ (u : World) (Z : Array Value), Z.size = 1 → PIn (u.alloc (.cells Z 34)) u.heap.size 0 34 [] [] Z.toList ∧ Z.toList.length = 1) := Lib.hid (fun u Z hZ => ⟨Blk.pin (by simpa using Blk.new u 34 Z), by simpa using hZ⟩)
            have HBW := Lib.hid (fun (A : Option Addr) (n p : Nat) => built_wordR A n p)
            by_cases hm0 : x.m = 0
            · have HAN := Lib.hid (fun (u : World) => run_append_none x.A x.c u)
              rw [hm0] at cx8
              have d0 : decide ((i : Int) < 0) = false := decide_eq_false (by omega)
              clear hm0
              go_upto_region 19 with (first
                | (at_builtin; refine wpList_append_none rfl (.const (.slice none 0 0)) (.tmp 124) 32 rfl x.A x.c (by simp [Act.eval, Act.put]) (by simp [Act.eval, Act.put]) (HAN.out _) ?_)
                | (refine wpList_build rfl 34 _ rfl #[.slice none 0 0] (by simpa [Act.eval, Act.put] using HBW.out none 0 0) ?_))
              refine wp_at (fun Q => SD w x y Q ∧ PIn Q Y.heap.size 0 34 [] [] [.slice none 0 0]) ⟨HD.out.on (below_al (Below.refl _ Y) _), Blk.pin (L := [.slice none 0 0]) (Blk.new Y _ _)⟩ ?_
              obtain ⟨g13, hg13⟩ : ∃ g, g = Y.heap.size := ⟨_, rfl⟩
              rw [← hg13]
              clear hg13 cx8 lx8 HD HPK
              rintro Q ⟨v1, v2⟩
              have HD := Lib.hid v1
              have c13 : Q.cell? ⟨g13, 0, none⟩ = some (.slice none 0 0) := (v2.cell 0 Nat.one_pos).trans rfl
              have l13 := v2.lt
              have HR13 := Lib.hid v2.range
              clear v1 v2
              obtain ⟨Z, hZl, hZ⟩ := HD.out.z
              have HZ := Lib.hid hZ
              have HZL := Lib.hid hZl
              clear hZ hZl
              go_wp2_with (first
                | (refine wpList_load_mid rfl 34 (.tmp 14) rfl g13 0 (by simp [Act.eval, Act.put]) [.slice none 0 0] _ HR13.out Try.underlying34 rfl (by rw [size_word]; rfl) ?_)
                | (refine wpList_store_pin rfl 34 (.tmp 10) (.tmp 138) rfl HZ.out [.slice none 0 0] (by simp [Act.eval, Act.put]) (by simp [Act.eval, Act.put]) 1 size_word HZL.out rfl (by simp [Wo.v, Value.oneCell']) ?_; intro w1 p1 b1))
              have hld := p1.var 34 _ Try.underlying34 rfl 1 size_word rfl
              exact bodyPost_ret (v := .agg #[.slice none 0 0]) (by simp [results, Try.results64, asAddr, Act.put, hld]) rfl ⟨woN, rfl, SW.nil _ _, fun h => absurd h (by rw [← HCB.out]; decide), HD.out.b.trans (b1.low (by omega))⟩
            · obtain ⟨rb, ro, hrA, hrb, _⟩ := HHR.out.f (by omega)
              obtain ⟨ad, had, hsrc⟩ := HHR.out.f.src (by decide) (fun _ => Rw.l_len _) (by rw [flL_len (fun _ => Rw.l_len _)]; omega)
              have HAD := Lib.hid had
              have HSR := Lib.hid hsrc
              have HPM : Hid (0 < x.m) := Lib.hid (by omega)
              obtain ⟨i0, hi0, hz0, hz1, hz2⟩ := info_parts infoRow
              have HI := Lib.hid hi0
              have HZ0 := Lib.hid hz0
              have HZ1 := Lib.hid hz1
              have HZ2 := Lib.hid hz2
              rw [had] at cx8
              clear hrA hrb hm0 had hsrc hi0 hz0 hz1 hz2
              go_upto_region 19 with (first
                | (at_builtin; refine wpList_append_T rfl (.const (.slice none 0 0)) (.tmp 124) 32 rfl Y.heap.size 54 i0 _ 57 160 elemRows HI.out HZ0.out HZ1.out HZ2.out (by simp [Value.cells, roL_len]) (by decide) none 0 0 [] (by simp [Act.eval, Act.put]) ownsF_nil ad x.m x.c (flL (fun j => (x.R j).l) x.m) (by simp [Act.eval, Act.put]) HSR.out (flL_len (fun _ => Rw.l_len _) _) (flL_one (fun i _ => roL_one _ _ _ _ _)) HPM.out (by have := HM.out; unfold maxLen; omega) (by have := HM.out; omega) (Nat.le_refl _) ?_; intro A2 c2 V1 q1 q2 _; rw [show 0 + x.m = x.m from Nat.zero_add x.m, List.nil_append] at q1; rw [show 0 + x.m = x.m from Nat.zero_add x.m]; obtain ⟨gg, ZZ, rfl, lgg, lcc, q3⟩ := rows_of_ownsT q1 HPM.out; have HB7 := Lib.hid q2; have HQ7 := Lib.hid q3; have HLG7 := Lib.hid lgg; clear q1 q2 q3 lgg lcc)
                | (refine wpList_build rfl 34 _ rfl #[.slice (some ⟨gg, 0, none⟩) x.m c2] (by simpa [Act.eval, Act.put] using HBW.out (some ⟨gg, 0, none⟩) x.m c2) ?_))
              refine wp_at (fun Q => SD w x y Q ∧ PIn Q g11 0 154 [] [] K.l ∧ Blk Q gg 54 (flL (fun j => (x.R j).l) x.m ++ ZZ).toArray ∧ PIn Q V1.heap.size 0 34 [] [] [.slice (some ⟨gg, 0, none⟩) x.m c2] ∧ gg < V1.heap.size) ⟨(HD.out.on HB7.out).on (below_al (Below.refl _ V1) _), (HPK.out.on HB7.out).on (below_al (Below.refl _ V1) _), HQ7.out.alloc _, Blk.pin (L := [.slice (some ⟨gg, 0, none⟩) x.m c2]) (Blk.new V1 _ _), HQ7.out.lt⟩ ?_
              obtain ⟨g13, hg13⟩ : ∃ g, g = V1.heap.size := ⟨_, rfl⟩
              rw [← hg13]
              clear hg13 cx8 lx8 HD HPK HB7 HQ7 HHR HSR
              rintro Q ⟨v1, v2, v3, v4, v5⟩
              have HD := Lib.hid v1
              have HPK := Lib.hid v2
              have HQG := Lib.hid v3
              have HP13 := Lib.hid v4
              have HG13 := Lib.hid v5
              have c13 : Q.cell? ⟨g13, 0, none⟩ = some (.slice (some ⟨gg, 0, none⟩) x.m c2) := (v4.cell 0 Nat.one_pos).trans rfl
              have l13 := v4.lt
              have HL8 : Hid (w.heap.size + 2 < gg) := Lib.hid (by have := HSZ2.out; have := HLG7.out; omega)
              clear v1 v2 v3 v4 v5
              by_cases hsm : i < x.m
              · have dsm : decide ((i : Int) < (x.m : Int)) = true := decide_eq_true (by omega)
                have hix := fun W => idxRows (A := some ⟨gg, 0, none⟩) (n := x.m) c2 rfl hsm W
                simp only [Nat.zero_add] at hix
                have HRK : Hid (Q.rangeAt g11 2 K.r.l) := Lib.hid (fun j v hv => by
                  have h := HPK.out.range (2 + j) v (by rw [Nat.add_comm]; exact hv)
                  rwa [Nat.zero_add] at h)
                have l11 := HPK.out.lt
                have HPG : Hid (PIn Q gg (i * 57) 54 (flL (fun j => (x.R j).l) i) (flL (fun j => (x.R (i + 1 + j)).l) (x.m - (i + 1)) ++ ZZ) (x.R i).l) := Lib.hid ⟨by
                  have h := HQG.out
                  rw [flL_at _ hsm] at h
                  simpa only [List.append_assoc] using h, flL_len (fun _ => Rw.l_len _) _⟩
                go_upto_region 21 with (first
                  | (refine wpList_load_mid rfl 54 (.tmp 135) rfl g11 2 (by simp [Act.eval, Act.put]) K.r.l _ HRK.out Try.underlying54 rfl (by rw [size_row, Rw.l_len]) ?_)
                  | (refine wpList_store_pin rfl 54 (.tmp 137) (.tmp 136) rfl HPG.out K.r.l (by simp [Act.eval, Act.put]) (by simp [Act.eval, Act.put]) 57 size_row (Rw.l_len _) (Rw.l_len _) (roL_one _ _ _ _ _) ?_; intro w7 p7 b7; have HP7 := Lib.hid p7; have HB7 := Lib.hid b7; clear p7 b7))
                refine wp_at (fun Q => SD w x y Q ∧ Blk Q gg 54 (flL (fun j => ((if j = i then K.r else x.R j : Rw)).l) x.m ++ ZZ).toArray ∧ PIn Q g13 0 34 [] [] [.slice (some ⟨gg, 0, none⟩) x.m c2]) ⟨by
                  have l1 := HL8.out
                  obtain ⟨Z, z1, z2⟩ := HD.out.z
                  exact ⟨HB7.out.blk HD.out.x (by omega), HB7.out.blk HD.out.y (by omega), ⟨Z, z1, z2.but HB7.out (by omega)⟩, HD.out.b.trans (HB7.out.low (by omega))⟩, by
                  have h := HP7.out.blk
                  rw [show flL (fun j => ((if j = i then K.r else x.R j : Rw)).l) x.m = flL (fun j => if j = i then K.r.l else (x.R j).l) x.m from flL_congr fun j _ => by split <;> rfl, ← flL_upd (fun j => (x.R j).l) i K.r.l hsm]
                  simpa only [List.append_assoc] using h, HP13.out.but HB7.out (by have := HG13.out; omega)⟩ ?_
                clear HD HPK HQG HP13 HPG HP7 HB7 HRK c13 l13 l11 hix dsm
                rintro Q2 ⟨v1, v2, v3⟩
                have HD := Lib.hid v1
                have HQG := Lib.hid v2
                have HR13 := Lib.hid v3.range
                clear v1 v2 v3
                obtain ⟨Z, hZl, hZ⟩ := HD.out.z
                have HZ := Lib.hid hZ
                have HZL := Lib.hid hZl
                clear hZ hZl
                go_wp2_with (first
                  | (refine wpList_load_mid rfl 34 (.tmp 14) rfl g13 0 (by simp [Act.eval, Act.put]) [.slice (some ⟨gg, 0, none⟩) x.m c2] _ HR13.out Try.underlying34 rfl (by rw [size_word]; rfl) ?_)
                  | (refine wpList_store_pin rfl 34 (.tmp 10) (.tmp 138) rfl HZ.out [.slice (some ⟨gg, 0, none⟩) x.m c2] (by simp [Act.eval, Act.put]) (by simp [Act.eval, Act.put]) 1 size_word HZL.out rfl (by simp [Wo.v, Value.oneCell']) ?_; intro w1 p1 b1))
                have hld := p1.var 34 _ Try.underlying34 rfl 1 size_word rfl
                exact bodyPost_ret (v := .agg #[.slice (some ⟨gg, 0, none⟩) x.m c2]) (by simp [results, Try.results64, asAddr, Act.put, hld]) rfl ⟨⟨some ⟨gg, 0, none⟩, x.m, c2, fun j => if j = i then K.r else x.R j⟩, rfl, copy_sr (lo := 0) (b1.blk HQG.out (by have := HL8.out; omega)) (SR.on HX.out (KR.below HB.out (HD.out.b.trans (b1.low (by omega))))) (fun u ku => HLT.out u (KR.trans (KR.below HB.out (HD.out.b.trans (b1.low (by omega)))) ku)) c2, fun h => absurd h (by rw [← HCB.out]; decide), HD.out.b.trans (b1.low (by omega))⟩
              · have dsm : decide ((i : Int) < (x.m : Int)) = false := decide_eq_false (by omega)
                have HR13 := Lib.hid HP13.out.range
                have HQ2 : Hid (Blk Q gg 54 (flL (fun j => ((if j = i then K.r else x.R j : Rw)).l) x.m ++ ZZ).toArray) := Lib.hid (by rw [show flL (fun j => ((if j = i then K.r else x.R j : Rw)).l) x.m = flL (fun j => (x.R j).l) x.m from flL_congr fun j hj => by rw [if_neg (by omega)]]; exact HQG.out)
                obtain ⟨Z, hZl, hZ⟩ := HD.out.z
                have HZ := Lib.hid hZ
                have HZL := Lib.hid hZl
                clear hZ hZl
                go_wp2_with (first
                  | (refine wpList_load_mid rfl 34 (.tmp 14) rfl g13 0 (by simp [Act.eval, Act.put]) [.slice (some ⟨gg, 0, none⟩) x.m c2] _ HR13.out Try.underlying34 rfl (by rw [size_word]; rfl) ?_)
                  | (refine wpList_store_pin rfl 34 (.tmp 10) (.tmp 138) rfl HZ.out [.slice (some ⟨gg, 0, none⟩) x.m c2] (by simp [Act.eval, Act.put]) (by simp [Act.eval, Act.put]) 1 size_word HZL.out rfl (by simp [Wo.v, Value.oneCell']) ?_; intro w1 p1 b1))
                have hld := p1.var 34 _ Try.underlying34 rfl 1 size_word rfl
                exact bodyPost_ret (v := .agg #[.slice (some ⟨gg, 0, none⟩) x.m c2]) (by simp [results, Try.results64, asAddr, Act.put, hld]) rfl ⟨⟨some ⟨gg, 0, none⟩, x.m, c2, fun j => if j = i then K.r else x.R j⟩, rfl, copy_sr (lo := 0) (b1.blk HQ2.out (by have := HL8.out; omega)) (SR.on HX.out (KR.below HB.out (HD.out.b.trans (b1.low (by omega))))) (fun u ku => HLT.out u (KR.trans (KR.below HB.out (HD.out.b.trans (b1.low (by omega)))) ku)) c2, fun h => absurd h (by rw [← HCB.out]; decide), HD.out.b.trans (b1.low (by omega))⟩
end Go.Proofs.Ytcangipaoancnaa

