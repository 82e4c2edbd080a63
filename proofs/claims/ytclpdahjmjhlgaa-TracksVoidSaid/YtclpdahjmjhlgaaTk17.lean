/-
  The law's ticks as they are handed in; the contract of great: some truth. Conditions: the ticks' readings, lengths such as a list may have.
-/
import Derived.Test.YtclpdahjmjhlgaaTk16
import Derived.Test.YtclpdahjmjhlgaaWdI1
namespace Go.Proofs.Ytclpdahjmjhlgaa
open Go.RowKit
set_option linter.unusedVariables false
set_option linter.unusedSimpArgs false

/-- A tick that is handed in: four words, a row, how often it is said. -/
structure Tin where
  A : Nat → Option Addr
  m : Nat → Nat
  c : Nat → Nat
  R : Nat → Nat → Rw
  o : Rw
  s : Int
def Tin.l (x : Tin) : List Value := [.slice (x.A 0) (x.m 0) (x.c 0), .slice (x.A 1) (x.m 1) (x.c 1), .slice (x.A 2) (x.m 2) (x.c 2), .slice (x.A 3) (x.m 3) (x.c 3)] ++ (x.o.l ++ [.int .u8 x.s])
theorem Tin.l_len (x : Tin) : x.l.length = 62 := by simp [Tin.l, Rw.l_len]
theorem Tin.l_one (x : Tin) : ∀ v ∈ x.l, v.oneCell' = true := by
  intro v hv
  simp only [Tin.l, List.cons_append, List.nil_append, List.mem_cons, List.mem_append] at hv
  rcases hv with rfl | rfl | rfl | rfl | hv | hv
  · rfl
  · rfl
  · rfl
  · rfl
  · exact roL_one _ _ _ _ _ v hv
  · rcases hv with rfl | hv
    · rfl
    · cases hv
/-- What a tick's words and row read as. -/
structure TinR (w : World) (B : Nat) (x : Tin) : Prop where
  r : ∀ k, k < 4 → LiesR w B (x.A k) (x.m k) (x.R k)
  o : LiesH w B x.o.A x.o.n x.o.T
theorem TinR.on {w u : World} {x : Tin} (h : TinR w w.heap.size x) (hb : Below w.heap.size w u) : TinR u u.heap.size x := ⟨fun k hk => (h.r k hk).on hb, h.o.on hb⟩
/-- The list of n ticks. -/
structure LiesX (w : World) (B : Nat) (A : Option Addr) (n : Nat) (X : Nat → Tin) : Prop where
  f : LiesF w B A n 62 fun i => (X i).l
  r : ∀ i, i < n → TinR w B (X i)
theorem LiesX.on {w u : World} {A : Option Addr} {n : Nat} {X : Nat → Tin} (h : LiesX w w.heap.size A n X) (hb : Below w.heap.size w u) : LiesX u u.heap.size A n X := ⟨h.f.on hb, fun i hi => (h.r i hi).on hb⟩
/-- The five words of a tick: its four, and that of its row alone. -/
def wA (x : Tin) (g j : Nat) : Option Addr := if j < 4 then x.A j else some ⟨g, 0, none⟩
def wM (x : Tin) (j : Nat) : Nat := if j < 4 then x.m j else 1
def wC (x : Tin) (j : Nat) : Nat := if j < 4 then x.c j else 1
def wR (x : Tin) (j : Nat) : Nat → Rw := if j < 4 then x.R j else fun _ => x.o
def w5 (x : Tin) (g : Nat) : List Value := [.slice (x.A 0) (x.m 0) (x.c 0), .slice (x.A 1) (x.m 1) (x.c 1), .slice (x.A 2) (x.m 2) (x.c 2), .slice (x.A 3) (x.m 3) (x.c 3), .slice (some ⟨g, 0, none⟩) 1 1]
theorem w5_at (x : Tin) (g : Nat) {j : Nat} (hj : j < 5) : (w5 x g).toArray[j]? = some (.slice (wA x g j) (wM x j) (wC x j)) := by
  rcases (show j = 0 ∨ j = 1 ∨ j = 2 ∨ j = 3 ∨ j = 4 by omega) with rfl | rfl | rfl | rfl | rfl <;> rfl
theorem w5_r {u : World} {x : Tin} {g : Nat} (h : TinR u u.heap.size x) (hg : Blk u g 54 x.o.l.toArray) {j : Nat} (hj : j < 5) : LiesR u u.heap.size (wA x g j) (wM x j) (wR x j) := by
  by_cases h4 : j < 4
  · simp only [wA, wM, wR, h4, if_true]; exact h.r j h4
  · simp only [wA, wM, wR, h4, if_false]
    exact ⟨Blk.liesF (by decide) (fun _ => Rw.l_len _) (by simpa [flL] using hg), fun i hi => h.o⟩
set_option maxRecDepth 100000 in
theorem elemTicks : Try.prog.underlying 22 = some (.slice 56) := by kernel_rfl
set_option maxRecDepth 100000 in
theorem sizeTicks (w : World) : (sizeOf 56).run Try.prog w = .ok 62 w := by kernel_rfl
set_option maxRecDepth 100000 in
theorem size_tin : (Try.prog.info? 56).map (·.size) = some 62 := by kernel_rfl
set_option maxRecDepth 100000 in
theorem idxTicks {A : Option Addr} {n : Nat} (c : Nat) {k b off : Nat} (hA : A = some ⟨b, off, none⟩) (hk : k < n) (w : World) :
    (Instr.indexAt 22 (.slice A n c) (.int .i64 (k : Int))).run Try.prog w = .ok (.pointer (some ⟨b, off + k * 62, none⟩)) w := by
  subst hA
  rw [run_indexAt_slice (h := elemTicks), if_pos (by omega), show Try.prog.elem 22 = 56 by kernel_rfl, sizeTicks]
  simp [Result.andThen, Addr.add_lit]
set_option maxRecDepth 100000 in
theorem elemWords : Try.prog.underlying 127 = some (.slice 34) := by kernel_rfl
set_option maxRecDepth 100000 in
theorem idxWords {h j : Nat} (hj : j < 5) (w : World) :
    (Instr.indexAt 127 (.slice (some ⟨h, 0, none⟩) 5 5) (.int .i64 (j : Int))).run Try.prog w = .ok (.pointer (some ⟨h, j, none⟩)) w := by
  rw [run_indexAt_slice (h := elemWords), if_pos (by omega), show Try.prog.elem 127 = 34 by kernel_rfl, show (sizeOf 34).run Try.prog w = .ok 1 w by kernel_rfl]
  simp [Result.andThen, Addr.add_lit]
set_option maxRecDepth 100000 in
theorem run_bsl5 (x : Tin) (g : Nat) (u : World) : (Instr.buildSlice 127 5 #[(0, .agg #[.slice (x.A 0) (x.m 0) (x.c 0)]), (1, .agg #[.slice (x.A 1) (x.m 1) (x.c 1)]), (2, .agg #[.slice (x.A 2) (x.m 2) (x.c 2)]), (3, .agg #[.slice (x.A 3) (x.m 3) (x.c 3)]), (4, .agg #[.slice (some ⟨g, 0, none⟩) 1 1])]).run Try.prog u = .ok (.slice (some ⟨u.heap.size, 0, none⟩) 5 5) (u.alloc (.cells (w5 x g).toArray 34)) := by kernel_rfl
set_option maxRecDepth 100000 in
theorem built_word1 (g : Nat) : (Try.prog).built 34 [(0, .slice (some ⟨g, 0, none⟩) 1 1)] = some #[.slice (some ⟨g, 0, none⟩) 1 1] := by kernel_rfl
def Reg.FactK.b46 {B : Nat} (o : Rw) : Reg.FactK (Reg.KJ B [] []) := ⟨fun v w => ∃ g, v = .slice (some ⟨g, 0, none⟩) 1 1 ∧ Blk w g 54 o.l.toArray, fun _ _ _ hb h => by
  obtain ⟨g, e, q⟩ := h
  exact ⟨g, e, hb.blk (by simp) q⟩⟩
def Reg.FactK.b47 {B : Nat} (o : Rw) : Reg.FactK (Reg.KJ B [] []) := ⟨fun v w => ∃ g, v = .agg #[.slice (some ⟨g, 0, none⟩) 1 1] ∧ Blk w g 54 o.l.toArray, fun _ _ _ hb h => by
  obtain ⟨g, e, q⟩ := h
  exact ⟨g, e, hb.blk (by simp) q⟩⟩
def Reg.FactK.b48 {B : Nat} (x : Tin) : Reg.FactK (Reg.KJ B [] []) := ⟨fun v w => ∃ h g, v = .slice (some ⟨h, 0, none⟩) 5 5 ∧ Blk w g 54 x.o.l.toArray ∧ Blk w h 34 (w5 x g).toArray, fun _ _ _ hb h => by
  obtain ⟨h, g, e, q, r⟩ := h
  exact ⟨h, g, e, hb.blk (by simp) q, hb.blk (by simp) r⟩⟩
set_option maxRecDepth 100000 in
set_option maxHeartbeats 4000000 in
theorem great14_is (A : Option Addr) (n c : Nat) (X : Nat → Tin) (w : World) (hX : LiesX w w.heap.size A n X) (hm : ∀ i, i < n → ∀ k, k < 4 → (X i).m k ≤ 9223372036854775807) :
    Calls Try.prog 11 #[.slice A n c] w fun e w' => RetB e ∧ Below w.heap.size w w' := by
  obtain ⟨i0, hi0, hz0, hz1, hz2⟩ := info_parts infoRow
  have HI := Lib.hid hi0
  have HZ0 := Lib.hid hz0
  have HZ1 := Lib.hid hz1
  have HX := Lib.hid hX
  have HM := Lib.hid hm
  clear hi0 hz0 hz1 hz2 hX hm
  by_cases hn : n ≤ 40
  · have dn : decide (40 < (n : Int)) = false := decide_eq_false (by omega)
    go_enter Try.func11, Try.ntmps11
    go_wp2_with fail
    go_loopw [3, 4] (fun sv iv wr => ∃ (k : Nat) (s : Int), k ≤ n ∧ iv = .int .i64 (k : Int) ∧ sv = .int .i64 s ∧ Hid (Below w.heap.size w wr)) (fun _ iv _ => n - (intOf iv).toNat)
    case atStart => exact ⟨0, 0, by omega, rfl, rfl, Lib.hid (Below.refl _ _)⟩
    case round =>
      obtain ⟨k, s, hk, rfl, rfl, HB⟩ := hrel
      by_cases hlt : k < n
      · obtain ⟨tx, hx⟩ : ∃ tx, tx = X k := ⟨_, rfl⟩
        have HXR : Hid (∀ u, Below w.heap.size w u → TinR u u.heap.size tx) := Lib.hid (fun u hu => by rw [hx]; exact (HX.out.on hu).r k hlt)
        have HXM : Hid (∀ j, j < 5 → wM tx j ≤ 9223372036854775807) := Lib.hid (fun j hj => by
          unfold wM
          split
          · rw [hx]; exact HM.out k hlt j ‹_›
          · omega)
        obtain ⟨ba, oa, rfl, hba, hca⟩ := HX.out.f (by omega)
        have HR : Hid (∀ u, Below w.heap.size w u → u.rangeAt ba (oa + k * 62) tx.l ∧ ba < u.heap.size) := Lib.hid (fun u hu => ⟨fun j v hv => (hu.cell (p := ⟨ba, _, none⟩) hba).trans (hca k hlt j v (by rw [hx] at hv; exact hv)), Nat.lt_of_lt_of_le hba hu.size⟩)
        have hix := fun W => idxTicks (A := some ⟨ba, oa, none⟩) (n := n) c rfl hlt W
        clear hca hba hx
        go_wp2_with fail
        refine Reg.wp_slots2 (fun t => t == 5 || (decide (17 ≤ t) && decide (t ≤ 48))) (Reg.KJ wr.heap.size [] []) (Reg.KJ.drew _ (by simp)) Reg.KJ.trans (by kernel_rfl) (by kernel_rfl) (by kernel_rfl) (fun zz => (Reg.tblK [
          (17, .is (.slice (some ⟨ba, oa, none⟩) n c)),
          (18, .is (.int .i64 (k : Int))),
          (19, .is (.pointer (some ⟨ba, oa + k * 62, none⟩))),
          (20, .is (.pointer (some ⟨ba, oa + k * 62, none⟩))),
          (21, .is (.pointer (some ⟨ba, oa + k * 62, none⟩))),
          (22, .is (.agg #[.slice (tx.A 0) (tx.m 0) (tx.c 0)])),
          (23, .is (.slice (some ⟨ba, oa, none⟩) n c)),
          (24, .is (.int .i64 (k : Int))),
          (25, .is (.pointer (some ⟨ba, oa + k * 62, none⟩))),
          (26, .is (.pointer (some ⟨ba, oa + k * 62, none⟩))),
          (27, .is (.pointer (some ⟨ba, oa + k * 62 + 1, none⟩))),
          (28, .is (.agg #[.slice (tx.A 1) (tx.m 1) (tx.c 1)])),
          (29, .is (.slice (some ⟨ba, oa, none⟩) n c)),
          (30, .is (.int .i64 (k : Int))),
          (31, .is (.pointer (some ⟨ba, oa + k * 62, none⟩))),
          (32, .is (.pointer (some ⟨ba, oa + k * 62, none⟩))),
          (33, .is (.pointer (some ⟨ba, oa + k * 62 + 2, none⟩))),
          (34, .is (.agg #[.slice (tx.A 2) (tx.m 2) (tx.c 2)])),
          (35, .is (.slice (some ⟨ba, oa, none⟩) n c)),
          (36, .is (.int .i64 (k : Int))),
          (37, .is (.pointer (some ⟨ba, oa + k * 62, none⟩))),
          (38, .is (.pointer (some ⟨ba, oa + k * 62, none⟩))),
          (39, .is (.pointer (some ⟨ba, oa + k * 62 + 3, none⟩))),
          (40, .is (.agg #[.slice (tx.A 3) (tx.m 3) (tx.c 3)])),
          (41, .is (.slice (some ⟨ba, oa, none⟩) n c)),
          (42, .is (.int .i64 (k : Int))),
          (43, .is (.pointer (some ⟨ba, oa + k * 62, none⟩))),
          (44, .is (.pointer (some ⟨ba, oa + k * 62 + 4, none⟩))),
          (45, .is (.agg tx.o.l.toArray)),
          (46, .b46 tx.o),
          (47, .b47 tx.o),
          (48, .b48 tx),
          (5, .b48 tx)] zz).P) (fun zz => (Reg.tblK _ zz).on) (fun zz => (Reg.memK [] zz).P) (fun zz => (Reg.memK _ zz).on) ?_ ?_
        · simp only [Reg.frame, Reg.over, Nat.reduceAdd, Nat.reduceBEq, Nat.reduceLeDiff, decide_true, decide_false, Bool.or_true, Bool.or_false, if_true, Bool.false_eq_true, if_false, Bool.and_true, Bool.and_false]
          refine ⟨?_, ?_, ?_, ?_, ?_, ?_, ?_, ?_, ?_, ?_, ?_, ?_, ?_, ?_, ?_, ?_, ?_, ?_, ?_, ?_, ?_, ?_, ?_, ?_, ?_, ?_, ?_, ?_, ?_, ?_, ?_, ?_, ?_, trivial⟩
          · intro x u hku hd
            refine wpOp_step rfl fun KK hK => ?_
            go_simp
            exact hK _ _ ⟨_, rfl, Reg.KJ.refl _, fun d hd => by cases hd; exact rfl, fun h => by cases h⟩
          · intro x u hku hd
            refine wpOp_step rfl fun KK hK => ?_
            go_simp
            exact hK _ _ ⟨_, rfl, Reg.KJ.refl _, fun d hd => by cases hd; exact rfl, fun h => by cases h⟩
          · intro x u hku hd
            have h17 : x 17 = .slice (some ⟨ba, oa, none⟩) n c := hd 0 (by decide)
            have h18 : x 18 = .int .i64 (k : Int) := hd 1 (by decide)
            refine wpOp_step rfl fun KK hK => ?_
            simp only [h17, h18] at hK ⊢
            go_simp
            exact hK _ _ ⟨_, rfl, Reg.KJ.refl _, fun d hd => by cases hd; exact rfl, fun h => by cases h⟩
          · intro x u hku hd
            have h19 : x 19 = .pointer (some ⟨ba, oa + k * 62, none⟩) := hd 2 (by decide)
            have hbw : Below w.heap.size w u := below_then HB.out hku.belowT
            obtain ⟨hr, lb⟩ := HR.out u hbw
            refine wpOp_step rfl fun KK hK => ?_
            simp only [h19] at hK ⊢
            go_simp
            exact hK _ _ ⟨_, rfl, Reg.KJ.refl _, fun d hd => by cases hd; exact rfl, fun h => by cases h⟩
          · intro x u hku hd
            have h20 : x 20 = .pointer (some ⟨ba, oa + k * 62, none⟩) := hd 3 (by decide)
            have hbw : Below w.heap.size w u := below_then HB.out hku.belowT
            obtain ⟨hr, lb⟩ := HR.out u hbw
            refine wpOp_step rfl fun KK hK => ?_
            simp only [h20] at hK ⊢
            go_simp
            exact hK _ _ ⟨_, rfl, Reg.KJ.refl _, fun d hd => by cases hd; exact rfl, fun h => by cases h⟩
          · intro x u hku hd
            have h21 : x 21 = .pointer (some ⟨ba, oa + k * 62, none⟩) := hd 4 (by decide)
            have hbw : Below w.heap.size w u := below_then HB.out hku.belowT
            obtain ⟨hr, lb⟩ := HR.out u hbw
            have cw : u.cell? ⟨ba, oa + k * 62, none⟩ = some (.slice (tx.A 0) (tx.m 0) (tx.c 0)) := hr 0 _ rfl
            refine wpOp_step rfl fun KK hK => ?_
            simp only [h21] at hK ⊢
            go_simp
            exact hK _ _ ⟨_, rfl, Reg.KJ.refl _, fun d hd => by cases hd; exact rfl, fun h => by cases h⟩
          · intro x u hku hd
            refine wpOp_step rfl fun KK hK => ?_
            go_simp
            exact hK _ _ ⟨_, rfl, Reg.KJ.refl _, fun d hd => by cases hd; exact rfl, fun h => by cases h⟩
          · intro x u hku hd
            refine wpOp_step rfl fun KK hK => ?_
            go_simp
            exact hK _ _ ⟨_, rfl, Reg.KJ.refl _, fun d hd => by cases hd; exact rfl, fun h => by cases h⟩
          · intro x u hku hd
            have h23 : x 23 = .slice (some ⟨ba, oa, none⟩) n c := hd 6 (by decide)
            have h24 : x 24 = .int .i64 (k : Int) := hd 7 (by decide)
            refine wpOp_step rfl fun KK hK => ?_
            simp only [h23, h24] at hK ⊢
            go_simp
            exact hK _ _ ⟨_, rfl, Reg.KJ.refl _, fun d hd => by cases hd; exact rfl, fun h => by cases h⟩
          · intro x u hku hd
            have h25 : x 25 = .pointer (some ⟨ba, oa + k * 62, none⟩) := hd 8 (by decide)
            have hbw : Below w.heap.size w u := below_then HB.out hku.belowT
            obtain ⟨hr, lb⟩ := HR.out u hbw
            refine wpOp_step rfl fun KK hK => ?_
            simp only [h25] at hK ⊢
            go_simp
            exact hK _ _ ⟨_, rfl, Reg.KJ.refl _, fun d hd => by cases hd; exact rfl, fun h => by cases h⟩
          · intro x u hku hd
            have h26 : x 26 = .pointer (some ⟨ba, oa + k * 62, none⟩) := hd 9 (by decide)
            have hbw : Below w.heap.size w u := below_then HB.out hku.belowT
            obtain ⟨hr, lb⟩ := HR.out u hbw
            refine wpOp_step rfl fun KK hK => ?_
            simp only [h26] at hK ⊢
            go_simp
            exact hK _ _ ⟨_, rfl, Reg.KJ.refl _, fun d hd => by cases hd; exact rfl, fun h => by cases h⟩
          · intro x u hku hd
            have h27 : x 27 = .pointer (some ⟨ba, oa + k * 62 + 1, none⟩) := hd 10 (by decide)
            have hbw : Below w.heap.size w u := below_then HB.out hku.belowT
            obtain ⟨hr, lb⟩ := HR.out u hbw
            have cw : u.cell? ⟨ba, oa + k * 62 + 1, none⟩ = some (.slice (tx.A 1) (tx.m 1) (tx.c 1)) := hr 1 _ rfl
            refine wpOp_step rfl fun KK hK => ?_
            simp only [h27] at hK ⊢
            go_simp
            exact hK _ _ ⟨_, rfl, Reg.KJ.refl _, fun d hd => by cases hd; exact rfl, fun h => by cases h⟩
          · intro x u hku hd
            refine wpOp_step rfl fun KK hK => ?_
            go_simp
            exact hK _ _ ⟨_, rfl, Reg.KJ.refl _, fun d hd => by cases hd; exact rfl, fun h => by cases h⟩
          · intro x u hku hd
            refine wpOp_step rfl fun KK hK => ?_
            go_simp
            exact hK _ _ ⟨_, rfl, Reg.KJ.refl _, fun d hd => by cases hd; exact rfl, fun h => by cases h⟩
          · intro x u hku hd
            have h29 : x 29 = .slice (some ⟨ba, oa, none⟩) n c := hd 12 (by decide)
            have h30 : x 30 = .int .i64 (k : Int) := hd 13 (by decide)
            refine wpOp_step rfl fun KK hK => ?_
            simp only [h29, h30] at hK ⊢
            go_simp
            exact hK _ _ ⟨_, rfl, Reg.KJ.refl _, fun d hd => by cases hd; exact rfl, fun h => by cases h⟩
          · intro x u hku hd
            have h31 : x 31 = .pointer (some ⟨ba, oa + k * 62, none⟩) := hd 14 (by decide)
            have hbw : Below w.heap.size w u := below_then HB.out hku.belowT
            obtain ⟨hr, lb⟩ := HR.out u hbw
            refine wpOp_step rfl fun KK hK => ?_
            simp only [h31] at hK ⊢
            go_simp
            exact hK _ _ ⟨_, rfl, Reg.KJ.refl _, fun d hd => by cases hd; exact rfl, fun h => by cases h⟩
          · intro x u hku hd
            have h32 : x 32 = .pointer (some ⟨ba, oa + k * 62, none⟩) := hd 15 (by decide)
            have hbw : Below w.heap.size w u := below_then HB.out hku.belowT
            obtain ⟨hr, lb⟩ := HR.out u hbw
            refine wpOp_step rfl fun KK hK => ?_
            simp only [h32] at hK ⊢
            go_simp
            exact hK _ _ ⟨_, rfl, Reg.KJ.refl _, fun d hd => by cases hd; exact rfl, fun h => by cases h⟩
          · intro x u hku hd
            have h33 : x 33 = .pointer (some ⟨ba, oa + k * 62 + 2, none⟩) := hd 16 (by decide)
            have hbw : Below w.heap.size w u := below_then HB.out hku.belowT
            obtain ⟨hr, lb⟩ := HR.out u hbw
            have cw : u.cell? ⟨ba, oa + k * 62 + 2, none⟩ = some (.slice (tx.A 2) (tx.m 2) (tx.c 2)) := hr 2 _ rfl
            refine wpOp_step rfl fun KK hK => ?_
            simp only [h33] at hK ⊢
            go_simp
            exact hK _ _ ⟨_, rfl, Reg.KJ.refl _, fun d hd => by cases hd; exact rfl, fun h => by cases h⟩
          · intro x u hku hd
            refine wpOp_step rfl fun KK hK => ?_
            go_simp
            exact hK _ _ ⟨_, rfl, Reg.KJ.refl _, fun d hd => by cases hd; exact rfl, fun h => by cases h⟩
          · intro x u hku hd
            refine wpOp_step rfl fun KK hK => ?_
            go_simp
            exact hK _ _ ⟨_, rfl, Reg.KJ.refl _, fun d hd => by cases hd; exact rfl, fun h => by cases h⟩
          · intro x u hku hd
            have h35 : x 35 = .slice (some ⟨ba, oa, none⟩) n c := hd 18 (by decide)
            have h36 : x 36 = .int .i64 (k : Int) := hd 19 (by decide)
            refine wpOp_step rfl fun KK hK => ?_
            simp only [h35, h36] at hK ⊢
            go_simp
            exact hK _ _ ⟨_, rfl, Reg.KJ.refl _, fun d hd => by cases hd; exact rfl, fun h => by cases h⟩
          · intro x u hku hd
            have h37 : x 37 = .pointer (some ⟨ba, oa + k * 62, none⟩) := hd 20 (by decide)
            have hbw : Below w.heap.size w u := below_then HB.out hku.belowT
            obtain ⟨hr, lb⟩ := HR.out u hbw
            refine wpOp_step rfl fun KK hK => ?_
            simp only [h37] at hK ⊢
            go_simp
            exact hK _ _ ⟨_, rfl, Reg.KJ.refl _, fun d hd => by cases hd; exact rfl, fun h => by cases h⟩
          · intro x u hku hd
            have h38 : x 38 = .pointer (some ⟨ba, oa + k * 62, none⟩) := hd 21 (by decide)
            have hbw : Below w.heap.size w u := below_then HB.out hku.belowT
            obtain ⟨hr, lb⟩ := HR.out u hbw
            refine wpOp_step rfl fun KK hK => ?_
            simp only [h38] at hK ⊢
            go_simp
            exact hK _ _ ⟨_, rfl, Reg.KJ.refl _, fun d hd => by cases hd; exact rfl, fun h => by cases h⟩
          · intro x u hku hd
            have h39 : x 39 = .pointer (some ⟨ba, oa + k * 62 + 3, none⟩) := hd 22 (by decide)
            have hbw : Below w.heap.size w u := below_then HB.out hku.belowT
            obtain ⟨hr, lb⟩ := HR.out u hbw
            have cw : u.cell? ⟨ba, oa + k * 62 + 3, none⟩ = some (.slice (tx.A 3) (tx.m 3) (tx.c 3)) := hr 3 _ rfl
            refine wpOp_step rfl fun KK hK => ?_
            simp only [h39] at hK ⊢
            go_simp
            exact hK _ _ ⟨_, rfl, Reg.KJ.refl _, fun d hd => by cases hd; exact rfl, fun h => by cases h⟩
          · intro x u hku hd
            refine wpOp_step rfl fun KK hK => ?_
            go_simp
            exact hK _ _ ⟨_, rfl, Reg.KJ.refl _, fun d hd => by cases hd; exact rfl, fun h => by cases h⟩
          · intro x u hku hd
            refine wpOp_step rfl fun KK hK => ?_
            go_simp
            exact hK _ _ ⟨_, rfl, Reg.KJ.refl _, fun d hd => by cases hd; exact rfl, fun h => by cases h⟩
          · intro x u hku hd
            have h41 : x 41 = .slice (some ⟨ba, oa, none⟩) n c := hd 24 (by decide)
            have h42 : x 42 = .int .i64 (k : Int) := hd 25 (by decide)
            refine wpOp_step rfl fun KK hK => ?_
            simp only [h41, h42] at hK ⊢
            go_simp
            exact hK _ _ ⟨_, rfl, Reg.KJ.refl _, fun d hd => by cases hd; exact rfl, fun h => by cases h⟩
          · intro x u hku hd
            have h43 : x 43 = .pointer (some ⟨ba, oa + k * 62, none⟩) := hd 26 (by decide)
            have hbw : Below w.heap.size w u := below_then HB.out hku.belowT
            obtain ⟨hr, lb⟩ := HR.out u hbw
            refine wpOp_step rfl fun KK hK => ?_
            simp only [h43] at hK ⊢
            go_simp
            exact hK _ _ ⟨_, rfl, Reg.KJ.refl _, fun d hd => by cases hd; exact rfl, fun h => by cases h⟩
          · intro x u hku hd
            have h44 : x 44 = .pointer (some ⟨ba, oa + k * 62 + 4, none⟩) := hd 27 (by decide)
            have hbw : Below w.heap.size w u := below_then HB.out hku.belowT
            obtain ⟨hr, lb⟩ := HR.out u hbw
            have hro : u.rangeAt ba (oa + k * 62 + 4) tx.o.l := fun j v hv => by have := rangeAt_drop (A := [.slice (tx.A 0) (tx.m 0) (tx.c 0), .slice (tx.A 1) (tx.m 1) (tx.c 1), .slice (tx.A 2) (tx.m 2) (tx.c 2), .slice (tx.A 3) (tx.m 3) (tx.c 3)]) hr j v (by rw [List.getElem?_append_left (List.getElem?_eq_some_iff.1 hv).1]; exact hv); exact this
            refine wpOp_step rfl fun KK hK => ?_
            refine Reg.step_load_mid (by rfl) 54 (.tmp 44) (by rfl) ba (oa + k * 62 + 4) (by exact h44) tx.o.l hro _ Try.underlying54 rfl (by rw [size_row, Rw.l_len]) ?_
            exact hK _ _ ⟨_, rfl, Reg.KJ.refl _, fun d hd => by cases hd; exact rfl, fun h => by cases h⟩
          · intro x u hku hd
            have h45 : x 45 = .agg tx.o.l.toArray := hd 28 (by decide)
            refine wpOp_step rfl fun KK hK => ?_
            refine Reg.step_bsl (by rfl) 32 1 _ (by rfl) #[(0, .agg tx.o.l.toArray)] (by simp [Act.eval, h45]) _ _ (run_bsl_one (P := Try.prog) u 32 54 i0 (roL false ceN none 0 0) 57 elemRows HI.out HZ0.out HZ1.out (roL_len _ _ _ _ _) (by decide) (by decide) tx.o.l (Rw.l_len _)) ?_
            exact hK _ _ ⟨_, rfl, Reg.KJ.grow (by simp) hku.size (below_al (Below.refl _ _) _), fun d hd => by cases hd; exact ⟨_, rfl, Blk.new u _ _⟩, fun h => by cases h⟩
          · intro x u hku hd
            have k46 : (Reg.FactK.b46 tx.o : Reg.FactK (Reg.KJ wr.heap.size [] [])).P (x 46) u := hd 29 (by decide)
            obtain ⟨g46, h46, q46⟩ := k46
            refine wpOp_step rfl fun KK hK => ?_
            refine Reg.step_build (by rfl) 34 _ (by rfl) _ (by simpa [Act.eval, h46] using built_word1 g46) ?_
            exact hK _ _ ⟨_, rfl, Reg.KJ.refl _, fun d hd => by cases hd; exact ⟨_, rfl, q46⟩, fun h => by cases h⟩
          · intro x u hku hd
            have h22 : x 22 = .agg #[.slice (tx.A 0) (tx.m 0) (tx.c 0)] := hd 5 (by decide)
            have h28 : x 28 = .agg #[.slice (tx.A 1) (tx.m 1) (tx.c 1)] := hd 11 (by decide)
            have h34 : x 34 = .agg #[.slice (tx.A 2) (tx.m 2) (tx.c 2)] := hd 17 (by decide)
            have h40 : x 40 = .agg #[.slice (tx.A 3) (tx.m 3) (tx.c 3)] := hd 23 (by decide)
            have k47 : (Reg.FactK.b47 tx.o : Reg.FactK (Reg.KJ wr.heap.size [] [])).P (x 47) u := hd 30 (by decide)
            obtain ⟨g47, h47, q47⟩ := k47
            refine wpOp_step rfl fun KK hK => ?_
            refine Reg.step_bsl (by rfl) 127 5 _ (by rfl) #[(0, .agg #[.slice (tx.A 0) (tx.m 0) (tx.c 0)]), (1, .agg #[.slice (tx.A 1) (tx.m 1) (tx.c 1)]), (2, .agg #[.slice (tx.A 2) (tx.m 2) (tx.c 2)]), (3, .agg #[.slice (tx.A 3) (tx.m 3) (tx.c 3)]), (4, .agg #[.slice (some ⟨g47, 0, none⟩) 1 1])] (by simp [Act.eval, h22, h28, h34, h40, h47]) _ _ (run_bsl5 tx g47 u) ?_
            exact hK _ _ ⟨_, rfl, Reg.KJ.grow (by simp) hku.size (below_al (Below.refl _ _) _), fun d hd => by cases hd; exact ⟨_, g47, rfl, q47.alloc _, Blk.new u _ _⟩, fun h => by cases h⟩
          · intro x u hku hd
            have k48 : (Reg.FactK.b48 tx : Reg.FactK (Reg.KJ wr.heap.size [] [])).P (x 48) u := hd 31 (by decide)
            obtain ⟨p48, g48, h48, q48, r48⟩ := k48
            refine wpOp_step rfl fun KK hK => ?_
            simp only [h48] at hK ⊢
            go_simp
            exact hK _ _ ⟨_, rfl, Reg.KJ.refl _, fun d hd => by cases hd; exact ⟨_, _, rfl, q48, r48⟩, fun h => by cases h⟩
        · intro y U hku hall
          have k5 := hall 32 (by decide)
          obtain ⟨h, g, h5, q1, q2⟩ := k5
          have e5 : y 5 = .slice (some ⟨h, 0, none⟩) 5 5 := h5
          have HBU := Lib.hid (below_then HB.out hku.belowT)
          have HG := Lib.hid q1
          have HH := Lib.hid q2
          clear hku hall h5 q1 q2 HR hix
          simp only [Reg.frame, Reg.over, Nat.reduceAdd, Nat.reduceLeDiff, Nat.reduceBEq, Bool.or_true, Bool.or_false, decide_true, decide_false, if_true, Bool.false_eq_true, if_false, Bool.and_true, Bool.and_false, e5]
          go_wp2_with fail
          go_loopw [3, 6] (fun sv iv wr => ∃ (j : Nat) (s : Int), j ≤ 5 ∧ iv = .int .i64 (j : Int) ∧ sv = .int .i64 s ∧ Hid (Below U.heap.size U wr)) (fun _ iv _ => 5 - (intOf iv).toNat)
          case atStart => exact ⟨0, s, by omega, rfl, rfl, Lib.hid (Below.refl _ _)⟩
          case round =>
            obtain ⟨j, s2, hj, rfl, rfl, HBW⟩ := hrel
            by_cases hlj : j < 5
            · have dj : decide ((j : Int) < 5) = true := decide_eq_true (by omega)
              have hiw := fun W => idxWords (h := h) hlj W
              have HBL : Hid (Below w.heap.size w wr) := Lib.hid (below_then HBU.out HBW.out)
              have hh := HH.out.on HBW.out
              have cj := (hh.cell j).trans (w5_at tx g hlj)
              have lh := hh.lt
              have HHW := Lib.hid hh
              clear hh
              have HGC : Hid (Calls Try.prog 41 #[.agg #[.slice (wA tx g j) (wM tx j) (wC tx j)]] wr fun e w' => RetB e ∧ Below wr.heap.size wr w') := Lib.hid (great_is _ _ _ (wR tx j) wr (w5_r (HXR.out _ HBL.out) (HG.out.on HBW.out) hlj) (HXM.out j hlj))
              have HWR : Hid (∀ u, Below wr.heap.size wr u → LiesR u u.heap.size (wA tx g j) (wM tx j) (wR tx j)) := Lib.hid (fun u hu => w5_r (HXR.out _ (below_then HBL.out hu)) ((HG.out.on HBW.out).on hu) hlj)
              have HMJ : Hid (wM tx j ≤ 9223372036854775807) := Lib.hid (HXM.out j hlj)
              obtain ⟨Aj, hAj⟩ : ∃ Aj, Aj = wA tx g j := ⟨_, rfl⟩
              obtain ⟨Mj, hMj⟩ : ∃ Mj, Mj = wM tx j := ⟨_, rfl⟩
              obtain ⟨Cj, hCj⟩ : ∃ Cj, Cj = wC tx j := ⟨_, rfl⟩
              obtain ⟨Rj, hRj⟩ : ∃ Rj, Rj = wR tx j := ⟨_, rfl⟩
              have HCJ : Hid (wr.cell? ⟨h, j, none⟩ = some (.slice Aj Mj Cj)) := Lib.hid (by rw [hAj, hMj, hCj]; exact cj)
              rw [← hAj, ← hMj, ← hCj] at HGC cj
              rw [← hAj, ← hMj, ← hRj] at HWR
              rw [← hMj] at HMJ
              clear hAj hMj hCj hRj
              go_upto_region 12 with fail
              (with_reducible refine HGC.out.mono ?_)
              rintro e w2 ⟨⟨g0, rfl⟩, q1⟩
              have HB2 := Lib.hid q1
              have HBF : Hid (Below w.heap.size w w2) := Lib.hid (below_then HBL.out q1)
              clear HGC cj lh q1
              cases g0 with
              | true =>
                go_wp2_with fail
                go_ret
                exact ⟨⟨_, rfl⟩, HBF.out⟩
              | false =>
                have c2 := belowW HB2.out HCJ.out
                have l2 := cell_ltT c2
                by_cases h6 : 6000 < s2
                · have d6 : decide (6000 < s2) = true := decide_eq_true h6
                  go_wp2_with fail
                  go_ret
                  exact ⟨⟨_, rfl⟩, HBF.out⟩
                · have d6 : decide (6000 < s2) = false := decide_eq_false h6
                  go_wp2_with fail
                  clear c2 l2
                  go_loopw [3, 7] (fun sv iv wr => ∃ (r : Nat) (s3 : Int), r ≤ Mj ∧ iv = .int .i64 (r : Int) ∧ sv = .int .i64 s3 ∧ Hid (Below w2.heap.size w2 wr)) (fun _ iv _ => Mj - (intOf iv).toNat)
                  case atStart => exact ⟨0, _, by omega, rfl, rfl, Lib.hid (Below.refl _ _)⟩
                  case round =>
                    obtain ⟨r, s3, hr, rfl, rfl, HB3⟩ := hrel
                    have HB4 := Lib.hid (below_then HB2.out HB3.out)
                    have c3 := belowW HB4.out HCJ.out
                    have l3 := cell_ltT c3
                    by_cases hlr : r < Mj
                    · have hq := HWR.out _ HB4.out
                      obtain ⟨b2, o2, hA2, hb2, hc2⟩ := hq.f (by omega)
                      have HA2 := Lib.hid hA2
                      have hix2 := fun W => idxRows (A := Aj) (n := Mj) Cj HA2.out hlr W
                      have cn := hc2 r hlr 56 _ (ro_tab _ _ _ _ _)
                      have dr : decide ((r : Int) < (Mj : Int)) = true := decide_eq_true (by omega)
                      have hmj := HMJ.out
                      clear hA2 hc2 hq
                      go_wp2_with fail
                      go_roundw
                      case rel => exact ⟨r + 1, _, by omega, by go_num, rfl, HB3⟩
                      case measure => simp [intOf]; omega
                    · have dr : decide ((r : Int) < (Mj : Int)) = false := decide_eq_false (by omega)
                      go_wp2_with fail
                      go_roundw
                      case rel => exact ⟨j + 1, _, by omega, by go_num, rfl, Lib.hid (below_then HBW.out HB4.out)⟩
                      case measure => simp [intOf]; omega
            · have dj : decide ((j : Int) < 5) = false := decide_eq_false (by omega)
              go_wp2_with fail
              go_roundw
              case rel => exact ⟨k + 1, _, by omega, by go_num, rfl, Lib.hid (below_then HBU.out HBW.out)⟩
              case measure => simp [intOf]; omega
      · have dk : decide ((k : Int) < (n : Int)) = false := decide_eq_false (by omega)
        go_wp2_with fail
        go_ret
        exact ⟨⟨_, rfl⟩, HB.out⟩
  · have dn : decide (40 < (n : Int)) = true := decide_eq_true (by omega)
    go_enter Try.func11, Try.ntmps11
    go_wp2_with fail
    go_ret
    exact ⟨⟨_, rfl⟩, Below.refl _ _⟩
end Go.Proofs.Ytclpdahjmjhlgaa

