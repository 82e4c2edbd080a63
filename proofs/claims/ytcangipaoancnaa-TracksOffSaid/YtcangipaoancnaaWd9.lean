/-
  The contracts of slices.Equal, of what is held, and of package words' Same. Conditions: the lists' reading, their lengths.
-/
import Derived.Test.YtcangipaoancnaaWd8
import Derived.Test.YtcangipaoancnaaWdEq
import Derived.BigQuiet
namespace Go.Proofs.Ytcangipaoancnaa
open Go.RowKit
set_option linter.unusedVariables false

/-- Are the first n the same? -/
def allE (n : Nat) (T U : Nat → He) : Bool := (List.range n).all fun i => heE (T i) (U i)
theorem allE_zero (T U : Nat → He) : allE 0 T U = true := rfl
theorem allE_succ (n : Nat) (T U : Nat → He) : allE (n + 1) T U = (allE n T U && heE (T n) (U n)) := by simp [allE, List.range_succ]
theorem allE_iff (n : Nat) (T U : Nat → He) : allE n T U = true ↔ ∀ i, i < n → T i = U i := by
  simp [allE, heE_iff]
theorem allE_no {n i : Nat} {T U : Nat → He} (hi : i < n) (h : heE (T i) (U i) = false) : allE n T U = false := by
  cases e : allE n T U
  · rfl
  · have := (allE_iff n T U).1 e i hi
    rw [this, heE_refl] at h
    cases h
def eqHs (n m : Nat) (T U : Nat → He) : Bool := n == m && allE n T U
/-- Are rows the same? -/
def eqR (a b : Ro) : Bool := a.b == b.b && (ceE a.c b.c && eqHs a.n b.n a.T b.T)
theorem eqHs_iff (n m : Nat) (T U : Nat → He) : eqHs n m T U = true ↔ n = m ∧ ∀ i, i < n → T i = U i := by
  simp [eqHs, allE_iff]
theorem eqR_iff (a b : Ro) : eqR a b = true ↔ a.b = b.b ∧ a.c = b.c ∧ a.n = b.n ∧ ∀ i, i < a.n → a.T i = b.T i := by
  simp [eqR, eqHs_iff, ceE_iff]
set_option maxRecDepth 100000 in
set_option maxHeartbeats 1000000 in
theorem equal_is (A B : Option Addr) (n m p q : Nat) (hn : n ≤ 65536) (hm : m ≤ 65536) (T U : Nat → He) (w : World) (hT : LiesH w w.heap.size A n T) (hU : LiesH w w.heap.size B m U) :
    Calls Try.prog 75 #[.slice A n p, .slice B m q] w fun e w' => e = .returned (.bool (eqHs n m T U)) ∧ Below w.heap.size w w' := by
  by_cases hnm : n = m
  · subst hnm
    have HT := Lib.hid hT
    have HU := Lib.hid hU
    clear hT hU
    have e0 : (((n : Int) != (n : Int))) = false := by simp
    go_enter Try.func75, Try.ntmps75
    go_wp2_with fail
    go_loopw [13] (fun s wr => ∃ k : Nat, k ≤ n ∧ s = .int .i64 (k : Int) ∧ Hid (allE k T U = true) ∧ Hid (Below w.heap.size w wr)) (fun s _ => n - (intOf s).toNat)
    case atStart => exact ⟨0, by omega, rfl, Lib.hid rfl, Lib.hid (Below.refl _ _)⟩
    case round =>
      obtain ⟨k, hk, rfl, HE, HB⟩ := hrel
      by_cases hlt : k < n
      · obtain ⟨ba, oa, rfl, hba, hca⟩ := HT.out (by omega)
        obtain ⟨bb, ob, rfl, hbb, hcb⟩ := HU.out (by omega)
        have HRA : Hid (∀ u, Below w.heap.size w u → u.rangeAt ba (oa + k * 56) (heL (T k))) := Lib.hid (fun u hb j v hv => (hb.cell (p := ⟨ba, _, none⟩) hba).trans (hca k hlt j v hv))
        have HRB : Hid (∀ u, Below w.heap.size w u → u.rangeAt bb (ob + k * 56) (heL (U k))) := Lib.hid (fun u hb j v hv => (hb.cell (p := ⟨bb, _, none⟩) hbb).trans (hcb k hlt j v hv))
        have hixa := fun W => idxHelds (A := some ⟨ba, oa, none⟩) (n := n) p rfl hlt W
        have hixb := fun W => idxHelds (A := some ⟨bb, ob, none⟩) (n := n) q rfl hlt W
        have hne := fun W => held_neq (T k) (U k) W
        obtain ⟨t, ht⟩ : ∃ t, t = heE (T k) (U k) := ⟨_, rfl⟩
        rw [← ht] at hne
        have HT' := Lib.hid ht
        clear ht hca hcb hba hbb
        go_wp2_with fail
        refine Reg.wp_slots2 (fun t => decide (16 ≤ t)) (Reg.KJ wr.heap.size [] []) (Reg.KJ.drew _ (by simp)) Reg.KJ.trans (by kernel_rfl) (by kernel_rfl) (by kernel_rfl) (fun zz => (Reg.tblK [
          (16, .is (.slice (some ⟨ba, oa, none⟩) n p)),
          (17, .is (.int .i64 (k : Int))),
          (18, .is (.pointer (some ⟨ba, oa + k * 56, none⟩))),
          (19, .is (.agg (heL (T k)).toArray)),
          (20, .is (.slice (some ⟨bb, ob, none⟩) n q)),
          (21, .is (.int .i64 (k : Int))),
          (22, .is (.pointer (some ⟨bb, ob + k * 56, none⟩))),
          (23, .is (.agg (heL (U k)).toArray)),
          (24, .is (.bool (!t)))] zz).P) (fun zz => (Reg.tblK _ zz).on) (fun zz => (Reg.memK [] zz).P) (fun zz => (Reg.memK _ zz).on) ?_ ?_
        · simp only [Reg.frame, Reg.over, Nat.reduceAdd, Nat.reduceLeDiff, decide_true, decide_false, if_true, Bool.false_eq_true, if_false]
          refine ⟨?_, ?_, ?_, ?_, ?_, ?_, ?_, ?_, ?_, trivial⟩
          · intro x u hku hd
            refine wpOp_step rfl fun KK hK => ?_
            go_simp
            exact hK _ _ ⟨_, rfl, Reg.KJ.refl _, fun d hd => by cases hd; exact rfl, fun h => by cases h⟩
          · intro x u hku hd
            refine wpOp_step rfl fun KK hK => ?_
            go_simp
            exact hK _ _ ⟨_, rfl, Reg.KJ.refl _, fun d hd => by cases hd; exact rfl, fun h => by cases h⟩
          · intro x u hku hd
            have h16 : x 16 = .slice (some ⟨ba, oa, none⟩) n p := hd 0 (by decide)
            have h17 : x 17 = .int .i64 (k : Int) := hd 1 (by decide)
            refine wpOp_step rfl fun KK hK => ?_
            simp only [h16, h17] at hK ⊢
            go_simp
            exact hK _ _ ⟨_, rfl, Reg.KJ.refl _, fun d hd => by cases hd; exact rfl, fun h => by cases h⟩
          · intro x u hku hd
            have h18 : x 18 = .pointer (some ⟨ba, oa + k * 56, none⟩) := hd 2 (by decide)
            refine wpOp_step rfl fun KK hK => ?_
            refine Reg.step_load_mid (by rfl) 102 (.tmp 18) (by rfl) ba (oa + k * 56) (by exact h18) (heL (T k)) (HRA.out u (HB.out.trans (hku.below.mono HB.out.size))) _ Try.underlying102 rfl (by rw [size_he, heL_len]) ?_
            exact hK _ _ ⟨_, rfl, Reg.KJ.refl _, fun d hd => by cases hd; exact rfl, fun h => by cases h⟩
          · intro x u hku hd
            refine wpOp_step rfl fun KK hK => ?_
            go_simp
            exact hK _ _ ⟨_, rfl, Reg.KJ.refl _, fun d hd => by cases hd; exact rfl, fun h => by cases h⟩
          · intro x u hku hd
            refine wpOp_step rfl fun KK hK => ?_
            go_simp
            exact hK _ _ ⟨_, rfl, Reg.KJ.refl _, fun d hd => by cases hd; exact rfl, fun h => by cases h⟩
          · intro x u hku hd
            have h20 : x 20 = .slice (some ⟨bb, ob, none⟩) n q := hd 4 (by decide)
            have h21 : x 21 = .int .i64 (k : Int) := hd 5 (by decide)
            refine wpOp_step rfl fun KK hK => ?_
            simp only [h20, h21] at hK ⊢
            go_simp
            exact hK _ _ ⟨_, rfl, Reg.KJ.refl _, fun d hd => by cases hd; exact rfl, fun h => by cases h⟩
          · intro x u hku hd
            have h22 : x 22 = .pointer (some ⟨bb, ob + k * 56, none⟩) := hd 6 (by decide)
            refine wpOp_step rfl fun KK hK => ?_
            refine Reg.step_load_mid (by rfl) 102 (.tmp 22) (by rfl) bb (ob + k * 56) (by exact h22) (heL (U k)) (HRB.out u (HB.out.trans (hku.below.mono HB.out.size))) _ Try.underlying102 rfl (by rw [size_he, heL_len]) ?_
            exact hK _ _ ⟨_, rfl, Reg.KJ.refl _, fun d hd => by cases hd; exact rfl, fun h => by cases h⟩
          · intro x u hku hd
            have h19 : x 19 = .agg (heL (T k)).toArray := hd 3 (by decide)
            have h23 : x 23 = .agg (heL (U k)).toArray := hd 7 (by decide)
            refine wpOp_step rfl fun KK hK => ?_
            simp only [h19, h23] at hK ⊢
            go_simp
            exact hK _ _ ⟨_, rfl, Reg.KJ.refl _, fun d hd => by cases hd; exact rfl, fun h => by cases h⟩
        · intro x u hku hd
          have hb := HB.out.trans (hku.below.mono HB.out.size)
          have HBu := Lib.hid hb
          have e24 : x 24 = .bool (!t) := hd 8 (by decide)
          clear hb
          simp only [Reg.frame, Reg.over, Nat.reduceAdd, Nat.reduceLeDiff, decide_true, decide_false, if_true, Bool.false_eq_true, if_false, e24]
          cases t
          · go_wp2_with fail
            go_ret
            refine ⟨?_, HBu.out⟩
            have : eqHs n n T U = false := by unfold eqHs; rw [allE_no hlt HT'.out.symm]; simp
            rw [this]; rfl
          · go_wp2_with fail
            go_roundw
            case rel => exact ⟨k + 1, by omega, by go_num, Lib.hid (by rw [allE_succ, HE.out, ← HT'.out]; rfl), HBu⟩
            case measure => simp [intOf]; omega
      · go_wp2_with fail
        go_ret
        obtain rfl : k = n := by omega
        refine ⟨?_, HB.out⟩
        have : eqHs k k T U = true := by unfold eqHs; rw [HE.out]; simp
        rw [this]; rfl
  · have e0 : (((n : Int) != (m : Int))) = true := bne_iff_ne.2 (fun h => hnm (by omega))
    have e1 : eqHs n m T U = false := by unfold eqHs; rw [beq_eq_false_iff_ne.2 hnm]; rfl
    have E1 := Lib.hid e1
    clear hT hU e1
    go_enter Try.func75, Try.ntmps75
    go_wp2_with fail
    go_ret
    rw [E1.out]
    exact ⟨rfl, Below.refl _ _⟩
set_option maxRecDepth 100000 in
set_option maxHeartbeats 1000000 in
theorem same_rows (a b : Rw) (hn : a.n ≤ 65536) (hm : b.n ≤ 65536) (w : World) (hT : LiesH w w.heap.size a.A a.n a.T) (hU : LiesH w w.heap.size b.A b.n b.T) :
    Calls Try.prog 50 #[.agg a.l.toArray, .agg b.l.toArray] w fun e w' => e = .returned (.bool (eqR a.ro b.ro)) ∧ Below w.heap.size w w' := by
  obtain ⟨ab, ac, aA, an, ap, aT⟩ := a
  obtain ⟨bb, bc, bA, bn, bp, bT⟩ := b
  have hT' : LiesH w w.heap.size aA an aT := hT
  have hU' : LiesH w w.heap.size bA bn bT := hU
  have HT := Lib.hid hT'
  have HU := Lib.hid hU'
  have HN : Hid (an ≤ 65536) := Lib.hid hn
  have HM : Hid (bn ≤ 65536) := Lib.hid hm
  clear hT hU hT' hU' hn hm
  have hq := fun W => cell_eql ac bc W
  obtain ⟨t, ht⟩ : ∃ t, t = ceE ac bc := ⟨_, rfl⟩
  rw [← ht] at hq
  have HE : Hid (eqR (Rw.ro ⟨ab, ac, aA, an, ap, aT⟩) (Rw.ro ⟨bb, bc, bA, bn, bp, bT⟩) = (ab == bb && (t && eqHs an bn aT bT))) := Lib.hid (by rw [ht]; rfl)
  clear ht
  go_enter Try.func50, Try.ntmps50
  go_upto_region 1 with fail
  refine wp_at (fun U => Blk U w.heap.size 54 (roL ab ac aA an ap).toArray ∧ Blk U (w.heap.size + 1) 54 (roL bb bc bA bn bp).toArray ∧ Below w.heap.size w U) (box_two w _ _ _ _) ?_
  rintro U ⟨h1, h2, h3⟩
  have a0 : U.cell? ⟨w.heap.size, 0, none⟩ = some (.bool ab) := (h1.pin.cell0 (by simp [roL])).trans rfl
  have b0 : U.cell? ⟨w.heap.size + 1, 0, none⟩ = some (.bool bb) := (h2.pin.cell0 (by simp [roL])).trans rfl
  have a56 := h1.rowTab
  have b56 := h2.rowTab
  have l1 := h1.lt
  have l2 := h2.lt
  have HA := Lib.hid h1.rowCell
  have HBC := Lib.hid h2.rowCell
  have HB := Lib.hid h3
  have HTU := Lib.hid (HT.out.on h3)
  have HUU := Lib.hid (HU.out.on h3)
  clear h1 h2 h3
  cases ab <;> cases bb <;> cases t
  all_goals
    go_wp2_with (first
      | (refine wpList_load_want 51 (.tmp 11) rfl w.heap.size 1 (ceL ac) HA.out (by simp [Act.eval]) (by kernel_rfl) _ Try.underlying51 rfl (by rw [size_ce, ceL_len]) ?_)
      | (refine wpList_load_want 51 (.tmp 13) rfl (w.heap.size + 1) 1 (ceL bc) HBC.out (by simp [Act.eval]) (by kernel_rfl) _ Try.underlying51 rfl (by rw [size_ce, ceL_len]) ?_)
      | (go_at_call 75; (with_reducible refine (equal_is aA bA an bn ap bp HN.out HM.out aT bT U HTU.out HUU.out).mono ?_); rintro e w1 ⟨rfl, b1⟩))
  all_goals go_ret
  all_goals rw [HE.out]
  all_goals first | exact ⟨rfl, HB.out⟩ | exact ⟨rfl, below_then HB.out b1⟩
end Go.Proofs.Ytcangipaoancnaa

