/-
  A region that draws its order, some operations of which turn memory, in whatever order among themselves; the last ones may leave no value. No condition; nothing of the program is named here.
-/
import Derived.Test.YtkejpkcaojidaaaGreatDoorReg2
namespace Go.Proofs.YtkejpkcaojidaaaGreatDoor
set_option linter.unusedVariables false
set_option linter.unusedSimpArgs false
open Go.RowKit

namespace Reg
section
variable {P : Program} {ops : Array Oper} {Q : Exit → Act → World → Prop} {w0 : World}
theorem any_inv5 (K : World → World → Prop) (hKt : ∀ a b c, K a b → K b c → K a c) (hf : fine2 ops = true) (fr : (Nat → Value) → Act) (hput : ∀ o ∈ ops.toList, ∀ d, o.dst = some d → ∀ x v, (fr x).put (some d) v = fr (upd x d v))
    (G : Nat → Value → World → Prop) (hG : ∀ d v w w', K w w' → G d v w → G d v w') (H : Nat → World → Prop) (hH : ∀ j w w', K w w' → H j w → H j w')
    (D0 : List Nat) (hs : ∀ i o, ops[i]? = some o → ∀ x w, K w0 w → (∀ d ∈ D0, G d (x d) w) → (∀ j ∈ deps o, Left2 ops G H x w j) →
      wpOp P ops Q i (fun a' w' => ∃ v, a' = (fr x).put o.dst v ∧ K w w' ∧ (∀ d, o.dst = some d → G d v w') ∧ (o.dst = none → H i w')) (fr x) w)
    (hend : ∀ x w, K w0 w → (∀ d ∈ D0, G d (x d) w) → (∀ j, j < ops.size → Left2 ops G H x w j) → Q .normal (fr x) w) :
    ∀ (fuel : Nat) (l : Array Bool) (x : Nat → Value) (w : World), l.size = ops.size → nots l.toList ≤ fuel → K w0 w → (∀ d ∈ D0, G d (x d) w) → (∀ j, l.getD j false = true → Left2 ops G H x w j) → wpAny P .any ops Q fuel l (fr x) w := by
  intro fuel
  induction fuel with
  | zero =>
    intro l x w hl hn hb h0 hL
    have hall : ∀ i, i < ops.size → l.getD i false = true := fun i hi => by
      have := nots_zero l.toList (by omega) i (by simp; omega)
      have hil : i < l.size := by omega
      simp [hil] at this
      simp [Array.getD, hil, this]
    refine ⟨?_, hend x w hb h0 fun j hj => hL j (hall j hj)⟩
    rw [List.eq_nil_iff_forall_not_mem]
    intro i hi
    obtain ⟨h1, o, ho, _⟩ := mem_ready.1 hi
    have hio : i < ops.size := (Array.getElem?_eq_some_iff.1 ho).1
    have := hall i hio
    have hil : i < l.size := by omega
    simp [Array.getD, hil] at h1 this
    rw [this] at h1
    cases h1
  | succ fuel ih =>
    intro l x w hl hn hb h0 hL
    refine ⟨fun hr => hend x w hb h0 fun j hj => hL j (all_listed2 hf l hl hr (j + 1) j (by omega) hj), fun i hi => ?_⟩
    obtain ⟨h1, o, ho, hdep⟩ := mem_ready.1 hi
    have hio : i < ops.size := (Array.getElem?_eq_some_iff.1 ho).1
    have hd1 : ∀ j ∈ deps o, Left2 ops G H x w j := fun j hj => by
      simp only [deps, List.mem_map, List.mem_filter] at hj
      obtain ⟨e, ⟨he, hbind⟩, rfl⟩ := hj
      exact hL _ (hdep e (by simpa using he) hbind)
    refine wpOp_mono (fun a' w' h => ?_) (hs i o ho x w hb h0 hd1)
    obtain ⟨v, rfl, hb', hg, hh⟩ := h
    have hset := nots_set l.toList i (getD_false h1)
    cases hd : o.dst with
    | none =>
      have e0 : (fr x).put none v = fr x := rfl
      rw [e0]
      refine ih _ _ w' (by simp [hl]) ?_ (hKt _ _ _ hb hb') (fun d hd => hG _ _ _ _ hb' (h0 d hd)) fun j hj => ?_
      · simp only [Array.toList_setIfInBounds]
        omega
      · by_cases hji : j = i
        · subst hji
          unfold Left2
          rw [ho]
          simp only [Option.bind_some, hd]
          exact hh hd
        · have hjl : l.getD j false = true := by rw [getD_set_ne false (fun h => hji h.symm)] at hj; exact hj
          have := hL j hjl
          unfold Left2 at this ⊢
          cases hbind : (ops[j]?).bind (·.dst) with
          | none => rw [hbind] at this; exact hH _ _ _ hb' this
          | some d' => rw [hbind] at this; exact hG _ _ _ _ hb' this
    | some d =>
      have hp := hput o (by rw [Array.mem_toList_iff]; exact Array.mem_of_getElem? ho) d hd x v
      rw [hp]
      refine ih _ _ w' (by simp [hl]) ?_ (hKt _ _ _ hb hb') (fun q hq => by
        by_cases e : q = d
        · subst e; rw [upd_same]; exact hg _ hd
        · rw [upd_other _ _ _ _ e]; exact hG _ _ _ _ hb' (h0 q hq)) fun j hj => ?_
      · simp only [Array.toList_setIfInBounds]
        omega
      · unfold Left2
        cases hbind : (ops[j]?).bind (·.dst) with
        | none =>
          simp only
          have hji : j ≠ i := fun h => by
            subst h
            rw [ho] at hbind
            simp [hd] at hbind
          have hjl : l.getD j false = true := by rw [getD_set_ne false (fun h => hji h.symm)] at hj; exact hj
          have := hL j hjl
          unfold Left2 at this
          rw [hbind] at this
          exact hH _ _ _ hb' this
        | some d' =>
          simp only
          by_cases e : d' = d
          · subst e
            rw [upd_same]
            exact hg _ hd
          · rw [upd_other _ _ _ _ e]
            have hji : j ≠ i := fun h => by
              subst h
              rw [ho] at hbind
              simp [hd] at hbind
              exact e hbind.symm
            have hjl : l.getD j false = true := by rw [getD_set_ne false (fun h => hji h.symm)] at hj; exact hj
            have := hL j hjl
            unfold Left2 at this
            rw [hbind] at this
            exact hG _ _ _ _ hb' this

/-- The region, in whatever order: p names the slots that it writes, K what it keeps. -/
theorem wp_slots5 {id : Nat} {a : Act} (p : Nat → Bool) (K : World → World → Prop) (hK0 : K w0 w0.drew) (hKt : ∀ a b c, K a b → K b c → K a c) (hm : P.follows .mixedOrders = true) (hf : fine2 ops = true) (hp : (ops.toList.all fun o => match o.dst with | some d => p d | none => true) = true)
    (G : Nat → Value → World → Prop) (hG : ∀ d v w w', K w w' → G d v w → G d v w') (H : Nat → World → Prop) (hH : ∀ j w w', K w w' → H j w → H j w')
    (D0 : List Nat) (hs0 : ∀ d ∈ D0, G d (a.tmps.toList.getD d undef) w0.drew) (hs : Each (fun i o => ∀ x w, K w0 w → (∀ d ∈ D0, G d (x d) w) → (∀ j ∈ deps o, Left2 ops G H x w j) →
      wpOp P ops Q i (fun a' w' => ∃ v, a' = (frame a p x).put o.dst v ∧ K w w' ∧ (∀ d, o.dst = some d → G d v w') ∧ (o.dst = none → H i w')) (frame a p x) w) 0 ops.toList)
    (hend : ∀ x w, K w0 w → (∀ d ∈ D0, G d (x d) w) → (∀ j, j < ops.size → Left2 ops G H x w j) → Q .normal (frame a p x) w) : (Code.region id ops true).wp P Q a w0 := by
  have := wp_region_any (id := id) (P := P) (Q := Q) (ops := ops) hm (any_inv5 (w0 := w0) K hKt hf (frame a p) (fun o ho d hd x v => frame_put a p x d v (by
    rw [List.all_eq_true] at hp
    have := hp o ho
    rw [hd] at this
    exact this)) G hG H hH D0 (fun i o ho => by
      have := Each.spec ops.toList 0 hs i o (by simpa using ho)
      rw [Nat.zero_add] at this
      exact this) hend _ _ (fun t => a.tmps.toList.getD t undef) w0.drew (by simp) (by simp [nots]) hK0 hs0 fun j hj => by
        exfalso
        by_cases h : j < ops.size
        · simp [Array.getD, h] at hj
        · simp [Array.getD, h] at hj)
  rw [frame_self] at this
  exact this
end
end Reg
end Go.Proofs.YtkejpkcaojidaaaGreatDoor

namespace Go.Proofs.YtkejpkcaojidaaaGreatDoor
open Go.RowKit

namespace Reg
/-- What operation j has left in its slot. -/
def Left4 (ops : Array Oper) (G : Nat → Value → Prop) (x : Nat → Value) (j : Nat) : Prop := match (ops[j]?).bind (·.dst) with
  | some d => G d (x d)
  | none => True
/-- One operation more. -/
def mark (f : Nat → Bool) (i : Nat) : Nat → Bool := fun k => if k = i then true else f k

section
variable {P : Program} {ops : Array Oper} {Q : Exit → Act → World → Prop} {w0 : World}

end
def tblM (l : List (Nat × (Value → Prop))) (d : Nat) : Value → Prop := (l.lookup d).getD (fun _ => True)
end Reg
end Go.Proofs.YtkejpkcaojidaaaGreatDoor

namespace Go.Proofs.YtkejpkcaojidaaaGreatDoor
open Go.RowKit
namespace Reg
section
variable {P : Program} {ops : Array Oper} {Q : Exit → Act → World → Prop} {w0 : World}

theorem any_inv6 (ps : List Nat) (hf : fine2 ops = true) (fr : (Nat → Value) → Act) (hput : ∀ o ∈ ops.toList, ∀ d, o.dst = some d → ∀ x v, (fr x).put (some d) v = fr (upd x d v))
    (G : Nat → Value → Prop) (M : (Nat → Bool) → World → Prop) (hM : ∀ f g w, (∀ k, k ∈ ps → f k = g k) → M f w → M g w) (hps : ∀ j ∈ ps, j < ops.size)
    (hs : ∀ i o, ops[i]? = some o → ∀ x f w, M f w → (i ∈ ps → f i = false) → (∀ j ∈ deps o, f j = true) → (∀ j ∈ deps o, Left4 ops G x j) →
      wpOp P ops Q i (fun a' w' => ∃ v, a' = (fr x).put o.dst v ∧ (i ∈ ps → M (mark f i) w') ∧ (i ∉ ps → w' = w) ∧ ∀ d, o.dst = some d → G d v) (fr x) w)
    (hend : ∀ x w, M (fun _ => true) w → (∀ j, j < ops.size → Left4 ops G x j) → Q .normal (fr x) w) :
    ∀ (fuel : Nat) (l : Array Bool) (x : Nat → Value) (w : World), l.size = ops.size → nots l.toList ≤ fuel → M (fun k => l.getD k false) w → (∀ j, l.getD j false = true → Left4 ops G x j) → wpAny P .any ops Q fuel l (fr x) w := by
  intro fuel
  induction fuel with
  | zero =>
    intro l x w hl hn hMl hL
    have hall : ∀ i, i < ops.size → l.getD i false = true := fun i hi => by
      have := nots_zero l.toList (by omega) i (by simp; omega)
      have hil : i < l.size := by omega
      simp [hil] at this
      simp [Array.getD, hil, this]
    refine ⟨?_, hend x w (hM _ _ w (fun k hk => hall k (hps k hk)) hMl) fun j hj => hL j (hall j hj)⟩
    rw [List.eq_nil_iff_forall_not_mem]
    intro i hi
    obtain ⟨h1, o, ho, _⟩ := mem_ready.1 hi
    have hio : i < ops.size := (Array.getElem?_eq_some_iff.1 ho).1
    have := hall i hio
    have hil : i < l.size := by omega
    simp [Array.getD, hil] at h1 this
    rw [this] at h1
    cases h1
  | succ fuel ih =>
    intro l x w hl hn hMl hL
    refine ⟨fun hr => ?_, fun i hi => ?_⟩
    · have hall : ∀ j, j < ops.size → l.getD j false = true := fun j hj => all_listed2 hf l hl hr (j + 1) j (by omega) hj
      exact hend x w (hM _ _ w (fun k hk => hall k (hps k hk)) hMl) fun j hj => hL j (hall j hj)
    · obtain ⟨h1, o, ho, hdep⟩ := mem_ready.1 hi
      have hio : i < ops.size := (Array.getElem?_eq_some_iff.1 ho).1
      have hd0 : ∀ j ∈ deps o, l.getD j false = true := fun j hj => by
        simp only [deps, List.mem_map, List.mem_filter] at hj
        obtain ⟨e, ⟨he, hbind⟩, rfl⟩ := hj
        exact hdep e (by simpa using he) hbind
      have hni : l.getD i false = false := by
        have hil : i < l.size := by omega
        simp [Array.getD, hil] at h1 ⊢
        exact h1
      refine wpOp_mono (fun a' w' h => ?_) (hs i o ho x (fun k => l.getD k false) w hMl (fun _ => hni) hd0 (fun j hj => hL j (hd0 j hj)))
      obtain ⟨v, rfl, hin, hout, hg⟩ := h
      have hset := nots_set l.toList i (getD_false h1)
      have hfin : ∀ x', (∀ j, (l.setIfInBounds i true).getD j false = true → Left4 ops G x' j) → wpAny P .any ops Q fuel (l.setIfInBounds i true) (fr x') w' := by
        intro x' hLeft
        have hmark : ∀ k, mark (fun k => l.getD k false) i k = (l.setIfInBounds i true).getD k false := fun k => by
          unfold mark
          by_cases e : k = i
          · subst e
            have hil : k < l.size := by omega
            simp [Array.getD, hil]
          · rw [if_neg e, getD_set_ne false (fun h => e h.symm)]
        refine ih _ x' w' (by simp [hl]) (by simp only [Array.toList_setIfInBounds]; omega) ?_ hLeft
        by_cases hip : i ∈ ps
        · exact hM _ _ w' (fun k _ => hmark k) (hin hip)
        · have hw' := hout hip
          subst hw'
          exact hM _ _ w' (fun k hk => by
            have e : k ≠ i := fun e => hip (by rw [← e]; exact hk)
            have := hmark k
            rw [mark, if_neg e] at this
            exact this) hMl
      cases hd : o.dst with
      | none =>
        have e0 : (fr x).put none v = fr x := rfl
        rw [e0]
        refine hfin x fun j hj => ?_
        by_cases hji : j = i
        · subst hji
          unfold Left4
          rw [ho]
          simp only [Option.bind_some, hd]
        · exact hL j (by rw [getD_set_ne false (fun h => hji h.symm)] at hj; exact hj)
      | some d =>
        have hp := hput o (by rw [Array.mem_toList_iff]; exact Array.mem_of_getElem? ho) d hd x v
        rw [hp]
        refine hfin (upd x d v) fun j hj => ?_
        unfold Left4
        cases hbind : (ops[j]?).bind (·.dst) with
        | none => trivial
        | some d' =>
          simp only
          by_cases e : d' = d
          · subst e
            rw [upd_same]
            exact hg _ hd
          · rw [upd_other _ _ _ _ e]
            have hji : j ≠ i := fun h => by
              subst h
              rw [ho] at hbind
              simp [hd] at hbind
              exact e hbind.symm
            have hjl : l.getD j false = true := by rw [getD_set_ne false (fun h => hji h.symm)] at hj; exact hj
            have := hL j hjl
            unfold Left4 at this
            rw [hbind] at this
            exact this

/-- The region, in whatever order: p names the slots that it writes, ps the operations that turn memory. -/
theorem wp_marks6 {id : Nat} {a : Act} (p : Nat → Bool) (ps : List Nat) (M : (Nat → Bool) → World → Prop) (hM : ∀ f g w, (∀ k, k ∈ ps → f k = g k) → M f w → M g w) (hM0 : M (fun _ => false) w0.drew) (hm : P.follows .mixedOrders = true) (hf : fine2 ops = true) (hp : (ops.toList.all fun o => match o.dst with | some d => p d | none => true) = true)
    (hps : (ps.all fun j => decide (j < ops.size)) = true)
    (G : Nat → Value → Prop)
    (hs : Each (fun i o => ∀ x f w, M f w → (i ∈ ps → f i = false) → (∀ j ∈ deps o, f j = true) → (∀ j ∈ deps o, Left4 ops G x j) →
      wpOp P ops Q i (fun a' w' => ∃ v, a' = (frame a p x).put o.dst v ∧ (i ∈ ps → M (mark f i) w') ∧ (i ∉ ps → w' = w) ∧ ∀ d, o.dst = some d → G d v) (frame a p x) w) 0 ops.toList)
    (hend : ∀ x w, M (fun _ => true) w → (∀ j, j < ops.size → Left4 ops G x j) → Q .normal (frame a p x) w) : (Code.region id ops true).wp P Q a w0 := by
  have hempty : ∀ j, (Array.replicate ops.size false).getD j false = false := fun j => by
    by_cases h : j < ops.size
    · simp [Array.getD, h]
    · simp [Array.getD, h]
  have := wp_region_any (id := id) (P := P) (Q := Q) (ops := ops) hm (any_inv6 (Q := Q) (P := P) ps hf (frame a p) (fun o ho d hd x v => frame_put a p x d v (by
    rw [List.all_eq_true] at hp
    have := hp o ho
    rw [hd] at this
    exact this)) G M hM (fun j hj => by
      rw [List.all_eq_true] at hps
      simpa using hps j hj) (fun i o ho => by
      have := Each.spec ops.toList 0 hs i o (by simpa using ho)
      rw [Nat.zero_add] at this
      exact this) hend _ _ (fun t => a.tmps.toList.getD t undef) w0.drew (by simp) (by simp [nots]) (hM _ _ _ (fun k _ => (hempty k).symm) hM0) (fun j hj => by rw [hempty j] at hj; cases hj))
  rw [frame_self] at this
  exact this
/-- The same, with the slots' frame laid out once. -/
theorem wp_marks7 {id : Nat} {a : Act} (fr : (Nat → Value) → Act) (p : Nat → Bool) (hfr : ∀ x, frame a p x = fr x) (ps : List Nat) (M : (Nat → Bool) → World → Prop) (hM : ∀ f g w, (∀ k, k ∈ ps → f k = g k) → M f w → M g w) (hM0 : M (fun _ => false) w0.drew) (hm : P.follows .mixedOrders = true) (hf : fine2 ops = true) (hp : (ops.toList.all fun o => match o.dst with | some d => p d | none => true) = true)
    (hps : (ps.all fun j => decide (j < ops.size)) = true)
    (G : Nat → Value → Prop)
    (hs : Each (fun i o => ∀ x f w, M f w → (i ∈ ps → f i = false) → (∀ j ∈ deps o, f j = true) → (∀ j ∈ deps o, Left4 ops G x j) →
      wpOp P ops Q i (fun a' w' => ∃ v, a' = (fr x).put o.dst v ∧ (i ∈ ps → M (mark f i) w') ∧ (i ∉ ps → w' = w) ∧ ∀ d, o.dst = some d → G d v) (fr x) w) 0 ops.toList)
    (hend : ∀ x w, M (fun _ => true) w → (∀ j, j < ops.size → Left4 ops G x j) → Q .normal (fr x) w) : (Code.region id ops true).wp P Q a w0 := by
  obtain rfl : frame a p = fr := funext hfr
  exact wp_marks6 p ps M hM hM0 hm hf hp hps G hs hend
end
end Reg
end Go.Proofs.YtkejpkcaojidaaaGreatDoor

