/-
  A region that draws its order, some operations of which (ps) turn memory, in whatever order among themselves: M f x w is what is known of memory, and of the slots ds, once those of ps that f names are through; all other operations leave memory, and ds, alone. No condition but those that are named; nothing of the program is named here.
-/
import Derived.Test.YtcangipaoancnaaReg2
import Derived.OrdersIn
import Derived.TacticsIn
namespace Go.Proofs.Ytcangipaoancnaa
open Go.RowKit

namespace Reg
/-- What operation j has left in its slot. -/
def Left4 (ops : Array Oper) (G : Nat → Value → Prop) (x : Nat → Value) (j : Nat) : Prop := match (ops[j]?).bind (·.dst) with
  | some d => G d (x d)
  | none => True
/-- One operation more. -/
def mark (f : Nat → Bool) (i : Nat) : Nat → Bool := fun k => if k = i then true else f k

section
variable {P : Program} {ops : Array Oper} {Q : Exit → Act → World → Prop} {w0 : World}

theorem any_inv4 (ps : List Nat) (hf : fine ops = true) (fr : (Nat → Value) → Act) (hput : ∀ o ∈ ops.toList, ∀ d, o.dst = some d → ∀ x v, (fr x).put (some d) v = fr (upd x d v))
    (G : Nat → Value → Prop) (M : (Nat → Bool) → World → Prop) (hM : ∀ f g w, (∀ k, k ∈ ps → f k = g k) → M f w → M g w) (hps : ∀ j ∈ ps, j < ops.size)
    (hs : ∀ i o, ops[i]? = some o → ∀ x f w, M f w → (i ∈ ps → f i = false) → (∀ j ∈ deps o, f j = true) → (∀ j ∈ deps o, Left4 ops G x j) →
      wpOp P ops Q i (fun a' w' => ∃ v, a' = (fr x).put o.dst v ∧ (i ∈ ps → M (mark f i) w') ∧ (i ∉ ps → w' = w) ∧ ∀ d, o.dst = some d → G d v) (fr x) w)
    (hend : ∀ x w, M (fun _ => true) w → (∀ j, j < ops.size → Left4 ops G x j) → Q .normal (fr x) w) :
    ∀ (fuel : Nat) (l : Array Bool) (x : Nat → Value) (w : World), l.size = ops.size → nots l.toList ≤ fuel → M (fun k => l.getD k false) w → (∀ j, l.getD j false = true → Left4 ops G x j) → wpAny P .any ops Q fuel l (fr x) w := by
  intro fuel
  induction fuel with
  | zero =>
    intro l x w hl hn hMl hL
    have hall : ∀ i, i < ops.size → l.getD i false = true := fun i hi => by
      have := nots_zero l.toList (by omega) i (by simp; omega)
      have hil : i < l.size := by omega
      simp [hil] at this
      simp [Array.getD, hil, this]
    refine ⟨?_, hend x w (hM _ _ w (fun k hk => hall k (hps k hk)) hMl) fun j hj => hL j (hall j hj)⟩
    rw [List.eq_nil_iff_forall_not_mem]
    intro i hi
    obtain ⟨h1, o, ho, _⟩ := mem_ready.1 hi
    have hio : i < ops.size := (Array.getElem?_eq_some_iff.1 ho).1
    have := hall i hio
    have hil : i < l.size := by omega
    simp [Array.getD, hil] at h1 this
    rw [this] at h1
    cases h1
  | succ fuel ih =>
    intro l x w hl hn hMl hL
    refine ⟨fun hr => ?_, fun i hi => ?_⟩
    · have hall : ∀ j, j < ops.size → l.getD j false = true := fun j hj => all_listed hf l hl hr (j + 1) j (by omega) hj
      exact hend x w (hM _ _ w (fun k hk => hall k (hps k hk)) hMl) fun j hj => hL j (hall j hj)
    · obtain ⟨h1, o, ho, hdep⟩ := mem_ready.1 hi
      have hio : i < ops.size := (Array.getElem?_eq_some_iff.1 ho).1
      have hd0 : ∀ j ∈ deps o, l.getD j false = true := fun j hj => by
        simp only [deps, List.mem_map, List.mem_filter] at hj
        obtain ⟨e, ⟨he, hbind⟩, rfl⟩ := hj
        exact hdep e (by simpa using he) hbind
      have hni : l.getD i false = false := by
        have hil : i < l.size := by omega
        simp [Array.getD, hil] at h1 ⊢
        exact h1
      refine wpOp_mono (fun a' w' h => ?_) (hs i o ho x (fun k => l.getD k false) w hMl (fun _ => hni) hd0 (fun j hj => hL j (hd0 j hj)))
      obtain ⟨v, rfl, hin, hout, hg⟩ := h
      have hdst : ∃ d, o.dst = some d := by
        rw [fine, List.all_eq_true] at hf
        have h1 := hf i (by simp [hio])
        simp only [ho, Bool.and_eq_true] at h1
        exact Option.isSome_iff_exists.1 h1.2
      obtain ⟨d, hd⟩ := hdst
      have hp := hput o (by rw [Array.mem_toList_iff]; exact Array.mem_of_getElem? ho) d hd x v
      rw [hd, hp]
      have hset := nots_set l.toList i (getD_false h1)
      have hLeft : ∀ j, (l.setIfInBounds i true).getD j false = true → Left4 ops G (upd x d v) j := fun j hj => by
        unfold Left4
        cases hbind : (ops[j]?).bind (·.dst) with
        | none => trivial
        | some d' =>
          simp only
          by_cases e : d' = d
          · subst e
            rw [upd_same]
            exact hg _ hd
          · rw [upd_other _ _ _ _ e]
            have hji : j ≠ i := fun h => by
              subst h
              rw [ho] at hbind
              simp [hd] at hbind
              exact e hbind.symm
            have hjl : l.getD j false = true := by rw [getD_set_ne false (fun h => hji h.symm)] at hj; exact hj
            have := hL j hjl
            unfold Left4 at this
            rw [hbind] at this
            exact this
      have hmark : ∀ k, mark (fun k => l.getD k false) i k = (l.setIfInBounds i true).getD k false := fun k => by
        unfold mark
        by_cases e : k = i
        · subst e
          have hil : k < l.size := by omega
          simp [Array.getD, hil]
        · rw [if_neg e, getD_set_ne false (fun h => e h.symm)]
      refine ih _ _ w' (by simp [hl]) (by simp only [Array.toList_setIfInBounds]; omega) ?_ hLeft
      by_cases hip : i ∈ ps
      · exact hM _ _ w' (fun k _ => hmark k) (hin hip)
      · have hw' := hout hip
        subst hw'
        exact hM _ _ w' (fun k hk => by
          have e : k ≠ i := fun e => hip (by rw [← e]; exact hk)
          have := hmark k
          rw [mark, if_neg e] at this
          exact this) hMl

/-- The region, in whatever order: p names the slots that it writes, ps the operations that turn memory. -/
theorem wp_marks {id : Nat} {a : Act} (p : Nat → Bool) (ps : List Nat) (M : (Nat → Bool) → World → Prop) (hM : ∀ f g w, (∀ k, k ∈ ps → f k = g k) → M f w → M g w) (hM0 : M (fun _ => false) w0.drew) (hm : P.follows .mixedOrders = true) (hf : fine ops = true) (hp : (ops.toList.all fun o => match o.dst with | some d => p d | none => true) = true)
    (hps : (ps.all fun j => decide (j < ops.size)) = true)
    (G : Nat → Value → Prop)
    (hs : Each (fun i o => ∀ x f w, M f w → (i ∈ ps → f i = false) → (∀ j ∈ deps o, f j = true) → (∀ j ∈ deps o, Left4 ops G x j) →
      wpOp P ops Q i (fun a' w' => ∃ v, a' = (frame a p x).put o.dst v ∧ (i ∈ ps → M (mark f i) w') ∧ (i ∉ ps → w' = w) ∧ ∀ d, o.dst = some d → G d v) (frame a p x) w) 0 ops.toList)
    (hend : ∀ x w, M (fun _ => true) w → (∀ j, j < ops.size → Left4 ops G x j) → Q .normal (frame a p x) w) : (Code.region id ops true).wp P Q a w0 := by
  have hempty : ∀ j, (Array.replicate ops.size false).getD j false = false := fun j => by
    by_cases h : j < ops.size
    · simp [Array.getD, h]
    · simp [Array.getD, h]
  have := wp_region_any (id := id) (P := P) (Q := Q) (ops := ops) hm (any_inv4 (Q := Q) (P := P) ps hf (frame a p) (fun o ho d hd x v => frame_put a p x d v (by
    rw [List.all_eq_true] at hp
    have := hp o ho
    rw [hd] at this
    exact this)) G M hM (fun j hj => by
      rw [List.all_eq_true] at hps
      simpa using hps j hj) (fun i o ho => by
      have := Each.spec ops.toList 0 hs i o (by simpa using ho)
      rw [Nat.zero_add] at this
      exact this) hend _ _ (fun t => a.tmps.toList.getD t undef) w0.drew (by simp) (by simp [nots]) (hM _ _ _ (fun k _ => (hempty k).symm) hM0) (fun j hj => by rw [hempty j] at hj; cases hj))
  rw [frame_self] at this
  exact this
end
def tblM (l : List (Nat × (Value → Prop))) (d : Nat) : Value → Prop := (l.lookup d).getD (fun _ => True)
end Reg
end Go.Proofs.Ytcangipaoancnaa

namespace Go.Proofs.Ytcangipaoancnaa
open Go.RowKit
namespace Reg
section
variable {P : Program} {ops : Array Oper} {Q : Exit → Act → World → Prop} {w0 : World}

theorem any_inv6 (ps : List Nat) (hf : fine2 ops = true) (fr : (Nat → Value) → Act) (hput : ∀ o ∈ ops.toList, ∀ d, o.dst = some d → ∀ x v, (fr x).put (some d) v = fr (upd x d v))
    (G : Nat → Value → Prop) (M : (Nat → Bool) → World → Prop) (hM : ∀ f g w, (∀ k, k ∈ ps → f k = g k) → M f w → M g w) (hps : ∀ j ∈ ps, j < ops.size)
    (hs : ∀ i o, ops[i]? = some o → ∀ x f w, M f w → (i ∈ ps → f i = false) → (∀ j ∈ deps o, f j = true) → (∀ j ∈ deps o, Left4 ops G x j) →
      wpOp P ops Q i (fun a' w' => ∃ v, a' = (fr x).put o.dst v ∧ (i ∈ ps → M (mark f i) w') ∧ (i ∉ ps → w' = w) ∧ ∀ d, o.dst = some d → G d v) (fr x) w)
    (hend : ∀ x w, M (fun _ => true) w → (∀ j, j < ops.size → Left4 ops G x j) → Q .normal (fr x) w) :
    ∀ (fuel : Nat) (l : Array Bool) (x : Nat → Value) (w : World), l.size = ops.size → nots l.toList ≤ fuel → M (fun k => l.getD k false) w → (∀ j, l.getD j false = true → Left4 ops G x j) → wpAny P .any ops Q fuel l (fr x) w := by
  intro fuel
  induction fuel with
  | zero =>
    intro l x w hl hn hMl hL
    have hall : ∀ i, i < ops.size → l.getD i false = true := fun i hi => by
      have := nots_zero l.toList (by omega) i (by simp; omega)
      have hil : i < l.size := by omega
      simp [hil] at this
      simp [Array.getD, hil, this]
    refine ⟨?_, hend x w (hM _ _ w (fun k hk => hall k (hps k hk)) hMl) fun j hj => hL j (hall j hj)⟩
    rw [List.eq_nil_iff_forall_not_mem]
    intro i hi
    obtain ⟨h1, o, ho, _⟩ := mem_ready.1 hi
    have hio : i < ops.size := (Array.getElem?_eq_some_iff.1 ho).1
    have := hall i hio
    have hil : i < l.size := by omega
    simp [Array.getD, hil] at h1 this
    rw [this] at h1
    cases h1
  | succ fuel ih =>
    intro l x w hl hn hMl hL
    refine ⟨fun hr => ?_, fun i hi => ?_⟩
    · have hall : ∀ j, j < ops.size → l.getD j false = true := fun j hj => all_listed2 hf l hl hr (j + 1) j (by omega) hj
      exact hend x w (hM _ _ w (fun k hk => hall k (hps k hk)) hMl) fun j hj => hL j (hall j hj)
    · obtain ⟨h1, o, ho, hdep⟩ := mem_ready.1 hi
      have hio : i < ops.size := (Array.getElem?_eq_some_iff.1 ho).1
      have hd0 : ∀ j ∈ deps o, l.getD j false = true := fun j hj => by
        simp only [deps, List.mem_map, List.mem_filter] at hj
        obtain ⟨e, ⟨he, hbind⟩, rfl⟩ := hj
        exact hdep e (by simpa using he) hbind
      have hni : l.getD i false = false := by
        have hil : i < l.size := by omega
        simp [Array.getD, hil] at h1 ⊢
        exact h1
      refine wpOp_mono (fun a' w' h => ?_) (hs i o ho x (fun k => l.getD k false) w hMl (fun _ => hni) hd0 (fun j hj => hL j (hd0 j hj)))
      obtain ⟨v, rfl, hin, hout, hg⟩ := h
      have hset := nots_set l.toList i (getD_false h1)
      have hfin : ∀ x', (∀ j, (l.setIfInBounds i true).getD j false = true → Left4 ops G x' j) → wpAny P .any ops Q fuel (l.setIfInBounds i true) (fr x') w' := by
        intro x' hLeft
        have hmark : ∀ k, mark (fun k => l.getD k false) i k = (l.setIfInBounds i true).getD k false := fun k => by
          unfold mark
          by_cases e : k = i
          · subst e
            have hil : k < l.size := by omega
            simp [Array.getD, hil]
          · rw [if_neg e, getD_set_ne false (fun h => e h.symm)]
        refine ih _ x' w' (by simp [hl]) (by simp only [Array.toList_setIfInBounds]; omega) ?_ hLeft
        by_cases hip : i ∈ ps
        · exact hM _ _ w' (fun k _ => hmark k) (hin hip)
        · have hw' := hout hip
          subst hw'
          exact hM _ _ w' (fun k hk => by
            have e : k ≠ i := fun e => hip (by rw [← e]; exact hk)
            have := hmark k
            rw [mark, if_neg e] at this
            exact this) hMl
      cases hd : o.dst with
      | none =>
        have e0 : (fr x).put none v = fr x := rfl
        rw [e0]
        refine hfin x fun j hj => ?_
        by_cases hji : j = i
        · subst hji
          unfold Left4
          rw [ho]
          simp only [Option.bind_some, hd]
        · exact hL j (by rw [getD_set_ne false (fun h => hji h.symm)] at hj; exact hj)
      | some d =>
        have hp := hput o (by rw [Array.mem_toList_iff]; exact Array.mem_of_getElem? ho) d hd x v
        rw [hp]
        refine hfin (upd x d v) fun j hj => ?_
        unfold Left4
        cases hbind : (ops[j]?).bind (·.dst) with
        | none => trivial
        | some d' =>
          simp only
          by_cases e : d' = d
          · subst e
            rw [upd_same]
            exact hg _ hd
          · rw [upd_other _ _ _ _ e]
            have hji : j ≠ i := fun h => by
              subst h
              rw [ho] at hbind
              simp [hd] at hbind
              exact e hbind.symm
            have hjl : l.getD j false = true := by rw [getD_set_ne false (fun h => hji h.symm)] at hj; exact hj
            have := hL j hjl
            unfold Left4 at this
            rw [hbind] at this
            exact this

/-- The region, in whatever order: p names the slots that it writes, ps the operations that turn memory. -/
theorem wp_marks6 {id : Nat} {a : Act} (p : Nat → Bool) (ps : List Nat) (M : (Nat → Bool) → World → Prop) (hM : ∀ f g w, (∀ k, k ∈ ps → f k = g k) → M f w → M g w) (hM0 : M (fun _ => false) w0.drew) (hm : P.follows .mixedOrders = true) (hf : fine2 ops = true) (hp : (ops.toList.all fun o => match o.dst with | some d => p d | none => true) = true)
    (hps : (ps.all fun j => decide (j < ops.size)) = true)
    (G : Nat → Value → Prop)
    (hs : Each (fun i o => ∀ x f w, M f w → (i ∈ ps → f i = false) → (∀ j ∈ deps o, f j = true) → (∀ j ∈ deps o, Left4 ops G x j) →
      wpOp P ops Q i (fun a' w' => ∃ v, a' = (frame a p x).put o.dst v ∧ (i ∈ ps → M (mark f i) w') ∧ (i ∉ ps → w' = w) ∧ ∀ d, o.dst = some d → G d v) (frame a p x) w) 0 ops.toList)
    (hend : ∀ x w, M (fun _ => true) w → (∀ j, j < ops.size → Left4 ops G x j) → Q .normal (frame a p x) w) : (Code.region id ops true).wp P Q a w0 := by
  have hempty : ∀ j, (Array.replicate ops.size false).getD j false = false := fun j => by
    by_cases h : j < ops.size
    · simp [Array.getD, h]
    · simp [Array.getD, h]
  have := wp_region_any (id := id) (P := P) (Q := Q) (ops := ops) hm (any_inv6 (Q := Q) (P := P) ps hf (frame a p) (fun o ho d hd x v => frame_put a p x d v (by
    rw [List.all_eq_true] at hp
    have := hp o ho
    rw [hd] at this
    exact this)) G M hM (fun j hj => by
      rw [List.all_eq_true] at hps
      simpa using hps j hj) (fun i o ho => by
      have := Each.spec ops.toList 0 hs i o (by simpa using ho)
      rw [Nat.zero_add] at this
      exact this) hend _ _ (fun t => a.tmps.toList.getD t undef) w0.drew (by simp) (by simp [nots]) (hM _ _ _ (fun k _ => (hempty k).symm) hM0) (fun j hj => by rw [hempty j] at hj; cases hj))
  rw [frame_self] at this
  exact this
/-- The same, with the slots' frame laid out once. -/
theorem wp_marks7 {id : Nat} {a : Act} (fr : (Nat → Value) → Act) (p : Nat → Bool) (hfr : ∀ x, frame a p x = fr x) (ps : List Nat) (M : (Nat → Bool) → World → Prop) (hM : ∀ f g w, (∀ k, k ∈ ps → f k = g k) → M f w → M g w) (hM0 : M (fun _ => false) w0.drew) (hm : P.follows .mixedOrders = true) (hf : fine2 ops = true) (hp : (ops.toList.all fun o => match o.dst with | some d => p d | none => true) = true)
    (hps : (ps.all fun j => decide (j < ops.size)) = true)
    (G : Nat → Value → Prop)
    (hs : Each (fun i o => ∀ x f w, M f w → (i ∈ ps → f i = false) → (∀ j ∈ deps o, f j = true) → (∀ j ∈ deps o, Left4 ops G x j) →
      wpOp P ops Q i (fun a' w' => ∃ v, a' = (fr x).put o.dst v ∧ (i ∈ ps → M (mark f i) w') ∧ (i ∉ ps → w' = w) ∧ ∀ d, o.dst = some d → G d v) (fr x) w) 0 ops.toList)
    (hend : ∀ x w, M (fun _ => true) w → (∀ j, j < ops.size → Left4 ops G x j) → Q .normal (fr x) w) : (Code.region id ops true).wp P Q a w0 := by
  obtain rfl : frame a p = fr := funext hfr
  exact wp_marks6 p ps M hM hM0 hm hf hp hps G hs hend
end
end Reg
end Go.Proofs.Ytcangipaoancnaa

namespace Go.Proofs.Ytcangipaoancnaa
open Go.RowKit
set_option linter.unusedVariables false

namespace Reg
/-- A slot written, or none. -/
def updO (x : Nat → Value) : Option Nat → Value → (Nat → Value)
  | none, _ => x
  | some d, v => upd x d v
section
variable {P : Program} {ops : Array Oper} {Q : Exit → Act → World → Prop} {w0 : World}

theorem any_invX (ps ds : List Nat) (hf : fine2 ops = true) (fr : (Nat → Value) → Act) (hput : ∀ o ∈ ops.toList, ∀ d, o.dst = some d → ∀ x v, (fr x).put (some d) v = fr (upd x d v))
    (G : Nat → Value → Prop) (M : (Nat → Bool) → (Nat → Value) → World → Prop) (hM : ∀ f g x y w, (∀ k, k ∈ ps → f k = g k) → (∀ d, d ∈ ds → x d = y d) → M f x w → M g y w) (hps : ∀ j ∈ ps, j < ops.size)
    (hds : ∀ i o, ops[i]? = some o → i ∉ ps → ∀ d, o.dst = some d → d ∉ ds)
    (hs : ∀ i o, ops[i]? = some o → ∀ x f w, M f x w → (i ∈ ps → f i = false) → (∀ j ∈ deps o, f j = true) → (∀ j ∈ deps o, Left4 ops G x j) →
      wpOp P ops Q i (fun a' w' => ∃ v, a' = (fr x).put o.dst v ∧ (i ∈ ps → M (mark f i) (updO x o.dst v) w') ∧ (i ∉ ps → w' = w) ∧ ∀ d, o.dst = some d → G d v) (fr x) w)
    (hend : ∀ x w, M (fun _ => true) x w → (∀ j, j < ops.size → Left4 ops G x j) → Q .normal (fr x) w) :
    ∀ (fuel : Nat) (l : Array Bool) (x : Nat → Value) (w : World), l.size = ops.size → nots l.toList ≤ fuel → M (fun k => l.getD k false) x w → (∀ j, l.getD j false = true → Left4 ops G x j) → wpAny P .any ops Q fuel l (fr x) w := by
  intro fuel
  induction fuel with
  | zero =>
    intro l x w hl hn hMl hL
    have hall : ∀ i, i < ops.size → l.getD i false = true := fun i hi => by
      have := nots_zero l.toList (by omega) i (by simp; omega)
      have hil : i < l.size := by omega
      simp [hil] at this
      simp [Array.getD, hil, this]
    refine ⟨?_, hend x w (hM _ _ _ _ w (fun k hk => hall k (hps k hk)) (fun _ _ => rfl) hMl) fun j hj => hL j (hall j hj)⟩
    rw [List.eq_nil_iff_forall_not_mem]
    intro i hi
    obtain ⟨h1, o, ho, _⟩ := mem_ready.1 hi
    have hio : i < ops.size := (Array.getElem?_eq_some_iff.1 ho).1
    have := hall i hio
    have hil : i < l.size := by omega
    simp [Array.getD, hil] at h1 this
    rw [this] at h1
    cases h1
  | succ fuel ih =>
    intro l x w hl hn hMl hL
    refine ⟨fun hr => ?_, fun i hi => ?_⟩
    · have hall : ∀ j, j < ops.size → l.getD j false = true := fun j hj => all_listed2 hf l hl hr (j + 1) j (by omega) hj
      exact hend x w (hM _ _ _ _ w (fun k hk => hall k (hps k hk)) (fun _ _ => rfl) hMl) fun j hj => hL j (hall j hj)
    · obtain ⟨h1, o, ho, hdep⟩ := mem_ready.1 hi
      have hio : i < ops.size := (Array.getElem?_eq_some_iff.1 ho).1
      have hd0 : ∀ j ∈ deps o, l.getD j false = true := fun j hj => by
        simp only [deps, List.mem_map, List.mem_filter] at hj
        obtain ⟨e, ⟨he, hbind⟩, rfl⟩ := hj
        exact hdep e (by simpa using he) hbind
      have hni : l.getD i false = false := by
        have hil : i < l.size := by omega
        simp [Array.getD, hil] at h1 ⊢
        exact h1
      refine wpOp_mono (fun a' w' h => ?_) (hs i o ho x (fun k => l.getD k false) w hMl (fun _ => hni) hd0 (fun j hj => hL j (hd0 j hj)))
      obtain ⟨v, rfl, hin, hout, hg⟩ := h
      have hset := nots_set l.toList i (getD_false h1)
      have hfin : ∀ x', x' = updO x o.dst v → (∀ j, (l.setIfInBounds i true).getD j false = true → Left4 ops G x' j) → wpAny P .any ops Q fuel (l.setIfInBounds i true) (fr x') w' := by
        intro x' hx' hLeft
        have hmark : ∀ k, mark (fun k => l.getD k false) i k = (l.setIfInBounds i true).getD k false := fun k => by
          unfold mark
          by_cases e : k = i
          · subst e
            have hil : k < l.size := by omega
            simp [Array.getD, hil]
          · rw [if_neg e, getD_set_ne false (fun h => e h.symm)]
        refine ih _ x' w' (by simp [hl]) (by simp only [Array.toList_setIfInBounds]; omega) ?_ hLeft
        subst hx'
        by_cases hip : i ∈ ps
        · exact hM _ _ _ _ w' (fun k _ => hmark k) (fun _ _ => rfl) (hin hip)
        · have hw' := hout hip
          subst hw'
          refine hM _ _ _ _ w' (fun k hk => by
            have e : k ≠ i := fun e => hip (by rw [← e]; exact hk)
            have := hmark k
            rw [mark, if_neg e] at this
            exact this) (fun d hd => ?_) hMl
          cases hod : o.dst with
          | none => rfl
          | some d' =>
            have hne : d ≠ d' := fun e => hds i o ho hip d' hod (e ▸ hd)
            exact (upd_other _ _ _ _ hne).symm
      cases hd : o.dst with
      | none =>
        have e0 : (fr x).put none v = fr x := rfl
        rw [e0]
        refine hfin x (by rw [hd]; rfl) fun j hj => ?_
        by_cases hji : j = i
        · subst hji
          unfold Left4
          rw [ho]
          simp only [Option.bind_some, hd]
        · exact hL j (by rw [getD_set_ne false (fun h => hji h.symm)] at hj; exact hj)
      | some d =>
        have hp := hput o (by rw [Array.mem_toList_iff]; exact Array.mem_of_getElem? ho) d hd x v
        rw [hp]
        refine hfin (upd x d v) (by rw [hd]; rfl) fun j hj => ?_
        unfold Left4
        cases hbind : (ops[j]?).bind (·.dst) with
        | none => trivial
        | some d' =>
          simp only
          by_cases e : d' = d
          · subst e
            rw [upd_same]
            exact hg _ hd
          · rw [upd_other _ _ _ _ e]
            have hji : j ≠ i := fun h => by
              subst h
              rw [ho] at hbind
              simp [hd] at hbind
              exact e hbind.symm
            have hjl : l.getD j false = true := by rw [getD_set_ne false (fun h => hji h.symm)] at hj; exact hj
            have := hL j hjl
            unfold Left4 at this
            rw [hbind] at this
            exact this

/-- The region, in whatever order: p names the slots that it writes, ps the operations that turn memory, ds their slots. -/
theorem wp_marksX {id : Nat} {a : Act} (fr : (Nat → Value) → Act) (p : Nat → Bool) (hfr : ∀ x, frame a p x = fr x) (ps ds : List Nat) (M : (Nat → Bool) → (Nat → Value) → World → Prop) (hM : ∀ f g x y w, (∀ k, k ∈ ps → f k = g k) → (∀ d, d ∈ ds → x d = y d) → M f x w → M g y w) (hM0 : ∀ x, M (fun _ => false) x w0.drew) (hm : P.follows .mixedOrders = true) (hf : fine2 ops = true) (hp : (ops.toList.all fun o => match o.dst with | some d => p d | none => true) = true)
    (hps : (ps.all fun j => decide (j < ops.size)) = true)
    (hds : ((List.range ops.size).all fun i => ps.contains i || match (ops[i]?).bind (·.dst) with | some d => !ds.contains d | none => true) = true)
    (G : Nat → Value → Prop)
    (hs : Each (fun i o => ∀ x f w, M f x w → (i ∈ ps → f i = false) → (∀ j ∈ deps o, f j = true) → (∀ j ∈ deps o, Left4 ops G x j) →
      wpOp P ops Q i (fun a' w' => ∃ v, a' = (fr x).put o.dst v ∧ (i ∈ ps → M (mark f i) (updO x o.dst v) w') ∧ (i ∉ ps → w' = w) ∧ ∀ d, o.dst = some d → G d v) (fr x) w) 0 ops.toList)
    (hend : ∀ x w, M (fun _ => true) x w → (∀ j, j < ops.size → Left4 ops G x j) → Q .normal (fr x) w) : (Code.region id ops true).wp P Q a w0 := by
  obtain rfl : frame a p = fr := funext hfr
  have hempty : ∀ j, (Array.replicate ops.size false).getD j false = false := fun j => by
    by_cases h : j < ops.size
    · simp [Array.getD, h]
    · simp [Array.getD, h]
  have := wp_region_any (id := id) (P := P) (Q := Q) (ops := ops) hm (any_invX (Q := Q) (P := P) ps ds hf (frame a p) (fun o ho d hd x v => frame_put a p x d v (by
    rw [List.all_eq_true] at hp
    have := hp o ho
    rw [hd] at this
    exact this)) G M hM (fun j hj => by
      rw [List.all_eq_true] at hps
      simpa using hps j hj) (fun i o ho hip d hd hdd => by
      rw [List.all_eq_true] at hds
      have := hds i (by rw [List.mem_range]; exact (Array.getElem?_eq_some_iff.1 ho).1)
      rw [ho, Option.bind_some, hd] at this
      simp [hip, hdd] at this) (fun i o ho => by
      have := Each.spec ops.toList 0 hs i o (by simpa using ho)
      rw [Nat.zero_add] at this
      exact this) hend _ _ (fun t => a.tmps.toList.getD t undef) w0.drew (by simp) (by simp [nots]) (hM _ _ _ _ _ (fun k _ => (hempty k).symm) (fun _ _ => rfl) (hM0 _)) (fun j hj => by rw [hempty j] at hj; cases hj))
  rw [frame_self] at this
  exact this
end
end Reg
end Go.Proofs.Ytcangipaoancnaa

namespace Go.Proofs.Ytcangipaoancnaa
open Go.RowKit
set_option linter.unusedVariables false

namespace Reg
section
variable {F : Fence} {N : Nat} {P : Program} {ops : Array Oper} {Q : Exit → Act → World → Prop} {w0 : World}

theorem any_invXIn (ps ds : List Nat) (hf : fine2 ops = true) (fr : (Nat → Value) → Act) (hput : ∀ o ∈ ops.toList, ∀ d, o.dst = some d → ∀ x v, (fr x).put (some d) v = fr (upd x d v))
    (G : Nat → Value → Prop) (M : (Nat → Bool) → (Nat → Value) → World → Prop) (hM : ∀ f g x y w, (∀ k, k ∈ ps → f k = g k) → (∀ d, d ∈ ds → x d = y d) → M f x w → M g y w) (hps : ∀ j ∈ ps, j < ops.size)
    (hds : ∀ i o, ops[i]? = some o → i ∉ ps → ∀ d, o.dst = some d → d ∉ ds)
    (hs : ∀ i o, ops[i]? = some o → ∀ x f w, M f x w → (i ∈ ps → f i = false) → (∀ j ∈ deps o, f j = true) → (∀ j ∈ deps o, Left4 ops G x j) →
      wpOpIn F N P ops Q i (fun a' w' => ∃ v, a' = (fr x).put o.dst v ∧ (i ∈ ps → M (mark f i) (updO x o.dst v) w') ∧ (i ∉ ps → w' = w) ∧ ∀ d, o.dst = some d → G d v) (fr x) w)
    (hend : ∀ x w, M (fun _ => true) x w → (∀ j, j < ops.size → Left4 ops G x j) → Q .normal (fr x) w) :
    ∀ (fuel : Nat) (l : Array Bool) (x : Nat → Value) (w : World), l.size = ops.size → nots l.toList ≤ fuel → M (fun k => l.getD k false) x w → (∀ j, l.getD j false = true → Left4 ops G x j) → wpAnyIn F N P .any ops Q fuel l (fr x) w := by
  intro fuel
  induction fuel with
  | zero =>
    intro l x w hl hn hMl hL
    have hall : ∀ i, i < ops.size → l.getD i false = true := fun i hi => by
      have := nots_zero l.toList (by omega) i (by simp; omega)
      have hil : i < l.size := by omega
      simp [hil] at this
      simp [Array.getD, hil, this]
    refine ⟨?_, hend x w (hM _ _ _ _ w (fun k hk => hall k (hps k hk)) (fun _ _ => rfl) hMl) fun j hj => hL j (hall j hj)⟩
    rw [List.eq_nil_iff_forall_not_mem]
    intro i hi
    obtain ⟨h1, o, ho, _⟩ := mem_ready.1 hi
    have hio : i < ops.size := (Array.getElem?_eq_some_iff.1 ho).1
    have := hall i hio
    have hil : i < l.size := by omega
    simp [Array.getD, hil] at h1 this
    rw [this] at h1
    cases h1
  | succ fuel ih =>
    intro l x w hl hn hMl hL
    refine ⟨fun hr => ?_, fun i hi => ?_⟩
    · have hall : ∀ j, j < ops.size → l.getD j false = true := fun j hj => all_listed2 hf l hl hr (j + 1) j (by omega) hj
      exact hend x w (hM _ _ _ _ w (fun k hk => hall k (hps k hk)) (fun _ _ => rfl) hMl) fun j hj => hL j (hall j hj)
    · obtain ⟨h1, o, ho, hdep⟩ := mem_ready.1 hi
      have hio : i < ops.size := (Array.getElem?_eq_some_iff.1 ho).1
      have hd0 : ∀ j ∈ deps o, l.getD j false = true := fun j hj => by
        simp only [deps, List.mem_map, List.mem_filter] at hj
        obtain ⟨e, ⟨he, hbind⟩, rfl⟩ := hj
        exact hdep e (by simpa using he) hbind
      have hni : l.getD i false = false := by
        have hil : i < l.size := by omega
        simp [Array.getD, hil] at h1 ⊢
        exact h1
      refine wpOpIn_mono (fun a' w' h => ?_) (hs i o ho x (fun k => l.getD k false) w hMl (fun _ => hni) hd0 (fun j hj => hL j (hd0 j hj)))
      obtain ⟨v, rfl, hin, hout, hg⟩ := h
      have hset := nots_set l.toList i (getD_false h1)
      have hfin : ∀ x', x' = updO x o.dst v → (∀ j, (l.setIfInBounds i true).getD j false = true → Left4 ops G x' j) → wpAnyIn F N P .any ops Q fuel (l.setIfInBounds i true) (fr x') w' := by
        intro x' hx' hLeft
        have hmark : ∀ k, mark (fun k => l.getD k false) i k = (l.setIfInBounds i true).getD k false := fun k => by
          unfold mark
          by_cases e : k = i
          · subst e
            have hil : k < l.size := by omega
            simp [Array.getD, hil]
          · rw [if_neg e, getD_set_ne false (fun h => e h.symm)]
        refine ih _ x' w' (by simp [hl]) (by simp only [Array.toList_setIfInBounds]; omega) ?_ hLeft
        subst hx'
        by_cases hip : i ∈ ps
        · exact hM _ _ _ _ w' (fun k _ => hmark k) (fun _ _ => rfl) (hin hip)
        · have hw' := hout hip
          subst hw'
          refine hM _ _ _ _ w' (fun k hk => by
            have e : k ≠ i := fun e => hip (by rw [← e]; exact hk)
            have := hmark k
            rw [mark, if_neg e] at this
            exact this) (fun d hd => ?_) hMl
          cases hod : o.dst with
          | none => rfl
          | some d' =>
            have hne : d ≠ d' := fun e => hds i o ho hip d' hod (e ▸ hd)
            exact (upd_other _ _ _ _ hne).symm
      cases hd : o.dst with
      | none =>
        have e0 : (fr x).put none v = fr x := rfl
        rw [e0]
        refine hfin x (by rw [hd]; rfl) fun j hj => ?_
        by_cases hji : j = i
        · subst hji
          unfold Left4
          rw [ho]
          simp only [Option.bind_some, hd]
        · exact hL j (by rw [getD_set_ne false (fun h => hji h.symm)] at hj; exact hj)
      | some d =>
        have hp := hput o (by rw [Array.mem_toList_iff]; exact Array.mem_of_getElem? ho) d hd x v
        rw [hp]
        refine hfin (upd x d v) (by rw [hd]; rfl) fun j hj => ?_
        unfold Left4
        cases hbind : (ops[j]?).bind (·.dst) with
        | none => trivial
        | some d' =>
          simp only
          by_cases e : d' = d
          · subst e
            rw [upd_same]
            exact hg _ hd
          · rw [upd_other _ _ _ _ e]
            have hji : j ≠ i := fun h => by
              subst h
              rw [ho] at hbind
              simp [hd] at hbind
              exact e hbind.symm
            have hjl : l.getD j false = true := by rw [getD_set_ne false (fun h => hji h.symm)] at hj; exact hj
            have := hL j hjl
            unfold Left4 at this
            rw [hbind] at this
            exact this

/-- The region, in whatever order: p names the slots that it writes, ps the operations that turn memory, ds their slots. -/
theorem wpIn_marksX {id : Nat} {a : Act} (fr : (Nat → Value) → Act) (p : Nat → Bool) (hfr : ∀ x, frame a p x = fr x) (ps ds : List Nat) (M : (Nat → Bool) → (Nat → Value) → World → Prop) (hM : ∀ f g x y w, (∀ k, k ∈ ps → f k = g k) → (∀ d, d ∈ ds → x d = y d) → M f x w → M g y w) (hM0 : ∀ x, M (fun _ => false) x w0.drew) (hm : P.follows .mixedOrders = true) (hf : fine2 ops = true) (hp : (ops.toList.all fun o => match o.dst with | some d => p d | none => true) = true)
    (hps : (ps.all fun j => decide (j < ops.size)) = true)
    (hds : ((List.range ops.size).all fun i => ps.contains i || match (ops[i]?).bind (·.dst) with | some d => !ds.contains d | none => true) = true)
    (G : Nat → Value → Prop)
    (hs : Each (fun i o => ∀ x f w, M f x w → (i ∈ ps → f i = false) → (∀ j ∈ deps o, f j = true) → (∀ j ∈ deps o, Left4 ops G x j) →
      wpOpIn F N P ops Q i (fun a' w' => ∃ v, a' = (fr x).put o.dst v ∧ (i ∈ ps → M (mark f i) (updO x o.dst v) w') ∧ (i ∉ ps → w' = w) ∧ ∀ d, o.dst = some d → G d v) (fr x) w) 0 ops.toList)
    (hend : ∀ x w, M (fun _ => true) x w → (∀ j, j < ops.size → Left4 ops G x j) → Q .normal (fr x) w) : (Code.region id ops true).wpIn F N P Q a w0 := by
  obtain rfl : frame a p = fr := funext hfr
  have hempty : ∀ j, (Array.replicate ops.size false).getD j false = false := fun j => by
    by_cases h : j < ops.size
    · simp [Array.getD, h]
    · simp [Array.getD, h]
  have := wpIn_region_any (id := id) (F := F) (n := N) (P := P) (Q := Q) (ops := ops) hm (any_invXIn (Q := Q) (P := P) ps ds hf (frame a p) (fun o ho d hd x v => frame_put a p x d v (by
    rw [List.all_eq_true] at hp
    have := hp o ho
    rw [hd] at this
    exact this)) G M hM (fun j hj => by
      rw [List.all_eq_true] at hps
      simpa using hps j hj) (fun i o ho hip d hd hdd => by
      rw [List.all_eq_true] at hds
      have := hds i (by rw [List.mem_range]; exact (Array.getElem?_eq_some_iff.1 ho).1)
      rw [ho, Option.bind_some, hd] at this
      simp [hip, hdd] at this) (fun i o ho => by
      have := Each.spec ops.toList 0 hs i o (by simpa using ho)
      rw [Nat.zero_add] at this
      exact this) hend _ _ (fun t => a.tmps.toList.getD t undef) w0.drew (by simp) (by simp [nots]) (hM _ _ _ _ _ (fun k _ => (hempty k).symm) (fun _ _ => rfl) (hM0 _)) (fun j hj => by rw [hempty j] at hj; cases hj))
  rw [frame_self] at this
  exact this
end
end Reg
end Go.Proofs.Ytcangipaoancnaa

