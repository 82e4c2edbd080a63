/-
  A region that draws its order, and whose last operation writes what the region reads: as Reg2, with what holds until that operation (Pre). No condition but those that are named; nothing of the program is named here.
-/
import Derived.Test.YtmmgbhdjjejacaaReg2
namespace Go.Proofs.Ytmmgbhdjjejacaa
open Go.RowKit

namespace Reg
/-- Operation s waits for each of pre, be it by way of others of them. -/
def early (ops : Array Oper) (s : Nat) (pre : List Nat) : Bool := pre.all fun i => i == s || pre.any fun j => decide (i < j) && (match ops[j]? with
  | some q => (deps q).contains i
  | none => false)
theorem early_done {ops : Array Oper} {s : Nat} {pre : List Nat} (h : early ops s pre = true) {l : Array Bool} (hcl : ∀ j q, l.getD j false = true → ops[j]? = some q → ∀ k ∈ deps q, l.getD k false = true) (hs : l.getD s false = true) :
    ∀ i ∈ pre, l.getD i false = true := by
  have key : ∀ n i, ops.size ≤ i + n → i ∈ pre → l.getD i false = true := by
    intro n
    induction n with
    | zero =>
      intro i hi hm
      have h1 := List.all_eq_true.1 h i hm
      simp only [Bool.or_eq_true, beq_iff_eq, List.any_eq_true, Bool.and_eq_true, decide_eq_true_eq] at h1
      rcases h1 with rfl | ⟨j, hj, hij, hd⟩
      · exact hs
      · have : ops[j]? = none := Array.getElem?_eq_none (by omega)
        rw [this] at hd; cases hd
    | succ n ih =>
      intro i hi hm
      have h1 := List.all_eq_true.1 h i hm
      simp only [Bool.or_eq_true, beq_iff_eq, List.any_eq_true, Bool.and_eq_true, decide_eq_true_eq] at h1
      rcases h1 with rfl | ⟨j, hj, hij, hd⟩
      · exact hs
      · cases hq : ops[j]? with
        | none => rw [hq] at hd; cases hd
        | some q =>
          rw [hq] at hd
          exact hcl j q (ih j (by omega) hj) hq i (by simpa using hd)
  exact fun i hm => key ops.size i (by omega) hm
section
variable {P : Program} {ops : Array Oper} {Q : Exit → Act → World → Prop} {w0 : World}

theorem any_inv8 (s : Nat) (pre : List Nat) (hpe : early ops s pre = true) (Pre : World → Prop) (K : World → World → Prop) (hKt : ∀ a b c, K a b → K b c → K a c) (hf : fine2 ops = true) (fr : (Nat → Value) → Act) (hput : ∀ o ∈ ops.toList, ∀ d, o.dst = some d → ∀ x v, (fr x).put (some d) v = fr (upd x d v))
    (G : Nat → Value → World → Prop) (hG : ∀ d v w w', K w w' → G d v w → G d v w') (H : Nat → World → Prop) (hH : ∀ j w w', K w w' → H j w → H j w')
    (hs : ∀ i o, ops[i]? = some o → ∀ x w, K w0 w → (∀ j ∈ deps o, Left2 ops G H x w j) → (i ∈ pre → Pre w) →
      wpOp P ops Q i (fun a' w' => ∃ v, a' = (fr x).put o.dst v ∧ K w w' ∧ (∀ d, o.dst = some d → G d v w') ∧ (o.dst = none → H i w') ∧ (i ≠ s → Pre w → Pre w')) (fr x) w)
    (hend : ∀ x w, K w0 w → (∀ j, j < ops.size → Left2 ops G H x w j) → Q .normal (fr x) w) :
    ∀ (fuel : Nat) (l : Array Bool) (x : Nat → Value) (w : World), l.size = ops.size → nots l.toList ≤ fuel → K w0 w → (∀ j, l.getD j false = true → Left2 ops G H x w j) → (∀ j q, l.getD j false = true → ops[j]? = some q → ∀ k ∈ deps q, l.getD k false = true) → (l.getD s false = false → Pre w) → wpAny P .any ops Q fuel l (fr x) w := by
  intro fuel
  induction fuel with
  | zero =>
    intro l x w hl hn hb hL hcl hpre
    have hall : ∀ i, i < ops.size → l.getD i false = true := fun i hi => by
      have := nots_zero l.toList (by omega) i (by simp; omega)
      have hil : i < l.size := by omega
      simp [hil] at this
      simp [Array.getD, hil, this]
    refine ⟨?_, hend x w hb fun j hj => hL j (hall j hj)⟩
    rw [List.eq_nil_iff_forall_not_mem]
    intro i hi
    obtain ⟨h1, o, ho, _⟩ := mem_ready.1 hi
    have hio : i < ops.size := (Array.getElem?_eq_some_iff.1 ho).1
    have := hall i hio
    have hil : i < l.size := by omega
    simp [Array.getD, hil] at h1 this
    rw [this] at h1
    cases h1
  | succ fuel ih =>
    intro l x w hl hn hb hL hcl hpre
    refine ⟨fun hr => hend x w hb fun j hj => hL j (all_listed2 hf l hl hr (j + 1) j (by omega) hj), fun i hi => ?_⟩
    obtain ⟨h1, o, ho, hdep⟩ := mem_ready.1 hi
    have hio : i < ops.size := (Array.getElem?_eq_some_iff.1 ho).1
    have hd1 : ∀ j ∈ deps o, Left2 ops G H x w j := fun j hj => by
      simp only [deps, List.mem_map, List.mem_filter] at hj
      obtain ⟨e, ⟨he, hbind⟩, rfl⟩ := hj
      exact hL _ (hdep e (by simpa using he) hbind)
    have hdl : ∀ j ∈ deps o, l.getD j false = true := fun j hj => by
      simp only [deps, List.mem_map, List.mem_filter] at hj
      obtain ⟨e, ⟨he, hbind⟩, rfl⟩ := hj
      exact hdep e (by simpa using he) hbind
    have hi0 : l.getD i false = false := by
      by_cases h : i < l.size
      · simp [Array.getD, h] at h1 ⊢
        exact h1
      · omega
    have hp1 : i ∈ pre → Pre w := by
      intro hm
      refine hpre ?_
      cases hls : l.getD s false with
      | false => rfl
      | true =>
        have := early_done hpe hcl hls i hm
        rw [hi0] at this
        cases this
    have hset' : ∀ j, j ≠ i → (l.setIfInBounds i true).getD j false = l.getD j false := fun j hj => getD_set_ne false (fun h => hj h.symm)
    have hmono : ∀ j, l.getD j false = true → (l.setIfInBounds i true).getD j false = true := fun j hj => by
      by_cases e : j = i
      · subst e; rw [hi0] at hj; cases hj
      · rw [hset' j e]; exact hj
    have hcl' : ∀ j q, (l.setIfInBounds i true).getD j false = true → ops[j]? = some q → ∀ k ∈ deps q, (l.setIfInBounds i true).getD k false = true := by
      intro j q hj hq k hk
      by_cases e : j = i
      · subst e
        obtain rfl : o = q := by rw [ho] at hq; exact Option.some.inj hq
        exact hmono k (hdl k hk)
      · rw [hset' j e] at hj
        exact hmono k (hcl j q hj hq k hk)
    refine wpOp_mono (fun a' w' h => ?_) (hs i o ho x w hb hd1 hp1)
    obtain ⟨v, rfl, hb', hg, hh, hpp⟩ := h
    have hpre' : (l.setIfInBounds i true).getD s false = false → Pre w' := by
      intro hf0
      by_cases e : s = i
      · subst e
        have hss : s < l.size := by omega
        simp [Array.getD, hss] at hf0
      · rw [hset' s e] at hf0
        exact hpp (fun h => e h.symm) (hpre hf0)
    have hset := nots_set l.toList i (getD_false h1)
    cases hd : o.dst with
    | none =>
      have e0 : (fr x).put none v = fr x := rfl
      rw [e0]
      refine ih _ _ w' (by simp [hl]) ?_ (hKt _ _ _ hb hb') (fun j hj => ?_) hcl' hpre'
      · simp only [Array.toList_setIfInBounds]
        omega
      · by_cases hji : j = i
        · subst hji
          unfold Left2
          rw [ho]
          simp only [Option.bind_some, hd]
          exact hh hd
        · have hjl : l.getD j false = true := by rw [getD_set_ne false (fun h => hji h.symm)] at hj; exact hj
          have := hL j hjl
          unfold Left2 at this ⊢
          cases hbind : (ops[j]?).bind (·.dst) with
          | none => rw [hbind] at this; exact hH _ _ _ hb' this
          | some d' => rw [hbind] at this; exact hG _ _ _ _ hb' this
    | some d =>
      have hp := hput o (by rw [Array.mem_toList_iff]; exact Array.mem_of_getElem? ho) d hd x v
      rw [hp]
      refine ih _ _ w' (by simp [hl]) ?_ (hKt _ _ _ hb hb') (fun j hj => ?_) hcl' hpre'
      · simp only [Array.toList_setIfInBounds]
        omega
      · unfold Left2
        cases hbind : (ops[j]?).bind (·.dst) with
        | none =>
          simp only
          have hji : j ≠ i := fun h => by
            subst h
            rw [ho] at hbind
            simp [hd] at hbind
          have hjl : l.getD j false = true := by rw [getD_set_ne false (fun h => hji h.symm)] at hj; exact hj
          have := hL j hjl
          unfold Left2 at this
          rw [hbind] at this
          exact hH _ _ _ hb' this
        | some d' =>
          simp only
          by_cases e : d' = d
          · subst e
            rw [upd_same]
            exact hg _ hd
          · rw [upd_other _ _ _ _ e]
            have hji : j ≠ i := fun h => by
              subst h
              rw [ho] at hbind
              simp [hd] at hbind
              exact e hbind.symm
            have hjl : l.getD j false = true := by rw [getD_set_ne false (fun h => hji h.symm)] at hj; exact hj
            have := hL j hjl
            unfold Left2 at this
            rw [hbind] at this
            exact hG _ _ _ _ hb' this

/-- The region, in whatever order: p names the slots that it writes, K what it keeps. -/
theorem wp_slots8 {id : Nat} {a : Act} (s : Nat) (pre : List Nat) (hpe : early ops s pre = true) (Pre : World → Prop) (hPre : Pre w0.drew) (p : Nat → Bool) (K : World → World → Prop) (hK0 : K w0 w0.drew) (hKt : ∀ a b c, K a b → K b c → K a c) (hm : P.follows .mixedOrders = true) (hf : fine2 ops = true) (hp : (ops.toList.all fun o => match o.dst with | some d => p d | none => true) = true)
    (G : Nat → Value → World → Prop) (hG : ∀ d v w w', K w w' → G d v w → G d v w') (H : Nat → World → Prop) (hH : ∀ j w w', K w w' → H j w → H j w')
    (hs : Each (fun i o => ∀ x w, K w0 w → (∀ j ∈ deps o, Left2 ops G H x w j) → (i ∈ pre → Pre w) →
      wpOp P ops Q i (fun a' w' => ∃ v, a' = (frame a p x).put o.dst v ∧ K w w' ∧ (∀ d, o.dst = some d → G d v w') ∧ (o.dst = none → H i w') ∧ (i ≠ s → Pre w → Pre w')) (frame a p x) w) 0 ops.toList)
    (hend : ∀ x w, K w0 w → (∀ j, j < ops.size → Left2 ops G H x w j) → Q .normal (frame a p x) w) : (Code.region id ops true).wp P Q a w0 := by
  have := wp_region_any (id := id) (P := P) (Q := Q) (ops := ops) hm (any_inv8 s pre hpe Pre (w0 := w0) K hKt hf (frame a p) (fun o ho d hd x v => frame_put a p x d v (by
    rw [List.all_eq_true] at hp
    have := hp o ho
    rw [hd] at this
    exact this)) G hG H hH (fun i o ho => by
      have := Each.spec ops.toList 0 hs i o (by simpa using ho)
      rw [Nat.zero_add] at this
      exact this) hend _ _ (fun t => a.tmps.toList.getD t undef) w0.drew (by simp) (by simp [nots]) hK0 (fun j hj => by
        exfalso
        by_cases h : j < ops.size
        · simp [Array.getD, h] at hj
        · simp [Array.getD, h] at hj) (fun j q hj => by
        exfalso
        by_cases h : j < ops.size
        · simp [Array.getD, h] at hj
        · simp [Array.getD, h] at hj) (fun _ => hPre))
  rw [frame_self] at this
  exact this
end
end Reg
end Go.Proofs.Ytmmgbhdjjejacaa

