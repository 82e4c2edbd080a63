/-
  The region law of a prefix in whatever order, one operation of which changes what is read (Reg10), inside a fence: within a round of a range over a function. No condition but those that are named; nothing of the program is named here.
-/
import Derived.Test.YtcangipaoancnaaWd8
import Derived.Test.YtcangipaoancnaaKeep
import Derived.OrdersIn
import Derived.TacticsIn
namespace Go.Proofs.Ytcangipaoancnaa
open Go.RowKit

namespace Reg
/-- From m on each operation waits for all ahead of it. -/
def tailB (ops : Array Oper) (m : Nat) : Bool := (List.range ops.size).all fun s => decide (s < m) || early ops s (List.range (s + 1))
section
variable {P : Program} {ops : Array Oper} {Q : Exit → Act → World → Prop} {w0 : World}
theorem closed_set {l : Array Bool} (hl : l.size = ops.size) {i : Nat} {o : Oper} (ho : ops[i]? = some o) (hcl : ∀ j q, l.getD j false = true → ops[j]? = some q → ∀ k ∈ deps q, l.getD k false = true) (hdl : ∀ j ∈ deps o, l.getD j false = true) :
    (∀ j q, (l.setIfInBounds i true).getD j false = true → ops[j]? = some q → ∀ k ∈ deps q, (l.setIfInBounds i true).getD k false = true) ∧ (l.setIfInBounds i true).getD i false = true ∧ ∀ j, j ≠ i → (l.setIfInBounds i true).getD j false = l.getD j false := by
  have hio : i < ops.size := (Array.getElem?_eq_some_iff.1 ho).1
  have hset' : ∀ j, j ≠ i → (l.setIfInBounds i true).getD j false = l.getD j false := fun j hj => getD_set_ne false (fun h => hj h.symm)
  have hii : (l.setIfInBounds i true).getD i false = true := by
    have hil : i < l.size := by omega
    simp [Array.getD, hil]
  have hmono : ∀ j, l.getD j false = true → (l.setIfInBounds i true).getD j false = true := fun j hj => by
    by_cases e : j = i
    · subst e; exact hii
    · rw [hset' j e]; exact hj
  refine ⟨fun j q hj hq k hk => ?_, hii, hset'⟩
  by_cases e : j = i
  · subst e
    obtain rfl : o = q := by rw [ho] at hq; exact Option.some.inj hq
    exact hmono k (hdl k hk)
  · rw [hset' j e] at hj
    exact hmono k (hcl j q hj hq k hk)
theorem ahead_done {m : Nat} (ht : tailB ops m = true) {l : Array Bool} (hl : l.size = ops.size) {i : Nat} {o : Oper} (ho : ops[i]? = some o) (hm : m ≤ i) (hcl : ∀ j q, l.getD j false = true → ops[j]? = some q → ∀ k ∈ deps q, l.getD k false = true) (hdl : ∀ j ∈ deps o, l.getD j false = true) :
    ∀ j, j < i → l.getD j false = true := by
  intro j hj
  have hio : i < ops.size := (Array.getElem?_eq_some_iff.1 ho).1
  obtain ⟨h1, h2, h3⟩ := closed_set hl ho hcl hdl
  have he := List.all_eq_true.1 ht i (by simp [hio])
  simp only [Bool.or_eq_true, decide_eq_true_eq] at he
  have he' : early ops i (List.range (i + 1)) = true := by rcases he with h | h
                                                           · omega
                                                           · exact h
  have := early_done he' h1 h2 j (by simp; omega)
  rwa [h3 j (by omega)] at this
theorem ready_deps {l : Array Bool} {i : Nat} (hi : i ∈ Region.ready .any ops l) : ∃ o, ops[i]? = some o ∧ l.getD i true = false ∧ ∀ j ∈ deps o, l.getD j false = true := by
  obtain ⟨h1, o, ho, hdep⟩ := mem_ready.1 hi
  refine ⟨o, ho, h1, fun j hj => ?_⟩
  simp only [deps, List.mem_map, List.mem_filter] at hj
  obtain ⟨e, ⟨he, hbind⟩, rfl⟩ := hj
  exact hdep e (by simpa using he) hbind
theorem any_seq (m : Nat) (ht : tailB ops m = true) (hf : fine2 ops = true) : ∀ (fuel : Nat) (l : Array Bool) (s : Nat) (a : Act) (w : World), l.size = ops.size → nots l.toList ≤ fuel → m ≤ s → s ≤ ops.size → (∀ j, j < ops.size → (l.getD j false = true ↔ j < s)) →
    (∀ j q, l.getD j false = true → ops[j]? = some q → ∀ k ∈ deps q, l.getD k false = true) → wpList P ops Q (ops.toList.drop s) a w → wpAny P .any ops Q fuel l a w := by
  intro fuel
  induction fuel with
  | zero =>
    intro l s a w hl hn hms hs hk hcl h
    have hall : ∀ i, i < ops.size → l.getD i false = true := fun i hi => by
      have := nots_zero l.toList (by omega) i (by simp; omega)
      have hil : i < l.size := by omega
      simp [hil] at this
      simp [Array.getD, hil, this]
    have hse : s = ops.size := by
      rcases Nat.lt_or_ge s ops.size with h1 | h1
      · have := (hk s h1).1 (hall s h1)
        omega
      · omega
    subst hse
    rw [List.drop_of_length_le (by simp)] at h
    refine ⟨?_, h⟩
    rw [List.eq_nil_iff_forall_not_mem]
    intro i hi
    obtain ⟨o, ho, h1, _⟩ := ready_deps hi
    have hio : i < ops.size := (Array.getElem?_eq_some_iff.1 ho).1
    have := hall i hio
    have hil : i < l.size := by omega
    simp [Array.getD, hil] at h1 this
    rw [this] at h1
    cases h1
  | succ fuel ih =>
    intro l s a w hl hn hms hs hk hcl h
    refine ⟨fun hr => ?_, fun i hi => ?_⟩
    · have hall : ∀ j, j < ops.size → l.getD j false = true := fun j hj => all_listed2 hf l hl hr (j + 1) j (by omega) hj
      have hse : s = ops.size := by
        rcases Nat.lt_or_ge s ops.size with h1 | h1
        · have := (hk s h1).1 (hall s h1)
          omega
        · omega
      subst hse
      rw [List.drop_of_length_le (by simp)] at h
      exact h
    · obtain ⟨o, ho, h1, hdl⟩ := ready_deps hi
      have hio : i < ops.size := (Array.getElem?_eq_some_iff.1 ho).1
      have hi0 : l.getD i false = false := by
        have hil : i < l.size := by omega
        simp [Array.getD, hil] at h1 ⊢
        exact h1
      have hsi : s ≤ i := by
        rcases Nat.lt_or_ge i s with h2 | h2
        · rw [(hk i hio).2 h2] at hi0; cases hi0
        · exact h2
      have his : i = s := by
        rcases Nat.lt_or_ge s i with h2 | h2
        · have := (hk s (by omega)).1 (ahead_done ht hl ho (by omega) hcl hdl s h2)
          omega
        · omega
      subst his
      obtain ⟨q1, q2, q3⟩ := closed_set hl ho hcl hdl
      have hset := nots_set l.toList i (getD_false h1)
      have hd : ops.toList.drop i = o :: ops.toList.drop (i + 1) := by
        rw [List.drop_eq_getElem_cons (by simpa using hio)]
        congr 1
        have := (Array.getElem?_eq_some_iff.1 ho).2
        simpa using this
      rw [hd] at h
      have hop : wpOp P ops Q i (wpList P ops Q (ops.toList.drop (i + 1))) a w := by
        unfold wpOp
        rw [ho]
        simpa [wpList] using h
      refine wpOp_mono (fun a' w' h' => ?_) hop
      refine ih _ (i + 1) a' w' (by simp [hl]) (by simp only [Array.toList_setIfInBounds]; omega) (by omega) (by omega) (fun j hj => ?_) q1 h'
      by_cases e : j = i
      · subst e; rw [q2]; simp
      · rw [q3 j e, hk j hj]; omega
theorem any_pre (m : Nat) (hm : m ≤ ops.size) (ht : tailB ops m = true) (K : World → World → Prop) (hKt : ∀ a b c, K a b → K b c → K a c) (hf : fine2 ops = true) (fr : (Nat → Value) → Act) (hput : ∀ o ∈ ops.toList.take m, ∀ d, o.dst = some d → ∀ x v, (fr x).put (some d) v = fr (upd x d v))
    (G : Nat → Value → World → Prop) (hG : ∀ d v w w', K w w' → G d v w → G d v w') (H : Nat → World → Prop) (hH : ∀ j w w', K w w' → H j w → H j w')
    (hs : ∀ i o, i < m → ops[i]? = some o → ∀ x w, K w0 w → (∀ j ∈ deps o, Left2 ops G H x w j) →
      wpOp P ops Q i (fun a' w' => ∃ v, a' = (fr x).put o.dst v ∧ K w w' ∧ (∀ d, o.dst = some d → G d v w') ∧ (o.dst = none → H i w')) (fr x) w)
    (hend : ∀ x w, K w0 w → (∀ j, j < m → Left2 ops G H x w j) → wpList P ops Q (ops.toList.drop m) (fr x) w) :
    ∀ (fuel : Nat) (l : Array Bool) (x : Nat → Value) (w : World), l.size = ops.size → nots l.toList ≤ fuel → K w0 w → (∀ j, l.getD j false = true → Left2 ops G H x w j) → (∀ j q, l.getD j false = true → ops[j]? = some q → ∀ k ∈ deps q, l.getD k false = true) → (∀ j, m ≤ j → l.getD j false = false) → wpAny P .any ops Q fuel l (fr x) w := by
  intro fuel
  induction fuel with
  | zero =>
    intro l x w hl hn hb hL hcl htl
    have hall : ∀ i, i < ops.size → l.getD i false = true := fun i hi => by
      have := nots_zero l.toList (by omega) i (by simp; omega)
      have hil : i < l.size := by omega
      simp [hil] at this
      simp [Array.getD, hil, this]
    have hse : m = ops.size := by
      rcases Nat.lt_or_ge m ops.size with h1 | h1
      · have := hall m h1
        rw [htl m (Nat.le_refl _)] at this; cases this
      · omega
    exact any_seq m ht hf 0 l m (fr x) w hl hn (Nat.le_refl _) hm (fun j hj => ⟨fun _ => by omega, fun _ => hall j hj⟩) hcl (hend x w hb fun j hj => hL j (hall j (by omega)))
  | succ fuel ih =>
    intro l x w hl hn hb hL hcl htl
    by_cases hdone : ∀ j, j < m → l.getD j false = true
    · exact any_seq m ht hf (fuel + 1) l m (fr x) w hl hn (Nat.le_refl _) hm (fun j hj => Iff.intro (fun h => (by
        rcases Nat.lt_or_ge j m with h1 | h1
        · exact h1
        · rw [htl j h1] at h; cases h)) (fun h => hdone j h)) hcl (hend x w hb fun j hj => hL j (hdone j hj))
    refine ⟨fun hr => absurd (fun j hj => all_listed2 hf l hl hr (j + 1) j (by omega) (by omega)) hdone, fun i hi => ?_⟩
    obtain ⟨o, ho, h1, hdl⟩ := ready_deps hi
    have hio : i < ops.size := (Array.getElem?_eq_some_iff.1 ho).1
    have him : i < m := by
      rcases Nat.lt_or_ge i m with h2 | h2
      · exact h2
      · exact absurd (fun j hj => ahead_done ht hl ho h2 hcl hdl j (by omega)) hdone
    obtain ⟨hcl', _, q3⟩ := closed_set hl ho hcl hdl
    have htail' : ∀ j, m ≤ j → (l.setIfInBounds i true).getD j false = false := fun j hj => by rw [q3 j (by omega)]; exact htl j hj
    have hd1 : ∀ j ∈ deps o, Left2 ops G H x w j := fun j hj => hL _ (hdl j hj)
    refine wpOp_mono (fun a' w' h => ?_) (hs i o him ho x w hb hd1)
    obtain ⟨v, rfl, hb', hg, hh⟩ := h
    have hset := nots_set l.toList i (getD_false h1)
    cases hd : o.dst with
    | none =>
      have e0 : (fr x).put none v = fr x := rfl
      rw [e0]
      refine ih _ _ w' (by simp [hl]) ?_ (hKt _ _ _ hb hb') (fun j hj => ?_) hcl' htail'
      · simp only [Array.toList_setIfInBounds]
        omega
      · by_cases hji : j = i
        · subst hji
          unfold Left2
          rw [ho]
          simp only [Option.bind_some, hd]
          exact hh hd
        · have hjl : l.getD j false = true := by rw [getD_set_ne false (fun h => hji h.symm)] at hj; exact hj
          have := hL j hjl
          unfold Left2 at this ⊢
          cases hbind : (ops[j]?).bind (·.dst) with
          | none => rw [hbind] at this; exact hH _ _ _ hb' this
          | some d' => rw [hbind] at this; exact hG _ _ _ _ hb' this
    | some d =>
      have hp := hput o (by rw [List.mem_take_iff_getElem]; exact ⟨i, by simp; omega, by have := (Array.getElem?_eq_some_iff.1 ho).2; simpa using this⟩) d hd x v
      rw [hp]
      refine ih _ _ w' (by simp [hl]) ?_ (hKt _ _ _ hb hb') (fun j hj => ?_) hcl' htail'
      · simp only [Array.toList_setIfInBounds]
        omega
      · unfold Left2
        cases hbind : (ops[j]?).bind (·.dst) with
        | none =>
          simp only
          have hji : j ≠ i := fun h => by
            subst h
            rw [ho] at hbind
            simp [hd] at hbind
          have hjl : l.getD j false = true := by rw [getD_set_ne false (fun h => hji h.symm)] at hj; exact hj
          have := hL j hjl
          unfold Left2 at this
          rw [hbind] at this
          exact hH _ _ _ hb' this
        | some d' =>
          simp only
          by_cases e : d' = d
          · subst e
            rw [upd_same]
            exact hg _ hd
          · rw [upd_other _ _ _ _ e]
            have hji : j ≠ i := fun h => by
              subst h
              rw [ho] at hbind
              simp [hd] at hbind
              exact e hbind.symm
            have hjl : l.getD j false = true := by rw [getD_set_ne false (fun h => hji h.symm)] at hj; exact hj
            have := hL j hjl
            unfold Left2 at this
            rw [hbind] at this
            exact hG _ _ _ _ hb' this
theorem Each.take {R : Nat → Oper → Prop} : ∀ (m : Nat) (l : List Oper) (k : Nat), Each R k (l.take m) → ∀ i o, i < m → l[i]? = some o → R (k + i) o := by
  intro m l k h i o hi ho
  have := Each.spec (l.take m) k h i o (by rw [List.getElem?_take_of_lt hi]; exact ho)
  exact this
theorem wp_prefix {id : Nat} {a : Act} (m : Nat) (ht : tailB ops m = true) (p : Nat → Bool) (K : World → World → Prop) (hK0 : K w0 w0.drew) (hKt : ∀ a b c, K a b → K b c → K a c) (hm : P.follows .mixedOrders = true) (hf : fine2 ops = true) (hms : decide (m ≤ ops.size) = true) (hp : ((ops.toList.take m).all fun o => match o.dst with | some d => p d | none => true) = true)
    (G : Nat → Value → World → Prop) (hG : ∀ d v w w', K w w' → G d v w → G d v w') (H : Nat → World → Prop) (hH : ∀ j w w', K w w' → H j w → H j w')
    (hs : Each (fun i o => ∀ x w, K w0 w → (∀ j ∈ deps o, Left2 ops G H x w j) →
      wpOp P ops Q i (fun a' w' => ∃ v, a' = (frame a p x).put o.dst v ∧ K w w' ∧ (∀ d, o.dst = some d → G d v w') ∧ (o.dst = none → H i w')) (frame a p x) w) 0 (ops.toList.take m))
    (hend : ∀ x w, K w0 w → (∀ j, j < m → Left2 ops G H x w j) → wpList P ops Q (ops.toList.drop m) (frame a p x) w) : (Code.region id ops true).wp P Q a w0 := by
  have := wp_region_any (id := id) (P := P) (Q := Q) (ops := ops) hm (any_pre m (of_decide_eq_true hms) ht (w0 := w0) K hKt hf (frame a p) (fun o ho d hd x v => frame_put a p x d v (by
    rw [List.all_eq_true] at hp
    have := hp o ho
    rw [hd] at this
    exact this)) G hG H hH (fun i o him ho => by
      have := Each.take m ops.toList 0 hs i o him (by simpa using ho)
      rw [Nat.zero_add] at this
      exact this) hend _ _ (fun t => a.tmps.toList.getD t undef) w0.drew (by simp) (by simp [nots]) hK0 (fun j hj => by
        exfalso
        by_cases h : j < ops.size
        · simp [Array.getD, h] at hj
        · simp [Array.getD, h] at hj) (fun j q hj => by
        exfalso
        by_cases h : j < ops.size
        · simp [Array.getD, h] at hj
        · simp [Array.getD, h] at hj) (fun j _ => by
        by_cases h : j < ops.size
        · simp [Array.getD, h]
        · simp [Array.getD, h]))
  rw [frame_self] at this
  exact this
end
end Reg
end Go.Proofs.Ytcangipaoancnaa

namespace Go.Proofs.Ytcangipaoancnaa
open Go.RowKit
set_option linter.unusedVariables false

namespace Reg
section
variable {P : Program} {ops : Array Oper} {Q : Exit → Act → World → Prop} {w0 : World}
theorem getD_false' {l : Array Bool} {i : Nat} (h1 : l.getD i true = false) : l.getD i false = false := by
  by_cases hi : i < l.size
  · simpa [Array.getD, hi] using h1
  · simp [Array.getD, hi]
theorem any_preP (s : Nat) (Pre : World → Prop) (m : Nat) (hm : m ≤ ops.size) (ht : tailB ops m = true) (K : World → World → Prop) (hKt : ∀ a b c, K a b → K b c → K a c) (hf : fine2 ops = true) (fr : (Nat → Value) → Act) (hput : ∀ o ∈ ops.toList.take m, ∀ d, o.dst = some d → ∀ x v, (fr x).put (some d) v = fr (upd x d v))
    (G : Nat → Value → World → Prop) (hG : ∀ d v w w', K w w' → G d v w → G d v w') (H : Nat → World → Prop) (hH : ∀ j w w', K w w' → H j w → H j w')
    (hs : ∀ i o, i < m → ops[i]? = some o → ∀ x w, K w0 w → (∀ j ∈ deps o, Left2 ops G H x w j) → (i = s → Pre w) →
      wpOp P ops Q i (fun a' w' => ∃ v, a' = (fr x).put o.dst v ∧ K w w' ∧ (∀ d, o.dst = some d → G d v w') ∧ (o.dst = none → H i w') ∧ (i ≠ s → Pre w → Pre w')) (fr x) w)
    (hend : ∀ x w, K w0 w → (∀ j, j < m → Left2 ops G H x w j) → wpList P ops Q (ops.toList.drop m) (fr x) w) :
    ∀ (fuel : Nat) (l : Array Bool) (x : Nat → Value) (w : World), l.size = ops.size → nots l.toList ≤ fuel → (l.getD s false = false → Pre w) → K w0 w → (∀ j, l.getD j false = true → Left2 ops G H x w j) → (∀ j q, l.getD j false = true → ops[j]? = some q → ∀ k ∈ deps q, l.getD k false = true) → (∀ j, m ≤ j → l.getD j false = false) → wpAny P .any ops Q fuel l (fr x) w := by
  intro fuel
  induction fuel with
  | zero =>
    intro l x w hl hn hpr hb hL hcl htl
    have hall : ∀ i, i < ops.size → l.getD i false = true := fun i hi => by
      have := nots_zero l.toList (by omega) i (by simp; omega)
      have hil : i < l.size := by omega
      simp [hil] at this
      simp [Array.getD, hil, this]
    have hse : m = ops.size := by
      rcases Nat.lt_or_ge m ops.size with h1 | h1
      · have := hall m h1
        rw [htl m (Nat.le_refl _)] at this; cases this
      · omega
    exact any_seq m ht hf 0 l m (fr x) w hl hn (Nat.le_refl _) hm (fun j hj => ⟨fun _ => by omega, fun _ => hall j hj⟩) hcl (hend x w hb fun j hj => hL j (hall j (by omega)))
  | succ fuel ih =>
    intro l x w hl hn hpr hb hL hcl htl
    by_cases hdone : ∀ j, j < m → l.getD j false = true
    · exact any_seq m ht hf (fuel + 1) l m (fr x) w hl hn (Nat.le_refl _) hm (fun j hj => Iff.intro (fun h => (by
        rcases Nat.lt_or_ge j m with h1 | h1
        · exact h1
        · rw [htl j h1] at h; cases h)) (fun h => hdone j h)) hcl (hend x w hb fun j hj => hL j (hdone j hj))
    refine ⟨fun hr => absurd (fun j hj => all_listed2 hf l hl hr (j + 1) j (by omega) (by omega)) hdone, fun i hi => ?_⟩
    obtain ⟨o, ho, h1, hdl⟩ := ready_deps hi
    have hio : i < ops.size := (Array.getElem?_eq_some_iff.1 ho).1
    have him : i < m := by
      rcases Nat.lt_or_ge i m with h2 | h2
      · exact h2
      · exact absurd (fun j hj => ahead_done ht hl ho h2 hcl hdl j (by omega)) hdone
    obtain ⟨hcl', _, q3⟩ := closed_set hl ho hcl hdl
    have htail' : ∀ j, m ≤ j → (l.setIfInBounds i true).getD j false = false := fun j hj => by rw [q3 j (by omega)]; exact htl j hj
    have hd1 : ∀ j ∈ deps o, Left2 ops G H x w j := fun j hj => hL _ (hdl j hj)
    refine wpOp_mono (fun a' w' h => ?_) (hs i o him ho x w hb hd1 (fun e => hpr (by rw [← e]; exact getD_false' h1)))
    obtain ⟨v, rfl, hb', hg, hh, hps⟩ := h
    have hpr' : (l.setIfInBounds i true).getD s false = false → Pre w' := fun hs' => by
      by_cases e : i = s
      · subst e
        have hil : i < l.size := by omega
        simp [Array.getD, hil] at hs'
      · exact hps e (hpr (by rwa [getD_set_ne false e] at hs'))
    have hset := nots_set l.toList i (getD_false h1)
    cases hd : o.dst with
    | none =>
      have e0 : (fr x).put none v = fr x := rfl
      rw [e0]
      refine ih _ _ w' (by simp [hl]) ?_ hpr' (hKt _ _ _ hb hb') (fun j hj => ?_) hcl' htail'
      · simp only [Array.toList_setIfInBounds]
        omega
      · by_cases hji : j = i
        · subst hji
          unfold Left2
          rw [ho]
          simp only [Option.bind_some, hd]
          exact hh hd
        · have hjl : l.getD j false = true := by rw [getD_set_ne false (fun h => hji h.symm)] at hj; exact hj
          have := hL j hjl
          unfold Left2 at this ⊢
          cases hbind : (ops[j]?).bind (·.dst) with
          | none => rw [hbind] at this; exact hH _ _ _ hb' this
          | some d' => rw [hbind] at this; exact hG _ _ _ _ hb' this
    | some d =>
      have hp := hput o (by rw [List.mem_take_iff_getElem]; exact ⟨i, by simp; omega, by have := (Array.getElem?_eq_some_iff.1 ho).2; simpa using this⟩) d hd x v
      rw [hp]
      refine ih _ _ w' (by simp [hl]) ?_ hpr' (hKt _ _ _ hb hb') (fun j hj => ?_) hcl' htail'
      · simp only [Array.toList_setIfInBounds]
        omega
      · unfold Left2
        cases hbind : (ops[j]?).bind (·.dst) with
        | none =>
          simp only
          have hji : j ≠ i := fun h => by
            subst h
            rw [ho] at hbind
            simp [hd] at hbind
          have hjl : l.getD j false = true := by rw [getD_set_ne false (fun h => hji h.symm)] at hj; exact hj
          have := hL j hjl
          unfold Left2 at this
          rw [hbind] at this
          exact hH _ _ _ hb' this
        | some d' =>
          simp only
          by_cases e : d' = d
          · subst e
            rw [upd_same]
            exact hg _ hd
          · rw [upd_other _ _ _ _ e]
            have hji : j ≠ i := fun h => by
              subst h
              rw [ho] at hbind
              simp [hd] at hbind
              exact e hbind.symm
            have hjl : l.getD j false = true := by rw [getD_set_ne false (fun h => hji h.symm)] at hj; exact hj
            have := hL j hjl
            unfold Left2 at this
            rw [hbind] at this
            exact hG _ _ _ _ hb' this
theorem wp_prefixP {id : Nat} {a : Act} (s : Nat) (Pre : World → Prop) (hPre : Pre w0.drew) (m : Nat) (ht : tailB ops m = true) (p : Nat → Bool) (K : World → World → Prop) (hK0 : K w0 w0.drew) (hKt : ∀ a b c, K a b → K b c → K a c) (hm : P.follows .mixedOrders = true) (hf : fine2 ops = true) (hms : decide (m ≤ ops.size) = true) (hp : ((ops.toList.take m).all fun o => match o.dst with | some d => p d | none => true) = true)
    (G : Nat → Value → World → Prop) (hG : ∀ d v w w', K w w' → G d v w → G d v w') (H : Nat → World → Prop) (hH : ∀ j w w', K w w' → H j w → H j w')
    (hs : Each (fun i o => ∀ x w, K w0 w → (∀ j ∈ deps o, Left2 ops G H x w j) → (i = s → Pre w) →
      wpOp P ops Q i (fun a' w' => ∃ v, a' = (frame a p x).put o.dst v ∧ K w w' ∧ (∀ d, o.dst = some d → G d v w') ∧ (o.dst = none → H i w') ∧ (i ≠ s → Pre w → Pre w')) (frame a p x) w) 0 (ops.toList.take m))
    (hend : ∀ x w, K w0 w → (∀ j, j < m → Left2 ops G H x w j) → wpList P ops Q (ops.toList.drop m) (frame a p x) w) : (Code.region id ops true).wp P Q a w0 := by
  have := wp_region_any (id := id) (P := P) (Q := Q) (ops := ops) hm (any_preP s Pre m (of_decide_eq_true hms) ht (w0 := w0) K hKt hf (frame a p) (fun o ho d hd x v => frame_put a p x d v (by
    rw [List.all_eq_true] at hp
    have := hp o ho
    rw [hd] at this
    exact this)) G hG H hH (fun i o him ho => by
      have := Each.take m ops.toList 0 hs i o him (by simpa using ho)
      rw [Nat.zero_add] at this
      exact this) hend _ _ (fun t => a.tmps.toList.getD t undef) w0.drew (by simp) (by simp [nots]) (fun _ => hPre) hK0 (fun j hj => by
        exfalso
        by_cases h : j < ops.size
        · simp [Array.getD, h] at hj
        · simp [Array.getD, h] at hj) (fun j q hj => by
        exfalso
        by_cases h : j < ops.size
        · simp [Array.getD, h] at hj
        · simp [Array.getD, h] at hj) (fun j _ => by
        by_cases h : j < ops.size
        · simp [Array.getD, h]
        · simp [Array.getD, h]))
  rw [frame_self] at this
  exact this
/-- What a region keeps whose calls turn blocks of the types ts alone, from lo on: all others, and each of Js, once it holds. -/
def KT (lo : Nat) (ts : List TypeId) (Js : List (World → Prop)) (w w' : World) : Prop := Below lo w w' ∧ KeptBut w w' ts ∧ ∀ J ∈ Js, J w → J w'
end
section
variable {lo : Nat} {ts : List TypeId} {Js : List (World → Prop)} {w w' : World}
theorem KT.trans (a b c : World) (h : KT lo ts Js a b) (k : KT lo ts Js b c) : KT lo ts Js a c := ⟨h.1.trans k.1, h.2.1.trans k.2.1, fun J hJ hj => k.2.2 J hJ (h.2.2 J hJ hj)⟩
theorem KT.refl (w : World) : KT lo ts Js w w := ⟨Below.refl _ _, KeptBut.refl _ _, fun _ _ h => h⟩
theorem KT.grow (hJ : ∀ J ∈ Js, ∀ u u', Below u.heap.size u u' → J u → J u') (hB : lo ≤ w.heap.size) (h : Below w.heap.size w w') : KT lo ts Js w w' := ⟨h.mono hB, fun g t cs _ hB => hB.on h, fun J hj => hJ J hj _ _ h⟩
theorem KT.drew (w : World) (hJ : ∀ J ∈ Js, ∀ u u', Below u.heap.size u u' → J u → J u') (hB : lo ≤ w.heap.size) : KT lo ts Js w w.drew := KT.grow hJ hB (Below.refl _ _).drew
theorem KT.blk {g : Nat} {t : TypeId} {cs : Array Value} (h : KT lo ts Js w w') (ht : t ∉ ts) (hB : Blk w g t cs) : Blk w' g t cs := h.2.1 g t cs ht hB
theorem KT.size (h : KT lo ts Js w w') : w.heap.size ≤ w'.heap.size := h.1.size
theorem KT.j (h : KT lo ts Js w w') (J : World → Prop) (hJ : J ∈ Js) (hj : J w) : J w' := h.2.2 J hJ hj
/-- A value; .. and what holds of memory since. -/
def FactK.vt (V : Value) (J : World → Prop) (hJ : J ∈ Js) : FactK (KT lo ts Js) := ⟨fun v w => v = V ∧ J w, fun _ _ _ h hj => ⟨hj.1, h.j J hJ hj.2⟩⟩
/-- The address of a block of its own. -/
def FactK.box (b : Nat) (t : TypeId) (cs : Array Value) (ht : t ∉ ts) : FactK (KT lo ts Js) := ⟨fun v w => ∃ g, v = .pointer (some ⟨g, 0, none⟩) ∧ b ≤ g ∧ Blk w g t cs, fun _ _ _ h hj => by
  obtain ⟨g, e, hg, hB⟩ := hj
  exact ⟨g, e, hg, h.blk ht hB⟩⟩
end
end Reg
end Go.Proofs.Ytcangipaoancnaa

namespace Go.Proofs.Ytcangipaoancnaa
open Go.RowKit
set_option linter.unusedVariables false

namespace Reg
section
variable {F : Fence} {N : Nat} {P : Program} {ops : Array Oper} {Q : Exit → Act → World → Prop} {w0 : World}
theorem any_seqIn (m : Nat) (ht : tailB ops m = true) (hf : fine2 ops = true) : ∀ (fuel : Nat) (l : Array Bool) (s : Nat) (a : Act) (w : World), l.size = ops.size → nots l.toList ≤ fuel → m ≤ s → s ≤ ops.size → (∀ j, j < ops.size → (l.getD j false = true ↔ j < s)) →
    (∀ j q, l.getD j false = true → ops[j]? = some q → ∀ k ∈ deps q, l.getD k false = true) → wpListIn F N P ops Q (ops.toList.drop s) a w → wpAnyIn F N P .any ops Q fuel l a w := by
  intro fuel
  induction fuel with
  | zero =>
    intro l s a w hl hn hms hs hk hcl h
    have hall : ∀ i, i < ops.size → l.getD i false = true := fun i hi => by
      have := nots_zero l.toList (by omega) i (by simp; omega)
      have hil : i < l.size := by omega
      simp [hil] at this
      simp [Array.getD, hil, this]
    have hse : s = ops.size := by
      rcases Nat.lt_or_ge s ops.size with h1 | h1
      · have := (hk s h1).1 (hall s h1)
        omega
      · omega
    subst hse
    rw [List.drop_of_length_le (by simp)] at h
    refine ⟨?_, h⟩
    rw [List.eq_nil_iff_forall_not_mem]
    intro i hi
    obtain ⟨o, ho, h1, _⟩ := ready_deps hi
    have hio : i < ops.size := (Array.getElem?_eq_some_iff.1 ho).1
    have := hall i hio
    have hil : i < l.size := by omega
    simp [Array.getD, hil] at h1 this
    rw [this] at h1
    cases h1
  | succ fuel ih =>
    intro l s a w hl hn hms hs hk hcl h
    refine ⟨fun hr => ?_, fun i hi => ?_⟩
    · have hall : ∀ j, j < ops.size → l.getD j false = true := fun j hj => all_listed2 hf l hl hr (j + 1) j (by omega) hj
      have hse : s = ops.size := by
        rcases Nat.lt_or_ge s ops.size with h1 | h1
        · have := (hk s h1).1 (hall s h1)
          omega
        · omega
      subst hse
      rw [List.drop_of_length_le (by simp)] at h
      exact h
    · obtain ⟨o, ho, h1, hdl⟩ := ready_deps hi
      have hio : i < ops.size := (Array.getElem?_eq_some_iff.1 ho).1
      have hi0 : l.getD i false = false := by
        have hil : i < l.size := by omega
        simp [Array.getD, hil] at h1 ⊢
        exact h1
      have hsi : s ≤ i := by
        rcases Nat.lt_or_ge i s with h2 | h2
        · rw [(hk i hio).2 h2] at hi0; cases hi0
        · exact h2
      have his : i = s := by
        rcases Nat.lt_or_ge s i with h2 | h2
        · have := (hk s (by omega)).1 (ahead_done ht hl ho (by omega) hcl hdl s h2)
          omega
        · omega
      subst his
      obtain ⟨q1, q2, q3⟩ := closed_set hl ho hcl hdl
      have hset := nots_set l.toList i (getD_false h1)
      have hd : ops.toList.drop i = o :: ops.toList.drop (i + 1) := by
        rw [List.drop_eq_getElem_cons (by simpa using hio)]
        congr 1
        have := (Array.getElem?_eq_some_iff.1 ho).2
        simpa using this
      rw [hd] at h
      have hop : wpOpIn F N P ops Q i (wpListIn F N P ops Q (ops.toList.drop (i + 1))) a w := by
        unfold wpOpIn
        rw [ho]
        simpa [wpListIn] using h
      refine wpOpIn_mono (fun a' w' h' => ?_) hop
      refine ih _ (i + 1) a' w' (by simp [hl]) (by simp only [Array.toList_setIfInBounds]; omega) (by omega) (by omega) (fun j hj => ?_) q1 h'
      by_cases e : j = i
      · subst e; rw [q2]; simp
      · rw [q3 j e, hk j hj]; omega
theorem any_prePIn (s : Nat) (Pre : World → Prop) (m : Nat) (hm : m ≤ ops.size) (ht : tailB ops m = true) (K : World → World → Prop) (hKt : ∀ a b c, K a b → K b c → K a c) (hf : fine2 ops = true) (fr : (Nat → Value) → Act) (hput : ∀ o ∈ ops.toList.take m, ∀ d, o.dst = some d → ∀ x v, (fr x).put (some d) v = fr (upd x d v))
    (G : Nat → Value → World → Prop) (hG : ∀ d v w w', K w w' → G d v w → G d v w') (H : Nat → World → Prop) (hH : ∀ j w w', K w w' → H j w → H j w')
    (hs : ∀ i o, i < m → ops[i]? = some o → ∀ x w, K w0 w → (∀ j ∈ deps o, Left2 ops G H x w j) → (i = s → Pre w) →
      wpOpIn F N P ops Q i (fun a' w' => ∃ v, a' = (fr x).put o.dst v ∧ K w w' ∧ (∀ d, o.dst = some d → G d v w') ∧ (o.dst = none → H i w') ∧ (i ≠ s → Pre w → Pre w')) (fr x) w)
    (hend : ∀ x w, K w0 w → (∀ j, j < m → Left2 ops G H x w j) → wpListIn F N P ops Q (ops.toList.drop m) (fr x) w) :
    ∀ (fuel : Nat) (l : Array Bool) (x : Nat → Value) (w : World), l.size = ops.size → nots l.toList ≤ fuel → (l.getD s false = false → Pre w) → K w0 w → (∀ j, l.getD j false = true → Left2 ops G H x w j) → (∀ j q, l.getD j false = true → ops[j]? = some q → ∀ k ∈ deps q, l.getD k false = true) → (∀ j, m ≤ j → l.getD j false = false) → wpAnyIn F N P .any ops Q fuel l (fr x) w := by
  intro fuel
  induction fuel with
  | zero =>
    intro l x w hl hn hpr hb hL hcl htl
    have hall : ∀ i, i < ops.size → l.getD i false = true := fun i hi => by
      have := nots_zero l.toList (by omega) i (by simp; omega)
      have hil : i < l.size := by omega
      simp [hil] at this
      simp [Array.getD, hil, this]
    have hse : m = ops.size := by
      rcases Nat.lt_or_ge m ops.size with h1 | h1
      · have := hall m h1
        rw [htl m (Nat.le_refl _)] at this; cases this
      · omega
    exact any_seqIn m ht hf 0 l m (fr x) w hl hn (Nat.le_refl _) hm (fun j hj => ⟨fun _ => by omega, fun _ => hall j hj⟩) hcl (hend x w hb fun j hj => hL j (hall j (by omega)))
  | succ fuel ih =>
    intro l x w hl hn hpr hb hL hcl htl
    by_cases hdone : ∀ j, j < m → l.getD j false = true
    · exact any_seqIn m ht hf (fuel + 1) l m (fr x) w hl hn (Nat.le_refl _) hm (fun j hj => Iff.intro (fun h => (by
        rcases Nat.lt_or_ge j m with h1 | h1
        · exact h1
        · rw [htl j h1] at h; cases h)) (fun h => hdone j h)) hcl (hend x w hb fun j hj => hL j (hdone j hj))
    refine ⟨fun hr => absurd (fun j hj => all_listed2 hf l hl hr (j + 1) j (by omega) (by omega)) hdone, fun i hi => ?_⟩
    obtain ⟨o, ho, h1, hdl⟩ := ready_deps hi
    have hio : i < ops.size := (Array.getElem?_eq_some_iff.1 ho).1
    have him : i < m := by
      rcases Nat.lt_or_ge i m with h2 | h2
      · exact h2
      · exact absurd (fun j hj => ahead_done ht hl ho h2 hcl hdl j (by omega)) hdone
    obtain ⟨hcl', _, q3⟩ := closed_set hl ho hcl hdl
    have htail' : ∀ j, m ≤ j → (l.setIfInBounds i true).getD j false = false := fun j hj => by rw [q3 j (by omega)]; exact htl j hj
    have hd1 : ∀ j ∈ deps o, Left2 ops G H x w j := fun j hj => hL _ (hdl j hj)
    refine wpOpIn_mono (fun a' w' h => ?_) (hs i o him ho x w hb hd1 (fun e => hpr (by rw [← e]; exact getD_false' h1)))
    obtain ⟨v, rfl, hb', hg, hh, hps⟩ := h
    have hpr' : (l.setIfInBounds i true).getD s false = false → Pre w' := fun hs' => by
      by_cases e : i = s
      · subst e
        have hil : i < l.size := by omega
        simp [Array.getD, hil] at hs'
      · exact hps e (hpr (by rwa [getD_set_ne false e] at hs'))
    have hset := nots_set l.toList i (getD_false h1)
    cases hd : o.dst with
    | none =>
      have e0 : (fr x).put none v = fr x := rfl
      rw [e0]
      refine ih _ _ w' (by simp [hl]) ?_ hpr' (hKt _ _ _ hb hb') (fun j hj => ?_) hcl' htail'
      · simp only [Array.toList_setIfInBounds]
        omega
      · by_cases hji : j = i
        · subst hji
          unfold Left2
          rw [ho]
          simp only [Option.bind_some, hd]
          exact hh hd
        · have hjl : l.getD j false = true := by rw [getD_set_ne false (fun h => hji h.symm)] at hj; exact hj
          have := hL j hjl
          unfold Left2 at this ⊢
          cases hbind : (ops[j]?).bind (·.dst) with
          | none => rw [hbind] at this; exact hH _ _ _ hb' this
          | some d' => rw [hbind] at this; exact hG _ _ _ _ hb' this
    | some d =>
      have hp := hput o (by rw [List.mem_take_iff_getElem]; exact ⟨i, by simp; omega, by have := (Array.getElem?_eq_some_iff.1 ho).2; simpa using this⟩) d hd x v
      rw [hp]
      refine ih _ _ w' (by simp [hl]) ?_ hpr' (hKt _ _ _ hb hb') (fun j hj => ?_) hcl' htail'
      · simp only [Array.toList_setIfInBounds]
        omega
      · unfold Left2
        cases hbind : (ops[j]?).bind (·.dst) with
        | none =>
          simp only
          have hji : j ≠ i := fun h => by
            subst h
            rw [ho] at hbind
            simp [hd] at hbind
          have hjl : l.getD j false = true := by rw [getD_set_ne false (fun h => hji h.symm)] at hj; exact hj
          have := hL j hjl
          unfold Left2 at this
          rw [hbind] at this
          exact hH _ _ _ hb' this
        | some d' =>
          simp only
          by_cases e : d' = d
          · subst e
            rw [upd_same]
            exact hg _ hd
          · rw [upd_other _ _ _ _ e]
            have hji : j ≠ i := fun h => by
              subst h
              rw [ho] at hbind
              simp [hd] at hbind
              exact e hbind.symm
            have hjl : l.getD j false = true := by rw [getD_set_ne false (fun h => hji h.symm)] at hj; exact hj
            have := hL j hjl
            unfold Left2 at this
            rw [hbind] at this
            exact hG _ _ _ _ hb' this
theorem wpIn_prefixP {id : Nat} {a : Act} (s : Nat) (Pre : World → Prop) (hPre : Pre w0.drew) (m : Nat) (ht : tailB ops m = true) (p : Nat → Bool) (K : World → World → Prop) (hK0 : K w0 w0.drew) (hKt : ∀ a b c, K a b → K b c → K a c) (hm : P.follows .mixedOrders = true) (hf : fine2 ops = true) (hms : decide (m ≤ ops.size) = true) (hp : ((ops.toList.take m).all fun o => match o.dst with | some d => p d | none => true) = true)
    (G : Nat → Value → World → Prop) (hG : ∀ d v w w', K w w' → G d v w → G d v w') (H : Nat → World → Prop) (hH : ∀ j w w', K w w' → H j w → H j w')
    (hs : Each (fun i o => ∀ x w, K w0 w → (∀ j ∈ deps o, Left2 ops G H x w j) → (i = s → Pre w) →
      wpOpIn F N P ops Q i (fun a' w' => ∃ v, a' = (frame a p x).put o.dst v ∧ K w w' ∧ (∀ d, o.dst = some d → G d v w') ∧ (o.dst = none → H i w') ∧ (i ≠ s → Pre w → Pre w')) (frame a p x) w) 0 (ops.toList.take m))
    (hend : ∀ x w, K w0 w → (∀ j, j < m → Left2 ops G H x w j) → wpListIn F N P ops Q (ops.toList.drop m) (frame a p x) w) : (Code.region id ops true).wpIn F N P Q a w0 := by
  have := wpIn_region_any (id := id) (F := F) (n := N) (P := P) (Q := Q) (ops := ops) hm (any_prePIn s Pre m (of_decide_eq_true hms) ht (w0 := w0) K hKt hf (frame a p) (fun o ho d hd x v => frame_put a p x d v (by
    rw [List.all_eq_true] at hp
    have := hp o ho
    rw [hd] at this
    exact this)) G hG H hH (fun i o him ho => by
      have := Each.take m ops.toList 0 hs i o him (by simpa using ho)
      rw [Nat.zero_add] at this
      exact this) hend _ _ (fun t => a.tmps.toList.getD t undef) w0.drew (by simp) (by simp [nots]) (fun _ => hPre) hK0 (fun j hj => by
        exfalso
        by_cases h : j < ops.size
        · simp [Array.getD, h] at hj
        · simp [Array.getD, h] at hj) (fun j q hj => by
        exfalso
        by_cases h : j < ops.size
        · simp [Array.getD, h] at hj
        · simp [Array.getD, h] at hj) (fun j _ => by
        by_cases h : j < ops.size
        · simp [Array.getD, h]
        · simp [Array.getD, h]))
  rw [frame_self] at this
  exact this
end
end Reg
end Go.Proofs.Ytcangipaoancnaa

