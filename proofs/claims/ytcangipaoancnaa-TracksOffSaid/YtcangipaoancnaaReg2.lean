/-
  A region that draws its order, and writes: as Reg, with what the region keeps (K) as an argument: whatever the order, each operation is met once, in any world that K holds of since the region began, with what it asks for already there; an operation that fills no slot (a store) leaves a fact on memory. No condition but those that are named; nothing of the program is named here.
-/
import Derived.Test.YtcangipaoancnaaLst
import Derived.Orders
import Derived.RegionTactic
import Derived.Laws.CopyOwn
namespace Go.Proofs.Ytcangipaoancnaa
open Go.RowKit

namespace Reg
def upd (x : Nat → Value) (d : Nat) (v : Value) : Nat → Value := fun t => if t = d then v else x t
theorem upd_same (x : Nat → Value) (d : Nat) (v : Value) : upd x d v d = v := by simp [upd]
theorem upd_other (x : Nat → Value) (d t : Nat) (v : Value) (h : t ≠ d) : upd x d v t = x t := by simp [upd, h]
/-- What operation j has left. -/
def Left (ops : Array Oper) (G : Nat → Value → World → Prop) (x : Nat → Value) (w : World) (j : Nat) : Prop := match (ops[j]?).bind (·.dst) with
  | some d => G d (x d) w
  | none => True
/-- Which operations must be there first. -/
def deps (o : Oper) : List Nat := (o.after.toList.filter fun e => Region.binds .any e).map (·.on)
def fine (ops : Array Oper) : Bool := (List.range ops.size).all fun i => match ops[i]? with
  | some o => (deps o).all (fun j => decide (j < i)) && o.dst.isSome
  | none => true
def nots (l : List Bool) : Nat := l.count false
theorem nots_set : ∀ (l : List Bool) (i : Nat), l[i]? = some false → nots (l.set i true) + 1 = nots l := by
  intro l
  induction l with
  | nil => intro i h; simp at h
  | cons b l ih =>
    intro i h
    cases i with
    | zero =>
      have hb : b = false := by simpa using h
      subst hb
      simp [nots]
    | succ i =>
      have := ih i (by simpa using h)
      unfold nots at *
      cases b
      · simp only [List.set_cons_succ, List.count_cons_self]; omega
      · simp only [List.set_cons_succ]
        rw [List.count_cons_of_ne (by decide), List.count_cons_of_ne (by decide)]
        exact this
theorem nots_zero (l : List Bool) (h : nots l = 0) (i : Nat) (hi : i < l.length) : l[i]? = some true := by
  rw [List.getElem?_eq_getElem hi]
  cases hb : l[i]
  · have : false ∈ l := hb ▸ List.getElem_mem hi
    have := List.count_pos_iff.2 this
    unfold nots at h
    omega
  · rfl

section
variable {P : Program} {ops : Array Oper} {Q : Exit → Act → World → Prop} {w0 : World}

theorem getD_false {l : Array Bool} {i : Nat} (h : l.getD i true = false) : l.toList[i]? = some false := by
  by_cases hi : i < l.size
  · simp [Array.getD, hi] at h
    simp [hi, h]
  · simp [Array.getD, hi] at h
theorem all_listed (hf : fine ops = true) (l : Array Bool) (hl : l.size = ops.size) (hr : Region.ready .any ops l = []) : ∀ n i, i < n → i < ops.size → l.getD i false = true := by
  intro n
  induction n with
  | zero => intro i h; omega
  | succ n ih =>
    intro i hin hi
    rcases Nat.lt_or_ge i n with h | h
    · exact ih i h hi
    · obtain rfl : i = n := by omega
      rcases hb : l.getD i false with _ | _
      · exfalso
        have hm : i ∈ Region.ready .any ops l := by
          refine mem_ready.2 ⟨?_, ops[i], by simp [hi], fun e he hbind => ?_⟩
          · have hil : i < l.size := by omega
            simp [Array.getD, hil] at hb ⊢
            exact hb
          · rw [fine, List.all_eq_true] at hf
            have h1 := hf i (by simp [hi])
            simp only [Array.getElem?_eq_getElem hi, Bool.and_eq_true, List.all_eq_true] at h1
            have h2 := h1.1 e.on (by simp only [deps, List.mem_map, List.mem_filter]; exact ⟨e, ⟨by simpa using he, hbind⟩, rfl⟩)
            simp at h2
            exact ih e.on h2 (by omega)
        rw [hr] at hm
        cases hm
      · rfl

theorem any_inv (hf : fine ops = true) (fr : (Nat → Value) → Act) (hput : ∀ o ∈ ops.toList, ∀ d, o.dst = some d → ∀ x v, (fr x).put (some d) v = fr (upd x d v))
    (G : Nat → Value → World → Prop) (hG : ∀ d v w w', Below w.heap.size w w' → G d v w → G d v w')
    (hs : ∀ i o, ops[i]? = some o → ∀ x w, Below w0.heap.size w0 w → (∀ j ∈ deps o, Left ops G x w j) →
      wpOp P ops Q i (fun a' w' => ∃ v, a' = (fr x).put o.dst v ∧ Below w.heap.size w w' ∧ ∀ d, o.dst = some d → G d v w') (fr x) w)
    (hend : ∀ x w, Below w0.heap.size w0 w → (∀ j, j < ops.size → Left ops G x w j) → Q .normal (fr x) w) :
    ∀ (fuel : Nat) (l : Array Bool) (x : Nat → Value) (w : World), l.size = ops.size → nots l.toList ≤ fuel → Below w0.heap.size w0 w → (∀ j, l.getD j false = true → Left ops G x w j) → wpAny P .any ops Q fuel l (fr x) w := by
  intro fuel
  induction fuel with
  | zero =>
    intro l x w hl hn hb hL
    have hall : ∀ i, i < ops.size → l.getD i false = true := fun i hi => by
      have := nots_zero l.toList (by omega) i (by simp; omega)
      have hil : i < l.size := by omega
      simp [hil] at this
      simp [Array.getD, hil, this]
    refine ⟨?_, hend x w hb fun j hj => hL j (hall j hj)⟩
    rw [List.eq_nil_iff_forall_not_mem]
    intro i hi
    obtain ⟨h1, o, ho, _⟩ := mem_ready.1 hi
    have hio : i < ops.size := (Array.getElem?_eq_some_iff.1 ho).1
    have := hall i hio
    have hil : i < l.size := by omega
    simp [Array.getD, hil] at h1 this
    rw [this] at h1
    cases h1
  | succ fuel ih =>
    intro l x w hl hn hb hL
    refine ⟨fun hr => hend x w hb fun j hj => hL j (all_listed hf l hl hr (j + 1) j (by omega) hj), fun i hi => ?_⟩
    obtain ⟨h1, o, ho, hdep⟩ := mem_ready.1 hi
    have hio : i < ops.size := (Array.getElem?_eq_some_iff.1 ho).1
    have hd1 : ∀ j ∈ deps o, Left ops G x w j := fun j hj => by
      simp only [deps, List.mem_map, List.mem_filter] at hj
      obtain ⟨e, ⟨he, hbind⟩, rfl⟩ := hj
      exact hL _ (hdep e (by simpa using he) hbind)
    refine wpOp_mono (fun a' w' h => ?_) (hs i o ho x w hb hd1)
    obtain ⟨v, rfl, hb', hg⟩ := h
    have hdst : ∃ d, o.dst = some d := by
      rw [fine, List.all_eq_true] at hf
      have h1 := hf i (by simp [hio])
      simp only [ho, Bool.and_eq_true] at h1
      exact Option.isSome_iff_exists.1 h1.2
    obtain ⟨d, hd⟩ := hdst
    have hp := hput o (by rw [Array.mem_toList_iff]; exact Array.mem_of_getElem? ho) d hd x v
    rw [hd, hp]
    have hset := nots_set l.toList i (getD_false h1)
    refine ih _ _ w' (by simp [hl]) ?_ (below_then hb hb') fun j hj => ?_
    · simp only [Array.toList_setIfInBounds]
      omega
    · unfold Left
      cases hbind : (ops[j]?).bind (·.dst) with
      | none => trivial
      | some d' =>
        simp only
        by_cases e : d' = d
        · subst e
          rw [upd_same]
          exact hg _ hd
        · rw [upd_other _ _ _ _ e]
          have hji : j ≠ i := fun h => by
            subst h
            rw [ho] at hbind
            simp [hd] at hbind
            exact e hbind.symm
          have hjl : l.getD j false = true := by rw [getD_set_ne false (fun h => hji h.symm)] at hj; exact hj
          have := hL j hjl
          unfold Left at this
          rw [hbind] at this
          exact hG _ _ _ _ hb' this

/-- The region, in whatever order. -/
theorem wp_any {id : Nat} (hm : P.follows .mixedOrders = true) (hf : fine ops = true) (fr : (Nat → Value) → Act) (x0 : Nat → Value) (hput : ∀ o ∈ ops.toList, ∀ d, o.dst = some d → ∀ x v, (fr x).put (some d) v = fr (upd x d v))
    (G : Nat → Value → World → Prop) (hG : ∀ d v w w', Below w.heap.size w w' → G d v w → G d v w')
    (hs : ∀ i o, ops[i]? = some o → ∀ x w, Below w0.heap.size w0 w → (∀ j ∈ deps o, Left ops G x w j) →
      wpOp P ops Q i (fun a' w' => ∃ v, a' = (fr x).put o.dst v ∧ Below w.heap.size w w' ∧ ∀ d, o.dst = some d → G d v w') (fr x) w)
    (hend : ∀ x w, Below w0.heap.size w0 w → (∀ j, j < ops.size → Left ops G x w j) → Q .normal (fr x) w) : (Code.region id ops true).wp P Q (fr x0) w0 := by
  refine wp_region_any hm (any_inv hf fr hput G hG hs hend _ _ _ _ (by simp) ?_ (Below.refl _ _).drew fun j hj => ?_)
  · simp [nots]
  · exfalso
    by_cases h : j < ops.size
    · simp [Array.getD, h] at hj
    · simp [Array.getD, h] at hj
/-- One operation after the other. -/
def Each (S : Nat → Oper → Prop) : Nat → List Oper → Prop
  | _, [] => True
  | i, o :: l => S i o ∧ Each S (i + 1) l
theorem Each.spec {S : Nat → Oper → Prop} : ∀ (l : List Oper) (k : Nat), Each S k l → ∀ i o, l[i]? = some o → S (k + i) o := by
  intro l
  induction l with
  | nil => intro k _ i o h; simp at h
  | cons p l ih =>
    intro k h i o ho
    cases i with
    | zero => simp at ho; subst ho; exact h.1
    | succ i =>
      have := ih (k + 1) h.2 i o (by simpa using ho)
      rw [show k + (i + 1) = k + 1 + i by omega]
      exact this
/-- A frame in which the slots that p names are free. -/
def over (p : Nat → Bool) (x : Nat → Value) : Nat → List Value → List Value
  | _, [] => []
  | i, v :: l => (if p i = true then x i else v) :: over p x (i + 1) l
theorem over_length (p : Nat → Bool) (x : Nat → Value) : ∀ (l : List Value) (i : Nat), (over p x i l).length = l.length := by
  intro l
  induction l with
  | nil => intro i; rfl
  | cons v l ih => intro i; simp [over, ih]
theorem over_set (p : Nat → Bool) (x : Nat → Value) (d : Nat) (v : Value) (hd : p d = true) : ∀ (l : List Value) (i : Nat), i ≤ d → (over p x i l).set (d - i) v = over p (upd x d v) i l := by
  intro l
  induction l with
  | nil => intro i _; rfl
  | cons u l ih =>
    intro i hi
    have hne : ∀ (l : List Value) (i : Nat), d < i → over p x i l = over p (upd x d v) i l := by
      intro l
      induction l with
      | nil => intro i _; rfl
      | cons u l ih2 => intro i h; simp only [over]; rw [ih2 (i + 1) (by omega), upd_other _ _ _ _ (by omega)]
    by_cases e : i = d
    · subst e
      simp only [over, Nat.sub_self, List.set_cons_zero, hd, if_true, upd_same]
      rw [hne l (i + 1) (by omega)]
    · have e2 : d - i = (d - (i + 1)) + 1 := by omega
      rw [e2]
      simp only [over, List.set_cons_succ]
      rw [ih (i + 1) (by omega), upd_other _ _ _ _ e]
theorem over_self (p : Nat → Bool) : ∀ (l : List Value) (i : Nat) (x : Nat → Value), (∀ j, j < l.length → x (i + j) = l.getD j undef) → over p x i l = l := by
  intro l
  induction l with
  | nil => intro i x _; rfl
  | cons v l ih =>
    intro i x h
    have h0 : x i = v := by simpa using h 0 (by simp)
    simp only [over]
    rw [h0, ih (i + 1) x (fun j hj => by
      have := h (j + 1) (by simpa using hj)
      rw [show i + 1 + j = i + (j + 1) by omega, this]
      simp [List.getD])]
    simp
def frame (a : Act) (p : Nat → Bool) (x : Nat → Value) : Act := { tmps := (over p x 0 a.tmps.toList).toArray, defers := a.defers }
theorem frame_put (a : Act) (p : Nat → Bool) (x : Nat → Value) (d : Nat) (v : Value) (hd : p d = true) : (frame a p x).put (some d) v = frame a p (upd x d v) := by
  have h := over_set p x d v hd a.tmps.toList 0 (Nat.zero_le _)
  rw [Nat.sub_zero] at h
  simp only [frame, Act.put, List.setIfInBounds_toArray, h]
theorem frame_self (a : Act) (p : Nat → Bool) : frame a p (fun t => a.tmps.toList.getD t undef) = a := by
  simp only [frame]
  rw [over_self p a.tmps.toList 0 _ (fun j _ => by rw [Nat.zero_add])]
/-- The region, in whatever order: p names the slots that it writes. -/
theorem wp_slots {id : Nat} {a : Act} (p : Nat → Bool) (hm : P.follows .mixedOrders = true) (hf : fine ops = true) (hp : (ops.toList.all fun o => match o.dst with | some d => p d | none => true) = true)
    (G : Nat → Value → World → Prop) (hG : ∀ d v w w', Below w.heap.size w w' → G d v w → G d v w')
    (hs : Each (fun i o => ∀ x w, Below w0.heap.size w0 w → (∀ j ∈ deps o, Left ops G x w j) →
      wpOp P ops Q i (fun a' w' => ∃ v, a' = (frame a p x).put o.dst v ∧ Below w.heap.size w w' ∧ ∀ d, o.dst = some d → G d v w') (frame a p x) w) 0 ops.toList)
    (hend : ∀ x w, Below w0.heap.size w0 w → (∀ j, j < ops.size → Left ops G x w j) → Q .normal (frame a p x) w) : (Code.region id ops true).wp P Q a w0 := by
  have := wp_any (id := id) (P := P) (Q := Q) (ops := ops) hm hf (frame a p) (fun t => a.tmps.toList.getD t undef) (fun o ho d hd x v => frame_put a p x d v (by
    rw [List.all_eq_true] at hp
    have := hp o ho
    rw [hd] at this
    exact this)) G hG (fun i o ho => by
      have := Each.spec ops.toList 0 hs i o (by simpa using ho)
      rw [Nat.zero_add] at this
      exact this) hend
  rw [frame_self] at this
  exact this
end
/-- What is known of a slot's value, and stays so while memory grows. -/
structure Fact where
  P : Value → World → Prop
  on : ∀ v w w', Below w.heap.size w w' → P v w → P v w'
def Fact.is (u : Value) : Fact := ⟨fun v _ => v = u, fun _ _ _ _ h => h⟩
def Fact.any : Fact := ⟨fun _ _ => True, fun _ _ _ _ h => h⟩
/-- A new list of numbers. -/
def Fact.list (k : IntKind) (n : Nat) (xs : List Int) : Fact := ⟨fun v w => ∃ A c, v = .slice A n c ∧ Lies k w w.heap.size A n xs, fun _ _ _ hb h => by
  obtain ⟨A, c, e, hl⟩ := h
  exact ⟨A, c, e, hl.on hb⟩⟩
def tbl (l : List (Nat × Fact)) (d : Nat) : Fact := (l.lookup d).getD Fact.any
end Reg
end Go.Proofs.Ytcangipaoancnaa

namespace Go.Proofs.Ytcangipaoancnaa
open Go.RowKit

namespace Reg
/-- What operation j has left: in its slot, or in memory. -/
def Left2 (ops : Array Oper) (G : Nat → Value → World → Prop) (H : Nat → World → Prop) (x : Nat → Value) (w : World) (j : Nat) : Prop := match (ops[j]?).bind (·.dst) with
  | some d => G d (x d) w
  | none => H j w
def fine2 (ops : Array Oper) : Bool := (List.range ops.size).all fun i => match ops[i]? with
  | some o => (deps o).all (fun j => decide (j < i))
  | none => true

section
variable {P : Program} {ops : Array Oper} {Q : Exit → Act → World → Prop} {w0 : World}

theorem all_listed2 (hf : fine2 ops = true) (l : Array Bool) (hl : l.size = ops.size) (hr : Region.ready .any ops l = []) : ∀ n i, i < n → i < ops.size → l.getD i false = true := by
  intro n
  induction n with
  | zero => intro i h; omega
  | succ n ih =>
    intro i hin hi
    rcases Nat.lt_or_ge i n with h | h
    · exact ih i h hi
    · obtain rfl : i = n := by omega
      rcases hb : l.getD i false with _ | _
      · exfalso
        have hm : i ∈ Region.ready .any ops l := by
          refine mem_ready.2 ⟨?_, ops[i], by simp [hi], fun e he hbind => ?_⟩
          · have hil : i < l.size := by omega
            simp [Array.getD, hil] at hb ⊢
            exact hb
          · rw [fine2, List.all_eq_true] at hf
            have h1 := hf i (by simp [hi])
            simp only [Array.getElem?_eq_getElem hi, List.all_eq_true] at h1
            have h2 := h1 e.on (by simp only [deps, List.mem_map, List.mem_filter]; exact ⟨e, ⟨by simpa using he, hbind⟩, rfl⟩)
            simp at h2
            exact ih e.on h2 (by omega)
        rw [hr] at hm
        cases hm
      · rfl

theorem any_inv2 (K : World → World → Prop) (hKt : ∀ a b c, K a b → K b c → K a c) (hf : fine2 ops = true) (fr : (Nat → Value) → Act) (hput : ∀ o ∈ ops.toList, ∀ d, o.dst = some d → ∀ x v, (fr x).put (some d) v = fr (upd x d v))
    (G : Nat → Value → World → Prop) (hG : ∀ d v w w', K w w' → G d v w → G d v w') (H : Nat → World → Prop) (hH : ∀ j w w', K w w' → H j w → H j w')
    (hs : ∀ i o, ops[i]? = some o → ∀ x w, K w0 w → (∀ j ∈ deps o, Left2 ops G H x w j) →
      wpOp P ops Q i (fun a' w' => ∃ v, a' = (fr x).put o.dst v ∧ K w w' ∧ (∀ d, o.dst = some d → G d v w') ∧ (o.dst = none → H i w')) (fr x) w)
    (hend : ∀ x w, K w0 w → (∀ j, j < ops.size → Left2 ops G H x w j) → Q .normal (fr x) w) :
    ∀ (fuel : Nat) (l : Array Bool) (x : Nat → Value) (w : World), l.size = ops.size → nots l.toList ≤ fuel → K w0 w → (∀ j, l.getD j false = true → Left2 ops G H x w j) → wpAny P .any ops Q fuel l (fr x) w := by
  intro fuel
  induction fuel with
  | zero =>
    intro l x w hl hn hb hL
    have hall : ∀ i, i < ops.size → l.getD i false = true := fun i hi => by
      have := nots_zero l.toList (by omega) i (by simp; omega)
      have hil : i < l.size := by omega
      simp [hil] at this
      simp [Array.getD, hil, this]
    refine ⟨?_, hend x w hb fun j hj => hL j (hall j hj)⟩
    rw [List.eq_nil_iff_forall_not_mem]
    intro i hi
    obtain ⟨h1, o, ho, _⟩ := mem_ready.1 hi
    have hio : i < ops.size := (Array.getElem?_eq_some_iff.1 ho).1
    have := hall i hio
    have hil : i < l.size := by omega
    simp [Array.getD, hil] at h1 this
    rw [this] at h1
    cases h1
  | succ fuel ih =>
    intro l x w hl hn hb hL
    refine ⟨fun hr => hend x w hb fun j hj => hL j (all_listed2 hf l hl hr (j + 1) j (by omega) hj), fun i hi => ?_⟩
    obtain ⟨h1, o, ho, hdep⟩ := mem_ready.1 hi
    have hio : i < ops.size := (Array.getElem?_eq_some_iff.1 ho).1
    have hd1 : ∀ j ∈ deps o, Left2 ops G H x w j := fun j hj => by
      simp only [deps, List.mem_map, List.mem_filter] at hj
      obtain ⟨e, ⟨he, hbind⟩, rfl⟩ := hj
      exact hL _ (hdep e (by simpa using he) hbind)
    refine wpOp_mono (fun a' w' h => ?_) (hs i o ho x w hb hd1)
    obtain ⟨v, rfl, hb', hg, hh⟩ := h
    have hset := nots_set l.toList i (getD_false h1)
    cases hd : o.dst with
    | none =>
      have e0 : (fr x).put none v = fr x := rfl
      rw [e0]
      refine ih _ _ w' (by simp [hl]) ?_ (hKt _ _ _ hb hb') fun j hj => ?_
      · simp only [Array.toList_setIfInBounds]
        omega
      · by_cases hji : j = i
        · subst hji
          unfold Left2
          rw [ho]
          simp only [Option.bind_some, hd]
          exact hh hd
        · have hjl : l.getD j false = true := by rw [getD_set_ne false (fun h => hji h.symm)] at hj; exact hj
          have := hL j hjl
          unfold Left2 at this ⊢
          cases hbind : (ops[j]?).bind (·.dst) with
          | none => rw [hbind] at this; exact hH _ _ _ hb' this
          | some d' => rw [hbind] at this; exact hG _ _ _ _ hb' this
    | some d =>
      have hp := hput o (by rw [Array.mem_toList_iff]; exact Array.mem_of_getElem? ho) d hd x v
      rw [hp]
      refine ih _ _ w' (by simp [hl]) ?_ (hKt _ _ _ hb hb') fun j hj => ?_
      · simp only [Array.toList_setIfInBounds]
        omega
      · unfold Left2
        cases hbind : (ops[j]?).bind (·.dst) with
        | none =>
          simp only
          have hji : j ≠ i := fun h => by
            subst h
            rw [ho] at hbind
            simp [hd] at hbind
          have hjl : l.getD j false = true := by rw [getD_set_ne false (fun h => hji h.symm)] at hj; exact hj
          have := hL j hjl
          unfold Left2 at this
          rw [hbind] at this
          exact hH _ _ _ hb' this
        | some d' =>
          simp only
          by_cases e : d' = d
          · subst e
            rw [upd_same]
            exact hg _ hd
          · rw [upd_other _ _ _ _ e]
            have hji : j ≠ i := fun h => by
              subst h
              rw [ho] at hbind
              simp [hd] at hbind
              exact e hbind.symm
            have hjl : l.getD j false = true := by rw [getD_set_ne false (fun h => hji h.symm)] at hj; exact hj
            have := hL j hjl
            unfold Left2 at this
            rw [hbind] at this
            exact hG _ _ _ _ hb' this

/-- The region, in whatever order: p names the slots that it writes, K what it keeps. -/
theorem wp_slots2 {id : Nat} {a : Act} (p : Nat → Bool) (K : World → World → Prop) (hK0 : K w0 w0.drew) (hKt : ∀ a b c, K a b → K b c → K a c) (hm : P.follows .mixedOrders = true) (hf : fine2 ops = true) (hp : (ops.toList.all fun o => match o.dst with | some d => p d | none => true) = true)
    (G : Nat → Value → World → Prop) (hG : ∀ d v w w', K w w' → G d v w → G d v w') (H : Nat → World → Prop) (hH : ∀ j w w', K w w' → H j w → H j w')
    (hs : Each (fun i o => ∀ x w, K w0 w → (∀ j ∈ deps o, Left2 ops G H x w j) →
      wpOp P ops Q i (fun a' w' => ∃ v, a' = (frame a p x).put o.dst v ∧ K w w' ∧ (∀ d, o.dst = some d → G d v w') ∧ (o.dst = none → H i w')) (frame a p x) w) 0 ops.toList)
    (hend : ∀ x w, K w0 w → (∀ j, j < ops.size → Left2 ops G H x w j) → Q .normal (frame a p x) w) : (Code.region id ops true).wp P Q a w0 := by
  have := wp_region_any (id := id) (P := P) (Q := Q) (ops := ops) hm (any_inv2 (w0 := w0) K hKt hf (frame a p) (fun o ho d hd x v => frame_put a p x d v (by
    rw [List.all_eq_true] at hp
    have := hp o ho
    rw [hd] at this
    exact this)) G hG H hH (fun i o ho => by
      have := Each.spec ops.toList 0 hs i o (by simpa using ho)
      rw [Nat.zero_add] at this
      exact this) hend _ _ (fun t => a.tmps.toList.getD t undef) w0.drew (by simp) (by simp [nots]) hK0 fun j hj => by
        exfalso
        by_cases h : j < ops.size
        · simp [Array.getD, h] at hj
        · simp [Array.getD, h] at hj)
  rw [frame_self] at this
  exact this
end
/-- What a region keeps that writes the blocks S, which lie from B on: all other blocks, and each of Js, once it holds. -/
def KJ (B : Nat) (S : List Nat) (Js : List (World → Prop)) (w w' : World) : Prop := Below B w w' ∧ (∀ g, g < w.heap.size → g ∉ S → w'.heap[g]? = w.heap[g]?) ∧ ∀ J ∈ Js, J w → J w'
section
variable {B : Nat} {S : List Nat} {Js : List (World → Prop)} {w w' : World}
theorem KJ.trans (a b c : World) (h : KJ B S Js a b) (k : KJ B S Js b c) : KJ B S Js a c :=
  ⟨h.1.trans k.1, fun g hg hs => (k.2.1 g (Nat.lt_of_lt_of_le hg h.1.size) hs).trans (h.2.1 g hg hs), fun J hJ hj => k.2.2 J hJ (h.2.2 J hJ hj)⟩
theorem KJ.refl (w : World) : KJ B S Js w w := ⟨Below.refl _ _, fun _ _ _ => rfl, fun _ _ h => h⟩
theorem KJ.drew (w : World) (hJ : ∀ J ∈ Js, ∀ u u', Below u.heap.size u u' → J u → J u') : KJ B S Js w w.drew :=
  ⟨(Below.refl _ _).drew, fun _ _ _ => rfl, fun J hj => hJ J hj _ _ (Below.refl w.heap.size w).drew⟩
/-- A block of S that is written whole. -/
theorem KJ.row {g : Nat} {cs : Array Value} (hB : B ≤ g) (hg : g ∈ S) (hJ : ∀ J ∈ Js, J w → J (w.setRow g cs)) : KJ B S Js w (w.setRow g cs) :=
  ⟨below_setRow (Below.refl _ _) hB _, fun k _ hk => setRow_other w g k cs (fun e => hk (e ▸ hg)), hJ⟩
/-- Memory that grows alone keeps it. -/
theorem KJ.grow (hJ : ∀ J ∈ Js, ∀ u u', Below u.heap.size u u' → J u → J u') (hB : B ≤ w.heap.size) (h : Below w.heap.size w w') : KJ B S Js w w' :=
  ⟨h.mono hB, fun g hg _ => h.block g hg, fun J hj => hJ J hj _ _ h⟩
theorem KJ.blk {t : TypeId} {cs : Array Value} {g : Nat} (h : KJ B S Js w w') (hg : g ∉ S) (hB : Blk w g t cs) : Blk w' g t cs := (h.2.1 g hB.lt hg).trans hB
theorem KJ.lies {k : IntKind} {n : Nat} {A : Option Addr} {xs : List Int} (h : KJ B S Js w w') (hl : Lies k w B A n xs) : Lies k w' B A n xs := hl.keep (Nat.le_refl _) fun _ hp => h.1.cell hp
theorem KJ.j (h : KJ B S Js w w') (J : World → Prop) (hJ : J ∈ Js) (hj : J w) : J w' := h.2.2 J hJ hj
theorem KJ.size (h : KJ B S Js w w') : w.heap.size ≤ w'.heap.size := h.1.size
end
/-- copy into a block that is known whole, as one operation of a region. -/
theorem step_copy_own {P : Program} {ops : Array Oper} {o : Oper} {ts : Array Value} {df : _} {w : World} {K : Act → World → Prop} {Q : Exit → Act → World → Prop} {E : Prop} (hgd : o.guard = none) (d s : Operand) (dT sT : TypeId)
    (ho : o.op = .call { callee := .builtin .copy, args := #[d, s], argTypes := #[dT, sT] }) (elem : TypeId) (hu : P.underlying dT = some (.slice elem)) (hsz : (P.info? elem).map (·.size) = some 1)
    (ad : Addr) (dLen dCap sLen sCap : Nat) (g off : Nat) (hd : Act.eval ⟨ts, df⟩ d = .slice (some ⟨g, off, none⟩) dLen dCap) (hs : Act.eval ⟨ts, df⟩ s = .slice (some ad) sLen sCap)
    (cur : List Value) (t : TypeId) (hg : w.heap[g]? = some (.cells cur.toArray t (0, 0))) (cs : List Value) (hn : cs.length = Nat.min sLen dLen)
    (hsrc : ∀ j v, cs[j]? = some v → w.cell? (ad.add j) = some v) (hfit : off + cs.length ≤ cur.length) (h1 : ∀ v ∈ cs, v.oneCell' = true)
    (h : ∀ cs', cs' = (splice cur off cs).toArray → K (Act.put ⟨ts, df⟩ o.dst (goInt cs.length)) (w.setRow g cs')) :
    if Region.wanted o (yielded ops ts) = true then Oper.wp P o ⟨ts, df⟩ w K Q else E := by
  have hw : Region.wanted o (yielded ops ts) = true := by simp [Region.wanted, hgd]
  rw [if_pos hw]
  have hrun := run_copy_row (P := P) w dT sT o.type elem g off dLen dCap ad sLen sCap cur.toArray t cs hu hsz hg hn hsrc (by simpa using hfit) h1
  unfold Oper.wp
  simp [execOp, ho, resolve, invoke, builtin, hd, hs, hrun, Result.andThen]
  exact h _ (by simp [splice])
/-- What is known of a slot's value, and stays so while K holds. -/
structure FactK (K : World → World → Prop) where
  P : Value → World → Prop
  on : ∀ v w w', K w w' → P v w → P v w'
def FactK.is {K : World → World → Prop} (u : Value) : FactK K := ⟨fun v _ => v = u, fun _ _ _ _ h => h⟩
def FactK.any {K : World → World → Prop} : FactK K := ⟨fun _ _ => True, fun _ _ _ _ h => h⟩
/-- A list of one's own, known whole, that the region does not write. -/
def FactK.blk {B : Nat} {S : List Nat} {Js : List (World → Prop)} (t : TypeId) (k : IntKind) (n : Nat) (xs : List Int) (base : Nat) : FactK (KJ B S Js) := ⟨fun v w => ∃ g, v = .slice (some ⟨g, 0, none⟩) n n ∧ base ≤ g ∧ g ∉ S ∧ Blk w g t (cellsOf k xs), fun _ _ _ hb h => by
  obtain ⟨g, e, hg, hs, hB⟩ := h
  exact ⟨g, e, hg, hs, hb.blk hs hB⟩⟩
/-- A slot whose operation has left a fact on memory. -/
def FactK.mem {B : Nat} {S : List Nat} {Js : List (World → Prop)} (J : World → Prop) (hJ : J ∈ Js) : FactK (KJ B S Js) := ⟨fun _ w => J w, fun _ _ _ h hj => h.j J hJ hj⟩
def tblK {K : World → World → Prop} (l : List (Nat × FactK K)) (d : Nat) : FactK K := (l.lookup d).getD FactK.any
/-- What is known of memory, and stays so while K holds. -/
structure MemK (K : World → World → Prop) where
  P : World → Prop
  on : ∀ w w', K w w' → P w → P w'
def MemK.any {K : World → World → Prop} : MemK K := ⟨fun _ => True, fun _ _ _ h => h⟩
def memK {K : World → World → Prop} (l : List (Nat × MemK K)) (d : Nat) : MemK K := (l.lookup d).getD MemK.any
def MemK.j {B : Nat} {S : List Nat} {Js : List (World → Prop)} (J : World → Prop) (hJ : J ∈ Js) : MemK (KJ B S Js) := ⟨J, fun _ _ h hj => h.j J hJ hj⟩
end Reg
end Go.Proofs.Ytcangipaoancnaa

