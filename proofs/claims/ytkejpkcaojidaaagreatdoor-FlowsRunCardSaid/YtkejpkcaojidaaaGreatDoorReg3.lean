/-
  A region that draws its order and turns memory in steps: the operations ps (calls that write) come one after the other, whatever the order of the rest; M c is what is known of memory behind the first c of them; all other operations leave memory alone. No condition but those that are named; nothing of the program is named here.
-/
import Derived.Test.YtkejpkcaojidaaaGreatDoorMem
import Derived.Test.YtkejpkcaojidaaaGreatDoorReg2
namespace Go.Proofs.YtkejpkcaojidaaaGreatDoor
set_option linter.unusedVariables false
set_option linter.unusedSimpArgs false
open Go.RowKit

theorem Blk.far {g : Nat} {t : TypeId} {u : World} {cs : Array Value} (hB : Blk u g t cs) {p : Addr} (hp : g ≠ p.block) (v : Value) : Blk (u.setCell p v) g t cs := (Below.heap_setCell u p v g hp).trans hB
/-- From w on: all but the block g of what was there in w stays. -/
def But (g : Nat) (w w' : World) : Prop := Below g w w' ∧ ∀ b, b < w.heap.size → b ≠ g → w'.heap[b]? = w.heap[b]?
theorem But.blk {g b : Nat} {w w' : World} {t : TypeId} {cs : Array Value} (h : But g w w') (hB : Blk w b t cs) (hb : b ≠ g) : Blk w' b t cs := (h.2 b hB.lt hb).trans hB
theorem But.trans {g : Nat} {a b c : World} (h : But g a b) (k : But g b c) : But g a c := ⟨h.1.trans k.1, fun x hx hn => (k.2 x (Nat.lt_of_lt_of_le hx h.1.size) hn).trans (h.2 x hx hn)⟩
theorem But.grow {g : Nat} {w w' : World} (hg : g ≤ w.heap.size) (h : Below w.heap.size w w') : But g w w' := ⟨h.mono hg, fun b hb _ => h.block b hb⟩
theorem But.drew {g : Nat} {w u : World} (h : But g w u) : But g w u.drew := ⟨h.1.drew, h.2⟩
theorem wp_at {P : Program} {C : Code} {Q : Exit → Act → World → Prop} {a : Act} {W : World} (S : World → Prop) (h : S W) (k : ∀ U, S U → Code.wp P C Q a U) : Code.wp P C Q a W := k W h
theorem But.al {g : Nat} {w u : World} (hg : g < w.heap.size) (h : But g w u) (o : Obj) : But g w (u.alloc o) := ⟨h.1.alloc (Nat.le_trans (Nat.le_of_lt hg) h.1.size) o, fun b hb hn => (Below.heap_alloc u o b (Nat.lt_of_lt_of_le hb h.1.size)).trans (h.2 b hb hn)⟩
theorem But.refl (g : Nat) (w : World) : But g w w := ⟨Below.refl _ _, fun _ _ _ => rfl⟩
theorem But.one {u : World} {g : Nat} (i : Nat) (v : Value) : But g u (u.setCell ⟨g, i, none⟩ v) :=
  ⟨(Below.refl _ _).setCell (p := ⟨g, i, none⟩) (Nat.le_refl _) v, fun _ _ hk => Below.heap_setCell _ _ _ _ hk⟩
/-- One more cell of the block is written. -/
theorem But.set {g : Nat} {w u : World} (h : But g w u) (i : Nat) (v : Value) : But g w (u.setCell ⟨g, i, none⟩ v) := h.trans (But.one i v)
theorem But.on {g : Nat} {w u u' : World} (h : But g w u) (hg : g < w.heap.size) (k : Below u.heap.size u u') : But g w u' := h.trans (But.grow (Nat.le_trans (Nat.le_of_lt hg) h.1.size) k)
/-- Seen from below the block nothing has turned. -/
theorem But.low {g B : Nat} {w u : World} (h : But g w u) (hB : B ≤ g) : Below B w u := h.1.mono hB
end Go.Proofs.YtkejpkcaojidaaaGreatDoor

namespace Go.Proofs.YtkejpkcaojidaaaGreatDoor
open Go.RowKit

namespace Reg
/-- What operation j has left in its slot. -/
def Left3 (ops : Array Oper) (G : Nat → Value → Prop) (x : Nat → Value) (j : Nat) : Prop := match (ops[j]?).bind (·.dst) with
  | some d => G d (x d)
  | none => True
/-- Each of ps waits for those ahead of it. -/
def turns (ops : Array Oper) (ps : List Nat) (lo : Nat → Nat) : Bool := (List.range ps.length).all fun k => decide (k = 0) || (match (ps[k]?).bind (fun i => ops[i]?) with
  | some o => (deps o).any (fun j => decide (k ≤ lo j))
  | none => true)
/-- lo i: how many of ps are through at least, once operation i is. -/
def low (ops : Array Oper) (ps : List Nat) (lo : Nat → Nat) : Bool := (List.range ops.size).all fun i => match ops[i]? with
  | some o => decide (lo i = 0) || (deps o).any (fun j => decide (lo i ≤ lo j)) || (List.range ps.length).any (fun k => decide (ps[k]? = some i) && decide (lo i ≤ k + 1))
  | none => true

section
variable {P : Program} {ops : Array Oper} {Q : Exit → Act → World → Prop} {w0 : World}

theorem any_inv3 (ps : List Nat) (lo : Nat → Nat) (hnd : ps.Nodup) (hps : ∀ j ∈ ps, j < ops.size) (hch : turns ops ps lo = true) (hlow : low ops ps lo = true) (hf : fine ops = true) (fr : (Nat → Value) → Act) (hput : ∀ o ∈ ops.toList, ∀ d, o.dst = some d → ∀ x v, (fr x).put (some d) v = fr (upd x d v))
    (G : Nat → Value → Prop) (M : Nat → World → Prop)
    (hs : ∀ i o, ops[i]? = some o → ∀ x c w, M c w → (∀ k, ps[k]? = some i → c = k) → (∀ j ∈ deps o, lo j ≤ c) → (∀ j ∈ deps o, Left3 ops G x j) →
      wpOp P ops Q i (fun a' w' => ∃ v, a' = (fr x).put o.dst v ∧ (i ∈ ps → M (c + 1) w') ∧ (i ∉ ps → w' = w) ∧ ∀ d, o.dst = some d → G d v) (fr x) w)
    (hend : ∀ x w, M ps.length w → (∀ j, j < ops.size → Left3 ops G x j) → Q .normal (fr x) w) :
    ∀ (fuel : Nat) (l : Array Bool) (x : Nat → Value) (c : Nat) (w : World), l.size = ops.size → nots l.toList ≤ fuel → M c w → c ≤ ps.length → (∀ k j, ps[k]? = some j → (l.getD j false = true ↔ k < c)) → (∀ j, l.getD j false = true → lo j ≤ c) → (∀ j, l.getD j false = true → Left3 ops G x j) → wpAny P .any ops Q fuel l (fr x) w := by
  have hfull : ∀ (l : Array Bool) (c : Nat), c ≤ ps.length → (∀ k j, ps[k]? = some j → (l.getD j false = true ↔ k < c)) → (∀ j, j < ops.size → l.getD j false = true) → c = ps.length := by
    intro l c hc hk hall
    rcases Nat.lt_or_ge c ps.length with h | h
    · exfalso
      have h1 : ps[c]? = some ps[c] := List.getElem?_eq_getElem h
      have := (hk c _ h1).1 (hall _ (hps _ (List.getElem_mem h)))
      omega
    · omega
  intro fuel
  induction fuel with
  | zero =>
    intro l x c w hl hn hM hc hk hlo hL
    have hall : ∀ i, i < ops.size → l.getD i false = true := fun i hi => by
      have := nots_zero l.toList (by omega) i (by simp; omega)
      have hil : i < l.size := by omega
      simp [hil] at this
      simp [Array.getD, hil, this]
    have hcl := hfull l c hc hk hall
    subst hcl
    refine ⟨?_, hend x w hM fun j hj => hL j (hall j hj)⟩
    rw [List.eq_nil_iff_forall_not_mem]
    intro i hi
    obtain ⟨h1, o, ho, _⟩ := mem_ready.1 hi
    have hio : i < ops.size := (Array.getElem?_eq_some_iff.1 ho).1
    have := hall i hio
    have hil : i < l.size := by omega
    simp [Array.getD, hil] at h1 this
    rw [this] at h1
    cases h1
  | succ fuel ih =>
    intro l x c w hl hn hM hc hk hlo hL
    refine ⟨fun hr => ?_, fun i hi => ?_⟩
    · have hall : ∀ j, j < ops.size → l.getD j false = true := fun j hj => all_listed hf l hl hr (j + 1) j (by omega) hj
      have hcl := hfull l c hc hk hall
      subst hcl
      exact hend x w hM fun j hj => hL j (hall j hj)
    · obtain ⟨h1, o, ho, hdep⟩ := mem_ready.1 hi
      have hio : i < ops.size := (Array.getElem?_eq_some_iff.1 ho).1
      have hd0 : ∀ j ∈ deps o, l.getD j false = true := fun j hj => by
        simp only [deps, List.mem_map, List.mem_filter] at hj
        obtain ⟨e, ⟨he, hbind⟩, rfl⟩ := hj
        exact hdep e (by simpa using he) hbind
      have hni : l.getD i false ≠ true := fun h => by
        have := getD_false h1
        by_cases hil : i < l.size
        · simp [Array.getD, hil] at h h1
          rw [h] at h1
          cases h1
        · omega
      have hci : ∀ k, ps[k]? = some i → c = k := fun k hki => by
        have h2 : ¬ k < c := fun h => hni ((hk k i hki).2 h)
        rw [turns, List.all_eq_true] at hch
        have h3 := hch k (by simp [(List.getElem?_eq_some_iff.1 hki).1])
        simp only [hki, Option.bind_some, ho, Bool.or_eq_true, decide_eq_true_eq, List.any_eq_true] at h3
        rcases h3 with h3 | ⟨j, hj, h3⟩
        · omega
        · have := hlo j (hd0 j hj)
          omega
      refine wpOp_mono (fun a' w' h => ?_) (hs i o ho x c w hM hci (fun j hj => hlo j (hd0 j hj)) (fun j hj => hL j (hd0 j hj)))
      obtain ⟨v, rfl, hin, hout, hg⟩ := h
      have hdst : ∃ d, o.dst = some d := by
        rw [fine, List.all_eq_true] at hf
        have h1 := hf i (by simp [hio])
        simp only [ho, Bool.and_eq_true] at h1
        exact Option.isSome_iff_exists.1 h1.2
      obtain ⟨d, hd⟩ := hdst
      have hp := hput o (by rw [Array.mem_toList_iff]; exact Array.mem_of_getElem? ho) d hd x v
      rw [hd, hp]
      have hset := nots_set l.toList i (getD_false h1)
      have hLeft : ∀ j, (l.setIfInBounds i true).getD j false = true → Left3 ops G (upd x d v) j := fun j hj => by
        unfold Left3
        cases hbind : (ops[j]?).bind (·.dst) with
        | none => trivial
        | some d' =>
          simp only
          by_cases e : d' = d
          · subst e
            rw [upd_same]
            exact hg _ hd
          · rw [upd_other _ _ _ _ e]
            have hji : j ≠ i := fun h => by
              subst h
              rw [ho] at hbind
              simp [hd] at hbind
              exact e hbind.symm
            have hjl : l.getD j false = true := by rw [getD_set_ne false (fun h => hji h.symm)] at hj; exact hj
            have := hL j hjl
            unfold Left3 at this
            rw [hbind] at this
            exact this
      have hii : (l.setIfInBounds i true).getD i false = true := by
        have hil : i < l.size := by omega
        simp [Array.getD, hil]
      have hloi : ∀ c', c ≤ c' → (∀ k, ps[k]? = some i → k + 1 ≤ c') → lo i ≤ c' := fun c' hcc hkk => by
        rw [low, List.all_eq_true] at hlow
        have h2 := hlow i (by simp [hio])
        simp only [ho, Bool.or_eq_true, decide_eq_true_eq, List.any_eq_true, Bool.and_eq_true] at h2
        rcases h2 with (h2 | ⟨j, hj, h2⟩) | ⟨k, _, h2, h3⟩
        · omega
        · have := hlo j (hd0 j hj)
          omega
        · have := hkk k h2
          omega
      by_cases hip : i ∈ ps
      · obtain ⟨k, hkl, hki⟩ := List.getElem_of_mem hip
        have hki' : ps[k]? = some i := by rw [List.getElem?_eq_getElem hkl, hki]
        have hck := hci k hki'
        subst hck
        refine ih _ _ (c + 1) w' (by simp [hl]) (by simp only [Array.toList_setIfInBounds]; omega) (hin hip) (by omega) (fun k' j hj => ?_) (fun j hj => ?_) hLeft
        · by_cases hji : j = i
          · subst hji
            have : k' = c := by
              have h3 := (List.getElem?_eq_some_iff.1 hj)
              obtain ⟨h4, h5⟩ := h3
              rcases Nat.lt_trichotomy k' c with h6 | h6 | h6
              · exact absurd (h5.trans hki.symm) (List.pairwise_iff_getElem.1 hnd k' c h4 hkl h6)
              · exact h6
              · exact absurd (hki.trans h5.symm) (List.pairwise_iff_getElem.1 hnd c k' hkl h4 h6)
            subst this
            rw [hii]
            simp
          · rw [getD_set_ne false (fun h => hji h.symm), hk k' j hj]
            constructor
            · intro h; omega
            · intro h
              rcases Nat.lt_or_ge k' c with h6 | h6
              · exact h6
              · exfalso
                have : k' = c := by omega
                subst this
                rw [hj] at hki'
                injection hki' with h7
                exact hji h7
        · by_cases hji : j = i
          · subst hji
            refine hloi (c + 1) (by omega) (fun k' hk' => ?_)
            have := hci k' hk'
            omega
          · rw [getD_set_ne false (fun h => hji h.symm)] at hj
            have := hlo j hj
            omega
      · have hw' := hout hip
        subst hw'
        refine ih _ _ c w' (by simp [hl]) (by simp only [Array.toList_setIfInBounds]; omega) hM hc (fun k' j hj => ?_) (fun j hj => ?_) hLeft
        · have hji : j ≠ i := fun h => hip (h ▸ List.mem_of_getElem? hj)
          rw [getD_set_ne false (fun h => hji h.symm)]
          exact hk k' j hj
        · by_cases hji : j = i
          · subst hji
            exact hloi c (Nat.le_refl _) (fun k' hk' => absurd (List.mem_of_getElem? hk') hip)
          · rw [getD_set_ne false (fun h => hji h.symm)] at hj
            exact hlo j hj

/-- The region, in whatever order: p names the slots that it writes, ps the operations that turn memory. -/
theorem wp_steps {id : Nat} {a : Act} (p : Nat → Bool) (ps : List Nat) (lo : Nat → Nat) (M : Nat → World → Prop) (hM : M 0 w0.drew) (hm : P.follows .mixedOrders = true) (hf : fine ops = true) (hp : (ops.toList.all fun o => match o.dst with | some d => p d | none => true) = true)
    (hnd : ps.Nodup) (hps : (ps.all fun j => decide (j < ops.size)) = true) (hch : turns ops ps lo = true) (hlow : low ops ps lo = true)
    (G : Nat → Value → Prop)
    (hs : Each (fun i o => ∀ x c w, M c w → (∀ k, ps[k]? = some i → c = k) → (∀ j ∈ deps o, lo j ≤ c) → (∀ j ∈ deps o, Left3 ops G x j) →
      wpOp P ops Q i (fun a' w' => ∃ v, a' = (frame a p x).put o.dst v ∧ (i ∈ ps → M (c + 1) w') ∧ (i ∉ ps → w' = w) ∧ ∀ d, o.dst = some d → G d v) (frame a p x) w) 0 ops.toList)
    (hend : ∀ x w, M ps.length w → (∀ j, j < ops.size → Left3 ops G x j) → Q .normal (frame a p x) w) : (Code.region id ops true).wp P Q a w0 := by
  have hempty : ∀ j, (Array.replicate ops.size false).getD j false = true → False := fun j hj => by
    by_cases h : j < ops.size
    · simp [Array.getD, h] at hj
    · simp [Array.getD, h] at hj
  have := wp_region_any (id := id) (P := P) (Q := Q) (ops := ops) hm (any_inv3 (Q := Q) (P := P) ps lo hnd (fun j hj => by
      rw [List.all_eq_true] at hps
      simpa using hps j hj) hch hlow hf (frame a p) (fun o ho d hd x v => frame_put a p x d v (by
    rw [List.all_eq_true] at hp
    have := hp o ho
    rw [hd] at this
    exact this)) G M (fun i o ho => by
      have := Each.spec ops.toList 0 hs i o (by simpa using ho)
      rw [Nat.zero_add] at this
      exact this) hend _ _ (fun t => a.tmps.toList.getD t undef) 0 w0.drew (by simp) (by simp [nots]) hM (Nat.zero_le _) (fun k j _ => ⟨fun h => (hempty j h).elim, fun h => absurd h (Nat.not_lt_zero k)⟩) (fun j hj => (hempty j hj).elim) (fun j hj => (hempty j hj).elim))
  rw [frame_self] at this
  exact this
end
def tblP (l : List (Nat × (Value → Prop))) (d : Nat) : Value → Prop := (l.lookup d).getD (fun _ => True)
end Reg
end Go.Proofs.YtkejpkcaojidaaaGreatDoor

