/-
  A map that counts cells, in memory: what a look-up gives, what an entry's birth and its store leave. Conditions: the cells' numbers are such as their kinds may be.
-/
import Derived.Test.YtdbljggjddnjcaaAgK
import Derived.Test.YtdbljggjddnjcaaWdEq
import Derived.Test.YtdbljggjddnjcaaBut
import Derived.WideKeyEntry
namespace Go.Proofs.Ytdbljggjddnjcaa
open Go.RowKit
set_option linter.unusedVariables false
set_option linter.unusedSimpArgs false

theorem vec_inj {α : Type} (f : α → Value) (hf : ∀ a b, f a = f b → a = b) {x y : Vector α 8} (h : x.toList.map f = y.toList.map f) : x = y := by
  apply Vector.toList_inj.1
  have hl : ∀ (l m : List α), l.map f = m.map f → l = m := by
    intro l
    induction l with
    | nil => intro m hm; cases m with
      | nil => rfl
      | cons _ _ => simp at hm
    | cons a l ih => intro m hm; cases m with
      | nil => simp at hm
      | cons b m =>
        simp only [List.map_cons, List.cons.injEq] at hm
        rw [hf a b hm.1, ih m hm.2]
  exact hl _ _ h
theorem boL_inj {x y : Vector Bool 8} (h : boL x = boL y) : x = y := vec_inj Value.bool (fun a b e => by injection e) h
theorem nuL_inj {k : IntKind} {x y : Vector Int 8} (h : nuL k x = nuL k y) : x = y := vec_inj (Value.int k) (fun a b e => by injection e) h
theorem vwL_inj {x y : Vw} (h : vwL x = vwL y) : x = y := by
  unfold vwL vrL at h
  have h1 := List.append_inj h (by simp [boL_len, nuL_len])
  have h2 := List.append_inj h1.1 (by simp [boL_len])
  have h3 := List.append_inj h2.2 (by simp [nuL_len])
  have h4 := List.append_inj h3.2 (by simp [nuL_len])
  have h5 := List.append_inj h4.2 (by simp [nuL_len])
  obtain ⟨a, b, c, d, e, f, g⟩ := x
  obtain ⟨a', b', c', d', e', f', g'⟩ := y
  have e1 := boL_inj h2.1
  have e2 := nuL_inj h3.1
  have e3 := nuL_inj h4.1
  have e4 := nuL_inj h5.1
  have e5 := boL_inj h5.2
  have e6 := h1.2
  simp only [List.cons.injEq, Value.int.injEq, true_and, and_true] at e6
  simp only at e1 e2 e3 e4 e5
  subst e1 e2 e3 e4 e5
  rw [e6.1, e6.2]
theorem ceL_inj {x y : Ce} (h : ceL x = ceL y) : x = y := by
  obtain ⟨a, ⟨o1, o2, o3, o4, o5, o6⟩, ⟨r1, r2, r3, r4, r5, r6⟩, v⟩ := x
  obtain ⟨a', ⟨p1, p2, p3, p4, p5, p6⟩, ⟨s1, s2, s3, s4, s5, s6⟩, v'⟩ := y
  simp only [ceL, saL, List.cons_append, List.nil_append, List.cons.injEq, Value.int.injEq, Value.bool.injEq, true_and] at h
  obtain ⟨h0, h1, h2, h3, h4, h5, h6, h7, h8, h9, h10, h11, h12, h13⟩ := h
  have := vwL_inj h13
  subst h0 h1 h2 h3 h4 h5 h6 h7 h8 h9 h10 h11 h12 this
  rfl
def kyC (c : Ce) : Value := .agg (ceL c).toArray
theorem kyC_inj {c d : Ce} (h : kyC c = kyC d) : c = d := by
  unfold kyC at h
  injection h with h
  exact ceL_inj (by simpa using h)
/-- What a list of cells with their counts has of a cell. -/
def look : List (Ce × Nat) → Ce → Nat
  | [], _ => 0
  | p :: r, c => if ceE p.1 c = true then p.2 else look r c
def touch : List (Ce × Nat) → Ce → List (Ce × Nat)
  | [], c => [(c, 0)]
  | p :: r, c => if ceE p.1 c = true then p :: r else p :: touch r c
def incC : List (Ce × Nat) → Ce → List (Ce × Nat)
  | [], c => [(c, 1)]
  | p :: r, c => if ceE p.1 c = true then (c, p.2 + 1) :: r else p :: incC r c
def posC : List (Ce × Nat) → Ce → Nat
  | [], _ => 0
  | p :: r, c => if ceE p.1 c = true then 0 else posC r c + 1
theorem look_inc (l : List (Ce × Nat)) (c d : Ce) : look (incC l c) d = if ceE c d = true then look l c + 1 else look l d := by
  induction l with
  | nil => simp [incC, look]
  | cons p r ih =>
    by_cases hp : ceE p.1 c = true
    · have e := (ceE_iff _ _).1 hp
      simp only [incC, hp, if_true, look]
      by_cases hd : ceE c d = true
      · simp [hd]
      · simp [hd, e]
    · rw [show incC (p :: r) c = p :: incC r c by simp [incC, hp], show look (p :: incC r c) d = if ceE p.1 d = true then p.2 else look (incC r c) d from rfl, show look (p :: r) d = if ceE p.1 d = true then p.2 else look r d from rfl, show look (p :: r) c = look r c by simp [look, hp], ih]
      by_cases hd : ceE c d = true
      · have e := (ceE_iff _ _).1 hd
        have hpd : ¬ ceE p.1 d = true := by rw [← e]; exact hp
        simp [hd, hpd]
      · simp [hd]
theorem look_touch (l : List (Ce × Nat)) (c d : Ce) : look (touch l c) d = look l d := by
  induction l with
  | nil => simp [touch, look]
  | cons p r ih =>
    by_cases hp : ceE p.1 c = true
    · simp only [touch, hp, if_true]
    · rw [show touch (p :: r) c = p :: touch r c by simp [touch, hp], show look (p :: touch r c) d = if ceE p.1 d = true then p.2 else look (touch r c) d from rfl, ih]; rfl
theorem touch_at (l : List (Ce × Nat)) (c : Ce) : (touch l c)[posC l c]? = some (c, look l c) := by
  induction l with
  | nil => rfl
  | cons p r ih =>
    by_cases hp : ceE p.1 c = true
    · have e := (ceE_iff _ _).1 hp
      simp only [touch, posC, look, hp, if_true, List.getElem?_cons_zero]
      rw [← e]
    · simp only [touch, posC, look, hp, if_false, List.getElem?_cons_succ]
      simpa using ih
theorem touch_set (l : List (Ce × Nat)) (c : Ce) : (touch l c).set (posC l c) (c, look l c + 1) = incC l c := by
  induction l with
  | nil => rfl
  | cons p r ih =>
    by_cases hp : ceE p.1 c = true
    · simp [touch, posC, look, incC, hp]
    · simp only [touch, posC, look, incC, hp, if_false, List.set_cons_succ]
      simp [ih]
theorem touch_no {l : List (Ce × Nat)} {c : Ce} (h : ∀ p ∈ l, p.1 ≠ c) : touch l c = l ++ [(c, 0)] ∧ posC l c = l.length ∧ look l c = 0 := by
  induction l with
  | nil => exact ⟨rfl, rfl, rfl⟩
  | cons p r ih =>
    have hp : ¬ ceE p.1 c = true := fun e => h p (by simp) ((ceE_iff _ _).1 e)
    obtain ⟨h1, h2, h3⟩ := ih fun q hq => h q (by simp [hq])
    simp [touch, posC, look, hp, h1, h2, h3]
theorem touch_yes {l : List (Ce × Nat)} {c : Ce} (h : ∃ p ∈ l, p.1 = c) : touch l c = l ∧ posC l c < l.length := by
  induction l with
  | nil => obtain ⟨p, hp, _⟩ := h; cases hp
  | cons p r ih =>
    by_cases hp : ceE p.1 c = true
    · simp [touch, posC, hp]
    · have hr : ∃ q ∈ r, q.1 = c := by
        obtain ⟨q, hq, e⟩ := h
        rcases List.mem_cons.1 hq with rfl | hq
        · exact absurd ((ceE_iff _ _).2 e) hp
        · exact ⟨q, hq, e⟩
      obtain ⟨h1, h2⟩ := ih hr
      simp [touch, posC, hp, h1, h2]
/-- Cells apart; such as may be keys. -/
def Dis (l : List (Ce × Nat)) : Prop := l.Pairwise (fun p q => p.1 ≠ q.1)
def AllW (l : List (Ce × Nat)) : Prop := ∀ p ∈ l, CeW p.1
theorem pos_uniq {l : List (Ce × Nat)} {c : Ce} (hd : Dis l) {j n : Nat} (h : l[j]? = some (c, n)) : posC l c = j ∧ look l c = n := by
  induction l generalizing j with
  | nil => simp at h
  | cons p r ih =>
    obtain ⟨h1, h2⟩ := List.pairwise_cons.1 hd
    cases j with
    | zero =>
      simp only [List.getElem?_cons_zero, Option.some.injEq] at h
      subst h
      simp [posC, look, ceE_refl]
    | succ j =>
      simp only [List.getElem?_cons_succ] at h
      have hm : (c, n) ∈ r := List.mem_of_getElem? h
      have hp : ¬ ceE p.1 c = true := fun e => h1 _ hm ((ceE_iff _ _).1 e)
      obtain ⟨q1, q2⟩ := ih h2 h
      simp [posC, look, hp, q1, q2]
theorem incC_keys (l : List (Ce × Nat)) (c : Ce) : (incC l c).map (·.1) = (touch l c).map (·.1) := by
  induction l with
  | nil => rfl
  | cons p r ih =>
    by_cases hp : ceE p.1 c = true
    · have e := (ceE_iff _ _).1 hp
      rw [show incC (p :: r) c = (c, p.2 + 1) :: r by simp [incC, hp], show touch (p :: r) c = p :: r by simp [touch, hp]]
      simp [e]
    · rw [show incC (p :: r) c = p :: incC r c by simp [incC, hp], show touch (p :: r) c = p :: touch r c by simp [touch, hp]]
      simp [ih]
theorem Dis.keys {l m : List (Ce × Nat)} (h : l.map (·.1) = m.map (·.1)) (hl : Dis m) : Dis l := by
  unfold Dis at hl ⊢
  have : (m.map (·.1)).Pairwise (· ≠ ·) := List.pairwise_map.2 hl
  rw [← h] at this
  exact List.pairwise_map.1 this
theorem AllW.keys {l m : List (Ce × Nat)} (h : l.map (·.1) = m.map (·.1)) (hl : AllW m) : AllW l := fun p hp => by
  have : p.1 ∈ m.map (·.1) := by rw [← h]; exact List.mem_map.2 ⟨p, hp, rfl⟩
  obtain ⟨q, hq, e⟩ := List.mem_map.1 this
  rw [← e]
  exact hl q hq
theorem touch_dis {l : List (Ce × Nat)} {c : Ce} (hd : Dis l) (hw : AllW l) (hc : CeW c) : Dis (touch l c) ∧ AllW (touch l c) := by
  by_cases h : ∃ p ∈ l, p.1 = c
  · rw [(touch_yes h).1]; exact ⟨hd, hw⟩
  · have h' : ∀ p ∈ l, p.1 ≠ c := fun p hp e => h ⟨p, hp, e⟩
    rw [(touch_no h').1]
    refine ⟨List.pairwise_append.2 ⟨hd, by simp, fun p hp q hq => ?_⟩, fun p hp => ?_⟩
    · rw [List.mem_singleton.1 hq]; exact h' p hp
    · rcases List.mem_append.1 hp with hp | hp
      · exact hw p hp
      · rw [List.mem_singleton.1 hp]; exact hc
theorem inc_dis {l : List (Ce × Nat)} {c : Ce} (hd : Dis l) (hw : AllW l) (hc : CeW c) : Dis (incC l c) ∧ AllW (incC l c) := by
  obtain ⟨h1, h2⟩ := touch_dis hd hw hc
  exact ⟨h1.keys (incC_keys l c), h2.keys (incC_keys l c)⟩
/-- The map's entries. -/
def entC (l : List (Ce × Nat)) : List MapEntry := l.zipIdx.map fun (p, i) => ⟨kyC p.1, .int .i64 (p.2 : Int), i⟩
theorem entC_at (l : List (Ce × Nat)) (j : Nat) : (entC l)[j]? = (l[j]?).map fun p => ⟨kyC p.1, .int .i64 (p.2 : Int), j⟩ := by
  simp only [entC, List.getElem?_map, List.getElem?_zipIdx, Option.map_map, Nat.zero_add]
  cases l[j]? <;> rfl
theorem entC_len (l : List (Ce × Nat)) : (entC l).length = l.length := by simp [entC]
theorem entC_snoc (l : List (Ce × Nat)) (p : Ce × Nat) : entC (l ++ [p]) = entC l ++ [⟨kyC p.1, .int .i64 (p.2 : Int), l.length⟩] := by
  simp [entC, List.zipIdx_append]
theorem entC_mem {l : List (Ce × Nat)} {e : MapEntry} (h : e ∈ entC l) : ∃ p ∈ l, e.key = kyC p.1 := by
  obtain ⟨j, hj⟩ := List.getElem?_of_mem h
  rw [entC_at] at hj
  cases hl : l[j]? with
  | none => rw [hl] at hj; cases hj
  | some p => rw [hl] at hj; simp only [Option.map_some, Option.some.injEq] at hj; exact ⟨p, List.mem_of_getElem? hl, by rw [← hj]⟩
theorem entC_set (l : List (Ce × Nat)) (j : Nat) (c : Ce) (n m : Nat) (h : l[j]? = some (c, n)) : (entC l).modify j (fun e => { e with val := .int .i64 (m : Int) }) = entC (l.set j (c, m)) := by
  apply List.ext_getElem?
  intro i
  rw [List.getElem?_modify, entC_at, entC_at, List.getElem?_set]
  have hj : j < l.length := (List.getElem?_eq_some_iff.1 h).1
  by_cases e : j = i
  · subst e
    have hq : l[j].1 = c := by rw [(List.getElem?_eq_some_iff.1 h).2]
    simp [hj]
    exact congrArg kyC hq
  · simp [e]
/-- The block g is just this map. -/
structure MapC (w : World) (g : Nat) (l : List (Ce × Nat)) : Prop where
  h : w.heap[g]? = some (.map (entC l).toArray l.length)
  d : Dis l
  w : AllW l
section
variable {w w' : World} {g : Nat} {l : List (Ce × Nat)} {c : Ce}
theorem MapC.lt (h : MapC w g l) : g < w.heap.size := (Array.getElem?_eq_some_iff.1 h.h).1
theorem MapC.on (h : MapC w g l) (hb : Below w.heap.size w w') : MapC w' g l := ⟨(hb.block g h.lt).trans h.h, h.d, h.w⟩
theorem MapC.but {x : Nat} (h : MapC w g l) (hb : But x w w') (hx : g ≠ x) : MapC w' g l := ⟨(hb.2 g h.lt hx).trans h.h, h.d, h.w⟩
theorem MapC.new (w : World) : MapC (w.alloc (.map #[] 0)) w.heap.size [] := ⟨(MapKept.heap_alloc w (.map #[] 0)).1, List.Pairwise.nil, fun p hp => by cases hp⟩
theorem keysC (hw : AllW l) : ∀ e ∈ entC l, ∃ k, keyOf Try.prog 51 e.key = some k := by
  intro e he
  obtain ⟨p, hp, hk⟩ := entC_mem he
  rw [hk]
  exact keyOf_cell (hw p hp)
/-- Where a cell's entry is, by the program's search. -/
theorem find_cell (h : MapC w g l) (hc : CeW c) : ((Instr.findKey 51 (kyC c) (entC l)).run Try.prog w = .ok none w ∧ ∀ p ∈ l, p.1 ≠ c) ∨ ((Instr.findKey 51 (kyC c) (entC l)).run Try.prog w = .ok (some (posC l c, .int .i64 (look l c : Int))) w ∧ (∃ p ∈ l, p.1 = c)) := by
  obtain ⟨kl, hk⟩ : ∃ kl, keyOf Try.prog 51 (kyC c) = some kl := keyOf_cell hc
  rcases keyC.find w hk (entC l) (keysC h.w) with ⟨h1, h2⟩ | ⟨j, e, h1, h2, h3⟩
  · refine .inl ⟨h1, fun p hp e => ?_⟩
    obtain ⟨j, hj⟩ := List.getElem?_of_mem hp
    have := entC_at l j
    rw [hj] at this
    exact h2 _ (List.mem_of_getElem? this) (by rw [← e])
  · rw [entC_at] at h2
    cases hl : l[j]? with
    | none => rw [hl] at h2; cases h2
    | some p =>
      rw [hl] at h2
      simp only [Option.map_some, Option.some.injEq] at h2
      subst h2
      have e : p.1 = c := kyC_inj h3
      obtain ⟨q1, q2⟩ := pos_uniq (c := c) (n := p.2) h.d (by rw [hl, ← e])
      refine .inr ⟨?_, p, List.mem_of_getElem? hl, e⟩
      rw [q1, q2]
      exact h1
set_option maxRecDepth 100000 in
theorem zeroInt (w : World) : (zeroValue 3).run Try.prog w = .ok (.int .i64 0) w := by kernel_rfl
/-- A look-up gives the count. -/
theorem look_cell (h : MapC w g l) (hc : CeW c) : (Instr.lookup 168 (.map (some g)) (kyC c) false).run Try.prog w = .ok (.int .i64 (look l c : Int)) w := by
  obtain ⟨kl, hk⟩ : ∃ kl, keyOf Try.prog 51 (kyC c) = some kl := keyOf_cell hc
  have hz := zeroInt w
  rcases find_cell h hc with ⟨h1, h2⟩ | ⟨h1, _⟩
  · rw [(touch_no h2).2.2]
    simp [Instr.lookup, run_underlying Try.underlying168, MapKept.run_getObj_map h.h, keyC.check w _ hk, h1, hz, Result.andThen]
  · simp [Instr.lookup, run_underlying Try.underlying168, MapKept.run_getObj_map h.h, keyC.check w _ hk, h1, Result.andThen]
/-- The world with the map's block another one. -/
def setMap (w : World) (g : Nat) (l : List (Ce × Nat)) : World := { w with heap := w.heap.setIfInBounds g (.map (entC l).toArray l.length) }
theorem setMap_but (w : World) (g : Nat) (l : List (Ce × Nat)) : But g w (setMap w g l) :=
  ⟨⟨rfl, rfl, rfl, by simp [setMap], fun x hx => Array.getElem?_setIfInBounds_ne (by omega)⟩, fun x _ hx => Array.getElem?_setIfInBounds_ne (fun e => hx e.symm)⟩
theorem setMap_is (h : g < w.heap.size) (hd : Dis l) (hw : AllW l) : MapC (setMap w g l) g l := ⟨by show (w.heap.setIfInBounds g _)[g]? = _; rw [Array.getElem?_setIfInBounds_self_of_lt h], hd, hw⟩
theorem born_at {l : List (Ce × Nat)} {j : Nat} (h : j < l.length) : (entC l).toArray.findIdx? (fun e => ((e.born : Nat) : Int) == ((j : Nat) : Int)) = some j := by
  rw [WideElems.findIdx_arr]
  have he := entC_at l j
  rw [List.getElem?_eq_getElem h] at he
  have := WideElems.findIdx_born (l := (entC l).toArray.toList) (j := j) (by
    have : ((entC l).toArray.toList).map (·.born) = List.range l.length := by
      apply List.ext_getElem?
      intro i
      rw [List.getElem?_map, show (entC l).toArray.toList = entC l from rfl, entC_at]
      by_cases hi : i < l.length
      · simp [hi]
      · simp [hi]
    rw [this]
    exact List.nodup_range) he
  exact this
/-- An entry's birth. -/
theorem entry_cell (h : MapC w g l) (hc : CeW c) : (Instr.mapEntry 168 (.map (some g)) (kyC c)).run Try.prog w = .ok (.tuple #[.int .i64 (look l c : Int), .int .i64 (posC l c : Int)]) (setMap w g (touch l c)) := by
  obtain ⟨kl, hk⟩ : ∃ kl, keyOf Try.prog 51 (kyC c) = some kl := keyOf_cell hc
  have hz := zeroInt w
  rcases find_cell h hc with ⟨h1, h2⟩ | ⟨h1, h2⟩
  · obtain ⟨q1, q2, q3⟩ := touch_no h2
    rw [q1, q2, q3]
    unfold setMap
    rw [entC_snoc]
    simp [Instr.mapEntry, run_underlying Try.underlying168, MapKept.run_getObj_map h.h, keyC.check w false hk, h1, hz, MapKept.run_setObj_map _ h.h, Result.andThen, entC_len, goInt]
  · obtain ⟨q1, q2⟩ := touch_yes h2
    have hat := touch_at l c
    rw [q1] at hat ⊢
    have he : (entC l)[posC l c]? = some ⟨kyC c, .int .i64 (look l c : Int), posC l c⟩ := by
      rw [entC_at, hat]; rfl
    have hsame : (entC l).modify (posC l c) (fun e => { e with key := kyC c }) = entC l := by
      apply List.ext_getElem?
      intro i
      rw [List.getElem?_modify]
      by_cases e : posC l c = i
      · subst e
        rw [entC_at, hat]; simp
      · simp [e]
    unfold setMap
    simp [Instr.mapEntry, run_underlying Try.underlying168, MapKept.run_getObj_map h.h, keyC.check w false hk, h1, he, keyC.stays w hk, hsame, MapKept.run_setObj_map _ h.h, Result.andThen, goInt]
/-- .. and its store. -/
theorem store_cell (h : MapC w g (touch l c)) : (Instr.entryStore 168 (.map (some g)) (.int .i64 (posC l c : Int)) (.int .i64 ((look l c + 1 : Nat) : Int))).run Try.prog w = .ok () (setMap w g (incC l c)) := by
  have hat := touch_at l c
  have hidx := born_at (l := touch l c) (j := posC l c) (List.getElem?_eq_some_iff.1 hat).1
  have hmod : (entC (touch l c)).toArray.modify (posC l c) (fun e => { e with val := .int .i64 ((look l c + 1 : Nat) : Int) }) = (entC (incC l c)).toArray := by
    apply Array.ext'
    rw [Array.toList_modify]
    show (entC (touch l c)).modify _ _ = entC (incC l c)
    rw [entC_set _ _ _ _ _ hat, touch_set]
  have hlen : (touch l c).length = (incC l c).length := by
    have := congrArg List.length (incC_keys l c)
    simpa using this.symm
  unfold setMap
  rw [← hmod, ← hlen]
  simp [Instr.entryStore, MapKept.run_getObj_map h.h, asInt, asIntOf, hidx, MapKept.run_setObj_map _ h.h, Result.andThen]
end
end Go.Proofs.Ytdbljggjddnjcaa

