/-
  Package words: how a value of many cells lies inside a block; the contracts of the small functions, and of those that mend a cell's parts in place. Conditions: the cells' reading.
-/
import Derived.Test.YtmmgbhdjjejacaaWdM
import Derived.Test.YtmmgbhdjjejacaaLst
import Derived.Test.YtmmgbhdjjejacaaMid
namespace Go.Proofs.Ytmmgbhdjjejacaa
open Go.RowKit
set_option linter.unusedVariables false

/-- The cells L inside a block: A ahead of them, Z behind. -/
structure PIn (w : World) (g O : Nat) (T : TypeId) (A Z L : List Value) : Prop where
  blk : Blk w g T (A ++ (L ++ Z)).toArray
  len : A.length = O
section
variable {w w' : World} {g O : Nat} {T : TypeId} {A Z L : List Value}
theorem PIn.cell (h : PIn w g O T A Z L) (i : Nat) (hi : i < L.length) : w.cell? ⟨g, O + i, none⟩ = L[i]? := by
  rw [h.blk.cell, List.getElem?_toArray, List.getElem?_append_right (by rw [h.len]; omega), h.len, Nat.add_sub_cancel_left, List.getElem?_append_left hi]
theorem PIn.cell0 (h : PIn w g O T A Z L) (hi : 0 < L.length) : w.cell? ⟨g, O, none⟩ = L[0]? := h.cell 0 hi
theorem PIn.frozen (h : PIn w g O T A Z L) (i : Nat) : w.frozen? ⟨g, i, none⟩ = false := h.blk.frozen i
theorem PIn.lt (h : PIn w g O T A Z L) : g < w.heap.size := h.blk.lt
theorem PIn.on (h : PIn w g O T A Z L) (hb : Below w.heap.size w w') : PIn w' g O T A Z L := ⟨h.blk.on hb, h.len⟩
theorem PIn.but {x : Nat} (h : PIn w g O T A Z L) (hb : But x w w') (hx : g ≠ x) : PIn w' g O T A Z L := ⟨hb.blk h.blk hx, h.len⟩
theorem PIn.set_ (h : PIn w g O T A Z L) (i : Nat) (v : Value) (hi : i < L.length) : PIn (w.setCell ⟨g, O + i, none⟩ v) g O T A Z (L.set i v) := by
  refine ⟨?_, h.len⟩
  have := h.blk.set_ (O + i) v
  rw [List.setIfInBounds_toArray, List.set_append_right _ _ (by rw [h.len]; omega), h.len, Nat.add_sub_cancel_left, List.set_append_left _ _ hi] at this
  exact this
theorem PIn.set0 (h : PIn w g O T A Z L) (v : Value) (hi : 0 < L.length) : PIn (w.setCell ⟨g, O, none⟩ v) g O T A Z (L.set 0 v) := h.set_ 0 v hi
theorem PIn.put (h : PIn w g O T A Z L) (M : List Value) (hM : M.length = L.length) : PIn (w.setCells g O M) g O T A Z M ∧ But g w (w.setCells g O M) := by
  obtain ⟨h1, h2⟩ := setCells_heap M L A Z O g T w h.blk hM h.len
  exact ⟨⟨h1, h.len⟩, h2⟩
theorem PIn.part {P M S : List Value} {o : Nat} (h : PIn w g O T A Z (P ++ (M ++ S))) (ho : O + P.length = o) : PIn w g o T (A ++ P) (S ++ Z) M :=
  ⟨by have := h.blk; simpa only [List.append_assoc] using this, by rw [List.length_append, h.len]; exact ho⟩
theorem PIn.whole {P M S : List Value} {o : Nat} (h : PIn w g o T (A ++ P) (S ++ Z) M) (ho : O + P.length = o) : PIn w g O T A Z (P ++ (M ++ S)) :=
  ⟨by have := h.blk; simpa only [List.append_assoc] using this, by have := h.len; rw [List.length_append] at this; omega⟩
theorem PIn.range (h : PIn w g O T A Z L) : w.rangeAt g O L := range_of L A Z h.blk h.len
theorem PIn.cs (h : PIn w g O T A Z L) {M : List Value} (e : L = M) : PIn w g O T A Z M := e ▸ h
end

section
variable {P : Program} {ops : Array Oper} {rest : List Oper} {o : Oper} {a : Act} {w : World} {Q : Exit → Act → World → Prop} {g O : Nat} {T : TypeId} {A Z L : List Value}
/-- A value of many cells is loaded from inside a block, stored there. -/
theorem wpList_load_pin (hgd : o.guard = none) (ty : TypeId) (x : Operand) (ho : o.op = .load ty x) (h : PIn w g O T A Z L) (hx : a.eval x = .pointer (some ⟨g, O, none⟩)) (d : TypeDesc) (hu : P.underlying ty = some d) (hd : d.isRow = true) (n : Nat) (hi : (P.info? ty).map (·.size) = some n) (hn : L.length = n)
    (k : wpList P ops Q rest (a.put o.dst (.agg L.toArray)) w) : wpList P ops Q (o :: rest) a w :=
  wpList_load_mid hgd ty x ho g O hx L d h.range hu hd (hn ▸ hi) k
theorem wpList_store_pin (hgd : o.guard = none) (ty : TypeId) (x y : Operand) (ho : o.op = .store ty x y) (h : PIn w g O T A Z L) (M : List Value) (hx : a.eval x = .pointer (some ⟨g, O, none⟩)) (hy : a.eval y = .agg M.toArray) (n : Nat) (hi : (P.info? ty).map (·.size) = some n) (hn : L.length = n) (hm : M.length = n) (h1 : ∀ v ∈ M, v.oneCell' = true)
    (k : ∀ w', PIn w' g O T A Z M → But g w w' → wpList P ops Q rest (a.put o.dst undef) w') : wpList P ops Q (o :: rest) a w := by
  refine wpList_store_mid hgd ty x y ho g O M.toArray hx hy (fun j hj => ?_) (by rw [hi]; simp [hm]) (all_oneCell_toArray h1) ?_
  · have hj' : j < L.length := by simp at hj; omega
    exact ⟨by rw [h.cell j hj', List.getElem?_eq_getElem hj']; rfl, h.frozen _⟩
  · obtain ⟨p1, p2⟩ := h.put M (by omega)
    exact k _ p1 p2
end

theorem isTime_is (x : Int) (w : World) : Calls Try.prog 76 #[.int .i64 x] w fun e w' => e = .returned (.bool (tmB x)) ∧ w = w' := by
  by_cases h0 : 0 ≤ x <;> by_cases h1 : x ≤ 1099511627776
  all_goals
    have e0 : tmB x = (decide (0 ≤ x) && decide (x ≤ 1099511627776)) := rfl
    simp only [h0, h1, decide_true, decide_false, Bool.and_true, Bool.and_false] at e0
    have HE := Lib.hid e0
    clear e0
    go_enter Try.func76, Try.ntmps76
    go_wp2_with fail
    go_ret
    rw [HE.out]
    exact ⟨rfl, rfl⟩
theorem isNumber_is (x : Int) (w : World) : Calls Try.prog 50 #[.int .i64 x] w fun e w' => e = .returned (.bool (nmB x)) ∧ w = w' := by
  by_cases h0 : 0 ≤ x <;> by_cases h1 : x ≤ 16
  all_goals
    have e0 : nmB x = (decide (0 ≤ x) && decide (x ≤ 16)) := rfl
    simp only [h0, h1, decide_true, decide_false, Bool.and_true, Bool.and_false] at e0
    have HE := Lib.hid e0
    clear e0
    go_enter Try.func50, Try.ntmps50
    go_wp2_with fail
    go_ret
    rw [HE.out]
    exact ⟨rfl, rfl⟩

section
variable {w : World} {g O : Nat} {T : TypeId} {A Z : List Value}
set_option maxHeartbeats 1000000 in
theorem mendSaid_is (s : Sa) (h : PIn w g O T A Z (saL s)) :
    Calls Try.prog 78 #[.pointer (some ⟨g, O, none⟩)] w fun e w' => e = .returned (.tuple #[]) ∧ PIn w' g O T A Z (saL (plS s)) ∧ But g w w' := by
  have c0 : w.cell? ⟨g, O, none⟩ = some (.bool s.i) := h.cell0 (by simp [saL])
  have c1 : w.cell? ⟨g, O + 1, none⟩ = some (.int .i64 s.a) := h.cell 1 (by simp [saL])
  have c2 : w.cell? ⟨g, O + 2, none⟩ = some (.int .u8 s.k) := h.cell 2 (by simp [saL])
  have f0 := h.frozen O
  have f1 := h.frozen (O + 1)
  have f2 := h.frozen (O + 2)
  have f3 := h.frozen (O + 3)
  have f4 := h.frozen (O + 4)
  have f5 := h.frozen (O + 5)
  have c3 : w.cell? ⟨g, O + 3, none⟩ = some (.int .u8 s.s) := h.cell 3 (by simp [saL])
  have c4 : w.cell? ⟨g, O + 4, none⟩ = some (.int .u32 s.q) := h.cell 4 (by simp [saL])
  have c5 : w.cell? ⟨g, O + 5, none⟩ = some (.int .u32 s.v) := h.cell 5 (by simp [saL])
  have hlt := h.lt
  have HX := Lib.hid h
  have HS : Hid (plS s = if (s.i && (tmB s.a && (s.k == 1 || s.k == 2))) = true then s else saN) := Lib.hid rfl
  obtain ⟨i, a, k, s', q, v⟩ := s
  simp only at c0 c1 c2 c3 c4 c5 HS
  obtain ⟨t, ht⟩ : ∃ t, t = tmB a := ⟨_, rfl⟩
  rw [← ht] at HS
  have HT := Lib.hid ht.symm
  have hcall := fun W => isTime_is a W
  rw [← ht] at hcall
  have HC := Lib.hid hcall
  clear h ht hcall
  have HP : Hid (PIn ((((((w.setCell ⟨g, O, none⟩ (.bool false)).setCell ⟨g, O + 1, none⟩ (.int .i64 0)).setCell ⟨g, O + 2, none⟩ (.int .u8 0)).setCell ⟨g, O + 3, none⟩ (.int .u8 0)).setCell ⟨g, O + 4, none⟩ (.int .u32 0)).setCell ⟨g, O + 5, none⟩ (.int .u32 0)) g O T A Z (saL saN) ∧ But g w ((((((w.setCell ⟨g, O, none⟩ (.bool false)).setCell ⟨g, O + 1, none⟩ (.int .i64 0)).setCell ⟨g, O + 2, none⟩ (.int .u8 0)).setCell ⟨g, O + 3, none⟩ (.int .u8 0)).setCell ⟨g, O + 4, none⟩ (.int .u32 0)).setCell ⟨g, O + 5, none⟩ (.int .u32 0))) := Lib.hid (HX.out.put (saL saN) rfl)
  have HN : ∀ b : Bool, b = false → Hid (plS ⟨i, a, k, s', q, v⟩ = if b = true then ⟨i, a, k, s', q, v⟩ else saN) → plS ⟨i, a, k, s', q, v⟩ = saN := fun b hb H => by rw [H.out, hb]; rfl
  have HY : ∀ b : Bool, b = true → Hid (plS ⟨i, a, k, s', q, v⟩ = if b = true then ⟨i, a, k, s', q, v⟩ else saN) → plS ⟨i, a, k, s', q, v⟩ = ⟨i, a, k, s', q, v⟩ := fun b hb H => by rw [H.out, hb]; rfl
  have HN' := Lib.hid HN
  have HY' := Lib.hid HY
  clear HN HY
  by_cases k1 : k = 1
  · subst k1
    cases i <;> cases t
    iterate 3
      · go_enter Try.func78, Try.ntmps78
        go_wp2_with (go_at_call 76; (with_reducible refine (HC.out _).mono ?_); rintro e w1 ⟨rfl, rfl⟩)
        go_end0
        rw [HN'.out _ (by rfl) HS]
        exact ⟨rfl, HP.out.1, HP.out.2⟩
    · go_enter Try.func78, Try.ntmps78
      go_wp2_with (go_at_call 76; (with_reducible refine (HC.out _).mono ?_); rintro e w1 ⟨rfl, rfl⟩)
      go_end0
      rw [HY'.out _ (by rfl) HS]
      exact ⟨rfl, HX.out, But.refl _ _⟩
  by_cases k2 : k = 2
  · subst k2
    cases i <;> cases t
    iterate 3
      · go_enter Try.func78, Try.ntmps78
        go_wp2_with (go_at_call 76; (with_reducible refine (HC.out _).mono ?_); rintro e w1 ⟨rfl, rfl⟩)
        go_end0
        rw [HN'.out _ (by rfl) HS]
        exact ⟨rfl, HP.out.1, HP.out.2⟩
    · go_enter Try.func78, Try.ntmps78
      go_wp2_with (go_at_call 76; (with_reducible refine (HC.out _).mono ?_); rintro e w1 ⟨rfl, rfl⟩)
      go_end0
      rw [HY'.out _ (by rfl) HS]
      exact ⟨rfl, HX.out, But.refl _ _⟩
  have e1 : (k == 1) = false := by simpa using k1
  have e2 : (k == 2) = false := by simpa using k2
  have n1 : (k != 1) = true := by simpa using k1
  have n2 : (k != 2) = true := by simpa using k2
  have HF : Hid ((i && (t && (k == 1 || k == 2))) = false) := Lib.hid (by rw [e1, e2, Bool.or_false, Bool.and_false, Bool.and_false])
  clear k1 k2
  cases i <;> cases t
  all_goals
    go_enter Try.func78, Try.ntmps78
    go_wp2_with (go_at_call 76; (with_reducible refine (HC.out _).mono ?_); rintro e w1 ⟨rfl, rfl⟩)
    go_end0
    rw [HN'.out _ HF.out HS]
    exact ⟨rfl, HP.out.1, HP.out.2⟩
theorem vw_c (v : Vw) : (vwL v)[40]? = some (.int .i8 v.c) := by
  unfold vwL; rw [List.getElem?_append_right (by rw [vrL_len]; omega), vrL_len]; rfl
theorem vw_d (v : Vw) : (vwL v)[41]? = some (.int .u8 v.d) := by
  unfold vwL; rw [List.getElem?_append_right (by rw [vrL_len]; omega), vrL_len]; rfl
theorem vw_setC (v : Vw) (x : Int) : (vwL v).set 40 (.int .i8 x) = vwL { v with c := x } := by
  have e : vrL v = vrL { v with c := x } := rfl
  unfold vwL; rw [List.set_append_right _ _ (by rw [vrL_len]; omega), vrL_len, e]; rfl
theorem vw_setD (v : Vw) (x : Int) : (vwL v).set 41 (.int .u8 x) = vwL { v with d := x } := by
  have e : vrL v = vrL { v with d := x } := rfl
  unfold vwL; rw [List.set_append_right _ _ (by rw [vrL_len]; omega), vrL_len, e]; rfl
theorem mendView_is (v : Vw) (h : PIn w g O T A Z (vwL v)) :
    Calls Try.prog 81 #[.pointer (some ⟨g, O, none⟩)] w fun e w' => e = .returned (.tuple #[]) ∧ PIn w' g O T A Z (vwL (plV v)) ∧ But g w w' := by
  have c0 : w.cell? ⟨g, O + 40, none⟩ = some (.int .i8 v.c) := (h.cell 40 (by simp [vwL_len])).trans (vw_c v)
  have c1 : w.cell? ⟨g, O + 41, none⟩ = some (.int .u8 v.d) := (h.cell 41 (by simp [vwL_len])).trans (vw_d v)
  have f0 := h.frozen (O + 40)
  have f1 := h.frozen (O + 41)
  have hlt := h.lt
  have c1' : (w.setCell ⟨g, O + 40, none⟩ (.int .i8 (-1))).cell? ⟨g, O + 41, none⟩ = some (.int .u8 v.d) := ((h.set_ 40 (.int .i8 (-1)) (by simp [vwL_len])).cell 41 (by simp [vwL_len])).trans (by rw [vw_setC]; exact vw_d _)
  have HA := Lib.hid (h.set_ 40 (.int .i8 (-1)) (by simp [vwL_len]))
  have HB := Lib.hid (h.set_ 41 (.int .u8 0) (by simp [vwL_len]))
  have HAB := Lib.hid ((h.set_ 40 (.int .i8 (-1)) (by simp [vwL_len])).set_ 41 (.int .u8 0) (by simp [vwL_len]))
  rw [vw_setC] at HA HAB
  rw [vw_setD] at HB HAB
  have HX := Lib.hid h
  have HS : Hid (plV v = { v with c := plC1 v.c, d := plD1 v.d }) := Lib.hid rfl
  obtain ⟨x, hx⟩ : ∃ x, x = v.c := ⟨_, rfl⟩
  obtain ⟨y, hy⟩ : ∃ y, y = v.d := ⟨_, rfl⟩
  have hxy : v = { v with c := x, d := y } := by rw [hx, hy]
  have HXY := Lib.hid hxy
  rw [← hx] at c0 HS
  rw [← hy] at c1 c1' HS
  clear h hxy hx hy
  have key : ∀ (p q : Int), plC1 x = p → plD1 y = q → plV v = { v with c := p, d := q } := fun p q e1 e2 => by rw [HS.out, e1, e2]
  have HK := Lib.hid key
  clear key
  have f1' : (w.setCell ⟨g, O + 40, none⟩ (.int .i8 (-1))).frozen? ⟨g, O + 41, none⟩ = false := HA.out.frozen _
  by_cases h0 : x < 0
  · have p1 : plC1 x = -1 := by unfold plC1; simp [h0]
    have HP1 := Lib.hid p1
    clear p1
    by_cases h1 : 7 < y
    all_goals
      go_enter Try.func81, Try.ntmps81
      go_wp2_with fail
      go_end0
    · rw [HK.out _ _ HP1.out (show plD1 y = 0 by unfold plD1; simp [h1])]
      exact ⟨rfl, HAB.out, ((But.refl _ _).set _ _).set _ _⟩
    · rw [HK.out _ _ HP1.out (show plD1 y = y by unfold plD1; rw [if_neg (by simp; omega)])]
      have e : ({ v with c := -1, d := y } : Vw) = { v with c := -1 } := by conv => rhs; rw [HXY.out]
      rw [e]
      exact ⟨rfl, HA.out, (But.refl _ _).set _ _⟩
  by_cases h8 : 8 ≤ x
  · have p1 : plC1 x = -1 := by unfold plC1; simp [h8]
    have HP1 := Lib.hid p1
    clear p1
    by_cases h1 : 7 < y
    all_goals
      go_enter Try.func81, Try.ntmps81
      go_wp2_with fail
      go_end0
    · rw [HK.out _ _ HP1.out (show plD1 y = 0 by unfold plD1; simp [h1])]
      exact ⟨rfl, HAB.out, ((But.refl _ _).set _ _).set _ _⟩
    · rw [HK.out _ _ HP1.out (show plD1 y = y by unfold plD1; rw [if_neg (by simp; omega)])]
      have e : ({ v with c := -1, d := y } : Vw) = { v with c := -1 } := by conv => rhs; rw [HXY.out]
      rw [e]
      exact ⟨rfl, HA.out, (But.refl _ _).set _ _⟩
  have p1 : plC1 x = x := by unfold plC1; simp [h0, h8]
  have HP1 := Lib.hid p1
  clear p1
  by_cases h1 : 7 < y
  all_goals
    go_enter Try.func81, Try.ntmps81
    go_wp2_with fail
    go_end0
  · rw [HK.out _ _ HP1.out (show plD1 y = 0 by unfold plD1; simp [h1])]
    have e : ({ v with c := x, d := 0 } : Vw) = { v with d := 0 } := by conv => rhs; rw [HXY.out]
    rw [e]
    exact ⟨rfl, HB.out, (But.refl _ _).set _ _⟩
  · rw [HK.out _ _ HP1.out (show plD1 y = y by unfold plD1; rw [if_neg (by simp; omega)]), ← HXY.out]
    exact ⟨rfl, HX.out, But.refl _ _⟩
end
end Go.Proofs.Ytmmgbhdjjejacaa

