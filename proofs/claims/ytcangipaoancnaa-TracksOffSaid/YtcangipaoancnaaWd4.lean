/-
  The contracts of package words' filled, of lists of what is held: as many as asked, from the list's beginning, each mended. Conditions: the list's reading, its length.
-/
import Derived.Test.YtcangipaoancnaaWdM
import Derived.Test.YtcangipaoancnaaLst
import Derived.Test.YtcangipaoancnaaMid
import Derived.Deep.Cut
import Derived.Deep.CutRange
import Derived.Laws.CopyOwn
namespace Go.Proofs.Ytcangipaoancnaa
open Go.RowKit
set_option linter.unusedVariables false

/-- The cells L inside a block: A ahead of them, Z behind. -/
structure PIn (w : World) (g O : Nat) (T : TypeId) (A Z L : List Value) : Prop where
  blk : Blk w g T (A ++ (L ++ Z)).toArray
  len : A.length = O
section
variable {w w' : World} {g O : Nat} {T : TypeId} {A Z L : List Value}
theorem PIn.cell (h : PIn w g O T A Z L) (i : Nat) (hi : i < L.length) : w.cell? ⟨g, O + i, none⟩ = L[i]? := by
  rw [h.blk.cell, List.getElem?_toArray, List.getElem?_append_right (by rw [h.len]; omega), h.len, Nat.add_sub_cancel_left, List.getElem?_append_left hi]
theorem PIn.cell0 (h : PIn w g O T A Z L) (hi : 0 < L.length) : w.cell? ⟨g, O, none⟩ = L[0]? := h.cell 0 hi
theorem PIn.frozen (h : PIn w g O T A Z L) (i : Nat) : w.frozen? ⟨g, i, none⟩ = false := h.blk.frozen i
theorem PIn.lt (h : PIn w g O T A Z L) : g < w.heap.size := h.blk.lt
theorem PIn.on (h : PIn w g O T A Z L) (hb : Below w.heap.size w w') : PIn w' g O T A Z L := ⟨h.blk.on hb, h.len⟩
theorem PIn.but {x : Nat} (h : PIn w g O T A Z L) (hb : But x w w') (hx : g ≠ x) : PIn w' g O T A Z L := ⟨hb.blk h.blk hx, h.len⟩
theorem PIn.set_ (h : PIn w g O T A Z L) (i : Nat) (v : Value) (hi : i < L.length) : PIn (w.setCell ⟨g, O + i, none⟩ v) g O T A Z (L.set i v) := by
  refine ⟨?_, h.len⟩
  have := h.blk.set_ (O + i) v
  rw [List.setIfInBounds_toArray, List.set_append_right _ _ (by rw [h.len]; omega), h.len, Nat.add_sub_cancel_left, List.set_append_left _ _ hi] at this
  exact this
theorem PIn.set0 (h : PIn w g O T A Z L) (v : Value) (hi : 0 < L.length) : PIn (w.setCell ⟨g, O, none⟩ v) g O T A Z (L.set 0 v) := h.set_ 0 v hi
theorem PIn.put (h : PIn w g O T A Z L) (M : List Value) (hM : M.length = L.length) : PIn (w.setCells g O M) g O T A Z M ∧ But g w (w.setCells g O M) := by
  obtain ⟨h1, h2⟩ := setCells_heap M L A Z O g T w h.blk hM h.len
  exact ⟨⟨h1, h.len⟩, h2⟩
theorem PIn.part {P M S : List Value} {o : Nat} (h : PIn w g O T A Z (P ++ (M ++ S))) (ho : O + P.length = o) : PIn w g o T (A ++ P) (S ++ Z) M :=
  ⟨by have := h.blk; simpa only [List.append_assoc] using this, by rw [List.length_append, h.len]; exact ho⟩
theorem PIn.whole {P M S : List Value} {o : Nat} (h : PIn w g o T (A ++ P) (S ++ Z) M) (ho : O + P.length = o) : PIn w g O T A Z (P ++ (M ++ S)) :=
  ⟨by have := h.blk; simpa only [List.append_assoc] using this, by have := h.len; rw [List.length_append] at this; omega⟩
theorem PIn.range (h : PIn w g O T A Z L) : w.rangeAt g O L := range_of L A Z h.blk h.len
theorem PIn.cs (h : PIn w g O T A Z L) {M : List Value} (e : L = M) : PIn w g O T A Z M := e ▸ h
end

section
variable {P : Program} {ops : Array Oper} {rest : List Oper} {o : Oper} {a : Act} {w : World} {Q : Exit → Act → World → Prop} {g O : Nat} {T : TypeId} {A Z L : List Value}
/-- A value of many cells is loaded from inside a block, stored there. -/
theorem wpList_load_pin (hgd : o.guard = none) (ty : TypeId) (x : Operand) (ho : o.op = .load ty x) (h : PIn w g O T A Z L) (hx : a.eval x = .pointer (some ⟨g, O, none⟩)) (d : TypeDesc) (hu : P.underlying ty = some d) (hd : d.isRow = true) (n : Nat) (hi : (P.info? ty).map (·.size) = some n) (hn : L.length = n)
    (k : wpList P ops Q rest (a.put o.dst (.agg L.toArray)) w) : wpList P ops Q (o :: rest) a w :=
  wpList_load_mid hgd ty x ho g O hx L d h.range hu hd (hn ▸ hi) k
theorem wpList_store_pin (hgd : o.guard = none) (ty : TypeId) (x y : Operand) (ho : o.op = .store ty x y) (h : PIn w g O T A Z L) (M : List Value) (hx : a.eval x = .pointer (some ⟨g, O, none⟩)) (hy : a.eval y = .agg M.toArray) (n : Nat) (hi : (P.info? ty).map (·.size) = some n) (hn : L.length = n) (hm : M.length = n) (h1 : ∀ v ∈ M, v.oneCell' = true)
    (k : ∀ w', PIn w' g O T A Z M → But g w w' → wpList P ops Q rest (a.put o.dst undef) w') : wpList P ops Q (o :: rest) a w := by
  refine wpList_store_mid hgd ty x y ho g O M.toArray hx hy (fun j hj => ?_) (by rw [hi]; simp [hm]) (all_oneCell_toArray h1) ?_
  · have hj' : j < L.length := by simp at hj; omega
    exact ⟨by rw [h.cell j hj', List.getElem?_eq_getElem hj']; rfl, h.frozen _⟩
  · obtain ⟨p1, p2⟩ := h.put M (by omega)
    exact k _ p1 p2
end

theorem isTime_is (x : Int) (w : World) : Calls Try.prog 104 #[.int .i64 x] w fun e w' => e = .returned (.bool (tmB x)) ∧ w = w' := by
  by_cases h0 : 0 ≤ x <;> by_cases h1 : x ≤ 1099511627776
  all_goals
    have e0 : tmB x = (decide (0 ≤ x) && decide (x ≤ 1099511627776)) := rfl
    simp only [h0, h1, decide_true, decide_false, Bool.and_true, Bool.and_false] at e0
    have HE := Lib.hid e0
    clear e0
    go_enter Try.func104, Try.ntmps104
    go_wp2_with fail
    go_ret
    rw [HE.out]
    exact ⟨rfl, rfl⟩
theorem isNumber_is (x : Int) (w : World) : Calls Try.prog 81 #[.int .i64 x] w fun e w' => e = .returned (.bool (nmB x)) ∧ w = w' := by
  by_cases h0 : 0 ≤ x <;> by_cases h1 : x ≤ 16
  all_goals
    have e0 : nmB x = (decide (0 ≤ x) && decide (x ≤ 16)) := rfl
    simp only [h0, h1, decide_true, decide_false, Bool.and_true, Bool.and_false] at e0
    have HE := Lib.hid e0
    clear e0
    go_enter Try.func81, Try.ntmps81
    go_wp2_with fail
    go_ret
    rw [HE.out]
    exact ⟨rfl, rfl⟩

section
variable {w : World} {g O : Nat} {T : TypeId} {A Z : List Value}
set_option maxHeartbeats 1000000 in
theorem mendSaid_is (s : Sa) (h : PIn w g O T A Z (saL s)) :
    Calls Try.prog 106 #[.pointer (some ⟨g, O, none⟩)] w fun e w' => e = .returned (.tuple #[]) ∧ PIn w' g O T A Z (saL (plS s)) ∧ But g w w' := by
  have c0 : w.cell? ⟨g, O, none⟩ = some (.bool s.i) := h.cell0 (by simp [saL])
  have c1 : w.cell? ⟨g, O + 1, none⟩ = some (.int .i64 s.a) := h.cell 1 (by simp [saL])
  have c2 : w.cell? ⟨g, O + 2, none⟩ = some (.int .u8 s.k) := h.cell 2 (by simp [saL])
  have f0 := h.frozen O
  have f1 := h.frozen (O + 1)
  have f2 := h.frozen (O + 2)
  have f3 := h.frozen (O + 3)
  have f4 := h.frozen (O + 4)
  have f5 := h.frozen (O + 5)
  have c3 : w.cell? ⟨g, O + 3, none⟩ = some (.int .u8 s.s) := h.cell 3 (by simp [saL])
  have c4 : w.cell? ⟨g, O + 4, none⟩ = some (.int .u32 s.q) := h.cell 4 (by simp [saL])
  have c5 : w.cell? ⟨g, O + 5, none⟩ = some (.int .u32 s.v) := h.cell 5 (by simp [saL])
  have hlt := h.lt
  have HX := Lib.hid h
  have HS : Hid (plS s = if (s.i && (tmB s.a && (s.k == 1 || s.k == 2))) = true then s else saN) := Lib.hid rfl
  obtain ⟨i, a, k, s', q, v⟩ := s
  simp only at c0 c1 c2 c3 c4 c5 HS
  obtain ⟨t, ht⟩ : ∃ t, t = tmB a := ⟨_, rfl⟩
  rw [← ht] at HS
  have HT := Lib.hid ht.symm
  have hcall := fun W => isTime_is a W
  rw [← ht] at hcall
  have HC := Lib.hid hcall
  clear h ht hcall
  have HP : Hid (PIn ((((((w.setCell ⟨g, O, none⟩ (.bool false)).setCell ⟨g, O + 1, none⟩ (.int .i64 0)).setCell ⟨g, O + 2, none⟩ (.int .u8 0)).setCell ⟨g, O + 3, none⟩ (.int .u8 0)).setCell ⟨g, O + 4, none⟩ (.int .u32 0)).setCell ⟨g, O + 5, none⟩ (.int .u32 0)) g O T A Z (saL saN) ∧ But g w ((((((w.setCell ⟨g, O, none⟩ (.bool false)).setCell ⟨g, O + 1, none⟩ (.int .i64 0)).setCell ⟨g, O + 2, none⟩ (.int .u8 0)).setCell ⟨g, O + 3, none⟩ (.int .u8 0)).setCell ⟨g, O + 4, none⟩ (.int .u32 0)).setCell ⟨g, O + 5, none⟩ (.int .u32 0))) := Lib.hid (HX.out.put (saL saN) rfl)
  have HN : ∀ b : Bool, b = false → Hid (plS ⟨i, a, k, s', q, v⟩ = if b = true then ⟨i, a, k, s', q, v⟩ else saN) → plS ⟨i, a, k, s', q, v⟩ = saN := fun b hb H => by rw [H.out, hb]; rfl
  have HY : ∀ b : Bool, b = true → Hid (plS ⟨i, a, k, s', q, v⟩ = if b = true then ⟨i, a, k, s', q, v⟩ else saN) → plS ⟨i, a, k, s', q, v⟩ = ⟨i, a, k, s', q, v⟩ := fun b hb H => by rw [H.out, hb]; rfl
  have HN' := Lib.hid HN
  have HY' := Lib.hid HY
  clear HN HY
  by_cases k1 : k = 1
  · subst k1
    cases i <;> cases t
    iterate 3
      · go_enter Try.func106, Try.ntmps106
        go_wp2_with (go_at_call 104; (with_reducible refine (HC.out _).mono ?_); rintro e w1 ⟨rfl, rfl⟩)
        go_end0
        rw [HN'.out _ (by rfl) HS]
        exact ⟨rfl, HP.out.1, HP.out.2⟩
    · go_enter Try.func106, Try.ntmps106
      go_wp2_with (go_at_call 104; (with_reducible refine (HC.out _).mono ?_); rintro e w1 ⟨rfl, rfl⟩)
      go_end0
      rw [HY'.out _ (by rfl) HS]
      exact ⟨rfl, HX.out, But.refl _ _⟩
  by_cases k2 : k = 2
  · subst k2
    cases i <;> cases t
    iterate 3
      · go_enter Try.func106, Try.ntmps106
        go_wp2_with (go_at_call 104; (with_reducible refine (HC.out _).mono ?_); rintro e w1 ⟨rfl, rfl⟩)
        go_end0
        rw [HN'.out _ (by rfl) HS]
        exact ⟨rfl, HP.out.1, HP.out.2⟩
    · go_enter Try.func106, Try.ntmps106
      go_wp2_with (go_at_call 104; (with_reducible refine (HC.out _).mono ?_); rintro e w1 ⟨rfl, rfl⟩)
      go_end0
      rw [HY'.out _ (by rfl) HS]
      exact ⟨rfl, HX.out, But.refl _ _⟩
  have e1 : (k == 1) = false := by simpa using k1
  have e2 : (k == 2) = false := by simpa using k2
  have n1 : (k != 1) = true := by simpa using k1
  have n2 : (k != 2) = true := by simpa using k2
  have HF : Hid ((i && (t && (k == 1 || k == 2))) = false) := Lib.hid (by rw [e1, e2, Bool.or_false, Bool.and_false, Bool.and_false])
  clear k1 k2
  cases i <;> cases t
  all_goals
    go_enter Try.func106, Try.ntmps106
    go_wp2_with (go_at_call 104; (with_reducible refine (HC.out _).mono ?_); rintro e w1 ⟨rfl, rfl⟩)
    go_end0
    rw [HN'.out _ HF.out HS]
    exact ⟨rfl, HP.out.1, HP.out.2⟩
theorem vw_c (v : Vw) : (vwL v)[40]? = some (.int .i8 v.c) := by
  unfold vwL; rw [List.getElem?_append_right (by rw [vrL_len]; omega), vrL_len]; rfl
theorem vw_d (v : Vw) : (vwL v)[41]? = some (.int .u8 v.d) := by
  unfold vwL; rw [List.getElem?_append_right (by rw [vrL_len]; omega), vrL_len]; rfl
theorem vw_setC (v : Vw) (x : Int) : (vwL v).set 40 (.int .i8 x) = vwL { v with c := x } := by
  have e : vrL v = vrL { v with c := x } := rfl
  unfold vwL; rw [List.set_append_right _ _ (by rw [vrL_len]; omega), vrL_len, e]; rfl
theorem vw_setD (v : Vw) (x : Int) : (vwL v).set 41 (.int .u8 x) = vwL { v with d := x } := by
  have e : vrL v = vrL { v with d := x } := rfl
  unfold vwL; rw [List.set_append_right _ _ (by rw [vrL_len]; omega), vrL_len, e]; rfl
theorem mendView_is (v : Vw) (h : PIn w g O T A Z (vwL v)) :
    Calls Try.prog 109 #[.pointer (some ⟨g, O, none⟩)] w fun e w' => e = .returned (.tuple #[]) ∧ PIn w' g O T A Z (vwL (plV v)) ∧ But g w w' := by
  have c0 : w.cell? ⟨g, O + 40, none⟩ = some (.int .i8 v.c) := (h.cell 40 (by simp [vwL_len])).trans (vw_c v)
  have c1 : w.cell? ⟨g, O + 41, none⟩ = some (.int .u8 v.d) := (h.cell 41 (by simp [vwL_len])).trans (vw_d v)
  have f0 := h.frozen (O + 40)
  have f1 := h.frozen (O + 41)
  have hlt := h.lt
  have c1' : (w.setCell ⟨g, O + 40, none⟩ (.int .i8 (-1))).cell? ⟨g, O + 41, none⟩ = some (.int .u8 v.d) := ((h.set_ 40 (.int .i8 (-1)) (by simp [vwL_len])).cell 41 (by simp [vwL_len])).trans (by rw [vw_setC]; exact vw_d _)
  have HA := Lib.hid (h.set_ 40 (.int .i8 (-1)) (by simp [vwL_len]))
  have HB := Lib.hid (h.set_ 41 (.int .u8 0) (by simp [vwL_len]))
  have HAB := Lib.hid ((h.set_ 40 (.int .i8 (-1)) (by simp [vwL_len])).set_ 41 (.int .u8 0) (by simp [vwL_len]))
  rw [vw_setC] at HA HAB
  rw [vw_setD] at HB HAB
  have HX := Lib.hid h
  have HS : Hid (plV v = { v with c := plC1 v.c, d := plD1 v.d }) := Lib.hid rfl
  obtain ⟨x, hx⟩ : ∃ x, x = v.c := ⟨_, rfl⟩
  obtain ⟨y, hy⟩ : ∃ y, y = v.d := ⟨_, rfl⟩
  have hxy : v = { v with c := x, d := y } := by rw [hx, hy]
  have HXY := Lib.hid hxy
  rw [← hx] at c0 HS
  rw [← hy] at c1 c1' HS
  clear h hxy hx hy
  have key : ∀ (p q : Int), plC1 x = p → plD1 y = q → plV v = { v with c := p, d := q } := fun p q e1 e2 => by rw [HS.out, e1, e2]
  have HK := Lib.hid key
  clear key
  have f1' : (w.setCell ⟨g, O + 40, none⟩ (.int .i8 (-1))).frozen? ⟨g, O + 41, none⟩ = false := HA.out.frozen _
  by_cases h0 : x < 0
  · have p1 : plC1 x = -1 := by unfold plC1; simp [h0]
    have HP1 := Lib.hid p1
    clear p1
    by_cases h1 : 7 < y
    all_goals
      go_enter Try.func109, Try.ntmps109
      go_wp2_with fail
      go_end0
    · rw [HK.out _ _ HP1.out (show plD1 y = 0 by unfold plD1; simp [h1])]
      exact ⟨rfl, HAB.out, ((But.refl _ _).set _ _).set _ _⟩
    · rw [HK.out _ _ HP1.out (show plD1 y = y by unfold plD1; rw [if_neg (by simp; omega)])]
      have e : ({ v with c := -1, d := y } : Vw) = { v with c := -1 } := by conv => rhs; rw [HXY.out]
      rw [e]
      exact ⟨rfl, HA.out, (But.refl _ _).set _ _⟩
  by_cases h8 : 8 ≤ x
  · have p1 : plC1 x = -1 := by unfold plC1; simp [h8]
    have HP1 := Lib.hid p1
    clear p1
    by_cases h1 : 7 < y
    all_goals
      go_enter Try.func109, Try.ntmps109
      go_wp2_with fail
      go_end0
    · rw [HK.out _ _ HP1.out (show plD1 y = 0 by unfold plD1; simp [h1])]
      exact ⟨rfl, HAB.out, ((But.refl _ _).set _ _).set _ _⟩
    · rw [HK.out _ _ HP1.out (show plD1 y = y by unfold plD1; rw [if_neg (by simp; omega)])]
      have e : ({ v with c := -1, d := y } : Vw) = { v with c := -1 } := by conv => rhs; rw [HXY.out]
      rw [e]
      exact ⟨rfl, HA.out, (But.refl _ _).set _ _⟩
  have p1 : plC1 x = x := by unfold plC1; simp [h0, h8]
  have HP1 := Lib.hid p1
  clear p1
  by_cases h1 : 7 < y
  all_goals
    go_enter Try.func109, Try.ntmps109
    go_wp2_with fail
    go_end0
  · rw [HK.out _ _ HP1.out (show plD1 y = 0 by unfold plD1; simp [h1])]
    have e : ({ v with c := x, d := 0 } : Vw) = { v with d := 0 } := by conv => rhs; rw [HXY.out]
    rw [e]
    exact ⟨rfl, HB.out, (But.refl _ _).set _ _⟩
  · rw [HK.out _ _ HP1.out (show plD1 y = y by unfold plD1; rw [if_neg (by simp; omega)]), ← HXY.out]
    exact ⟨rfl, HX.out, But.refl _ _⟩
end
end Go.Proofs.Ytcangipaoancnaa

namespace Go.Proofs.Ytcangipaoancnaa
open Go.RowKit
set_option linter.unusedVariables false

/-- A cell behind the first k of those that mend it. -/
def plK (k : Nat) (c : Ce) : Ce := ⟨if 0 < k then plA1 c.a else c.a, if 1 < k then plS c.o else c.o, if 2 < k then plS c.r else c.r, if 3 < k then plV c.v else c.v⟩
theorem plK_zero (c : Ce) : plK 0 c = c := rfl
theorem plK_all (c : Ce) : plK 4 c = plC c := rfl
section
variable {w : World} {g O : Nat} {T : TypeId} {A Z : List Value}
theorem mends1_is (c : Ce) (h : PIn w g O T A Z (ceL c)) :
    Calls Try.prog 103 #[.pointer (some ⟨g, O, none⟩)] w fun e w' => e = .returned (.tuple #[]) ∧ PIn w' g O T A Z (ceL { c with a := plA1 c.a }) ∧ But g w w' := by
  have c0 : w.cell? ⟨g, O, none⟩ = some (.int .i64 c.a) := (h.cell0 (by simp [ceL_len])).trans rfl
  have f0 := h.frozen O
  have hlt := h.lt
  have HX := Lib.hid h
  obtain ⟨x, hx⟩ : ∃ x, x = c.a := ⟨_, rfl⟩
  rw [← hx] at c0
  obtain ⟨t, ht⟩ : ∃ t, t = tmB x := ⟨_, rfl⟩
  have HT := Lib.hid ht
  have HC : Hid (∀ W, Calls Try.prog 104 #[.int .i64 x] W fun e w' => e = .returned (.bool t) ∧ W = w') := Lib.hid (by rw [ht]; exact isTime_is x)
  have HXX := Lib.hid hx
  clear h ht hx
  cases t
  · go_enter Try.func103, Try.ntmps103
    go_wp2_with (go_at_call 104; (with_reducible refine (HC.out _).mono ?_); rintro e w1 ⟨rfl, rfl⟩)
    go_end0
    have e : plA1 c.a = -1 := by rw [← HXX.out]; unfold plA1; rw [← HT.out]; rfl
    rw [e]
    exact ⟨rfl, (HX.out.set0 (.int .i64 (-1)) (by simp [ceL_len])).cs rfl, (But.refl _ _).set _ _⟩
  · go_enter Try.func103, Try.ntmps103
    go_wp2_with (go_at_call 104; (with_reducible refine (HC.out _).mono ?_); rintro e w1 ⟨rfl, rfl⟩)
    go_end0
    have e : plA1 c.a = c.a := by rw [← HXX.out]; unfold plA1; rw [← HT.out]; rfl
    rw [e]
    exact ⟨rfl, HX.out, But.refl _ _⟩
theorem mends2_is (c : Ce) (h : PIn w g O T A Z (ceL c)) :
    Calls Try.prog 105 #[.pointer (some ⟨g, O, none⟩)] w fun e w' => e = .returned (.tuple #[]) ∧ PIn w' g O T A Z (ceL { c with o := plS c.o }) ∧ But g w w' := by
  have hp := PIn.part (P := [.int .i64 c.a]) (M := saL c.o) (S := saL c.r ++ vwL c.v) (o := O + 1) h rfl
  have HP := Lib.hid hp
  have hlt := h.lt
  clear h hp
  go_enter Try.func105, Try.ntmps105
  go_wp2_with (go_at_call 106; (with_reducible refine (mendSaid_is _ HP.out).mono ?_); rintro e w1 ⟨rfl, p1, b1⟩)
  go_end0
  exact ⟨rfl, PIn.whole (P := [.int .i64 c.a]) (S := saL c.r ++ vwL c.v) p1 rfl, b1⟩
theorem mends3_is (c : Ce) (h : PIn w g O T A Z (ceL c)) :
    Calls Try.prog 107 #[.pointer (some ⟨g, O, none⟩)] w fun e w' => e = .returned (.tuple #[]) ∧ PIn w' g O T A Z (ceL { c with r := plS c.r }) ∧ But g w w' := by
  have hp := PIn.part (P := .int .i64 c.a :: saL c.o) (M := saL c.r) (S := vwL c.v) (o := O + 7) h rfl
  have HP := Lib.hid hp
  have hlt := h.lt
  clear h hp
  go_enter Try.func107, Try.ntmps107
  go_wp2_with (go_at_call 106; (with_reducible refine (mendSaid_is _ HP.out).mono ?_); rintro e w1 ⟨rfl, p1, b1⟩)
  go_end0
  exact ⟨rfl, PIn.whole (P := .int .i64 c.a :: saL c.o) (S := vwL c.v) p1 rfl, b1⟩
theorem mends4_is (c : Ce) (h : PIn w g O T A Z (ceL c)) :
    Calls Try.prog 108 #[.pointer (some ⟨g, O, none⟩)] w fun e w' => e = .returned (.tuple #[]) ∧ PIn w' g O T A Z (ceL { c with v := plV c.v }) ∧ But g w w' := by
  have e4 : ∀ v : Vw, ceL { c with v := v } = (.int .i64 c.a :: (saL c.o ++ saL c.r)) ++ (vwL v ++ []) := fun v => by simp [ceL]
  have hp := PIn.part (P := .int .i64 c.a :: (saL c.o ++ saL c.r)) (M := vwL c.v) (S := []) (o := O + 13) (h.cs (e4 c.v)) rfl
  have HP := Lib.hid hp
  have hlt := h.lt
  have H4 := Lib.hid (e4 (plV c.v))
  clear h hp e4
  go_enter Try.func108, Try.ntmps108
  go_wp2_with (go_at_call 109; (with_reducible refine (mendView_is _ HP.out).mono ?_); rintro e w1 ⟨rfl, p1, b1⟩)
  go_end0
  rw [H4.out]
  exact ⟨rfl, PIn.whole (P := .int .i64 c.a :: (saL c.o ++ saL c.r)) (S := []) p1 rfl, b1⟩
end
def mendsC : Array Value := #[.func (.func 103) #[] #[], .func (.func 105) #[] #[], .func (.func 107) #[] #[], .func (.func 108) #[] #[]]
theorem mends_is (w : World) : Calls Try.prog 88 #[] w fun e w' => e = .returned (.slice (some ⟨w.heap.size, 0, none⟩) 4 4) ∧ w.alloc (.cells mendsC 164) = w' := by
  go_enter Try.func88, Try.ntmps88
  go_wp2_with fail
  go_ret
  exact ⟨rfl, rfl⟩
set_option maxRecDepth 100000 in
theorem elemMends : Try.prog.underlying 187 = some (.slice (Try.prog.elem 187)) := by kernel_rfl
set_option maxRecDepth 100000 in
theorem sizeMends (w : World) : (sizeOf (Try.prog.elem 187)).run Try.prog w = .ok 1 w := by kernel_rfl
theorem But.newer {g : Nat} {w w1 w' : World} {o : Obj} (hg : g < w.heap.size) (h : But g (w.alloc o) w') : But g w w' := (But.grow (Nat.le_of_lt hg) (below_al (Below.refl _ w) o)).trans h
set_option maxHeartbeats 1000000 in
theorem mendCell_is (c : Ce) {w : World} {g O : Nat} {T : TypeId} {A Z : List Value} (h : PIn w g O T A Z (ceL c)) :
    Calls Try.prog 66 #[.pointer (some ⟨g, O, none⟩)] w fun e w' => e = .returned (.tuple #[]) ∧ PIn w' g O T A Z (ceL (plC c)) ∧ But g w w' := by
  have hlt := h.lt
  have H0 := Lib.hid ((h.on (below_al (Below.refl _ w) (.cells mendsC 164))).cs (by rw [plK_zero] : ceL c = ceL (plK 0 c)))
  have HB0 := Lib.hid (Blk.new w 164 mendsC)
  have HN := Lib.hid (show w.heap.size ≠ g by omega)
  obtain ⟨W0, hW0⟩ : ∃ W0, W0 = w.alloc (.cells mendsC 164) := ⟨_, rfl⟩
  have HW := Lib.hid hW0
  rw [← hW0] at H0 HB0
  have HM : Hid (Calls Try.prog 88 #[] w fun e w' => e = .returned (.slice (some ⟨w.heap.size, 0, none⟩) 4 4) ∧ W0 = w') := Lib.hid (by rw [hW0]; exact mends_is w)
  obtain ⟨m, hm⟩ : ∃ m, m = w.heap.size := ⟨_, rfl⟩
  rw [← hm] at HB0 HN HM
  clear h hW0 hm
  go_enter Try.func66, Try.ntmps66
  go_wp2_with (go_at_call 88; (with_reducible refine HM.out.mono ?_); rintro e w1 ⟨rfl, rfl⟩)
  go_loopw [6] (fun s wr => ∃ k : Nat, k ≤ 4 ∧ s = .int .i64 (k : Int) ∧ Hid (PIn wr g O T A Z (ceL (plK k c))) ∧ Hid (Blk wr m 164 mendsC) ∧ Hid (But g W0 wr)) (fun s _ => 4 - (intOf s).toNat)
  case atStart => exact ⟨0, by omega, rfl, H0, HB0, Lib.hid (But.refl _ _)⟩
  case round =>
    clear H0 HB0
    obtain ⟨k, hk, rfl, HP, HB, HU⟩ := hrel
    have hlr := HP.out.lt
    have hmr := HB.out.lt
    rcases (show k = 0 ∨ k = 1 ∨ k = 2 ∨ k = 3 ∨ k = 4 by omega) with rfl | rfl | rfl | rfl | rfl
    · have cf : wr.cell? ⟨m, 0, none⟩ = some (.func (.func 103) #[] #[]) := (HB.out.cell 0).trans rfl
      go_wp2_with (go_at_call 103; (with_reducible refine (mends1_is _ HP.out).mono ?_); rintro e w1 ⟨rfl, p1, b1⟩)
      go_roundw
      case rel => exact ⟨1, by omega, rfl, Lib.hid (p1.cs rfl), Lib.hid (b1.blk HB.out HN.out), Lib.hid (HU.out.trans b1)⟩
      case measure => simp [intOf]
    · have cf : wr.cell? ⟨m, 1, none⟩ = some (.func (.func 105) #[] #[]) := (HB.out.cell 1).trans rfl
      go_wp2_with (go_at_call 105; (with_reducible refine (mends2_is _ HP.out).mono ?_); rintro e w1 ⟨rfl, p1, b1⟩)
      go_roundw
      case rel => exact ⟨2, by omega, rfl, Lib.hid (p1.cs rfl), Lib.hid (b1.blk HB.out HN.out), Lib.hid (HU.out.trans b1)⟩
      case measure => simp [intOf]
    · have cf : wr.cell? ⟨m, 2, none⟩ = some (.func (.func 107) #[] #[]) := (HB.out.cell 2).trans rfl
      go_wp2_with (go_at_call 107; (with_reducible refine (mends3_is _ HP.out).mono ?_); rintro e w1 ⟨rfl, p1, b1⟩)
      go_roundw
      case rel => exact ⟨3, by omega, rfl, Lib.hid (p1.cs rfl), Lib.hid (b1.blk HB.out HN.out), Lib.hid (HU.out.trans b1)⟩
      case measure => simp [intOf]
    · have cf : wr.cell? ⟨m, 3, none⟩ = some (.func (.func 108) #[] #[]) := (HB.out.cell 3).trans rfl
      go_wp2_with (go_at_call 108; (with_reducible refine (mends4_is _ HP.out).mono ?_); rintro e w1 ⟨rfl, p1, b1⟩)
      go_roundw
      case rel => exact ⟨4, by omega, rfl, Lib.hid (p1.cs rfl), Lib.hid (b1.blk HB.out HN.out), Lib.hid (HU.out.trans b1)⟩
      case measure => simp [intOf]
    · go_wp2_with fail
      go_end0
      exact ⟨rfl, HP.out, But.newer (w1 := w) hlt (by have := HU.out; rw [HW.out] at this; exact this)⟩
set_option maxRecDepth 100000 in
theorem size_ce : (Try.prog.info? 51).map (·.size) = some 55 := by kernel_rfl
set_option maxRecDepth 100000 in
set_option maxHeartbeats 1000000 in
theorem cell_is (c : Ce) (w : World) : Calls Try.prog 40 #[.agg (ceL c).toArray] w fun e w' => e = .returned (.agg (ceL (plC c)).toArray) ∧ Below w.heap.size w w' := by
  have hm : ∀ Z : Array Value, Z.size = 55 → Calls Try.prog 66 #[.pointer (some ⟨w.heap.size, 0, none⟩)] ((w.alloc (.cells (ceL c).toArray 51)).alloc (.cells Z 51))
      fun e w' => e = .returned (.tuple #[]) ∧ Blk w' w.heap.size 51 (ceL (plC c)).toArray ∧ Blk w' (w.heap.size + 1) 51 Z ∧ Below w.heap.size w w' := by
    intro Z hZ
    have h0 : PIn ((w.alloc (.cells (ceL c).toArray 51)).alloc (.cells Z 51)) w.heap.size 0 51 [] [] (ceL c) := ⟨by simpa using (Blk.new w 51 (ceL c).toArray).alloc (.cells Z 51), rfl⟩
    have hz : Blk ((w.alloc (.cells (ceL c).toArray 51)).alloc (.cells Z 51)) (w.heap.size + 1) 51 Z := by
      have := Blk.new (w.alloc (.cells (ceL c).toArray 51)) 51 Z
      rwa [alloc_size] at this
    refine (mendCell_is c h0).mono fun e w' ⟨he, hp, hb⟩ => ⟨he, by simpa using hp.blk, hb.blk hz (by omega), ?_⟩
    exact (below_al (below_al (Below.refl _ w) _) _).trans hb.1
  have HM := Lib.hid hm
  have hcl := ceL_len (plC c)
  have HCL := Lib.hid (ceL_len c)
  clear hm
  go_enter Try.func40, Try.ntmps40
  go_upto_region 2 with (go_at_call 66; (with_reducible refine (HM.out _ rfl).mono ?_); rintro e w1 ⟨rfl, b1, b2, b3⟩)
  have HL := Lib.hid (range_of (ceL (plC c)) [] [] (by simpa using b1) rfl)
  obtain ⟨hst, hld, q1, q2⟩ := res_big b2 (ceL (plC c)) (by rw [hcl]; kernel_rfl) (ceL_one _) _ Try.underlying51 rfl (by rw [size_ce, hcl])
  have HB := Lib.hid (b3.trans (q2.low (Nat.le_succ _)))
  clear b1 b2 b3 q1 q2
  refine wp_region_lit ?_
  go_wp2_with (refine wpList_load_mid rfl 51 (.tmp 1) rfl w.heap.size 0 (by simp [Act.eval]) (ceL (plC c)) _ HL.out Try.underlying51 rfl (by rw [size_ce, hcl]) ?_)
  exact bodyPost_ret (v := .agg (ceL (plC c)).toArray) (by simp [results, Try.results40, asAddr, hld]) rfl ⟨rfl, HB.out⟩
set_option maxRecDepth 100000 in
theorem size_he : (Try.prog.info? 102).map (·.size) = some 56 := by kernel_rfl
section
variable {w : World} {g O : Nat} {T : TypeId} {A Z : List Value}
set_option maxRecDepth 100000 in
set_option maxHeartbeats 1000000 in
theorem mendHeld_is (h : He) (hp : PIn w g O T A Z (heL h)) :
    Calls Try.prog 83 #[.pointer (some ⟨g, O, none⟩)] w fun e w' => e = .returned (.tuple #[]) ∧ PIn w' g O T A Z (heL (plH h)) ∧ But g w w' := by
  obtain ⟨i, c⟩ := h
  have c0 : w.cell? ⟨g, O, none⟩ = some (.bool i) := (hp.cell0 (by simp [heL_len])).trans rfl
  have hlt := hp.lt
  have HP := Lib.hid hp
  clear hp
  cases i
  · go_enter Try.func83, Try.ntmps83
    go_wp2_with (refine wpList_store_pin rfl 102 (.tmp 9) (.tmp 8) rfl HP.out (heL heN) (by simp [Act.eval]) (by kernel_rfl) 56 size_he (heL_len _) (heL_len _) (heL_one _) ?_; intro w1 p1 b1)
    exact bodyPost_ret (v := .tuple #[]) (by simp [results, Try.results83]) rfl ⟨rfl, p1, b1⟩
  · have HC := Lib.hid (PIn.part (P := [.bool true]) (M := ceL c) (S := []) (o := O + 1) (HP.out.cs (by simp [heL])) rfl)
    go_enter Try.func83, Try.ntmps83
    go_wp2_with (go_at_call 66; (with_reducible refine (mendCell_is c HC.out).mono ?_); rintro e w1 ⟨rfl, p1, b1⟩)
    go_end0
    exact ⟨rfl, (PIn.whole (P := [.bool true]) (S := []) p1 rfl).cs (by simp [heL, plH]), b1⟩
theorem same_is (h : He) (hp : PIn w g O T A Z (heL h)) :
    Calls Try.prog 100 #[.pointer (some ⟨g, O, none⟩)] w fun e w' => e = .returned (.tuple #[]) ∧ PIn w' g O T A Z (heL h) ∧ But g w w' := by
  have HP := Lib.hid hp
  clear hp
  go_enter Try.func100, Try.ntmps100
  go_wp2_with fail
  go_end0
  exact ⟨rfl, HP.out, But.refl _ _⟩
end
end Go.Proofs.Ytcangipaoancnaa

namespace Go.Proofs.Ytcangipaoancnaa
open Go.RowKit
set_option linter.unusedVariables false

/-- The slice at A of n elements reads as T. -/
def LiesH (w : World) (B : Nat) (A : Option Addr) (n : Nat) (T : Nat → He) : Prop :=
  0 < n → ∃ b off, A = some ⟨b, off, none⟩ ∧ b < B ∧ ∀ i, i < n → w.rangeAt b (off + i * 56) (heL (T i))
section
variable {w w' : World} {B B' n : Nat} {A : Option Addr} {T : Nat → He}
theorem LiesH.nil_ : LiesH w B A 0 T := fun h => absurd h (by omega)
theorem LiesH.keep (h : LiesH w B A n T) (hB : B ≤ B') (hk : ∀ p : Addr, p.block < B → w'.cell? p = w.cell? p) : LiesH w' B' A n T := fun hn => by
  obtain ⟨b, off, e, hb, hc⟩ := h hn
  exact ⟨b, off, e, by omega, fun i hi j v hv => (hk _ hb).trans (hc i hi j v hv)⟩
theorem LiesH.on (h : LiesH w w.heap.size A n T) (hb : Below w.heap.size w w') : LiesH w' w'.heap.size A n T := h.keep hb.size fun _ hp => hb.cell hp
theorem LiesH.low (h : LiesH w B A n T) (hb : Below B w w') : LiesH w' B A n T := h.keep (Nat.le_refl _) fun _ hp => hb.cell hp
theorem LiesH.up (h : LiesH w B A n T) (hB : B ≤ B') : LiesH w B' A n T := h.keep hB fun _ _ => rfl
theorem LiesH.al (h : LiesH w w.heap.size A n T) (o : Obj) : LiesH (w.alloc o) (w.alloc o).heap.size A n T := h.on (below_al (Below.refl _ w) o)
theorem LiesH.less {m : Nat} (h : LiesH w B A n T) (hm : m ≤ n) : LiesH w B A m T := fun h0 => by
  obtain ⟨b, off, e, hb, hc⟩ := h (by omega)
  exact ⟨b, off, e, hb, fun i hi => hc i (by omega)⟩
theorem LiesH.congr {U : Nat → He} (h : LiesH w B A n T) (e : ∀ i, i < n → T i = U i) : LiesH w B A n U := fun h0 => by
  obtain ⟨b, off, ea, hb, hc⟩ := h h0
  exact ⟨b, off, ea, hb, fun i hi => by rw [← e i hi]; exact hc i hi⟩
theorem hesL_split {T : Nat → He} {n j : Nat} (h : j < n * 56) : (hesL T n)[j]? = (heL (T (j / 56)))[j % 56]? := by
  have hq : j / 56 < n := by omega
  have := hesL_get T hq (j % 56) (Nat.mod_lt _ (by decide))
  rw [← this]; congr 1; omega
theorem LiesH.src (h : LiesH w B A n T) : 0 < (hesL T n).length → ∃ ad, A = some ad ∧ ∀ j v, (hesL T n)[j]? = some v → w.cell? (ad.add j) = some v := by
  intro h0
  rw [hesL_len] at h0
  obtain ⟨b, off, e, hb, hc⟩ := h (by omega)
  refine ⟨_, e, fun j v hv => ?_⟩
  have hj : j < n * 56 := by have := (List.getElem?_eq_some_iff.1 hv).1; rwa [hesL_len] at this
  rw [hesL_split hj] at hv
  have := hc (j / 56) (by omega) (j % 56) v hv
  rw [Addr.add_lit, ← this, Nat.add_assoc]
  congr 3; omega
end
theorem Blk.liesH {w : World} {g n : Nat} {t : TypeId} {T : Nat → He} {cs : Array Value} (h : Blk w g t cs) (hcs : ∀ j, j < n * 56 → cs[j]? = (hesL T n)[j]?) : LiesH w w.heap.size (some ⟨g, 0, none⟩) n T := fun hn =>
  ⟨g, 0, rfl, h.lt, fun i hi j v hv => by
    have hj : j < 56 := by have := (List.getElem?_eq_some_iff.1 hv).1; rwa [heL_len] at this
    rw [h.cell, Nat.zero_add, hcs _ (by omega), hesL_get T hi j hj]; exact hv⟩
theorem Blk.liesH_ {w : World} {g n : Nat} {t : TypeId} {T : Nat → He} (h : Blk w g t (hesL T n).toArray) : LiesH w w.heap.size (some ⟨g, 0, none⟩) n T := h.liesH fun j _ => by simp

/-- make of a list: so many noughts. -/
theorem made_flat (z : List Value) (hz : 0 < z.length) : ∀ n : Nat, madeCells z.toArray (n * z.length) = ((List.range n).flatMap fun _ => z).toArray := by
  intro n
  apply Array.toList_inj.1
  have hL : (List.range z.length).map (fun i => z.toArray[i]!) = z := by
    apply List.ext_getElem
    · simp
    · intro i h1 h2
      simp
      rw [List.getElem?_eq_getElem h2]; rfl
  have key : (madeCells z.toArray (n * z.length)).toList = (List.range (n * z.length)).map (fun i => z.toArray[i % z.length]!) := by unfold madeCells; rw [Array.toList_map, Array.toList_range]; rfl
  rw [key]
  clear key
  induction n with
  | zero => simp
  | succ n ih =>
    rw [Nat.add_mul, Nat.one_mul, List.range_add, List.map_append, ih, List.range_succ, List.flatMap_append]
    congr 1
    rw [List.map_map]
    have : ((fun i => z.toArray[i % z.length]!) ∘ fun x => n * z.length + x) = fun i => z.toArray[i % z.length]! := by
      funext i
      simp [Nat.add_mod]
    rw [this]
    simp only [List.flatMap_cons, List.flatMap_nil, List.append_nil]
    conv => rhs; rw [← hL]
    refine List.map_congr_left fun i hi => ?_
    rw [Nat.mod_eq_of_lt (by simpa using hi)]
theorem wpList_make_flat {P : Program} {w : World} {ops : Array Oper} {rest : List Oper} {o : Oper} {a : Act} {Q : Exit → Act → World → Prop} (hgd : o.guard = none) (l c : Operand) (t : TypeId) (hop : o.op = .makeSlice t l c)
    (e : TypeId) (i : TypeInfo) (v : Value) (z : List Value) (bytes size : Nat) (ht : P.underlying t = some (.slice e)) (hi : P.info? e = some i) (hz : i.zero = some v) (hv : v.cells = z.toArray) (hsize : i.size = size) (hby : i.bytes = bytes) (hzl : z.length = size) (h0 : 0 < size)
    (n m : Nat) (hl : a.eval l = .int .i64 (n : Int)) (hc : a.eval c = .int .i64 (m : Int)) (hnm : n ≤ m) (hb : bytes * m ≤ 281474976710656) (hm : m ≤ 9223372036854775807)
    (k : ∀ w', Blk w' w.heap.size e ((List.range m).flatMap fun _ => z).toArray → Below w.heap.size w w' → w'.heap.size = w.heap.size + 1 → wpList P ops Q rest (a.put o.dst (.slice (some ⟨w.heap.size, 0, none⟩) n m)) w') : wpList P ops Q (o :: rest) a w := by
  subst hsize hby
  have h := run_make (P := P) w t e i v ht hi hz .i64 .i64 (n : Int) (m : Int) (by omega) (by omega) (by have := Int.ofNat_le.2 hb; rw [Int.natCast_mul] at this; exact this) (by omega)
  rw [hv, Int.toNat_natCast, ← hzl, made_flat z (by omega)] at h
  refine wpList_plain hgd fun K hK => ?_
  unfold Oper.wp
  simp [execOp, hop, hl, hc, h, Result.andThen]
  exact hK _ _ (k _ (Blk.new w e _) (below_al (Below.refl _ w) _) (alloc_size _ _))
/-- copy of as many elements as both have, into the beginning of a block. -/
theorem wpList_copy_part {P : Program} {w : World} {ops : Array Oper} {rest : List Oper} {o : Oper} {a : Act} {Q : Exit → Act → World → Prop} (hgd : o.guard = none) (d s : Operand) (dT sT : TypeId)
    (ho : o.op = .call { callee := .builtin .copy, args := #[d, s], argTypes := #[dT, sT] }) (elem : TypeId) (hu : P.underlying dT = some (.slice elem)) (size : Nat) (hsz : (P.info? elem).map (·.size) = some size)
    (sp : Option Addr) (n m k dCap sCap g : Nat) (hk : Nat.min m n = k) (hd : a.eval d = .slice (some ⟨g, 0, none⟩) n dCap) (hs : a.eval s = .slice sp m sCap)
    (cur : Array Value) (t : TypeId) (hg : Blk w g t cur) (cs : List Value) (hn : cs.length = k * size) (hcur : cs.length ≤ cur.size)
    (hsrc : 0 < cs.length → ∃ ad, sp = some ad ∧ ∀ j v, cs[j]? = some v → w.cell? (ad.add j) = some v) (h1 : ∀ v ∈ cs, v.oneCell' = true)
    (h : ∀ w', Blk w' g t (cs ++ cur.toList.drop cs.length).toArray → But g w w' → wpList P ops Q rest (a.put o.dst (goInt k)) w') :
    wpList P ops Q (o :: rest) a w := by
  have hst := run_storeCells_at P g 0 t cs 0 cur w hg (by omega) h1
  have hfull : (cur.toList.take (0 + 0) ++ cs ++ cur.toList.drop (0 + 0 + cs.length)).toArray = (cs ++ cur.toList.drop cs.length).toArray := by simp
  rw [hfull] at hst
  refine wpList_plain hgd fun K hK => ?_
  cases hq : P.info? elem with
  | none => simp [hq] at hsz
  | some i =>
    have hi : i.size = size := by simpa [hq] using hsz
    by_cases h0 : cs.length = 0
    · obtain rfl : cs = [] := List.eq_nil_of_length_eq_zero h0
      have hz : k * i.size = 0 := by rw [hi]; simpa using hn.symm
      have hl : ∀ (x : Addr), (loadCells x 0).run P w = .ok #[] w := fun x => by simpa using run_loadCells_list (P := P) w x [] (by simp)
      unfold Oper.wp
      cases sp with
      | none =>
        simp [execOp, ho, resolve, invoke, builtin, hd, hs, Builtin.copy_, run_underlying hu, Builtin.lenOf, Builtin.firstCells, sizeOf, typeInfo, hq, storeCells, Result.andThen, hk]
        exact hK _ _ (h w (by simpa using hg) (But.refl _ _))
      | some ad =>
        simp [execOp, ho, resolve, invoke, builtin, hd, hs, Builtin.copy_, run_underlying hu, Builtin.lenOf, Builtin.firstCells, sizeOf, typeInfo, hq, hz, hl, storeCells, Result.andThen, hk]
        exact hK _ _ (h w (by simpa using hg) (But.refl _ _))
    · obtain ⟨ad, rfl, hc⟩ := hsrc (by omega)
      have hl := run_loadCells_list (P := P) w ad cs hc
      rw [hn] at hl
      unfold Oper.wp
      simp [execOp, ho, resolve, invoke, builtin, hd, hs, Builtin.copy_, run_underlying hu, Builtin.lenOf, Builtin.firstCells, sizeOf, typeInfo, hq, hi, hl, hst, Result.andThen, hk]
      exact hK _ _ (h _ (setRow_heap w g _ _ t _ hg) ⟨below_setRow (Below.refl _ _) (Nat.le_refl _) _, fun b _ hb => setRow_other w g b _ hb⟩)
set_option maxRecDepth 100000 in
theorem infoHeld : (Try.prog.info? 102).map (fun i => (i.zero, i.size, i.bytes)) = some (some (.agg (heL heN).toArray), 56, 136) := by kernel_rfl
set_option maxRecDepth 100000 in
theorem infoRHeld : (Try.prog.info? 106).map (fun i => (i.zero, i.size, i.bytes)) = some (some (.agg (heL heN).toArray), 56, 136) := by kernel_rfl
set_option maxRecDepth 100000 in
theorem infoRow : (Try.prog.info? 54).map (fun i => (i.zero, i.size, i.bytes)) = some (some (.agg (roL false ceN none 0 0).toArray), 57, 160) := by kernel_rfl
set_option maxRecDepth 100000 in
theorem infoRRow : (Try.prog.info? 74).map (fun i => (i.zero, i.size, i.bytes)) = some (some (.agg (roL false ceN none 0 0).toArray), 57, 160) := by kernel_rfl
set_option maxRecDepth 100000 in
theorem elemHelds : Try.prog.underlying 52 = some (.slice 102) := by kernel_rfl
set_option maxRecDepth 100000 in
theorem sizeHelds (w : World) : (sizeOf 102).run Try.prog w = .ok 56 w := by kernel_rfl
set_option maxRecDepth 100000 in
theorem idxHelds {A : Option Addr} {n : Nat} (c : Nat) {k b off : Nat} (hA : A = some ⟨b, off, none⟩) (hk : k < n) (w : World) :
    (Instr.indexAt 52 (.slice A n c) (.int .i64 (k : Int))).run Try.prog w = .ok (.pointer (some ⟨b, off + k * 56, none⟩)) w := by
  subst hA
  rw [run_indexAt_slice (h := elemHelds), if_pos (by omega), show Try.prog.elem 52 = 102 by kernel_rfl, sizeHelds]
  simp [Result.andThen, Addr.add_lit]
end Go.Proofs.Ytcangipaoancnaa

namespace Go.Proofs.Ytcangipaoancnaa
open Go.RowKit
set_option linter.unusedVariables false

/-- A list cut, or filled up, to another length. -/
def fitH (T : Nat → He) (m : Nat) : Nat → He := fun i => if i < m then T i else heN
/-- .. its first k elements turned. -/
def partH (F : He → He) (k : Nat) (T : Nat → He) : Nat → He := fun i => if i < k then F (T i) else T i
theorem fit_cells (T : Nat → He) (n m k : Nat) (hk : Nat.min m n = k) : hesL T k ++ (hesL (fun _ => heN) n).drop (hesL T k).length = hesL (fitH T m) n := by
  have hkn : k ≤ n := by rw [← hk]; exact Nat.min_le_right _ _
  have hkm : k ≤ m := by rw [← hk]; exact Nat.min_le_left _ _
  have e : n = k + (n - k) := by omega
  rw [hesL_len]
  conv => lhs; rw [e]
  rw [hesL_add, List.drop_append_of_le_length (by rw [hesL_len]; omega), List.drop_of_length_le (by rw [hesL_len]; omega), List.nil_append]
  conv => rhs; rw [e]
  rw [hesL_add]
  congr 1
  · exact hesL_congr fun i hi => by unfold fitH; rw [if_pos (by omega)]
  · refine hesL_congr fun i hi => ?_
    unfold fitH
    rw [if_neg]
    have : k = m ∨ k = n := by rw [← hk]; rcases Nat.le_total m n with h | h
                               · left; exact Nat.min_eq_left h
                               · right; exact Nat.min_eq_right h
    omega
theorem fit_le (T : Nat → He) {n m k : Nat} (hk : Nat.min m n = k) : (hesL T k).length ≤ (hesL (fun _ => heN) n).toArray.size := by
  have : k ≤ n := by rw [← hk]; exact Nat.min_le_right _ _
  rw [List.size_toArray, hesL_len, hesL_len]; omega
theorem partH_zero (F : He → He) (T : Nat → He) : partH F 0 T = T := by funext i; unfold partH; rw [if_neg (by omega)]
theorem part_cells (F : He → He) (k n : Nat) (T : Nat → He) (hk : k < n) : hesL (partH F k T) k ++ (heL (F (T k)) ++ hesL (fun j => partH F k T (k + 1 + j)) (n - (k + 1))) = hesL (partH F (k + 1) T) n := by
  rw [hesL_at (partH F (k + 1) T) hk]
  congr 1
  · exact hesL_congr fun i hi => by unfold partH; rw [if_pos hi, if_pos (by omega)]
  · congr 1
    · unfold partH; rw [if_pos (by omega)]
    · exact hesL_congr fun i hi => by unfold partH; rw [if_neg (by omega), if_neg (by omega)]
theorem part_at (F : He → He) (k : Nat) (T : Nat → He) : partH F k T k = T k := by unfold partH; rw [if_neg (by omega)]
theorem part_all (F : He → He) (n : Nat) (T : Nat → He) : hesL (partH F n T) n = hesL (fun i => F (T i)) n := hesL_congr fun i hi => by unfold partH; rw [if_pos hi]
set_option maxRecDepth 100000 in
set_option maxHeartbeats 1000000 in
theorem filledMend_is (n : Nat) (hn : n ≤ 65536) (A : Option Addr) (m c : Nat) (T : Nat → He) (w : World) (hT : LiesH w w.heap.size A m T) :
    Calls Try.prog 82 #[.int .i64 (n : Int), .slice A m c, .func (.func 83) #[] #[]] w
      fun e w' => e = .returned (.slice (some ⟨w.heap.size, 0, none⟩) n n) ∧ Blk w' w.heap.size 102 (hesL (fun i => plH (fitH T m i)) n).toArray ∧ Below w.heap.size w w' := by
  obtain ⟨i0, hi0, hz0, hz1, hz2⟩ := info_parts infoHeld
  have HT := Lib.hid hT
  obtain ⟨k0, hk0⟩ : ∃ k0, Nat.min m n = k0 := ⟨_, rfl⟩
  have HK := Lib.hid hk0
  have hkm : k0 ≤ m := by rw [← hk0]; exact Nat.min_le_left _ _
  have HN := Lib.hid (fun (x : World) (h : LiesH x x.heap.size A m T) => LiesH.src (h.less hkm))
  have HI := Lib.hid hi0
  have HZ0 := Lib.hid hz0
  have HZ1 := Lib.hid hz1
  have HZ2 := Lib.hid hz2
  clear hT hk0 hi0 hz0 hz1 hz2
  go_enter Try.func82, Try.ntmps82
  go_wp2_with (first | (refine wpList_make_flat rfl (.tmp 9) (.tmp 9) 52 rfl 102 i0 _ (heL heN) 136 56 elemHelds HI.out HZ0.out rfl HZ1.out HZ2.out (heL_len _) (by decide) n n (by simp [Act.eval]) (by simp [Act.eval]) (Nat.le_refl _) (by omega) (by omega) ?_; intro w1 hB1 hb1 hs1; have HB1 := Lib.hid hB1; have Hb1 := Lib.hid hb1; have hlt1 := hB1.lt; clear hB1 hb1 hs1) | (refine wpList_copy_part rfl (.tmp 11) (.tmp 12) 52 52 rfl 102 elemHelds 56 size_he A n m k0 n c w.heap.size HK.out (by simp [Act.eval]) (by simp [Act.eval]) _ _ HB1.out (hesL T k0) (hesL_len _ _) (fit_le T HK.out) (HN.out w1 (HT.out.on Hb1.out)) (hesL_one _ _) ?_; intro w2 hB2 hb2; have HB2 : Hid (Blk w2 w.heap.size 102 (hesL (partH plH 0 (fitH T m)) n).toArray) := Lib.hid (by rw [partH_zero, ← fit_cells T n m k0 HK.out]; exact hB2); have Hb2 := Lib.hid (Hb1.out.trans (hb2.low (Nat.le_refl _))); have hlt2 := hB2.lt; clear hB2 hb2))
  obtain ⟨g, hg⟩ : ∃ g, g = w.heap.size := ⟨_, rfl⟩
  have HG := Lib.hid hg
  rw [← hg] at HB2 hlt2 ⊢
  clear hg HB1 hlt1
  go_loopw [16] (fun s wr => ∃ k : Nat, k ≤ n ∧ s = .int .i64 (k : Int) ∧ Hid (Blk wr g 102 (hesL (partH plH k (fitH T m)) n).toArray) ∧ Hid (Below w.heap.size w wr)) (fun s _ => n - (intOf s).toNat)
  case atStart => exact ⟨0, by omega, rfl, HB2, Hb2⟩
  case round =>
    clear HB2 Hb2 Hb1 hlt2
    obtain ⟨k, hk, rfl, HB, HU⟩ := hrel
    have hlr := HB.out.lt
    by_cases hlt : k < n
    · have HP : Hid (PIn wr g (k * 56) 102 (hesL (partH plH k (fitH T m)) k) (hesL (fun j => partH plH k (fitH T m) (k + 1 + j)) (n - (k + 1))) (heL (fitH T m k))) := Lib.hid ⟨by have := HB.out; rw [hesL_at _ hlt, part_at] at this; exact this, hesL_len _ _⟩
      have hix := fun W => idxHelds (A := some ⟨g, 0, none⟩) (n := n) n rfl hlt W
      simp only [Nat.zero_add] at hix
      go_wp2_with (go_at_call 83; (with_reducible refine (mendHeld_is _ HP.out).mono ?_); rintro e w3 ⟨rfl, p1, b1⟩)
      go_roundw
      case rel => exact ⟨k + 1, by omega, by go_num, Lib.hid (by have := p1.blk; rw [show heL (plH (fitH T m k)) = heL (plH (fitH T m k)) from rfl, part_cells plH k n _ hlt] at this; exact this), Lib.hid (HU.out.trans (b1.low (by rw [HG.out]; exact Nat.le_refl _)))⟩
      case measure => simp [intOf]; omega
    · go_wp2_with fail
      go_ret
      obtain rfl : k = n := by omega
      have h1 := HB.out
      have h2 := HU.out
      rw [← HG.out] at h2 ⊢
      rw [part_all] at h1
      exact ⟨rfl, h1, h2⟩
set_option maxRecDepth 100000 in
set_option maxHeartbeats 1000000 in
theorem filledCopy_is (n : Nat) (hn : n ≤ 65536) (A : Option Addr) (m c : Nat) (T : Nat → He) (w : World) (hT : LiesH w w.heap.size A m T) :
    Calls Try.prog 82 #[.int .i64 (n : Int), .slice A m c, .func (.func 100) #[] #[]] w
      fun e w' => e = .returned (.slice (some ⟨w.heap.size, 0, none⟩) n n) ∧ Blk w' w.heap.size 102 (hesL (fun i => id (fitH T m i)) n).toArray ∧ Below w.heap.size w w' := by
  obtain ⟨i0, hi0, hz0, hz1, hz2⟩ := info_parts infoHeld
  have HT := Lib.hid hT
  obtain ⟨k0, hk0⟩ : ∃ k0, Nat.min m n = k0 := ⟨_, rfl⟩
  have HK := Lib.hid hk0
  have hkm : k0 ≤ m := by rw [← hk0]; exact Nat.min_le_left _ _
  have HN := Lib.hid (fun (x : World) (h : LiesH x x.heap.size A m T) => LiesH.src (h.less hkm))
  have HI := Lib.hid hi0
  have HZ0 := Lib.hid hz0
  have HZ1 := Lib.hid hz1
  have HZ2 := Lib.hid hz2
  clear hT hk0 hi0 hz0 hz1 hz2
  go_enter Try.func82, Try.ntmps82
  go_wp2_with (first | (refine wpList_make_flat rfl (.tmp 9) (.tmp 9) 52 rfl 102 i0 _ (heL heN) 136 56 elemHelds HI.out HZ0.out rfl HZ1.out HZ2.out (heL_len _) (by decide) n n (by simp [Act.eval]) (by simp [Act.eval]) (Nat.le_refl _) (by omega) (by omega) ?_; intro w1 hB1 hb1 hs1; have HB1 := Lib.hid hB1; have Hb1 := Lib.hid hb1; have hlt1 := hB1.lt; clear hB1 hb1 hs1) | (refine wpList_copy_part rfl (.tmp 11) (.tmp 12) 52 52 rfl 102 elemHelds 56 size_he A n m k0 n c w.heap.size HK.out (by simp [Act.eval]) (by simp [Act.eval]) _ _ HB1.out (hesL T k0) (hesL_len _ _) (fit_le T HK.out) (HN.out w1 (HT.out.on Hb1.out)) (hesL_one _ _) ?_; intro w2 hB2 hb2; have HB2 : Hid (Blk w2 w.heap.size 102 (hesL (partH id 0 (fitH T m)) n).toArray) := Lib.hid (by rw [partH_zero, ← fit_cells T n m k0 HK.out]; exact hB2); have Hb2 := Lib.hid (Hb1.out.trans (hb2.low (Nat.le_refl _))); have hlt2 := hB2.lt; clear hB2 hb2))
  obtain ⟨g, hg⟩ : ∃ g, g = w.heap.size := ⟨_, rfl⟩
  have HG := Lib.hid hg
  rw [← hg] at HB2 hlt2 ⊢
  clear hg HB1 hlt1
  go_loopw [16] (fun s wr => ∃ k : Nat, k ≤ n ∧ s = .int .i64 (k : Int) ∧ Hid (Blk wr g 102 (hesL (partH id k (fitH T m)) n).toArray) ∧ Hid (Below w.heap.size w wr)) (fun s _ => n - (intOf s).toNat)
  case atStart => exact ⟨0, by omega, rfl, HB2, Hb2⟩
  case round =>
    clear HB2 Hb2 Hb1 hlt2
    obtain ⟨k, hk, rfl, HB, HU⟩ := hrel
    have hlr := HB.out.lt
    by_cases hlt : k < n
    · have HP : Hid (PIn wr g (k * 56) 102 (hesL (partH id k (fitH T m)) k) (hesL (fun j => partH id k (fitH T m) (k + 1 + j)) (n - (k + 1))) (heL (fitH T m k))) := Lib.hid ⟨by have := HB.out; rw [hesL_at _ hlt, part_at] at this; exact this, hesL_len _ _⟩
      have hix := fun W => idxHelds (A := some ⟨g, 0, none⟩) (n := n) n rfl hlt W
      simp only [Nat.zero_add] at hix
      go_wp2_with (go_at_call 100; (with_reducible refine (same_is _ HP.out).mono ?_); rintro e w3 ⟨rfl, p1, b1⟩)
      go_roundw
      case rel => exact ⟨k + 1, by omega, by go_num, Lib.hid (by have := p1.blk; rw [show heL (fitH T m k) = heL (id (fitH T m k)) from rfl, part_cells id k n _ hlt] at this; exact this), Lib.hid (HU.out.trans (b1.low (by rw [HG.out]; exact Nat.le_refl _)))⟩
      case measure => simp [intOf]; omega
    · go_wp2_with fail
      go_ret
      obtain rfl : k = n := by omega
      have h1 := HB.out
      have h2 := HU.out
      rw [← HG.out] at h2 ⊢
      rw [part_all] at h1
      exact ⟨rfl, h1, h2⟩
end Go.Proofs.Ytcangipaoancnaa

