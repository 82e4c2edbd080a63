/-
  The contracts of a catch's tail (whole, unlike) and of Step, by what the catch's block holds, and by what the catch has had ('Cat'); of New, Had, High, Unlike by what it has had. Conditions: the catch's reading.
-/
import Derived.Test.YtkejpkcaojidaaaGreatDoorFrM
import Derived.Test.YtkejpkcaojidaaaGreatDoorFrEq
import Derived.Test.YtkejpkcaojidaaaGreatDoorReg3
import Derived.Deep.QuietTactic
import Derived.Deep.RegionLaw
namespace Go.Proofs.YtkejpkcaojidaaaGreatDoor
set_option linter.unusedVariables false
set_option linter.unusedSimpArgs false
open Go.RowKit Crc

/-- The symbol as which one counts. -/
def kn (z : Int) : Int := if wholeB z then z else 0
theorem kn_yes {z : Int} (h : wholeB z = true) : kn z = z := by simp [kn, h]
theorem kn_no {z : Int} (h : wholeB z = false) : kn z = 0 := by simp [kn, h]
theorem wholeB_iff (z : Int) : wholeB z = true ↔ z = 1 ∨ z = 2 := by simp [wholeB]
theorem kn_ne {z : Int} (h : kn z ≠ 0) : kn z = z := by
  cases h1 : wholeB z
  · exact absurd (kn_no h1) h
  · exact kn_yes h1
/-- Of whatever symbols the bytes, or none. -/
def bytesP (xs : List Int) : List Int := if bytesOk xs then bytesL xs else []
/-- Is a body a frame of that owner? -/
def isB (o : Int) (xs : List Int) : Bool := getE (bytesP xs) == 0 && (getF (bytesP xs)).o == o

section
variable (x y : Nat → Int)
/-- Were both the same, and not none, at that place? -/
def al (j : Nat) : Bool := x j == y j && x j != 0
/-- What goes out in the body. -/
def bo (j : Nat) : Int := if x j = 0 then y j else x j
/-- How many of the first n were the same, from the first one on. -/
def sameF : Nat → Nat
  | 0 => 0
  | n + 1 => if sameF n = n ∧ al x y n = true then n + 1 else sameF n
/-- Is it cut off, by the first n? -/
def cutF : Nat → Bool
  | 0 => false
  | n + 1 => cutF n || (decide (n < 112) && bo x y n == 0)
/-- What is there of the body behind n. -/
def bodyF (n : Nat) : List Int := (List.range 112).map fun j => if j < n then bo x y j else 0
def bodyW : List Int := (List.range 112).map (bo x y)
variable (o : Int)
def wholeC : Bool := decide (sameF x y 113 = 113) && isB o (bodyW x y) && x 112 == 2
def highC : Bool := wholeC x y o && decide (sameF x y 114 = 114) && x 113 == 1
def frF (n : Nat) : Fr := if decide (113 ≤ n) && wholeC x y o then getF (bytesP (bodyW x y)) else Fr.zero
/-- What is given at a place. -/
def outC (j : Nat) : Int := if cutF x y (j + 1) then 0 else if j < 112 then bo x y j else if j = 112 then tsy (wholeC x y o) else if j = 113 then tsy (!highC x y o) else 0
end
section
variable {x y : Nat → Int} {o : Int}
theorem sameF_le : ∀ n, sameF x y n ≤ n := by
  intro n
  induction n with
  | zero => exact Nat.le_refl _
  | succ n ih => unfold sameF; split <;> omega
theorem sameF_succ (n : Nat) : sameF x y (n + 1) = if sameF x y n = n ∧ al x y n = true then n + 1 else sameF x y n := rfl
theorem sameF_iff : ∀ n, sameF x y n = n ↔ ∀ j, j < n → al x y j = true := by
  intro n
  induction n with
  | zero => simp [sameF]
  | succ n ih =>
    rw [sameF_succ]
    constructor
    · intro h j hj
      split at h
      · rename_i q
        rcases Nat.lt_succ_iff_lt_or_eq.1 hj with r | r
        · exact (ih.1 q.1) j r
        · rw [r]; exact q.2
      · have := sameF_le (x := x) (y := y) n; omega
    · intro h
      rw [if_pos ⟨ih.2 fun j hj => h j (by omega), h n (by omega)⟩]
theorem cutF_iff : ∀ n, cutF x y n = false ↔ ∀ j, j < n → j < 112 → bo x y j ≠ 0 := by
  intro n
  induction n with
  | zero => simp [cutF]
  | succ n ih =>
    rw [cutF, Bool.or_eq_false_iff, ih]
    constructor
    · rintro ⟨h1, h2⟩ j hj h112
      rcases Nat.lt_succ_iff_lt_or_eq.1 hj with r | r
      · exact h1 j r h112
      · subst r
        simpa [h112] using h2
    · intro h
      refine ⟨fun j hj => h j (by omega), ?_⟩
      by_cases hn : n < 112
      · simp [hn, h n (by omega) hn]
      · simp [hn]
theorem bodyF_length (n : Nat) : (bodyF x y n).length = 112 := by simp [bodyF]
theorem bodyW_length : (bodyW x y).length = 112 := by simp [bodyW]
theorem bodyW_at (j : Nat) (h : j < 112) : (bodyW x y).getD j 0 = bo x y j := by simp [bodyW, List.getD, h]
theorem bodyF_all (n : Nat) (h : 112 ≤ n) : bodyF x y n = bodyW x y := by
  unfold bodyF bodyW
  refine List.map_congr_left fun j hj => ?_
  rw [List.mem_range] at hj
  rw [if_pos (by omega)]
theorem bodyF_none : bodyF x y 0 = List.replicate 112 0 := by
  unfold bodyF
  simp [List.map_const']
theorem bodyF_set (n : Nat) : (bodyF x y n).set n (bo x y n) = bodyF x y (n + 1) := by
  refine List.ext_getElem (by simp [bodyF_length]) fun j h1 h2 => ?_
  simp only [List.length_set, bodyF_length] at h1
  rw [List.getElem_set]
  simp only [bodyF, List.getElem_map, List.getElem_range]
  by_cases e : n = j
  · subst e; simp
  · rw [if_neg e]
    by_cases hj : j < n
    · rw [if_pos hj, if_pos (by omega)]
    · rw [if_neg hj, if_neg (by omega)]
theorem al_bo {j : Nat} (h : al x y j = true) : bo x y j = x j ∧ x j = y j ∧ x j ≠ 0 := by
  simp only [al, Bool.and_eq_true, beq_iff_eq, bne_iff_ne] at h
  exact ⟨by simp [bo, h.2], h.1, h.2⟩
end
/-- A catch in its block: who takes its next pair; how many it has had, were the same; is it cut off; its body, its frame, its tail. -/
def catL (v : Value) (n s : Int) (k : Bool) (b : List Int) (f : Fr) (p q : Bool) : List Value := [v, .int .i64 n, .int .i64 s, .bool k] ++ (b.map (Value.int .u8) ++ [.int .i64 f.o, .int .u8 f.k, .int .u8 f.s, .int .u32 f.q, .int .u32 f.v, .bool p, .bool q])
section
variable {v : Value} {n s : Int} {k : Bool} {b : List Int} {f : Fr} {p q : Bool}
theorem catL_body (hb : b.length = 112) (i : Nat) (hi : i < 112) : (catL v n s k b f p q)[4 + i]? = some (.int .u8 (b.getD i 0)) := by
  rw [catL, List.getElem?_append_right (by simp), List.getElem?_append_left (by simp; omega)]
  simp [hb, hi]
theorem catL_end (hb : b.length = 112) (i : Nat) : (catL v n s k b f p q)[116 + i]? = ([.int .i64 f.o, .int .u8 f.k, .int .u8 f.s, .int .u32 f.q, .int .u32 f.v, .bool p, .bool q] : List Value)[i]? := by
  rw [catL, List.getElem?_append_right (by simp; omega), List.getElem?_append_right (by simp; omega)]
  simp only [List.length_cons, List.length_nil, List.length_map, hb]
  congr 1
  omega
theorem catL_length (hb : b.length = 112) : (catL v n s k b f p q).length = 123 := by simp [catL, hb]
theorem catL_set0 (u : Value) : (catL v n s k b f p q).set 0 u = catL u n s k b f p q := rfl
theorem catL_set1 (u : Int) : (catL v n s k b f p q).set 1 (.int .i64 u) = catL v u s k b f p q := rfl
theorem catL_set2 (u : Int) : (catL v n s k b f p q).set 2 (.int .i64 u) = catL v n u k b f p q := rfl
theorem catL_set3 (u : Bool) : (catL v n s k b f p q).set 3 (.bool u) = catL v n s u b f p q := rfl
theorem catL_setB (hb : b.length = 112) (i : Nat) (hi : i < 112) (u : Int) : (catL v n s k b f p q).set (4 + i) (.int .u8 u) = catL v n s k (b.set i u) f p q := by
  unfold catL
  rw [List.set_append_right _ _ (by simp), List.set_append_left _ _ (by simp; omega)]
  simp [List.map_set]
theorem catL_setE (hb : b.length = 112) (i : Nat) (u : Value) : (catL v n s k b f p q).set (116 + i) u = [v, .int .i64 n, .int .i64 s, .bool k] ++ (b.map (Value.int .u8) ++ ([.int .i64 f.o, .int .u8 f.k, .int .u8 f.s, .int .u32 f.q, .int .u32 f.v, .bool p, .bool q] : List Value).set i u) := by
  unfold catL
  rw [List.set_append_right _ _ (by simp; omega), List.set_append_right _ _ (by simp; omega)]
  simp only [List.length_cons, List.length_nil, List.length_map, hb]
  congr 3
  omega
theorem catL_setF (hb : b.length = 112) (h : Fr) : (((((catL v n s k b f p q).set 116 (.int .i64 h.o)).set 117 (.int .u8 h.k)).set 118 (.int .u8 h.s)).set 119 (.int .u32 h.q)).set 120 (.int .u32 h.v) = catL v n s k b h p q := by
  rw [catL_setE hb 0, show ([v, .int .i64 n, .int .i64 s, .bool k] ++ (b.map (Value.int .u8) ++ ([.int .i64 f.o, .int .u8 f.k, .int .u8 f.s, .int .u32 f.q, .int .u32 f.v, .bool p, .bool q] : List Value).set 0 (.int .i64 h.o))) = catL v n s k b ⟨h.o, f.k, f.s, f.q, f.v⟩ p q from rfl]
  rw [catL_setE hb 1, show ([v, .int .i64 n, .int .i64 s, .bool k] ++ (b.map (Value.int .u8) ++ ([.int .i64 h.o, .int .u8 f.k, .int .u8 f.s, .int .u32 f.q, .int .u32 f.v, .bool p, .bool q] : List Value).set 1 (.int .u8 h.k))) = catL v n s k b ⟨h.o, h.k, f.s, f.q, f.v⟩ p q from rfl]
  rw [catL_setE hb 2, show ([v, .int .i64 n, .int .i64 s, .bool k] ++ (b.map (Value.int .u8) ++ ([.int .i64 h.o, .int .u8 h.k, .int .u8 f.s, .int .u32 f.q, .int .u32 f.v, .bool p, .bool q] : List Value).set 2 (.int .u8 h.s))) = catL v n s k b ⟨h.o, h.k, h.s, f.q, f.v⟩ p q from rfl]
  rw [catL_setE hb 3, show ([v, .int .i64 n, .int .i64 s, .bool k] ++ (b.map (Value.int .u8) ++ ([.int .i64 h.o, .int .u8 h.k, .int .u8 h.s, .int .u32 f.q, .int .u32 f.v, .bool p, .bool q] : List Value).set 3 (.int .u32 h.q))) = catL v n s k b ⟨h.o, h.k, h.s, h.q, f.v⟩ p q from rfl]
  rw [catL_setE hb 4]
  rfl
theorem catL_setP (hb : b.length = 112) (u : Bool) : (catL v n s k b f p q).set 121 (.bool u) = catL v n s k b f u q := by rw [catL_setE hb 5]; rfl
theorem catL_setQ (hb : b.length = 112) (u : Bool) : (catL v n s k b f p q).set 122 (.bool u) = catL v n s k b f p u := by rw [catL_setE hb 6]; rfl
end
end Go.Proofs.YtkejpkcaojidaaaGreatDoor

namespace Go.Proofs.YtkejpkcaojidaaaGreatDoor
open Go.RowKit Crc
set_option linter.unusedVariables false

theorem counted_any (z : Int) (w : World) (r : Int) (hr : kn z = r) :
    Calls Tryz.prog 174 #[.int .u8 z] w fun e w' => e = .returned (.int .u8 r) ∧ Below w.heap.size w w' := by
  have hl : Lies .u8 (w.alloc (.cells #[.int .u8 z] 47)) (w.alloc (.cells #[.int .u8 z] 47)).heap.size (some ⟨w.heap.size, 0, none⟩) 1 [z] := Lies.new w _ .u8 [z] 1 rfl _ rfl
  have HW := Lib.hid (whole_any _ 1 1 [z] _ hl (by omega))
  have hb := below_al (Below.refl w.heap.size w) (.cells #[.int .u8 z] 47)
  have hz : wholeL [z] = wholeB z := by simp [wholeL]
  rw [hz] at HW
  cases hq : wholeB z with
  | false =>
    rw [kn_no hq] at hr
    subst hr
    rw [hq] at HW
    clear hq hz hl
    go_enter Tryz.func174, Tryz.ntmps174
    go_wp2_with (go_at_call 147; (with_reducible refine HW.out.mono ?_); rintro e w1 ⟨rfl, rfl⟩)
    go_ret
    exact ⟨rfl, hb⟩
  | true =>
    rw [kn_yes hq] at hr
    subst hr
    rw [hq] at HW
    clear hq hz hl
    go_enter Tryz.func174, Tryz.ntmps174
    go_wp2_with (go_at_call 147; (with_reducible refine HW.out.mono ?_); rintro e w1 ⟨rfl, rfl⟩)
    go_ret
    exact ⟨rfl, hb⟩

section
variable {g : Nat} {v : Value} {n s : Nat} {k : Bool} {b : List Int} {f : Fr} {p q : Bool} {w : World}
theorem Blk.ca (h : Blk w g 116 (catL v n s k b f p q).toArray) : w.cell? ⟨g, 0, none⟩ = some v ∧ w.cell? ⟨g, 1, none⟩ = some (.int .i64 n) ∧ w.cell? ⟨g, 2, none⟩ = some (.int .i64 s) ∧ w.cell? ⟨g, 3, none⟩ = some (.bool k) :=
  ⟨h.cell 0, h.cell 1, h.cell 2, h.cell 3⟩
theorem Blk.cb (h : Blk w g 116 (catL v n s k b f p q).toArray) (hb : b.length = 112) {i : Nat} (hi : i < 112) : w.cell? ⟨g, 4 + i, none⟩ = some (.int .u8 (b.getD i 0)) := by
  rw [h.cell, List.getElem?_toArray]; exact catL_body hb i hi
theorem Blk.cf_ (h : Blk w g 116 (catL v n s k b f p q).toArray) (hb : b.length = 112) :
    w.cell? ⟨g, 116, none⟩ = some (.int .i64 f.o) ∧ w.cell? ⟨g, 117, none⟩ = some (.int .u8 f.k) ∧ w.cell? ⟨g, 118, none⟩ = some (.int .u8 f.s) ∧ w.cell? ⟨g, 119, none⟩ = some (.int .u32 f.q) ∧ w.cell? ⟨g, 120, none⟩ = some (.int .u32 f.v) ∧ w.cell? ⟨g, 121, none⟩ = some (.bool p) ∧ w.cell? ⟨g, 122, none⟩ = some (.bool q) := by
  refine ⟨?_, ?_, ?_, ?_, ?_, ?_, ?_⟩
  all_goals rw [h.cell, List.getElem?_toArray]
  · exact catL_end hb 0
  · exact catL_end hb 1
  · exact catL_end hb 2
  · exact catL_end hb 3
  · exact catL_end hb 4
  · exact catL_end hb 5
  · exact catL_end hb 6

set_option maxRecDepth 100000 in
theorem high_is (h : Blk w g 116 (catL v n s k b f p q).toArray) (hb : b.length = 112) (r : Bool) (hr : (decide (114 ≤ n) && (p && !q)) = r) (F : Fr) (hF : (if r = true then f else Fr.zero) = F) :
    Calls Tryz.prog 35 #[.pointer (some ⟨g, 0, none⟩)] w fun e w' => e = .returned (.tuple #[.agg #[.int .i64 F.o, .int .u8 F.k, .int .u8 F.s, .int .u32 F.q, .int .u32 F.v], .bool r]) ∧ Below w.heap.size w w' := by
  have hq := h.alloc (.cells #[.int .i64 0, .int .u8 0, .int .u8 0, .int .u32 0, .int .u32 0] 112)
  have HX := Lib.hid hq
  have hN := Blk.new w 112 #[.int .i64 0, .int .u8 0, .int .u8 0, .int .u32 0, .int .u32 0]
  obtain ⟨c0, c1, c2, c3⟩ := hq.ca
  have hlt := hq.lt
  obtain ⟨d0, d1, d2, d3, d4, d5, d6⟩ := hq.cf_ hb
  have HB := Lib.hid hb
  have HBE := Lib.hid (below_al (Below.refl w.heap.size w) (.cells #[.int .i64 0, .int .u8 0, .int .u8 0, .int .u32 0, .int .u32 0] 112))
  have HZ := Lib.hid (show Ending.returned (.tuple #[.agg #[.int .i64 Fr.zero.o, .int .u8 Fr.zero.k, .int .u8 Fr.zero.s, .int .u32 Fr.zero.q, .int .u32 Fr.zero.v], .bool false]) = .returned (.tuple #[.agg #[.int .i64 0, .int .u8 0, .int .u8 0, .int .u32 0, .int .u32 0], .bool false]) from rfl)
  clear c0 c2 c3 hb
  by_cases e : 114 ≤ n
  · have hd : decide ((n : Int) < 114) = false := decide_eq_false (by omega)
    rw [decide_eq_true e, Bool.true_and] at hr
    have HT := Lib.hid (fun u => tgood_any p q u)
    rw [hr] at HT
    clear e h hq hr
    cases r with
    | false =>
      rw [if_neg (by decide)] at hF
      subst hF
      go_enter Tryz.func35, Tryz.ntmps35
      go_wp2_with (go_at_call 64; (with_reducible refine (HT.out _).mono ?_); rintro e w1 ⟨rfl, b1⟩; have hN1 := hN.on b1; have hlt1 := hN1.lt; have x0 := hN1.cell 0; have x1 := hN1.cell 1; have x2 := hN1.cell 2; have x3 := hN1.cell 3; have x4 := hN1.cell 4; have y0 := hN1.frozen 0; have y1 := hN1.frozen 1; have y2 := hN1.frozen 2; have y3 := hN1.frozen 3; have y4 := hN1.frozen 4; simp only [List.getElem?_toArray, List.getElem?_cons_zero, List.getElem?_cons_succ] at x0 x1 x2 x3 x4)
      refine bodyPost_ret (v := .tuple #[.agg #[.int .i64 0, .int .u8 0, .int .u8 0, .int .u32 0, .int .u32 0], .bool false]) (by simp [results, Tryz.results35, go_sem, x0, x1, x2, x3, x4]) rfl ⟨HZ.out.symm, ?_⟩
      exact below_five (below_then HBE.out b1) (Nat.le_refl _) _ _ _ _ _
    | true =>
      rw [if_pos rfl] at hF
      subst hF
      go_enter Tryz.func35, Tryz.ntmps35
      go_wp2_with (go_at_call 64; (with_reducible refine (HT.out _).mono ?_); rintro e w1 ⟨rfl, b1⟩; have hN1 := hN.on b1; have hlt1 := hN1.lt; have x0 := hN1.cell 0; have x1 := hN1.cell 1; have x2 := hN1.cell 2; have x3 := hN1.cell 3; have x4 := hN1.cell 4; have y0 := hN1.frozen 0; have y1 := hN1.frozen 1; have y2 := hN1.frozen 2; have y3 := hN1.frozen 3; have y4 := hN1.frozen 4; simp only [List.getElem?_toArray, List.getElem?_cons_zero, List.getElem?_cons_succ] at x0 x1 x2 x3 x4; have h1 := HX.out.on b1; obtain ⟨e0, e1, e2, e3, e4, e5, e6⟩ := h1.cf_ HB.out; have hlt2 := h1.lt)
      refine bodyPost_ret (v := .tuple #[.agg #[.int .i64 f.o, .int .u8 f.k, .int .u8 f.s, .int .u32 f.q, .int .u32 f.v], .bool true]) (by simp [results, Tryz.results35, go_sem, x0, x1, x2, x3, x4]) rfl ⟨rfl, ?_⟩
      exact below_five (below_then HBE.out b1) (Nat.le_refl _) _ _ _ _ _
  · have hd : decide ((n : Int) < 114) = true := decide_eq_true (by omega)
    rw [decide_eq_false e, Bool.false_and] at hr
    subst hr
    rw [if_neg (by decide)] at hF
    subst hF
    clear e h hq
    have hlt1 := hN.lt
    have x0 := hN.cell 0; have x1 := hN.cell 1; have x2 := hN.cell 2; have x3 := hN.cell 3; have x4 := hN.cell 4; have y0 := hN.frozen 0; have y1 := hN.frozen 1; have y2 := hN.frozen 2; have y3 := hN.frozen 3; have y4 := hN.frozen 4; simp only [List.getElem?_toArray, List.getElem?_cons_zero, List.getElem?_cons_succ] at x0 x1 x2 x3 x4
    go_enter Tryz.func35, Tryz.ntmps35
    go_wp2_with fail
    refine bodyPost_ret (v := .tuple #[.agg #[.int .i64 0, .int .u8 0, .int .u8 0, .int .u32 0, .int .u32 0], .bool false]) (by simp [results, Tryz.results35, go_sem, x0, x1, x2, x3, x4]) rfl ⟨HZ.out.symm, ?_⟩
    with_reducible exact HBE.out
end
theorem func_nil (w : World) : (binOp .eql 109 .nilFunc .nilFunc).run Tryz.prog w = .ok (.bool true) w := by kernel_rfl
theorem func_yes (F : FuncId) (a : Array Value) (w : World) : (binOp .eql 109 (.func (.func F) a #[]) .nilFunc).run Tryz.prog w = .ok (.bool false) w := by kernel_rfl
/-- The zero catch. -/
def catZ (v : Value) : List Value := catL v 0 0 false (List.replicate 112 0) Fr.zero false false
def firstV (o : Int) : Value := .func (.func 119) #[.int .i64 o] #[]
theorem zero_cat : Tryz.zeroCells116 = (catZ .nilFunc).toArray := by kernel_rfl
theorem zero_first (o : Int) : Tryz.zeroCells116.setIfInBounds 0 (.func (.func 119) #[.int .i64 o] #[]) = (catZ (firstV o)).toArray := by
  rw [zero_cat, List.setIfInBounds_toArray]
  rfl
set_option maxRecDepth 100000 in
theorem caNew_yes (o : Int) (w : World) (h0 : 0 ≤ o) (h1 : o < 8) : Calls Tryz.prog 96 #[.int .i64 o] w fun e w' => e = .returned (.tuple #[.pointer (some ⟨w.heap.size, 0, none⟩), .int .i64 0]) ∧ Blk w' w.heap.size 116 (catZ (firstV o)).toArray ∧ Below w.heap.size w w' := by
  have HZ := Lib.hid (zero_first o)
  go_enter Tryz.func96, Tryz.ntmps96
  go_wp2_with fail
  go_ret2
  rw [HZ.out]
  exact ⟨rfl, Blk.new _ _ _, below_al (Below.refl _ _) _⟩

theorem bytesP_yes {xs : List Int} (h : bytesOk xs = true) : bytesP xs = bytesL xs := by simp [bytesP, h]
theorem bytesP_no {xs : List Int} (h : bytesOk xs = false) : bytesP xs = [] := by simp [bytesP, h]
theorem bytesOk_whole {xs : List Int} (h : bytesOk xs = true) : wholeL xs = true := by simp only [bytesOk, Bool.and_eq_true] at h; exact h.2
theorem bytesP_bd (xs : List Int) : ∀ x ∈ bytesP xs, 0 ≤ x ∧ x ≤ 255 := by
  cases h : bytesOk xs with
  | true => rw [bytesP_yes h]; exact bytesL_bd xs (bytesOk_whole h)
  | false => rw [bytesP_no h]; intro x hx; cases hx
theorem bytes_all (A : Option Addr) (n c : Nat) (xs : List Int) (w : World) (hx : Lies .u8 w w.heap.size A n xs) (hn : n ≤ 65536) (L : List Int) (hL : bytesP xs = L) (m : Nat) (hm : L.length = m) (r : Bool) (hr : bytesOk xs = r) :
    Calls Tryz.prog 143 #[.slice A n c] w fun e w' => ∃ A', e = .returned (.tuple #[.slice A' m m, .bool r]) ∧ Lies .u8 w' w'.heap.size A' m L ∧ Below w.heap.size w w' := by
  subst hL hm hr
  have hl := hx.len
  cases h : bytesOk xs with
  | true =>
    refine (bytes_yes A n c xs w hx hn h).mono fun e w' ⟨g, h1, h2, h3, h4⟩ => ?_
    have e1 : (bytesP xs).length = n / 8 := by rw [bytesP_yes h, bytesL_length, hl]
    rw [e1]
    refine ⟨_, h1, ?_, h4⟩
    rw [bytesP_yes h]
    exact h3.lies (by rw [bytesL_length, hl])
  | false =>
    refine (bytes_no A n c xs w hx hn h).mono fun e w' ⟨h1, h2⟩ => ?_
    subst h2
    rw [bytesP_no h]
    exact ⟨none, h1, Lies.nil_, Below.refl _ _⟩
set_option maxRecDepth 100000 in
set_option maxHeartbeats 4000000 in
theorem read_is (o : Int) (A : Option Addr) (c : Nat) (xs : List Int) (w : World) (hx : Lies .u8 w w.heap.size A 112 xs) (r : Bool) (hr : isB o xs = r) (F : Fr) (hF : (if r = true then getF (bytesP xs) else Fr.zero) = F) :
    Calls Tryz.prog 139 #[.int .i64 o, .slice A 112 c] w fun e w' => e = .returned (.tuple #[.agg #[.int .i64 F.o, .int .u8 F.k, .int .u8 F.s, .int .u32 F.q, .int .u32 F.v], .bool r]) ∧ Below w.heap.size w w' := by
  have hbd := bytesP_bd xs
  obtain ⟨L, hL⟩ : ∃ L, bytesP xs = L := ⟨_, rfl⟩
  obtain ⟨m, hm⟩ : ∃ m, L.length = m := ⟨_, rfl⟩
  rw [isB, hL] at hr
  rw [hL] at hbd hF
  have HBY := Lib.hid (bytes_all A 112 c xs _ (hx.al (.cells #[.int .i64 0, .int .u8 0, .int .u8 0, .int .u32 0, .int .u32 0] 112)) (by omega) L hL m hm _ rfl)
  obtain ⟨okb, hok⟩ : ∃ okb, bytesOk xs = okb := ⟨_, rfl⟩
  rw [hok] at HBY
  have HGT := Lib.hid (fun u B (hu : Lies .u8 u u.heap.size B m L) => frGet_any B m m L u hu hbd (Nat.le_refl _))
  obtain ⟨G, hG⟩ : ∃ G, getF L = G := ⟨_, rfl⟩
  obtain ⟨E, hE⟩ : ∃ E, getE L = E := ⟨_, rfl⟩
  rw [hG, hE] at HGT
  rw [hE, hG] at hr
  rw [hG] at hF
  have hN := Blk.new w 112 #[.int .i64 0, .int .u8 0, .int .u8 0, .int .u32 0, .int .u32 0]
  have HBE := Lib.hid (below_al (Below.refl w.heap.size w) (.cells #[.int .i64 0, .int .u8 0, .int .u8 0, .int .u32 0, .int .u32 0] 112))
  have HZ := Lib.hid (show Ending.returned (.tuple #[.agg #[.int .i64 Fr.zero.o, .int .u8 Fr.zero.k, .int .u8 Fr.zero.s, .int .u32 Fr.zero.q, .int .u32 Fr.zero.v], .bool false]) = .returned (.tuple #[.agg #[.int .i64 0, .int .u8 0, .int .u8 0, .int .u32 0, .int .u32 0], .bool false]) from rfl)
  clear hx hbd hL hm hG hE hok
  by_cases e0 : E = 0
  · subst e0
    by_cases e1 : G.o = o
    · have q1 : (G.o != o) = false := by simp [e1]
      have q2 : (G.o == o) = true := by simp [e1]
      rw [q2] at hr
      simp only [beq_self_eq_true, Bool.and_self] at hr
      subst hr
      rw [if_pos rfl] at hF
      subst hF
      clear e1 q2
      go_enter Tryz.func139, Tryz.ntmps139
      go_wp2_with (first
        | (go_at_call 143; with_reducible refine HBY.out.mono ?_; rintro e w1 ⟨A1, rfl, hl1, b1⟩)
        | (go_at_call 144; with_reducible refine (HGT.out _ _ hl1).mono ?_; rintro e w2 ⟨rfl, b2⟩; have hN1 := (hN.on b1).on b2; have hN2 := hN1.alloc (.cells #[.int .i64 G.o, .int .u8 G.k, .int .u8 G.s, .int .u32 G.q, .int .u32 G.v] 112); have hlt1 := hN1.lt; have x0 := hN1.cell 0; have x1 := hN1.cell 1; have x2 := hN1.cell 2; have x3 := hN1.cell 3; have x4 := hN1.cell 4; have y0 := hN1.frozen 0; have y1 := hN1.frozen 1; have y2 := hN1.frozen 2; have y3 := hN1.frozen 3; have y4 := hN1.frozen 4; simp only [List.getElem?_toArray, List.getElem?_cons_zero, List.getElem?_cons_succ] at x0 x1 x2 x3 x4; have b3 := below_then HBE.out (below_then b1 b2)))
      refine bodyPost_ret (v := .tuple #[.agg #[.int .i64 G.o, .int .u8 G.k, .int .u8 G.s, .int .u32 G.q, .int .u32 G.v], .bool true]) (by simp [results, Tryz.results139, go_sem, hlt1, x0, x1, x2, x3, x4]) rfl ⟨rfl, ?_⟩
      exact below_al (below_five b3 (Nat.le_refl _) _ _ _ _ _) _
    · have q1 : (G.o != o) = true := by simp [e1]
      have q2 : (G.o == o) = false := by simp [e1]
      rw [q2] at hr
      simp only [Bool.and_false] at hr
      subst hr
      rw [if_neg (by decide)] at hF
      subst hF
      clear e1 q2
      go_enter Tryz.func139, Tryz.ntmps139
      go_wp2_with (first
        | (go_at_call 143; with_reducible refine HBY.out.mono ?_; rintro e w1 ⟨A1, rfl, hl1, b1⟩)
        | (go_at_call 144; with_reducible refine (HGT.out _ _ hl1).mono ?_; rintro e w2 ⟨rfl, b2⟩; have hN1 := (hN.on b1).on b2; have hN2 := hN1.alloc (.cells #[.int .i64 G.o, .int .u8 G.k, .int .u8 G.s, .int .u32 G.q, .int .u32 G.v] 112); have hlt1 := hN1.lt; have x0 := hN1.cell 0; have x1 := hN1.cell 1; have x2 := hN1.cell 2; have x3 := hN1.cell 3; have x4 := hN1.cell 4; have y0 := hN1.frozen 0; have y1 := hN1.frozen 1; have y2 := hN1.frozen 2; have y3 := hN1.frozen 3; have y4 := hN1.frozen 4; simp only [List.getElem?_toArray, List.getElem?_cons_zero, List.getElem?_cons_succ] at x0 x1 x2 x3 x4; have b3 := below_then HBE.out (below_then b1 b2)))
      refine bodyPost_ret (v := .tuple #[.agg #[.int .i64 0, .int .u8 0, .int .u8 0, .int .u32 0, .int .u32 0], .bool false]) (by simp [results, Tryz.results139, go_sem, hlt1, x0, x1, x2, x3, x4]) rfl ⟨HZ.out.symm, ?_⟩
      exact below_al (below_five b3 (Nat.le_refl _) _ _ _ _ _) _
  · have q1 : (E != 0) = true := bne_iff_ne.2 e0
    have q2 : (E == 0) = false := beq_eq_false_iff_ne.2 e0
    rw [q2] at hr
    simp only [Bool.false_and] at hr
    subst hr
    rw [if_neg (by decide)] at hF
    subst hF
    clear e0 q2
    go_enter Tryz.func139, Tryz.ntmps139
    go_wp2_with (first
      | (go_at_call 143; with_reducible refine HBY.out.mono ?_; rintro e w1 ⟨A1, rfl, hl1, b1⟩)
      | (go_at_call 144; with_reducible refine (HGT.out _ _ hl1).mono ?_; rintro e w2 ⟨rfl, b2⟩; have hN1 := (hN.on b1).on b2; have hN2 := hN1.alloc (.cells #[.int .i64 G.o, .int .u8 G.k, .int .u8 G.s, .int .u32 G.q, .int .u32 G.v] 112); have hlt1 := hN1.lt; have x0 := hN1.cell 0; have x1 := hN1.cell 1; have x2 := hN1.cell 2; have x3 := hN1.cell 3; have x4 := hN1.cell 4; have y0 := hN1.frozen 0; have y1 := hN1.frozen 1; have y2 := hN1.frozen 2; have y3 := hN1.frozen 3; have y4 := hN1.frozen 4; simp only [List.getElem?_toArray, List.getElem?_cons_zero, List.getElem?_cons_succ] at x0 x1 x2 x3 x4; have b3 := below_then HBE.out (below_then b1 b2)))
    refine bodyPost_ret (v := .tuple #[.agg #[.int .i64 0, .int .u8 0, .int .u8 0, .int .u32 0, .int .u32 0], .bool false]) (by simp [results, Tryz.results139, go_sem, hlt1, x0, x1, x2, x3, x4]) rfl ⟨HZ.out.symm, ?_⟩
    exact below_al (below_five b3 (Nat.le_refl _) _ _ _ _ _) _
def secondV (o : Int) : Value := .func (.func 133) #[.int .i64 o] #[]
def thirdV (o : Int) : Value := .func (.func 141) #[.int .i64 o] #[]
theorem store_func (F : FuncId) (x : Array Value) (W : World) (a : Addr) : (store a (.func (.func F) x #[])).run Tryz.prog W = stored Tryz.prog W a (.func (.func F) x #[]) .plain := run_store Tryz.prog W a _ _ rfl
theorem store_nilf (W : World) (a : Addr) : (store a .nilFunc).run Tryz.prog W = stored Tryz.prog W a .nilFunc .plain := run_store Tryz.prog W a _ _ rfl
section
variable {g : Nat} {v : Value} {m s : Nat} {k : Bool} {b : List Int} {f : Fr} {p q : Bool} {w : World}
end
end Go.Proofs.YtkejpkcaojidaaaGreatDoor

namespace Go.Proofs.YtkejpkcaojidaaaGreatDoor
open Go.RowKit Crc
set_option linter.unusedVariables false

section
variable {g : Nat} {v : Value} {n s : Nat} {k : Bool} {b : List Int} {f : Fr} {p q : Bool} {w : World}
theorem Blk.bodyLies (h : Blk w g 116 (catL v n s k b f p q).toArray) (hb : b.length = 112) : Lies .u8 w w.heap.size (some ⟨g, 4, none⟩) 112 b :=
  ⟨hb, fun _ => ⟨g, 4, rfl, h.lt, fun j hj => h.cb hb hj⟩⟩
end

section
variable {g : Nat} {v : Value} {n s : Nat} {k : Bool} {b : List Int} {f : Fr} {p q : Bool} {w : World}
end
/-- Who takes the next pair, behind n. -/
def nextV (o : Int) (n : Nat) : Value := if n < 112 then firstV o else if n = 112 then secondV o else if n = 113 then thirdV o else .nilFunc
def catS (x y : Nat → Int) (o : Int) (n : Nat) : List Value := catL (nextV o n) n (sameF x y n) (cutF x y n) (bodyF x y n) (frF x y o n) (decide (113 ≤ n) && wholeC x y o) (decide (114 ≤ n) && !highC x y o)
/-- A catch in its block, that has had n pairs. -/
def Cat (w : World) (g : Nat) (x y : Nat → Int) (o : Int) (n : Nat) : Prop := Blk w g 116 (catS x y o n).toArray
/-- Is it high, behind n; of which frame? -/
def hiB (x y : Nat → Int) (o : Int) (n : Nat) : Bool := decide (114 ≤ n) && highC x y o
def hiF (x y : Nat → Int) (o : Int) (n : Nat) : Fr := if hiB x y o n = true then getF (bytesP (bodyW x y)) else Fr.zero
theorem catS_zero (x y : Nat → Int) (o : Int) : catS x y o 0 = catZ (firstV o) := by
  simp only [catS, catZ, nextV, sameF, cutF, bodyF_none, frF]
  rfl
section
variable {g n : Nat} {x y : Nat → Int} {o : Int} {w w' : World}
theorem Cat.on (h : Cat w g x y o n) (hb : Below w.heap.size w w') : Cat w' g x y o n := Blk.on h hb
theorem Cat.lt (h : Cat w g x y o n) : g < w.heap.size := Blk.lt h
theorem high_whole (h : highC x y o = true) : wholeC x y o = true := by
  simp only [highC, Bool.and_eq_true] at h
  exact h.1.1
theorem cHigh (h : Cat w g x y o n) (r : Bool) (hr : hiB x y o n = r) (F : Fr) (hF : hiF x y o n = F) : Calls Tryz.prog 35 #[.pointer (some ⟨g, 0, none⟩)] w fun e w' => e = .returned (.tuple #[.agg #[.int .i64 F.o, .int .u8 F.k, .int .u8 F.s, .int .u32 F.q, .int .u32 F.v], .bool r]) ∧ Below w.heap.size w w' := by
  subst hr hF
  refine high_is h (bodyF_length n) _ ?_ _ ?_
  · unfold hiB
    by_cases e : 114 ≤ n
    · simp only [decide_eq_true e, decide_eq_true (show 113 ≤ n by omega), Bool.true_and]
      cases hh : highC x y o
      · simp
      · simp [high_whole hh]
    · simp [e]
  · unfold hiF
    cases hh : hiB x y o n
    · rfl
    · simp only [hiB, Bool.and_eq_true, decide_eq_true_eq] at hh
      simp only [if_true, frF, decide_eq_true (show 113 ≤ n by omega), high_whole hh.2, Bool.and_self]
theorem nextV_112 : nextV o 112 = secondV o := by simp [nextV]
theorem nextV_113 : nextV o 113 = thirdV o := by simp [nextV]
theorem nextV_114 : nextV o 114 = .nilFunc := by simp [nextV]
theorem frF_112 : frF x y o 112 = Fr.zero := by simp [frF]
theorem frF_113 : frF x y o 113 = if wholeC x y o = true then getF (bytesP (bodyW x y)) else Fr.zero := by simp [frF]
theorem frF_114 : frF x y o 114 = frF x y o 113 := by simp [frF]
theorem catS_112 : catS x y o 112 = catL (secondV o) (112 : Nat) (sameF x y 112) (cutF x y 112) (bodyW x y) Fr.zero false false := by
  rw [catS, nextV_112, frF_112, bodyF_all 112 (Nat.le_refl _), show decide (113 ≤ 112) = false from by decide, show decide (114 ≤ 112) = false from by decide, Bool.false_and, Bool.false_and]
theorem catS_113 : catS x y o 113 = catL (thirdV o) (113 : Nat) (sameF x y 113) (cutF x y 113) (bodyW x y) (frF x y o 113) (wholeC x y o) false := by
  rw [catS, nextV_113, bodyF_all 113 (by omega), show decide (113 ≤ 113) = true from by decide, show decide (114 ≤ 113) = false from by decide, Bool.true_and, Bool.false_and]
theorem catS_114 : catS x y o 114 = catL .nilFunc (114 : Nat) (sameF x y 114) (cutF x y 114) (bodyW x y) (frF x y o 113) (wholeC x y o) (!highC x y o) := by
  rw [catS, nextV_114, frF_114, bodyF_all 114 (by omega), show decide (113 ≤ 114) = true from by decide, show decide (114 ≤ 114) = true from by decide, Bool.true_and, Bool.true_and]
theorem outC_112 : outC x y o 112 = if cutF x y 113 = true then 0 else tsy (wholeC x y o) := by
  unfold outC
  simp only [Nat.reduceAdd, Nat.reduceLT, if_false, if_true]
theorem outC_113 : outC x y o 113 = if cutF x y 114 = true then 0 else tsy (!highC x y o) := by
  unfold outC
  simp only [Nat.reduceAdd, Nat.reduceLT, Nat.reduceEqDiff, if_false, if_true]
end
end Go.Proofs.YtkejpkcaojidaaaGreatDoor

