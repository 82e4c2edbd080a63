/-
  The contracts of a catch's tail (whole, unlike) and of Step, by what the catch's block holds, and by what the catch has had ('Cat'); of New, Had, High, Unlike by what it has had. Conditions: the catch's reading.
-/
import Derived.Test.YtadcmoldpbnmnaaGreatDoorFrM
import Derived.Test.YtadcmoldpbnmnaaGreatDoorFrEq
import Derived.Test.YtadcmoldpbnmnaaGreatDoorReg3
import Derived.Deep.QuietTactic
import Derived.Deep.RegionLaw
namespace Go.Proofs.YtadcmoldpbnmnaaGreatDoor
open Go.RowKit Crc

/-- The symbol as which one counts. -/
def kn (z : Int) : Int := if wholeB z then z else 0
theorem kn_yes {z : Int} (h : wholeB z = true) : kn z = z := by simp [kn, h]
theorem kn_no {z : Int} (h : wholeB z = false) : kn z = 0 := by simp [kn, h]
theorem wholeB_iff (z : Int) : wholeB z = true ↔ z = 1 ∨ z = 2 := by simp [wholeB]
theorem kn_cases (z : Int) : kn z = 0 ∨ kn z = 1 ∨ kn z = 2 := by
  cases h : wholeB z
  · exact .inl (kn_no h)
  · rw [kn_yes h]; exact .inr ((wholeB_iff z).1 h)
theorem kn_ne {z : Int} (h : kn z ≠ 0) : kn z = z := by
  cases h1 : wholeB z
  · exact absurd (kn_no h1) h
  · exact kn_yes h1
theorem kn_idem (z : Int) : kn (kn z) = kn z := by
  cases h : wholeB z
  · rw [kn_no h]; rfl
  · rw [kn_yes h, kn_yes h]

/-- Of whatever symbols the bytes, or none. -/
def bytesP (xs : List Int) : List Int := if bytesOk xs then bytesL xs else []
/-- Is a body a frame of that owner? -/
def isB (o : Int) (xs : List Int) : Bool := getE (bytesP xs) == 0 && (getF (bytesP xs)).o == o

section
variable (x y : Nat → Int)
/-- Were both the same, and not none, at that place? -/
def al (j : Nat) : Bool := x j == y j && x j != 0
/-- What goes out in the body. -/
def bo (j : Nat) : Int := if x j = 0 then y j else x j
/-- How many of the first n were the same, from the first one on. -/
def sameF : Nat → Nat
  | 0 => 0
  | n + 1 => if sameF n = n ∧ al x y n = true then n + 1 else sameF n
/-- Is it cut off, by the first n? -/
def cutF : Nat → Bool
  | 0 => false
  | n + 1 => cutF n || (decide (n < 112) && bo x y n == 0)
/-- What is there of the body behind n. -/
def bodyF (n : Nat) : List Int := (List.range 112).map fun j => if j < n then bo x y j else 0
def bodyW : List Int := (List.range 112).map (bo x y)
variable (o : Int)
def wholeC : Bool := decide (sameF x y 113 = 113) && isB o (bodyW x y) && x 112 == 2
def highC : Bool := wholeC x y o && decide (sameF x y 114 = 114) && x 113 == 1
def frF (n : Nat) : Fr := if decide (113 ≤ n) && wholeC x y o then getF (bytesP (bodyW x y)) else Fr.zero
/-- What is given at a place. -/
def outC (j : Nat) : Int := if cutF x y (j + 1) then 0 else if j < 112 then bo x y j else if j = 112 then tsy (wholeC x y o) else if j = 113 then tsy (!highC x y o) else 0
/-- The first place that was unlike, of n. -/
def unlF (n : Nat) : Int := if sameF x y n = n then -1 else (sameF x y n : Int)
end
section
variable {x y : Nat → Int} {o : Int}
theorem sameF_le : ∀ n, sameF x y n ≤ n := by
  intro n
  induction n with
  | zero => exact Nat.le_refl _
  | succ n ih => unfold sameF; split <;> omega
theorem sameF_succ (n : Nat) : sameF x y (n + 1) = if sameF x y n = n ∧ al x y n = true then n + 1 else sameF x y n := rfl
theorem sameF_iff : ∀ n, sameF x y n = n ↔ ∀ j, j < n → al x y j = true := by
  intro n
  induction n with
  | zero => simp [sameF]
  | succ n ih =>
    rw [sameF_succ]
    constructor
    · intro h j hj
      split at h
      · rename_i q
        rcases Nat.lt_succ_iff_lt_or_eq.1 hj with r | r
        · exact (ih.1 q.1) j r
        · rw [r]; exact q.2
      · have := sameF_le (x := x) (y := y) n; omega
    · intro h
      rw [if_pos ⟨ih.2 fun j hj => h j (by omega), h n (by omega)⟩]
theorem sameF_min {n m : Nat} (hm : m < n) (h1 : ∀ j, j < m → al x y j = true) (h2 : al x y m = false) : sameF x y n = m := by
  induction n with
  | zero => omega
  | succ n ih =>
    rw [sameF_succ]
    rcases Nat.lt_succ_iff_lt_or_eq.1 hm with r | r
    · have := ih r
      rw [if_neg (by omega), this]
    · subst r
      rw [if_neg (by rw [h2]; simp), (sameF_iff m).2 h1]
/-- The first one that is not alike. -/
theorem sameF_at {n : Nat} (h : sameF x y n ≠ n) : sameF x y n < n ∧ al x y (sameF x y n) = false ∧ ∀ j, j < sameF x y n → al x y j = true := by
  induction n with
  | zero => simp [sameF] at h
  | succ n ih =>
    rw [sameF_succ] at h ⊢
    split at h
    · omega
    · rename_i q
      rw [if_neg q]
      by_cases e : sameF x y n = n
      · refine ⟨by omega, ?_, fun j hj => (sameF_iff n).1 e j (by omega)⟩
        rw [e]
        cases ha : al x y n
        · rfl
        · exact absurd ⟨e, ha⟩ q
      · obtain ⟨a, b, c⟩ := ih e
        exact ⟨by omega, b, c⟩
theorem cutF_iff : ∀ n, cutF x y n = false ↔ ∀ j, j < n → j < 112 → bo x y j ≠ 0 := by
  intro n
  induction n with
  | zero => simp [cutF]
  | succ n ih =>
    rw [cutF, Bool.or_eq_false_iff, ih]
    constructor
    · rintro ⟨h1, h2⟩ j hj h112
      rcases Nat.lt_succ_iff_lt_or_eq.1 hj with r | r
      · exact h1 j r h112
      · subst r
        simpa [h112] using h2
    · intro h
      refine ⟨fun j hj => h j (by omega), ?_⟩
      by_cases hn : n < 112
      · simp [hn, h n (by omega) hn]
      · simp [hn]
theorem bodyF_length (n : Nat) : (bodyF x y n).length = 112 := by simp [bodyF]
theorem bodyW_length : (bodyW x y).length = 112 := by simp [bodyW]
theorem bodyF_at (n j : Nat) (h : j < 112) : (bodyF x y n).getD j 0 = if j < n then bo x y j else 0 := by simp [bodyF, List.getD, h]
theorem bodyW_at (j : Nat) (h : j < 112) : (bodyW x y).getD j 0 = bo x y j := by simp [bodyW, List.getD, h]
theorem bodyF_all (n : Nat) (h : 112 ≤ n) : bodyF x y n = bodyW x y := by
  unfold bodyF bodyW
  refine List.map_congr_left fun j hj => ?_
  rw [List.mem_range] at hj
  rw [if_pos (by omega)]
theorem bodyF_none : bodyF x y 0 = List.replicate 112 0 := by
  unfold bodyF
  simp [List.map_const']
theorem bodyF_set (n : Nat) : (bodyF x y n).set n (bo x y n) = bodyF x y (n + 1) := by
  refine List.ext_getElem (by simp [bodyF_length]) fun j h1 h2 => ?_
  simp only [List.length_set, bodyF_length] at h1
  rw [List.getElem_set]
  simp only [bodyF, List.getElem_map, List.getElem_range]
  by_cases e : n = j
  · subst e; simp
  · rw [if_neg e]
    by_cases hj : j < n
    · rw [if_pos hj, if_pos (by omega)]
    · rw [if_neg hj, if_neg (by omega)]
theorem al_bo {j : Nat} (h : al x y j = true) : bo x y j = x j ∧ x j = y j ∧ x j ≠ 0 := by
  simp only [al, Bool.and_eq_true, beq_iff_eq, bne_iff_ne] at h
  exact ⟨by simp [bo, h.2], h.1, h.2⟩
end
/-- A catch in its block: who takes its next pair; how many it has had, were the same; is it cut off; its body, its frame, its tail. -/
def catL (v : Value) (n s : Int) (k : Bool) (b : List Int) (f : Fr) (p q : Bool) : List Value := [v, .int .i64 n, .int .i64 s, .bool k] ++ (b.map (Value.int .u8) ++ [.int .i64 f.o, .int .u8 f.k, .int .u8 f.s, .int .u32 f.q, .int .u32 f.v, .bool p, .bool q])
section
variable {v : Value} {n s : Int} {k : Bool} {b : List Int} {f : Fr} {p q : Bool}
theorem catL_body (hb : b.length = 112) (i : Nat) (hi : i < 112) : (catL v n s k b f p q)[4 + i]? = some (.int .u8 (b.getD i 0)) := by
  rw [catL, List.getElem?_append_right (by simp), List.getElem?_append_left (by simp; omega)]
  simp [hb, hi]
theorem catL_end (hb : b.length = 112) (i : Nat) : (catL v n s k b f p q)[116 + i]? = ([.int .i64 f.o, .int .u8 f.k, .int .u8 f.s, .int .u32 f.q, .int .u32 f.v, .bool p, .bool q] : List Value)[i]? := by
  rw [catL, List.getElem?_append_right (by simp; omega), List.getElem?_append_right (by simp; omega)]
  simp only [List.length_cons, List.length_nil, List.length_map, hb]
  congr 1
  omega
theorem catL_length (hb : b.length = 112) : (catL v n s k b f p q).length = 123 := by simp [catL, hb]
theorem catL_set0 (u : Value) : (catL v n s k b f p q).set 0 u = catL u n s k b f p q := rfl
theorem catL_set1 (u : Int) : (catL v n s k b f p q).set 1 (.int .i64 u) = catL v u s k b f p q := rfl
theorem catL_set2 (u : Int) : (catL v n s k b f p q).set 2 (.int .i64 u) = catL v n u k b f p q := rfl
theorem catL_set3 (u : Bool) : (catL v n s k b f p q).set 3 (.bool u) = catL v n s u b f p q := rfl
theorem catL_setB (hb : b.length = 112) (i : Nat) (hi : i < 112) (u : Int) : (catL v n s k b f p q).set (4 + i) (.int .u8 u) = catL v n s k (b.set i u) f p q := by
  unfold catL
  rw [List.set_append_right _ _ (by simp), List.set_append_left _ _ (by simp; omega)]
  simp [List.map_set]
theorem catL_setE (hb : b.length = 112) (i : Nat) (u : Value) : (catL v n s k b f p q).set (116 + i) u = [v, .int .i64 n, .int .i64 s, .bool k] ++ (b.map (Value.int .u8) ++ ([.int .i64 f.o, .int .u8 f.k, .int .u8 f.s, .int .u32 f.q, .int .u32 f.v, .bool p, .bool q] : List Value).set i u) := by
  unfold catL
  rw [List.set_append_right _ _ (by simp; omega), List.set_append_right _ _ (by simp; omega)]
  simp only [List.length_cons, List.length_nil, List.length_map, hb]
  congr 3
  omega
theorem catL_setF (hb : b.length = 112) (h : Fr) : (((((catL v n s k b f p q).set 116 (.int .i64 h.o)).set 117 (.int .u8 h.k)).set 118 (.int .u8 h.s)).set 119 (.int .u32 h.q)).set 120 (.int .u32 h.v) = catL v n s k b h p q := by
  rw [catL_setE hb 0, show ([v, .int .i64 n, .int .i64 s, .bool k] ++ (b.map (Value.int .u8) ++ ([.int .i64 f.o, .int .u8 f.k, .int .u8 f.s, .int .u32 f.q, .int .u32 f.v, .bool p, .bool q] : List Value).set 0 (.int .i64 h.o))) = catL v n s k b ⟨h.o, f.k, f.s, f.q, f.v⟩ p q from rfl]
  rw [catL_setE hb 1, show ([v, .int .i64 n, .int .i64 s, .bool k] ++ (b.map (Value.int .u8) ++ ([.int .i64 h.o, .int .u8 f.k, .int .u8 f.s, .int .u32 f.q, .int .u32 f.v, .bool p, .bool q] : List Value).set 1 (.int .u8 h.k))) = catL v n s k b ⟨h.o, h.k, f.s, f.q, f.v⟩ p q from rfl]
  rw [catL_setE hb 2, show ([v, .int .i64 n, .int .i64 s, .bool k] ++ (b.map (Value.int .u8) ++ ([.int .i64 h.o, .int .u8 h.k, .int .u8 f.s, .int .u32 f.q, .int .u32 f.v, .bool p, .bool q] : List Value).set 2 (.int .u8 h.s))) = catL v n s k b ⟨h.o, h.k, h.s, f.q, f.v⟩ p q from rfl]
  rw [catL_setE hb 3, show ([v, .int .i64 n, .int .i64 s, .bool k] ++ (b.map (Value.int .u8) ++ ([.int .i64 h.o, .int .u8 h.k, .int .u8 h.s, .int .u32 f.q, .int .u32 f.v, .bool p, .bool q] : List Value).set 3 (.int .u32 h.q))) = catL v n s k b ⟨h.o, h.k, h.s, h.q, f.v⟩ p q from rfl]
  rw [catL_setE hb 4]
  rfl
theorem catL_setP (hb : b.length = 112) (u : Bool) : (catL v n s k b f p q).set 121 (.bool u) = catL v n s k b f u q := by rw [catL_setE hb 5]; rfl
theorem catL_setQ (hb : b.length = 112) (u : Bool) : (catL v n s k b f p q).set 122 (.bool u) = catL v n s k b f p u := by rw [catL_setE hb 6]; rfl
end
end Go.Proofs.YtadcmoldpbnmnaaGreatDoor

namespace Go.Proofs.YtadcmoldpbnmnaaGreatDoor
open Go.RowKit Crc
set_option linter.unusedVariables false

theorem counted_any (z : Int) (w : World) (r : Int) (hr : kn z = r) :
    Calls Tryz.prog 175 #[.int .u8 z] w fun e w' => e = .returned (.int .u8 r) ∧ Below w.heap.size w w' := by
  have hl : Lies .u8 (w.alloc (.cells #[.int .u8 z] 47)) (w.alloc (.cells #[.int .u8 z] 47)).heap.size (some ⟨w.heap.size, 0, none⟩) 1 [z] := Lies.new w _ .u8 [z] 1 rfl _ rfl
  have HW := Lib.hid (whole_any _ 1 1 [z] _ hl (by omega))
  have hb := below_al (Below.refl w.heap.size w) (.cells #[.int .u8 z] 47)
  have hz : wholeL [z] = wholeB z := by simp [wholeL]
  rw [hz] at HW
  cases hq : wholeB z with
  | false =>
    rw [kn_no hq] at hr
    subst hr
    rw [hq] at HW
    clear hq hz hl
    go_enter Tryz.func175, Tryz.ntmps175
    go_wp2_with (go_at_call 148; (with_reducible refine HW.out.mono ?_); rintro e w1 ⟨rfl, rfl⟩)
    go_ret
    exact ⟨rfl, hb⟩
  | true =>
    rw [kn_yes hq] at hr
    subst hr
    rw [hq] at HW
    clear hq hz hl
    go_enter Tryz.func175, Tryz.ntmps175
    go_wp2_with (go_at_call 148; (with_reducible refine HW.out.mono ?_); rintro e w1 ⟨rfl, rfl⟩)
    go_ret
    exact ⟨rfl, hb⟩

section
variable {g : Nat} {v : Value} {n s : Nat} {k : Bool} {b : List Int} {f : Fr} {p q : Bool} {w : World}
theorem Blk.ca (h : Blk w g 119 (catL v n s k b f p q).toArray) : w.cell? ⟨g, 0, none⟩ = some v ∧ w.cell? ⟨g, 1, none⟩ = some (.int .i64 n) ∧ w.cell? ⟨g, 2, none⟩ = some (.int .i64 s) ∧ w.cell? ⟨g, 3, none⟩ = some (.bool k) :=
  ⟨h.cell 0, h.cell 1, h.cell 2, h.cell 3⟩
theorem Blk.cb (h : Blk w g 119 (catL v n s k b f p q).toArray) (hb : b.length = 112) {i : Nat} (hi : i < 112) : w.cell? ⟨g, 4 + i, none⟩ = some (.int .u8 (b.getD i 0)) := by
  rw [h.cell, List.getElem?_toArray]; exact catL_body hb i hi
theorem Blk.cf_ (h : Blk w g 119 (catL v n s k b f p q).toArray) (hb : b.length = 112) :
    w.cell? ⟨g, 116, none⟩ = some (.int .i64 f.o) ∧ w.cell? ⟨g, 117, none⟩ = some (.int .u8 f.k) ∧ w.cell? ⟨g, 118, none⟩ = some (.int .u8 f.s) ∧ w.cell? ⟨g, 119, none⟩ = some (.int .u32 f.q) ∧ w.cell? ⟨g, 120, none⟩ = some (.int .u32 f.v) ∧ w.cell? ⟨g, 121, none⟩ = some (.bool p) ∧ w.cell? ⟨g, 122, none⟩ = some (.bool q) := by
  refine ⟨?_, ?_, ?_, ?_, ?_, ?_, ?_⟩
  all_goals rw [h.cell, List.getElem?_toArray]
  · exact catL_end hb 0
  · exact catL_end hb 1
  · exact catL_end hb 2
  · exact catL_end hb 3
  · exact catL_end hb 4
  · exact catL_end hb 5
  · exact catL_end hb 6

theorem allSame_is (h : Blk w g 119 (catL v n s k b f p q).toArray) (r : Bool) (hr : decide (s = n) = r) :
    Calls Tryz.prog 141 #[.pointer (some ⟨g, 0, none⟩)] w fun e w' => e = .returned (.bool r) ∧ Below w.heap.size w w' := by
  obtain ⟨c0, c1, c2, c3⟩ := h.ca
  have hlt := h.lt
  have he : ((s : Int) == (n : Int)) = r := by
    rw [← hr]
    by_cases e : s = n
    · subst e; simp
    · rw [decide_eq_false e]; exact beq_eq_false_iff_ne.2 (by omega)
  clear h c0 c3 hr
  go_enter Tryz.func141, Tryz.ntmps141
  go_wp2_with fail
  go_region
  all_goals (go_wp2_with fail)
  go_ret
  exact ⟨rfl, by first | exact Below.refl _ _ | exact below_same _ | exact (Below.refl _ _).drew⟩

set_option maxRecDepth 100000 in
theorem count_is {a d : Int} (h : Blk w g 119 (catL v n s k b f p q).toArray) (hn : n < 65536) (hs : s < 65536) (r1 r2 r3 : Bool) (h1 : decide (s = n) = r1) (h2 : (a == d) = r2) (h3 : (a != 0) = r3) :
    Calls Tryz.prog 176 #[.pointer (some ⟨g, 0, none⟩), .int .u8 a, .int .u8 d] w fun e w' => e = .returned (.tuple #[]) ∧ Blk w' g 119 (catL v (n + 1 : Nat) (if (r1 && r2 && r3) = true then s + 1 else s : Nat) k b f p q).toArray ∧ But g w w' := by
  have HR := Lib.hid h1
  clear h1
  have hw1 : IntKind.i64.wrap ((n : Int) + 1) = (n : Int) + 1 := IntWalk.i64_in _ (by omega)
  have hw2 : IntKind.i64.wrap ((s : Int) + 1) = (s : Int) + 1 := IntWalk.i64_in _ (by omega)
  have HX := Lib.hid h
  clear h hn hs
  cases r1 <;> cases r2 <;> cases r3
  all_goals
    go_enter Tryz.func176, Tryz.ntmps176
    go_wp2_with (go_at_call 141; (with_reducible refine (allSame_is HX.out _ HR.out).mono ?_); rintro e w1 ⟨rfl, b1⟩; have h1 := HX.out.on b1; obtain ⟨c0, c1, c2, c3⟩ := h1.ca; have f1 := h1.frozen 1; have f2 := h1.frozen 2; have hlt := h1.lt)
    go_end0
    have hB := h1.set_ 1 (.int .i64 ((n : Int) + 1))
    have hC := (h1.set_ 2 (.int .i64 ((s : Int) + 1))).set_ 1 (.int .i64 ((n : Int) + 1))
    have hT := But.grow (g := g) (Nat.le_of_lt HX.out.lt) b1
    simp only [List.setIfInBounds_toArray, catL_set2, catL_set1] at hB hC
    first
      | exact ⟨rfl, hB, hT.set 1 _⟩
      | exact ⟨rfl, hC, (hT.set 2 _).set 1 _⟩

set_option maxRecDepth 100000 in
theorem high_is (h : Blk w g 119 (catL v n s k b f p q).toArray) (hb : b.length = 112) (r : Bool) (hr : (decide (114 ≤ n) && (p && !q)) = r) (F : Fr) (hF : (if r = true then f else Fr.zero) = F) :
    Calls Tryz.prog 36 #[.pointer (some ⟨g, 0, none⟩)] w fun e w' => e = .returned (.tuple #[.agg #[.int .i64 F.o, .int .u8 F.k, .int .u8 F.s, .int .u32 F.q, .int .u32 F.v], .bool r]) ∧ Below w.heap.size w w' := by
  have hq := h.alloc (.cells #[.int .i64 0, .int .u8 0, .int .u8 0, .int .u32 0, .int .u32 0] 115)
  have HX := Lib.hid hq
  have hN := Blk.new w 115 #[.int .i64 0, .int .u8 0, .int .u8 0, .int .u32 0, .int .u32 0]
  obtain ⟨c0, c1, c2, c3⟩ := hq.ca
  have hlt := hq.lt
  obtain ⟨d0, d1, d2, d3, d4, d5, d6⟩ := hq.cf_ hb
  have HB := Lib.hid hb
  have HBE := Lib.hid (below_al (Below.refl w.heap.size w) (.cells #[.int .i64 0, .int .u8 0, .int .u8 0, .int .u32 0, .int .u32 0] 115))
  have HZ := Lib.hid (show Ending.returned (.tuple #[.agg #[.int .i64 Fr.zero.o, .int .u8 Fr.zero.k, .int .u8 Fr.zero.s, .int .u32 Fr.zero.q, .int .u32 Fr.zero.v], .bool false]) = .returned (.tuple #[.agg #[.int .i64 0, .int .u8 0, .int .u8 0, .int .u32 0, .int .u32 0], .bool false]) from rfl)
  clear c0 c2 c3 hb
  by_cases e : 114 ≤ n
  · have hd : decide ((n : Int) < 114) = false := decide_eq_false (by omega)
    rw [decide_eq_true e, Bool.true_and] at hr
    have HT := Lib.hid (fun u => tgood_any p q u)
    rw [hr] at HT
    clear e h hq hr
    cases r with
    | false =>
      rw [if_neg (by decide)] at hF
      subst hF
      go_enter Tryz.func36, Tryz.ntmps36
      go_wp2_with (go_at_call 65; (with_reducible refine (HT.out _).mono ?_); rintro e w1 ⟨rfl, b1⟩; have hN1 := hN.on b1; have hlt1 := hN1.lt; have x0 := hN1.cell 0; have x1 := hN1.cell 1; have x2 := hN1.cell 2; have x3 := hN1.cell 3; have x4 := hN1.cell 4; have y0 := hN1.frozen 0; have y1 := hN1.frozen 1; have y2 := hN1.frozen 2; have y3 := hN1.frozen 3; have y4 := hN1.frozen 4; simp only [List.getElem?_toArray, List.getElem?_cons_zero, List.getElem?_cons_succ] at x0 x1 x2 x3 x4)
      refine bodyPost_ret (v := .tuple #[.agg #[.int .i64 0, .int .u8 0, .int .u8 0, .int .u32 0, .int .u32 0], .bool false]) (by simp [results, Tryz.results36, go_sem, x0, x1, x2, x3, x4]) rfl ⟨HZ.out.symm, ?_⟩
      exact below_five (below_then HBE.out b1) (Nat.le_refl _) _ _ _ _ _
    | true =>
      rw [if_pos rfl] at hF
      subst hF
      go_enter Tryz.func36, Tryz.ntmps36
      go_wp2_with (go_at_call 65; (with_reducible refine (HT.out _).mono ?_); rintro e w1 ⟨rfl, b1⟩; have hN1 := hN.on b1; have hlt1 := hN1.lt; have x0 := hN1.cell 0; have x1 := hN1.cell 1; have x2 := hN1.cell 2; have x3 := hN1.cell 3; have x4 := hN1.cell 4; have y0 := hN1.frozen 0; have y1 := hN1.frozen 1; have y2 := hN1.frozen 2; have y3 := hN1.frozen 3; have y4 := hN1.frozen 4; simp only [List.getElem?_toArray, List.getElem?_cons_zero, List.getElem?_cons_succ] at x0 x1 x2 x3 x4; have h1 := HX.out.on b1; obtain ⟨e0, e1, e2, e3, e4, e5, e6⟩ := h1.cf_ HB.out; have hlt2 := h1.lt)
      refine bodyPost_ret (v := .tuple #[.agg #[.int .i64 f.o, .int .u8 f.k, .int .u8 f.s, .int .u32 f.q, .int .u32 f.v], .bool true]) (by simp [results, Tryz.results36, go_sem, x0, x1, x2, x3, x4]) rfl ⟨rfl, ?_⟩
      exact below_five (below_then HBE.out b1) (Nat.le_refl _) _ _ _ _ _
  · have hd : decide ((n : Int) < 114) = true := decide_eq_true (by omega)
    rw [decide_eq_false e, Bool.false_and] at hr
    subst hr
    rw [if_neg (by decide)] at hF
    subst hF
    clear e h hq
    have hlt1 := hN.lt
    have x0 := hN.cell 0; have x1 := hN.cell 1; have x2 := hN.cell 2; have x3 := hN.cell 3; have x4 := hN.cell 4; have y0 := hN.frozen 0; have y1 := hN.frozen 1; have y2 := hN.frozen 2; have y3 := hN.frozen 3; have y4 := hN.frozen 4; simp only [List.getElem?_toArray, List.getElem?_cons_zero, List.getElem?_cons_succ] at x0 x1 x2 x3 x4
    go_enter Tryz.func36, Tryz.ntmps36
    go_wp2_with fail
    refine bodyPost_ret (v := .tuple #[.agg #[.int .i64 0, .int .u8 0, .int .u8 0, .int .u32 0, .int .u32 0], .bool false]) (by simp [results, Tryz.results36, go_sem, x0, x1, x2, x3, x4]) rfl ⟨HZ.out.symm, ?_⟩
    with_reducible exact HBE.out
end
set_option maxRecDepth 100000 in
theorem high_nil (w : World) : Calls Tryz.prog 36 #[.pointer none] w fun e w' => e = .returned (.tuple #[.agg #[.int .i64 0, .int .u8 0, .int .u8 0, .int .u32 0, .int .u32 0], .bool false]) ∧ Below w.heap.size w w' := by
  have HBE := Lib.hid (below_al (Below.refl w.heap.size w) (.cells #[.int .i64 0, .int .u8 0, .int .u8 0, .int .u32 0, .int .u32 0] 115))
  go_enter Tryz.func36, Tryz.ntmps36
  go_wp2_with fail
  refine bodyPost_ret (v := .tuple #[.agg #[.int .i64 0, .int .u8 0, .int .u8 0, .int .u32 0, .int .u32 0], .bool false]) (by simp [results, Tryz.results36, go_sem]) rfl ⟨rfl, ?_⟩
  with_reducible exact HBE.out
set_option maxRecDepth 100000 in
theorem step_nil (a d : Int) (w : World) : Calls Tryz.prog 174 #[.pointer none, .int .u8 a, .int .u8 d] w fun e w' => e = .returned (.int .u8 0) ∧ w = w' := by
  go_enter Tryz.func174, Tryz.ntmps174
  go_wp2_with fail
  go_ret
  exact ⟨rfl, rfl⟩
theorem func_nil (w : World) : (binOp .eql 112 .nilFunc .nilFunc).run Tryz.prog w = .ok (.bool true) w := by kernel_rfl
theorem func_yes (F : FuncId) (a : Array Value) (w : World) : (binOp .eql 112 (.func (.func F) a #[]) .nilFunc).run Tryz.prog w = .ok (.bool false) w := by kernel_rfl
set_option maxRecDepth 100000 in
/-- A catch that has had all, or that no call made, takes nothing more. -/
theorem step_none {g : Nat} {n s : Nat} {k : Bool} {b : List Int} {f : Fr} {p q : Bool} {w : World} (a d : Int) (h : Blk w g 119 (catL .nilFunc n s k b f p q).toArray) :
    Calls Tryz.prog 174 #[.pointer (some ⟨g, 0, none⟩), .int .u8 a, .int .u8 d] w fun e w' => e = .returned (.int .u8 0) ∧ w = w' := by
  obtain ⟨c0, c1, c2, c3⟩ := h.ca
  have hlt := h.lt
  have hq := fun W => func_nil W
  clear h c1 c2 c3
  go_enter Tryz.func174, Tryz.ntmps174
  go_wp2_with fail
  go_ret
  exact ⟨rfl, rfl⟩
/-- The zero catch. -/
def catZ (v : Value) : List Value := catL v 0 0 false (List.replicate 112 0) Fr.zero false false
def firstV (o : Int) : Value := .func (.func 120) #[.int .i64 o] #[]
theorem zero_cat : Tryz.zeroCells119 = (catZ .nilFunc).toArray := by kernel_rfl
theorem zero_first (o : Int) : Tryz.zeroCells119.setIfInBounds 0 (.func (.func 120) #[.int .i64 o] #[]) = (catZ (firstV o)).toArray := by
  rw [zero_cat, List.setIfInBounds_toArray]
  rfl
theorem caNew_no (o : Int) (w : World) (h : o < 0 ∨ 8 ≤ o) : Calls Tryz.prog 97 #[.int .i64 o] w fun e w' => e = .returned (.tuple #[.pointer none, .int .i64 1]) ∧ w = w' := by
  rcases h with h | h
  all_goals
    go_enter Tryz.func97, Tryz.ntmps97
    go_wp2_with fail
    go_ret2
    exact ⟨rfl, rfl⟩
set_option maxRecDepth 100000 in
theorem caNew_yes (o : Int) (w : World) (h0 : 0 ≤ o) (h1 : o < 8) : Calls Tryz.prog 97 #[.int .i64 o] w fun e w' => e = .returned (.tuple #[.pointer (some ⟨w.heap.size, 0, none⟩), .int .i64 0]) ∧ Blk w' w.heap.size 119 (catZ (firstV o)).toArray ∧ Below w.heap.size w w' := by
  have HZ := Lib.hid (zero_first o)
  go_enter Tryz.func97, Tryz.ntmps97
  go_wp2_with fail
  go_ret2
  rw [HZ.out]
  exact ⟨rfl, Blk.new _ _ _, below_al (Below.refl _ _) _⟩

theorem bytesP_yes {xs : List Int} (h : bytesOk xs = true) : bytesP xs = bytesL xs := by simp [bytesP, h]
theorem bytesP_no {xs : List Int} (h : bytesOk xs = false) : bytesP xs = [] := by simp [bytesP, h]
theorem bytesOk_whole {xs : List Int} (h : bytesOk xs = true) : wholeL xs = true := by simp only [bytesOk, Bool.and_eq_true] at h; exact h.2
theorem bytesP_bd (xs : List Int) : ∀ x ∈ bytesP xs, 0 ≤ x ∧ x ≤ 255 := by
  cases h : bytesOk xs with
  | true => rw [bytesP_yes h]; exact bytesL_bd xs (bytesOk_whole h)
  | false => rw [bytesP_no h]; intro x hx; cases hx
theorem bytesP_len (xs : List Int) : (bytesP xs).length = if bytesOk xs = true then xs.length / 8 else 0 := by
  cases h : bytesOk xs with
  | true => rw [bytesP_yes h, bytesL_length]; rfl
  | false => rw [bytesP_no h]; rfl
theorem bytes_all (A : Option Addr) (n c : Nat) (xs : List Int) (w : World) (hx : Lies .u8 w w.heap.size A n xs) (hn : n ≤ 65536) (L : List Int) (hL : bytesP xs = L) (m : Nat) (hm : L.length = m) (r : Bool) (hr : bytesOk xs = r) :
    Calls Tryz.prog 144 #[.slice A n c] w fun e w' => ∃ A', e = .returned (.tuple #[.slice A' m m, .bool r]) ∧ Lies .u8 w' w'.heap.size A' m L ∧ Below w.heap.size w w' := by
  subst hL hm hr
  have hl := hx.len
  cases h : bytesOk xs with
  | true =>
    refine (bytes_yes A n c xs w hx hn h).mono fun e w' ⟨g, h1, h2, h3, h4⟩ => ?_
    have e1 : (bytesP xs).length = n / 8 := by rw [bytesP_yes h, bytesL_length, hl]
    rw [e1]
    refine ⟨_, h1, ?_, h4⟩
    rw [bytesP_yes h]
    exact h3.lies (by rw [bytesL_length, hl])
  | false =>
    refine (bytes_no A n c xs w hx hn h).mono fun e w' ⟨h1, h2⟩ => ?_
    subst h2
    rw [bytesP_no h]
    exact ⟨none, h1, Lies.nil_, Below.refl _ _⟩
set_option maxRecDepth 100000 in
set_option maxHeartbeats 4000000 in
theorem read_is (o : Int) (A : Option Addr) (c : Nat) (xs : List Int) (w : World) (hx : Lies .u8 w w.heap.size A 112 xs) (r : Bool) (hr : isB o xs = r) (F : Fr) (hF : (if r = true then getF (bytesP xs) else Fr.zero) = F) :
    Calls Tryz.prog 140 #[.int .i64 o, .slice A 112 c] w fun e w' => e = .returned (.tuple #[.agg #[.int .i64 F.o, .int .u8 F.k, .int .u8 F.s, .int .u32 F.q, .int .u32 F.v], .bool r]) ∧ Below w.heap.size w w' := by
  have hbd := bytesP_bd xs
  obtain ⟨L, hL⟩ : ∃ L, bytesP xs = L := ⟨_, rfl⟩
  obtain ⟨m, hm⟩ : ∃ m, L.length = m := ⟨_, rfl⟩
  rw [isB, hL] at hr
  rw [hL] at hbd hF
  have HBY := Lib.hid (bytes_all A 112 c xs _ (hx.al (.cells #[.int .i64 0, .int .u8 0, .int .u8 0, .int .u32 0, .int .u32 0] 115)) (by omega) L hL m hm _ rfl)
  obtain ⟨okb, hok⟩ : ∃ okb, bytesOk xs = okb := ⟨_, rfl⟩
  rw [hok] at HBY
  have HGT := Lib.hid (fun u B (hu : Lies .u8 u u.heap.size B m L) => frGet_any B m m L u hu hbd (Nat.le_refl _))
  obtain ⟨G, hG⟩ : ∃ G, getF L = G := ⟨_, rfl⟩
  obtain ⟨E, hE⟩ : ∃ E, getE L = E := ⟨_, rfl⟩
  rw [hG, hE] at HGT
  rw [hE, hG] at hr
  rw [hG] at hF
  have hN := Blk.new w 115 #[.int .i64 0, .int .u8 0, .int .u8 0, .int .u32 0, .int .u32 0]
  have HBE := Lib.hid (below_al (Below.refl w.heap.size w) (.cells #[.int .i64 0, .int .u8 0, .int .u8 0, .int .u32 0, .int .u32 0] 115))
  have HZ := Lib.hid (show Ending.returned (.tuple #[.agg #[.int .i64 Fr.zero.o, .int .u8 Fr.zero.k, .int .u8 Fr.zero.s, .int .u32 Fr.zero.q, .int .u32 Fr.zero.v], .bool false]) = .returned (.tuple #[.agg #[.int .i64 0, .int .u8 0, .int .u8 0, .int .u32 0, .int .u32 0], .bool false]) from rfl)
  clear hx hbd hL hm hG hE hok
  by_cases e0 : E = 0
  · subst e0
    by_cases e1 : G.o = o
    · have q1 : (G.o != o) = false := by simp [e1]
      have q2 : (G.o == o) = true := by simp [e1]
      rw [q2] at hr
      simp only [beq_self_eq_true, Bool.and_self] at hr
      subst hr
      rw [if_pos rfl] at hF
      subst hF
      clear e1 q2
      go_enter Tryz.func140, Tryz.ntmps140
      go_wp2_with (first
        | (go_at_call 144; with_reducible refine HBY.out.mono ?_; rintro e w1 ⟨A1, rfl, hl1, b1⟩)
        | (go_at_call 145; with_reducible refine (HGT.out _ _ hl1).mono ?_; rintro e w2 ⟨rfl, b2⟩; have hN1 := (hN.on b1).on b2; have hN2 := hN1.alloc (.cells #[.int .i64 G.o, .int .u8 G.k, .int .u8 G.s, .int .u32 G.q, .int .u32 G.v] 115); have hlt1 := hN1.lt; have x0 := hN1.cell 0; have x1 := hN1.cell 1; have x2 := hN1.cell 2; have x3 := hN1.cell 3; have x4 := hN1.cell 4; have y0 := hN1.frozen 0; have y1 := hN1.frozen 1; have y2 := hN1.frozen 2; have y3 := hN1.frozen 3; have y4 := hN1.frozen 4; simp only [List.getElem?_toArray, List.getElem?_cons_zero, List.getElem?_cons_succ] at x0 x1 x2 x3 x4; have b3 := below_then HBE.out (below_then b1 b2)))
      refine bodyPost_ret (v := .tuple #[.agg #[.int .i64 G.o, .int .u8 G.k, .int .u8 G.s, .int .u32 G.q, .int .u32 G.v], .bool true]) (by simp [results, Tryz.results140, go_sem, hlt1, x0, x1, x2, x3, x4]) rfl ⟨rfl, ?_⟩
      exact below_al (below_five b3 (Nat.le_refl _) _ _ _ _ _) _
    · have q1 : (G.o != o) = true := by simp [e1]
      have q2 : (G.o == o) = false := by simp [e1]
      rw [q2] at hr
      simp only [Bool.and_false] at hr
      subst hr
      rw [if_neg (by decide)] at hF
      subst hF
      clear e1 q2
      go_enter Tryz.func140, Tryz.ntmps140
      go_wp2_with (first
        | (go_at_call 144; with_reducible refine HBY.out.mono ?_; rintro e w1 ⟨A1, rfl, hl1, b1⟩)
        | (go_at_call 145; with_reducible refine (HGT.out _ _ hl1).mono ?_; rintro e w2 ⟨rfl, b2⟩; have hN1 := (hN.on b1).on b2; have hN2 := hN1.alloc (.cells #[.int .i64 G.o, .int .u8 G.k, .int .u8 G.s, .int .u32 G.q, .int .u32 G.v] 115); have hlt1 := hN1.lt; have x0 := hN1.cell 0; have x1 := hN1.cell 1; have x2 := hN1.cell 2; have x3 := hN1.cell 3; have x4 := hN1.cell 4; have y0 := hN1.frozen 0; have y1 := hN1.frozen 1; have y2 := hN1.frozen 2; have y3 := hN1.frozen 3; have y4 := hN1.frozen 4; simp only [List.getElem?_toArray, List.getElem?_cons_zero, List.getElem?_cons_succ] at x0 x1 x2 x3 x4; have b3 := below_then HBE.out (below_then b1 b2)))
      refine bodyPost_ret (v := .tuple #[.agg #[.int .i64 0, .int .u8 0, .int .u8 0, .int .u32 0, .int .u32 0], .bool false]) (by simp [results, Tryz.results140, go_sem, hlt1, x0, x1, x2, x3, x4]) rfl ⟨HZ.out.symm, ?_⟩
      exact below_al (below_five b3 (Nat.le_refl _) _ _ _ _ _) _
  · have q1 : (E != 0) = true := bne_iff_ne.2 e0
    have q2 : (E == 0) = false := beq_eq_false_iff_ne.2 e0
    rw [q2] at hr
    simp only [Bool.false_and] at hr
    subst hr
    rw [if_neg (by decide)] at hF
    subst hF
    clear e0 q2
    go_enter Tryz.func140, Tryz.ntmps140
    go_wp2_with (first
      | (go_at_call 144; with_reducible refine HBY.out.mono ?_; rintro e w1 ⟨A1, rfl, hl1, b1⟩)
      | (go_at_call 145; with_reducible refine (HGT.out _ _ hl1).mono ?_; rintro e w2 ⟨rfl, b2⟩; have hN1 := (hN.on b1).on b2; have hN2 := hN1.alloc (.cells #[.int .i64 G.o, .int .u8 G.k, .int .u8 G.s, .int .u32 G.q, .int .u32 G.v] 115); have hlt1 := hN1.lt; have x0 := hN1.cell 0; have x1 := hN1.cell 1; have x2 := hN1.cell 2; have x3 := hN1.cell 3; have x4 := hN1.cell 4; have y0 := hN1.frozen 0; have y1 := hN1.frozen 1; have y2 := hN1.frozen 2; have y3 := hN1.frozen 3; have y4 := hN1.frozen 4; simp only [List.getElem?_toArray, List.getElem?_cons_zero, List.getElem?_cons_succ] at x0 x1 x2 x3 x4; have b3 := below_then HBE.out (below_then b1 b2)))
    refine bodyPost_ret (v := .tuple #[.agg #[.int .i64 0, .int .u8 0, .int .u8 0, .int .u32 0, .int .u32 0], .bool false]) (by simp [results, Tryz.results140, go_sem, hlt1, x0, x1, x2, x3, x4]) rfl ⟨HZ.out.symm, ?_⟩
    exact below_al (below_five b3 (Nat.le_refl _) _ _ _ _ _) _
def secondV (o : Int) : Value := .func (.func 134) #[.int .i64 o] #[]
def thirdV (o : Int) : Value := .func (.func 142) #[.int .i64 o] #[]
theorem store_func (F : FuncId) (x : Array Value) (W : World) (a : Addr) : (store a (.func (.func F) x #[])).run Tryz.prog W = stored Tryz.prog W a (.func (.func F) x #[]) .plain := run_store Tryz.prog W a _ _ rfl
theorem store_nilf (W : World) (a : Addr) : (store a .nilFunc).run Tryz.prog W = stored Tryz.prog W a .nilFunc .plain := run_store Tryz.prog W a _ _ rfl
theorem idxBody {g m : Nat} (hm : m < 112) (w : World) : (Instr.indexAt 113 (.pointer (some ⟨g, 4, none⟩)) (.int .i64 (m : Int))).run Tryz.prog w = .ok (.pointer (some ⟨g, 4 + m, none⟩)) w := by
  rw [run_indexAt_array (h := by kernel_rfl), show Tryz.prog.arrayLen 113 = 112 by kernel_rfl, if_pos (by omega), show (sizeOf (Tryz.prog.elem 113)).run Tryz.prog w = .ok 1 w by kernel_rfl]
  simp [Result.andThen, Addr.add_lit]
section
variable {g : Nat} {v : Value} {m s : Nat} {k : Bool} {b : List Int} {f : Fr} {p q : Bool} {w : World}
set_option maxRecDepth 100000 in
set_option maxHeartbeats 4000000 in
theorem body_is (o a d : Int) (h : Blk w g 119 (catL v (m + 1 : Nat) s k b f p q).toArray) (hb : b.length = 112) (hm : m < 112) (z : Int) (hz : (if a = 0 then d else a) = z) (zz : Bool) (hzz : (z == 0) = zz) (kz : Bool) (hk : (k || zz) = kz) (v' : Value) (hv : (if m = 111 then secondV o else v) = v') (b' : List Int) (hb' : b.set m z = b') :
    Calls Tryz.prog 120 #[.int .i64 o, .pointer (some ⟨g, 0, none⟩), .int .u8 a, .int .u8 d] w fun e w' => e = .returned (.int .u8 z) ∧ Blk w' g 119 (catL v' (m + 1 : Nat) s kz b' f p q).toArray ∧ But g w w' := by
  obtain ⟨c0, c1, c2, c3⟩ := h.ca
  have cb := h.cb hb hm
  have hlt := h.lt
  have f0 := h.frozen 0
  have f3 := h.frozen 3
  have fb := h.frozen (4 + m)
  have hst := fun W A => store_func 134 #[.int .i64 o] W A
  have hix := fun W => idxBody (g := g) hm W
  have hw : IntKind.i64.wrap ((m : Int) + 1 - 1) = (m : Int) := by rw [show (m : Int) + 1 - 1 = m by omega]; exact IntWalk.i64_in _ (by omega)
  have hw' : IntKind.i64.wrap ((m : Int)) = (m : Int) := IntWalk.i64_in _ (by omega)
  rw [show ((m + 1 : Nat) : Int) = (m : Int) + 1 from rfl] at c1
  have HB := Lib.hid (fun kk => show Blk (((w.setCell ⟨g, 4 + m, none⟩ (.int .u8 z)).setCell ⟨g, 3, none⟩ (.bool kk))) g 119 (catL v (m + 1 : Nat) s kk b' f p q).toArray by
    have := (h.set_ (4 + m) (.int .u8 z)).set_ 3 (.bool kk)
    rw [← hb']
    simpa only [List.setIfInBounds_toArray, catL_setB hb m hm, catL_set3] using this)
  have HT := Lib.hid (fun kk => ((But.refl g w).set (4 + m) (.int .u8 z)).set 3 (.bool kk))
  by_cases h1 : m = 111
  · rw [if_pos h1] at hv
    subst hv
    have HB2 := Lib.hid (fun kk => show Blk ((((w.setCell ⟨g, 4 + m, none⟩ (.int .u8 z)).setCell ⟨g, 3, none⟩ (.bool kk))).setCell ⟨g, 0, none⟩ (secondV o)) g 119 (catL (secondV o) (m + 1 : Nat) s kk b' f p q).toArray by
      have := (HB.out kk).set_ 0 (secondV o)
      simpa only [List.setIfInBounds_toArray, catL_set0] using this)
    have HT2 := Lib.hid (fun kk => (HT.out kk).set 0 (secondV o))
    clear HB HT
    subst h1
    clear h c2 hm hb
    simp only [Nat.reduceAdd] at HB2 HT2
    simp only [Nat.reduceAdd] at cb hix fb
    rw [show ((111 : Nat) : Int) + 1 = 112 from rfl] at c1
    simp only [show ((111 : Nat) : Int) = 111 from rfl] at hix hw hw'
    by_cases h2 : a = 0
    · subst h2
      rw [if_pos rfl] at hz
      subst hz
      cases zz <;> cases k
      all_goals
        obtain rfl := hk
        go_enter Tryz.func120, Tryz.ntmps120
        go_wp2_with fail
        go_region
        all_goals (go_wp2_with fail)
        all_goals go_ret
        all_goals exact ⟨rfl, HB2.out _, (HT2.out _).drew⟩
    · rw [if_neg h2] at hz
      subst hz
      have hne2 : (a == 0) = false := beq_eq_false_iff_ne.2 h2
      rw [hne2] at hzz
      subst hzz
      cases k
      all_goals
        obtain rfl := hk
        go_enter Tryz.func120, Tryz.ntmps120
        go_wp2_with fail
        go_region
        all_goals (go_wp2_with fail)
        all_goals go_ret
        all_goals exact ⟨rfl, HB2.out _, (HT2.out _).drew⟩
  · rw [if_neg h1] at hv
    subst hv
    have hne : ((m : Int) + 1 == 112) = false := beq_eq_false_iff_ne.2 (by omega)
    clear h c0 c2 h1 hm hb
    by_cases h2 : a = 0
    · subst h2
      rw [if_pos rfl] at hz
      subst hz
      cases zz <;> cases k
      all_goals
        obtain rfl := hk
        go_enter Tryz.func120, Tryz.ntmps120
        go_wp2_with fail
        go_region
        all_goals (go_wp2_with fail)
        all_goals go_ret
        all_goals exact ⟨rfl, HB.out _, (HT.out _).drew⟩
    · rw [if_neg h2] at hz
      subst hz
      have hne2 : (a == 0) = false := beq_eq_false_iff_ne.2 h2
      rw [hne2] at hzz
      subst hzz
      cases k
      all_goals
        obtain rfl := hk
        go_enter Tryz.func120, Tryz.ntmps120
        go_wp2_with fail
        go_region
        all_goals (go_wp2_with fail)
        all_goals go_ret
        all_goals exact ⟨rfl, HB.out _, (HT.out _).drew⟩
end
end Go.Proofs.YtadcmoldpbnmnaaGreatDoor

namespace Go.Proofs.YtadcmoldpbnmnaaGreatDoor
open Go.RowKit Crc
set_option linter.unusedVariables false

section
variable {g : Nat} {v : Value} {n s : Nat} {k : Bool} {b : List Int} {f : Fr} {p q : Bool} {w : World}
theorem Blk.bodyLies (h : Blk w g 119 (catL v n s k b f p q).toArray) (hb : b.length = 112) : Lies .u8 w w.heap.size (some ⟨g, 4, none⟩) 112 b :=
  ⟨hb, fun _ => ⟨g, 4, rfl, h.lt, fun j hj => h.cb hb hj⟩⟩
theorem sliceBody (g : Nat) (w : World) : (Instr.sliceAt 113 (.pointer (some ⟨g, 4, none⟩)) none none none).run Tryz.prog w = .ok (.slice (some ⟨g, 4, none⟩) 112 112) w := by kernel_rfl
set_option maxRecDepth 100000 in
set_option maxHeartbeats 4000000 in
theorem unlike3_is (o a d : Int) (h : Blk w g 119 (catL v n s k b f p false).toArray) (hb : b.length = 112) (r1 r2 : Bool) (h1 : decide (s = n) = r1) (h2 : (a != 1) = r2) (q' : Bool) (hq : (!p || !r1 || r2) = q') :
    Calls Tryz.prog 142 #[.int .i64 o, .pointer (some ⟨g, 0, none⟩), .int .u8 a, .int .u8 d] w fun e w' => e = .returned (.int .u8 (tsy q')) ∧ Blk w' g 119 (catL .nilFunc n s k b f p q').toArray ∧ But g w w' := by
  have hlt := h.lt
  obtain ⟨d0, d1, d2, d3, d4, d5, d6⟩ := h.cf_ hb
  have HB := Lib.hid hb
  have HX := Lib.hid h
  have HR := Lib.hid h1
  have hst := fun W A => store_nilf W A
  clear d0 d1 d2 d3 d4 h1 hb
  have f0 := h.frozen 0
  have f1 := h.frozen 122
  have c0 := h.ca.1
  have HA := Lib.hid (show ∀ u, Below w.heap.size w u → Blk ((u.setCell ⟨g, 122, none⟩ (.bool q')).setCell ⟨g, 0, none⟩ .nilFunc) g 119 (catL .nilFunc n s k b f p q').toArray ∧ But g w ((u.setCell ⟨g, 122, none⟩ (.bool q')).setCell ⟨g, 0, none⟩ .nilFunc) from fun u hu => by
    have := ((h.on hu).set_ 122 (.bool q')).set_ 0 .nilFunc
    simp only [List.setIfInBounds_toArray, catL_setQ HB.out, catL_set0] at this
    exact ⟨this, ((But.grow (Nat.le_of_lt h.lt) hu).set _ _).set _ _⟩)
  clear h
  have b1 := Below.refl w.heap.size w
  cases p <;> cases r1 <;> cases r2
  all_goals
    obtain rfl := hq
    go_enter Tryz.func142, Tryz.ntmps142
    go_wp2_with (first
      | (go_at_call 141; (with_reducible refine (allSame_is HX.out _ HR.out).mono ?_); rintro e w1 ⟨rfl, b1⟩; have h1 := HX.out.on b1; have f0 := h1.frozen 0; have f1 := h1.frozen 122; have c0 := h1.ca.1; obtain ⟨e0, e1, e2, e3, e4, d5, d6⟩ := h1.cf_ HB.out; have hlt := h1.lt)
      | (go_at_call 131; (with_reducible refine (tsyms_any _ _ _).mono ?_); rintro e w2 ⟨g2, rfl, hg2, hB2, b2⟩; have t0 := hB2.cell 0; have t1 := hB2.cell 1; have hlt2 := hB2.lt; rw [cellsOf_at _ _ _ (show 1 < 2 by decide)] at t1))
    go_ret
    obtain ⟨q1, q2⟩ := HA.out _ b1
    exact ⟨rfl, q1.on b2, q2.on HX.out.lt b2⟩
set_option maxRecDepth 100000 in
set_option maxHeartbeats 4000000 in
theorem whole3_is (o a d : Int) (h : Blk w g 119 (catL v n s k b Fr.zero false false).toArray) (hb : b.length = 112) (r0 r1 r2 : Bool) (h0 : isB o b = r0) (h1 : decide (s = n) = r1) (h2 : (a == 2) = r2) (p' : Bool) (hp : (r0 && r1 && r2) = p') (F : Fr) (hF : (if p' = true then getF (bytesP b) else Fr.zero) = F) :
    Calls Tryz.prog 134 #[.int .i64 o, .pointer (some ⟨g, 0, none⟩), .int .u8 a, .int .u8 d] w fun e w' => e = .returned (.int .u8 (tsy p')) ∧ Blk w' g 119 (catL (thirdV o) n s k b F p' false).toArray ∧ But g w w' := by
  have HB := Lib.hid hb
  have HX := Lib.hid h
  have HR := Lib.hid h1
  have HRD := Lib.hid (read_is o (some ⟨g, 4, none⟩) 112 b w (h.bodyLies hb) r0 h0 _ rfl)
  obtain ⟨G, hG⟩ : ∃ G, (if r0 = true then getF (bytesP b) else Fr.zero) = G := ⟨_, rfl⟩
  rw [hG] at HRD
  have hst := fun W A => store_func 142 #[.int .i64 o] W A
  have hsl := fun W => sliceBody g W
  have HA := Lib.hid (show ∀ u, Below w.heap.size w u → Blk (u.setCell ⟨g, 0, none⟩ (thirdV o)) g 119 (catL (thirdV o) n s k b Fr.zero false false).toArray ∧ But g w (u.setCell ⟨g, 0, none⟩ (thirdV o)) from fun u hu => by
    have := (h.on hu).set_ 0 (thirdV o)
    simp only [List.setIfInBounds_toArray, catL_set0] at this
    exact ⟨this, ((But.grow (Nat.le_of_lt h.lt) hu).set _ _)⟩)
  have HA2 := Lib.hid (show ∀ u, Below w.heap.size w u → Blk (((((((u.setCell ⟨g, 116, none⟩ (.int .i64 G.o)).setCell ⟨g, 117, none⟩ (.int .u8 G.k)).setCell ⟨g, 118, none⟩ (.int .u8 G.s)).setCell ⟨g, 119, none⟩ (.int .u32 G.q)).setCell ⟨g, 120, none⟩ (.int .u32 G.v)).setCell ⟨g, 121, none⟩ (.bool true)).setCell ⟨g, 0, none⟩ (thirdV o)) g 119 (catL (thirdV o) n s k b G true false).toArray ∧ But g w (((((((u.setCell ⟨g, 116, none⟩ (.int .i64 G.o)).setCell ⟨g, 117, none⟩ (.int .u8 G.k)).setCell ⟨g, 118, none⟩ (.int .u8 G.s)).setCell ⟨g, 119, none⟩ (.int .u32 G.q)).setCell ⟨g, 120, none⟩ (.int .u32 G.v)).setCell ⟨g, 121, none⟩ (.bool true)).setCell ⟨g, 0, none⟩ (thirdV o)) from fun u hu => by
    have := (((((((h.on hu).set_ 116 (.int .i64 G.o)).set_ 117 (.int .u8 G.k)).set_ 118 (.int .u8 G.s)).set_ 119 (.int .u32 G.q)).set_ 120 (.int .u32 G.v)).set_ 121 (.bool true)).set_ 0 (thirdV o)
    simp only [List.setIfInBounds_toArray, catL_setF HB.out, catL_setP HB.out, catL_set0] at this
    exact ⟨this, (((((((But.grow (Nat.le_of_lt h.lt) hu).set _ _).set _ _).set _ _).set _ _).set _ _).set _ _).set _ _⟩)
  clear h0 h1 hb h
  cases r0
  · cases r1 <;> cases r2
    all_goals
      obtain rfl := hp
      simp at hF
      first | (rw [if_pos rfl] at hG; rw [hG] at hF) | skip
      clear hG
      subst hF
      go_enter Tryz.func134, Tryz.ntmps134
      go_wp2_with (first
        | (go_at_call 140; (with_reducible refine HRD.out.mono ?_); rintro e w1 ⟨rfl, b1⟩; have hN := Blk.new w1 115 #[.int .i64 G.o, .int .u8 G.k, .int .u8 G.s, .int .u32 G.q, .int .u32 G.v]; have h1 := (HX.out.on b1).alloc (.cells #[.int .i64 G.o, .int .u8 G.k, .int .u8 G.s, .int .u32 G.q, .int .u32 G.v] 115); have b1 := below_al b1 (.cells #[.int .i64 G.o, .int .u8 G.k, .int .u8 G.s, .int .u32 G.q, .int .u32 G.v] 115); have f0 := h1.frozen 0; have c0 := h1.ca.1; obtain ⟨e0, e1, e2, e3, e4, d5, d6⟩ := h1.cf_ HB.out; have hlt := h1.lt)
        | (go_at_call 141; (with_reducible refine (allSame_is h1 _ HR.out).mono ?_); rintro e w2 ⟨rfl, b2⟩; have b1 := below_then b1 b2; have h1 := h1.on b2; have f0 := h1.frozen 0; have c0 := h1.ca.1; obtain ⟨e0, e1, e2, e3, e4, d5, d6⟩ := h1.cf_ HB.out; have hlt := h1.lt; have f1 := h1.frozen 116; have f2 := h1.frozen 117; have f3 := h1.frozen 118; have f4 := h1.frozen 119; have f5 := h1.frozen 120; have f6 := h1.frozen 121; have hN1 := hN.on b2; have hlt1 := hN1.lt; have x0 := hN1.cell 0; have x1 := hN1.cell 1; have x2 := hN1.cell 2; have x3 := hN1.cell 3; have x4 := hN1.cell 4; have y0 := hN1.frozen 0; have y1 := hN1.frozen 1; have y2 := hN1.frozen 2; have y3 := hN1.frozen 3; have y4 := hN1.frozen 4; simp only [List.getElem?_toArray, List.getElem?_cons_zero, List.getElem?_cons_succ] at x0 x1 x2 x3 x4)
        | (go_at_call 131; (with_reducible refine (tsyms_any _ _ _).mono ?_); rintro e w3 ⟨g2, rfl, hg2, hB2, b3⟩; have t0 := hB2.cell 0; have hlt2 := hB2.lt; rw [cellsOf_at _ _ _ (show 0 < 2 by decide)] at t0))
      go_ret
      obtain ⟨q1, q2⟩ := HA.out _ b1
      exact ⟨rfl, q1.on b3, q2.on HX.out.lt b3⟩
  · cases r1
    · cases r2
      all_goals
        obtain rfl := hp
        simp at hF
        first | (rw [if_pos rfl] at hG; rw [hG] at hF) | skip
        clear hG
        subst hF
        go_enter Tryz.func134, Tryz.ntmps134
        go_wp2_with (first
          | (go_at_call 140; (with_reducible refine HRD.out.mono ?_); rintro e w1 ⟨rfl, b1⟩; have hN := Blk.new w1 115 #[.int .i64 G.o, .int .u8 G.k, .int .u8 G.s, .int .u32 G.q, .int .u32 G.v]; have h1 := (HX.out.on b1).alloc (.cells #[.int .i64 G.o, .int .u8 G.k, .int .u8 G.s, .int .u32 G.q, .int .u32 G.v] 115); have b1 := below_al b1 (.cells #[.int .i64 G.o, .int .u8 G.k, .int .u8 G.s, .int .u32 G.q, .int .u32 G.v] 115); have f0 := h1.frozen 0; have c0 := h1.ca.1; obtain ⟨e0, e1, e2, e3, e4, d5, d6⟩ := h1.cf_ HB.out; have hlt := h1.lt)
          | (go_at_call 141; (with_reducible refine (allSame_is h1 _ HR.out).mono ?_); rintro e w2 ⟨rfl, b2⟩; have b1 := below_then b1 b2; have h1 := h1.on b2; have f0 := h1.frozen 0; have c0 := h1.ca.1; obtain ⟨e0, e1, e2, e3, e4, d5, d6⟩ := h1.cf_ HB.out; have hlt := h1.lt; have f1 := h1.frozen 116; have f2 := h1.frozen 117; have f3 := h1.frozen 118; have f4 := h1.frozen 119; have f5 := h1.frozen 120; have f6 := h1.frozen 121; have hN1 := hN.on b2; have hlt1 := hN1.lt; have x0 := hN1.cell 0; have x1 := hN1.cell 1; have x2 := hN1.cell 2; have x3 := hN1.cell 3; have x4 := hN1.cell 4; have y0 := hN1.frozen 0; have y1 := hN1.frozen 1; have y2 := hN1.frozen 2; have y3 := hN1.frozen 3; have y4 := hN1.frozen 4; simp only [List.getElem?_toArray, List.getElem?_cons_zero, List.getElem?_cons_succ] at x0 x1 x2 x3 x4)
          | (go_at_call 131; (with_reducible refine (tsyms_any _ _ _).mono ?_); rintro e w3 ⟨g2, rfl, hg2, hB2, b3⟩; have t0 := hB2.cell 0; have hlt2 := hB2.lt; rw [cellsOf_at _ _ _ (show 0 < 2 by decide)] at t0))
        go_ret
        obtain ⟨q1, q2⟩ := HA.out _ b1
        exact ⟨rfl, q1.on b3, q2.on HX.out.lt b3⟩
    · cases r2
      · skip
        obtain rfl := hp
        simp at hF
        first | (rw [if_pos rfl] at hG; rw [hG] at hF) | skip
        clear hG
        subst hF
        go_enter Tryz.func134, Tryz.ntmps134
        go_wp2_with (first
          | (go_at_call 140; (with_reducible refine HRD.out.mono ?_); rintro e w1 ⟨rfl, b1⟩; have hN := Blk.new w1 115 #[.int .i64 G.o, .int .u8 G.k, .int .u8 G.s, .int .u32 G.q, .int .u32 G.v]; have h1 := (HX.out.on b1).alloc (.cells #[.int .i64 G.o, .int .u8 G.k, .int .u8 G.s, .int .u32 G.q, .int .u32 G.v] 115); have b1 := below_al b1 (.cells #[.int .i64 G.o, .int .u8 G.k, .int .u8 G.s, .int .u32 G.q, .int .u32 G.v] 115); have f0 := h1.frozen 0; have c0 := h1.ca.1; obtain ⟨e0, e1, e2, e3, e4, d5, d6⟩ := h1.cf_ HB.out; have hlt := h1.lt)
          | (go_at_call 141; (with_reducible refine (allSame_is h1 _ HR.out).mono ?_); rintro e w2 ⟨rfl, b2⟩; have b1 := below_then b1 b2; have h1 := h1.on b2; have f0 := h1.frozen 0; have c0 := h1.ca.1; obtain ⟨e0, e1, e2, e3, e4, d5, d6⟩ := h1.cf_ HB.out; have hlt := h1.lt; have f1 := h1.frozen 116; have f2 := h1.frozen 117; have f3 := h1.frozen 118; have f4 := h1.frozen 119; have f5 := h1.frozen 120; have f6 := h1.frozen 121; have hN1 := hN.on b2; have hlt1 := hN1.lt; have x0 := hN1.cell 0; have x1 := hN1.cell 1; have x2 := hN1.cell 2; have x3 := hN1.cell 3; have x4 := hN1.cell 4; have y0 := hN1.frozen 0; have y1 := hN1.frozen 1; have y2 := hN1.frozen 2; have y3 := hN1.frozen 3; have y4 := hN1.frozen 4; simp only [List.getElem?_toArray, List.getElem?_cons_zero, List.getElem?_cons_succ] at x0 x1 x2 x3 x4)
          | (go_at_call 131; (with_reducible refine (tsyms_any _ _ _).mono ?_); rintro e w3 ⟨g2, rfl, hg2, hB2, b3⟩; have t0 := hB2.cell 0; have hlt2 := hB2.lt; rw [cellsOf_at _ _ _ (show 0 < 2 by decide)] at t0))
        go_ret
        obtain ⟨q1, q2⟩ := HA.out _ b1
        exact ⟨rfl, q1.on b3, q2.on HX.out.lt b3⟩
      · skip
        obtain rfl := hp
        simp at hF
        first | (rw [if_pos rfl] at hG; rw [hG] at hF) | skip
        clear hG
        subst hF
        go_enter Tryz.func134, Tryz.ntmps134
        go_wp2_with (first
          | (go_at_call 140; (with_reducible refine HRD.out.mono ?_); rintro e w1 ⟨rfl, b1⟩; have hN := Blk.new w1 115 #[.int .i64 G.o, .int .u8 G.k, .int .u8 G.s, .int .u32 G.q, .int .u32 G.v]; have h1 := (HX.out.on b1).alloc (.cells #[.int .i64 G.o, .int .u8 G.k, .int .u8 G.s, .int .u32 G.q, .int .u32 G.v] 115); have b1 := below_al b1 (.cells #[.int .i64 G.o, .int .u8 G.k, .int .u8 G.s, .int .u32 G.q, .int .u32 G.v] 115); have f0 := h1.frozen 0; have c0 := h1.ca.1; obtain ⟨e0, e1, e2, e3, e4, d5, d6⟩ := h1.cf_ HB.out; have hlt := h1.lt)
          | (go_at_call 141; (with_reducible refine (allSame_is h1 _ HR.out).mono ?_); rintro e w2 ⟨rfl, b2⟩; have b1 := below_then b1 b2; have h1 := h1.on b2; have f0 := h1.frozen 0; have c0 := h1.ca.1; obtain ⟨e0, e1, e2, e3, e4, d5, d6⟩ := h1.cf_ HB.out; have hlt := h1.lt; have f1 := h1.frozen 116; have f2 := h1.frozen 117; have f3 := h1.frozen 118; have f4 := h1.frozen 119; have f5 := h1.frozen 120; have f6 := h1.frozen 121; have hN1 := hN.on b2; have hlt1 := hN1.lt; have x0 := hN1.cell 0; have x1 := hN1.cell 1; have x2 := hN1.cell 2; have x3 := hN1.cell 3; have x4 := hN1.cell 4; have y0 := hN1.frozen 0; have y1 := hN1.frozen 1; have y2 := hN1.frozen 2; have y3 := hN1.frozen 3; have y4 := hN1.frozen 4; simp only [List.getElem?_toArray, List.getElem?_cons_zero, List.getElem?_cons_succ] at x0 x1 x2 x3 x4)
          | (go_at_call 131; (with_reducible refine (tsyms_any _ _ _).mono ?_); rintro e w3 ⟨g2, rfl, hg2, hB2, b3⟩; have t0 := hB2.cell 0; have hlt2 := hB2.lt; rw [cellsOf_at _ _ _ (show 0 < 2 by decide)] at t0))
        go_ret
        obtain ⟨q1, q2⟩ := HA2.out _ b1
        exact ⟨rfl, q1.on b3, q2.on HX.out.lt b3⟩
end

section
variable {g : Nat} {v : Value} {n s : Nat} {k : Bool} {b : List Int} {f : Fr} {p q : Bool} {w : World}
set_option maxRecDepth 100000 in
set_option maxHeartbeats 4000000 in
theorem step_low (o a d : Int) (h : Blk w g 119 (catL (firstV o) n s k b f p q).toArray) (hb : b.length = 112) (hn : n < 112) (hs : s ≤ n) (x y : Int) (hx : kn a = x) (hy : kn d = y)
    (s' : Nat) (hs' : (if (decide (s = n) && (x == y) && (x != 0)) = true then s + 1 else s) = s') (z : Int) (hz : (if x = 0 then y else x) = z) (kz : Bool) (hk : (k || z == 0) = kz) (r : Int) (hr : (if kz = true then 0 else z) = r) (v' : Value) (hv : (if n = 111 then secondV o else firstV o) = v') (b' : List Int) (hb' : b.set n z = b') :
    Calls Tryz.prog 174 #[.pointer (some ⟨g, 0, none⟩), .int .u8 a, .int .u8 d] w fun e w' => e = .returned (.int .u8 r) ∧ Blk w' g 119 (catL v' (n + 1 : Nat) s' kz b' f p q).toArray ∧ But g w w' := by
  have c0 := h.ca.1
  have hlt := h.lt
  have hq := fun W => func_yes 120 #[.int .i64 o] W
  have HX := Lib.hid h
  have HC := Lib.hid (fun u (hu : Blk u g 119 (catL (firstV o) n s k b f p q).toArray) => count_is hu (a := x) (d := y) (by omega) (by omega) _ _ _ rfl rfl rfl)
  rw [hs'] at HC
  have HBD := Lib.hid (fun u (hu : Blk u g 119 (catL (firstV o) (n + 1 : Nat) s' k b f p q).toArray) => body_is o x y hu hb hn z hz _ rfl kz hk v' hv b' hb')
  have HKA := Lib.hid hx
  have HKD := Lib.hid hy
  clear h hb hn hs hx hy hs' hz hk hv hb'
  rw [firstV] at c0
  cases kz
  all_goals
    obtain rfl := hr
    go_enter Tryz.func174, Tryz.ntmps174
    go_wp2_with (first
      | (go_at_call 175; (with_reducible refine (counted_any a _ x HKA.out).mono ?_); rintro e w1 ⟨rfl, b1⟩)
      | (go_at_call 175; (with_reducible refine (counted_any d _ y HKD.out).mono ?_); rintro e w2 ⟨rfl, b2⟩; have h2 := (HX.out.on b1).on b2)
      | (go_at_call 176; (with_reducible refine (HC.out _ h2).mono ?_); rintro e w3 ⟨rfl, h3, b3⟩; have c0 := h3.ca.1; rw [firstV] at c0; have hlt := h3.lt)
      | (go_at_call 120; (with_reducible refine (HBD.out _ h3).mono ?_); rintro e w4 ⟨rfl, h4, b4⟩; have c3 := h4.ca.2.2.2; have hlt := h4.lt))
    go_ret
    exact ⟨rfl, h4, ((But.grow (Nat.le_of_lt HX.out.lt) (below_then b1 b2)).trans b3).trans b4⟩
set_option maxRecDepth 100000 in
set_option maxHeartbeats 4000000 in
theorem step_mid (o a d : Int) (h : Blk w g 119 (catL (secondV o) (112 : Nat) s k b Fr.zero false false).toArray) (hb : b.length = 112) (hs : s ≤ 112) (x y : Int) (hx : kn a = x) (hy : kn d = y)
    (s' : Nat) (hs' : (if (decide (s = 112) && (x == y) && (x != 0)) = true then s + 1 else s) = s') (p' : Bool) (hp : (isB o b && decide (s' = 113) && (x == 2)) = p') (F : Fr) (hF : (if p' = true then getF (bytesP b) else Fr.zero) = F) (r : Int) (hr : (if k = true then 0 else tsy p') = r) :
    Calls Tryz.prog 174 #[.pointer (some ⟨g, 0, none⟩), .int .u8 a, .int .u8 d] w fun e w' => e = .returned (.int .u8 r) ∧ Blk w' g 119 (catL (thirdV o) (113 : Nat) s' k b F p' false).toArray ∧ But g w w' := by
  have c0 := h.ca.1
  have hlt := h.lt
  have hq := fun W => func_yes 134 #[.int .i64 o] W
  have HX := Lib.hid h
  have HC := Lib.hid (fun u (hu : Blk u g 119 (catL (secondV o) (112 : Nat) s k b Fr.zero false false).toArray) => count_is hu (a := x) (d := y) (by omega) (by omega) _ _ _ rfl rfl rfl)
  rw [hs'] at HC
  have HBD := Lib.hid (fun u (hu : Blk u g 119 (catL (secondV o) (112 + 1 : Nat) s' k b Fr.zero false false).toArray) => whole3_is o x y hu hb _ _ _ rfl rfl rfl p' hp F hF)
  have HKA := Lib.hid hx
  have HKD := Lib.hid hy
  clear h hb hs hx hy hs' hp hF
  rw [secondV] at c0
  cases k
  all_goals
    obtain rfl := hr
    go_enter Tryz.func174, Tryz.ntmps174
    go_wp2_with (first
      | (go_at_call 175; (with_reducible refine (counted_any a _ x HKA.out).mono ?_); rintro e w1 ⟨rfl, b1⟩)
      | (go_at_call 175; (with_reducible refine (counted_any d _ y HKD.out).mono ?_); rintro e w2 ⟨rfl, b2⟩; have h2 := (HX.out.on b1).on b2)
      | (go_at_call 176; (with_reducible refine (HC.out _ h2).mono ?_); rintro e w3 ⟨rfl, h3, b3⟩; have c0 := h3.ca.1; rw [secondV] at c0; have hlt := h3.lt)
      | (go_at_call 134; (with_reducible refine (HBD.out _ h3).mono ?_); rintro e w4 ⟨rfl, h4, b4⟩; have c3 := h4.ca.2.2.2; have hlt := h4.lt))
    go_ret
    exact ⟨rfl, h4, ((But.grow (Nat.le_of_lt HX.out.lt) (below_then b1 b2)).trans b3).trans b4⟩
set_option maxRecDepth 100000 in
set_option maxHeartbeats 4000000 in
theorem step_end (o a d : Int) (h : Blk w g 119 (catL (thirdV o) (113 : Nat) s k b f p false).toArray) (hb : b.length = 112) (hs : s ≤ 113) (x y : Int) (hx : kn a = x) (hy : kn d = y)
    (s' : Nat) (hs' : (if (decide (s = 113) && (x == y) && (x != 0)) = true then s + 1 else s) = s') (q' : Bool) (hq' : (!p || !decide (s' = 114) || (x != 1)) = q') (r : Int) (hr : (if k = true then 0 else tsy q') = r) :
    Calls Tryz.prog 174 #[.pointer (some ⟨g, 0, none⟩), .int .u8 a, .int .u8 d] w fun e w' => e = .returned (.int .u8 r) ∧ Blk w' g 119 (catL .nilFunc (114 : Nat) s' k b f p q').toArray ∧ But g w w' := by
  have c0 := h.ca.1
  have hlt := h.lt
  have hq := fun W => func_yes 142 #[.int .i64 o] W
  have HX := Lib.hid h
  have HC := Lib.hid (fun u (hu : Blk u g 119 (catL (thirdV o) (113 : Nat) s k b f p false).toArray) => count_is hu (a := x) (d := y) (by omega) (by omega) _ _ _ rfl rfl rfl)
  rw [hs'] at HC
  have HBD := Lib.hid (fun u (hu : Blk u g 119 (catL (thirdV o) (113 + 1 : Nat) s' k b f p false).toArray) => unlike3_is o x y hu hb _ _ rfl rfl q' hq')
  have HKA := Lib.hid hx
  have HKD := Lib.hid hy
  clear h hb hs hx hy hs' hq'
  rw [thirdV] at c0
  cases k
  all_goals
    obtain rfl := hr
    go_enter Tryz.func174, Tryz.ntmps174
    go_wp2_with (first
      | (go_at_call 175; (with_reducible refine (counted_any a _ x HKA.out).mono ?_); rintro e w1 ⟨rfl, b1⟩)
      | (go_at_call 175; (with_reducible refine (counted_any d _ y HKD.out).mono ?_); rintro e w2 ⟨rfl, b2⟩; have h2 := (HX.out.on b1).on b2)
      | (go_at_call 176; (with_reducible refine (HC.out _ h2).mono ?_); rintro e w3 ⟨rfl, h3, b3⟩; have c0 := h3.ca.1; rw [thirdV] at c0; have hlt := h3.lt)
      | (go_at_call 142; (with_reducible refine (HBD.out _ h3).mono ?_); rintro e w4 ⟨rfl, h4, b4⟩; have c3 := h4.ca.2.2.2; have hlt := h4.lt))
    go_ret
    exact ⟨rfl, h4, ((But.grow (Nat.le_of_lt HX.out.lt) (below_then b1 b2)).trans b3).trans b4⟩
end
/-- Who takes the next pair, behind n. -/
def nextV (o : Int) (n : Nat) : Value := if n < 112 then firstV o else if n = 112 then secondV o else if n = 113 then thirdV o else .nilFunc
def catS (x y : Nat → Int) (o : Int) (n : Nat) : List Value := catL (nextV o n) n (sameF x y n) (cutF x y n) (bodyF x y n) (frF x y o n) (decide (113 ≤ n) && wholeC x y o) (decide (114 ≤ n) && !highC x y o)
/-- A catch in its block, that has had n pairs. -/
def Cat (w : World) (g : Nat) (x y : Nat → Int) (o : Int) (n : Nat) : Prop := Blk w g 119 (catS x y o n).toArray
/-- Is it high, behind n; of which frame? -/
def hiB (x y : Nat → Int) (o : Int) (n : Nat) : Bool := decide (114 ≤ n) && highC x y o
def hiF (x y : Nat → Int) (o : Int) (n : Nat) : Fr := if hiB x y o n = true then getF (bytesP (bodyW x y)) else Fr.zero
theorem catS_zero (x y : Nat → Int) (o : Int) : catS x y o 0 = catZ (firstV o) := by
  simp only [catS, catZ, nextV, sameF, cutF, bodyF_none, frF]
  rfl
section
variable {g n : Nat} {x y : Nat → Int} {o : Int} {w w' : World}
theorem Cat.on (h : Cat w g x y o n) (hb : Below w.heap.size w w') : Cat w' g x y o n := Blk.on h hb
theorem Cat.lt (h : Cat w g x y o n) : g < w.heap.size := Blk.lt h
theorem cNew (x y : Nat → Int) (o : Int) (w : World) (h0 : 0 ≤ o) (h1 : o < 8) : Calls Tryz.prog 97 #[.int .i64 o] w fun e w' => e = .returned (.tuple #[.pointer (some ⟨w.heap.size, 0, none⟩), .int .i64 0]) ∧ Cat w' w.heap.size x y o 0 ∧ Below w.heap.size w w' := by
  have := caNew_yes o w h0 h1
  rw [← catS_zero x y o] at this
  exact this
theorem high_whole (h : highC x y o = true) : wholeC x y o = true := by
  simp only [highC, Bool.and_eq_true] at h
  exact h.1.1
theorem cHigh (h : Cat w g x y o n) (r : Bool) (hr : hiB x y o n = r) (F : Fr) (hF : hiF x y o n = F) : Calls Tryz.prog 36 #[.pointer (some ⟨g, 0, none⟩)] w fun e w' => e = .returned (.tuple #[.agg #[.int .i64 F.o, .int .u8 F.k, .int .u8 F.s, .int .u32 F.q, .int .u32 F.v], .bool r]) ∧ Below w.heap.size w w' := by
  subst hr hF
  refine high_is h (bodyF_length n) _ ?_ _ ?_
  · unfold hiB
    by_cases e : 114 ≤ n
    · simp only [decide_eq_true e, decide_eq_true (show 113 ≤ n by omega), Bool.true_and]
      cases hh : highC x y o
      · simp
      · simp [high_whole hh]
    · simp [e]
  · unfold hiF
    cases hh : hiB x y o n
    · rfl
    · simp only [hiB, Bool.and_eq_true, decide_eq_true_eq] at hh
      simp only [if_true, frF, decide_eq_true (show 113 ≤ n by omega), high_whole hh.2, Bool.and_self]
theorem nextV_112 : nextV o 112 = secondV o := by simp [nextV]
theorem nextV_113 : nextV o 113 = thirdV o := by simp [nextV]
theorem nextV_114 : nextV o 114 = .nilFunc := by simp [nextV]
theorem frF_112 : frF x y o 112 = Fr.zero := by simp [frF]
theorem frF_113 : frF x y o 113 = if wholeC x y o = true then getF (bytesP (bodyW x y)) else Fr.zero := by simp [frF]
theorem frF_114 : frF x y o 114 = frF x y o 113 := by simp [frF]
theorem catS_112 : catS x y o 112 = catL (secondV o) (112 : Nat) (sameF x y 112) (cutF x y 112) (bodyW x y) Fr.zero false false := by
  rw [catS, nextV_112, frF_112, bodyF_all 112 (Nat.le_refl _), show decide (113 ≤ 112) = false from by decide, show decide (114 ≤ 112) = false from by decide, Bool.false_and, Bool.false_and]
theorem catS_113 : catS x y o 113 = catL (thirdV o) (113 : Nat) (sameF x y 113) (cutF x y 113) (bodyW x y) (frF x y o 113) (wholeC x y o) false := by
  rw [catS, nextV_113, bodyF_all 113 (by omega), show decide (113 ≤ 113) = true from by decide, show decide (114 ≤ 113) = false from by decide, Bool.true_and, Bool.false_and]
theorem catS_114 : catS x y o 114 = catL .nilFunc (114 : Nat) (sameF x y 114) (cutF x y 114) (bodyW x y) (frF x y o 113) (wholeC x y o) (!highC x y o) := by
  rw [catS, nextV_114, frF_114, bodyF_all 114 (by omega), show decide (113 ≤ 114) = true from by decide, show decide (114 ≤ 114) = true from by decide, Bool.true_and, Bool.true_and]
theorem outC_112 : outC x y o 112 = if cutF x y 113 = true then 0 else tsy (wholeC x y o) := by
  unfold outC
  simp only [Nat.reduceAdd, Nat.reduceLT, if_false, if_true]
theorem outC_113 : outC x y o 113 = if cutF x y 114 = true then 0 else tsy (!highC x y o) := by
  unfold outC
  simp only [Nat.reduceAdd, Nat.reduceLT, Nat.reduceEqDiff, if_false, if_true]
/-- Step: the next pair. -/
theorem cStep (a d : Int) (h : Cat w g x y o n) (hn : n < 114) (hx : kn a = x n) (hy : kn d = y n) (r : Int) (hr : outC x y o n = r) :
    Calls Tryz.prog 174 #[.pointer (some ⟨g, 0, none⟩), .int .u8 a, .int .u8 d] w fun e w' => e = .returned (.int .u8 r) ∧ Cat w' g x y o (n + 1) ∧ But g w w' := by
  have hsl := sameF_le (x := x) (y := y) n
  have hsame : ∀ m, n = m → (if (decide (sameF x y n = m) && (x n == y n) && (x n != 0)) = true then sameF x y n + 1 else sameF x y n) = sameF x y (n + 1) := by
    rintro m rfl
    rw [sameF_succ]
    by_cases e : sameF x y n = n
    · rw [e]
      cases ha : al x y n
      · rw [al] at ha
        simp [ha]
      · rw [al] at ha
        simp [ha]
    · simp [e]
  rcases Nat.lt_or_ge n 112 with h1 | h1
  · have hc : (cutF x y n || bo x y n == 0) = cutF x y (n + 1) := by simp only [cutF, decide_eq_true h1, Bool.true_and]
    have h' : Blk w g 119 (catL (firstV o) n (sameF x y n) (cutF x y n) (bodyF x y n) (frF x y o n) (decide (113 ≤ n) && wholeC x y o) (decide (114 ≤ n) && !highC x y o)).toArray := by
      have := h
      unfold Cat catS nextV at this
      rw [if_pos h1] at this
      exact this
    have e2 : catL (if n = 111 then secondV o else firstV o) (n + 1 : Nat) (sameF x y (n + 1)) (cutF x y (n + 1)) (bodyF x y (n + 1)) (frF x y o n) (decide (113 ≤ n) && wholeC x y o) (decide (114 ≤ n) && !highC x y o) = catS x y o (n + 1) := by
      unfold catS nextV frF
      simp only [decide_eq_false (show ¬ 113 ≤ n by omega), decide_eq_false (show ¬ 114 ≤ n by omega), decide_eq_false (show ¬ 113 ≤ n + 1 by omega), decide_eq_false (show ¬ 114 ≤ n + 1 by omega), Bool.false_and]
      by_cases e : n = 111
      · subst e; rfl
      · rw [if_neg e, if_pos (show n + 1 < 112 by omega)]
    have := step_low o a d h' (bodyF_length n) h1 hsl (x n) (y n) hx hy _ (hsame n rfl) (bo x y n) rfl _ hc r (by
      rw [← hr]
      unfold outC
      by_cases e : cutF x y (n + 1) = true
      · rw [if_pos e, if_pos e]
      · rw [if_neg e, if_neg e, if_pos h1]) _ rfl _ (bodyF_set n)
    rw [e2] at this
    exact this
  · have hcut : cutF x y (n + 1) = cutF x y n := by simp [cutF, Nat.not_lt.2 h1]
    rcases Nat.lt_or_ge n 113 with h2 | h2
    · obtain rfl : n = 112 := by omega
      have hw : (isB o (bodyW x y) && decide (sameF x y 113 = 113) && (x 112 == 2)) = wholeC x y o := by
        unfold wholeC
        cases isB o (bodyW x y) <;> simp
      have hc : cutF x y 113 = cutF x y 112 := hcut
      have h' : Blk w g 119 (catL (secondV o) (112 : Nat) (sameF x y 112) (cutF x y 112) (bodyW x y) Fr.zero false false).toArray := by
        rw [← catS_112]; exact h
      have := step_mid o a d h' bodyW_length hsl (x 112) (y 112) hx hy _ (hsame 112 rfl) _ hw _ rfl r (by rw [← hr, outC_112, hc])
      rw [← frF_113, ← hc, ← catS_113] at this
      exact this
    · obtain rfl : n = 113 := by omega
      have hw : (!wholeC x y o || !decide (sameF x y 114 = 114) || (x 113 != 1)) = !highC x y o := by
        unfold highC
        cases wholeC x y o <;> cases decide (sameF x y 114 = 114) <;> simp [bne]
      have hc : cutF x y 114 = cutF x y 113 := hcut
      have h' : Blk w g 119 (catL (thirdV o) (113 : Nat) (sameF x y 113) (cutF x y 113) (bodyW x y) (frF x y o 113) (wholeC x y o) false).toArray := by
        rw [← catS_113]; exact h
      have := step_end o a d h' bodyW_length hsl (x 113) (y 113) hx hy _ (hsame 113 rfl) _ hw r (by rw [← hr, outC_113, hc])
      rw [← hc, ← catS_114] at this
      exact this
/-- A catch that has had all. -/
theorem cDone (a d : Int) (h : Cat w g x y o 114) : Calls Tryz.prog 174 #[.pointer (some ⟨g, 0, none⟩), .int .u8 a, .int .u8 d] w fun e w' => e = .returned (.int .u8 0) ∧ w = w' := by
  unfold Cat at h
  rw [catS_114] at h
  exact step_none a d h
end
end Go.Proofs.YtadcmoldpbnmnaaGreatDoor

