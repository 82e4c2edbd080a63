/-
  Words of package catches: what a catch has had, as functions of the place (near, far, counted), and what follows of it: how many were the same, whether it is cut off, its body, whether it is whole, high, what it gives. No condition but those that are named.
-/
import Derived.Test.YtpjcbfapkjipjaaFrM
import Derived.Test.YtpjcbfapkjipjaaFrEq
namespace Go.Proofs.Ytpjcbfapkjipjaa
open Go.RowKit Crc

/-- The symbol as which one counts. -/
def kn (z : Int) : Int := if wholeB z then z else 0
theorem kn_yes {z : Int} (h : wholeB z = true) : kn z = z := by simp [kn, h]
theorem kn_no {z : Int} (h : wholeB z = false) : kn z = 0 := by simp [kn, h]
theorem wholeB_iff (z : Int) : wholeB z = true ↔ z = 1 ∨ z = 2 := by simp [wholeB]
theorem kn_cases (z : Int) : kn z = 0 ∨ kn z = 1 ∨ kn z = 2 := by
  cases h : wholeB z
  · exact .inl (kn_no h)
  · rw [kn_yes h]; exact .inr ((wholeB_iff z).1 h)
theorem kn_ne {z : Int} (h : kn z ≠ 0) : kn z = z := by
  cases h1 : wholeB z
  · exact absurd (kn_no h1) h
  · exact kn_yes h1
theorem kn_idem (z : Int) : kn (kn z) = kn z := by
  cases h : wholeB z
  · rw [kn_no h]; rfl
  · rw [kn_yes h, kn_yes h]

/-- Of whatever symbols the bytes, or none. -/
def bytesP (xs : List Int) : List Int := if bytesOk xs then bytesL xs else []
/-- Is a body a frame of that owner? -/
def isB (o : Int) (xs : List Int) : Bool := getE (bytesP xs) == 0 && (getF (bytesP xs)).o == o

section
variable (x y : Nat → Int)
/-- Were both the same, and not none, at that place? -/
def al (j : Nat) : Bool := x j == y j && x j != 0
/-- What goes out in the body. -/
def bo (j : Nat) : Int := if x j = 0 then y j else x j
/-- How many of the first n were the same, from the first one on. -/
def sameF : Nat → Nat
  | 0 => 0
  | n + 1 => if sameF n = n ∧ al x y n = true then n + 1 else sameF n
/-- Is it cut off, by the first n? -/
def cutF : Nat → Bool
  | 0 => false
  | n + 1 => cutF n || (decide (n < 112) && bo x y n == 0)
/-- What is there of the body behind n. -/
def bodyF (n : Nat) : List Int := (List.range 112).map fun j => if j < n then bo x y j else 0
def bodyW : List Int := (List.range 112).map (bo x y)
variable (o : Int)
def wholeC : Bool := decide (sameF x y 113 = 113) && isB o (bodyW x y) && x 112 == 2
def highC : Bool := wholeC x y o && decide (sameF x y 114 = 114) && x 113 == 1
def frF (n : Nat) : Fr := if decide (113 ≤ n) && wholeC x y o then getF (bytesP (bodyW x y)) else Fr.zero
/-- What is given at a place. -/
def outC (j : Nat) : Int := if cutF x y (j + 1) then 0 else if j < 112 then bo x y j else if j = 112 then tsy (wholeC x y o) else if j = 113 then tsy (!highC x y o) else 0
/-- The first place that was unlike, of n. -/
def unlF (n : Nat) : Int := if sameF x y n = n then -1 else (sameF x y n : Int)
end
section
variable {x y : Nat → Int} {o : Int}
theorem sameF_le : ∀ n, sameF x y n ≤ n := by
  intro n
  induction n with
  | zero => exact Nat.le_refl _
  | succ n ih => unfold sameF; split <;> omega
theorem sameF_succ (n : Nat) : sameF x y (n + 1) = if sameF x y n = n ∧ al x y n = true then n + 1 else sameF x y n := rfl
theorem sameF_iff : ∀ n, sameF x y n = n ↔ ∀ j, j < n → al x y j = true := by
  intro n
  induction n with
  | zero => simp [sameF]
  | succ n ih =>
    rw [sameF_succ]
    constructor
    · intro h j hj
      split at h
      · rename_i q
        rcases Nat.lt_succ_iff_lt_or_eq.1 hj with r | r
        · exact (ih.1 q.1) j r
        · rw [r]; exact q.2
      · have := sameF_le (x := x) (y := y) n; omega
    · intro h
      rw [if_pos ⟨ih.2 fun j hj => h j (by omega), h n (by omega)⟩]
theorem sameF_min {n m : Nat} (hm : m < n) (h1 : ∀ j, j < m → al x y j = true) (h2 : al x y m = false) : sameF x y n = m := by
  induction n with
  | zero => omega
  | succ n ih =>
    rw [sameF_succ]
    rcases Nat.lt_succ_iff_lt_or_eq.1 hm with r | r
    · have := ih r
      rw [if_neg (by omega), this]
    · subst r
      rw [if_neg (by rw [h2]; simp), (sameF_iff m).2 h1]
/-- The first one that is not alike. -/
theorem sameF_at {n : Nat} (h : sameF x y n ≠ n) : sameF x y n < n ∧ al x y (sameF x y n) = false ∧ ∀ j, j < sameF x y n → al x y j = true := by
  induction n with
  | zero => simp [sameF] at h
  | succ n ih =>
    rw [sameF_succ] at h ⊢
    split at h
    · omega
    · rename_i q
      rw [if_neg q]
      by_cases e : sameF x y n = n
      · refine ⟨by omega, ?_, fun j hj => (sameF_iff n).1 e j (by omega)⟩
        rw [e]
        cases ha : al x y n
        · rfl
        · exact absurd ⟨e, ha⟩ q
      · obtain ⟨a, b, c⟩ := ih e
        exact ⟨by omega, b, c⟩
theorem cutF_iff : ∀ n, cutF x y n = false ↔ ∀ j, j < n → j < 112 → bo x y j ≠ 0 := by
  intro n
  induction n with
  | zero => simp [cutF]
  | succ n ih =>
    rw [cutF, Bool.or_eq_false_iff, ih]
    constructor
    · rintro ⟨h1, h2⟩ j hj h112
      rcases Nat.lt_succ_iff_lt_or_eq.1 hj with r | r
      · exact h1 j r h112
      · subst r
        simpa [h112] using h2
    · intro h
      refine ⟨fun j hj => h j (by omega), ?_⟩
      by_cases hn : n < 112
      · simp [hn, h n (by omega) hn]
      · simp [hn]
theorem bodyF_length (n : Nat) : (bodyF x y n).length = 112 := by simp [bodyF]
theorem bodyW_length : (bodyW x y).length = 112 := by simp [bodyW]
theorem bodyF_at (n j : Nat) (h : j < 112) : (bodyF x y n).getD j 0 = if j < n then bo x y j else 0 := by simp [bodyF, List.getD, h]
theorem bodyW_at (j : Nat) (h : j < 112) : (bodyW x y).getD j 0 = bo x y j := by simp [bodyW, List.getD, h]
theorem bodyF_all (n : Nat) (h : 112 ≤ n) : bodyF x y n = bodyW x y := by
  unfold bodyF bodyW
  refine List.map_congr_left fun j hj => ?_
  rw [List.mem_range] at hj
  rw [if_pos (by omega)]
theorem bodyF_none : bodyF x y 0 = List.replicate 112 0 := by
  unfold bodyF
  simp [List.map_const']
theorem bodyF_set (n : Nat) : (bodyF x y n).set n (bo x y n) = bodyF x y (n + 1) := by
  refine List.ext_getElem (by simp [bodyF_length]) fun j h1 h2 => ?_
  simp only [List.length_set, bodyF_length] at h1
  rw [List.getElem_set]
  simp only [bodyF, List.getElem_map, List.getElem_range]
  by_cases e : n = j
  · subst e; simp
  · rw [if_neg e]
    by_cases hj : j < n
    · rw [if_pos hj, if_pos (by omega)]
    · rw [if_neg hj, if_neg (by omega)]
theorem al_bo {j : Nat} (h : al x y j = true) : bo x y j = x j ∧ x j = y j ∧ x j ≠ 0 := by
  simp only [al, Bool.and_eq_true, beq_iff_eq, bne_iff_ne] at h
  exact ⟨by simp [bo, h.2], h.1, h.2⟩
end
/-- A catch in its block: who takes its next pair; how many it has had, were the same; is it cut off; its body, its frame, its tail. -/
def catL (v : Value) (n s : Int) (k : Bool) (b : List Int) (f : Fr) (p q : Bool) : List Value := [v, .int .i64 n, .int .i64 s, .bool k] ++ (b.map (Value.int .u8) ++ [.int .i64 f.o, .int .u8 f.k, .int .u8 f.s, .int .u32 f.q, .int .u32 f.v, .bool p, .bool q])
section
variable {v : Value} {n s : Int} {k : Bool} {b : List Int} {f : Fr} {p q : Bool}
theorem catL_body (hb : b.length = 112) (i : Nat) (hi : i < 112) : (catL v n s k b f p q)[4 + i]? = some (.int .u8 (b.getD i 0)) := by
  rw [catL, List.getElem?_append_right (by simp), List.getElem?_append_left (by simp; omega)]
  simp [hb, hi]
theorem catL_end (hb : b.length = 112) (i : Nat) : (catL v n s k b f p q)[116 + i]? = ([.int .i64 f.o, .int .u8 f.k, .int .u8 f.s, .int .u32 f.q, .int .u32 f.v, .bool p, .bool q] : List Value)[i]? := by
  rw [catL, List.getElem?_append_right (by simp; omega), List.getElem?_append_right (by simp; omega)]
  simp only [List.length_cons, List.length_nil, List.length_map, hb]
  congr 1
  omega
theorem catL_length (hb : b.length = 112) : (catL v n s k b f p q).length = 123 := by simp [catL, hb]
theorem catL_set0 (u : Value) : (catL v n s k b f p q).set 0 u = catL u n s k b f p q := rfl
theorem catL_set1 (u : Int) : (catL v n s k b f p q).set 1 (.int .i64 u) = catL v u s k b f p q := rfl
theorem catL_set2 (u : Int) : (catL v n s k b f p q).set 2 (.int .i64 u) = catL v n u k b f p q := rfl
theorem catL_set3 (u : Bool) : (catL v n s k b f p q).set 3 (.bool u) = catL v n s u b f p q := rfl
theorem catL_setB (hb : b.length = 112) (i : Nat) (hi : i < 112) (u : Int) : (catL v n s k b f p q).set (4 + i) (.int .u8 u) = catL v n s k (b.set i u) f p q := by
  unfold catL
  rw [List.set_append_right _ _ (by simp), List.set_append_left _ _ (by simp; omega)]
  simp [List.map_set]
theorem catL_setE (hb : b.length = 112) (i : Nat) (u : Value) : (catL v n s k b f p q).set (116 + i) u = [v, .int .i64 n, .int .i64 s, .bool k] ++ (b.map (Value.int .u8) ++ ([.int .i64 f.o, .int .u8 f.k, .int .u8 f.s, .int .u32 f.q, .int .u32 f.v, .bool p, .bool q] : List Value).set i u) := by
  unfold catL
  rw [List.set_append_right _ _ (by simp; omega), List.set_append_right _ _ (by simp; omega)]
  simp only [List.length_cons, List.length_nil, List.length_map, hb]
  congr 3
  omega
theorem catL_setF (hb : b.length = 112) (h : Fr) : (((((catL v n s k b f p q).set 116 (.int .i64 h.o)).set 117 (.int .u8 h.k)).set 118 (.int .u8 h.s)).set 119 (.int .u32 h.q)).set 120 (.int .u32 h.v) = catL v n s k b h p q := by
  rw [catL_setE hb 0, show ([v, .int .i64 n, .int .i64 s, .bool k] ++ (b.map (Value.int .u8) ++ ([.int .i64 f.o, .int .u8 f.k, .int .u8 f.s, .int .u32 f.q, .int .u32 f.v, .bool p, .bool q] : List Value).set 0 (.int .i64 h.o))) = catL v n s k b ⟨h.o, f.k, f.s, f.q, f.v⟩ p q from rfl]
  rw [catL_setE hb 1, show ([v, .int .i64 n, .int .i64 s, .bool k] ++ (b.map (Value.int .u8) ++ ([.int .i64 h.o, .int .u8 f.k, .int .u8 f.s, .int .u32 f.q, .int .u32 f.v, .bool p, .bool q] : List Value).set 1 (.int .u8 h.k))) = catL v n s k b ⟨h.o, h.k, f.s, f.q, f.v⟩ p q from rfl]
  rw [catL_setE hb 2, show ([v, .int .i64 n, .int .i64 s, .bool k] ++ (b.map (Value.int .u8) ++ ([.int .i64 h.o, .int .u8 h.k, .int .u8 f.s, .int .u32 f.q, .int .u32 f.v, .bool p, .bool q] : List Value).set 2 (.int .u8 h.s))) = catL v n s k b ⟨h.o, h.k, h.s, f.q, f.v⟩ p q from rfl]
  rw [catL_setE hb 3, show ([v, .int .i64 n, .int .i64 s, .bool k] ++ (b.map (Value.int .u8) ++ ([.int .i64 h.o, .int .u8 h.k, .int .u8 h.s, .int .u32 f.q, .int .u32 f.v, .bool p, .bool q] : List Value).set 3 (.int .u32 h.q))) = catL v n s k b ⟨h.o, h.k, h.s, h.q, f.v⟩ p q from rfl]
  rw [catL_setE hb 4]
  rfl
theorem catL_setP (hb : b.length = 112) (u : Bool) : (catL v n s k b f p q).set 121 (.bool u) = catL v n s k b f u q := by rw [catL_setE hb 5]; rfl
theorem catL_setQ (hb : b.length = 112) (u : Bool) : (catL v n s k b f p q).set 122 (.bool u) = catL v n s k b f p u := by rw [catL_setE hb 6]; rfl
end
end Go.Proofs.Ytpjcbfapkjipjaa

