/-
  Words of package words: what is said, a view, a cell, what is held, as values; their cells; their plain forms. Nothing of the program's run is in it; no condition.
-/
import Derived.Test.YtcangipaoancnaaBut
namespace Go.Proofs.Ytcangipaoancnaa
open Go.RowKit

/-- What is said: is it there, when, the payload. -/
structure Sa where
  i : Bool
  a : Int
  k : Int
  s : Int
  q : Int
  v : Int
/-- A view. -/
structure Vw where
  n : Vector Bool 8
  m : Vector Int 8
  g : Vector Int 8
  s : Vector Int 8
  t : Vector Bool 8
  c : Int
  d : Int
/-- A cell: its age, its offer, its report, its view. -/
structure Ce where
  a : Int
  o : Sa
  r : Sa
  v : Vw
/-- What is held of a node's cell. -/
structure He where
  i : Bool
  c : Ce
def saN : Sa := ⟨false, 0, 0, 0, 0, 0⟩
def vwN : Vw := ⟨Vector.replicate 8 false, Vector.replicate 8 0, Vector.replicate 8 0, Vector.replicate 8 0, Vector.replicate 8 false, 0, 0⟩
def ceN : Ce := ⟨0, saN, saN, vwN⟩
def heN : He := ⟨false, ceN⟩
def boL (x : Vector Bool 8) : List Value := x.toList.map Value.bool
def nuL (k : IntKind) (x : Vector Int 8) : List Value := x.toList.map (Value.int k)
def saL (s : Sa) : List Value := [.bool s.i, .int .i64 s.a, .int .u8 s.k, .int .u8 s.s, .int .u32 s.q, .int .u32 s.v]
/-- A view's lists. -/
def vrL (v : Vw) : List Value := boL v.n ++ (nuL .u8 v.m ++ (nuL .u8 v.g ++ (nuL .u16 v.s ++ boL v.t)))
def vwL (v : Vw) : List Value := vrL v ++ [.int .i8 v.c, .int .u8 v.d]
def ceL (c : Ce) : List Value := .int .i64 c.a :: (saL c.o ++ (saL c.r ++ vwL c.v))
def heL (h : He) : List Value := .bool h.i :: ceL h.c
/-- A row: is it there, its cell, its table. -/
def roL (b : Bool) (c : Ce) (A : Option Addr) (n p : Nat) : List Value := .bool b :: (ceL c ++ [.slice A n p])
theorem boL_len (x : Vector Bool 8) : (boL x).length = 8 := by simp [boL]
theorem nuL_len (k : IntKind) (x : Vector Int 8) : (nuL k x).length = 8 := by simp [nuL]
theorem saL_len (s : Sa) : (saL s).length = 6 := rfl
theorem vrL_len (v : Vw) : (vrL v).length = 40 := by simp [vrL, boL_len, nuL_len]
theorem vwL_len (v : Vw) : (vwL v).length = 42 := by simp [vwL, vrL_len]
theorem ceL_len (c : Ce) : (ceL c).length = 55 := by simp [ceL, saL_len, vwL_len]
theorem heL_len (h : He) : (heL h).length = 56 := by simp [heL, ceL_len]
theorem roL_len (b : Bool) (c : Ce) (A : Option Addr) (n p : Nat) : (roL b c A n p).length = 57 := by simp [roL, ceL_len]
theorem boL_one (x : Vector Bool 8) : ∀ v ∈ boL x, v.oneCell' = true := by
  intro v h; obtain ⟨_, _, rfl⟩ := List.mem_map.1 h; rfl
theorem nuL_one (k : IntKind) (x : Vector Int 8) : ∀ v ∈ nuL k x, v.oneCell' = true := by
  intro v h; obtain ⟨_, _, rfl⟩ := List.mem_map.1 h; rfl
theorem saL_one (s : Sa) : ∀ v ∈ saL s, v.oneCell' = true := by
  intro v h; simp [saL] at h; rcases h with rfl | rfl | rfl | rfl | rfl | rfl <;> rfl
theorem vrL_one (v : Vw) : ∀ x ∈ vrL v, x.oneCell' = true :=
  List.forall_mem_append.2 ⟨boL_one _, List.forall_mem_append.2 ⟨nuL_one _ _, List.forall_mem_append.2 ⟨nuL_one _ _, List.forall_mem_append.2 ⟨nuL_one _ _, boL_one _⟩⟩⟩⟩
theorem vwL_one (v : Vw) : ∀ x ∈ vwL v, x.oneCell' = true :=
  List.forall_mem_append.2 ⟨vrL_one v, by intro x h; simp at h; rcases h with rfl | rfl <;> rfl⟩
theorem ceL_one (c : Ce) : ∀ x ∈ ceL c, x.oneCell' = true :=
  List.forall_mem_cons.2 ⟨rfl, List.forall_mem_append.2 ⟨saL_one _, List.forall_mem_append.2 ⟨saL_one _, vwL_one _⟩⟩⟩
theorem heL_one (h : He) : ∀ x ∈ heL h, x.oneCell' = true := List.forall_mem_cons.2 ⟨rfl, ceL_one _⟩
theorem roL_one (b : Bool) (c : Ce) (A : Option Addr) (n p : Nat) : ∀ x ∈ roL b c A n p, x.oneCell' = true :=
  List.forall_mem_cons.2 ⟨rfl, List.forall_mem_append.2 ⟨ceL_one _, by intro x h; simp at h; subst h; rfl⟩⟩

/-- Are they the same? -/
def saE (a b : Sa) : Bool := a.i == b.i && (a.a == b.a && (a.k == b.k && (a.s == b.s && (a.q == b.q && a.v == b.v))))
def vwE (a b : Vw) : Bool := a.n.toList == b.n.toList && (a.m.toList == b.m.toList && (a.g.toList == b.g.toList && (a.s.toList == b.s.toList && (a.t.toList == b.t.toList && (a.c == b.c && a.d == b.d)))))
def ceE (a b : Ce) : Bool := a.a == b.a && (saE a.o b.o && (saE a.r b.r && vwE a.v b.v))
def heE (a b : He) : Bool := a.i == b.i && ceE a.c b.c
theorem saE_iff (a b : Sa) : saE a b = true ↔ a = b := by
  cases a; cases b; simp [saE]
theorem vwE_iff (a b : Vw) : vwE a b = true ↔ a = b := by
  cases a; cases b; simp [vwE]
theorem ceE_iff (a b : Ce) : ceE a b = true ↔ a = b := by
  cases a; cases b; simp [ceE, saE_iff, vwE_iff]
theorem heE_iff (a b : He) : heE a b = true ↔ a = b := by
  cases a; cases b; simp [heE, ceE_iff]
theorem saE_refl (a : Sa) : saE a a = true := (saE_iff a a).2 rfl
theorem ceE_refl (a : Ce) : ceE a a = true := (ceE_iff a a).2 rfl
theorem heE_refl (a : He) : heE a a = true := (heE_iff a a).2 rfl
theorem ceE_no {a b : Ce} (h : a ≠ b) : ceE a b = false := by
  cases e : ceE a b
  · rfl
  · exact absurd ((ceE_iff a b).1 e) h
theorem heE_no {a b : He} (h : a ≠ b) : heE a b = false := by
  cases e : heE a b
  · rfl
  · exact absurd ((heE_iff a b).1 e) h

/-- May a time be that? -/
def tmB (x : Int) : Bool := decide (0 ≤ x) && decide (x ≤ 1099511627776)
/-- May there be so many nodes? -/
def nmB (n : Int) : Bool := decide (0 ≤ n) && decide (n ≤ 16)
def okS (s : Sa) : Bool := s.i && (tmB s.a && (s.k == 1 || s.k == 2))
/-- Plain forms. -/
def plS (s : Sa) : Sa := if okS s = true then s else saN
def plC1 (x : Int) : Int := if (decide (x < 0) || decide (8 ≤ x)) = true then -1 else x
def plD1 (x : Int) : Int := if decide (7 < x) = true then 0 else x
def plA1 (x : Int) : Int := if tmB x = true then x else -1
def plV (v : Vw) : Vw := { v with c := plC1 v.c, d := plD1 v.d }
def plC (c : Ce) : Ce := ⟨plA1 c.a, plS c.o, plS c.r, plV c.v⟩
def plH (h : He) : He := if h.i = true then ⟨true, plC h.c⟩ else heN
theorem plS_N : plS saN = saN := rfl
theorem plS_idem (s : Sa) : plS (plS s) = plS s := by
  unfold plS
  by_cases h : okS s = true
  · rw [if_pos h, if_pos h]
  · rw [if_neg h, if_neg (by decide)]
theorem plA1_idem (x : Int) : plA1 (plA1 x) = plA1 x := by
  unfold plA1
  by_cases h : tmB x = true
  · rw [if_pos h, if_pos h]
  · rw [if_neg h, if_neg (by decide)]
theorem plC1_idem (x : Int) : plC1 (plC1 x) = plC1 x := by
  unfold plC1
  by_cases h : (decide (x < 0) || decide (8 ≤ x)) = true
  · rw [if_pos h, if_pos (by decide)]
  · rw [if_neg h, if_neg h]
theorem plD1_idem (x : Int) : plD1 (plD1 x) = plD1 x := by
  unfold plD1
  by_cases h : decide (7 < x) = true
  · rw [if_pos h, if_neg (by decide)]
  · rw [if_neg h, if_neg h]
theorem plV_idem (v : Vw) : plV (plV v) = plV v := by
  simp only [plV, plC1_idem, plD1_idem]
theorem plC_idem (c : Ce) : plC (plC c) = plC c := by
  simp only [plC, plA1_idem, plS_idem, plV_idem]
theorem plH_idem (h : He) : plH (plH h) = plH h := by
  unfold plH
  by_cases e : h.i = true
  · rw [if_pos e, if_pos rfl, plC_idem]
  · rw [if_neg e, if_neg (by decide)]
theorem plH_N : plH heN = heN := rfl
theorem plH_is (h : He) : (plH h).i = h.i := by
  unfold plH
  cases e : h.i <;> simp [heN]

/-- A list's cells, its elements by their places. -/
def hesL (T : Nat → He) (n : Nat) : List Value := (List.range n).flatMap fun i => heL (T i)
theorem flat_len {α : Type} (f : α → List Value) (m : Nat) (hf : ∀ x, (f x).length = m) : ∀ l : List α, (l.flatMap f).length = l.length * m
  | [] => by simp
  | x :: r => by simp [List.flatMap_cons, hf x, flat_len f m hf r, Nat.add_mul, Nat.add_comm]
theorem hesL_len (T : Nat → He) (n : Nat) : (hesL T n).length = n * 56 := by
  rw [hesL, flat_len _ 56 (fun i => heL_len _), List.length_range]
theorem hesL_one (T : Nat → He) (n : Nat) : ∀ x ∈ hesL T n, x.oneCell' = true := by
  intro x h; obtain ⟨i, _, hi⟩ := List.mem_flatMap.1 h; exact heL_one _ x hi
theorem hesL_succ (T : Nat → He) (n : Nat) : hesL T (n + 1) = hesL T n ++ heL (T n) := by
  simp [hesL, List.range_succ]
theorem hesL_zero (T : Nat → He) : hesL T 0 = [] := rfl
theorem hesL_congr {T T' : Nat → He} {n : Nat} (h : ∀ i, i < n → T i = T' i) : hesL T n = hesL T' n := by
  induction n with
  | zero => rfl
  | succ n ih => rw [hesL_succ, hesL_succ, ih fun i hi => h i (by omega), h n (by omega)]
theorem hesL_add (T : Nat → He) (n m : Nat) : hesL T (n + m) = hesL T n ++ hesL (fun i => T (n + i)) m := by
  induction m with
  | zero => simp [hesL_zero]
  | succ m ih => rw [← Nat.add_assoc, hesL_succ, ih, hesL_succ, List.append_assoc]
/-- A list's cells, parted at an element. -/
theorem hesL_at (T : Nat → He) {n i : Nat} (h : i < n) : hesL T n = hesL T i ++ (heL (T i) ++ hesL (fun j => T (i + 1 + j)) (n - (i + 1))) := by
  have e : n = i + 1 + (n - (i + 1)) := by omega
  conv => lhs; rw [e]
  rw [hesL_add, hesL_succ, List.append_assoc]
theorem hesL_get (T : Nat → He) {n i : Nat} (h : i < n) (j : Nat) (hj : j < 56) : (hesL T n)[i * 56 + j]? = (heL (T i))[j]? := by
  rw [hesL_at T h, List.getElem?_append_right (by rw [hesL_len]; omega), hesL_len, Nat.add_sub_cancel_left, List.getElem?_append_left (by rw [heL_len]; omega)]
end Go.Proofs.Ytcangipaoancnaa

