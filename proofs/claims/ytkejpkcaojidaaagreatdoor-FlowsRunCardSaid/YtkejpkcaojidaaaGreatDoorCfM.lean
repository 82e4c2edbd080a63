/-
  The mathematics of configs: which may be, and what is wrong first, as plain functions on numbers and lists. No condition; nothing of the program is named here.
-/
import Derived.Test.YtkejpkcaojidaaaGreatDoorRg3
namespace Go.Proofs.YtkejpkcaojidaaaGreatDoor
set_option linter.unusedVariables false
set_option linter.unusedSimpArgs false
open Go.RowKit Rg

/-- A config: its numbers and lists, and where its lists lie. -/
structure Cf where
  N : Int
  L : Int
  M : Int
  G : Int
  F : Int
  pA : Option Addr
  pn : Nat
  pc : Nat
  sA : Option Addr
  sn : Nat
  sc : Nat
  bA : Option Addr
  bn : Nat
  bc : Nat
  tA : Option Addr
  tn : Nat
  tc : Nat
  P : List Int
  S : List Int
  B : List Int
  T : List (Int × Int × Int)

/-- What is wrong with a number. -/
def wit (lo hi x : Int) : Int := if hi < x then 3 else if x < lo then 1 else 0
/-- .. with the first of some. -/
def witL (lo hi : Int) : List Int → Int
  | [] => 0
  | x :: r => if wit lo hi x = 0 then witL lo hi r else wit lo hi x
theorem wit_ok {lo hi x : Int} : wit lo hi x = 0 ↔ lo ≤ x ∧ x ≤ hi := by
  unfold wit; split
  · constructor <;> intro h <;> omega
  · split <;> constructor <;> intro h <;> omega
theorem wit_hi {lo hi x : Int} (h : hi < x) : wit lo hi x = 3 := by rw [wit, if_pos h]
theorem wit_lo {lo hi x : Int} (h : ¬ hi < x) (k : x < lo) : wit lo hi x = 1 := by rw [wit, if_neg h, if_pos k]
theorem witL_one (lo hi x : Int) : witL lo hi [x] = wit lo hi x := by
  simp only [witL]; split <;> simp_all
theorem witL_ok {lo hi : Int} : ∀ {l : List Int}, witL lo hi l = 0 ↔ ∀ x ∈ l, lo ≤ x ∧ x ≤ hi := by
  intro l
  induction l with
  | nil => simp [witL]
  | cons x r ih =>
    rw [witL]
    by_cases h : wit lo hi x = 0
    · rw [if_pos h, ih]; simp [wit_ok.1 h]
    · rw [if_neg h]
      constructor
      · intro k; exact absurd k h
      · intro k; exact absurd (wit_ok.2 (k x (by simp))) h
/-- The first k are right: what is wrong is wrong behind them. -/
theorem witL_drop (lo hi : Int) (l : List Int) (k : Nat) (h : k < l.length) (h0 : wit lo hi (l.getD k 0) = 0) : witL lo hi (l.drop k) = witL lo hi (l.drop (k + 1)) := by
  rw [List.drop_eq_getElem_cons h, witL, if_pos (by rwa [getD_at l k h] at h0)]
theorem witL_stop (lo hi : Int) (l : List Int) (k : Nat) (h : k < l.length) (h0 : wit lo hi (l.getD k 0) ≠ 0) : witL lo hi (l.drop k) = wit lo hi (l.getD k 0) := by
  rw [List.drop_eq_getElem_cons h, witL, getD_at l k h, if_neg (by rwa [getD_at l k h] at h0)]

/-- Pairs: each a node, each two of them two steps apart, both ways. -/
def okP (N : Int) (P : List Int) : Prop := (∀ a ∈ P, 0 ≤ a ∧ a < N) ∧ P.Pairwise (fun a b => a + 2 ≤ b ∧ b + 2 ≤ a + N)
instance (N : Int) (P : List Int) : Decidable (okP N P) := by unfold okP; infer_instance
def pairsE (N : Int) (P : List Int) : Int := if okP N P then 0 else 1
/-- Slots: each a pair, each pair among them. -/
def okS (n : Nat) (S : List Int) : Prop := (∀ s ∈ S, 0 ≤ s ∧ s < n) ∧ ∀ p, p < n → (p : Int) ∈ S
instance (n : Nat) (S : List Int) : Decidable (okS n S) := by unfold okS; infer_instance
def slotsE (n : Nat) (S : List Int) : Int := if okS n S then 0 else 1
def bootsE (N : Int) (n : Nat) (B : List Int) : Int := if (n : Int) = N then witL 0 4096 B else 1
def stE (N : Int) (s : Int × Int × Int) : Int := if s.1 < 0 ∨ N ≤ s.1 then 1 else wit 1 100 s.2.2
def stL (N : Int) : List (Int × Int × Int) → Int
  | [] => 0
  | s :: r => if stE N s = 0 then stL N r else stE N s
/-- What each rule says of a config. -/
def errs (c : Cf) : List Int := [wit 4 16 c.N, wit 2 8 c.pn, pairsE c.N c.P, wit 1 16 c.sn, slotsE c.pn c.S, wit (c.N + 116) 4096 c.L, bootsE c.N c.bn c.B, wit 0 8 c.tn, stL c.N c.T, witL 1 100 [c.M, c.G, c.F]]
def firstE : List Int → Int
  | [] => 0
  | x :: r => if x = 0 then firstE r else x
/-- What is wrong with a config first; 0: nothing. -/
def newE (c : Cf) : Int := firstE (errs c)

theorem pairsE_ok {N : Int} {P : List Int} : pairsE N P = 0 ↔ okP N P := by unfold pairsE; split <;> simp_all
theorem slotsE_ok {n : Nat} {S : List Int} : slotsE n S = 0 ↔ okS n S := by unfold slotsE; split <;> simp_all
theorem bootsE_ok {N : Int} {n : Nat} {B : List Int} : bootsE N n B = 0 ↔ (n : Int) = N ∧ ∀ x ∈ B, 0 ≤ x ∧ x ≤ 4096 := by
  unfold bootsE
  split
  · rename_i h; rw [witL_ok]; simp [h]
  · rename_i h; constructor
    · intro k; omega
    · intro k; exact absurd k.1 h
theorem stE_ok {N : Int} {s : Int × Int × Int} : stE N s = 0 ↔ (0 ≤ s.1 ∧ s.1 < N) ∧ 1 ≤ s.2.2 ∧ s.2.2 ≤ 100 := by
  unfold stE
  split
  · constructor <;> intro h <;> omega
  · rw [wit_ok]; constructor <;> intro h <;> omega
theorem stL_ok {N : Int} : ∀ {l : List (Int × Int × Int)}, stL N l = 0 ↔ ∀ s ∈ l, (0 ≤ s.1 ∧ s.1 < N) ∧ 1 ≤ s.2.2 ∧ s.2.2 ≤ 100 := by
  intro l
  induction l with
  | nil => simp [stL]
  | cons x r ih =>
    rw [stL]
    by_cases h : stE N x = 0
    · rw [if_pos h, ih]
      constructor
      · intro k s hs
        rcases List.mem_cons.1 hs with rfl | hs
        · exact stE_ok.1 h
        · exact k s hs
      · intro k s hs; exact k s (List.mem_cons_of_mem _ hs)
    · rw [if_neg h]
      constructor
      · intro k; exact absurd k h
      · intro k; exact absurd (stE_ok.2 (k x (by simp))) h
theorem firstE_ok : ∀ {l : List Int}, firstE l = 0 ↔ ∀ x ∈ l, x = 0 := by
  intro l
  induction l with
  | nil => simp [firstE]
  | cons x r ih =>
    rw [firstE]
    by_cases h : x = 0
    · rw [if_pos h, ih]; simp [h]
    · rw [if_neg h]; simp [h]
/-- A config that may be. -/
structure CfOk (c : Cf) : Prop where
  nodes : 4 ≤ c.N ∧ c.N ≤ 16
  pairs : 2 ≤ c.pn ∧ c.pn ≤ 8
  okP : okP c.N c.P
  slots : 1 ≤ c.sn ∧ c.sn ≤ 16
  okS : okS c.pn c.S
  long : c.N + 116 ≤ c.L ∧ c.L ≤ 4096
  boots : (c.bn : Int) = c.N ∧ ∀ x ∈ c.B, 0 ≤ x ∧ x ≤ 4096
  stations : c.tn ≤ 8
  placed : ∀ s ∈ c.T, (0 ≤ s.1 ∧ s.1 < c.N) ∧ 1 ≤ s.2.2 ∧ s.2.2 ≤ 100
  counts : ∀ x ∈ [c.M, c.G, c.F], 1 ≤ x ∧ x ≤ 100
theorem newE_ok {c : Cf} : newE c = 0 ↔ CfOk c := by
  rw [newE, firstE_ok]
  simp only [errs, List.forall_mem_cons]
  constructor
  · rintro ⟨h0, h1, h2, h3, h4, h5, h6, h7, h8, h9, -⟩
    have h1 := wit_ok.1 h1
    have h3 := wit_ok.1 h3
    have h7 := wit_ok.1 h7
    exact ⟨wit_ok.1 h0, by omega, pairsE_ok.1 h2, by omega, slotsE_ok.1 h4, wit_ok.1 h5, bootsE_ok.1 h6, by omega, stL_ok.1 h8, witL_ok.1 h9⟩
  · intro h
    exact ⟨wit_ok.2 h.nodes, wit_ok.2 (by have := h.pairs; omega), pairsE_ok.2 h.okP, wit_ok.2 (by have := h.slots; omega), slotsE_ok.2 h.okS, wit_ok.2 h.long, bootsE_ok.2 h.boots, wit_ok.2 (by have := h.stations; omega), stL_ok.2 h.placed, witL_ok.2 h.counts, by simp⟩
/-- Rule by rule. -/
theorem firstE_drop (l : List Int) (k : Nat) (h : k < l.length) (h0 : l.getD k 0 = 0) : firstE (l.drop k) = firstE (l.drop (k + 1)) := by
  rw [List.drop_eq_getElem_cons h, firstE, if_pos (by rwa [getD_at l k h] at h0)]
theorem firstE_stop (l : List Int) (k : Nat) (h : k < l.length) (h0 : l.getD k 0 ≠ 0) : firstE (l.drop k) = l.getD k 0 := by
  rw [List.drop_eq_getElem_cons h, firstE, getD_at l k h, if_neg (by rwa [getD_at l k h] at h0)]
theorem stL_drop (N : Int) (l : List (Int × Int × Int)) (k : Nat) (h : k < l.length) (h0 : stE N (l.getD k (0, 0, 0)) = 0) : stL N (l.drop k) = stL N (l.drop (k + 1)) := by
  have e : l.getD k (0, 0, 0) = l[k] := by simp [List.getD, h]
  rw [List.drop_eq_getElem_cons h, stL, if_pos (by rwa [e] at h0)]
theorem stL_stop (N : Int) (l : List (Int × Int × Int)) (k : Nat) (h : k < l.length) (h0 : stE N (l.getD k (0, 0, 0)) ≠ 0) : stL N (l.drop k) = stE N (l.getD k (0, 0, 0)) := by
  have e : l.getD k (0, 0, 0) = l[k] := by simp [List.getD, h]
  rw [List.drop_eq_getElem_cons h, stL, e, if_neg (by rwa [e] at h0)]
/-- The nodes that some pairs take. -/
def tkL (N : Int) (P : List Int) : List Bool := (List.range 16).map fun (x : Nat) => P.any fun p => decide ((x : Int) = p ∨ (x : Int) = (p + 1) % N)
theorem tkL_len (N : Int) (P : List Int) : (tkL N P).length = 16 := by simp [tkL]
theorem tkL_none (N : Int) : tkL N [] = List.replicate 16 false := by
  rfl
theorem tkL_at (N : Int) (P : List Int) (x : Nat) (h : x < 16) : (tkL N P).getD x false = P.any fun p => decide ((x : Int) = p ∨ (x : Int) = (p + 1) % N) := by
  simp [tkL, List.getD, h]
theorem tkL_snoc (N : Int) (P : List Int) (a b : Nat) (hb : (b : Int) = ((a : Int) + 1) % N) : ((tkL N P).set a true).set b true = tkL N (P ++ [(a : Int)]) := by
  apply List.ext_getElem
  · simp [tkL]
  · intro x h1 h2
    have hx : x < 16 := by simpa [tkL] using h2
    simp only [List.getElem_set]
    by_cases e1 : b = x
    · subst e1; simp [tkL, hb]
    · by_cases e2 : a = x
      · subst e2; simp [tkL, e1]
      · rw [if_neg e1, if_neg e2]
        have n1 : ¬ (x : Int) = (a : Int) := by omega
        have n2 : ¬ (x : Int) = ((a : Int) + 1) % N := by rw [← hb]; omega
        simp [tkL, n1, n2]
/-- The pair that was last, -1 at first. -/
def lastP (P : List Int) : Int := P.getLastD (-1)
theorem lastP_snoc (P : List Int) (a : Int) : lastP (P ++ [a]) = a := by simp [lastP]
/-- One more pair may be. -/
def oneP (N : Int) (P : List Int) (a : Int) : Prop := (0 ≤ a ∧ a < N) ∧ lastP P < a ∧ (∀ p ∈ P, ¬ (a = p ∨ a = (p + 1) % N)) ∧ ∀ p ∈ P, ¬ ((a + 1) % N = p ∨ (a + 1) % N = (p + 1) % N)
theorem okP_nil (N : Int) : okP N [] := ⟨by simp, List.Pairwise.nil⟩
theorem okP_take {N : Int} {P : List Int} (h : okP N P) (k : Nat) : okP N (P.take k) := ⟨fun a ha => h.1 a (List.mem_of_mem_take ha), h.2.take⟩
theorem okP_last {N : Int} {P : List Int} (h : okP N P) : ∀ p ∈ P, p ≤ lastP P := by
  intro p hp
  rcases List.eq_nil_or_concat P with rfl | ⟨Q, a, rfl⟩
  · cases hp
  · rw [List.concat_eq_append, lastP_snoc]
    rw [List.concat_eq_append] at hp h
    rcases List.mem_append.1 hp with hq | hq
    · have := (List.pairwise_append.1 h.2).2.2 p hq a (by simp)
      omega
    · simp at hq; omega
theorem okP_snoc {N : Int} {P : List Int} {a : Int} (hN : 4 ≤ N) (h : okP N P) : okP N (P ++ [a]) ↔ oneP N P a := by
  constructor
  · intro k
    have ha := k.1 a (by simp)
    have hp := (List.pairwise_append.1 k.2).2.2
    refine ⟨ha, ?_, fun p hq => ?_, fun p hq => ?_⟩
    · rcases List.eq_nil_or_concat P with rfl | ⟨Q, b, rfl⟩
      · simp [lastP]; omega
      · rw [List.concat_eq_append] at hp ⊢
        rw [lastP_snoc]
        have := hp b (by simp) a (by simp)
        omega
    · have h1 := hp p hq a (by simp)
      have h2 := h.1 p hq
      rcases mod_near N (p + 1) (by omega) (by omega) with e | e | e <;> omega
    · have h1 := hp p hq a (by simp)
      have h2 := h.1 p hq
      rcases mod_near N (p + 1) (by omega) (by omega) with e | e | e <;> rcases mod_near N (a + 1) (by omega) (by omega) with f | f | f <;> omega
  · rintro ⟨ha, hl, h1, h2⟩
    refine ⟨fun x hx => ?_, List.pairwise_append.2 ⟨h.2, by simp, fun p hp b hb => ?_⟩⟩
    · rcases List.mem_append.1 hx with hx | hx
      · exact h.1 x hx
      · simp at hx; omega
    · simp at hb
      subst hb
      have g1 := h1 p hp
      have g2 := h2 p hp
      have g3 := h.1 p hp
      have g4 := okP_last h p hp
      rcases mod_near N (p + 1) (by omega) (by omega) with e | e | e <;> rcases mod_near N (b + 1) (by omega) (by omega) with f | f | f <;> omega
theorem any_not {P : List Int} {f : Int → Prop} [DecidablePred f] : (P.any fun p => decide (f p)) = false ↔ ∀ p ∈ P, ¬ f p := by
  simp
theorem take_snoc (P : List Int) (k : Nat) (h : k < P.length) : P.take (k + 1) = P.take k ++ [P.getD k 0] := by
  rw [List.take_succ_eq_append_getElem h, getD_at P k h]
end Go.Proofs.YtkejpkcaojidaaaGreatDoor

