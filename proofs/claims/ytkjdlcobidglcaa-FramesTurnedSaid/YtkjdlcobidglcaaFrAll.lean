/-
  Put and Syms of whatever frame, in one word each: what comes of them, and what is wrong. Conditions: the frame's numbers are of their kinds.
-/
import Derived.Test.YtkjdlcobidglcaaFrLv
namespace Go.Proofs.Ytkjdlcobidglcaa
open Go.RowKit Crc

def putN (f : Fr) : Nat := if mayB f.o f.k then 14 else 0
def putX (f : Fr) : List Int := if mayB f.o f.k then putL f.body else []
def putC (f : Fr) : Int := if mayB f.o f.k then 0 else 1
def symN (f : Fr) : Nat := if mayB f.o f.k then 114 else 0
def symX (f : Fr) (a b : Bool) : List Int := if mayB f.o f.k then ofL (putL f.body) ++ tailL a b else []
theorem putX_bd (f : Fr) (hf : f.Fit) : ∀ x ∈ putX f, 0 ≤ x ∧ x ≤ 255 := by
  unfold putX
  split
  · rename_i h; exact putL_bd _ (Fr.body_bd hf h)
  · intro x hx; cases hx
theorem symX_length (f : Fr) (a b : Bool) : (ofL (putL f.body) ++ tailL a b).length = 114 := by
  rw [List.length_append, ofL_length, putL_length]; rfl
section
variable (f : Fr) (w : World) (hf : f.Fit)
include hf
theorem frPut_all : Calls Try.prog 9 #[.agg #[.int .i64 f.o, .int .u8 f.k, .int .u8 f.s, .int .u32 f.q, .int .u32 f.v]] w fun e w' => ∃ A', e = .returned (.tuple #[.slice A' (putN f) (putN f), .int .i64 (putC f)]) ∧ Lies .u8 w' w'.heap.size A' (putN f) (putX f) ∧ Ent w' 5 w.heap.size (A', putN f) ∧ Below w.heap.size w w' := by
  cases hm : mayB f.o f.k
  · simp only [putN, putX, putC, hm, Bool.false_eq_true, if_false]
    exact (frPut_no f w hm).mono fun e w' h => ⟨none, h.1, Lies.nil_, fun h => absurd h (Nat.lt_irrefl 0), h.2⟩
  · simp only [putN, putX, putC, hm, if_true]
    have hl : (putL f.body).length = 14 := by rw [putL_length]; rfl
    exact (frPut_yes f w hf hm).mono fun e w' ⟨g, h1, h2, h3, h4⟩ => ⟨_, h1, h3.lies hl, h3.ent hl h2, h4⟩
theorem refFrPut_all : Calls Try.prog 11 #[.agg #[.int .i64 f.o, .int .u8 f.k, .int .u8 f.s, .int .u32 f.q, .int .u32 f.v]] w fun e w' => ∃ A' c', e = .returned (.tuple #[.slice A' (putN f) c', .int .i64 (putC f)]) ∧ Lies .u8 w' w'.heap.size A' (putN f) (putX f) ∧ Below w.heap.size w w' := by
  cases hm : mayB f.o f.k
  · simp only [putN, putX, putC, hm, Bool.false_eq_true, if_false]
    exact (refFrPut_no f w hm).mono fun e w' h => ⟨none, 0, h.1, Lies.nil_, h.2⟩
  · simp only [putN, putX, putC, hm, if_true]
    exact refFrPut_yes f w hf hm
theorem frSyms_all (a b : Bool) : Calls Try.prog 12 #[.agg #[.int .i64 f.o, .int .u8 f.k, .int .u8 f.s, .int .u32 f.q, .int .u32 f.v], .agg #[.bool a, .bool b]] w fun e w' => ∃ A', e = .returned (.tuple #[.slice A' (symN f) (symN f), .int .i64 (putC f)]) ∧ Lies .u8 w' w'.heap.size A' (symN f) (symX f a b) ∧ Ent w' 77 w.heap.size (A', symN f) ∧ Below w.heap.size w w' := by
  cases hm : mayB f.o f.k
  · simp only [symN, symX, putC, hm, Bool.false_eq_true, if_false]
    exact (frSyms_no f a b w hm).mono fun e w' h => ⟨none, h.1, Lies.nil_, fun h => absurd h (Nat.lt_irrefl 0), h.2⟩
  · simp only [symN, symX, putC, hm, if_true]
    have hl := symX_length f a b
    exact (frSyms_yes f a b w hf hm).mono fun e w' ⟨g, h1, h2, h3, h4⟩ => ⟨_, h1, h3.lies hl, h3.ent hl h2, h4⟩
theorem refFrSyms_all (a b : Bool) : Calls Try.prog 13 #[.agg #[.int .i64 f.o, .int .u8 f.k, .int .u8 f.s, .int .u32 f.q, .int .u32 f.v], .agg #[.bool a, .bool b]] w fun e w' => ∃ A' c', e = .returned (.tuple #[.slice A' (symN f) c', .int .i64 (putC f)]) ∧ Lies .u8 w' w'.heap.size A' (symN f) (symX f a b) ∧ Below w.heap.size w w' := by
  cases hm : mayB f.o f.k
  · simp only [symN, symX, putC, hm, Bool.false_eq_true, if_false]
    exact (refFrSyms_no f a b w hm).mono fun e w' h => ⟨none, 0, h.1, Lies.nil_, h.2⟩
  · simp only [symN, symX, putC, hm, if_true]
    exact refFrSyms_yes f a b w hf hm
end
/-- A list of symbols of one's own, by itself, and with a number. -/
def Reg.Fact.symS (n : Nat) (xs : List Int) (base : Nat) : Reg.Fact := ⟨fun v w => ∃ A, v = .slice A n n ∧ Lies .u8 w w.heap.size A n xs ∧ Ent w 77 base (A, n), fun _ _ _ hb h => by
  obtain ⟨A, e, hl, hE⟩ := h
  exact ⟨A, e, hl.on hb, hE.on hb⟩⟩
def Reg.Fact.symT (n : Nat) (xs : List Int) (c : Int) (base : Nat) : Reg.Fact := ⟨fun v w => ∃ A, v = .tuple #[.slice A n n, .int .i64 c] ∧ Lies .u8 w w.heap.size A n xs ∧ Ent w 77 base (A, n), fun _ _ _ hb h => by
  obtain ⟨A, e, hl, hE⟩ := h
  exact ⟨A, e, hl.on hb, hE.on hb⟩⟩
end Go.Proofs.Ytkjdlcobidglcaa
