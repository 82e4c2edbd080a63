/-
  What follows of catches: one is high just if near and far were both the symbols of one frame of its owner with a good tail; then out was these; else out is no frame with a good tail. No condition but those that are named.
-/
import Derived.Test.YtkejpkcaojidaaaGreatDoorCa3
import Derived.Lib.MinMax
namespace Go.Proofs.YtkejpkcaojidaaaGreatDoor
set_option linter.unusedVariables false
set_option linter.unusedSimpArgs false
open Go.RowKit Crc
set_option linter.unusedVariables false

theorem idxSym {A : Option Addr} {n : Nat} (c : Nat) {k b off : Nat} (hA : A = some ⟨b, off, none⟩) (hk : k < n) (w : World) :
    (Instr.indexAt 126 (.slice A n c) (.int .i64 (k : Int))).run Tryz.prog w = .ok (.pointer (some ⟨b, off + k, none⟩)) w := by
  subst hA
  rw [run_indexAt_slice (h := elemSyms), if_pos (by omega), sizeSyms]
  simp [Result.andThen, Addr.add_lit]
/-- What comes, counted. -/
def knF (xs : List Int) (j : Nat) : Int := kn (xs.getD j 0)
/-- What is given at the first places. -/
def outL (x y : Nat → Int) (o : Int) (n : Nat) : List Int := (List.range n).map (outC x y o)
theorem outL_length (x y : Nat → Int) (o : Int) (n : Nat) : (outL x y o n).length = n := by simp [outL]
theorem outL_at (x y : Nat → Int) (o : Int) (n j : Nat) (h : j < n) : (outL x y o n).getD j 0 = outC x y o j := by simp [outL, List.getD, h]
theorem Blk.but {w w' : World} {g b : Nat} {t t' : TypeId} {cs cs' : Array Value} (h : Blk w b t cs) (hk : But g w w') (hB : Blk w g t' cs') (hne : t ≠ t') : Blk w' b t cs := hk.blk h (h.ne hB hne)
/-- A frame's symbols, with a good tail. -/
def goodL (f : Fr) : List Int := ofL (putL f.body) ++ tailL true false
theorem goodL_length (f : Fr) : (goodL f).length = 114 := by rw [goodL, List.length_append, ofL_length, putL_length]; rfl
end Go.Proofs.YtkejpkcaojidaaaGreatDoor

namespace Go.Proofs.YtkejpkcaojidaaaGreatDoor
open Go.RowKit Crc
set_option linter.unusedVariables false

theorem wh_at {xs : List Int} (h : wholeL xs = true) {j : Nat} (hj : j < xs.length) : xs.getD j 0 = 1 ∨ xs.getD j 0 = 2 := by
  rw [wholeL, List.all_eq_true] at h
  have := h (xs.getD j 0) (by rw [getD_at xs j hj]; exact List.getElem_mem _)
  exact (wholeB_iff _).1 this
theorem knF_whole {xs : List Int} (h : wholeL xs = true) {j : Nat} (hj : j < xs.length) : knF xs j = xs.getD j 0 ∧ knF xs j ≠ 0 := by
  have h1 := wh_at h hj
  have h2 : knF xs j = xs.getD j 0 := kn_yes ((wholeB_iff _).2 h1)
  exact ⟨h2, by rw [h2]; omega⟩
theorem list_ext_getD {xs ys : List Int} (hl : xs.length = ys.length) (h : ∀ j, j < xs.length → xs.getD j 0 = ys.getD j 0) : xs = ys := by
  refine List.ext_getElem hl fun j h1 h2 => ?_
  have := h j h1
  rwa [getD_at xs j h1, getD_at ys j h2] at this
theorem knF_same {xs : List Int} (h : wholeL xs = true) (n : Nat) (hn : n ≤ xs.length) : sameF (knF xs) (knF xs) n = n :=
  (sameF_iff n).2 fun j hj => by
    have := (knF_whole h (j := j) (by omega)).2
    simp [al, this]
theorem knF_body {xs : List Int} (h : wholeL xs = true) (y : Nat → Int) (hl : xs.length = 114) : bodyW (knF xs) y = xs.take 112 := by
  refine list_ext_getD (by simp [bodyW_length, hl]) fun j hj => ?_
  rw [bodyW_length] at hj
  obtain ⟨h1, h2⟩ := knF_whole h (j := j) (by omega)
  rw [bodyW_at j hj, bo, if_neg h2, h1, List.getD, List.getD, List.getElem?_take_of_lt hj]
theorem bytesP_whole {xs : List Int} (h : wholeL xs = true) (hl : xs.length % 8 = 0) : bytesP xs = bytesL xs := bytesP_yes (by simp [bytesOk, h, hl])
/-- All were the same: the lists are one, and whole. -/
theorem same_whole {N F : List Int} (hN : N.length = 114) (hF : F.length = 114) (h : sameF (knF N) (knF F) 114 = 114) : N = F ∧ wholeL N = true := by
  have hal := (sameF_iff 114).1 h
  constructor
  · refine list_ext_getD (by rw [hN, hF]) fun j hj => ?_
    obtain ⟨_, h2, h3⟩ := al_bo (hal j (by omega))
    have h4 := kn_ne (z := N.getD j 0) h3
    have h5 : kn (F.getD j 0) ≠ 0 := by
      have : knF F j ≠ 0 := by rw [← h2]; exact h3
      exact this
    rw [← h4, ← kn_ne h5]
    exact h2
  · rw [wholeL, List.all_eq_true]
    intro z hz
    obtain ⟨j, hj, rfl⟩ := List.getElem_of_mem hz
    obtain ⟨_, _, h3⟩ := al_bo (hal j (by omega))
    rw [← getD_at N j hj]
    cases hw : wholeB (N.getD j 0)
    · exact absurd (kn_no hw) h3
    · rfl
/-- The words of a whole list, near and far. -/
theorem high_whole_is {N : List Int} (o : Int) (hN : N.length = 114) (h : wholeL N = true) : highC (knF N) (knF N) o = ((readE N == 0) && (readA N && !readB N) && ((readF N).o == o)) ∧ wholeC (knF N) (knF N) o = ((readE N == 0) && ((readF N).o == o) && readA N) ∧ getF (bytesP (bodyW (knF N) (knF N))) = readF N := by
  have hok : readOk N = true := by simp [readOk, hN, h]
  obtain ⟨h1, h2, h3, h4⟩ := read_yes hok
  have hb : bytesP (bodyW (knF N) (knF N)) = bytesL (N.take 112) := by
    rw [knF_body h _ hN]
    exact bytesP_whole (wholeL_take N 112 h) (by simp [hN])
  have a1 : knF N 112 = N.getD 112 0 := (knF_whole h (by omega)).1
  have a2 : knF N 113 = N.getD 113 0 := (knF_whole h (by omega)).1
  have a3 := wh_at h (j := 113) (by omega)
  have hw : wholeC (knF N) (knF N) o = ((readE N == 0) && ((readF N).o == o) && readA N) := by
    unfold wholeC isB
    rw [decide_eq_true (knF_same h 113 (by omega)), Bool.true_and, hb, ← h1, ← h2, a1, ← h3]
  refine ⟨?_, hw, by rw [hb, h2]⟩
  unfold highC
  rw [hw, decide_eq_true (knF_same h 114 (by omega)), Bool.and_true, a2]
  have e : (N.getD 113 0 == 1) = !readB N := by
    rw [h4]
    rcases a3 with q | q <;> rw [q] <;> rfl
  rw [e]
  cases readE N == 0 <;> cases (readF N).o == o <;> cases readA N <;> cases readB N <;> rfl
/-- A catch is high just if near and far were both the symbols of one frame of that owner with a good tail. -/
theorem high_iff {N F : List Int} (o : Int) (hN : N.length = 114) (hF : F.length = 114) : hiB (knF N) (knF F) o 114 = ((N == F) && (readE N == 0) && (readA N && !readB N) && ((readF N).o == o)) := by
  unfold hiB
  rw [decide_eq_true (Nat.le_refl 114), Bool.true_and]
  by_cases hs : sameF (knF N) (knF F) 114 = 114
  · obtain ⟨rfl, hw⟩ := same_whole hN hF hs
    rw [(high_whole_is o hN hw).1, beq_self_eq_true, Bool.true_and]
  · have h1 : highC (knF N) (knF F) o = false := by
      unfold highC
      rw [decide_eq_false hs, Bool.and_false, Bool.false_and]
    rw [h1]
    by_cases e : N = F
    · subst e
      have hw : wholeL N = false := by
        cases hw : wholeL N
        · rfl
        · exact absurd (knF_same hw 114 (by omega)) hs
      have := (read_no (xs := N) (by simp [readOk, hw])).1
      rw [this]
      simp
    · rw [show (N == F) = false from beq_eq_false_iff_ne.2 e]
      rfl
theorem high_frame {N F : List Int} (o : Int) (hN : N.length = 114) (hF : F.length = 114) : hiF (knF N) (knF F) o 114 = if hiB (knF N) (knF F) o 114 = true then readF N else Fr.zero := by
  unfold hiF
  cases hh : hiB (knF N) (knF F) o 114
  · rfl
  · have h1 := hh
    rw [high_iff o hN hF] at h1
    simp only [Bool.and_eq_true, beq_iff_eq] at h1
    obtain ⟨⟨⟨rfl, h2⟩, h3⟩, h4⟩ := h1
    have hw : wholeL N = true := by
      cases hw : wholeL N
      · rw [(read_no (xs := N) (by simp [readOk, hw])).1] at h2; cases h2
      · rfl
    rw [if_pos rfl, if_pos rfl, (high_whole_is o hN hw).2.2]
theorem cutF_whole {N : List Int} (h : wholeL N = true) (y : Nat → Int) (n : Nat) (hn : N.length = 114) : cutF (knF N) y n = false := (cutF_iff n).2 fun j _ hj => by
  have := (knF_whole h (j := j) (by omega)).2
  rw [bo, if_neg this]
  exact this
/-- Then out was these, too. -/
theorem high_out {N F : List Int} (o : Int) (hN : N.length = 114) (hF : F.length = 114) (hh : hiB (knF N) (knF F) o 114 = true) : outL (knF N) (knF F) o 114 = N := by
  have h1 := hh
  rw [high_iff o hN hF] at h1
  simp only [Bool.and_eq_true, beq_iff_eq, Bool.not_eq_true'] at h1
  obtain ⟨⟨⟨rfl, h2⟩, h3, h5⟩, h4⟩ := h1
  have hw : wholeL N = true := by
    cases hw : wholeL N
    · rw [(read_no (xs := N) (by simp [readOk, hw])).1] at h2; cases h2
    · rfl
  obtain ⟨q1, q2, _⟩ := high_whole_is o hN hw
  obtain ⟨_, _, r3, r4⟩ := read_yes (xs := N) (by simp [readOk, hN, hw])
  rw [r3] at h3
  rw [r4] at h5
  have a3 := wh_at hw (j := 113) (by omega)
  have hC : highC (knF N) (knF N) o = true := by
    unfold hiB at hh
    simpa using hh
  refine list_ext_getD (by rw [outL_length, hN]) fun j hj => ?_
  rw [outL_length] at hj
  rw [outL_at _ _ _ _ _ hj]
  unfold outC
  rw [cutF_whole hw _ _ hN, if_neg (by decide)]
  obtain ⟨k1, k2⟩ := knF_whole hw (j := j) (by omega)
  by_cases e1 : j < 112
  · rw [if_pos e1, bo, if_neg k2, k1]
  · rw [if_neg e1]
    by_cases e2 : j = 112
    · subst e2
      rw [if_pos rfl, high_whole hC]
      simp only [beq_iff_eq] at h3
      rw [h3]
      rfl
    · obtain rfl : j = 113 := by omega
      rw [if_neg e2, if_pos rfl, hC]
      simp only [beq_eq_false_iff_ne] at h5
      rcases a3 with q | q
      · rw [q]; rfl
      · exact absurd q h5
section
variable {f : Fr} (hf : f.Fit) (hm : mayB f.o f.k = true)
include hf hm
theorem goodL_read : readE (goodL f) = 0 ∧ readF (goodL f) = f ∧ readA (goodL f) = true ∧ readB (goodL f) = false := read_put f true false hf hm
theorem goodL_high : hiB (knF (goodL f)) (knF (goodL f)) f.o 114 = true := by
  obtain ⟨h1, h2, h3, h4⟩ := goodL_read hf hm
  rw [high_iff f.o (goodL_length f) (goodL_length f), h1, h2, h3, h4]
  simp
theorem goodL_frame : hiF (knF (goodL f)) (knF (goodL f)) f.o 114 = f := by
  rw [high_frame f.o (goodL_length f) (goodL_length f), goodL_high hf hm, if_pos rfl]
  exact (goodL_read hf hm).2.1
theorem goodL_out : outL (knF (goodL f)) (knF (goodL f)) f.o 114 = goodL f := high_out f.o (goodL_length f) (goodL_length f) (goodL_high hf hm)
end
end Go.Proofs.YtkejpkcaojidaaaGreatDoor

