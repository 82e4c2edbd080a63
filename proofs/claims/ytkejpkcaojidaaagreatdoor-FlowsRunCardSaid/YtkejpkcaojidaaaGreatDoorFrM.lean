/-
  What follows of frames' bytes and symbols: what is put is got; what is got is put; turned symbols are told. No condition but those that are named.
-/
import Derived.Test.YtkejpkcaojidaaaGreatDoorFr9
namespace Go.Proofs.YtkejpkcaojidaaaGreatDoor
set_option linter.unusedVariables false
set_option linter.unusedSimpArgs false
open Go.RowKit Crc

end Go.Proofs.YtkejpkcaojidaaaGreatDoor

namespace Go.Proofs.YtkejpkcaojidaaaGreatDoor
open Go.RowKit Crc

end Go.Proofs.YtkejpkcaojidaaaGreatDoor

namespace Go.Proofs.YtkejpkcaojidaaaGreatDoor
open Go.RowKit Crc

/-- What is put is got. -/
theorem get_put (f : Fr) (hf : f.Fit) (hm : mayB f.o f.k = true) : getE (putL f.body) = 0 ∧ getF (putL f.body) = f := by
  have hl : (putL f.body).length = 14 := by rw [putL_length]; rfl
  have hfr : frAt (putL f.body) = f := by
    have h := (mayB_iff _ _).1 hm
    obtain ⟨o, k, s, q, v⟩ := f
    simp only at h
    show Fr.mk _ _ _ _ _ = _
    have e1 : (putL (Fr.body ⟨o, k, s, q, v⟩)).getD 0 0 = 16 * k + o := rfl
    have e2 : (putL (Fr.body ⟨o, k, s, q, v⟩)).getD 1 0 = s := rfl
    have e3 : ((putL (Fr.body ⟨o, k, s, q, v⟩)).drop 2).take 4 = four q := rfl
    have e4 : ((putL (Fr.body ⟨o, k, s, q, v⟩)).drop 6).take 4 = four v := rfl
    rw [e1, e2, e3, e4, numB_four, numB_four]
    have : (16 * k + o) % 16 = o := by omega
    have : (16 * k + o) / 16 = k := by omega
    simp [*]
  have h := getE_ok hl (check_put f.body) (by rw [hfr]; exact hm)
  rw [hfr] at h
  exact h
/-- What is put as symbols is read, with its tail. -/
theorem read_put (f : Fr) (a b : Bool) (hf : f.Fit) (hm : mayB f.o f.k = true) : readE (ofL (putL f.body) ++ tailL a b) = 0 ∧ readF (ofL (putL f.body) ++ tailL a b) = f ∧ readA (ofL (putL f.body) ++ tailL a b) = a ∧ readB (ofL (putL f.body) ++ tailL a b) = b := by
  have hl : (ofL (putL f.body)).length = 112 := by rw [ofL_length, putL_length]; rfl
  have hbd := putL_bd _ (Fr.body_bd hf hm)
  have hok : readOk (ofL (putL f.body) ++ tailL a b) = true := by
    rw [readOk, wholeL_append, wholeL_ofL]
    have : wholeL (tailL a b) = true := by cases a <;> cases b <;> rfl
    rw [this]
    simp [hl, tailL]
  obtain ⟨h1, h2, h3, h4⟩ := read_yes hok
  have ht : (ofL (putL f.body) ++ tailL a b).take 112 = ofL (putL f.body) := by rw [List.take_append_of_le_length (by omega), List.take_of_length_le (by omega)]
  rw [ht, bytesL_ofL _ hbd] at h1 h2
  obtain ⟨g1, g2⟩ := get_put f hf hm
  refine ⟨h1.trans g1, h2.trans g2, ?_, ?_⟩
  · rw [h3, List.getD, List.getElem?_append_right (by omega), hl]
    cases a <;> rfl
  · rw [h4, List.getD, List.getElem?_append_right (by omega), hl]
    cases b <;> rfl
end Go.Proofs.YtkejpkcaojidaaaGreatDoor

