/-
  What follows of frames' bytes and symbols: what is put is got; what is got is put; turned symbols are told. No condition but those that are named.
-/
import Derived.Test.YtadcmoldpbnmnaaGreatDoorFr9
namespace Go.Proofs.YtadcmoldpbnmnaaGreatDoor
open Go.RowKit Crc

end Go.Proofs.YtadcmoldpbnmnaaGreatDoor

namespace Go.Proofs.YtadcmoldpbnmnaaGreatDoor
open Go.RowKit Crc

def liveF : Fr := ⟨1, 2, 2, 3, 4⟩
theorem liveF_fit : liveF.Fit := ⟨by decide, by decide, by decide, by decide, by decide, by decide, by decide, by decide⟩
theorem liveF_body : liveF.body = [33, 2, 0, 0, 0, 3, 0, 0, 0, 4] := by decide
theorem putL_take (l : List Int) : (putL l).take l.length = l := by simp [putL]

end Go.Proofs.YtadcmoldpbnmnaaGreatDoor

namespace Go.Proofs.YtadcmoldpbnmnaaGreatDoor
open Go.RowKit Crc

theorem getE_cases (xs : List Int) : getE xs = 0 ∨ (getE xs = 4 ∧ getF xs = Fr.zero) ∨ (getE xs = 5 ∧ getF xs = Fr.zero ∧ xs.length = 14) := by
  by_cases hl : xs.length = 14
  · by_cases hk : checkB xs = true
    · by_cases hm : mayB (frAt xs).o (frAt xs).k = true
      · exact .inl (getE_ok hl hk hm).1
      · exact .inr (.inl (getE_form hl hk (by simpa using hm)))
    · obtain ⟨h1, h2⟩ := getE_sum hl (by simpa using hk)
      exact .inr (.inr ⟨h1, h2, hl⟩)
  · exact .inr (.inl (getE_len hl))
theorem list14 {xs : List Int} (h : xs.length = 14) : ∃ a b c d e f g i j k l m n o, xs = [a, b, c, d, e, f, g, i, j, k, l, m, n, o] := by
  match xs, h with
  | [a, b, c, d, e, f, g, i, j, k, l, m, n, o], _ => exact ⟨a, b, c, d, e, f, g, i, j, k, l, m, n, o, rfl⟩
theorem frAt_body (xs : List Int) (hl : xs.length = 14) (hb : ∀ x ∈ xs, 0 ≤ x ∧ x ≤ 255) : (frAt xs).body = xs.take 10 := by
  have h1 := four_numB ((xs.drop 2).take 4) (fun x hx => hb x (List.mem_of_mem_drop (List.mem_of_mem_take hx))) (by simp [hl])
  have h2 := four_numB ((xs.drop 6).take 4) (fun x hx => hb x (List.mem_of_mem_drop (List.mem_of_mem_take hx))) (by simp [hl])
  obtain ⟨a, b, c, d, e, f, g, i, j, k, l, m, n, o, rfl⟩ := list14 hl
  simp only [Fr.body, frAt]
  rw [h1, h2]
  have : 16 * (a / 16) + a % 16 = a := by omega
  simp [this]
theorem frAt_fit (xs : List Int) (hl : xs.length = 14) (hb : ∀ x ∈ xs, 0 ≤ x ∧ x ≤ 255) : (frAt xs).Fit := by
  have h1 := numB_lt ((xs.drop 2).take 4) (fun x hx => hb x (List.mem_of_mem_drop (List.mem_of_mem_take hx))) (by simp [hl])
  have h2 := numB_lt ((xs.drop 6).take 4) (fun x hx => hb x (List.mem_of_mem_drop (List.mem_of_mem_take hx))) (by simp [hl])
  have a0 := hb (xs.getD 0 0) (by rw [getD_at xs 0 (by omega)]; exact List.getElem_mem _)
  have a1 := hb (xs.getD 1 0) (by rw [getD_at xs 1 (by omega)]; exact List.getElem_mem _)
  constructor <;> simp only [frAt] <;> omega
/-- Bytes that are got as a frame are just those that are put of it. -/
theorem get_only (xs : List Int) (hb : ∀ x ∈ xs, 0 ≤ x ∧ x ≤ 255) (h : getE xs = 0) : (getF xs).Fit ∧ mayB (getF xs).o (getF xs).k = true ∧ putL (getF xs).body = xs := by
  by_cases hl : xs.length = 14
  · by_cases hk : checkB xs = true
    · by_cases hm : mayB (frAt xs).o (frAt xs).k = true
      · rw [(getE_ok hl hk hm).2]
        refine ⟨frAt_fit xs hl hb, hm, ?_⟩
        rw [frAt_body xs hl hb]
        rw [check_is xs hb (by omega), hl] at hk
        simpa using hk
      · rw [(getE_form hl hk (by simpa using hm)).1] at h; cases h
    · rw [(getE_sum hl (by simpa using hk)).1] at h; cases h
  · rw [(getE_len hl).1] at h; cases h
/-- What is put is got. -/
theorem get_put (f : Fr) (hf : f.Fit) (hm : mayB f.o f.k = true) : getE (putL f.body) = 0 ∧ getF (putL f.body) = f := by
  have hl : (putL f.body).length = 14 := by rw [putL_length]; rfl
  have hfr : frAt (putL f.body) = f := by
    have h := (mayB_iff _ _).1 hm
    obtain ⟨o, k, s, q, v⟩ := f
    simp only at h
    show Fr.mk _ _ _ _ _ = _
    have e1 : (putL (Fr.body ⟨o, k, s, q, v⟩)).getD 0 0 = 16 * k + o := rfl
    have e2 : (putL (Fr.body ⟨o, k, s, q, v⟩)).getD 1 0 = s := rfl
    have e3 : ((putL (Fr.body ⟨o, k, s, q, v⟩)).drop 2).take 4 = four q := rfl
    have e4 : ((putL (Fr.body ⟨o, k, s, q, v⟩)).drop 6).take 4 = four v := rfl
    rw [e1, e2, e3, e4, numB_four, numB_four]
    have : (16 * k + o) % 16 = o := by omega
    have : (16 * k + o) / 16 = k := by omega
    simp [*]
  have h := getE_ok hl (check_put f.body) (by rw [hfr]; exact hm)
  rw [hfr] at h
  exact h
/-- What is put as symbols is read, with its tail. -/
theorem read_put (f : Fr) (a b : Bool) (hf : f.Fit) (hm : mayB f.o f.k = true) : readE (ofL (putL f.body) ++ tailL a b) = 0 ∧ readF (ofL (putL f.body) ++ tailL a b) = f ∧ readA (ofL (putL f.body) ++ tailL a b) = a ∧ readB (ofL (putL f.body) ++ tailL a b) = b := by
  have hl : (ofL (putL f.body)).length = 112 := by rw [ofL_length, putL_length]; rfl
  have hbd := putL_bd _ (Fr.body_bd hf hm)
  have hok : readOk (ofL (putL f.body) ++ tailL a b) = true := by
    rw [readOk, wholeL_append, wholeL_ofL]
    have : wholeL (tailL a b) = true := by cases a <;> cases b <;> rfl
    rw [this]
    simp [hl, tailL]
  obtain ⟨h1, h2, h3, h4⟩ := read_yes hok
  have ht : (ofL (putL f.body) ++ tailL a b).take 112 = ofL (putL f.body) := by rw [List.take_append_of_le_length (by omega), List.take_of_length_le (by omega)]
  rw [ht, bytesL_ofL _ hbd] at h1 h2
  obtain ⟨g1, g2⟩ := get_put f hf hm
  refine ⟨h1.trans g1, h2.trans g2, ?_, ?_⟩
  · rw [h3, List.getD, List.getElem?_append_right (by omega), hl]
    cases a <;> rfl
  · rw [h4, List.getD, List.getElem?_append_right (by omega), hl]
    cases b <;> rfl
end Go.Proofs.YtadcmoldpbnmnaaGreatDoor

