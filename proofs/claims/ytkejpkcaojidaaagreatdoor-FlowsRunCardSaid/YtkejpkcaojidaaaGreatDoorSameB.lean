/-
  The contract of the law's SameBytes where the two lists are one: it returns true, and the world is as it was. Conditions: the slices' readings, bytes.
-/
import Derived.Test.YtkejpkcaojidaaaGreatDoorKinds
import Derived.Laws.IdiomStrings
import Derived.Laws.BytesString
namespace Go.Proofs.YtkejpkcaojidaaaGreatDoor
set_option linter.unusedVariables false
set_option linter.unusedSimpArgs false
open Go.RowKit
end Go.Proofs.YtkejpkcaojidaaaGreatDoor

namespace Go.Proofs.YtkejpkcaojidaaaGreatDoor
open Go.RowKit

def strOf (xs : List Int) : List UInt8 := xs.map fun x => UInt8.ofNat x.toNat
theorem run_string_lies {w : World} {A : Option Addr} {n c : Nat} {xs : List Int} (hx : Lies .u8 w w.heap.size A n xs) (hb : ∀ x ∈ xs, 0 ≤ x ∧ x ≤ 255) :
    (convert 68 9 (.slice A n c)).run Tryz.prog w = .ok (.string ⟨(strOf xs).toArray⟩) w := by
  have hl := hx.len
  rcases Nat.eq_zero_or_pos n with h0 | h0
  · subst h0
    obtain rfl : xs = [] := List.eq_nil_of_length_eq_zero hl
    rw [run_convert_bytes_string w _ _ _ _ _ _ Tryz.underlying68 Tryz.underlying5 Tryz.underlying9]
    cases A with
    | none => simp [Conv.bytesToString, strOf]; rfl
    | some a => simp [Conv.bytesToString, strOf]; rfl
  · obtain ⟨b, off, rfl, _, hc⟩ := hx.at_ h0
    have h := run_convert_bytes_back (P := Tryz.prog) w 68 9 5 ⟨b, off, none⟩ c (strOf xs) Tryz.underlying68 Tryz.underlying5 Tryz.underlying9 (fun j hj => by
      have hj' : j < xs.length := by simpa [strOf] using hj
      rw [Addr.add_lit, hc j (by omega)]
      have := hb xs[j] (List.getElem_mem hj')
      simp [strOf, hj']
      omega)
    simpa [strOf, hl] using h

end Go.Proofs.YtkejpkcaojidaaaGreatDoor

