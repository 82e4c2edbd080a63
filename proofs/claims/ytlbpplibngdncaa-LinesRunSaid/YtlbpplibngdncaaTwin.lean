/-
  The contracts of the law's Twin.. and Left..: a twin is the same list in new memory with two marks behind; Left.. returns true of a twin that is as it was. Conditions: the slices' readings, lengths of at most 65536.
-/
import Derived.Test.YtlbpplibngdncaaSameB
import Derived.Test.YtlbpplibngdncaaApp
import Derived.Test.YtlbpplibngdncaaKinds
import Derived.Test.YtlbpplibngdncaaNums
namespace Go.Proofs.Ytlbpplibngdncaa
open Go.RowKit

/-- A twin: the slice '.slice (some g) n c' holds xs, two marks behind it, in a block of its own. -/
def TwinOf (k : IntKind) (w : World) (t : TypeId) (g n c : Nat) (xs : List Int) : Prop :=
  xs.length = n ∧ n + 2 ≤ c ∧ c ≤ maxLen ∧ ∃ cs : Array Value, Blk w g t cs ∧ cs.size = c ∧ ∀ j, j < n + 2 → cs[j]? = some (.int k ((xs ++ [77, 77]).getD j 0))
section
variable {k : IntKind} {w w' : World} {t : TypeId} {g n c : Nat} {xs : List Int}
theorem TwinOf.len (h : TwinOf k w t g n c xs) : xs.length = n := h.1
theorem TwinOf.cap (h : TwinOf k w t g n c xs) : n + 2 ≤ c := h.2.1
theorem TwinOf.on (h : TwinOf k w t g n c xs) (hb : Below w.heap.size w w') : TwinOf k w' t g n c xs := by
  obtain ⟨h1, h2, h3, cs, h4, h5⟩ := h
  exact ⟨h1, h2, h3, cs, h4.on hb, h5⟩
theorem TwinOf.cell (h : TwinOf k w t g n c xs) {j : Nat} (hj : j < n + 2) : w.cell? ⟨g, j, none⟩ = some (.int k ((xs ++ [77, 77]).getD j 0)) := by
  obtain ⟨_, _, _, cs, h4, _, h5⟩ := h
  rw [h4.cell, h5 j hj]
theorem TwinOf.lt (h : TwinOf k w t g n c xs) : g < w.heap.size := by
  obtain ⟨_, _, _, cs, h4, _⟩ := h
  exact h4.lt
theorem TwinOf.lies (h : TwinOf k w t g n c xs) : Lies k w w.heap.size (some ⟨g, 0, none⟩) n xs :=
  ⟨h.1, fun _ => ⟨g, 0, rfl, h.lt, fun j hj => by
    have hl := h.1
    rw [Nat.zero_add, h.cell (by omega)]
    simp only [List.getD]
    rw [List.getElem?_append_left (by omega)]⟩⟩
theorem TwinOf.mark0 (h : TwinOf k w t g n c xs) : w.cell? ⟨g, n, none⟩ = some (.int k 77) := by
  have hl := h.1
  rw [h.cell (by omega)]
  simp [List.getD, ← hl]
theorem TwinOf.mark1 (h : TwinOf k w t g n c xs) : w.cell? ⟨g, n + 1, none⟩ = some (.int k 77) := by
  have hl := h.1
  rw [h.cell (by omega)]
  simp [List.getD, ← hl]
theorem twin_of_owns {base : Nat} {A : Option Addr} (h : w.ownsRow base t 1 (.slice A (n + 2) c) (n + 2) ((xs ++ [77, 77]).map (Value.int k))) : ∃ g, A = some ⟨g, 0, none⟩ ∧ base ≤ g ∧ TwinOf k w t g n c xs := by
  obtain ⟨hl, h2⟩ := h
  have hl' : xs.length = n := by simp at hl; omega
  rcases h2 with ⟨_, h0⟩ | ⟨g, cap, cur, hv, hb, hh, hnc, hm, hcs, htk⟩
  · omega
  · injection hv with hA _ hc
    subst hc
    refine ⟨g, hA, hb, hl', hnc, hm, cur, hh, by simpa using hcs, fun j hj => ?_⟩
    have h1 : (cur.toList.take ((n + 2) * 1))[j]? = cur[j]? := by
      rw [List.getElem?_take_of_lt (by omega)]; simp
    rw [← h1, htk]
    have hj' : j < (xs ++ [77, 77]).length := by simp; omega
    simp only [List.getElem?_map, List.getD, List.getElem?_eq_getElem hj']
    rfl
end
theorem twinNums_any (A : Option Addr) (n c : Nat) (xs : List Int) (w : World) (hx : Lies .i64 w w.heap.size A n xs) (hn : n ≤ 65536) :
    Calls Try.prog 16 #[.slice A n c] w fun e w' => ∃ g c', e = .returned (.slice (some ⟨g, 0, none⟩) n c') ∧ w.heap.size ≤ g ∧ TwinOf .i64 w' 3 g n c' xs ∧ Below w.heap.size w w' := by
  obtain ⟨i0, hi0, hz0, hz1, hz2⟩ := info_parts infoNums
  go_enter Try.func16, Try.ntmps16
  go_wp2_with (first
    | (at_builtin; with_reducible refine wpList_append_lies rfl (.const (.slice none 0 0)) (.tmp 4) 31 rfl w.heap.size 3 i0 _ 8 Try.underlying31 hi0 hz0 hz1 hz2 rfl .i64 (.slice none 0 0) 0 [] rfl owns_none A n c xs rfl hx n (Nat.zero_add n) (by unfold maxLen; omega) (by omega) (Nat.le_refl _) ?_))
  intro A1 c1 w1 hown1 hg1 _
  have hb1 := (Below.refl w.heap.size w).grown hg1 (Nat.le_refl _) (by simp [Value.ownBlock])
  clear hg1
  have hl7 := Lies.new w1 3 .i64 [77, 77] 2 rfl #[.int .i64 77, .int .i64 77] rfl
  have hown1' := hown1.alloc (.cells #[.int .i64 77, .int .i64 77] 3)
  go_wp2_with (first
    | (at_builtin; with_reducible refine wpList_append_lies rfl (.tmp 6) (.tmp 7) 31 rfl w.heap.size 3 i0 _ 8 Try.underlying31 hi0 hz0 hz1 hz2 rfl .i64 (.slice A1 n c1) n xs rfl hown1' (some ⟨w1.heap.size, 0, none⟩) 2 2 [77, 77] rfl hl7 (n + 2) rfl (by unfold maxLen; omega) (by omega) (Nat.le_trans hb1.size (by simp)) ?_))
  intro A2 c2 w2 hown2 hg2 _
  have hb2 := (below_al hb1 (.cells #[.int .i64 77, .int .i64 77] 3)).grown hg2 (Nat.le_trans hb1.size (by simp)) (fun q hq => (hown1.lt q hq).1)
  obtain ⟨g, rfl, hg, ht⟩ := twin_of_owns (xs := xs) (n := n) (by rw [List.map_append]; exact hown2)
  have hc := ht.cap
  have hsl := fun W : World => headNums g (n + 2) c2 (n : Int) (by omega) (by omega) W
  clear hown1 hown1' hown2 hg2 hl7 hi0 hz0 hz1 hz2 hb1
  rw [Int.toNat_natCast] at hsl
  go_wp2_with fail
  go_ret
  exact ⟨g, c2, rfl, hg, ht, hb2⟩
theorem leftNums_true (g n c d : Nat) (A : Option Addr) (xs : List Int) (w : World) (ht : TwinOf .i64 w 3 g n c xs) (hl : Lies .i64 w w.heap.size A n xs) (hn : n ≤ 65536) :
    Calls Try.prog 21 #[.slice (some ⟨g, 0, none⟩) n c, .slice A n d] w fun e w' => e = .returned (.bool true) ∧ Below w.heap.size w w' := by
  have hc := ht.cap
  have hci : (n : Int) + 2 ≤ (c : Int) := by omega
  have hd : decide ((c : Int) < (n : Int) + 2) = false := by simp; omega
  have hsl := fun W : World => headNums g n c ((n : Int) + 2) (by omega) (by omega) W
  rw [show ((n : Int) + 2).toNat = n + 2 by omega] at hsl
  go_enter Try.func21, Try.ntmps21
  go_wp2_with fail
  with_reducible refine (sameNums_true _ _ n n c d xs xs _ ht.lies hl (by omega) (by omega) rfl).mono ?_
  rintro e w1 ⟨rfl, hb⟩
  have h0 := (ht.on hb).mark0
  have h1 := (ht.on hb).mark1
  clear ht hl
  go_wp2_with fail
  go_ret
  exact ⟨rfl, hb⟩
end Go.Proofs.Ytlbpplibngdncaa
