/-
  The contract of the law's helper lives (the chapter's examples): it returns true, and nothing that was there has turned. No condition.
-/
import Derived.Test.YtafnkcjnnebffaaPut
import Derived.Test.YtafnkcjnnebffaaNum
namespace Go.Proofs.Ytafnkcjnnebffaa
open Go.RowKit

theorem lives_any (w : World) : Calls Try.prog 9 #[] w fun e w' => e = .returned (.bool true) ∧ Below w.heap.size w w' := by
  have e1 : numR [2, 2, 1] = 6 := by decide
  have e2 : numOk [2, 2, 1] = true := by decide
  go_enter Try.func9, Try.ntmps9
  go_wp2_with fail
  have h0 : Lies .u8 (w.alloc (.cells #[.int .u8 2, .int .u8 2, .int .u8 1] 53)) _ _ 3 [2, 2, 1] := Lies.new w 53 .u8 [2, 2, 1] 3 rfl #[.int .u8 2, .int .u8 2, .int .u8 1] rfl
  with_reducible refine (num_any _ 3 3 [2, 2, 1] _ h0 (by decide)).mono ?_
  rintro e w1 ⟨rfl, rfl⟩
  have hb1 : Below w.heap.size w (w.alloc (.cells #[.int .u8 2, .int .u8 2, .int .u8 1] 53)) := below_al (Below.refl _ _) _
  generalize (w.alloc (.cells #[.int .u8 2, .int .u8 2, .int .u8 1] 53)) = w1 at hb1 ⊢
  go_wp2_with fail
  have h0 : Lies .u8 (w1.alloc (.cells #[.int .u8 5] 5)) _ _ 1 [5] := Lies.new w1 5 .u8 [5] 1 rfl #[.int .u8 5] rfl
  with_reducible refine (of_any _ 1 1 [5] _ h0 (by decide) (by decide)).mono ?_
  rintro e w2 ⟨g, rfl, hg, hB, hb⟩
  have hb2 := below_then (below_al hb1 _) hb
  clear hb hb1 e1 e2 hg
  have hl := hB.lies (n := 8) (by decide)
  clear hB
  go_wp2_with fail
  have h0 : Lies .u8 (w2.alloc (.cells #[.int .u8 1, .int .u8 1, .int .u8 1, .int .u8 1, .int .u8 1, .int .u8 2, .int .u8 1, .int .u8 2] 53)) _ _ 8 [1, 1, 1, 1, 1, 2, 1, 2] := Lies.new w2 53 .u8 [1, 1, 1, 1, 1, 2, 1, 2] 8 rfl #[.int .u8 1, .int .u8 1, .int .u8 1, .int .u8 1, .int .u8 1, .int .u8 2, .int .u8 1, .int .u8 2] rfl
  with_reducible refine (same_true _ _ 8 8 8 8 _ _ _ (hl.al _) h0 (by decide) (by decide) (by decide)).mono ?_
  rintro e w3 ⟨rfl, hb⟩
  have hb3 := below_then (below_al hb2 _) hb
  clear hb hb2 hl h0
  go_wp2_with fail
  with_reducible refine (put_any _ 0 0 [] 5 4 _ Lies.nil_ (by decide) (by decide) (by decide)).mono ?_
  rintro e w4 ⟨g, rfl, hg, hB, hb⟩
  have hb4 := below_then hb3 hb
  clear hb hb3 hg
  have hl := hB.lies (n := manyN 4) (by decide)
  clear hB
  go_wp2_with fail
  have h0 : Lies .u8 (w4.alloc (.cells #[.int .u8 1, .int .u8 2, .int .u8 1, .int .u8 2] 53)) _ _ 4 [1, 2, 1, 2] := Lies.new w4 53 .u8 [1, 2, 1, 2] 4 rfl #[.int .u8 1, .int .u8 2, .int .u8 1, .int .u8 2] rfl
  with_reducible refine (same_true _ _ _ 4 _ 4 _ _ _ (hl.al _) h0 (by decide) (by decide) (by decide)).mono ?_
  rintro e w5 ⟨rfl, hb⟩
  have hb5 := below_then (below_al hb4 _) hb
  clear hb hb4 hl h0
  go_wp2_with fail
  have h0 : Lies .u8 (w5.alloc (.cells #[.int .u8 2, .int .u8 2, .int .u8 1] 53)) _ _ 3 [2, 2, 1] := Lies.new w5 53 .u8 [2, 2, 1] 3 rfl #[.int .u8 2, .int .u8 2, .int .u8 1] rfl
  have h1 := Lies.new (w5.alloc (.cells #[.int .u8 2, .int .u8 2, .int .u8 1] 53)) 3 .i64 [0, 2, 2, 9] 4 rfl #[.int .i64 0, .int .i64 2, .int .i64 2, .int .i64 9] rfl
  rw [alloc_size w5] at h1
  with_reducible refine (turn_any _ _ 3 4 3 4 _ _ _ (h0.al _) h1 (by decide) (by decide)).mono ?_
  rintro e w6 ⟨g, rfl, hg, hB, hb⟩
  have hb6 := below_then (below_al (below_al hb5 _) _) hb
  clear hb hb5 hg h0 h1
  have hl := hB.lies (n := 3) (by decide)
  clear hB
  go_wp2_with fail
  have h0 : Lies .u8 (w6.alloc (.cells #[.int .u8 1, .int .u8 2, .int .u8 1] 53)) _ _ 3 [1, 2, 1] := Lies.new w6 53 .u8 [1, 2, 1] 3 rfl #[.int .u8 1, .int .u8 2, .int .u8 1] rfl
  with_reducible refine (same_true _ _ 3 3 3 3 _ _ _ (hl.al _) h0 (by decide) (by decide) (by decide)).mono ?_
  rintro e w7 ⟨rfl, hb⟩
  have hb7 := below_then (below_al hb6 _) hb
  clear hb hb6 hl h0
  go_wp2
  go_ret
  exact ⟨rfl, hb7⟩
end Go.Proofs.Ytafnkcjnnebffaa
