/-
  Say's region of a ring: what is known of memory and of the slots, by the operations that are through. Nothing is asked but what is named.
-/
import Derived.Test.YtcangipaoancnaaRi2
namespace Go.Proofs.Ytcangipaoancnaa
open Go.RowKit
set_option linter.unusedVariables false
set_option linter.unusedSimpArgs false

open Reg in
/-- The call is 11 (slot 40); its value is handed on (12, slot 28), taken apart (13, 14, slots 41, 42), and stored (17, 18) in two boxes (15, 16, slots 7, 8). -/
structure SM (P0 : World → Prop) (P1 : Value → World → Prop) (lo : Nat) (f : Nat → Bool) (x : Nat → Value) (u : World) : Prop where
  d1 : f 17 = true → f 13 = true ∧ f 15 = true
  d2 : f 18 = true → f 14 = true ∧ f 16 = true
  d3 : f 12 = true → f 11 = true ∧ x 28 = x 40
  d4 : f 13 = true → f 12 = true ∧ ∀ C D, x 28 = .tuple #[C, D] → x 41 = C
  d5 : f 14 = true → f 12 = true ∧ ∀ C D, x 28 = .tuple #[C, D] → x 42 = D
  p0 : f 11 = false → P0 u
  p1 : f 11 = true → P1 (x 40) u
  c7 : f 15 = true → ∃ g Z, x 7 = .pointer (some ⟨g, 0, none⟩) ∧ lo ≤ g ∧ Z.length = 1 ∧ PIn u g 0 34 [] [] Z ∧ (f 17 = true → x 41 = .agg Z.toArray)
  c8 : f 16 = true → ∃ g Z, x 8 = .pointer (some ⟨g, 0, none⟩) ∧ lo ≤ g ∧ Z.length = 1 ∧ PIn u g 0 34 [] [] Z ∧ (f 18 = true → x 42 = .agg Z.toArray)
  ne : f 15 = true → f 16 = true → x 7 ≠ x 8
section
variable {P0 : World → Prop} {P1 : Value → World → Prop} {lo : Nat} {f : Nat → Bool} {x : Nat → Value} {u v : World}
theorem PIn.keptBut_ {ts : List TypeId} {w w' : World} {g O : Nat} {T : TypeId} {A Z L : List Value} (h : PIn w g O T A Z L) (k : KeptBut w w' ts) (ht : T ∉ ts) : PIn w' g O T A Z L := ⟨k _ _ _ ht h.blk, h.len⟩
theorem SM.cong (f g : Nat → Bool) (x y : Nat → Value) (w : World) (h : ∀ k, k ∈ [11, 12, 13, 14, 15, 16, 17, 18] → f k = g k) (k : ∀ d, d ∈ [7, 8, 28, 40, 41, 42] → x d = y d) (hp : SM P0 P1 lo f x w) : SM P0 P1 lo g y w := by
  have h11 := h 11 (by simp); have h12 := h 12 (by simp); have h13 := h 13 (by simp); have h14 := h 14 (by simp)
  have h15 := h 15 (by simp); have h16 := h 16 (by simp); have h17 := h 17 (by simp); have h18 := h 18 (by simp)
  have k7 := k 7 (by simp); have k8 := k 8 (by simp); have k28 := k 28 (by simp); have k40 := k 40 (by simp); have k41 := k 41 (by simp); have k42 := k 42 (by simp)
  obtain ⟨a1, a2, a3, a4, a5, a6, a7, a8, a9, a10⟩ := hp
  rw [h11, k28, k40] at a3
  rw [h12, k28, k41] at a4
  rw [h12, k28, k42] at a5
  constructor
  · rw [← h17, ← h13, ← h15]; exact a1
  · rw [← h18, ← h14, ← h16]; exact a2
  · rw [← h12]; exact a3
  · rw [← h13]; exact a4
  · rw [← h14]; exact a5
  · rw [← h11]; exact a6
  · rw [← h11, ← k40]; exact a7
  · rw [← h15, ← h17, ← k7, ← k41]; exact a8
  · rw [← h16, ← h18, ← k8, ← k42]; exact a9
  · rw [← h15, ← h16, ← k7, ← k8]; exact a10
theorem SM.zero (h : P0 u) (x : Nat → Value) : SM P0 P1 lo (fun _ => false) x u := by
  constructor
  · intro h; cases h
  · intro h; cases h
  · intro h; cases h
  · intro h; cases h
  · intro h; cases h
  · intro _; exact h
  · intro h; cases h
  · intro h; cases h
  · intro h; cases h
  · intro h; cases h
open Reg in
theorem SM.any {T : World → Prop} (h0 : ∀ u, P0 u → T u) (h1 : ∀ v u, P1 v u → T u) (h : SM P0 P1 lo f x u) : T u := by
  cases e : f 11
  · exact h0 _ (h.p0 e)
  · exact h1 _ _ (h.p1 e)
theorem SM.call (h : SM P0 P1 lo f x u) (hf : f 11 = false) : P0 u ∧ ∀ z u', P1 z u' → KeptBut u u' [138] → SM P0 P1 lo (Reg.mark f 11) (Reg.upd x 40 z) u' := by
  refine ⟨h.p0 hf, fun z u' hz hk => ?_⟩
  have n12 : f 12 = false := Bool.eq_false_iff.2 fun q => by rw [(h.d3 q).1] at hf; cases hf
  have n13 : f 13 = false := Bool.eq_false_iff.2 fun q => by rw [(h.d4 q).1] at n12; cases n12
  have n14 : f 14 = false := Bool.eq_false_iff.2 fun q => by rw [(h.d5 q).1] at n12; cases n12
  have n17 : f 17 = false := Bool.eq_false_iff.2 fun q => by rw [(h.d1 q).1] at n13; cases n13
  have n18 : f 18 = false := Bool.eq_false_iff.2 fun q => by rw [(h.d2 q).1] at n14; cases n14
  constructor
  · intro q; exact absurd (show f 17 = true from q) (by simp [n17])
  · intro q; exact absurd (show f 18 = true from q) (by simp [n18])
  · intro q; exact absurd (show f 12 = true from q) (by simp [n12])
  · intro q; exact absurd (show f 13 = true from q) (by simp [n13])
  · intro q; exact absurd (show f 14 = true from q) (by simp [n14])
  · intro q; exact absurd (show true = false from q) (by decide)
  · intro _; exact hz
  · intro q
    obtain ⟨g, Z, q1, q2, q3, q4, q5⟩ := h.c7 q
    exact ⟨g, Z, q1, q2, q3, q4.keptBut_ hk (by decide), fun q => absurd (show f 17 = true from q) (by simp [n17])⟩
  · intro q
    obtain ⟨g, Z, q1, q2, q3, q4, q5⟩ := h.c8 q
    exact ⟨g, Z, q1, q2, q3, q4.keptBut_ hk (by decide), fun q => absurd (show f 18 = true from q) (by simp [n18])⟩
  · exact h.ne
theorem SM.hand (h : SM P0 P1 lo f x u) (hf : f 12 = false) (h11 : f 11 = true) : SM P0 P1 lo (Reg.mark f 12) (Reg.upd x 28 (x 40)) u := by
  have n13 : f 13 = false := Bool.eq_false_iff.2 fun q => by rw [(h.d4 q).1] at hf; cases hf
  have n14 : f 14 = false := Bool.eq_false_iff.2 fun q => by rw [(h.d5 q).1] at hf; cases hf
  constructor
  · exact h.d1
  · exact h.d2
  · intro _; exact ⟨h11, rfl⟩
  · intro q; exact absurd (show f 13 = true from q) (by simp [n13])
  · intro q; exact absurd (show f 14 = true from q) (by simp [n14])
  · exact h.p0
  · exact h.p1
  · exact h.c7
  · exact h.c8
  · exact h.ne
theorem SM.take1 (h : SM P0 P1 lo f x u) (hf : f 13 = false) (h12 : f 12 = true) {C D : Value} (hx : x 28 = .tuple #[C, D]) : SM P0 P1 lo (Reg.mark f 13) (Reg.upd x 41 C) u := by
  have n17 : f 17 = false := Bool.eq_false_iff.2 fun q => by rw [(h.d1 q).1] at hf; cases hf
  constructor
  · intro q; exact absurd (show f 17 = true from q) (by simp [n17])
  · exact h.d2
  · exact h.d3
  · intro _
    refine ⟨h12, fun C' D' e => ?_⟩
    have e : x 28 = .tuple #[C', D'] := e
    rw [hx] at e
    injection e with e
    have e1 := congrArg (fun a : Array Value => a[0]?) e
    simpa [Reg.upd] using e1
  · exact h.d5
  · exact h.p0
  · exact h.p1
  · intro q
    obtain ⟨g, Z, q1, q2, q3, q4, q5⟩ := h.c7 q
    exact ⟨g, Z, q1, q2, q3, q4, fun q => absurd (show f 17 = true from q) (by simp [n17])⟩
  · exact h.c8
  · exact h.ne
theorem SM.take2 (h : SM P0 P1 lo f x u) (hf : f 14 = false) (h12 : f 12 = true) {C D : Value} (hx : x 28 = .tuple #[C, D]) : SM P0 P1 lo (Reg.mark f 14) (Reg.upd x 42 D) u := by
  have n18 : f 18 = false := Bool.eq_false_iff.2 fun q => by rw [(h.d2 q).1] at hf; cases hf
  constructor
  · exact h.d1
  · intro q; exact absurd (show f 18 = true from q) (by simp [n18])
  · exact h.d3
  · exact h.d4
  · intro _
    refine ⟨h12, fun C' D' e => ?_⟩
    have e : x 28 = .tuple #[C', D'] := e
    rw [hx] at e
    injection e with e
    have e1 := congrArg (fun a : Array Value => a[1]?) e
    simpa [Reg.upd] using e1
  · exact h.p0
  · exact h.p1
  · exact h.c7
  · intro q
    obtain ⟨g, Z, q1, q2, q3, q4, q5⟩ := h.c8 q
    exact ⟨g, Z, q1, q2, q3, q4, fun q => absurd (show f 18 = true from q) (by simp [n18])⟩
  · exact h.ne
theorem SM.al7 (h : SM P0 P1 lo f x u) (hf : f 15 = false) (h0 : ∀ u u', Below u.heap.size u u' → P0 u → P0 u') (h1 : ∀ v u u', Below u.heap.size u u' → P1 v u → P1 v u') {g : Nat} {Z : List Value} (hg : u.heap.size ≤ g) (hlo : lo ≤ u.heap.size) (hZ : Z.length = 1) (hb : Below u.heap.size u v) (hP : PIn v g 0 34 [] [] Z) : SM P0 P1 lo (Reg.mark f 15) (Reg.upd x 7 (.pointer (some ⟨g, 0, none⟩))) v := by
  have n17 : f 17 = false := Bool.eq_false_iff.2 fun q => by rw [(h.d1 q).2] at hf; cases hf
  constructor
  · intro q; exact absurd (show f 17 = true from q) (by simp [n17])
  · exact h.d2
  · exact h.d3
  · exact h.d4
  · exact h.d5
  · intro q; exact h0 _ _ hb (h.p0 q)
  · intro q; exact h1 _ _ _ hb (h.p1 q)
  · intro _; exact ⟨g, Z, rfl, by omega, hZ, hP, fun q => absurd (show f 17 = true from q) (by simp [n17])⟩
  · intro q
    obtain ⟨g', Z', q1, q2, q3, q4, q5⟩ := h.c8 q
    exact ⟨g', Z', q1, q2, q3, q4.on hb, q5⟩
  · intro _ q
    obtain ⟨g', Z', q1, q2, q3, q4, q5⟩ := h.c8 q
    show Value.pointer (some ⟨g, 0, none⟩) ≠ x 8
    rw [q1]
    intro e
    have := q4.lt
    injection e with e
    injection e with e
    injection e with e
    omega
theorem SM.al8 (h : SM P0 P1 lo f x u) (hf : f 16 = false) (h0 : ∀ u u', Below u.heap.size u u' → P0 u → P0 u') (h1 : ∀ v u u', Below u.heap.size u u' → P1 v u → P1 v u') {g : Nat} {Z : List Value} (hg : u.heap.size ≤ g) (hlo : lo ≤ u.heap.size) (hZ : Z.length = 1) (hb : Below u.heap.size u v) (hP : PIn v g 0 34 [] [] Z) : SM P0 P1 lo (Reg.mark f 16) (Reg.upd x 8 (.pointer (some ⟨g, 0, none⟩))) v := by
  have n18 : f 18 = false := Bool.eq_false_iff.2 fun q => by rw [(h.d2 q).2] at hf; cases hf
  constructor
  · exact h.d1
  · intro q; exact absurd (show f 18 = true from q) (by simp [n18])
  · exact h.d3
  · exact h.d4
  · exact h.d5
  · intro q; exact h0 _ _ hb (h.p0 q)
  · intro q; exact h1 _ _ _ hb (h.p1 q)
  · intro q
    obtain ⟨g', Z', q1, q2, q3, q4, q5⟩ := h.c7 q
    exact ⟨g', Z', q1, q2, q3, q4.on hb, q5⟩
  · intro _; exact ⟨g, Z, rfl, by omega, hZ, hP, fun q => absurd (show f 18 = true from q) (by simp [n18])⟩
  · intro q _
    obtain ⟨g', Z', q1, q2, q3, q4, q5⟩ := h.c7 q
    show x 7 ≠ Value.pointer (some ⟨g, 0, none⟩)
    rw [q1]
    intro e
    have := q4.lt
    injection e with e
    injection e with e
    injection e with e
    omega
theorem SM.st7 (h : SM P0 P1 lo f x u) (h13 : f 13 = true) (h15 : f 15 = true) (h0 : ∀ g u u', lo ≤ g → (∃ cs, Blk u g 34 cs) → But g u u' → P0 u → P0 u') (h1 : ∀ v g u u', lo ≤ g → (∃ cs, Blk u g 34 cs) → But g u u' → P1 v u → P1 v u') : ∃ g Z, x 7 = .pointer (some ⟨g, 0, none⟩) ∧ Z.length = 1 ∧ PIn u g 0 34 [] [] Z ∧ ∀ u' L, L.length = 1 → x 41 = .agg L.toArray → PIn u' g 0 34 [] [] L → But g u u' → SM P0 P1 lo (Reg.mark f 17) x u' := by
  obtain ⟨g, Z, q1, q2, q3, q4, q5⟩ := h.c7 h15
  refine ⟨g, Z, q1, q3, q4, fun u' L hL hx hP hb => ?_⟩
  have hw : ∃ cs, Blk u g 34 cs := ⟨_, q4.blk⟩
  constructor
  · intro _; exact ⟨h13, h15⟩
  · exact h.d2
  · exact h.d3
  · exact h.d4
  · exact h.d5
  · intro q; exact h0 _ _ _ q2 hw hb (h.p0 q)
  · intro q; exact h1 _ _ _ _ q2 hw hb (h.p1 q)
  · intro _; exact ⟨g, L, q1, q2, hL, hP, fun _ => hx⟩
  · intro q
    obtain ⟨g', Z', r1, r2, r3, r4, r5⟩ := h.c8 q
    refine ⟨g', Z', r1, r2, r3, r4.but hb fun e => ?_, r5⟩
    have := h.ne h15 q
    rw [q1, r1, e] at this
    exact this rfl
  · exact h.ne
theorem SM.st8 (h : SM P0 P1 lo f x u) (h14 : f 14 = true) (h16 : f 16 = true) (h0 : ∀ g u u', lo ≤ g → (∃ cs, Blk u g 34 cs) → But g u u' → P0 u → P0 u') (h1 : ∀ v g u u', lo ≤ g → (∃ cs, Blk u g 34 cs) → But g u u' → P1 v u → P1 v u') : ∃ g Z, x 8 = .pointer (some ⟨g, 0, none⟩) ∧ Z.length = 1 ∧ PIn u g 0 34 [] [] Z ∧ ∀ u' L, L.length = 1 → x 42 = .agg L.toArray → PIn u' g 0 34 [] [] L → But g u u' → SM P0 P1 lo (Reg.mark f 18) x u' := by
  obtain ⟨g, Z, q1, q2, q3, q4, q5⟩ := h.c8 h16
  refine ⟨g, Z, q1, q3, q4, fun u' L hL hx hP hb => ?_⟩
  have hw : ∃ cs, Blk u g 34 cs := ⟨_, q4.blk⟩
  constructor
  · exact h.d1
  · intro _; exact ⟨h14, h16⟩
  · exact h.d3
  · exact h.d4
  · exact h.d5
  · intro q; exact h0 _ _ _ q2 hw hb (h.p0 q)
  · intro q; exact h1 _ _ _ _ q2 hw hb (h.p1 q)
  · intro q
    obtain ⟨g', Z', r1, r2, r3, r4, r5⟩ := h.c7 q
    refine ⟨g', Z', r1, r2, r3, r4.but hb fun e => ?_, r5⟩
    have := h.ne q h16
    rw [q1, r1, e] at this
    exact this rfl
  · intro _; exact ⟨g, L, q1, q2, hL, hP, fun _ => hx⟩
  · exact h.ne
theorem SM.end_ (h : SM P0 P1 lo (fun _ => true) x u) {C D : List Value} (hx : x 40 = .tuple #[.agg C.toArray, .agg D.toArray]) : ∃ g7 g8, x 7 = .pointer (some ⟨g7, 0, none⟩) ∧ x 8 = .pointer (some ⟨g8, 0, none⟩) ∧ PIn u g7 0 34 [] [] C ∧ PIn u g8 0 34 [] [] D := by
  obtain ⟨g7, Z7, q1, _, _, q4, q5⟩ := h.c7 rfl
  obtain ⟨g8, Z8, r1, _, _, r4, r5⟩ := h.c8 rfl
  have h28 := (h.d3 rfl).2
  have h41 := (h.d4 rfl).2 _ _ (h28.trans hx)
  have h42 := (h.d5 rfl).2 _ _ (h28.trans hx)
  rw [q5 rfl] at h41
  rw [r5 rfl] at h42
  injection h41 with h41
  injection h42 with h42
  have e1 : Z7 = C := by simpa using h41
  have e2 : Z8 = D := by simpa using h42
  exact ⟨g7, g8, q1, r1, e1 ▸ q4, e2 ▸ r4⟩
end
end Go.Proofs.Ytcangipaoancnaa

