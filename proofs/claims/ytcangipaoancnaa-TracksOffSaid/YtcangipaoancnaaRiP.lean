/-
  Phases of a region that draws its order: four operations, each waiting for the one ahead of it, turn what is known of memory. Nothing of the program is named here; no condition.
-/
import Derived.Test.YtcangipaoancnaaRegXI
namespace Go.Proofs.Ytcangipaoancnaa
open Go.RowKit

namespace Reg
/-- What is known, once the operations that f names are through: behind none of b, c, d; behind b, c, d, with the value that the last one left. -/
def Ph (a b c d s1 s2 s3 : Nat) (P0 : World → Prop) (P1 P2 P3 : Value → World → Prop) (f : Nat → Bool) (x : Nat → Value) (u : World) : Prop :=
  (f b = true → f a = true) ∧ (f c = true → f b = true) ∧ (f d = true → f c = true) ∧ (if f d = true then P3 (x s3) u else if f c = true then P2 (x s2) u else if f b = true then P1 (x s1) u else P0 u)
section
variable {a b c d s1 s2 s3 : Nat} {P0 : World → Prop} {P1 P2 P3 : Value → World → Prop} {f g : Nat → Bool} {x y : Nat → Value} {u : World}
theorem ph_cong (f g : Nat → Bool) (x y : Nat → Value) (w : World) (h : ∀ k, k ∈ [a, b, c, d] → f k = g k) (k : ∀ e, e ∈ [s1, s2, s3] → x e = y e) (hp : Ph a b c d s1 s2 s3 P0 P1 P2 P3 f x w) : Ph a b c d s1 s2 s3 P0 P1 P2 P3 g y w := by
  unfold Ph at hp ⊢
  rw [← h a (by simp), ← h b (by simp), ← h c (by simp), ← h d (by simp), ← k s1 (by simp), ← k s2 (by simp), ← k s3 (by simp)]
  exact hp
theorem ph_0 (h : P0 u) (x : Nat → Value) : Ph a b c d s1 s2 s3 P0 P1 P2 P3 (fun _ => false) x u := ⟨fun h => h, fun h => h, fun h => h, by simpa using h⟩
theorem ph_any {T : World → Prop} (h0 : ∀ u, P0 u → T u) (h1 : ∀ v u, P1 v u → T u) (h2 : ∀ v u, P2 v u → T u) (h3 : ∀ v u, P3 v u → T u) (h : Ph a b c d s1 s2 s3 P0 P1 P2 P3 f x u) : T u := by
  have h4 := h.2.2.2
  split at h4
  · exact h3 _ _ h4
  · split at h4
    · exact h2 _ _ h4
    · split at h4
      · exact h1 _ _ h4
      · exact h0 _ h4
theorem ph_end (h : Ph a b c d s1 s2 s3 P0 P1 P2 P3 (fun _ => true) x u) : P3 (x s3) u := by
  have h4 := h.2.2.2
  simpa using h4
theorem ph_a (hab : a ≠ b) (hac : a ≠ c) (had : a ≠ d) (h : Ph a b c d s1 s2 s3 P0 P1 P2 P3 f x u) (hf : f a = false) : P0 u ∧ ∀ y u', P0 u' → Ph a b c d s1 s2 s3 P0 P1 P2 P3 (mark f a) y u' := by
  have hb : f b = false := Bool.eq_false_iff.2 fun e => by rw [h.1 e] at hf; cases hf
  have hc : f c = false := Bool.eq_false_iff.2 fun e => by rw [h.2.1 e] at hb; cases hb
  have hd : f d = false := Bool.eq_false_iff.2 fun e => by rw [h.2.2.1 e] at hc; cases hc
  have h4 := h.2.2.2
  rw [if_neg (by simp [hd]), if_neg (by simp [hc]), if_neg (by simp [hb])] at h4
  refine ⟨h4, fun y u' hp => ?_⟩
  have eb : mark f a b = false := by unfold mark; rw [if_neg (Ne.symm hab)]; exact hb
  have ec : mark f a c = false := by unfold mark; rw [if_neg (Ne.symm hac)]; exact hc
  have ed : mark f a d = false := by unfold mark; rw [if_neg (Ne.symm had)]; exact hd
  refine ⟨fun e => (by rw [eb] at e; cases e), fun e => (by rw [ec] at e; cases e), fun e => (by rw [ed] at e; cases e), ?_⟩
  rw [if_neg (by simp [ed]), if_neg (by simp [ec]), if_neg (by simp [eb])]
  exact hp
theorem ph_b (hab : a ≠ b) (hbc : b ≠ c) (hbd : b ≠ d) (h : Ph a b c d s1 s2 s3 P0 P1 P2 P3 f x u) (hf : f b = false) (hfa : f a = true) : P0 u ∧ ∀ v u', P1 v u' → Ph a b c d s1 s2 s3 P0 P1 P2 P3 (mark f b) (upd x s1 v) u' := by
  have hc : f c = false := Bool.eq_false_iff.2 fun e => by rw [h.2.1 e] at hf; cases hf
  have hd : f d = false := Bool.eq_false_iff.2 fun e => by rw [h.2.2.1 e] at hc; cases hc
  have h4 := h.2.2.2
  rw [if_neg (by simp [hd]), if_neg (by simp [hc]), if_neg (by simp [hf])] at h4
  refine ⟨h4, fun v u' hp => ?_⟩
  have ea : mark f b a = true := by unfold mark; rw [if_neg hab]; exact hfa
  have eb : mark f b b = true := by unfold mark; rw [if_pos rfl]
  have ec : mark f b c = false := by unfold mark; rw [if_neg (Ne.symm hbc)]; exact hc
  have ed : mark f b d = false := by unfold mark; rw [if_neg (Ne.symm hbd)]; exact hd
  refine ⟨fun _ => ea, fun _ => eb, fun e => (by rw [ed] at e; cases e), ?_⟩
  rw [if_neg (by simp [ed]), if_neg (by simp [ec]), if_pos eb]
  simpa [upd] using hp
theorem ph_c (hac : a ≠ c) (hbc : b ≠ c) (hcd : c ≠ d) (h : Ph a b c d s1 s2 s3 P0 P1 P2 P3 f x u) (hf : f c = false) (hfb : f b = true) : P1 (x s1) u ∧ ∀ v u', P2 v u' → Ph a b c d s1 s2 s3 P0 P1 P2 P3 (mark f c) (upd x s2 v) u' := by
  have hd : f d = false := Bool.eq_false_iff.2 fun e => by rw [h.2.2.1 e] at hf; cases hf
  have h4 := h.2.2.2
  rw [if_neg (by simp [hd]), if_neg (by simp [hf]), if_pos hfb] at h4
  refine ⟨h4, fun v u' hp => ?_⟩
  have ea : mark f c a = f a := by unfold mark; rw [if_neg hac]
  have eb : mark f c b = true := by unfold mark; rw [if_neg hbc]; exact hfb
  have ec : mark f c c = true := by unfold mark; rw [if_pos rfl]
  have ed : mark f c d = false := by unfold mark; rw [if_neg (Ne.symm hcd)]; exact hd
  refine ⟨fun _ => by rw [ea]; exact h.1 hfb, fun _ => eb, fun _ => ec, ?_⟩
  rw [if_neg (by simp [ed]), if_pos ec]
  simpa [upd] using hp
theorem ph_d (had : a ≠ d) (hbd : b ≠ d) (hcd : c ≠ d) (h : Ph a b c d s1 s2 s3 P0 P1 P2 P3 f x u) (hf : f d = false) (hfc : f c = true) : P2 (x s2) u ∧ ∀ v u', P3 v u' → Ph a b c d s1 s2 s3 P0 P1 P2 P3 (mark f d) (upd x s3 v) u' := by
  have h4 := h.2.2.2
  rw [if_neg (by simp [hf]), if_pos hfc] at h4
  refine ⟨h4, fun v u' hp => ?_⟩
  have ea : mark f d a = f a := by unfold mark; rw [if_neg had]
  have eb : mark f d b = f b := by unfold mark; rw [if_neg hbd]
  have ec : mark f d c = true := by unfold mark; rw [if_neg hcd]; exact hfc
  have ed : mark f d d = true := by unfold mark; rw [if_pos rfl]
  refine ⟨fun _ => by rw [ea]; exact h.1 (h.2.1 hfc), fun _ => by rw [eb]; exact h.2.1 hfc, fun _ => ec, ?_⟩
  rw [if_pos ed]
  simpa [upd] using hp
end
/-- .. and a variable in slot s0, which is V0 until operation e hands it what d left; z, which d waits for, reads it. -/
def Ph5 (z a b c d e s0 s1 s2 s3 : Nat) (V0 : Value) (P0 : World → Prop) (P1 P2 P3 : Value → World → Prop) (f : Nat → Bool) (x : Nat → Value) (u : World) : Prop :=
  Ph a b c d s1 s2 s3 P0 P1 P2 P3 f x u ∧ (f d = true → f z = true) ∧ (f e = true → f d = true) ∧ (f e = false → x s0 = V0) ∧ (f e = true → x s0 = x s3)
section
variable {z a b c d e s0 s1 s2 s3 : Nat} {V0 : Value} {P0 : World → Prop} {P1 P2 P3 : Value → World → Prop} {f g : Nat → Bool} {x y : Nat → Value} {u : World}
theorem ph5_cong (f g : Nat → Bool) (x y : Nat → Value) (w : World) (h : ∀ k, k ∈ [z, a, b, c, d, e] → f k = g k) (k : ∀ q, q ∈ [s0, s1, s2, s3] → x q = y q) (hp : Ph5 z a b c d e s0 s1 s2 s3 V0 P0 P1 P2 P3 f x w) : Ph5 z a b c d e s0 s1 s2 s3 V0 P0 P1 P2 P3 g y w := by
  obtain ⟨h1, h2, h3, h4, h5⟩ := hp
  refine ⟨ph_cong f g x y w (fun k hk => h k (by simp at hk ⊢; omega)) (fun q hq => k q (by simp at hq ⊢; omega)) h1, ?_⟩
  rw [← h z (by simp), ← h d (by simp), ← h e (by simp), ← k s0 (by simp), ← k s3 (by simp)]
  exact ⟨h2, h3, h4, h5⟩
theorem ph5_0 {x : Nat → Value} (h : P0 u) (hx : x s0 = V0) : Ph5 z a b c d e s0 s1 s2 s3 V0 P0 P1 P2 P3 (fun _ => false) x u := ⟨ph_0 h x, fun h => h, fun h => h, fun _ => hx, fun h => by cases h⟩
theorem ph5_any {T : World → Prop} (h0 : ∀ u, P0 u → T u) (h1 : ∀ v u, P1 v u → T u) (h2 : ∀ v u, P2 v u → T u) (h3 : ∀ v u, P3 v u → T u) (h : Ph5 z a b c d e s0 s1 s2 s3 V0 P0 P1 P2 P3 f x u) : T u := ph_any h0 h1 h2 h3 h.1
theorem ph5_end (h : Ph5 z a b c d e s0 s1 s2 s3 V0 P0 P1 P2 P3 (fun _ => true) x u) : P3 (x s0) u := by
  have := ph_end h.1
  rwa [← h.2.2.2.2 rfl] at this
/-- z has not been yet: the variable is as it was. -/
theorem ph5_z (hza : z ≠ a) (hzb : z ≠ b) (hzc : z ≠ c) (hzd : z ≠ d) (hze : z ≠ e) (h : Ph5 z a b c d e s0 s1 s2 s3 V0 P0 P1 P2 P3 f x u) (hf : f z = false) : x s0 = V0 ∧ ∀ t v, t ≠ s0 → t ≠ s1 → t ≠ s2 → t ≠ s3 → Ph5 z a b c d e s0 s1 s2 s3 V0 P0 P1 P2 P3 (mark f z) (upd x t v) u := by
  obtain ⟨h1, h2, h3, h4, h5⟩ := h
  have hd : f d = false := Bool.eq_false_iff.2 fun q => by rw [h2 q] at hf; cases hf
  have he : f e = false := Bool.eq_false_iff.2 fun q => by rw [h3 q] at hd; cases hd
  refine ⟨h4 he, fun t v t0 t1 t2 t3 => ?_⟩
  have ea : ∀ k, k ≠ z → mark f z k = f k := fun k hk => by unfold mark; rw [if_neg hk]
  have eu : ∀ k, t ≠ k → upd x t v k = x k := fun k hk => by unfold upd; rw [if_neg (Ne.symm hk)]
  refine ⟨ph_cong f _ x _ u (fun k hk => (ea k (by simp at hk; rcases hk with rfl | rfl | rfl | rfl <;> exact Ne.symm (by assumption))).symm) (fun q hq => (eu q (by simp at hq; rcases hq with rfl | rfl | rfl <;> assumption)).symm) h1, ?_⟩
  rw [ea d (Ne.symm hzd), ea e (Ne.symm hze), eu s0 t0, eu s3 t3]
  exact ⟨fun q => (by rw [q] at hd; cases hd), h3, h4, h5⟩
theorem ph5_a (hza : z ≠ a) (hab : a ≠ b) (hac : a ≠ c) (had : a ≠ d) (hae : a ≠ e) (h : Ph5 z a b c d e s0 s1 s2 s3 V0 P0 P1 P2 P3 f x u) (hf : f a = false) : P0 u ∧ ∀ t v u', t ≠ s0 → t ≠ s3 → P0 u' → Ph5 z a b c d e s0 s1 s2 s3 V0 P0 P1 P2 P3 (mark f a) (upd x t v) u' := by
  obtain ⟨h1, h2, h3, h4, h5⟩ := h
  obtain ⟨k1, k2⟩ := ph_a hab hac had h1 hf
  have hb : f b = false := Bool.eq_false_iff.2 fun q => by rw [h1.1 q] at hf; cases hf
  have hc : f c = false := Bool.eq_false_iff.2 fun q => by rw [h1.2.1 q] at hb; cases hb
  have hd : f d = false := Bool.eq_false_iff.2 fun q => by rw [h1.2.2.1 q] at hc; cases hc
  have he : f e = false := Bool.eq_false_iff.2 fun q => by rw [h3 q] at hd; cases hd
  have ea : ∀ k, k ≠ a → mark f a k = f k := fun k hk => by unfold mark; rw [if_neg hk]
  refine ⟨k1, fun t v u' t0 t3 hp => ⟨k2 _ u' hp, ?_⟩⟩
  rw [ea d (Ne.symm had), ea e (Ne.symm hae), ea z hza]
  exact ⟨h2, h3, fun _ => (by show (if s0 = t then v else x s0) = V0; rw [if_neg (Ne.symm t0)]; exact h4 he), fun q => (by rw [q] at he; cases he)⟩
theorem ph5_b (hzb : z ≠ b) (hab : a ≠ b) (hbc : b ≠ c) (hbd : b ≠ d) (hbe : b ≠ e) (h01 : s0 ≠ s1) (h : Ph5 z a b c d e s0 s1 s2 s3 V0 P0 P1 P2 P3 f x u) (hf : f b = false) (hfa : f a = true) : P0 u ∧ ∀ v u', P1 v u' → Ph5 z a b c d e s0 s1 s2 s3 V0 P0 P1 P2 P3 (mark f b) (upd x s1 v) u' := by
  obtain ⟨h1, h2, h3, h4, h5⟩ := h
  obtain ⟨k1, k2⟩ := ph_b hab hbc hbd h1 hf hfa
  have hc : f c = false := Bool.eq_false_iff.2 fun q => by rw [h1.2.1 q] at hf; cases hf
  have hd : f d = false := Bool.eq_false_iff.2 fun q => by rw [h1.2.2.1 q] at hc; cases hc
  have he : f e = false := Bool.eq_false_iff.2 fun q => by rw [h3 q] at hd; cases hd
  have ea : ∀ k, k ≠ b → mark f b k = f k := fun k hk => by unfold mark; rw [if_neg hk]
  refine ⟨k1, fun v u' hp => ⟨k2 v u' hp, ?_⟩⟩
  rw [ea d (Ne.symm hbd), ea e (Ne.symm hbe), ea z hzb]
  exact ⟨h2, h3, fun _ => (by show (if s0 = s1 then v else x s0) = V0; rw [if_neg h01]; exact h4 he), fun q => (by rw [q] at he; cases he)⟩
theorem ph5_c (hzc : z ≠ c) (hac : a ≠ c) (hbc : b ≠ c) (hcd : c ≠ d) (hce : c ≠ e) (h02 : s0 ≠ s2) (h : Ph5 z a b c d e s0 s1 s2 s3 V0 P0 P1 P2 P3 f x u) (hf : f c = false) (hfb : f b = true) : P1 (x s1) u ∧ ∀ v u', P2 v u' → Ph5 z a b c d e s0 s1 s2 s3 V0 P0 P1 P2 P3 (mark f c) (upd x s2 v) u' := by
  obtain ⟨h1, h2, h3, h4, h5⟩ := h
  obtain ⟨k1, k2⟩ := ph_c hac hbc hcd h1 hf hfb
  have hd : f d = false := Bool.eq_false_iff.2 fun q => by rw [h1.2.2.1 q] at hf; cases hf
  have he : f e = false := Bool.eq_false_iff.2 fun q => by rw [h3 q] at hd; cases hd
  have ea : ∀ k, k ≠ c → mark f c k = f k := fun k hk => by unfold mark; rw [if_neg hk]
  refine ⟨k1, fun v u' hp => ⟨k2 v u' hp, ?_⟩⟩
  rw [ea d (Ne.symm hcd), ea e (Ne.symm hce), ea z hzc]
  exact ⟨h2, h3, fun _ => (by show (if s0 = s2 then v else x s0) = V0; rw [if_neg h02]; exact h4 he), fun q => (by rw [q] at he; cases he)⟩
theorem ph5_d (hzd : z ≠ d) (had : a ≠ d) (hbd : b ≠ d) (hcd : c ≠ d) (hde : d ≠ e) (h03 : s0 ≠ s3) (h : Ph5 z a b c d e s0 s1 s2 s3 V0 P0 P1 P2 P3 f x u) (hf : f d = false) (hfc : f c = true) (hfz : f z = true) : P2 (x s2) u ∧ ∀ v u', P3 v u' → Ph5 z a b c d e s0 s1 s2 s3 V0 P0 P1 P2 P3 (mark f d) (upd x s3 v) u' := by
  obtain ⟨h1, h2, h3, h4, h5⟩ := h
  obtain ⟨k1, k2⟩ := ph_d had hbd hcd h1 hf hfc
  have he : f e = false := Bool.eq_false_iff.2 fun q => by rw [h3 q] at hf; cases hf
  have ea : ∀ k, k ≠ d → mark f d k = f k := fun k hk => by unfold mark; rw [if_neg hk]
  refine ⟨k1, fun v u' hp => ⟨k2 v u' hp, ?_⟩⟩
  rw [ea e (Ne.symm hde), ea z hzd]
  exact ⟨fun _ => hfz, fun q => (by rw [q] at he; cases he), fun _ => (by show (if s0 = s3 then v else x s0) = V0; rw [if_neg h03]; exact h4 he), fun q => (by rw [q] at he; cases he)⟩
theorem ph5_e (hze : z ≠ e) (hae : a ≠ e) (hbe : b ≠ e) (hce : c ≠ e) (hde : d ≠ e) (h01 : s0 ≠ s1) (h02 : s0 ≠ s2) (h03 : s0 ≠ s3) (h : Ph5 z a b c d e s0 s1 s2 s3 V0 P0 P1 P2 P3 f x u) (hfd : f d = true) : Ph5 z a b c d e s0 s1 s2 s3 V0 P0 P1 P2 P3 (mark f e) (upd x s0 (x s3)) u := by
  obtain ⟨h1, h2, h3, h4, h5⟩ := h
  have ea : ∀ k, k ≠ e → mark f e k = f k := fun k hk => by unfold mark; rw [if_neg hk]
  have eu : ∀ k, s0 ≠ k → upd x s0 (x s3) k = x k := fun k hk => by unfold upd; rw [if_neg (Ne.symm hk)]
  have ee : mark f e e = true := by unfold mark; rw [if_pos rfl]
  refine ⟨ph_cong f _ x _ u (fun k hk => (ea k (by simp at hk; rcases hk with rfl | rfl | rfl | rfl <;> assumption)).symm) (fun q hq => (eu q (by simp at hq; rcases hq with rfl | rfl | rfl <;> assumption)).symm) h1, ?_⟩
  rw [ea d hde, ea z hze, eu s3 h03]
  exact ⟨h2, fun _ => hfd, fun q => (by rw [ee] at q; cases q), fun _ => (by unfold upd; rw [if_pos rfl])⟩
end
section
variable {P : Program} {ops : Array Oper} {Q : Exit → Act → World → Prop} {w0 : World}
/-- .. whose slots are known at its beginning: p names the slots that it writes, ps the operations that turn memory, ds their slots. -/
theorem wp_marksY {id : Nat} {a : Act} (fr : (Nat → Value) → Act) (p : Nat → Bool) (hfr : ∀ x, frame a p x = fr x) (ps ds : List Nat) (M : (Nat → Bool) → (Nat → Value) → World → Prop) (hM : ∀ f g x y w, (∀ k, k ∈ ps → f k = g k) → (∀ d, d ∈ ds → x d = y d) → M f x w → M g y w) (hM0 : M (fun _ => false) (fun t => a.tmps.toList.getD t undef) w0.drew) (hm : P.follows .mixedOrders = true) (hf : fine2 ops = true) (hp : (ops.toList.all fun o => match o.dst with | some d => p d | none => true) = true)
    (hps : (ps.all fun j => decide (j < ops.size)) = true)
    (hds : ((List.range ops.size).all fun i => ps.contains i || match (ops[i]?).bind (·.dst) with | some d => !ds.contains d | none => true) = true)
    (G : Nat → Value → Prop)
    (hs : Each (fun i o => ∀ x f w, M f x w → (i ∈ ps → f i = false) → (∀ j ∈ deps o, f j = true) → (∀ j ∈ deps o, Left4 ops G x j) →
      wpOp P ops Q i (fun a' w' => ∃ v, a' = (fr x).put o.dst v ∧ (i ∈ ps → M (mark f i) (updO x o.dst v) w') ∧ (i ∉ ps → w' = w) ∧ ∀ d, o.dst = some d → G d v) (fr x) w) 0 ops.toList)
    (hend : ∀ x w, M (fun _ => true) x w → (∀ j, j < ops.size → Left4 ops G x j) → Q .normal (fr x) w) : (Code.region id ops true).wp P Q a w0 := by
  obtain rfl : frame a p = fr := funext hfr
  have hempty : ∀ j, (Array.replicate ops.size false).getD j false = false := fun j => by
    by_cases h : j < ops.size
    · simp [Array.getD, h]
    · simp [Array.getD, h]
  have := wp_region_any (id := id) (P := P) (Q := Q) (ops := ops) hm (any_invX (Q := Q) (P := P) ps ds hf (frame a p) (fun o ho d hd x v => frame_put a p x d v (by
    rw [List.all_eq_true] at hp
    have := hp o ho
    rw [hd] at this
    exact this)) G M hM (fun j hj => by
      rw [List.all_eq_true] at hps
      simpa using hps j hj) (fun i o ho hip d hd hdd => by
      rw [List.all_eq_true] at hds
      have := hds i (by rw [List.mem_range]; exact (Array.getElem?_eq_some_iff.1 ho).1)
      rw [ho, Option.bind_some, hd] at this
      simp [hip, hdd] at this) (fun i o ho => by
      have := Each.spec ops.toList 0 hs i o (by simpa using ho)
      rw [Nat.zero_add] at this
      exact this) hend _ _ (fun t => a.tmps.toList.getD t undef) w0.drew (by simp) (by simp [nots]) (hM _ _ _ _ _ (fun k _ => (hempty k).symm) (fun _ _ => rfl) hM0) (fun j hj => by rw [hempty j] at hj; cases hj))
  rw [frame_self] at this
  exact this
end
end Reg
end Go.Proofs.Ytcangipaoancnaa

