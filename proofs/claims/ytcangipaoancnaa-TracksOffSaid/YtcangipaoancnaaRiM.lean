/-
  A ring of lanes in memory: what stays, words that were sent, the ring's own cells. Conditions: those that are named.
-/
import Derived.Test.YtcangipaoancnaaTk14
import Derived.Test.YtcangipaoancnaaRegI
import Derived.Test.YtcangipaoancnaaWdT2
namespace Go.Proofs.Ytcangipaoancnaa
open Go.RowKit
set_option linter.unusedVariables false
set_option linter.unusedSimpArgs false

/-- Rows and tables that stand stay, and all below B. -/
structure KR (B : Nat) (u v : World) : Prop where
  b : Below B u v
  t : ∀ g ty cs, (ty = 54 ∨ ty = 102) → Blk u g ty cs → Blk v g ty cs
/-- Rows that can be read, whatever comes. -/
def SR (B : Nat) (u : World) (A : Option Addr) (m : Nat) (R : Nat → Rw) : Prop := ∀ v, KR B u v → LiesR v v.heap.size A m R
/-- A row's table lies in a block of tables. -/
def TabS (u : World) (r : Rw) : Prop := r.n = 0 ∨ ∃ g, r.A = some ⟨g, 0, none⟩ ∧ Blk u g 102 (hesL r.T r.n).toArray
section
variable {B m n : Nat} {u v w : World} {A : Option Addr} {R : Nat → Rw}
theorem KR.refl (u : World) : KR B u u := ⟨Below.refl _ _, fun _ _ _ _ h => h⟩
theorem KR.trans (h : KR B u v) (k : KR B v w) : KR B u w := ⟨h.b.trans k.b, fun g ty cs e hB => k.t g ty cs e (h.t g ty cs e hB)⟩
theorem KR.below (hB : B ≤ u.heap.size) (h : Below u.heap.size u v) : KR B u v := ⟨h.mono hB, fun _ _ _ _ k => k.on h⟩
theorem KR.kept {ts : List TypeId} (h : Below B u v) (k : KeptBut u v ts) (h1 : 54 ∉ ts) (h2 : 102 ∉ ts) : KR B u v := ⟨h, fun g ty cs e hB => k g ty cs (by rcases e with rfl | rfl <;> assumption) hB⟩
theorem SR.on (h : SR B u A m R) (k : KR B u v) : SR B v A m R := fun x hx => h x (k.trans hx)
theorem SR.now (h : SR B u A m R) : LiesR u u.heap.size A m R := h u (KR.refl u)
theorem SR.nil : SR B u none 0 R := fun v _ => ⟨fun h => absurd h (by omega), fun i hi => absurd hi (by omega)⟩
theorem SR.input (hB : B ≤ u.heap.size) (h : LiesR u B A m R) : SR B u A m R := fun v k => (h.low k.b).up (Nat.le_trans hB k.b.size)
theorem TabS.on {r : Rw} (h : TabS u r) (k : KR B u v) : TabS v r := by
  rcases h with h | ⟨g, h1, h2⟩
  · exact .inl h
  · exact .inr ⟨g, h1, k.t _ _ _ (.inr rfl) h2⟩
theorem TabS.lies {r : Rw} (h : TabS u r) : LiesH u u.heap.size r.A r.n r.T := by
  rcases h with h | ⟨g, h1, h2⟩
  · rw [h]; exact fun h0 => absurd h0 (by omega)
  · rw [h1]; exact h2.liesH_
theorem SR.rows {G : Nat} (h : Blk u G 54 (flL (fun i => (R i).l) m).toArray) (ht : ∀ i, i < m → TabS u (R i)) : SR B u (some ⟨G, 0, none⟩) m R := fun v k =>
  ⟨Blk.liesF (by decide) (fun i => Rw.l_len _) (k.t _ _ _ (.inl rfl) h), fun i hi => ((ht i hi).on k).lies⟩
theorem RowO.tab {lo : Nat} {r : Ro} {L : List Value} (h : RowO u lo r L) : ∃ X : Rw, L = X.l ∧ X.ro = r ∧ TabS u X := by
  obtain ⟨A, p, e, h⟩ := h
  refine ⟨⟨r.b, r.c, A, r.n, p, r.T⟩, e, rfl, ?_⟩
  rcases h with ⟨_, h2, _⟩ | ⟨g, h1, _, _, h4⟩
  · exact .inl h2
  · exact .inr ⟨g, h1, h4⟩
theorem RowsO.sr {lo G N : Nat} {P : Nat → Ro} {Ls : Nat → List Value} (h : RowsO u lo N P Ls) (hB : Blk u G 54 (flL Ls N).toArray) : ∃ R : Nat → Rw, Blk u G 54 (flL (fun i => (R i).l) N).toArray ∧ (∀ s, s < N → TabS u (R s)) ∧ ∀ s, s < N → (R s).ro = P s := by
  have hx : ∀ i, ∃ X : Rw, i < N → (Ls i = X.l ∧ X.ro = P i ∧ TabS u X) := fun i => by
    by_cases hi : i < N
    · obtain ⟨X, hX⟩ := (h i hi).tab
      exact ⟨X, fun _ => hX⟩
    · exact ⟨rwN, fun h => absurd h hi⟩
  refine ⟨fun i => (hx i).choose, ?_, fun i hi => ((hx i).choose_spec hi).2.2, fun i hi => ((hx i).choose_spec hi).2.1⟩
  rw [← flL_congr (f := Ls) (h := fun i => ((hx i).choose).l) (fun i hi => ((hx i).choose_spec hi).1)]
  exact hB
end
/-- A word. -/
structure Wo where
  A : Option Addr
  m : Nat
  c : Nat
  R : Nat → Rw
def Wo.v (x : Wo) : Value := .slice x.A x.m x.c
def woN : Wo := ⟨none, 0, 0, fun _ => rwN⟩
def SW (B : Nat) (u : World) (x : Wo) : Prop := SR B u x.A x.m x.R
theorem SW.on {B : Nat} {u v : World} {x : Wo} (h : SW B u x) (k : KR B u v) : SW B v x := SR.on h k
theorem SW.nil (B : Nat) (u : World) : SW B u woN := SR.nil
def wo4 (f : Nat → Wo) : List Value := [(f 0).v, (f 1).v, (f 2).v, (f 3).v]
theorem wo4_len (f : Nat → Wo) : (wo4 f).length = 4 := rfl
theorem wo4_at (f : Nat → Wo) {k : Nat} (hk : k < 4) : (wo4 f)[k]? = some (f k).v := by
  rcases (show k = 0 ∨ k = 1 ∨ k = 2 ∨ k = 3 by omega) with rfl | rfl | rfl | rfl <;> rfl
/-- What was sent, tick by tick, of each node, on each link. -/
structure SentS (B : Nat) (u : World) (VS : Value) (N Tn : Nat) (S : Nat → Nat → Nat → Wo) : Prop where
  l : ∃ (A : Option Addr) (c : Nat) (g p : Nat → Nat), VS = .slice A Tn c ∧ u.ownsRow B 160 1 (.slice A Tn c) Tn (flL (fun t => [.slice (some ⟨g t, 0, none⟩) N (p t)]) Tn) ∧ ∀ t, t < Tn → ∃ Zt, Blk u (g t) 161 (flL (fun i => wo4 (S t i)) N ++ Zt).toArray
  s : ∀ t i k, t < Tn → i < N → k < 4 → SW B u (S t i k)
section
variable {B N Tn : Nat} {u v : World} {VS : Value} {S : Nat → Nat → Nat → Wo}
theorem SentS.kept {ts : List TypeId} (h : SentS B u VS N Tn S) (k : KeptBut u v ts) (h1 : 160 ∉ ts) (h2 : 161 ∉ ts) (kr : KR B u v) : SentS B v VS N Tn S := by
  obtain ⟨A, c, g, p, e, q1, q2⟩ := h.l
  exact ⟨⟨A, c, g, p, e, ownsF_kept q1 k h1, fun t ht => by obtain ⟨Zt, q⟩ := q2 t ht; exact ⟨Zt, k _ _ _ h2 q⟩⟩, fun t i k a b c => (h.s t i k a b c).on kr⟩
theorem SentS.on (h : SentS B u VS N Tn S) (hB : B ≤ u.heap.size) (k : Below u.heap.size u v) : SentS B v VS N Tn S := by
  obtain ⟨A, c, g, p, e, q1, q2⟩ := h.l
  exact ⟨⟨A, c, g, p, e, ownsF_on q1 k, fun t ht => by obtain ⟨Zt, q⟩ := q2 t ht; exact ⟨Zt, q.on k⟩⟩, fun t i j a b c => (h.s t i j a b c).on (KR.below hB k)⟩
end
/-- Acts of what is faulty; the fault. -/
structure Ak where
  k : Nat
  s : Nat
  r : Rw
def Ak.l (a : Ak) : List Value := .int .u8 (a.k : Int) :: .int .u8 (a.s : Int) :: a.r.l
theorem Ak.l_len (a : Ak) : a.l.length = 59 := by simp [Ak.l, Rw.l_len]
structure Fa where
  l : Bool
  a : Nat
  w : Nat
  A : Option Addr
  n : Nat
  c : Nat
  K : Nat → Ak
/-- The ring's cells. -/
def rgL (N : Nat) (F : Fa) (VL VO VS : Value) : List Value := [.int .i64 (N : Int), .bool F.l, .int .u8 (F.a : Int), .int .u8 (F.w : Int), .slice F.A F.n F.c, VL, VO, VS]
set_option maxRecDepth 100000 in
theorem size_word : (Try.prog.info? 34).map (·.size) = some 1 := by kernel_rfl
set_option maxRecDepth 100000 in
theorem built_word0 : (Try.prog).built 34 [] = some #[.slice none 0 0] := by kernel_rfl
set_option maxRecDepth 100000 in
theorem elemSent : Try.prog.underlying 156 = some (.slice 160) := by kernel_rfl
set_option maxRecDepth 100000 in
theorem idxSent {A : Option Addr} {n : Nat} (c : Nat) {k b off : Nat} (hA : A = some ⟨b, off, none⟩) (hk : k < n) (w : World) :
    (Instr.indexAt 156 (.slice A n c) (.int .i64 (k : Int))).run Try.prog w = .ok (.pointer (some ⟨b, off + k, none⟩)) w := by
  subst hA
  rw [run_indexAt_slice (h := elemSent), if_pos (by omega), show Try.prog.elem 156 = 160 by kernel_rfl, show (sizeOf 160).run Try.prog w = .ok 1 w by kernel_rfl]
  simp [Result.andThen, Addr.add_lit]
set_option maxRecDepth 100000 in
theorem elemOut : Try.prog.underlying 160 = some (.slice 161) := by kernel_rfl
set_option maxRecDepth 100000 in
theorem idxOut {A : Option Addr} {n : Nat} (c : Nat) {k b off : Nat} (hA : A = some ⟨b, off, none⟩) (hk : k < n) (w : World) :
    (Instr.indexAt 160 (.slice A n c) (.int .i64 (k : Int))).run Try.prog w = .ok (.pointer (some ⟨b, off + k * 4, none⟩)) w := by
  subst hA
  rw [run_indexAt_slice (h := elemOut), if_pos (by omega), show Try.prog.elem 160 = 161 by kernel_rfl, show (sizeOf 161).run Try.prog w = .ok 4 w by kernel_rfl]
  simp [Result.andThen, Addr.add_lit]
set_option maxRecDepth 100000 in
theorem elemW4 : Try.prog.underlying 161 = some (.array (Try.prog.arrayLen 161) (Try.prog.elem 161)) := by kernel_rfl
set_option maxRecDepth 100000 in
theorem idxW4 (b e : Nat) (k : Nat) (hk : k < 4) (w : World) :
    (Instr.indexAt 161 (.pointer (some ⟨b, e, none⟩)) (.int .i64 (k : Int))).run Try.prog w = .ok (.pointer (some ⟨b, e + k, none⟩)) w := by
  rw [run_indexAt_array (h := elemW4), show Try.prog.arrayLen 161 = 4 by kernel_rfl, if_pos (by omega), show (sizeOf (Try.prog.elem 161)).run Try.prog w = .ok 1 w by kernel_rfl]
  simp [Result.andThen, Addr.add_lit]
end Go.Proofs.Ytcangipaoancnaa

