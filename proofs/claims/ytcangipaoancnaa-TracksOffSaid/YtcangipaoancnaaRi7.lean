/-
  The walk of the law TracksRound: it returns true, and nothing that was there has turned. Conditions: the rows' reading.
-/
import Derived.Test.YtcangipaoancnaaRiX
import Derived.Test.YtcangipaoancnaaRi6
import Derived.Test.YtcangipaoancnaaTk16
import Derived.Deep.CutBlock
namespace Go.Proofs.Ytcangipaoancnaa
open Go.RowKit
set_option linter.unusedVariables false
set_option linter.unusedSimpArgs false

def faN : Fa := ⟨false, 0, 0, none, 0, 0, fun _ => ⟨0, 0, rwN⟩⟩
def onT : Nat → Bool := fun _ => true
theorem faN_in (B : Nat) (u : World) : FaIn B u faN := ⟨by decide, by decide, by decide, fun i hi => absurd hi (Nat.not_lt_zero i), fun h => absurd h (Nat.not_lt_zero 0), fun i hi => absurd hi (Nat.not_lt_zero i)⟩
theorem clB_faN (N i k : Nat) : clB N i k faN = true := by unfold clB; simp [faN]
set_option maxRecDepth 100000 in
theorem built_fault0 : (Try.prog).built 83 [] = some (faL faN).toArray := by kernel_rfl
set_option maxRecDepth 100000 in
theorem built_rowZ : (Try.prog).built 54 [] = some rwN.l.toArray := by kernel_rfl
set_option maxRecDepth 100000 in
theorem nilRing (a : Addr) (W : World) : (binOp .eql 85 (.pointer (some a)) (.pointer none)).run Try.prog W = .ok (.bool false) W := by kernel_rfl
set_option maxRecDepth 100000 in
theorem idxRowsL {A : Option Addr} {n : Nat} (c : Nat) {k b off : Nat} (hA : A = some ⟨b, off, none⟩) (hk : k < n) (w : World) :
    (Instr.indexAt 78 (.slice A n c) (.int .i64 (k : Int))).run Try.prog w = .ok (.pointer (some ⟨b, off + k, none⟩)) w := by
  subst hA
  rw [run_indexAt_slice (h := elemRowsL), if_pos (by omega), show Try.prog.elem 78 = 32 by kernel_rfl, show (sizeOf 32).run Try.prog w = .ok 1 w by kernel_rfl]
  simp [Result.andThen, Addr.add_lit]
/-- What each says, tick by tick. -/
def owM (m N : Nat) (R : Nat → Rw) (t i : Nat) : Rw := if 0 < m then R ((t * N + i) % m) else rwN
/-- What the law knows of memory, K ticks through. -/
structure TJ (w : World) (B gr gl cl go gA N : Nat) (ow : Nat → Nat → Rw) (K : Nat) (A : Option Addr) (c : Nat) (H : Nat → Wo) (VS : Value) (L : Nat → Ln) (o : Nat → Bool) (S : Nat → Nat → Nat → Wo) (u : World) : Prop where
  r : RiS B u gr gl cl go N faN VS L o K S
  ok : SentOK N K ow S
  a : Blk u gA 4 (flL (trL onT) N).toArray
  na : gA ≠ go
  wl : u.ownsRow B 32 1 (.slice A K c) K (flL (woL1 H) K)
  wt : ∀ t, t < K → OwR u (H t).A N (H t).R ∧ (H t).m = N ∧ ∀ s, s < N → ((H t).R s).ro = plR N (ow t s).ro
  b : Below w.heap.size w u
section
variable {w u v : World} {B gr gl cl go gA N K c : Nat} {ow : Nat → Nat → Rw} {A : Option Addr} {H : Nat → Wo} {VS : Value} {L : Nat → Ln} {o : Nat → Bool} {S : Nat → Nat → Nat → Wo}
theorem TJ.up (h : TJ w B gr gl cl go gA N ow K A c H VS L o S u) (b : Below u.heap.size u v) : TJ w B gr gl cl go gA N ow K A c H VS L o S v :=
  ⟨h.r.on b, h.ok, h.a.on b, h.na, ownsF_on h.wl b, fun t ht => ⟨(h.wt t ht).1.kr (KR.below h.r.B.2.2.2 b), (h.wt t ht).2⟩, below_then h.b b⟩
/-- One more tick is put down. -/
theorem TJ.app {A2 : Option Addr} {c2 : Nat} {X : Wo} (h : TJ w B gr gl cl go gA N ow K A c H VS L o S u) (hB : w.heap.size ≤ B) (bB : Below B u v) (kt : KeptBut u v [32]) (ho : v.ownsRow B 32 1 (.slice A2 (K + 1) c2) (K + 1) (flL (woL1 H) K ++ [X.v])) (hx : OwR u X.A N X.R ∧ X.m = N ∧ ∀ s, s < N → (X.R s).ro = plR N (ow K s).ro) :
    RiS B v gr gl cl go N faN VS L o K S ∧ Blk v gA 4 (flL (trL onT) N).toArray ∧ v.ownsRow B 32 1 (.slice A2 (K + 1) c2) (K + 1) (flL (woL1 (updW H K X)) (K + 1)) ∧ (∀ t, t < K + 1 → OwR v (updW H K X t).A N (updW H K X t).R ∧ (updW H K X t).m = N ∧ ∀ s, s < N → ((updW H K X t).R s).ro = plR N (ow t s).ro) ∧ Below w.heap.size w v := by
  have kr : KR B u v := KR.kept bB kt (by decide) (by decide)
  have e : ∀ j, j ≠ K → updW H K X j = H j := fun j hj => if_neg hj
  have e2 : updW H K X K = X := if_pos rfl
  refine ⟨h.r.kept kt kr (fun t m => by simp at m; subst m; decide), kt _ _ _ (by decide) h.a, ?_, fun t ht => ?_, h.b.trans (bB.mono hB)⟩
  · rw [flL_succ, show flL (woL1 (updW H K X)) K = flL (woL1 H) K from flL_congr fun j hj => by unfold woL1; rw [e j (by omega)], show woL1 (updW H K X) K = [X.v] by unfold woL1; rw [e2]]
    exact ho
  · by_cases ht2 : t = K
    · subst ht2; rw [e2]; exact ⟨hx.1.kr kr, hx.2⟩
    · rw [e t ht2]; exact ⟨(h.wt t (by omega)).1.kr kr, (h.wt t (by omega)).2⟩
end
end Go.Proofs.Ytcangipaoancnaa

