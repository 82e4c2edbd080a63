/-
  Rows with tables of their own, for the laws of agrees: how they lie, and what turns. No condition.
-/
import Derived.Test.YtdbljggjddnjcaaOpenAg
import Derived.Test.YtdbljggjddnjcaaAg6
import Derived.Test.YtdbljggjddnjcaaAg7
import Derived.Test.YtdbljggjddnjcaaOwF
import Derived.Test.YtdbljggjddnjcaaRegI
namespace Go.Proofs.Ytdbljggjddnjcaa
open Go.RowKit
set_option linter.unusedVariables false
set_option linter.unusedSimpArgs false

/-- The boxes: the numbers, what the faulty one is. -/
structure P1 (w : World) (a b : Int) (x : On) (gz gx : Nat) (U : World) : Prop where
  z : Blk U gz 113 #[.int .u8 a, .int .u8 b]
  x : Blk U gx 116 x.l.toArray
  b : Below w.heap.size w U
  lo : w.heap.size ≤ gz ∧ gz < gx
section
variable {w U V : World} {a b : Int} {x : On} {gz gx gT m N B : Nat} {C : Nat → Ce}
theorem P1.on (h : P1 w a b x gz gx U) (hb : Below U.heap.size U V) : P1 w a b x gz gx V := ⟨h.z.on hb, h.x.on hb, below_then h.b hb, h.lo⟩
theorem P1.but {g : Nat} (h : P1 w a b x gz gx U) (hb : But g U V) (hg : gx < g) : P1 w a b x gz gx V := by
  have := h.lo
  exact ⟨hb.blk h.z (by omega), hb.blk h.x (by omega), h.b.trans (hb.low (by omega)), h.lo⟩
theorem low_blk {g : Nat} {t : TypeId} {cs : Array Value} (h : Blk U g t cs) (hb : Below B U V) (hg : g < B) : Blk V g t cs := by
  unfold Blk at h ⊢
  rw [hb.block g hg]; exact h
theorem P1.low (h : P1 w a b x gz gx U) (hb : Below B U V) (hg : gx < B) : P1 w a b x gz gx V := by
  have := h.lo
  exact ⟨low_blk h.z hb (by omega), low_blk h.x hb (by omega), h.b.trans (hb.mono (by omega)), h.lo⟩
/-- What is true of each; what the others hold of the faulty one; the rows. -/
def truA (m : Nat) (C : Nat → Ce) (s : Nat) : He := if 0 < m then ⟨true, C (s % m)⟩ else heN
def hoA (x : On) (k : Nat) : He := if 0 < x.n then x.H (k % x.n) else heN
def tabA (m : Nat) (C : Nat → Ce) (x : On) (bad k s : Nat) : He := if s = bad then hoA x k else truA m C s
def faA (x : On) (i : Nat) : Rw := if 0 < x.m then x.R (i % x.m) else rwN
/-- .. and what is true. -/
structure P2 (w : World) (a b : Int) (x : On) (gz gx gT m : Nat) (C : Nat → Ce) (N : Nat) (U : World) : Prop where
  p : P1 w a b x gz gx U
  t : Blk U gT 118 (hesL (truA m C) N).toArray
  lo : gx < gT
theorem P2.on (h : P2 w a b x gz gx gT m C N U) (hb : Below U.heap.size U V) : P2 w a b x gz gx gT m C N V := ⟨h.p.on hb, h.t.on hb, h.lo⟩
theorem P2.low (h : P2 w a b x gz gx gT m C N U) (hb : Below B U V) (hg : gT < B) : P2 w a b x gz gx gT m C N V := ⟨h.p.low hb (by have := h.lo; omega), low_blk h.t hb hg, h.lo⟩
set_option maxRecDepth 100000 in
theorem elemCells : Try.prog.underlying 114 = some (.slice 51) := by kernel_rfl
set_option maxRecDepth 100000 in
theorem idxCells {A : Option Addr} {n : Nat} (c : Nat) {k b off : Nat} (hA : A = some ⟨b, off, none⟩) (hk : k < n) (w : World) :
    (Instr.indexAt 114 (.slice A n c) (.int .i64 (k : Int))).run Try.prog w = .ok (.pointer (some ⟨b, off + k * 55, none⟩)) w := by
  subst hA
  rw [run_indexAt_slice (h := elemCells), if_pos (by omega), show Try.prog.elem 114 = 51 by kernel_rfl, show (sizeOf 51).run Try.prog w = .ok 55 w by kernel_rfl]
  simp [Result.andThen, Addr.add_lit]
/-- A table of one's own, with room behind it. -/
def TbZ (U : World) (g n : Nat) (T : Nat → He) : Prop := ∃ Z : List Value, Blk U g 118 (hesL T n ++ Z).toArray
theorem TbZ.on {g n : Nat} {T : Nat → He} (h : TbZ U g n T) (hb : Below U.heap.size U V) : TbZ V g n T := by
  obtain ⟨Z, h⟩ := h
  exact ⟨Z, h.on hb⟩
theorem TbZ.kept {g n : Nat} {T : Nat → He} {ts : List TypeId} (h : TbZ U g n T) (hk : KeptBut U V ts) (ht : 118 ∉ ts) : TbZ V g n T := by
  obtain ⟨Z, h⟩ := h
  exact ⟨Z, hk _ _ _ ht h⟩
theorem TbZ.lt {g n : Nat} {T : Nat → He} (h : TbZ U g n T) : g < U.heap.size := by
  obtain ⟨Z, h⟩ := h
  exact h.lt
theorem TbZ.pin {g n k : Nat} {T : Nat → He} (h : TbZ U g n T) (hk : k < n) : ∃ Z, PIn U g (k * 56) 118 (hesL T k) (hesL (fun j => T (k + 1 + j)) (n - (k + 1)) ++ Z) (heL (T k)) := by
  obtain ⟨Z, h⟩ := h
  refine ⟨Z, ?_, hesL_len _ _⟩
  rw [hesL_at T hk] at h
  simpa only [List.append_assoc] using h
theorem TbZ.of_pin {g n k : Nat} {T : Nat → He} {X : He} {Z : List Value} (hk : k < n) (h : PIn U g (k * 56) 118 (hesL T k) (hesL (fun j => T (k + 1 + j)) (n - (k + 1)) ++ Z) (heL X)) : TbZ U g n (fun s => if s = k then X else T s) := by
  refine ⟨Z, ?_⟩
  rw [hesL_at (fun s => if s = k then X else T s) hk, if_pos rfl, hesL_congr (T' := T) (n := k) (fun i hi => by rw [if_neg (by omega)]), hesL_congr (T := fun j => if k + 1 + j = k then X else T (k + 1 + j)) (T' := fun j => T (k + 1 + j)) (fun i hi => by rw [if_neg (by omega)])]
  have := h.blk
  simpa only [List.append_assoc] using this
theorem TbZ.congr {g n : Nat} {T T' : Nat → He} (h : TbZ U g n T) (he : ∀ s, s < n → T s = T' s) : TbZ U g n T' := by
  obtain ⟨Z, h⟩ := h
  exact ⟨Z, by rw [← hesL_congr he]; exact h⟩
theorem TbZ.lies {g n : Nat} {T : Nat → He} (h : TbZ U g n T) : LiesH U U.heap.size (some ⟨g, 0, none⟩) n T := by
  obtain ⟨Z, h⟩ := h
  refine h.liesH fun j hj => ?_
  simp [List.getElem?_append_left (show j < (hesL T n).length by rw [hesL_len]; exact hj)]
/-- .. out of a row that has grown. -/
theorem TbZ.of_owns {lo n p : Nat} {A : Option Addr} {T : Nat → He} (h : U.ownsRow lo 118 56 (.slice A n p) n (hesL T n)) (h0 : 0 < n) : ∃ g, A = some ⟨g, 0, none⟩ ∧ lo ≤ g ∧ TbZ U g n T := by
  rcases h.2 with ⟨_, h0'⟩ | ⟨g, cap, cur, hv, hb, hh, hnc, _, hcs, htk⟩
  · omega
  · injection hv with hA
    refine ⟨g, hA, hb, cur.toList.drop (n * 56), ?_⟩
    rw [← htk, List.take_append_drop]
    exact hh
/-- A row with its table. -/
def RowA (U : World) (lo N m : Nat) (C : Nat → Ce) (x : On) (bad i : Nat) (r : Rw) : Prop := ∃ g p, r = ⟨true, (truA m C i).c, some ⟨g, 0, none⟩, N, p, tabA m C x bad i⟩ ∧ lo ≤ g ∧ TbZ U g N (tabA m C x bad i)
/-- The rows so far. -/
structure P3 (w : World) (a b : Int) (x : On) (gz gx gT m : Nat) (C : Nat → Ce) (N bad k : Nat) (A : Option Addr) (c : Nat) (Rs : Nat → Rw) (U : World) : Prop where
  p : P2 w a b x gz gx gT m C N U
  o : U.ownsRow (gT + 1) 54 57 (.slice A k c) k (flL (fun i => (Rs i).l) k)
  r : ∀ i, i < k → RowA U (gT + 1) N m C x bad i (Rs i)
theorem P3.on {bad k c : Nat} {A : Option Addr} {Rs : Nat → Rw} (h : P3 w a b x gz gx gT m C N bad k A c Rs U) (hb : Below U.heap.size U V) : P3 w a b x gz gx gT m C N bad k A c Rs V := ⟨h.p.on hb, ownsF_on h.o hb, fun i hi => by
  obtain ⟨g, p, e, hg, ht⟩ := h.r i hi
  exact ⟨g, p, e, hg, ht.on hb⟩⟩
theorem P3.step {bad k c c' : Nat} {A A' : Option Addr} {Rs : Nat → Rw} {r : Rw} (h : P3 w a b x gz gx gT m C N bad k A c Rs U) (hr : RowA U (gT + 1) N m C x bad k r)
    (ho : V.ownsRow (gT + 1) 54 57 (.slice A' (k + 1) c') (k + 1) (flL (fun i => (Rs i).l) k ++ r.l)) (hb : Below (gT + 1) U V) (hk : KeptBut U V [54]) :
    P3 w a b x gz gx gT m C N bad (k + 1) A' c' (fun i => if i = k then r else Rs i) V := by
  refine ⟨h.p.low hb (by omega), ?_, fun i hi => ?_⟩
  · rw [flL_succ, if_pos rfl, flL_congr (h := fun i => (Rs i).l) (fun i hi => by rw [if_neg (by omega)])]
    exact ho
  · by_cases e : i = k
    · subst e
      rw [if_pos rfl]
      obtain ⟨g, p, e, hg, ht⟩ := hr
      exact ⟨g, p, e, hg, ht.kept hk (by decide)⟩
    · rw [if_neg e]
      obtain ⟨g, p, e, hg, ht⟩ := h.r i (by omega)
      exact ⟨g, p, e, hg, ht.kept hk (by decide)⟩
end
def Reg.FactK.tz {B : Nat} {Js : List (World → Prop)} (lo n : Nat) (T : Nat → He) : Reg.FactK (Reg.KJ B [] Js) := ⟨fun v w => ∃ g p, v = .slice (some ⟨g, 0, none⟩) n p ∧ lo ≤ g ∧ TbZ w g n T, fun _ _ _ hb h => by
  obtain ⟨g, p, e, hg, ht⟩ := h
  exact ⟨g, p, e, hg, ht.on hb.belowA⟩⟩
def Reg.FactK.rz {B : Nat} {Js : List (World → Prop)} (lo n : Nat) (c : Ce) (T : Nat → He) : Reg.FactK (Reg.KJ B [] Js) := ⟨fun v w => ∃ g p, v = .agg (roL true c (some ⟨g, 0, none⟩) n p).toArray ∧ lo ≤ g ∧ TbZ w g n T, fun _ _ _ hb h => by
  obtain ⟨g, p, e, hg, ht⟩ := h
  exact ⟨g, p, e, hg, ht.on hb.belowA⟩⟩
def Reg.FactK.rb {B : Nat} {Js : List (World → Prop)} (lo : Nat) : Reg.FactK (Reg.KJ B [] Js) := ⟨fun v w => ∃ g, v = .pointer (some ⟨g, 0, none⟩) ∧ lo ≤ g ∧ ∃ Z : List Value, Z.length = 57 ∧ Blk w g 54 Z.toArray, fun _ _ _ hb h => by
  obtain ⟨g, e, hg, Z, hz, ht⟩ := h
  exact ⟨g, e, hg, Z, hz, ht.on hb.belowA⟩⟩
end Go.Proofs.Ytdbljggjddnjcaa

