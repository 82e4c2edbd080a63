/-
  Plain words on memory for this seat's proofs: what a slice of integers reads as in a world ('Lies'), a block known whole ('Blk'), and how both are kept over later worlds. No condition; nothing of the program is named here.
-/
import Derived.Test.YtcangipaoancnaaRows
import Derived.WalkKit
import Derived.ProofKit
import Derived.OpenShut
import Derived.ShutString
import Derived.ChangeOld
import Derived.Below
import Derived.Lib.Hide
import Derived.Laws.OwnMore
import Derived.Deep.Draws
import Derived.Laws.Rows
namespace Go.Proofs.Ytcangipaoancnaa
open Go.RowKit

/-- The slice '.slice A n c' holds the numbers xs, of kind k, in blocks below B. -/
def Lies (k : IntKind) (w : World) (B : Nat) (A : Option Addr) (n : Nat) (xs : List Int) : Prop :=
  xs.length = n ∧ (0 < n → ∃ b off, A = some ⟨b, off, none⟩ ∧ b < B ∧ ∀ j, j < n → w.cell? ⟨b, off + j, none⟩ = some (.int k (xs.getD j 0)))

section
variable {k : IntKind} {w w' : World} {B B' n : Nat} {A : Option Addr} {xs : List Int}
theorem Lies.len (h : Lies k w B A n xs) : xs.length = n := h.1
theorem Lies.nil_ : Lies k w B A 0 [] := ⟨rfl, fun h => absurd h (by omega)⟩
theorem Lies.at_ (h : Lies k w B A n xs) (hn : 0 < n) : ∃ b off, A = some ⟨b, off, none⟩ ∧ b < B ∧ ∀ j, j < n → w.cell? ⟨b, off + j, none⟩ = some (.int k (xs.getD j 0)) := h.2 hn
theorem Lies.keep (h : Lies k w B A n xs) (hB : B ≤ B') (hk : ∀ p : Addr, p.block < B → w'.cell? p = w.cell? p) : Lies k w' B' A n xs :=
  ⟨h.1, fun hn => by
    obtain ⟨b, off, e, hb, hc⟩ := h.2 hn
    exact ⟨b, off, e, by omega, fun j hj => (hk _ hb).trans (hc j hj)⟩⟩
theorem Lies.on (h : Lies k w w.heap.size A n xs) (hb : Below w.heap.size w w') : Lies k w' w'.heap.size A n xs :=
  h.keep hb.size fun _ hp => hb.cell hp
theorem Lies.al (h : Lies k w w.heap.size A n xs) (o : Obj) : Lies k (w.alloc o) (w.alloc o).heap.size A n xs :=
  h.on ((Below.refl _ _).alloc (Nat.le_refl _) o)
theorem Lies.drewN (h : Lies k w w.heap.size A n xs) (m : Nat) : Lies k (w.drewN m) (w.drewN m).heap.size A n xs := h
theorem Lies.drew (h : Lies k w w.heap.size A n xs) : Lies k w.drew w.drew.heap.size A n xs := h
end

/-- Block g is just these cells of element type t, none frozen. -/
def Blk (w : World) (g : Nat) (t : TypeId) (cs : Array Value) : Prop := w.heap[g]? = some (.cells cs t (0, 0))

section
variable {w w' : World} {g : Nat} {t : TypeId} {cs : Array Value}
theorem Blk.lt (h : Blk w g t cs) : g < w.heap.size := by
  rcases Nat.lt_or_ge g w.heap.size with hlt | hge
  · exact hlt
  · unfold Blk at h; rw [Array.getElem?_eq_none hge] at h; cases h
theorem Blk.cell (h : Blk w g t cs) (i : Nat) : w.cell? ⟨g, i, none⟩ = cs[i]? := cell_of_row w g i cs t (0, 0) h
theorem Blk.frozen (h : Blk w g t cs) (i : Nat) : w.frozen? ⟨g, i, none⟩ = false := by
  unfold Blk at h
  simp [World.frozen?, h]
theorem Blk.new (w : World) (t : TypeId) (cs : Array Value) : Blk (w.alloc (.cells cs t)) w.heap.size t cs := heap_alloc_new w _
theorem Blk.alloc (h : Blk w g t cs) (o : Obj) : Blk (w.alloc o) g t cs := (Below.heap_alloc w o g h.lt).trans h
theorem Blk.set_ (h : Blk w g t cs) (i : Nat) (u : Value) : Blk (w.setCell ⟨g, i, none⟩ u) g t (cs.setIfInBounds i u) := by
  unfold Blk at h ⊢
  simp [World.setCell, Array.getElem?_modify, h]
theorem Blk.below {B : Nat} (h : Blk w g t cs) (hb : Below B w w') (hg : g < B) : Blk w' g t cs := (hb.block g hg).trans h
theorem Blk.on (h : Blk w g t cs) (hb : Below w.heap.size w w') : Blk w' g t cs := h.below hb h.lt
end

/-- The cells of numbers of one kind. -/
def cellsOf (k : IntKind) (xs : List Int) : Array Value := (xs.map (Value.int k)).toArray
theorem cellsOf_at (k : IntKind) (xs : List Int) (j : Nat) (h : j < xs.length) : (cellsOf k xs)[j]? = some (.int k (xs.getD j 0)) := by
  simp [cellsOf, h]
theorem cellsOf_set (k : IntKind) (xs : List Int) (j : Nat) (x : Int) : (cellsOf k xs).setIfInBounds j (.int k x) = cellsOf k (xs.set j x) := by
  simp [cellsOf, List.map_set]
theorem cellsOf_size (k : IntKind) (xs : List Int) : (cellsOf k xs).size = xs.length := by simp [cellsOf]

section
variable {k : IntKind} {w w' : World} {g n : Nat} {t : TypeId} {xs : List Int}
theorem Blk.lies (h : Blk w g t (cellsOf k xs)) (hn : xs.length = n) : Lies k w w.heap.size (some ⟨g, 0, none⟩) n xs :=
  ⟨hn, fun _ => ⟨g, 0, rfl, h.lt, fun j hj => by rw [h.cell, Nat.zero_add]; exact cellsOf_at k xs j (by omega)⟩⟩
theorem Lies.new (w : World) (t : TypeId) (k : IntKind) (xs : List Int) (n : Nat) (hn : xs.length = n) (cs : Array Value) (hcs : cs = cellsOf k xs) :
    Lies k (w.alloc (.cells cs t)) (w.alloc (.cells cs t)).heap.size (some ⟨w.heap.size, 0, none⟩) n xs := by
  subst hcs
  exact (Blk.new w t _).lies hn
end

/-- A list's cells, as a copy asks for them. -/
theorem Lies.src {k : IntKind} {w : World} {B n : Nat} {A : Option Addr} {xs : List Int} (h : Lies k w B A n xs) :
    0 < (xs.map (Value.int k)).length → ∃ ad, A = some ad ∧ ∀ j v, (xs.map (Value.int k))[j]? = some v → w.cell? (ad.add j) = some v := by
  intro h0
  have hl := h.len
  simp only [List.length_map] at h0
  obtain ⟨b, off, e, _, hc⟩ := h.2 (by omega)
  refine ⟨_, e, fun j v hv => ?_⟩
  have hj : j < xs.length := by
    have := (List.getElem?_eq_some_iff.1 hv).1
    simpa using this
  have := hc j (by omega)
  rw [Addr.add_lit, this, ← hv]
  simp [hj]

theorem ret_int {k : IntKind} {a b : Int} (h : a = b) : Ending.returned (.int k a) = .returned (.int k b) := by rw [h]
theorem ret_bool {a b : Bool} (h : a = b) : Ending.returned (.bool a) = .returned (.bool b) := by rw [h]
theorem below_drewN {B : Nat} {a w : World} (h : Below B a w) (n : Nat) : Below B a (w.drewN n) := ⟨h.os, h.tape, h.output, h.size, h.block⟩
theorem below_same {w : World} (n : Nat) : Below w.heap.size w (w.drewN n) := below_drewN (Below.refl _ _) n
theorem alloc_size (w : World) (o : Obj) : (w.alloc o).heap.size = w.heap.size + 1 := by simp
/-- Two steps, each of which leaves what was there when it began. -/
theorem below_then {a b c : World} (h : Below a.heap.size a b) (k : Below b.heap.size b c) : Below a.heap.size a c := h.trans (k.mono h.size)
theorem below_al {a b : World} (h : Below a.heap.size a b) (o : Obj) : Below a.heap.size a (b.alloc o) := h.alloc h.size o
end Go.Proofs.Ytcangipaoancnaa

