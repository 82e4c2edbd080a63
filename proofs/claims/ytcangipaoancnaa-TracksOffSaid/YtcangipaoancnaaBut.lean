/-
  Words on memory where one block is written: all others stay ('But'). No condition; nothing of the program is named here.
-/
import Derived.Test.YtcangipaoancnaaMem
namespace Go.Proofs.Ytcangipaoancnaa
open Go.RowKit

theorem Blk.far {g : Nat} {t : TypeId} {u : World} {cs : Array Value} (hB : Blk u g t cs) {p : Addr} (hp : g ≠ p.block) (v : Value) : Blk (u.setCell p v) g t cs := (Below.heap_setCell u p v g hp).trans hB
/-- From w on: all but the block g of what was there in w stays. -/
def But (g : Nat) (w w' : World) : Prop := Below g w w' ∧ ∀ b, b < w.heap.size → b ≠ g → w'.heap[b]? = w.heap[b]?
theorem But.blk {g b : Nat} {w w' : World} {t : TypeId} {cs : Array Value} (h : But g w w') (hB : Blk w b t cs) (hb : b ≠ g) : Blk w' b t cs := (h.2 b hB.lt hb).trans hB
theorem But.trans {g : Nat} {a b c : World} (h : But g a b) (k : But g b c) : But g a c := ⟨h.1.trans k.1, fun x hx hn => (k.2 x (Nat.lt_of_lt_of_le hx h.1.size) hn).trans (h.2 x hx hn)⟩
theorem But.grow {g : Nat} {w w' : World} (hg : g ≤ w.heap.size) (h : Below w.heap.size w w') : But g w w' := ⟨h.mono hg, fun b hb _ => h.block b hb⟩
theorem But.drew {g : Nat} {w u : World} (h : But g w u) : But g w u.drew := ⟨h.1.drew, h.2⟩
theorem wp_at {P : Program} {C : Code} {Q : Exit → Act → World → Prop} {a : Act} {W : World} (S : World → Prop) (h : S W) (k : ∀ U, S U → Code.wp P C Q a U) : Code.wp P C Q a W := k W h
theorem But.al {g : Nat} {w u : World} (hg : g < w.heap.size) (h : But g w u) (o : Obj) : But g w (u.alloc o) := ⟨h.1.alloc (Nat.le_trans (Nat.le_of_lt hg) h.1.size) o, fun b hb hn => (Below.heap_alloc u o b (Nat.lt_of_lt_of_le hb h.1.size)).trans (h.2 b hb hn)⟩
theorem Blk.newS (w : World) (p : Addr) (v : Value) (t : TypeId) (cs : Array Value) : Blk ((w.setCell p v).alloc (.cells cs t)) w.heap.size t cs := by
  have h := Blk.new (w.setCell p v) t cs
  simpa using h
theorem But.refl (g : Nat) (w : World) : But g w w := ⟨Below.refl _ _, fun _ _ _ => rfl⟩
theorem But.one {u : World} {g : Nat} (i : Nat) (v : Value) : But g u (u.setCell ⟨g, i, none⟩ v) :=
  ⟨(Below.refl _ _).setCell (p := ⟨g, i, none⟩) (Nat.le_refl _) v, fun _ _ hk => Below.heap_setCell _ _ _ _ hk⟩
/-- One more cell of the block is written. -/
theorem But.set {g : Nat} {w u : World} (h : But g w u) (i : Nat) (v : Value) : But g w (u.setCell ⟨g, i, none⟩ v) := h.trans (But.one i v)
theorem But.on {g : Nat} {w u u' : World} (h : But g w u) (hg : g < w.heap.size) (k : Below u.heap.size u u') : But g w u' := h.trans (But.grow (Nat.le_trans (Nat.le_of_lt hg) h.1.size) k)
/-- Seen from below the block nothing has turned. -/
theorem But.low {g B : Nat} {w u : World} (h : But g w u) (hB : B ≤ g) : Below B w u := h.1.mono hB
end Go.Proofs.Ytcangipaoancnaa

