/-
  What the law ConfigsAsk keeps from round to round: nothing that was there has turned but the twin's own lists. No condition but those that are named.
-/
import Derived.Test.YtibniadebbgjcaaDoorApartK
import Derived.Test.YtibniadebbgjcaaDoorBookW
import Derived.Test.YtibniadebbgjcaaDoorCfT
import Derived.Test.YtibniadebbgjcaaDoorCfR
namespace Go.Proofs.YtibniadebbgjcaaDoor
open Go.RowKit Rg

/-- wr is w5, but for the lists of the twin that lie in blocks g1 to g4, and for what is new. -/
structure AskF (w w5 wr : World) (c : Cf) (g1 g2 g3 g4 : Nat) : Prop where
  below : Below w.heap.size w wr
  size : w5.heap.size ≤ wr.heap.size
  only : ∀ g, g < w5.heap.size → g ≠ g1 → g ≠ g2 → g ≠ g3 → g ≠ g4 → wr.heap[g]? = w5.heap[g]?
  n1 : ∃ cs, Blk wr g1 3 cs ∧ c.pn ≤ cs.size
  n2 : ∃ cs, Blk wr g2 3 cs ∧ c.sn ≤ cs.size
  n3 : ∃ cs, Blk wr g3 3 cs ∧ c.bn ≤ cs.size
  n4 : ∃ cs, Blk wr g4 51 cs ∧ c.tn * 3 ≤ cs.size
section
variable {w w5 wr w' : World} {c : Cf} {g1 g2 g3 g4 : Nat}
theorem AskF.on (h : AskF w w5 wr c g1 g2 g3 g4) (hb : Below wr.heap.size wr w') : AskF w w5 w' c g1 g2 g3 g4 :=
  ⟨below_then h.below hb, Nat.le_trans h.size hb.size, fun g hg a b c d => (hb.block g (Nat.lt_of_lt_of_le hg h.size)).trans (h.only g hg a b c d),
   h.n1.imp fun _ q => ⟨q.1.on hb, q.2⟩, h.n2.imp fun _ q => ⟨q.1.on hb, q.2⟩, h.n3.imp fun _ q => ⟨q.1.on hb, q.2⟩, h.n4.imp fun _ q => ⟨q.1.on hb, q.2⟩⟩
/-- The book has taken a list. -/
theorem AskF.book (h : AskF w w5 wr c g1 g2 g3 g4) {kb : Nat} (hb : Below kb wr w') (hw : w.heap.size ≤ kb) (hkb : w5.heap.size ≤ kb) (hg : g1 < w5.heap.size ∧ g2 < w5.heap.size ∧ g3 < w5.heap.size ∧ g4 < w5.heap.size) : AskF w w5 w' c g1 g2 g3 g4 :=
  ⟨h.below.trans (hb.mono hw), Nat.le_trans h.size hb.size, fun g hg a b c d => (hb.block g (by omega)).trans (h.only g hg a b c d),
   h.n1.imp fun _ q => ⟨q.1.below hb (by omega), q.2⟩, h.n2.imp fun _ q => ⟨q.1.below hb (by omega), q.2⟩, h.n3.imp fun _ q => ⟨q.1.below hb (by omega), q.2⟩, h.n4.imp fun _ q => ⟨q.1.below hb (by omega), q.2⟩⟩
/-- The book's lists have been written over. -/
theorem AskF.apart (h : AskF w w5 wr c g1 g2 g3 g4) {E : Nat → Prop} (hs : SimE w.heap.size E wr w') (hE : ∀ g, E g → g = g1 ∨ g = g2 ∨ g = g3 ∨ w5.heap.size ≤ g) : AskF w w5 w' c g1 g2 g3 g4 :=
  ⟨h.below.trans hs.below, Nat.le_trans h.size hs.below.size, fun g hg a b c d => (hs.only g (Nat.lt_of_lt_of_le hg h.size) (fun he => by rcases hE g he with q | q | q | q <;> omega)).trans (h.only g hg a b c d),
   by
    obtain ⟨cs, hB, hl⟩ := h.n1
    obtain ⟨cs', hB', e⟩ := hs.data _ _ _ hB
    exact ⟨cs', hB', by omega⟩,
   by
    obtain ⟨cs, hB, hl⟩ := h.n2
    obtain ⟨cs', hB', e⟩ := hs.data _ _ _ hB
    exact ⟨cs', hB', by omega⟩,
   by
    obtain ⟨cs, hB, hl⟩ := h.n3
    obtain ⟨cs', hB', e⟩ := hs.data _ _ _ hB
    exact ⟨cs', hB', by omega⟩,
   by
    obtain ⟨cs, hB, hl⟩ := h.n4
    obtain ⟨cs', hB', e⟩ := hs.data _ _ _ hB
    exact ⟨cs', hB', by omega⟩⟩
/-- A station has been written. -/
theorem AskF.store (h : AskF w w5 wr c g1 g2 g3 g4) {b off : Nat} (hp : b = g4 ∨ w5.heap.size ≤ b) (hw : w.heap.size ≤ b) (hg : g1 < w5.heap.size ∧ g2 < w5.heap.size ∧ g3 < w5.heap.size ∧ g4 < w5.heap.size) (hne : g1 ≠ g4 ∧ g2 ≠ g4 ∧ g3 ≠ g4) (u : Value) : AskF w w5 (wr.setCell ⟨b, off, none⟩ u) c g1 g2 g3 g4 :=
  ⟨h.below.setCell hw u, by simpa [World.setCell] using h.size, fun g hg' a1 a2 a3 a4 => (Below.heap_setCell wr ⟨b, off, none⟩ u g (by simp only; rcases hp with q | q <;> omega)).trans (h.only g hg' a1 a2 a3 a4),
   h.n1.imp fun _ q => ⟨q.1.far_ (by simp only; rcases hp with r | r <;> omega) u, q.2⟩, h.n2.imp fun _ q => ⟨q.1.far_ (by simp only; rcases hp with r | r <;> omega) u, q.2⟩, h.n3.imp fun _ q => ⟨q.1.far_ (by simp only; rcases hp with r | r <;> omega) u, q.2⟩,
   by
    obtain ⟨cs, hB, hl⟩ := h.n4
    by_cases e : g4 = b
    · subst e
      exact ⟨_, hB.set_ off u, by simpa using hl⟩
    · exact ⟨cs, hB.far_ e u, hl⟩⟩
theorem AskF.blk (h : AskF w w5 wr c g1 g2 g3 g4) {g : Nat} {t : TypeId} {cs : Array Value} (hB : Blk w5 g t cs) (a : g ≠ g1) (b : g ≠ g2) (d : g ≠ g3) (e : g ≠ g4) : Blk wr g t cs := (h.only g hB.lt a b d e).trans hB
theorem AskF.own (h : AskF w w5 wr c g1 g2 g3 g4) {base : Nat} {d : Cf} (ho : CfOwn w5 base d) (hb : g1 < base ∧ g2 < base ∧ g3 < base ∧ g4 < base) : CfOwn wr base d :=
  ⟨⟨ho.p.1, fun hn => by
    obtain ⟨g, e, hg, hB⟩ := ho.p.2 hn
    exact ⟨g, e, hg, h.blk hB (by omega) (by omega) (by omega) (by omega)⟩⟩,
   ⟨ho.s.1, fun hn => by
    obtain ⟨g, e, hg, hB⟩ := ho.s.2 hn
    exact ⟨g, e, hg, h.blk hB (by omega) (by omega) (by omega) (by omega)⟩⟩,
   ⟨ho.b.1, fun hn => by
    obtain ⟨g, e, hg, hB⟩ := ho.b.2 hn
    exact ⟨g, e, hg, h.blk hB (by omega) (by omega) (by omega) (by omega)⟩⟩,
   ⟨ho.t.1, fun hn => by
    obtain ⟨g, e, hg, hB⟩ := ho.t.2 hn
    exact ⟨g, e, hg, h.blk hB (by omega) (by omega) (by omega) (by omega)⟩⟩, ho.few, ho.ap⟩
end
section
variable {w w' : World} {base : Nat} {c : Cf} {ts : List TypeId}
theorem OwnN.kept {n : Nat} {A : Option Addr} {xs : List Int} (h : OwnN w base A n xs) (hk : KeptBut w w' ts) (ht : 3 ∉ ts) : OwnN w' base A n xs := ⟨h.1, fun hn => by
  obtain ⟨g, e, hg, hB⟩ := h.2 hn
  exact ⟨g, e, hg, hk _ _ _ ht hB⟩⟩
theorem OwnT.kept {n : Nat} {A : Option Addr} {l : List (Int × Int × Int)} (h : OwnT w base A n l) (hk : KeptBut w w' ts) (ht : 51 ∉ ts) : OwnT w' base A n l := ⟨h.1, fun hn => by
  obtain ⟨g, e, hg, hB⟩ := h.2 hn
  exact ⟨g, e, hg, hk _ _ _ ht hB⟩⟩
theorem CfOwn.kept (h : CfOwn w base c) (hk : KeptBut w w' ts) (h1 : 3 ∉ ts) (h2 : 51 ∉ ts) : CfOwn w' base c := ⟨h.p.kept hk h1, h.s.kept hk h1, h.b.kept hk h1, h.t.kept hk h2, h.few, h.ap⟩
theorem OwnN.ent {n : Nat} {A : Option Addr} {xs : List Int} (h : OwnN w base A n xs) {b : Nat} (hb : b ≤ base) : Ent w 3 b (A, n) := fun hn => by
  obtain ⟨g, e, hg, hB⟩ := h.2 hn
  exact ⟨g, _, e, by omega, hB, by rw [cellsOf_size, h.1]; exact Nat.le_refl _⟩
/-- Lists of their own, one of which was made behind the other's world: they lie apart. -/
theorem OwnN.lt_ {n : Nat} {A : Option Addr} {xs : List Int} (h : OwnN w base A n xs) {B : Nat} (hB : w.heap.size ≤ B) : 0 < n → ∀ g, A = some ⟨g, 0, none⟩ → base ≤ g ∧ g < B := fun hn g e => by
  obtain ⟨g', e', hg, hb⟩ := h.2 hn
  rw [e'] at e
  injection e with e
  injection e with e
  have := hb.lt
  omega
end
theorem BookIs.mono {w : World} {kb base base' : Nat} {vb vn vs : Value} {lb ln ls : List (Option Addr × Nat)} (h : BookIs w kb base vb vn vs lb ln ls) (hb : base' ≤ base) : BookIs w kb base' vb vn vs lb ln ls := by
  have key : ∀ (e : TypeId) (v : Value) (n : Nat) (xs : List Value), w.ownsRow base e 1 v n xs → w.ownsRow base' e 1 v n xs := fun e v n xs h => ⟨h.1, by
    rcases h.2 with q | ⟨g, cap, cur, hv, hg, r⟩
    · exact .inl q
    · exact .inr ⟨g, cap, cur, hv, by omega, r⟩⟩
  exact ⟨by have := h.lo; omega, h.blk, key _ _ _ _ h.ob, key _ _ _ _ h.on, key _ _ _ _ h.os⟩
end Go.Proofs.YtibniadebbgjcaaDoor
