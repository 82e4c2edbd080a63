/-
  Words on memory where blocks of some types alone are written ('KeptBut'), and what a row of one's own is then. No condition; nothing of the program is named here.
-/
import Derived.Test.YtcangipaoancnaaApp
import Derived.Laws.AppendOwn
import Derived.WalkSpells
import Derived.Deep.Cut
import Derived.Deep.CutRange
import Derived.WalkLawsBesides
import Derived.Deep.QuietTactic
import Derived.BigQuiet
namespace Go.Proofs.Ytcangipaoancnaa
open Go.RowKit

/-- Blocks that are known whole, of other types than these, are as they were. -/
def KeptBut (w w' : World) (ts : List TypeId) : Prop := ∀ g t cs, t ∉ ts → Blk w g t cs → Blk w' g t cs
theorem KeptBut.refl (w : World) (ts : List TypeId) : KeptBut w w ts := fun _ _ _ _ h => h
theorem KeptBut.trans {a b c : World} {ts : List TypeId} (h : KeptBut a b ts) (k : KeptBut b c ts) : KeptBut a c ts := fun g t cs ht hB => k g t cs ht (h g t cs ht hB)
theorem KeptBut.mono {a b : World} {ts us : List TypeId} (h : KeptBut a b ts) (hs : ∀ t ∈ ts, t ∈ us) : KeptBut a b us := fun g t cs ht hB => h g t cs (fun m => ht (hs t m)) hB
theorem KeptBut.alloc (w : World) (o : Obj) (ts : List TypeId) : KeptBut w (w.alloc o) ts := fun _ _ _ _ h => h.alloc o
theorem KeptBut.below {w w' : World} (h : Below w.heap.size w w') (ts : List TypeId) : KeptBut w w' ts := fun _ _ _ _ hB => hB.on h
theorem Blk.ne {w : World} {g g' : Nat} {t t' : TypeId} {cs cs' : Array Value} (h : Blk w g t cs) (h' : Blk w g' t' cs') (hne : t ≠ t') : g ≠ g' := by
  intro e
  subst e
  have := h.symm.trans h'
  injection this with this
  injection this with _ h2
  exact hne h2
theorem KeptBut.setCell {w : World} {b i : Nat} {t : TypeId} {cs : Array Value} (h : Blk w b t cs) (u : Value) : KeptBut w (w.setCell ⟨b, i, none⟩ u) [t] := fun g t' cs' ht hB =>
  (Below.heap_setCell w ⟨b, i, none⟩ u g (hB.ne h (by simpa using ht))).trans hB
theorem KeptBut.grown {w w' : World} {base n : Nat} {e : TypeId} {v : Value} {xs : List Value} (h : w.ownsRow base e 1 v n xs) (hg : w.grownBy w' v.ownBlock) : KeptBut w w' [e] := fun g t cs ht hB => by
  refine (hg.block g hB.lt fun he => ?_).trans hB
  rcases h.2 with ⟨rfl, _⟩ | ⟨g', cap, cur, rfl, _, hh, _⟩
  · simp [Value.ownBlock] at he
  · have e' : g = g' := by simpa [Value.ownBlock] using he
    exact hB.ne (t' := e) hh (by simpa using ht) e'
theorem owns_kept {w w' : World} {ts : List TypeId} {base n : Nat} {e : TypeId} {v : Value} {xs : List Value} (h : w.ownsRow base e 1 v n xs) (hk : KeptBut w w' ts) (he : e ∉ ts) : w'.ownsRow base e 1 v n xs := by
  obtain ⟨h1, h2⟩ := h
  refine ⟨h1, ?_⟩
  rcases h2 with h2 | ⟨g, cap, cur, hv, hb, hh, r⟩
  · exact .inl h2
  · exact .inr ⟨g, cap, cur, hv, hb, hk g e cur he hh, r⟩

theorem owns_form {w : World} {base n : Nat} {e : TypeId} {v : Value} {xs : List Value} (h : w.ownsRow base e 1 v n xs) : ∃ A m c, v = .slice A m c := by
  rcases h.2 with ⟨hv, _⟩ | ⟨g, cap, cur, hv, _⟩
  · exact ⟨_, _, _, hv⟩
  · exact ⟨_, _, _, hv⟩
end Go.Proofs.Ytcangipaoancnaa

