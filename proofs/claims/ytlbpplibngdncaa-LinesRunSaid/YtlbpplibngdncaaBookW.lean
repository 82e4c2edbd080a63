/-
  Words for the law's book: what a twin or a new list is in it. No condition but those that are named.
-/
import Derived.Test.YtlbpplibngdncaaTwin
import Derived.Test.YtlbpplibngdncaaApart
namespace Go.Proofs.Ytlbpplibngdncaa
open Go.RowKit

theorem TwinOf.kept {k : IntKind} {w w' : World} {t : TypeId} {g n c : Nat} {xs : List Int} {ts : List TypeId} (h : TwinOf k w t g n c xs) (hk : KeptBut w w' ts) (ht : t ∉ ts) : TwinOf k w' t g n c xs := by
  obtain ⟨h1, h2, h3, cs, h4, h5⟩ := h
  exact ⟨h1, h2, h3, cs, hk _ _ _ ht h4, h5⟩
theorem TwinOf.ent {k : IntKind} {w : World} {t : TypeId} {g n c base : Nat} {xs : List Int} (h : TwinOf k w t g n c xs) (hb : base ≤ g) : Ent w t base (some ⟨g, 0, none⟩, n) := fun _ => by
  obtain ⟨h1, h2, h3, cs, h4, h5, _⟩ := h
  exact ⟨g, cs, rfl, hb, h4, by simp only; omega⟩
theorem Blk.ent {k : IntKind} {w : World} {t : TypeId} {g n base : Nat} {xs : List Int} (h : Blk w g t (cellsOf k xs)) (hn : xs.length = n) (hb : base ≤ g) : Ent w t base (some ⟨g, 0, none⟩, n) := fun _ =>
  ⟨g, _, rfl, hb, h, by rw [cellsOf_size]; simp only; omega⟩
theorem addr_ne {a b : Nat} (h : a ≠ b) : (some (⟨a, 0, none⟩ : Addr)) ≠ some ⟨b, 0, none⟩ := fun e => h (by injection e with e; injection e)
theorem ents0 {w : World} {T : TypeId} {base : Nat} : Ents w T base [] := fun i hi => absurd hi (Nat.not_lt_zero i)
theorem dist0 : Dist [] := fun i _ hi => absurd hi (Nat.not_lt_zero i)
theorem ents3 {w : World} {T : TypeId} {base : Nat} {p q r : Option Addr × Nat} (h1 : Ent w T base p) (h2 : Ent w T base q) (h3 : Ent w T base r) : Ents w T base [p, q, r] := fun i hi => by
  match i, hi with
  | 0, _ => exact h1
  | 1, _ => exact h2
  | 2, _ => exact h3
theorem ents2 {w : World} {T : TypeId} {base : Nat} {p q : Option Addr × Nat} (h1 : Ent w T base p) (h2 : Ent w T base q) : Ents w T base [p, q] := fun i hi => by
  match i, hi with
  | 0, _ => exact h1
  | 1, _ => exact h2
theorem dist3 {a b c n m k : Nat} (h1 : a ≠ b) (h2 : a ≠ c) (h3 : b ≠ c) : Dist [(some ⟨a, 0, none⟩, n), (some ⟨b, 0, none⟩, m), (some ⟨c, 0, none⟩, k)] := fun i j hi hj hne _ _ => by
  match i, j, hi, hj with
  | 0, 0, _, _ => exact absurd rfl hne
  | 0, 1, _, _ => exact addr_ne h1
  | 0, 2, _, _ => exact addr_ne h2
  | 1, 0, _, _ => exact addr_ne fun e => h1 e.symm
  | 1, 1, _, _ => exact absurd rfl hne
  | 1, 2, _, _ => exact addr_ne h3
  | 2, 0, _, _ => exact addr_ne fun e => h2 e.symm
  | 2, 1, _, _ => exact addr_ne fun e => h3 e.symm
  | 2, 2, _, _ => exact absurd rfl hne
theorem dist2 {A B : Option Addr} {n m : Nat} (h1 : 0 < n → 0 < m → A ≠ B) : Dist [(A, n), (B, m)] := fun i j hi hj hne h2 h3 => by
  match i, j, hi, hj with
  | 0, 0, _, _ => exact absurd rfl hne
  | 0, 1, _, _ => exact h1 h2 h3
  | 1, 0, _, _ => exact fun e => h1 h3 h2 e.symm
  | 1, 1, _, _ => exact absurd rfl hne
theorem Ent.mono {w : World} {T : TypeId} {base base' : Nat} {p : Option Addr × Nat} (h : Ent w T base p) (hb : base' ≤ base) : Ent w T base' p := fun h0 => by
  obtain ⟨g, cs, e, h1, h2⟩ := h h0
  exact ⟨g, cs, e, by omega, h2⟩
theorem Ent.on {w w' : World} {T : TypeId} {base : Nat} {p : Option Addr × Nat} (h : Ent w T base p) (hb : Below w.heap.size w w') : Ent w' T base p := h.kept (KeptBut.below hb []) (by simp)
theorem Ent.far {w : World} {T : TypeId} {base g : Nat} {p : Option Addr × Nat} (h : Ent w T base p) (hg : g < base) : 0 < p.2 → (some ⟨g, 0, none⟩ : Option Addr) ≠ p.1 := fun h0 e => by
  obtain ⟨g', cs, e', h1, _⟩ := h h0
  rw [e'] at e
  injection e with e
  injection e with e
  omega
theorem ents_cons {w : World} {T : TypeId} {base : Nat} {p : Option Addr × Nat} {l : List (Option Addr × Nat)} (h : Ent w T base p) (hl : Ents w T base l) : Ents w T base (p :: l) := fun i hi => by
  cases i with
  | zero => exact h
  | succ i => exact hl i (by simpa using hi)
theorem dist_cons {p : Option Addr × Nat} {l : List (Option Addr × Nat)} (h : ∀ q ∈ l, 0 < p.2 → 0 < q.2 → p.1 ≠ q.1) (hl : Dist l) : Dist (p :: l) := fun i j hi hj hne h2 h3 => by
  have hm : ∀ i, i < l.length → l.getD i (none, 0) ∈ l := fun i hi => by rw [List.getD, List.getElem?_eq_getElem hi]; exact List.getElem_mem _
  cases i with
  | zero => cases j with
    | zero => exact absurd rfl hne
    | succ j => exact h _ (hm j (by simpa using hj)) h2 h3
  | succ i => cases j with
    | zero => exact fun e => h _ (hm i (by simpa using hi)) h3 h2 e.symm
    | succ j => exact hl i j (by simpa using hi) (by simpa using hj) (fun e => hne (by rw [e])) h2 h3
end Go.Proofs.Ytlbpplibngdncaa
