/-
  The contracts of the law's mark and of its book's Syms, Bytes, Nums: a list more stands in the book; no other memory that was there has turned. Conditions: what the book holds, a list without room behind.
-/
import Derived.Test.YtlbpplibngdncaaApp
import Derived.Laws.AppendOwn
import Derived.WalkSpells
import Derived.Deep.Cut
import Derived.Deep.CutRange
import Derived.WalkLawsBesides
namespace Go.Proofs.Ytlbpplibngdncaa
open Go.RowKit

/-- Blocks that are known whole, of other types than these, are as they were. -/
def KeptBut (w w' : World) (ts : List TypeId) : Prop := ∀ g t cs, t ∉ ts → Blk w g t cs → Blk w' g t cs
theorem KeptBut.refl (w : World) (ts : List TypeId) : KeptBut w w ts := fun _ _ _ _ h => h
theorem KeptBut.trans {a b c : World} {ts : List TypeId} (h : KeptBut a b ts) (k : KeptBut b c ts) : KeptBut a c ts := fun g t cs ht hB => k g t cs ht (h g t cs ht hB)
theorem KeptBut.mono {a b : World} {ts us : List TypeId} (h : KeptBut a b ts) (hs : ∀ t ∈ ts, t ∈ us) : KeptBut a b us := fun g t cs ht hB => h g t cs (fun m => ht (hs t m)) hB
theorem KeptBut.alloc (w : World) (o : Obj) (ts : List TypeId) : KeptBut w (w.alloc o) ts := fun _ _ _ _ h => h.alloc o
theorem KeptBut.below {w w' : World} (h : Below w.heap.size w w') (ts : List TypeId) : KeptBut w w' ts := fun _ _ _ _ hB => hB.on h
theorem Blk.ne {w : World} {g g' : Nat} {t t' : TypeId} {cs cs' : Array Value} (h : Blk w g t cs) (h' : Blk w g' t' cs') (hne : t ≠ t') : g ≠ g' := by
  intro e
  subst e
  have := h.symm.trans h'
  injection this with this
  injection this with _ h2
  exact hne h2
theorem KeptBut.setCell {w : World} {b i : Nat} {t : TypeId} {cs : Array Value} (h : Blk w b t cs) (u : Value) : KeptBut w (w.setCell ⟨b, i, none⟩ u) [t] := fun g t' cs' ht hB =>
  (Below.heap_setCell w ⟨b, i, none⟩ u g (hB.ne h (by simpa using ht))).trans hB
theorem KeptBut.grown {w w' : World} {base n : Nat} {e : TypeId} {v : Value} {xs : List Value} (h : w.ownsRow base e 1 v n xs) (hg : w.grownBy w' v.ownBlock) : KeptBut w w' [e] := fun g t cs ht hB => by
  refine (hg.block g hB.lt fun he => ?_).trans hB
  rcases h.2 with ⟨rfl, _⟩ | ⟨g', cap, cur, rfl, _, hh, _⟩
  · simp [Value.ownBlock] at he
  · have e' : g = g' := by simpa [Value.ownBlock] using he
    exact hB.ne (t' := e) hh (by simpa using ht) e'
theorem owns_kept {w w' : World} {ts : List TypeId} {base n : Nat} {e : TypeId} {v : Value} {xs : List Value} (h : w.ownsRow base e 1 v n xs) (hk : KeptBut w w' ts) (he : e ∉ ts) : w'.ownsRow base e 1 v n xs := by
  obtain ⟨h1, h2⟩ := h
  refine ⟨h1, ?_⟩
  rcases h2 with h2 | ⟨g, cap, cur, hv, hb, hh, r⟩
  · exact .inl h2
  · exact .inr ⟨g, cap, cur, hv, hb, hk g e cur he hh, r⟩

theorem owns_form {w : World} {base n : Nat} {e : TypeId} {v : Value} {xs : List Value} (h : w.ownsRow base e 1 v n xs) : ∃ A m c, v = .slice A m c := by
  rcases h.2 with ⟨hv, _⟩ | ⟨g, cap, cur, hv, _⟩
  · exact ⟨_, _, _, hv⟩
  · exact ⟨_, _, _, hv⟩
/-- The values of lists without room behind. -/
def hdr (l : List (Option Addr × Nat)) : List Value := l.map fun p => .slice p.1 p.2 p.2
theorem hdr_snoc (l : List (Option Addr × Nat)) (A : Option Addr) (n : Nat) : hdr (l ++ [(A, n)]) = hdr l ++ [.slice A n n] := by simp [hdr]
theorem hdr_length (l : List (Option Addr × Nat)) : (hdr l).length = l.length := by simp [hdr]

/-- What the book at block kb holds. -/
structure BookIs (w : World) (kb base : Nat) (vb vn vs : Value) (lb ln ls : List (Option Addr × Nat)) : Prop where
  lo : base ≤ kb
  blk : Blk w kb 39 #[vb, vn, vs, .bool false]
  ob : w.ownsRow base 55 1 vb lb.length (hdr lb)
  on : w.ownsRow base 31 1 vn ln.length (hdr ln)
  os : w.ownsRow base 82 1 vs ls.length (hdr ls)
theorem BookIs.kept {w w' : World} {kb base : Nat} {vb vn vs : Value} {lb ln ls : List (Option Addr × Nat)} {ts : List TypeId} (h : BookIs w kb base vb vn vs lb ln ls) (hk : KeptBut w w' ts)
    (h1 : 39 ∉ ts) (h2 : 55 ∉ ts) (h3 : 31 ∉ ts) (h4 : 82 ∉ ts) : BookIs w' kb base vb vn vs lb ln ls :=
  ⟨h.lo, hk _ _ _ h1 h.blk, owns_kept h.ob hk h2, owns_kept h.on hk h3, owns_kept h.os hk h4⟩
theorem BookIs.below {w w' : World} {kb base : Nat} {vb vn vs : Value} {lb ln ls : List (Option Addr × Nat)} (h : BookIs w kb base vb vn vs lb ln ls) (hb : Below w.heap.size w w') : BookIs w' kb base vb vn vs lb ln ls :=
  h.kept (ts := []) (KeptBut.below hb []) (by simp) (by simp) (by simp) (by simp)
/-- An empty book. -/
theorem BookIs.empty {w : World} {kb base : Nat} (h : Blk w kb 39 #[.slice none 0 0, .slice none 0 0, .slice none 0 0, .bool false]) (hb : base ≤ kb) : BookIs w kb base (.slice none 0 0) (.slice none 0 0) (.slice none 0 0) [] [] [] :=
  ⟨hb, h, ⟨rfl, .inl ⟨rfl, rfl⟩⟩, ⟨rfl, .inl ⟨rfl, rfl⟩⟩, ⟨rfl, .inl ⟨rfl, rfl⟩⟩⟩

def bookTypes : List TypeId := [39, 55, 31, 82]
theorem infoRowNums : (Try.prog.info? 31).map (fun i => (i.zero, i.size, i.bytes)) = some (some (.slice none 0 0), 1, 24) := by kernel_rfl
set_option maxRecDepth 100000 in
theorem bookNums (w : World) (kb base : Nat) (vb vn vs : Value) (lb ln ls : List (Option Addr × Nat)) (A : Option Addr) (n : Nat) (h : BookIs w kb base vb vn vs lb ln ls) (hlen : ln.length ≤ 65536) :
    Calls Try.prog 15 #[.pointer (some ⟨kb, 0, none⟩), .slice A n n] w fun e w' => e = .returned (.tuple #[]) ∧ (∃ v', BookIs w' kb base vb v' vs lb (ln ++ [(A, n)]) ls) ∧ Below base w w' ∧ KeptBut w w' bookTypes := by
  obtain ⟨i0, hi0, hz0, hz1, hz2⟩ := info_parts infoRowNums
  have c2 := h.blk.cell 1
  have c3 := h.blk.cell 3
  have f3 := h.blk.frozen 3
  simp at c2 c3
  have hd : decide ((n : Int) < (n : Int)) = false := by simp
  obtain ⟨W, hW⟩ : ∃ W, W = w.setCell ⟨kb, 3, none⟩ (.bool false) := ⟨_, rfl⟩
  have hB1 : Blk W kb 39 #[vb, vn, vs, .bool false] := by have := h.blk.set_ 3 (.bool false); rw [hW]; simpa using this
  have k1 : KeptBut w W bookTypes := by rw [hW]; exact (KeptBut.setCell h.blk _).mono (by decide)
  have b1 : Below base w W := by rw [hW]; exact (Below.refl _ _).setCell h.lo _
  have o1 : W.ownsRow base 31 1 vn ln.length (hdr ln) := owns_kept h.on (by rw [hW]; exact KeptBut.setCell h.blk (.bool false) (i := 3)) (by decide)
  have o2 := o1.alloc (.cells #[.slice A n n] 31)
  have hbase : base ≤ (W.alloc (.cells #[.slice A n n] 31)).heap.size := by have := hB1.lt; have := h.lo; simp; omega
  have c2' : W.cell? ⟨kb, 1, none⟩ = some vn := by have := hB1.cell 1; simpa using this
  have HW := Lib.hid hW
  go_enter Try.func15, Try.ntmps15
  go_upto_region 1 with fail
  rw [← hW]
  clear hW c3 f3 hd c2
  go_wp2_with (first
    | (at_builtin; with_reducible refine wpList_append_own _ rfl (.tmp 22) (.tmp 24) 22 rfl base 31 i0 _ 1 24 Try.underlying22 hi0 hz0 hz1 hz2 rfl (by decide) vn ln.length (hdr ln) rfl o2 ⟨W.heap.size, 0, none⟩ 1 1 [.slice A n n] rfl rfl (cell_one_new _ _ _) (by simp [Value.oneCell']) (by unfold maxLen; omega) (by omega) hbase ?_))
  intro v' w1 hown1 hg1 _
  obtain ⟨A', m', c', hv'⟩ := owns_form hown1
  subst hv'
  have k2 : KeptBut W w1 [31] := ((KeptBut.alloc W _ _).trans (KeptBut.grown o2 hg1))
  have hB2 := k2 _ _ _ (by decide) hB1
  have b2 : Below base w w1 := (b1.alloc (by have := hB1.lt; have := h.lo; omega) _).grown hg1 hbase (fun q hq => (o2.lt q hq).1)
  have hB3 := hB2.set_ 1 (.slice A' m' c')
  have k3 : KeptBut w1 (w1.setCell ⟨kb, 1, none⟩ (.slice A' m' c')) bookTypes := (KeptBut.setCell hB2 _).mono (by decide)
  have hown2 : (w1.setCell ⟨kb, 1, none⟩ (.slice A' m' c')).ownsRow base 31 1 (.slice A' m' c') (ln ++ [(A, n)]).length (hdr (ln ++ [(A, n)])) := by
    rw [hdr_snoc, List.length_append]
    exact owns_kept hown1 (KeptBut.setCell hB2 _) (by decide)
  have hkeep : KeptBut w (w1.setCell ⟨kb, 1, none⟩ (.slice A' m' c')) [39, 31] := (((by rw [HW.out]; exact KeptBut.setCell h.blk _ : KeptBut w W [39]).mono (by decide)).trans (k2.mono (by decide))).trans ((KeptBut.setCell hB2 _).mono (by decide))
  have c2'' : w1.cell? ⟨kb, 1, none⟩ = some vn := by have := hB2.cell 1; simpa using this
  have f2'' := hB2.frozen 1
  clear hown1 hg1 o1 o2 hi0 hz0 hz1 hz2 c2' HW
  go_wp2_with fail
  go_end0
  exact ⟨rfl, ⟨_, h.lo, by simpa using hB3, owns_kept h.ob hkeep (by decide), hown2, owns_kept h.os hkeep (by decide)⟩, b2.setCell h.lo _, hkeep.mono (by decide)⟩
end Go.Proofs.Ytlbpplibngdncaa
