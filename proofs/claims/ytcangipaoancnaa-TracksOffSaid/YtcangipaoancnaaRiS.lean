/-
  A ring of lanes as it lies in memory, and what stays of it. Conditions: those that are named.
-/
import Derived.Test.YtcangipaoancnaaRi1
import Derived.Test.YtcangipaoancnaaRiP
namespace Go.Proofs.Ytcangipaoancnaa
open Go.RowKit
set_option linter.unusedVariables false
set_option linter.unusedSimpArgs false

/-- A block of rows, or of tables. -/
def TyRH (u : World) (g : Nat) : Prop := ∃ cs, Blk u g 54 cs ∨ Blk u g 102 cs
/-- A lane of the ring. -/
structure Ln where
  b : Nat
  own : Nat → Prop
  E : Nat
  T : Nat → Tk
  nw : Option Tk
def Ln.S (X : Ln) (u : World) (N i : Nat) : Prop := LaneS u X.own X.b N i X.E X.T X.nw ∧ ∀ g, X.own g → TyRH u g
section
variable {u v : World} {own : Nat → Prop} {b N me E i g B : Nat} {T : Nat → Tk} {nw : Option Tk} {X : Ln}
theorem TyRH.kr (h : TyRH u g) (k : KR B u v) : TyRH v g := by
  obtain ⟨cs, h | h⟩ := h
  · exact ⟨cs, .inl (k.t _ _ _ (.inl rfl) h)⟩
  · exact ⟨cs, .inr (k.t _ _ _ (.inr rfl) h)⟩
theorem TyRH.ne (h : TyRH u g) {x : Nat} {t : TypeId} {cs : Array Value} (hx : Blk u x t cs) (h1 : t ≠ 54) (h2 : t ≠ 102) : g ≠ x := by
  obtain ⟨ds, h | h⟩ := h
  · exact h.ne hx (Ne.symm h1)
  · exact h.ne hx (Ne.symm h2)
theorem TyRH.same (h : TyRH u g) (k : KR B u v) : v.heap[g]? = u.heap[g]? := by
  obtain ⟨cs, h | h⟩ := h
  · exact (k.t _ _ _ (.inl rfl) h).trans h.symm
  · exact (k.t _ _ _ (.inr rfl) h).trans h.symm
theorem RwK.ty {r : Rw} (h : RwK u own r) : RwK u (fun g => own g ∧ TyRH u g) r := by
  rcases h with h | ⟨g, h1, h2, h3, h4, h5⟩
  · exact .inl h
  · exact .inr ⟨g, h1, h2, h3, ⟨h4, _, .inr h5⟩, h5⟩
theorem TkK.ty {t : Tk} (h : TkK u own N t) : TkK u (fun g => own g ∧ TyRH u g) N t where
  g := h.g
  o := h.o.ty
  n := fun d hd => by
    obtain ⟨G, h1, h2, h3, h4⟩ := h.n d hd
    exact ⟨G, h1, ⟨h2, _, .inl h3⟩, h3, fun s hs => (h4 s hs).ty⟩
  f := fun d hd => by
    obtain ⟨G, h1, h2, h3, h4⟩ := h.f d hd
    exact ⟨G, h1, ⟨h2, _, .inl h3⟩, h3, fun s hs => (h4 s hs).ty⟩
theorem LaneS.ty (h : LaneS u own b N me E T nw) : LaneS u (fun g => own g ∧ TyRH u g) b N me E T nw := by
  obtain ⟨Lc, h1, h2, h3, h4⟩ := h.blk
  exact ⟨h.N4, h.meN, ⟨Lc, h1, h2, h3, h4⟩, fun i hi hn => (h.tk i hi hn).ty, fun t ht => (h.nk t ht).ty, fun g hg => h.lt g hg.1⟩
theorem Ln.S.blk (h : X.S u N i) : ∃ cs, Blk u X.b 138 cs := by
  obtain ⟨Lc, h1, _⟩ := h.1.blk
  exact ⟨_, h1⟩
/-- A lane stays while its block, and rows and tables, do. -/
theorem Ln.S.keep (h : X.S u N i) (k : KR B u v) (hb : v.heap[X.b]? = u.heap[X.b]?) : X.S v N i := ⟨h.1.keep k.b.size hb fun g hg => (h.2 g hg).same k, fun g hg => (h.2 g hg).kr k⟩
theorem Ln.S.on (h : X.S u N i) (hB : B ≤ u.heap.size) (k : Below u.heap.size u v) : X.S v N i := by
  obtain ⟨cs, hb⟩ := h.blk
  exact h.keep (KR.below hB k) ((hb.on k).trans hb.symm)
theorem Ln.S.but {x : Nat} (h : X.S u N i) (k : KR B u v) (hb : But x u v) (hx : X.b ≠ x) : X.S v N i := by
  obtain ⟨cs, q⟩ := h.blk
  exact h.keep k ((hb.blk q hx).trans q.symm)
theorem Ln.S.kept {ts : List TypeId} (h : X.S u N i) (k : KR B u v) (hb : KeptBut u v ts) (hx : 138 ∉ ts) : X.S v N i := by
  obtain ⟨cs, q⟩ := h.blk
  exact h.keep k ((hb _ _ _ hx q).trans q.symm)
theorem KR.but {x : Nat} {t : TypeId} {cs : Array Value} (h : Blk u x t cs) (hb : But x u v) (hB : B ≤ x) (h1 : t ≠ 54) (h2 : t ≠ 102) : KR B u v := ⟨hb.low hB, fun g ty ds e hd => hb.blk hd (by
  rcases e with rfl | rfl
  · exact hd.ne h (Ne.symm h1)
  · exact hd.ne h (Ne.symm h2))⟩
end
def ptL (L : Nat → Ln) (i : Nat) : List Value := [.pointer (some ⟨(L i).b, 0, none⟩)]
def trL (o : Nat → Bool) (i : Nat) : List Value := [.bool (o i)]
/-- The ring. -/
structure RiS (B : Nat) (u : World) (gr gl cl go N : Nat) (F : Fa) (VS : Value) (L : Nat → Ln) (o : Nat → Bool) (Tn : Nat) (S : Nat → Nat → Nat → Wo) : Prop where
  r : Blk u gr 158 (rgL N F (.slice (some ⟨gl, 0, none⟩) N cl) (.slice (some ⟨go, 0, none⟩) N N) VS).toArray
  p : ∃ Z, Blk u gl 25 (flL (ptL L) N ++ Z).toArray
  o : Blk u go 4 (flL (trL o) N).toArray
  l : ∀ i, i < N → (L i).S u N i
  d : ∀ i j, i < N → j < N → i ≠ j → (L i).b ≠ (L j).b
  lo : ∀ i, i < N → B ≤ (L i).b
  s : SentS B u VS N Tn S
  B : B ≤ gr ∧ B ≤ gl ∧ B ≤ go ∧ B ≤ u.heap.size
def updL (L : Nat → Ln) (i : Nat) (X : Ln) : Nat → Ln := fun j => if j = i then X else L j
def updB (o : Nat → Bool) (i : Nat) (x : Bool) : Nat → Bool := fun j => if j = i then x else o j
theorem updL_self (L : Nat → Ln) (i : Nat) (X : Ln) : updL L i X i = X := if_pos rfl
theorem updL_ne (L : Nat → Ln) {i j : Nat} (X : Ln) (h : j ≠ i) : updL L i X j = L j := if_neg h
section
variable {B gr gl cl go N Tn i : Nat} {u v : World} {F : Fa} {VS : Value} {L : Nat → Ln} {o : Nat → Bool} {S : Nat → Nat → Nat → Wo} {X : Ln}
theorem RiS.on (h : RiS B u gr gl cl go N F VS L o Tn S) (k : Below u.heap.size u v) : RiS B v gr gl cl go N F VS L o Tn S := by
  obtain ⟨Z, hp⟩ := h.p
  obtain ⟨b1, b2, b3, b4⟩ := h.B
  exact ⟨h.r.on k, ⟨Z, hp.on k⟩, h.o.on k, fun i hi => (h.l i hi).on b4 k, h.d, h.lo, h.s.on b4 k, b1, b2, b3, Nat.le_trans b4 k.size⟩
theorem RiS.kept {ts : List TypeId} (h : RiS B u gr gl cl go N F VS L o Tn S) (k : KeptBut u v ts) (kr : KR B u v) (hts : ∀ t ∈ ts, t ≠ 158 ∧ t ≠ 25 ∧ t ≠ 4 ∧ t ≠ 138 ∧ t ≠ 160 ∧ t ≠ 161) : RiS B v gr gl cl go N F VS L o Tn S := by
  obtain ⟨Z, hp⟩ := h.p
  obtain ⟨b1, b2, b3, b4⟩ := h.B
  exact ⟨k _ _ _ (fun m => (hts _ m).1 rfl) h.r, ⟨Z, k _ _ _ (fun m => (hts _ m).2.1 rfl) hp⟩, k _ _ _ (fun m => (hts _ m).2.2.1 rfl) h.o, fun i hi => (h.l i hi).kept kr k (fun m => (hts _ m).2.2.2.1 rfl), h.d, h.lo, h.s.kept k (fun m => (hts _ m).2.2.2.2.1 rfl) (fun m => (hts _ m).2.2.2.2.2 rfl) kr, b1, b2, b3, Nat.le_trans b4 kr.b.size⟩
/-- One lane goes on. -/
theorem RiS.lane_kr (h : RiS B u gr gl cl go N F VS L o Tn S) (hi : i < N) (b : But (L i).b u v) : KR B u v := by
  obtain ⟨cs, q⟩ := (h.l i hi).blk
  exact KR.but q b (h.lo i hi) (by decide) (by decide)
theorem RiS.lane (h : RiS B u gr gl cl go N F VS L o Tn S) (hi : i < N) (b : But (L i).b u v) (hX : X.S v N i) (e : X.b = (L i).b) : RiS B v gr gl cl go N F VS (updL L i X) o Tn S := by
  obtain ⟨cs, q⟩ := (h.l i hi).blk
  obtain ⟨Z, hp⟩ := h.p
  obtain ⟨b1, b2, b3, b4⟩ := h.B
  have kr := h.lane_kr hi b
  have eb : ∀ j, (updL L i X j).b = (L j).b := fun j => by
    unfold updL
    split
    · rename_i hj; rw [hj]; exact e
    · rfl
  refine ⟨b.blk h.r (h.r.ne q (by decide)), ⟨Z, ?_⟩, b.blk h.o (h.o.ne q (by decide)), fun j hj => ?_, fun j k hj hk hn => by rw [eb, eb]; exact h.d j k hj hk hn, fun j hj => by rw [eb]; exact h.lo j hj, h.s.kept (b.kept q) (by decide) (by decide) kr, b1, b2, b3, Nat.le_trans b4 b.1.size⟩
  · rw [show flL (ptL (updL L i X)) N = flL (ptL L) N from flL_congr fun j _ => by unfold ptL; rw [eb]]
    exact b.blk hp (hp.ne q (by decide))
  · by_cases hji : j = i
    · subst hji; rw [updL_self]; exact hX
    · rw [updL_ne _ _ hji]
      exact (h.l j hj).but kr b (h.d j i hj hi hji)
/-- One is put in another one's place. -/
theorem RiS.put (h : RiS B u gr gl cl go N F VS L o Tn S) (hi : i < N) (hX : X.S u N i) (hB : B ≤ X.b) (hd : ∀ j, j < N → j ≠ i → X.b ≠ (L j).b) : RiS B (u.setCell ⟨gl, i, none⟩ (.pointer (some ⟨X.b, 0, none⟩))) gr gl cl go N F VS (updL L i X) o Tn S ∧ KR B u (u.setCell ⟨gl, i, none⟩ (.pointer (some ⟨X.b, 0, none⟩))) ∧ But gl u (u.setCell ⟨gl, i, none⟩ (.pointer (some ⟨X.b, 0, none⟩))) := by
  obtain ⟨Z, hp⟩ := h.p
  obtain ⟨b1, b2, b3, b4⟩ := h.B
  have b : But gl u (u.setCell ⟨gl, i, none⟩ (.pointer (some ⟨X.b, 0, none⟩))) := But.one _ _
  have kr : KR B u (u.setCell ⟨gl, i, none⟩ (.pointer (some ⟨X.b, 0, none⟩))) := KR.but hp b b2 (by decide) (by decide)
  have key : ∀ Y : Ln, Y.S u N i → True := fun _ _ => trivial
  have hl : ∀ (Y : Ln) (j : Nat), Y.S u N j → Y.S (u.setCell ⟨gl, i, none⟩ (.pointer (some ⟨X.b, 0, none⟩))) N j := fun Y j hY => by
    obtain ⟨cs, q⟩ := hY.blk
    exact hY.but kr b (q.ne hp (by decide))
  refine ⟨⟨b.blk h.r (h.r.ne hp (by decide)), ⟨Z, ?_⟩, b.blk h.o (h.o.ne hp (by decide)), fun j hj => ?_, fun j k hj hk hn => ?_, fun j hj => ?_, h.s.kept (b.kept hp) (by decide) (by decide) kr, b1, b2, b3, Nat.le_trans b4 b.1.size⟩, kr, b⟩
  · have hP : PIn u gl i 25 (flL (ptL L) i) (flL (fun j => ptL L (i + 1 + j)) (N - (i + 1)) ++ Z) (ptL L i) := ⟨by
      have := hp
      rw [flL_at _ hi] at this
      simpa only [List.append_assoc] using this, by rw [flL_len (m := 1) (fun _ => rfl), Nat.mul_one]⟩
    have h2 := (hP.set0 (.pointer (some ⟨X.b, 0, none⟩)) Nat.one_pos).blk
    rw [show (ptL L i).set 0 (.pointer (some ⟨X.b, 0, none⟩)) = [.pointer (some ⟨X.b, 0, none⟩)] from rfl] at h2
    rw [show flL (ptL (updL L i X)) N = flL (fun j => if j = i then [.pointer (some ⟨X.b, 0, none⟩)] else ptL L j) N from flL_congr fun j _ => by unfold ptL updL; split <;> rfl, ← flL_upd _ _ _ hi]
    simpa only [List.append_assoc] using h2
  · by_cases hji : j = i
    · subst hji; rw [updL_self]; exact hl _ _ hX
    · rw [updL_ne _ _ hji]; exact hl _ _ (h.l j hj)
  · by_cases hji : j = i
    · subst hji
      rw [updL_self, updL_ne _ _ (Ne.symm hn)]
      exact hd k hk (Ne.symm hn)
    · by_cases hki : k = i
      · subst hki
        rw [updL_self, updL_ne _ _ hji]
        exact Ne.symm (hd j hj hji)
      · rw [updL_ne _ _ hji, updL_ne _ _ hki]; exact h.d j k hj hk hn
  · by_cases hji : j = i
    · subst hji; rw [updL_self]; exact hB
    · rw [updL_ne _ _ hji]; exact h.lo j hj
/-- One is switched. -/
theorem RiS.turn (h : RiS B u gr gl cl go N F VS L o Tn S) (hi : i < N) (x : Bool) : RiS B (u.setCell ⟨go, i, none⟩ (.bool x)) gr gl cl go N F VS L (updB o i x) Tn S ∧ KR B u (u.setCell ⟨go, i, none⟩ (.bool x)) ∧ But go u (u.setCell ⟨go, i, none⟩ (.bool x)) := by
  obtain ⟨Z, hp⟩ := h.p
  obtain ⟨b1, b2, b3, b4⟩ := h.B
  have b : But go u (u.setCell ⟨go, i, none⟩ (.bool x)) := But.one _ _
  have kr : KR B u (u.setCell ⟨go, i, none⟩ (.bool x)) := KR.but h.o b b3 (by decide) (by decide)
  refine ⟨⟨b.blk h.r (h.r.ne h.o (by decide)), ⟨Z, b.blk hp (hp.ne h.o (by decide))⟩, ?_, fun j hj => ?_, h.d, h.lo, h.s.kept (b.kept h.o) (by decide) (by decide) kr, b1, b2, b3, Nat.le_trans b4 b.1.size⟩, kr, b⟩
  · have hP : PIn u go i 4 (flL (trL o) i) (flL (fun j => trL o (i + 1 + j)) (N - (i + 1))) (trL o i) := ⟨by
      have := h.o
      rwa [flL_at _ hi] at this, by rw [flL_len (m := 1) (fun _ => rfl), Nat.mul_one]⟩
    have h2 := (hP.set0 (.bool x) Nat.one_pos).blk
    rw [show (trL o i).set 0 (.bool x) = [.bool x] from rfl, flL_upd _ _ _ hi] at h2
    rw [show flL (trL (updB o i x)) N = flL (fun j => if j = i then [.bool x] else trL o j) N from flL_congr fun j _ => by unfold trL updB; split <;> rfl]
    exact h2
  · obtain ⟨cs, q⟩ := (h.l j hj).blk
    exact (h.l j hj).but kr b (q.ne h.o (by decide))
theorem flL1_cell {g : Nat} {t : TypeId} {f : Nat → List Value} {Z : List Value} {w : Value} (h : Blk u g t (flL f N ++ Z).toArray) (hf : ∀ i, (f i).length = 1) (hi : i < N) (hw : f i = [w]) : u.cell? ⟨g, i, none⟩ = some w := by
  rw [h.cell, List.getElem?_toArray, List.getElem?_append_left (by rw [flL_len hf]; omega)]
  have := flL_get hf hi 0 (by decide)
  rw [Nat.mul_one, Nat.add_zero, hw] at this
  exact this
theorem RiS.cells (h : RiS B u gr gl cl go N F VS L o Tn S) (hi : i < N) : u.cell? ⟨gr, 0, none⟩ = some (.int .i64 (N : Int)) ∧ u.cell? ⟨gr, 5, none⟩ = some (.slice (some ⟨gl, 0, none⟩) N cl) ∧ u.cell? ⟨gr, 6, none⟩ = some (.slice (some ⟨go, 0, none⟩) N N) ∧ u.cell? ⟨gl, i, none⟩ = some (.pointer (some ⟨(L i).b, 0, none⟩)) ∧ u.cell? ⟨go, i, none⟩ = some (.bool (o i)) := by
  obtain ⟨Z, hp⟩ := h.p
  refine ⟨h.r.cell 0, h.r.cell 5, h.r.cell 6, flL1_cell hp (fun _ => rfl) hi rfl, ?_⟩
  have := h.o
  rw [← List.append_nil (flL (trL o) N)] at this
  exact flL1_cell this (fun _ => rfl) hi rfl
theorem RiS.lts (h : RiS B u gr gl cl go N F VS L o Tn S) : gr < u.heap.size ∧ gl < u.heap.size ∧ go < u.heap.size := by
  obtain ⟨Z, hp⟩ := h.p
  exact ⟨h.r.lt, hp.lt, h.o.lt⟩
end
end Go.Proofs.Ytcangipaoancnaa

