/-
  What Say of a ring knows of memory. Conditions: those that are named.
-/
import Derived.Test.YtcangipaoancnaaRiQ
import Derived.Test.YtcangipaoancnaaRiA
import Derived.Test.YtcangipaoancnaaTk14
namespace Go.Proofs.Ytcangipaoancnaa
open Go.RowKit
set_option linter.unusedVariables false
set_option linter.unusedSimpArgs false

/-- A lane says a row, the links' words are Z. -/
structure Said1 (u : World) (N i : Nat) (X Y : Ln) (ow : Rw) (C D : Wo) (t : Tk) (R : Rw) : Prop where
  nw : X.nw = some t
  qe : Y.E = X.E + 1
  qt : Y.T = fun j => if j = X.E then { t with o := R } else X.T j
  qn : Y.nw = none
  qr : R.ro = plR N ow.ro
  qc : RowsW u N C fun s => (({ t with o := R } : Tk).at (distM N i 0 s) 0 s).ro
  qd : RowsW u N D fun s => (({ t with o := R } : Tk).at (distM N i 1 s) 1 s).ro
def cd4 (C D : Wo) (k : Nat) : Wo := if k < 2 then C else D
structure SStep (u : World) (N i : Nat) (o : Bool) (X Y : Ln) (ow : Rw) (Z : Nat → Wo) : Prop where
  off : o = false → Y = X ∧ Z = fun _ => woN
  yes : o = true → ∃ C D t R, Said1 u N i X Y ow C D t R ∧ Z = cd4 C D
section
variable {B gr gl cl go N Tn i : Nat} {u v w : World} {F : Fa} {VS : Value} {L : Nat → Ln} {o : Nat → Bool} {S : Nat → Nat → Nat → Wo} {X Y : Ln} {ow : Rw} {Z : Nat → Wo}
theorem Said1.kr {C D : Wo} {t : Tk} {R : Rw} (h : Said1 u N i X Y ow C D t R) (k : KR B u v) : Said1 v N i X Y ow C D t R := ⟨h.nw, h.qe, h.qt, h.qn, h.qr, h.qc.kr k, h.qd.kr k⟩
theorem SStep.kr {ob : Bool} (h : SStep u N i ob X Y ow Z) (k : KR B u v) : SStep v N i ob X Y ow Z := ⟨h.off, fun e => by
  obtain ⟨C, D, t, R, q, z⟩ := h.yes e
  exact ⟨C, D, t, R, q.kr k, z⟩⟩
theorem SStep.ws {ob : Bool} (h : SStep u N i ob X Y ow Z) (q : Nat) : SW B u (Z q) ∧ (Z q).m ≤ N := by
  cases ob with
  | false => rw [(h.off rfl).2]; exact ⟨SW.nil _ _, Nat.zero_le _⟩
  | true =>
    obtain ⟨C, D, t, R, k, e⟩ := h.yes rfl
    rw [e]
    unfold cd4
    split
    · exact ⟨k.qc.sw, Nat.le_of_eq k.qc.m⟩
    · exact ⟨k.qd.sw, Nat.le_of_eq k.qd.m⟩
theorem SStep.two {ob : Bool} (h : SStep u N i ob X Y ow Z) : Z 1 = Z 0 ∧ Z 3 = Z 2 := by
  cases ob with
  | false => rw [(h.off rfl).2]; exact ⟨rfl, rfl⟩
  | true =>
    obtain ⟨C, D, t, R, k, e⟩ := h.yes rfl
    rw [e]; exact ⟨rfl, rfl⟩
theorem say_rg (h : RiS B u gr gl cl go N F VS L o Tn S) (hi : i < N) {t : Tk} (ht : (L i).nw = some t) {ow : Rw} (ho : ∀ v, KR B u v → LiesH v v.heap.size ow.A ow.n ow.T) :
    Calls Try.prog 23 #[.pointer (some ⟨(L i).b, 0, none⟩), .agg ow.l.toArray] u fun e v => ∃ Y C D R, e = .returned (.tuple #[.agg #[Wo.v C], .agg #[Wo.v D]]) ∧ Y.S v N i ∧ Y.b = (L i).b ∧ But (L i).b u v ∧ Said1 v N i (L i) Y ow C D t R := by
  have hl := h.l i hi
  have h1 := hl.1
  rw [ht] at h1
  refine (say_is (L i).own (L i).b N i (L i).E (L i).T t ow u h1 (fun v hv => ho v (h.lane_kr hi hv))).mono ?_
  rintro e v ⟨lo, mid, R, G1, G2, L1, L2, q1, q2, q3, q4, q5, q6, q7, q8, q9, q10, q11, q12, q13, q14⟩
  obtain ⟨R1, hR1⟩ := q12.rowsW q10
  obtain ⟨R2, hR2⟩ := q13.rowsW q11
  exact ⟨⟨(L i).b, _, _, _, none⟩, ⟨some ⟨G1, 0, none⟩, N, N, R1⟩, ⟨some ⟨G2, 0, none⟩, N, N, R2⟩, R, q7, ⟨q6.ty, fun g hg => hg.2⟩, rfl, q14, ⟨ht, rfl, rfl, rfl, q5, hR1, hR2⟩⟩
theorem ownsF_kw {base size n c : Nat} {e : TypeId} {A : Option Addr} {xs : List Value} (h : u.ownsRow base e size (.slice A n c) n xs) (k : ∀ g cs, Blk u g e cs → Blk v g e cs) : v.ownsRow base e size (.slice A n c) n xs := by
  obtain ⟨h1, h2⟩ := h
  refine ⟨h1, ?_⟩
  rcases h2 with h2 | ⟨g, cap, cur, hv, hb, hh, r⟩
  · exact .inl h2
  · exact .inr ⟨g, cap, cur, hv, hb, k g cur hh, r⟩
/-- What was sent, at a later world in which those blocks stand. -/
theorem SentS.later (h : SentS B w VS N Tn S) (k : ∀ g ty cs, (ty = 160 ∨ ty = 161) → Blk w g ty cs → Blk u g ty cs) (kr : KR B w u) : SentS B u VS N Tn S := by
  obtain ⟨A, c, g, p, e, q1, q2⟩ := h.l
  exact ⟨⟨A, c, g, p, e, ownsF_kw q1 (fun g cs => k g _ cs (.inl rfl)), fun t ht => by
    obtain ⟨Zt, q⟩ := q2 t ht
    exact ⟨Zt, k _ _ _ (.inr rfl) q⟩⟩, fun t i j a b c => (h.s t i j a b c).on kr⟩
/-- All of the ring but what was sent stays. -/
theorem RiS.re {ts : List TypeId} {Tn' : Nat} {S' : Nat → Nat → Nat → Wo} (h : RiS B u gr gl cl go N F VS L o Tn S) (k : KeptBut u v ts) (kr : KR B u v) (hts : ∀ t ∈ ts, t ≠ 158 ∧ t ≠ 25 ∧ t ≠ 4 ∧ t ≠ 138) (hs : SentS B v VS N Tn' S') : RiS B v gr gl cl go N F VS L o Tn' S' := by
  obtain ⟨Z, hp⟩ := h.p
  obtain ⟨b1, b2, b3, b4⟩ := h.B
  exact ⟨k _ _ _ (fun m => (hts _ m).1 rfl) h.r, ⟨Z, k _ _ _ (fun m => (hts _ m).2.1 rfl) hp⟩, k _ _ _ (fun m => (hts _ m).2.2.1 rfl) h.o, fun i hi => (h.l i hi).kept kr k (fun m => (hts _ m).2.2.2 rfl), h.d, h.lo, hs, b1, b2, b3, Nat.le_trans b4 kr.b.size⟩
end
/-- What Say knows of memory, k lanes through. -/
structure SJ (w : World) (B gr gl cl go N : Nat) (F : Fa) (VS : Value) (Tn : Nat) (S : Nat → Nat → Nat → Wo) (o : Nat → Bool) (L : Nat → Ln) (ow : Nat → Rw) (k : Nat) (A : Option Addr) (c : Nat) (L' : Nat → Ln) (Z : Nat → Nat → Wo) (u : World) : Prop where
  r : RiS B u gr gl cl go N F VS L' o Tn S
  h : u.ownsRow w.heap.size 161 4 (.slice A k c) k (flL (fun i => wo4 (Z i)) k)
  s : ∀ j, j < k → SStep u N j (o j) (L j) (L' j) (ow j) (Z j)
  kr : KR B w u
  kt : KeptBut w u [138]
def updZ (Z : Nat → Nat → Wo) (i : Nat) (X : Nat → Wo) : Nat → Nat → Wo := fun j => if j = i then X else Z j
section
variable {w u v : World} {B gr gl cl go N Tn k c : Nat} {F : Fa} {VS : Value} {S : Nat → Nat → Nat → Wo} {o : Nat → Bool} {L L' : Nat → Ln} {ow : Nat → Rw} {A : Option Addr} {Z : Nat → Nat → Wo} {Y : Ln}
theorem SJ.up (h : SJ w B gr gl cl go N F VS Tn S o L ow k A c L' Z u) (b : Below u.heap.size u v) : SJ w B gr gl cl go N F VS Tn S o L ow k A c L' Z v := by
  have kr := KR.below h.r.B.2.2.2 b
  exact ⟨h.r.on b, ownsF_on h.h b, fun j hj => (h.s j hj).kr kr, h.kr.trans kr, fun g t cs ht hB => (h.kt g t cs ht hB).on b⟩
theorem SJ.lane (h : SJ w B gr gl cl go N F VS Tn S o L ow k A c L' Z u) (hk : k < N) (b : But (L' k).b u v) (hY : Y.S v N k) (e : Y.b = (L' k).b) : SJ w B gr gl cl go N F VS Tn S o L ow k A c (updL L' k Y) Z v := by
  obtain ⟨cs, q⟩ := (h.r.l k hk).blk
  have kr := h.r.lane_kr hk b
  exact ⟨h.r.lane hk b hY e, ownsF_kept h.h (b.kept q) (by decide), fun j hj => by rw [updL_ne _ _ (by omega)]; exact (h.s j hj).kr kr, h.kr.trans kr, fun g t cs ht hB => b.kept q g t cs ht (h.kt g t cs ht hB)⟩
/-- Something of another type, made since, is written. -/
theorem SJ.box {g : Nat} {t : TypeId} (h : SJ w B gr gl cl go N F VS Tn S o L ow k A c L' Z u) (hg : w.heap.size ≤ g) (hB : B ≤ w.heap.size) (q : ∃ cs, Blk u g t cs) (b : But g u v) (ht : t ≠ 158 ∧ t ≠ 25 ∧ t ≠ 4 ∧ t ≠ 138 ∧ t ≠ 160 ∧ t ≠ 161) (h1 : t ≠ 54) (h2 : t ≠ 102) : SJ w B gr gl cl go N F VS Tn S o L ow k A c L' Z v := by
  obtain ⟨cs, q⟩ := q
  have kr := KR.but q b (by omega : B ≤ g) h1 h2
  refine ⟨h.r.kept (b.kept q) kr (fun t' m => by simp at m; subst m; exact ht), ownsF_kept h.h (b.kept q) (by simpa using Ne.symm ht.2.2.2.2.2), fun j hj => (h.s j hj).kr kr, h.kr.trans kr, fun x t' cs' ht' hx => ?_⟩
  have := hx.lt
  exact b.blk (h.kt x t' cs' ht' hx) (by omega)
theorem SJ.sent (h : SJ w B gr gl cl go N F VS Tn S o L ow k A c L' Z u) (hs : SentS B w VS N Tn S) (b : Below w.heap.size u v) (hB : B ≤ w.heap.size) (kr : KR B u v) : SentS B v VS N Tn S := hs.later (fun g ty cs e q => by
  have h1 := h.kt g ty cs (by rcases e with rfl | rfl <;> decide) q
  have hg := q.lt
  unfold Blk at h1 ⊢
  rw [b.block g hg]; exact h1) (h.kr.trans kr)
theorem SJ.app {A2 : Option Addr} {c2 : Nat} {X : Nat → Wo} (h : SJ w B gr gl cl go N F VS Tn S o L ow k A c L' Z u) (hs : SentS B w VS N Tn S) (hB : B ≤ w.heap.size) (b : Below w.heap.size u v) (kt : KeptBut u v [161]) (ho : v.ownsRow w.heap.size 161 4 (.slice A2 (k + 1) c2) (k + 1) (flL (fun i => wo4 (Z i)) k ++ wo4 X)) (hx : SStep v N k (o k) (L k) (L' k) (ow k) X) : SJ w B gr gl cl go N F VS Tn S o L ow (k + 1) A2 c2 L' (updZ Z k X) v := by
  have kr : KR B u v := KR.kept (b.mono hB) kt (by decide) (by decide)
  have e : ∀ j, j ≠ k → updZ Z k X j = Z j := fun j hj => if_neg hj
  have e2 : updZ Z k X k = X := if_pos rfl
  refine ⟨h.r.re kt kr (fun t m => by simp at m; subst m; decide) (h.sent hs b hB kr), ?_, fun j hj => ?_, h.kr.trans kr, fun g t cs ht hB => ?_⟩
  · rw [flL_succ, show flL (fun i => wo4 (updZ Z k X i)) k = flL (fun i => wo4 (Z i)) k from flL_congr fun j hj => by rw [e j (by omega)], e2]
    exact ho
  · by_cases hj2 : j = k
    · subst hj2; rw [e2]; exact hx
    · rw [e j hj2]; exact (h.s j (by omega)).kr kr
  · have h1 := h.kt g t cs ht hB
    have hg := hB.lt
    unfold Blk at h1 ⊢
    rw [b.block g hg]; exact h1
end
set_option maxRecDepth 100000 in
theorem infoW4 : (Try.prog.info? 161).map (fun i => (i.zero, i.size, i.bytes)) = some (some (.agg (wo4 (fun _ => woN)).toArray), 4, 96) := by kernel_rfl
set_option maxRecDepth 100000 in
theorem size_w4 : (Try.prog.info? 161).map (·.size) = some 4 := by kernel_rfl
set_option maxRecDepth 100000 in
theorem built_w4 (a b c d : Value) : (Try.prog).built 161 [(0, .agg #[a]), (1, .agg #[b]), (2, .agg #[c]), (3, .agg #[d])] = some #[a, b, c, d] := by kernel_rfl
theorem wo4_one (f : Nat → Wo) : ∀ v ∈ wo4 f, v.oneCell' = true := by
  intro v hv
  simp only [wo4, List.mem_cons, List.not_mem_nil, or_false] at hv
  rcases hv with rfl | rfl | rfl | rfl <;> rfl
end Go.Proofs.Ytcangipaoancnaa

