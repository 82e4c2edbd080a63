/-
  A lane's copies: of each source those of the oldest tick, over the ring's range. Conditions: the lane's reading.
-/
import Derived.Test.YtcangipaoancnaaTkP
import Derived.Maps.AppendAt
import Derived.RangeFuncFrom
import Derived.RangeFuncOne
namespace Go.Proofs.Ytcangipaoancnaa
open Go.RowKit
set_option linter.unusedVariables false
set_option linter.unusedSimpArgs false
attribute [local go_sem] Oper.semAt_some

theorem Blk.newAtT {w : World} {t : TypeId} {cs : Array Value} {g : Nat} (hg : g = w.heap.size) : Blk (w.alloc (.cells cs t)) g t cs := by subst hg; exact Blk.new _ _ _
/-- Of a source: what the k-th tick gives in a direction; what those of a list give. -/
def cpN (N me k d s : Nat) : Nat := if distM N me d s = k then copN k else 0
def cpL (N me : Nat) (t : Nat → Tk) (k d s : Nat) : List Value := if distM N me d s = k then copL (t k) k d s else []
def cpsN (N me : Nat) (ks : List Nat) (s : Nat) : Nat := (ks.map fun k => cpN N me k 0 s + cpN N me k 1 s).sum
def cpsL (N me : Nat) (t : Nat → Tk) (ks : List Nat) (s : Nat) : List Value := ks.flatMap fun k => cpL N me t k 0 s ++ cpL N me t k 1 s
theorem cpsN_snoc (N me : Nat) (ks : List Nat) (k s : Nat) : cpsN N me (ks ++ [k]) s = cpsN N me ks s + cpN N me k 0 s + cpN N me k 1 s := by simp [cpsN, Nat.add_assoc]
theorem cpsL_snoc (N me : Nat) (t : Nat → Tk) (ks : List Nat) (k s : Nat) : cpsL N me t (ks ++ [k]) s = cpsL N me t ks s ++ cpL N me t k 0 s ++ cpL N me t k 1 s := by simp [cpsL]
theorem Cps.congr {w : World} {base G N : Nat} {V : Nat → Value} {m m' : Nat → Nat} {X X' : Nat → List Value} (h : Cps w base G N V m X) (hm : ∀ s, s < N → m s = m' s) (hX : ∀ s, s < N → X s = X' s) : Cps w base G N V m' X' :=
  ⟨h.g, fun s hs => by have := h.o s hs; rw [hm s hs, hX s hs] at this; exact this, h.d⟩
/-- The lane's block: its numbers, its ticks. -/
structure LaneIn (w : World) (b N me o : Nat) (t : Nat → Tk) : Prop where
  hn : w.cell? ⟨b, 0, none⟩ = some (.int .i64 (N : Int))
  hm : w.cell? ⟨b, 1, none⟩ = some (.int .i64 (me : Int))
  ho : w.cell? ⟨b, 1056, none⟩ = some (.int .i64 (o : Int))
  ht : ∀ k, k < N → TkIn w w.heap.size b (64 + (o + k) % N * 62) N (t k)
set_option maxRecDepth 100000 in
theorem infoLst : (Try.prog.info? 32).map (fun i => (i.zero, i.size, i.bytes)) = some (some (.slice none 0 0), 1, 24) := by kernel_rfl
set_option maxRecDepth 100000 in
theorem mk_lists (N : Nat) (hN : N ≤ 16) (u : World) : (Instr.makeSlice 78 (.int .i64 (N : Int)) (.int .i64 (N : Int))).run Try.prog u = .ok (.slice (some ⟨u.heap.size, 0, none⟩) N N) (u.alloc (.cells ((List.range N).map fun _ => Value.slice none 0 0).toArray 32)) := by
  obtain ⟨i0, hi0, hz0, hz1, hz2⟩ := info_parts infoLst
  have h := run_make (P := Try.prog) u 78 32 i0 (.slice none 0 0) Try.underlying78 hi0 hz0 .i64 .i64 (N : Int) (N : Int) (by omega) (by omega) (by rw [hz2]; omega) (by omega)
  rw [hz1, Int.toNat_natCast, show (Value.slice none 0 0).cells = [Value.slice none 0 0].toArray from rfl, Nat.mul_one] at h
  have e : madeCells [Value.slice none 0 0].toArray N = ((List.range N).map fun _ => Value.slice none 0 0).toArray := by
    have := made_flat [Value.slice none 0 0] (by simp) N
    simp only [List.length_cons, List.length_nil, Nat.zero_add, Nat.mul_one] at this
    rw [this]
    exact congrArg List.toArray (by induction List.range N with
      | nil => rfl
      | cons a l ih => rw [List.flatMap_cons, List.map_cons, ih]; rfl)
  rw [e] at h
  exact h
/-- Within a round of the tick x: what the lists hold, with the sources below j through, and d directions of j. -/
def mJ (N me : Nat) (pre : List Nat) (x j d s : Nat) : Nat := cpsN N me pre s + (if s < j ∨ (s = j ∧ 1 ≤ d) then cpN N me x 0 s else 0) + (if s < j ∨ (s = j ∧ 2 ≤ d) then cpN N me x 1 s else 0)
def XJ (N me : Nat) (t : Nat → Tk) (pre : List Nat) (x j d s : Nat) : List Value := cpsL N me t pre s ++ (if s < j ∨ (s = j ∧ 1 ≤ d) then cpL N me t x 0 s else []) ++ (if s < j ∨ (s = j ∧ 2 ≤ d) then cpL N me t x 1 s else [])
structure BI (w : World) (b N me : Nat) (t : Nat → Tk) (pre : List Nat) (x : Nat) (W : World) (j d : Nat) (u : World) : Prop where
  hx : Blk u w.heap.size 25 #[.pointer (some ⟨b, 0, none⟩)]
  hh : Blk u (w.heap.size + 2) 78 #[.slice (some ⟨w.heap.size + 1, 0, none⟩) N N]
  hc : ∃ V, Cps u (w.heap.size + 4) (w.heap.size + 1) N V (mJ N me pre x j d) (XJ N me t pre x j d)
  hb : Below w.heap.size w u
  hk : KeepsOthers W u
  hkb : KeepB [b, w.heap.size + 3] W u
  hz : w.heap.size + 3 < u.heap.size
section
variable {w : World} {b N me : Nat} {t : Nat → Tk} {pre : List Nat} {x : Nat} {W : World} {j d : Nat} {u v : World}
theorem keeps_of_below (h : Below u.heap.size u v) : KeepsOthers u v := ⟨h.size, fun k o hk _ => (h.block k (Array.getElem?_eq_some_iff.1 hk).1).trans hk⟩
theorem BI.on (h : BI w b N me t pre x W j d u) (hb : Below u.heap.size u v) (hbl : b < w.heap.size) : BI w b N me t pre x W j d v :=
  ⟨h.hx.on hb, h.hh.on hb, h.hc.imp fun V q => q.on hb, below_then h.hb hb, h.hk.trans (keeps_of_below hb), h.hkb.trans fun g hg => by
    have h2 := h.hb.size
    have h3 := h.hz
    simp only [List.mem_cons, List.not_mem_nil, or_false] at hg
    rcases hg with rfl | rfl
    · exact hb.block _ (by omega)
    · exact hb.block _ h3, by have := h.hz; have := hb.size; omega⟩
/-- A source is through. -/
theorem BI.next (h : BI w b N me t pre x W j 2 u) : BI w b N me t pre x W (j + 1) 0 u :=
  ⟨h.hx, h.hh, h.hc.imp fun V q => q.congr (fun s _ => by
    unfold mJ
    rcases Nat.lt_trichotomy s j with h | h | h
    · simp [h, show s < j + 1 by omega]
    · subst h; simp
    · simp [show ¬ s < j by omega, show ¬ s = j by omega, show ¬ s < j + 1 by omega]) (fun s _ => by
    unfold XJ
    rcases Nat.lt_trichotomy s j with h | h | h
    · simp [h, show s < j + 1 by omega]
    · subst h; simp
    · simp [show ¬ s < j by omega, show ¬ s = j by omega, show ¬ s < j + 1 by omega]), h.hb, h.hk, h.hkb, h.hz⟩
/-- A direction gives nothing at this tick. -/
theorem BI.none (h : BI w b N me t pre x W j d u) (hd : d < 2) (hn : distM N me d j ≠ x) : BI w b N me t pre x W j (d + 1) u :=
  ⟨h.hx, h.hh, h.hc.imp fun V q => q.congr (fun s _ => by
    unfold mJ
    by_cases e : s = j
    · subst e
      rcases (show d = 0 ∨ d = 1 by omega) with rfl | rfl
      · have h0 : ¬ distM N me 0 s = x := by simpa using hn
        simp [cpN, h0]
      · have h0 : ¬ distM N me 1 s = x := by simpa using hn
        simp [cpN, h0]
    · simp [e]) (fun s _ => by
    unfold XJ
    by_cases e : s = j
    · subst e
      rcases (show d = 0 ∨ d = 1 by omega) with rfl | rfl
      · have h0 : ¬ distM N me 0 s = x := by simpa using hn
        simp [cpL, h0]
      · have h0 : ¬ distM N me 1 s = x := by simpa using hn
        simp [cpL, h0]
    · simp [e]), h.hb, h.hk, h.hkb, h.hz⟩
end
theorem cpN_le (N me k d s : Nat) : cpN N me k d s ≤ 2 := by unfold cpN copN; split <;> (try split) <;> omega
theorem cpsN_le (N me : Nat) (ks : List Nat) (s : Nat) : cpsN N me ks s ≤ 4 * ks.length := by
  induction ks with
  | nil => simp [cpsN]
  | cons k l ih =>
    have h0 := cpN_le N me k 0 s
    have h1 := cpN_le N me k 1 s
    simp only [cpsN, List.map_cons, List.sum_cons, List.length_cons] at ih ⊢
    omega
theorem mJ_le (N me : Nat) (pre : List Nat) (x j d s : Nat) : mJ N me pre x j d s ≤ 4 * pre.length + 4 := by
  have h := cpsN_le N me pre s
  have h0 := cpN_le N me x 0 s
  have h1 := cpN_le N me x 1 s
  unfold mJ
  split <;> split <;> omega
set_option maxRecDepth 100000 in
theorem elemLst : Try.prog.underlying 78 = some (.slice (Try.prog.elem 78)) := by kernel_rfl
set_option maxRecDepth 100000 in
theorem idxLst (G : Nat) {N j : Nat} (hj : j < N) (w : World) : (Instr.indexAt 78 (.slice (some ⟨G, 0, none⟩) N N) (.int .i64 (j : Int))).run Try.prog w = .ok (.pointer (some ⟨G, j, none⟩)) w := by
  rw [run_indexAt_slice (h := elemLst), if_pos (by omega), show (sizeOf (Try.prog.elem 78)).run Try.prog w = .ok 1 w by kernel_rfl]
  simp [Result.andThen, Addr.add_lit]
theorem owns_slice {u : World} {base n size : Nat} {e : TypeId} {v : Value} {xs : List Value} (h : u.ownsRow base e size v n xs) : ∃ A k c, v = .slice A k c := by
  rcases h.2 with ⟨h0, _⟩ | ⟨g, cap, cur, h0, _⟩
  · exact ⟨_, _, _, h0⟩
  · exact ⟨_, _, _, h0⟩
/-- All but the lists. -/
structure BIr (w : World) (b N : Nat) (W u : World) : Prop where
  hx : Blk u w.heap.size 25 #[.pointer (some ⟨b, 0, none⟩)]
  hh : Blk u (w.heap.size + 2) 78 #[.slice (some ⟨w.heap.size + 1, 0, none⟩) N N]
  hb : Below w.heap.size w u
  hk : KeepsOthers W u
  hkb : KeepB [b, w.heap.size + 3] W u
  hz : w.heap.size + 3 < u.heap.size
theorem TkIn.on {w u : World} {b off N : Nat} {t : Tk} (h : TkIn w w.heap.size b off N t) (hb : Below w.heap.size w u) : TkIn u u.heap.size b off N t :=
  ⟨fun d hd => ⟨(hb.cell (p := ⟨b, _, none⟩) h.lt).trans (h.n d hd).1, (hb.cell (p := ⟨b, _, none⟩) h.lt).trans (h.n d hd).2⟩, fun j v hv => (hb.cell (p := ⟨b, _, none⟩) h.lt).trans (h.o j v hv), fun d hd => (h.nl d hd).on hb, fun d hd => (h.fl d hd).on hb, Nat.lt_of_lt_of_le h.lt hb.size⟩
def Q0 (w : World) (b N : Nat) (W : World) (V : Nat → Value) (m : Nat → Nat) (X : Nat → List Value) (u : World) : Prop := BIr w b N W u ∧ Cps u (w.heap.size + 4) (w.heap.size + 1) N V m X
def Q1 (w : World) (b N : Nat) (W : World) (V : Nat → Value) (m : Nat → Nat) (X : Nat → List Value) (k : Nat) (L : List Value) (v : Value) (u : World) : Prop := Q0 w b N W V m X u ∧ ∃ A c, v = .slice A k c ∧ u.ownsRow w.heap.size 54 57 v k L
def Q2 (w : World) (b N : Nat) (W : World) (V : Nat → Value) (m : Nat → Nat) (X : Nat → List Value) (j k : Nat) (L : List Value) (v : Value) (u : World) : Prop :=
  BIr w b N W u ∧ Blk u (w.heap.size + 1) 32 ((List.range N).map V).toArray ∧ ∃ u1, Cps u1 (w.heap.size + 4) (w.heap.size + 1) N V m X ∧ u1.grownBy u (V j).ownBlock ∧ u.ownsRow (w.heap.size + 4) 54 57 v (m j + k) (X j ++ L) ∧ (v.ownBlock = (V j).ownBlock ∨ v.ownBlock = some u1.heap.size)
section
variable {w : World} {b N : Nat} {W u v : World} {V : Nat → Value} {m : Nat → Nat} {X : Nat → List Value}
theorem BIr.on (h : BIr w b N W u) (hb : Below u.heap.size u v) (hbl : b < w.heap.size) : BIr w b N W v :=
  ⟨h.hx.on hb, h.hh.on hb, below_then h.hb hb, h.hk.trans (keeps_of_below hb), h.hkb.trans fun g hg => by
    have h2 := h.hb.size
    have h3 := h.hz
    simp only [List.mem_cons, List.not_mem_nil, or_false] at hg
    rcases hg with rfl | rfl
    · exact hb.block _ (by omega)
    · exact hb.block _ h3, by have := h.hz; have := hb.size; omega⟩
theorem BIr.grown (h : BIr w b N W u) (hC : Cps u (w.heap.size + 4) (w.heap.size + 1) N V m X) {j : Nat} (hj : j < N) (hg : u.grownBy v (V j).ownBlock) (hbl : b < w.heap.size) : BIr w b N W v := by
  have hlt : ∀ q, (V j).ownBlock = some q → w.heap.size + 4 ≤ q ∧ q < u.heap.size := (hC.o j hj).lt
  have hcell : ∀ q o, (V j).ownBlock = some q → u.heap[q]? = some o → o.isCells = true := fun q o hq ho => by
    rcases (hC.o j hj).2 with ⟨hv, _⟩ | ⟨g', cap, cur, hv, _, hh, _⟩
    · rw [hv] at hq; cases hq
    · rw [hv] at hq
      obtain rfl : g' = q := by injection hq
      rw [hh] at ho
      cases ho
      rfl
  have hblk : ∀ k, k < w.heap.size + 4 → k < u.heap.size → v.heap[k]? = u.heap[k]? := fun k h1 h2 => hg.block k h2 fun e => by have := (hlt k e.symm).1; omega
  have hz := h.hz
  have hs := h.hb.size
  refine ⟨(hblk _ (by omega) (by omega)).trans h.hx, (hblk _ (by omega) (by omega)).trans h.hh, h.hb.trans ?_, h.hk.trans ⟨hg.size, fun k o hk ho => ?_⟩, h.hkb.trans fun g hgm => ?_, Nat.lt_of_lt_of_le hz hg.size⟩
  · exact (Below.refl w.heap.size u).grown hg hs fun q hq => by have := (hlt q hq).1; omega
  · refine (hg.block k (Array.getElem?_eq_some_iff.1 hk).1 fun e => ?_).trans hk
    have := hcell k o e.symm hk
    rw [ho] at this
    cases this
  · simp only [List.mem_cons, List.not_mem_nil, or_false] at hgm
    rcases hgm with rfl | rfl
    · exact hblk _ (by omega) (by omega)
    · exact hblk _ (by omega) hz
theorem BIr.setG (h : BIr w b N W u) (hbl : b < w.heap.size) (j : Nat) (v' : Value) : BIr w b N W (u.setCell ⟨w.heap.size + 1, j, none⟩ v') := by
  have ho : ∀ k, k ≠ w.heap.size + 1 → (u.setCell ⟨w.heap.size + 1, j, none⟩ v').heap[k]? = u.heap[k]? := fun k hk => Below.heap_setCell u ⟨w.heap.size + 1, j, none⟩ v' k hk
  refine ⟨(ho _ (by omega)).trans h.hx, (ho _ (by omega)).trans h.hh, h.hb.setCell (p := ⟨w.heap.size + 1, j, none⟩) (by show w.heap.size ≤ w.heap.size + 1; omega) v', h.hk.trans (KeepsOthers.setCell _ _ _), h.hkb.trans fun g hg => ?_, by have := h.hz; simpa using this⟩
  simp only [List.mem_cons, List.not_mem_nil, or_false] at hg
  rcases hg with rfl | rfl
  · exact ho _ (by omega)
  · exact ho _ (by omega)
end
/-- The tick x stands at this source's distance in this direction: its list has grown by the copies. -/
theorem bi_grow {w : World} {b N me : Nat} {t : Nat → Tk} {pre : List Nat} {x : Nat} {W : World} {j d : Nat} {u : World} {V : Nat → Value} {v : Value} (hbl : b < w.heap.size) (hj : j < N) (hd : d < 2) (hr : distM N me d j = x) (h : Q2 w b N W V (mJ N me pre x j d) (XJ N me t pre x j d) j (copN x) (copL (t x) x d j) v u) :
    BI w b N me t pre x W j (d + 1) (u.setCell ⟨w.heap.size + 1, j, none⟩ v) := by
  obtain ⟨hB, _, u1, hC, hg, ho, hv⟩ := h
  have hB' := hB.setG hbl j v
  refine ⟨hB'.hx, hB'.hh, ⟨_, (hC.grow hj hg ho hv).congr (fun s _ => ?_) (fun s _ => ?_)⟩, hB'.hb, hB'.hk, hB'.hkb, hB'.hz⟩
  · unfold mJ
    by_cases e : s = j
    · subst e
      rcases (show d = 0 ∨ d = 1 by omega) with rfl | rfl
      · have hr' : distM N me 0 s = x := by simpa using hr
        simp [cpN, hr']
      · have hr' : distM N me 1 s = x := by simpa using hr
        simp [cpN, hr']
    · simp [e]
  · unfold XJ
    by_cases e : s = j
    · subst e
      rcases (show d = 0 ∨ d = 1 by omega) with rfl | rfl
      · have hr' : distM N me 0 s = x := by simpa using hr
        simp [cpL, hr']
      · have hr' : distM N me 1 s = x := by simpa using hr
        simp [cpL, hr']
    · simp [e]
theorem copL_len (t : Tk) (r d s : Nat) : (copL t r d s).length = copN r * 57 := by
  unfold copL copN
  split <;> simp [Rw.l_len]
theorem copL_one (t : Tk) (r d s : Nat) : ∀ q ∈ copL t r d s, q.oneCell' = true := by
  intro q hq
  unfold copL at hq
  rw [List.mem_append] at hq
  rcases hq with h | h
  · exact roL_one _ _ _ _ _ q h
  · split at h
    · exact roL_one _ _ _ _ _ q h
    · cases h
/-- One list of rows more onto another one. -/
theorem rows_grow {u : World} {base b1 n k : Nat} {V v : Value} {xs L : List Value} (hown : u.ownsRow base 54 57 V n xs) (hv : u.ownsRow b1 54 57 v k L) (hk : 1 ≤ k) (h1 : ∀ q ∈ L, q.oneCell' = true) (hn : n + k ≤ 65536) (hbase : base ≤ u.heap.size) :
    ∃ v' u', (Builtin.append_ #[32, 32] 32 #[V, v]).run Try.prog u = .ok v' u' ∧ u'.ownsRow base 54 57 v' (n + k) (xs ++ L) ∧ u.grownBy u' V.ownBlock ∧ (v'.ownBlock = V.ownBlock ∨ v'.ownBlock = some u.heap.size) := by
  obtain ⟨i0, hi0, hz0, hz1, hz2⟩ := info_parts infoRow
  rcases hv.2 with ⟨hv0, hL⟩ | ⟨g, cap, cur, hv0, _, hh, _⟩
  · exfalso
    have := hv.1
    have hl : L.length = k * 57 := this
    rw [hL] at hl
    simp at hl
    omega
  · have hc := hv.cells (g := g) (by rw [hv0]; rfl)
    obtain ⟨v', u', q1, q2, q3, _, q5⟩ := run_append_own_at (P := Try.prog) u base 32 32 54 i0 _ 57 160 elemRows hi0 hz0 hz1 hz2 (by simp [Value.cells, roL_len]) (by decide) V n xs hown ⟨g, 0, none⟩ k cap L hv.1 hc h1 (by unfold maxLen; omega) (by omega) hbase
    exact ⟨v', u', by rw [hv0]; exact q1, q2, q3, q5⟩
theorem lst_cell {N : Nat} (V : Nat → Value) {j : Nat} (hj : j < N) : ((List.range N).map V).toArray[j]? = some (V j) := by simp [hj]
theorem distM_lt {N me : Nat} (hN : 4 ≤ N) (hm : me < N) (d : Nat) (j : Nat) : distM N me d j < N := by unfold distM; split <;> exact Nat.mod_lt _ (by omega)
set_option maxRecDepth 100000 in
set_option maxHeartbeats 4000000 in
theorem copies_is (b N me o : Nat) (t : Nat → Tk) (hN : 4 ≤ N ∧ N ≤ 16) (hm : me < N) (ho : o < N) (w : World) (hL : LaneIn w b N me o t) :
    Calls Try.prog 77 #[.pointer (some ⟨b, 0, none⟩)] w fun e w' => ∃ G V, e = .returned (.slice (some ⟨G, 0, none⟩) N N) ∧ Cps w' w.heap.size G N V (cpsN N me (List.range N)) (cpsL N me t (List.range N)) ∧ Below w.heap.size w w' := by
  have HL := Lib.hid hL
  refine (callsIn_wide (n := 5)).1 ?_
  have c0 := hL.hn
  have lb := cell_ltT c0
  clear hL
  refine callsIn_of_wp_marks Try.func77 rfl trivial ?_ rfl
  simp only [Try.ntmps77, List.size_toArray, List.length_cons, List.length_nil, Nat.reduceAdd, Nat.reduceSub, Array.replicate_succ, Array.replicate_zero, List.push_toArray, List.append_toArray, List.nil_append, List.cons_append]
  have hmk := fun u => mk_lists N (by omega) u
  gi_wp2_with (refine ⟨trivial, ?_⟩; gi_at_call 97; refine (callsIn_wide.2 (round_is b _)).mono ?_; rintro e w2 ⟨rfl, rfl⟩)
  obtain ⟨W0, hW0⟩ : ∃ W0, W0 = (((w.alloc (.cells #[.pointer (some ⟨b, 0, none⟩)] 25)).alloc (.cells ((List.range N).map fun _ => Value.slice none 0 0).toArray 32)).alloc (.cells #[.slice (some ⟨w.heap.size + 1, 0, none⟩) N N] 78)).alloc (.cells #[.pointer (some ⟨b, 0, none⟩)] 25) := ⟨_, rfl⟩
  have hB0 : Below w.heap.size w W0 := by rw [hW0]; exact below_al (below_al (below_al (below_al (Below.refl _ w) _) _) _) _
  have hz : W0.heap.size = w.heap.size + 4 := by rw [hW0]; simp
  have hx1 : Blk W0 w.heap.size 25 #[.pointer (some ⟨b, 0, none⟩)] := by rw [hW0]; exact (((Blk.new w _ _).alloc _).alloc _).alloc _
  have hx2 : Blk W0 (w.heap.size + 1) 32 ((List.range N).map fun _ => Value.slice none 0 0).toArray := by rw [hW0]; exact ((Blk.newAtT (by simp)).alloc _).alloc _
  have hx3 : Blk W0 (w.heap.size + 2) 78 #[.slice (some ⟨w.heap.size + 1, 0, none⟩) N N] := by rw [hW0]; exact (Blk.newAtT (by simp)).alloc _
  have hx4 : Blk W0 (w.heap.size + 3) 25 #[.pointer (some ⟨b, 0, none⟩)] := by rw [hW0]; exact Blk.newAtT (by simp)
  rw [← hW0]
  clear hW0 hmk
  refine wpIn_rangeFunc_ownF rfl (by omega) (gf := 115) (lb := #[.pointer (some ⟨w.heap.size + 3, 0, none⟩)]) rfl trivial (enters_of Try.func115 (by kernel_rfl) rfl)
    (round1_stops Fence.wide (5 - 1) trivial rfl (by omega) (w.heap.size + 3) b N o hN ho W0 (hx4.cell 0) (belowW hB0 HL.out.hn) (belowW hB0 HL.out.ho)) KeepB.trans ?kb (Below.refl _ _) (fun _ => rfl)
    (fun pre W => (Blk W w.heap.size 25 #[.pointer (some ⟨b, 0, none⟩)] ∧ Blk W (w.heap.size + 2) 78 #[.slice (some ⟨w.heap.size + 1, 0, none⟩) N N] ∧ ∃ V, Cps W (w.heap.size + 4) (w.heap.size + 1) N V (cpsN N me pre) (cpsL N me t pre)) ∧ (w.heap.size + 4 ≤ W.heap.size ∧ Below w.heap.size w W))
    (fun _ _ _ => False)
    (OwnFrom.and (Own.from (fun s A B row hs hg hr => ⟨hs.1.grown hg hr, hs.2.1.grown hg hr, hs.2.2.imp fun V h => h.grown hg hr⟩) _) (OwnFrom.and (Own.from (fun s A B row hs hg hr => Nat.le_trans hs hg.size) _) (ownFrom_below (Nat.le_refl _) (by omega))))
    (fun _ _ _ _ _ hs _ _ => hs)
    ?start
    (fun x : Nat => ({ tmps := #[.pointer (some ⟨b, 0, none⟩), .pointer (some ⟨w.heap.size, 0, none⟩), .slice none 0 0, .pointer (some ⟨w.heap.size + 1 + 1, 0, none⟩), .int .i64 (x : Int), .pointer (some ⟨b, 64 + (o + x) % N * 62, none⟩), undef, undef, .pointer (some ⟨b, 0, none⟩), .pointer (some ⟨b, 0, none⟩), .pointer (some ⟨b, 0, none⟩), .int .i64 (N : Int), .slice (some ⟨w.heap.size + 1, 0, none⟩) N N, .pointer (some ⟨b, 0, none⟩), .func (.func 115) #[] #[.pointer (some ⟨w.heap.size + 1 + 1 + 1, 0, none⟩)], .int .i64 (x : Int), .pointer (some ⟨b, 64 + (o + x) % N * 62, none⟩), undef, undef, undef, undef, undef, undef, undef, undef, undef, undef, undef, undef, undef, undef, undef, undef, undef, undef, undef, undef, undef, undef, undef, undef, undef, undef, undef, undef, undef, undef], defers := [] } : Act)) ?assign ?body ?done ?stop
  case kb =>
    intro W l ob ob' hl h _ _ g hg
    refine World.putObj_heap_other ?_
    simp only [List.mem_cons, List.not_mem_nil, or_false] at hg
    rcases hg with rfl | rfl <;> omega
  case start =>
    exact ⟨⟨hx1, hx3, fun _ => .slice none 0 0, hx2, fun s _ => World.ownsRow_nil _ _ _ _, fun s s' q _ _ h _ => by cases h⟩, by omega, hB0⟩
  case assign =>
    intro l x W K hK
    simp only [ringV]
    gi_wp2
    exact hK
  case done =>
    rintro D ys W hD rfl ⟨⟨h1, h2, V, h3⟩, _, hB⟩ hK
    have c3 := h2.cell 0
    have l3 := h2.lt
    gi_wp2
    refine ⟨by simp, .inl ⟨_, _, rfl, run_takeDeferred hK, ?_⟩⟩
    exact ⟨_, results_tmp rfl _ _ _, w.heap.size + 1, V, rfl, (h3.base (by omega)).grown (grownBy_putObj' W D (.deferred none)) (fun r e => by cases e; exact ⟨_, hK, rfl⟩), hB.trans (belowK_b (w := w) (Nat.le_refl _) W D _ _ (by omega) hK rfl rfl)⟩
  case stop =>
    rintro D c pre W _ _ h _
    exact h.elim
  case body =>
    rintro l pre x W ⟨⟨h1, h2, V, h3⟩, hz4, hB⟩ hlen
    have HI : Hid (BI w b N me t pre x W 0 0 W) := Lib.hid ⟨h1, h2, ⟨V, h3.congr (fun s _ => by simp [mJ]) (fun s _ => by simp [XJ])⟩, hB, KeepsOthers.refl _, KeepB.refl _ _, by omega⟩
    have c3 := h2.cell 0
    have l3 := h2.lt
    clear h1 h2 h3 hz4
    gi_upto_region 6 with fail
    clear c3 l3
    gi_loopw [19] (fun s wr => ∃ j : Nat, j ≤ N ∧ s = .int .i64 (j : Int) ∧ Hid (BI w b N me t pre x W j 0 wr)) (fun s _ => N - (intOf s).toNat)
    case atStart => exact ⟨0, Nat.zero_le _, rfl, HI⟩
    case round =>
      clear HI
      obtain ⟨j, hj, rfl, HJ⟩ := hrel
      by_cases hlt : j < N
      · have hkd : decide ((j : Int) < (N : Int)) = true := decide_eq_true (by omega)
        have hw1 : IntKind.i64.wrap ((j : Int) + 1) = ((j + 1 : Nat) : Int) := by rw [IntWalk.i64_in _ (by omega)]; omega
        gi_upto_region 9 with fail
        gi_loopw [22] (fun s wr => ∃ d : Nat, d ≤ 2 ∧ s = .int .u8 (d : Int) ∧ Hid (BI w b N me t pre x W j d wr)) (fun s _ => 2 - (intOf s).toNat)
        case atStart => exact ⟨0, Nat.zero_le _, rfl, HJ⟩
        case round =>
          clear HJ
          obtain ⟨d, hd, rfl, HD⟩ := hrel
          by_cases hd2 : d < 2
          · have hdd : decide ((d : Int) < 2) = true := decide_eq_true (by omega)
            have hwd : IntKind.u8.wrap ((d : Int) + 1) = ((d + 1 : Nat) : Int) := by simp [IntKind.wrap, IntKind.bits, IntKind.signed]; omega
            have k1 := HD.out.hx.cell 0
            have k1l := HD.out.hx.lt
            obtain ⟨r, hr⟩ : ∃ r, distM N me d j = r := ⟨_, rfl⟩
            have HDI : Hid (∀ u, Below w.heap.size w u → Calls Try.prog 98 #[.pointer (some ⟨b, 0, none⟩), .int .u8 (d : Int), .int .i64 (j : Int)] u fun e w' => e = .returned (.int .i64 (r : Int)) ∧ Below u.heap.size u w') := Lib.hid (fun u hu => distance_is b N me d j r hN hm hlt hr u (belowW hu HL.out.hn) (belowW hu HL.out.hm))
            have HR := Lib.hid hr
            clear hr
            by_cases hx : r = x
            · subst hx
              have hxe : ((r : Int) == (r : Int)) = true := by simp
              have hrN : r < N := by rw [← HR.out]; exact distM_lt hN.1 hm d j
              have HTK : Hid (∀ u, Below w.heap.size w u → Calls Try.prog 99 #[.pointer (some ⟨b, 0, none⟩), .pointer (some ⟨b, 64 + (o + r) % N * 62, none⟩), .int .u8 (d : Int), .int .i64 (j : Int)] u fun e w' => ∃ A c, e = .returned (.slice A (copN r) c) ∧ w'.ownsRow u.heap.size 54 57 (.slice A (copN r) c) (copN r) (copL (t r) r d j) ∧ Below u.heap.size u w') := Lib.hid (fun u hu => copiesAt_is b (64 + (o + r) % N * 62) N me (t r) d j r hN hm hd2 hlt HR.out u (belowW hu HL.out.hn) (belowW hu HL.out.hm) ((HL.out.ht r hrN).on hu))
              gi_upto_region 12 with (refine ⟨trivial, ?_⟩; gi_at_call 98; refine (CallsIn.inRound l (callsIn_wide.2 (HDI.out _ HD.out.hb))).mono ?_; rintro e u2 ⟨rfl, q1⟩; have HD2 := Lib.hid (HD.out.on q1 lb); clear q1)
              clear k1 k1l HD HDI hxe
              obtain ⟨V, hV⟩ := HD2.out.hc
              have HQ0 : Hid (Q0 w b N W V (mJ N me pre r j d) (XJ N me t pre r j d) u2.drew) := Lib.hid ⟨BIr.on ⟨HD2.out.hx, HD2.out.hh, HD2.out.hb, HD2.out.hk, HD2.out.hkb, HD2.out.hz⟩ (Below.refl _ u2).drew lb, hV.on (Below.refl _ u2).drew⟩
              have HT : Hid (∀ u, BIr w b N W u → u.cell? ⟨w.heap.size, 0, none⟩ = some (.pointer (some ⟨b, 0, none⟩)) ∧ u.cell? ⟨w.heap.size + 2, 0, none⟩ = some (.slice (some ⟨w.heap.size + 1, 0, none⟩) N N) ∧ w.heap.size + 2 < u.heap.size) := Lib.hid (fun u hu => ⟨hu.hx.cell 0, hu.hh.cell 0, by have := hu.hz; omega⟩)
              have HTA : Hid (∀ f y u, PhM (Q0 w b N W V (mJ N me pre r j d) (XJ N me t pre r j d)) (Q1 w b N W V (mJ N me pre r j d) (XJ N me t pre r j d) (copN r) (copL (t r) r d j)) (Q2 w b N W V (mJ N me pre r j d) (XJ N me t pre r j d) j (copN r) (copL (t r) r d j)) (fun u => BI w b N me t pre r W j (d + 1) u) f y u → BIr w b N W u) := Lib.hid (fun f y u h => ph_any (fun _ q => q.1) (fun _ _ q => q.1.1) (fun _ _ q => q.1) (fun _ q => ⟨q.hx, q.hh, q.hb, q.hk, q.hkb, q.hz⟩) h)
              have hml := mJ_le N me pre r j d j
              have hcl : 1 ≤ copN r ∧ copN r ≤ 2 := by unfold copN; split <;> omega
              clear hV HD2
              refine Reg.wpIn_marksX ?fr (fun t => decide (31 ≤ t) && decide (t ≤ 43)) (fun x => ?hf) [5, 10, 11, 13] [41, 42] (PhM (Q0 w b N W V (mJ N me pre r j d) (XJ N me t pre r j d)) (Q1 w b N W V (mJ N me pre r j d) (XJ N me t pre r j d) (copN r) (copL (t r) r d j)) (Q2 w b N W V (mJ N me pre r j d) (XJ N me t pre r j d) j (copN r) (copL (t r) r d j)) (fun u => BI w b N me t pre r W j (d + 1) u)) ph_cong (ph_0 HQ0.out) (by kernel_rfl) (by kernel_rfl) (by kernel_rfl) (by kernel_rfl) (by kernel_rfl) (fun zz => Reg.tblM [
                (31, fun v => v = .slice (some ⟨w.heap.size + 1, 0, none⟩) N N),
                (32, fun v => v = .int .i64 (j : Int)),
                (33, fun v => v = .slice (some ⟨w.heap.size + 1, 0, none⟩) N N),
                (34, fun v => v = .int .i64 (j : Int)),
                (35, fun v => v = .pointer (some ⟨w.heap.size + 1, j, none⟩)),
                (36, fun v => v = V j),
                (37, fun v => v = .pointer (some ⟨b, 0, none⟩)),
                (38, fun v => v = .pointer (some ⟨b, 64 + (o + r) % N * 62, none⟩)),
                (39, fun v => v = .int .u8 (d : Int)),
                (40, fun v => v = .int .i64 (j : Int)),
                (41, fun v => True),
                (42, fun v => True),
                (43, fun v => v = .pointer (some ⟨w.heap.size + 1, j, none⟩))] zz) ?hs ?he
              case hf =>
                simp only [Reg.frame, Reg.over, Nat.reduceAdd, Nat.reduceLeDiff, decide_true, decide_false, if_true, Bool.false_eq_true, if_false, Bool.and_true, Bool.and_false]
                exact rfl
              case hs =>
                refine ⟨?_, ?_, ?_, ?_, ?_, ?_, ?_, ?_, ?_, ?_, ?_, ?_, ?_, ?_, trivial⟩
                · intro y f u hM hfi hfd hd
                  obtain ⟨c0, c3, l3⟩ := HT.out _ (HTA.out _ _ _ hM)
                  have l0 : w.heap.size < u.heap.size := by omega
                  refine wpOpIn_step rfl fun KK hK => ?_
                  go_simp
                  exact hK _ _ ⟨_, rfl, fun h => absurd h (by decide), fun _ => rfl, fun d hd => by cases hd; exact rfl⟩
                · intro y f u hM hfi hfd hd
                  refine wpOpIn_step rfl fun KK hK => ?_
                  go_simp
                  exact hK _ _ ⟨_, rfl, fun h => absurd h (by decide), fun _ => rfl, fun d hd => by cases hd; exact rfl⟩
                · intro y f u hM hfi hfd hd
                  obtain ⟨c0, c3, l3⟩ := HT.out _ (HTA.out _ _ _ hM)
                  have l0 : w.heap.size < u.heap.size := by omega
                  refine wpOpIn_step rfl fun KK hK => ?_
                  go_simp
                  exact hK _ _ ⟨_, rfl, fun h => absurd h (by decide), fun _ => rfl, fun d hd => by cases hd; exact rfl⟩
                · intro y f u hM hfi hfd hd
                  refine wpOpIn_step rfl fun KK hK => ?_
                  go_simp
                  exact hK _ _ ⟨_, rfl, fun h => absurd h (by decide), fun _ => rfl, fun d hd => by cases hd; exact rfl⟩
                · intro y f u hM hfi hfd hd
                  have h33 : y 33 = .slice (some ⟨w.heap.size + 1, 0, none⟩) N N := hd 2 (by decide)
                  have h34 : y 34 = .int .i64 (j : Int) := hd 3 (by decide)
                  have hix := fun U => idxLst (w.heap.size + 1) hlt U
                  refine wpOpIn_step rfl fun KK hK => ?_
                  simp only [h33, h34] at hK ⊢
                  go_simp
                  exact hK _ _ ⟨_, rfl, fun h => absurd h (by decide), fun _ => rfl, fun d hd => by cases hd; exact rfl⟩
                · intro y f u hM hfi hfd hd
                  have h35 : y 35 = .pointer (some ⟨w.heap.size + 1, j, none⟩) := hd 4 (by decide)
                  obtain ⟨hc5, hM5⟩ := ph_5 (T := fun u => u.cell? ⟨w.heap.size + 1, j, none⟩ = some (V j) ∧ w.heap.size + 1 < u.heap.size) hM (hfi (by decide)) (fun _ q => ⟨(q.2.g.cell j).trans (lst_cell V hlt), q.2.g.lt⟩) (fun _ _ q => ⟨(q.1.2.g.cell j).trans (lst_cell V hlt), q.1.2.g.lt⟩)
                  obtain ⟨c5, l5⟩ := hc5
                  refine wpOpIn_step rfl fun KK hK => ?_
                  simp only [h35] at hK ⊢
                  go_simp
                  exact hK _ _ ⟨_, rfl, fun _ => hM5 _, fun h => absurd (by decide) h, fun d hd => by cases hd; exact rfl⟩
                · intro y f u hM hfi hfd hd
                  obtain ⟨c0, c3, l3⟩ := HT.out _ (HTA.out _ _ _ hM)
                  have l0 : w.heap.size < u.heap.size := by omega
                  refine wpOpIn_step rfl fun KK hK => ?_
                  go_simp
                  exact hK _ _ ⟨_, rfl, fun h => absurd h (by decide), fun _ => rfl, fun d hd => by cases hd; exact rfl⟩
                · intro y f u hM hfi hfd hd
                  refine wpOpIn_step rfl fun KK hK => ?_
                  go_simp
                  exact hK _ _ ⟨_, rfl, fun h => absurd h (by decide), fun _ => rfl, fun d hd => by cases hd; exact rfl⟩
                · intro y f u hM hfi hfd hd
                  refine wpOpIn_step rfl fun KK hK => ?_
                  go_simp
                  exact hK _ _ ⟨_, rfl, fun h => absurd h (by decide), fun _ => rfl, fun d hd => by cases hd; exact rfl⟩
                · intro y f u hM hfi hfd hd
                  refine wpOpIn_step rfl fun KK hK => ?_
                  go_simp
                  exact hK _ _ ⟨_, rfl, fun h => absurd h (by decide), fun _ => rfl, fun d hd => by cases hd; exact rfl⟩
                · intro y f u hM hfi hfd hd
                  have h37 : y 37 = .pointer (some ⟨b, 0, none⟩) := hd 6 (by decide)
                  have h38 : y 38 = .pointer (some ⟨b, 64 + (o + r) % N * 62, none⟩) := hd 7 (by decide)
                  have h39 : y 39 = .int .u8 (d : Int) := hd 8 (by decide)
                  have h40 : y 40 = .int .i64 (j : Int) := hd 9 (by decide)
                  obtain ⟨hS0, hM10⟩ := ph_10 hM (hfi (by decide))
                  refine wpOpIn_step rfl fun KK hK => ?_
                  simp only [h37, h38, h39, h40] at hK ⊢
                  go_simp
                  refine ⟨trivial, ?_⟩
                  gi_at_call 99
                  refine (CallsIn.inRound l (callsIn_wide.2 (HTK.out _ hS0.1.hb))).mono ?_
                  rintro e u4 ⟨A, c, rfl, hO, hB⟩
                  have hM' := hM10 (.slice A (copN r) c) u4 ⟨⟨hS0.1.on hB lb, hS0.2.on hB⟩, A, c, rfl, ownsRow_base hO hS0.1.hb.size⟩
                  exact hK _ _ ⟨_, rfl, fun _ => hM', fun h => absurd (by decide) h, fun d hd => by cases hd; exact trivial⟩
                · intro y f u hM hfi hfd hd
                  have h36 : y 36 = V j := hd 5 (by decide)
                  obtain ⟨hS1, hM11⟩ := ph_11 hM (hfi (by decide)) (hfd 10 (by decide)) (hfd 5 (by decide))
                  obtain ⟨⟨hB1, hC1⟩, A, c, hv1, hO1⟩ := hS1
                  obtain ⟨v', u', hrun, hO2, hg2, hv2⟩ := rows_grow (hC1.o j hlt) hO1 hcl.1 (copL_one _ _ _ _) (by have := hlen; omega) (by have := hB1.hz; omega)
                  have hM' := hM11 v' u' ⟨hB1.grown hC1 hlt hg2 lb, hC1.head hlt hg2, u, hC1, hg2, hO2, hv2⟩
                  refine wpOpIn_step rfl fun KK hK => ?_
                  refine step_append_runI (by rfl) (.tmp 36) (.tmp 41) 32 32 (by rfl) (by rfl) _ _ v' u' (by exact h36) (by rfl) hrun ?_
                  exact hK _ _ ⟨_, rfl, fun _ => hM', fun h => absurd (by decide) h, fun d hd => by cases hd; exact trivial⟩
                · intro y f u hM hfi hfd hd
                  have h31 : y 31 = .slice (some ⟨w.heap.size + 1, 0, none⟩) N N := hd 0 (by decide)
                  have h32 : y 32 = .int .i64 (j : Int) := hd 1 (by decide)
                  have hix := fun U => idxLst (w.heap.size + 1) hlt U
                  refine wpOpIn_step rfl fun KK hK => ?_
                  simp only [h31, h32] at hK ⊢
                  go_simp
                  exact hK _ _ ⟨_, rfl, fun h => absurd h (by decide), fun _ => rfl, fun d hd => by cases hd; exact rfl⟩
                · intro y f u hM hfi hfd hd
                  have h43 : y 43 = .pointer (some ⟨w.heap.size + 1, j, none⟩) := hd 12 (by decide)
                  obtain ⟨hS2, hM13⟩ := ph_13 hM (hfi (by decide)) (hfd 11 (by decide))
                  have c6 : u.cell? ⟨w.heap.size + 1, j, none⟩ = some (V j) := (hS2.2.1.cell j).trans (lst_cell V hlt)
                  have f6 := hS2.2.1.frozen j
                  have l6 := hS2.2.1.lt
                  have hM' := hM13 (.int .i64 0) _ (bi_grow lb hlt hd2 HR.out hS2)
                  obtain ⟨A, k, c, h42⟩ := owns_slice hS2.2.2.choose_spec.2.2.1
                  rw [h42] at hM'
                  refine wpOpIn_step rfl fun KK hK => ?_
                  simp only [h43, h42] at hK ⊢
                  go_simp
                  exact hK _ _ ⟨.int .i64 0, rfl, fun _ => hM', fun h => absurd (by decide) h, fun d hd => by cases hd⟩
              case he =>
                intro y u3 hM hall
                have HD3 : Hid (BI w b N me t pre r W j (d + 1) u3) := Lib.hid (ph_end hM)
                clear hM hall HQ0 HT HTA HTK
                gi_wp2
                go_roundw
                case rel => exact ⟨d + 1, by omega, by go_num, HD3⟩
                case measure => simp [intOf]; omega
            · have hxe : ((r : Int) == (x : Int)) = false := by simp; omega
              gi_wp2_with (refine ⟨trivial, ?_⟩; gi_at_call 98; refine (CallsIn.inRound l (callsIn_wide.2 (HDI.out _ HD.out.hb))).mono ?_; rintro e u2 ⟨rfl, q1⟩; have HD2 := Lib.hid (HD.out.on q1 lb); clear q1)
              go_roundw
              case rel => exact ⟨d + 1, by omega, by go_num, Lib.hid (HD2.out.none hd2 (by rw [HR.out]; exact hx))⟩
              case measure => simp [intOf]; omega
          · obtain rfl : d = 2 := by omega
            gi_wp2
            go_roundw
            case rel => exact ⟨j + 1, by omega, by go_num, Lib.hid HD.out.next⟩
            case measure => simp [intOf]; omega
      · obtain rfl : j = N := by omega
        gi_wp2
        exact ⟨HJ.out.hk, HJ.out.hkb, ⟨HJ.out.hx, HJ.out.hh, HJ.out.hc.imp fun V q => q.congr (fun s hs => by simp [mJ, cpsN_snoc, hs]) (fun s hs => by simp [XJ, cpsL_snoc, hs])⟩, by have := HJ.out.hz; omega, HJ.out.hb⟩
end Go.Proofs.Ytcangipaoancnaa

