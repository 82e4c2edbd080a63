/-
  A lane's way: what the links of one direction bring, in plain form, in memory of its own. Conditions: the words' readings.
-/
import Derived.Test.YtcangipaoancnaaTk8
import Derived.Test.YtcangipaoancnaaRegI
namespace Go.Proofs.Ytcangipaoancnaa
open Go.RowKit
set_option linter.unusedVariables false
set_option linter.unusedSimpArgs false

/-- A tick's cells; those of none. -/
def tkL (n : Nat) (t : Tk) : List Value := .bool t.g :: .slice (t.nA 0) n (t.nc 0) :: .slice (t.fA 0) n (t.fc 0) :: .slice (t.nA 1) n (t.nc 1) :: .slice (t.fA 1) n (t.fc 1) :: t.o.l
theorem tkL_len (n : Nat) (t : Tk) : (tkL n t).length = 62 := by simp [tkL, Rw.l_len]
theorem tkL_one (n : Nat) (t : Tk) : ∀ v ∈ tkL n t, v.oneCell' = true := by
  intro v hv
  simp only [tkL, List.mem_cons] at hv
  rcases hv with rfl | rfl | rfl | rfl | rfl | hv
  · rfl
  · rfl
  · rfl
  · rfl
  · rfl
  · exact roL_one _ _ _ _ _ v hv
def tkN : Tk := ⟨false, fun _ => none, fun _ => 0, fun _ _ => rwN, fun _ => none, fun _ => 0, fun _ _ => rwN, rwN⟩
def tkZ : List Value := tkL 0 tkN
theorem tkZ_len : tkZ.length = 62 := tkL_len _ _
/-- A lane's cells. -/
def lnL (N me o : Nat) (nw : List Value) (Lc : Nat → List Value) : List Value := [.int .i64 (N : Int), .int .i64 (me : Int)] ++ (nw ++ (flL Lc 16 ++ [.int .i64 (o : Int)]))
/-- A row whose table lies in a block that is the lane's own. -/
def RwK (w : World) (own : Nat → Prop) (r : Rw) : Prop := (r.A = none ∧ r.n = 0 ∧ r.p = 0) ∨ ∃ g, r.A = some ⟨g, 0, none⟩ ∧ r.p = r.n ∧ r.n ≤ 16 ∧ own g ∧ Blk w g 102 (hesL r.T r.n).toArray
structure TkK (w : World) (own : Nat → Prop) (N : Nat) (t : Tk) : Prop where
  g : t.g = true
  o : RwK w own t.o
  n : ∀ d, d < 2 → ∃ G, t.nA d = some ⟨G, 0, none⟩ ∧ own G ∧ Blk w G 54 (flL (fun s => (t.nR d s).l) N).toArray ∧ ∀ s, s < N → RwK w own (t.nR d s)
  f : ∀ d, d < 2 → ∃ G, t.fA d = some ⟨G, 0, none⟩ ∧ own G ∧ Blk w G 54 (flL (fun s => (t.fR d s).l) N).toArray ∧ ∀ s, s < N → RwK w own (t.fR d s)
/-- The lane in block b: E ticks have ended, T is what each was, nw the one that has begun; its other blocks are its own. -/
structure LaneS (w : World) (own : Nat → Prop) (b N me E : Nat) (T : Nat → Tk) (nw : Option Tk) : Prop where
  N4 : 4 ≤ N ∧ N ≤ 16
  meN : me < N
  blk : ∃ Lc : Nat → List Value, Blk w b 138 (lnL N me (E % N) (match nw with | none => tkZ | some t => tkL N t) Lc).toArray ∧ (∀ p, (Lc p).length = 62) ∧ (∀ i, i < E → E ≤ i + N → Lc (i % N) = tkL N (T i)) ∧ (∀ p, E ≤ p → Lc p = tkZ)
  tk : ∀ i, i < E → E ≤ i + N → TkK w own N (T i)
  nk : ∀ t, nw = some t → TkK w own N t
  lt : ∀ g, own g → g < w.heap.size ∧ g ≠ b
section
variable {w w' : World} {own own' : Nat → Prop} {b N me E : Nat} {T : Nat → Tk} {nw : Option Tk}
theorem RwK.keep {r : Rw} (h : RwK w own r) (ho : ∀ g, own g → own' g) (hk : ∀ g, own g → w'.heap[g]? = w.heap[g]?) : RwK w' own' r := by
  rcases h with h | ⟨g, h1, h2, h3, h4, h5⟩
  · exact .inl h
  · exact .inr ⟨g, h1, h2, h3, ho g h4, (hk g h4).trans h5⟩
theorem TkK.keep {t : Tk} (h : TkK w own N t) (ho : ∀ g, own g → own' g) (hk : ∀ g, own g → w'.heap[g]? = w.heap[g]?) : TkK w' own' N t where
  g := h.g
  o := h.o.keep ho hk
  n := fun d hd => by
    obtain ⟨G, h1, h2, h3, h4⟩ := h.n d hd
    exact ⟨G, h1, ho G h2, (hk G h2).trans h3, fun s hs => (h4 s hs).keep ho hk⟩
  f := fun d hd => by
    obtain ⟨G, h1, h2, h3, h4⟩ := h.f d hd
    exact ⟨G, h1, ho G h2, (hk G h2).trans h3, fun s hs => (h4 s hs).keep ho hk⟩
/-- A lane stays while its blocks do. -/
theorem LaneS.keep (h : LaneS w own b N me E T nw) (hs : w.heap.size ≤ w'.heap.size) (hb : w'.heap[b]? = w.heap[b]?) (hk : ∀ g, own g → w'.heap[g]? = w.heap[g]?) : LaneS w' own b N me E T nw := by
  obtain ⟨Lc, h1, h2, h3, h4⟩ := h.blk
  exact ⟨h.N4, h.meN, ⟨Lc, hb.trans h1, h2, h3, h4⟩, fun i hi hn => (h.tk i hi hn).keep (fun _ q => q) hk, fun t ht => (h.nk t ht).keep (fun _ q => q) hk, fun g hg => ⟨Nat.lt_of_lt_of_le (h.lt g hg).1 hs, (h.lt g hg).2⟩⟩
theorem LaneS.blt (h : LaneS w own b N me E T nw) : b < w.heap.size := by
  obtain ⟨Lc, h1, _⟩ := h.blk
  exact h1.lt
theorem LaneS.on (h : LaneS w own b N me E T nw) (hb : Below w.heap.size w w') : LaneS w' own b N me E T nw := h.keep hb.size (hb.block b h.blt) fun g hg => hb.block g (h.lt g hg).1
theorem LaneS.but {x : Nat} (h : LaneS w own b N me E T nw) (hb : But x w w') (hx : b ≠ x) (ho : ¬ own x) : LaneS w' own b N me E T nw := h.keep hb.1.size (hb.2 b h.blt hx) fun g hg => hb.2 g (h.lt g hg).1 fun e => ho (e ▸ hg)
theorem RwK.good {r : Rw} (h : RwK w own r) : Good w r := by
  rcases h with ⟨h1, h2, h3⟩ | ⟨g, h1, h2, h3, h4, h5⟩
  · exact ⟨fun _ => ⟨h2, h3⟩, by omega, by rw [h2]; exact LiesH.nil_⟩
  · refine ⟨fun e => (by rw [h1] at e; cases e), by omega, ?_⟩
    rw [h1]
    exact Blk.liesH_ h5
theorem TkK.good {t : Tk} (h : TkK w own N t) : GoodTk w N t := by
  refine ⟨h.o.good, fun d s hd hs => ?_, fun d s hd hs => ?_⟩
  · obtain ⟨G, _, _, _, h4⟩ := h.n d hd
    exact (h4 s hs).good
  · obtain ⟨G, _, _, _, h4⟩ := h.f d hd
    exact (h4 s hs).good
theorem rangeAt_at {w : World} {g O : Nat} {L : List Value} (h : w.rangeAt g O L) (i : Nat) (v : Value) (hv : L[i]? = some v) : w.cell? ⟨g, O + i, none⟩ = some v := h i v hv
theorem rangeAt_drop {w : World} {g O : Nat} {A L : List Value} (h : w.rangeAt g O (A ++ L)) : w.rangeAt g (O + A.length) L := fun j v hv => by
  have := h (A.length + j) v (by rw [List.getElem?_append_right (by omega), Nat.add_sub_cancel_left]; exact hv)
  rwa [← Nat.add_assoc] at this
theorem TkK.in_ {t : Tk} {off : Nat} (h : TkK w own N t) (hb : b < w.heap.size) (hr : w.rangeAt b off (tkL N t)) : TkIn w w.heap.size b off N t := by
  refine ⟨fun d hd => ?_, ?_, fun d hd => ?_, fun d hd => ?_, hb⟩
  · rcases (show d = 0 ∨ d = 1 by omega) with rfl | rfl
    · exact ⟨hr 1 _ rfl, hr 2 _ rfl⟩
    · exact ⟨hr 3 _ rfl, hr 4 _ rfl⟩
  · exact rangeAt_drop (A := [.bool t.g, .slice (t.nA 0) N (t.nc 0), .slice (t.fA 0) N (t.fc 0), .slice (t.nA 1) N (t.nc 1), .slice (t.fA 1) N (t.fc 1)]) hr
  · obtain ⟨G, h1, _, h3, h4⟩ := h.n d hd
    rw [h1]
    exact ⟨h3.liesF (by decide) fun i => Rw.l_len _, fun i hi => (h4 i hi).good.t⟩
  · obtain ⟨G, h1, _, h3, h4⟩ := h.f d hd
    rw [h1]
    exact ⟨h3.liesF (by decide) fun i => Rw.l_len _, fun i hi => (h4 i hi).good.t⟩
end
section
variable {w w' : World} {b N me o : Nat} {nw : List Value} {Lc : Nat → List Value}
theorem ln_cell0 (h : Blk w b 138 (lnL N me o nw Lc).toArray) : w.cell? ⟨b, 0, none⟩ = some (.int .i64 (N : Int)) := h.cell 0
theorem ln_cell1 (h : Blk w b 138 (lnL N me o nw Lc).toArray) : w.cell? ⟨b, 1, none⟩ = some (.int .i64 (me : Int)) := h.cell 1
theorem ln_pin (h : Blk w b 138 (lnL N me o nw Lc).toArray) : PIn w b 2 138 [.int .i64 (N : Int), .int .i64 (me : Int)] (flL Lc 16 ++ [.int .i64 (o : Int)]) nw := ⟨h, rfl⟩
theorem ln_pinP (h : Blk w b 138 (lnL N me o nw Lc).toArray) (hn : nw.length = 62) (hl : ∀ p, (Lc p).length = 62) {p : Nat} (hp : p < 16) :
    PIn w b (64 + p * 62) 138 ([.int .i64 (N : Int), .int .i64 (me : Int)] ++ (nw ++ flL Lc p)) (flL (fun j => Lc (p + 1 + j)) (16 - (p + 1)) ++ [.int .i64 (o : Int)]) (Lc p) := by
  refine ⟨?_, by simp [hn, flL_len hl]; omega⟩
  unfold lnL at h
  rw [flL_at Lc hp] at h
  simpa only [List.append_assoc] using h
theorem ln_pinO (h : Blk w b 138 (lnL N me o nw Lc).toArray) (hn : nw.length = 62) (hl : ∀ p, (Lc p).length = 62) :
    PIn w b 1056 138 ([.int .i64 (N : Int), .int .i64 (me : Int)] ++ (nw ++ flL Lc 16)) [] [.int .i64 (o : Int)] := by
  refine ⟨?_, by simp [hn, flL_len hl]⟩
  unfold lnL at h
  simpa only [List.append_assoc, List.append_nil] using h
theorem ln_cellO (h : Blk w b 138 (lnL N me o nw Lc).toArray) (hn : nw.length = 62) (hl : ∀ p, (Lc p).length = 62) : w.cell? ⟨b, 1056, none⟩ = some (.int .i64 (o : Int)) := ((ln_pinO h hn hl).cell0 (by simp)).trans rfl
theorem ln_putP {p : Nat} (hp : p < 16) {M : List Value} (h : PIn w b (64 + p * 62) 138 ([.int .i64 (N : Int), .int .i64 (me : Int)] ++ (nw ++ flL Lc p)) (flL (fun j => Lc (p + 1 + j)) (16 - (p + 1)) ++ [.int .i64 (o : Int)]) M) :
    Blk w b 138 (lnL N me o nw (fun i => if i = p then M else Lc i)).toArray := by
  have := h.blk
  unfold lnL
  rw [← flL_upd Lc p M hp]
  simpa only [List.append_assoc] using this
end
theorem But.of_kj {B g : Nat} {Js : List (World → Prop)} {w u : World} (h : Reg.KJ B [] Js w u) (hg : g ≤ w.heap.size) : But g w u := ⟨⟨h.1.os, h.1.tape, h.1.output, h.1.size, fun k hk => h.2.1 k (by omega) (by simp)⟩, fun k hk _ => h.2.1 k hk (by simp)⟩
theorem mod_apart {N i E : Nat} (h1 : i < E) (h2 : E < i + N) : i % N ≠ E % N := fun e => by
  have h := Nat.sub_mod_eq_zero_of_mod_eq e.symm
  rw [Nat.mod_eq_of_lt (by omega)] at h
  omega
theorem nowL_len (N : Nat) (nw : Option Tk) : (match nw with | none => tkZ | some t => tkL N t : List Value).length = 62 := by cases nw <;> exact tkL_len _ _
/-- All the ring's ticks have been: the lane as copies reads it. -/
theorem LaneS.full {w : World} {own : Nat → Prop} {b N me E : Nat} {T : Nat → Tk} {nw : Option Tk} (h : LaneS w own b N me E T nw) (hE : N ≤ E) : LaneIn w b N me (E % N) (fun k => T (E - N + k)) ∧ (∀ k, k < N → GoodTk w N (T (E - N + k))) ∧ w.cell? ⟨b, 64 + E % N * 62, none⟩ = some (.bool true) := by
  obtain ⟨Lc, h1, h2, h3, h4⟩ := h.blk
  have hN := h.N4
  have hn := nowL_len N nw
  have hp : ∀ k, k < N → (E % N + k) % N = (E - N + k) % N := fun k hk => by
    conv => rhs; rw [← Nat.add_mod_right, show E - N + k + N = E + k by omega, Nat.add_mod]
    rw [Nat.add_mod (E % N) k, Nat.mod_mod]
  have hr : ∀ k, k < N → w.rangeAt b (64 + (E % N + k) % N * 62) (tkL N (T (E - N + k))) := fun k hk => by
    rw [hp k hk, ← h3 (E - N + k) (by omega) (by omega)]
    exact (ln_pinP h1 hn h2 (by have := Nat.mod_lt (E - N + k) (show 0 < N by omega); omega)).range
  refine ⟨⟨ln_cell0 h1, ln_cell1 h1, ln_cellO h1 hn h2, fun k hk => (h.tk _ (by omega) (by omega)).in_ h1.lt (hr k hk)⟩, fun k hk => (h.tk _ (by omega) (by omega)).good, ?_⟩
  have := hr 0 (by omega) 0 _ rfl
  simp only [Nat.add_zero, Nat.mod_mod] at this
  rw [this, (h.tk (E - N) (by omega) (by omega)).g]
theorem LaneS.few {w : World} {own : Nat → Prop} {b N me E : Nat} {T : Nat → Tk} {nw : Option Tk} (h : LaneS w own b N me E T nw) (hE : E < N) : w.cell? ⟨b, 0, none⟩ = some (.int .i64 (N : Int)) ∧ w.cell? ⟨b, 1056, none⟩ = some (.int .i64 ((E % N : Nat) : Int)) ∧ w.cell? ⟨b, 64 + E % N * 62, none⟩ = some (.bool false) := by
  obtain ⟨Lc, h1, h2, h3, h4⟩ := h.blk
  have hN := h.N4
  have hn := nowL_len N nw
  refine ⟨ln_cell0 h1, ln_cellO h1 hn h2, ?_⟩
  have he : E % N = E := Nat.mod_eq_of_lt hE
  have := (ln_pinP h1 hn h2 (p := E) (by omega)).range 0 (.bool false) (by rw [h4 E (Nat.le_refl _)]; rfl)
  rw [he]
  exact this
set_option maxRecDepth 100000 in
theorem size_tick : (Try.prog.info? 135).map (·.size) = some 62 := by kernel_rfl
set_option maxRecDepth 100000 in
theorem built_tick0 : (Try.prog).built 135 [] = some tkZ.toArray := by kernel_rfl
set_option maxRecDepth 100000 in
theorem ptr_neq_nil (b : Nat) (W : World) : (binOp .neq 25 (.pointer (some ⟨b, 0, none⟩)) (.pointer none)).run Try.prog W = .ok (.bool true) W := by kernel_rfl
set_option maxRecDepth 100000 in
theorem made_is (b n : Nat) (w : World) (h0 : w.cell? ⟨b, 0, none⟩ = some (.int .i64 (n : Int))) :
    Calls Try.prog 51 #[.pointer (some ⟨b, 0, none⟩)] w fun e w' => e = .returned (.bool (!decide (n = 0))) ∧ w = w' := by
  have hl := cell_ltT h0
  have hc := fun W => ptr_neq_nil b W
  by_cases hn : n = 0
  · subst hn
    go_enter Try.func51, Try.ntmps51
    go_wp2_with fail
    go_ret
    exact ⟨rfl, rfl⟩
  · have e0 : ((n : Int) == 0) = false := by simp; omega
    go_enter Try.func51, Try.ntmps51
    go_wp2_with fail
    go_ret
    exact ⟨by simp [hn], rfl⟩
set_option maxRecDepth 100000 in
theorem made_nil (w : World) : Calls Try.prog 51 #[.pointer none] w fun e w' => e = .returned (.bool false) ∧ w = w' := by
  go_enter Try.func51, Try.ntmps51
  go_wp2_with fail
  go_ret
  exact ⟨rfl, rfl⟩
set_option maxRecDepth 100000 in
set_option maxHeartbeats 4000000 in
theorem end_is (own : Nat → Prop) (b N me E : Nat) (T : Nat → Tk) (t : Tk) (w : World) (h : LaneS w own b N me E T (some t)) :
    Calls Try.prog 52 #[.pointer (some ⟨b, 0, none⟩)] w fun e w' => e = .returned (.tuple #[]) ∧ LaneS w' own b N me (E + 1) (fun i => if i = E then t else T i) none ∧ But b w w' := by
  have H := Lib.hid h
  obtain ⟨Lc, h1, h2, h3, h4⟩ := h.blk
  have hN := h.N4
  obtain ⟨o, ho⟩ : ∃ o, o = E % N := ⟨_, rfl⟩
  have hoN : o < N := by rw [ho]; exact Nat.mod_lt _ (by omega)
  rw [← ho] at h1
  have HO := Lib.hid ho
  have HB := Lib.hid h1
  have HL2 := Lib.hid h2
  have HL3 := Lib.hid h3
  have HL4 := Lib.hid h4
  have hlt := h1.lt
  have HTL := Lib.hid (tkL_len N t)
  clear h h1 h2 h3 h4 ho
  go_enter Try.func52, Try.ntmps52
  go_upto_region 0 with fail
  refine Reg.wp_prefix 12 (by kernel_rfl) (fun t => decide (2 ≤ t) && decide (t ≤ 13)) (Reg.KJ w.heap.size [] []) (Reg.KJ.drew _ (by simp)) Reg.KJ.trans (by kernel_rfl) (by kernel_rfl) (by kernel_rfl) (by kernel_rfl) (fun zz => (Reg.tblK [
    (2, .is (.pointer (some ⟨b, 0, none⟩))),
    (3, .is (.pointer (some ⟨b, 0, none⟩))),
    (4, .is (.pointer (some ⟨b, 0, none⟩))),
    (5, .is (.pointer (some ⟨b, 1056, none⟩))),
    (6, .is (.int .i64 (o : Int))),
    (7, .is (.pointer (some ⟨b, 0, none⟩))),
    (8, .is (.pointer (some ⟨b, 0, none⟩))),
    (9, .is (.pointer (some ⟨b, 2, none⟩))),
    (10, .is (.agg (tkL N t).toArray)),
    (11, .is (.pointer (some ⟨b, 0, none⟩))),
    (12, .is (.pointer (some ⟨b, 64, none⟩))),
    (13, .is (.pointer (some ⟨b, 64 + o * 62, none⟩)))] zz).P) (fun zz => (Reg.tblK _ zz).on) (fun zz => (Reg.memK [] zz).P) (fun zz => (Reg.memK _ zz).on) ?_ ?_
  · simp only [Reg.frame, Reg.over, Nat.reduceAdd, Nat.reduceLeDiff, decide_true, decide_false, if_true, Bool.false_eq_true, if_false, Bool.and_true, Bool.and_false]
    refine ⟨?_, ?_, ?_, ?_, ?_, ?_, ?_, ?_, ?_, ?_, ?_, ?_, trivial⟩
    · intro x u hku hd
      refine wpOp_step rfl fun KK hK => ?_
      go_simp
      exact hK _ _ ⟨_, rfl, Reg.KJ.refl _, fun d hd => by cases hd; exact rfl, fun h => by cases h⟩
    · intro x u hku hd
      refine wpOp_step rfl fun KK hK => ?_
      go_simp
      exact hK _ _ ⟨_, rfl, Reg.KJ.refl _, fun d hd => by cases hd; exact rfl, fun h => by cases h⟩
    · intro x u hku hd
      have h3 : x 3 = .pointer (some ⟨b, 0, none⟩) := hd 1 (by decide)
      have hbu := hku.blk (by simp) HB.out
      have lb := hbu.lt
      have c0 := ln_cell0 hbu
      refine wpOp_step rfl fun KK hK => ?_
      simp only [h3] at hK ⊢
      go_simp
      exact hK _ _ ⟨_, rfl, Reg.KJ.refl _, fun d hd => by cases hd; exact rfl, fun h => by cases h⟩
    · intro x u hku hd
      have h4 : x 4 = .pointer (some ⟨b, 0, none⟩) := hd 2 (by decide)
      have hbu := hku.blk (by simp) HB.out
      have lb := hbu.lt
      have c0 := ln_cell0 hbu
      refine wpOp_step rfl fun KK hK => ?_
      simp only [h4] at hK ⊢
      go_simp
      exact hK _ _ ⟨_, rfl, Reg.KJ.refl _, fun d hd => by cases hd; exact rfl, fun h => by cases h⟩
    · intro x u hku hd
      have h5 : x 5 = .pointer (some ⟨b, 1056, none⟩) := hd 3 (by decide)
      have hbu := hku.blk (by simp) HB.out
      have lb := hbu.lt
      have c0 := ln_cell0 hbu
      have c4 := ln_cellO hbu HTL.out HL2.out
      refine wpOp_step rfl fun KK hK => ?_
      simp only [h5] at hK ⊢
      go_simp
      exact hK _ _ ⟨_, rfl, Reg.KJ.refl _, fun d hd => by cases hd; exact rfl, fun h => by cases h⟩
    · intro x u hku hd
      refine wpOp_step rfl fun KK hK => ?_
      go_simp
      exact hK _ _ ⟨_, rfl, Reg.KJ.refl _, fun d hd => by cases hd; exact rfl, fun h => by cases h⟩
    · intro x u hku hd
      have h7 : x 7 = .pointer (some ⟨b, 0, none⟩) := hd 5 (by decide)
      have hbu := hku.blk (by simp) HB.out
      have lb := hbu.lt
      have c0 := ln_cell0 hbu
      refine wpOp_step rfl fun KK hK => ?_
      simp only [h7] at hK ⊢
      go_simp
      exact hK _ _ ⟨_, rfl, Reg.KJ.refl _, fun d hd => by cases hd; exact rfl, fun h => by cases h⟩
    · intro x u hku hd
      have h8 : x 8 = .pointer (some ⟨b, 0, none⟩) := hd 6 (by decide)
      have hbu := hku.blk (by simp) HB.out
      have lb := hbu.lt
      have c0 := ln_cell0 hbu
      refine wpOp_step rfl fun KK hK => ?_
      simp only [h8] at hK ⊢
      go_simp
      exact hK _ _ ⟨_, rfl, Reg.KJ.refl _, fun d hd => by cases hd; exact rfl, fun h => by cases h⟩
    · intro x u hku hd
      have h9 : x 9 = .pointer (some ⟨b, 2, none⟩) := hd 7 (by decide)
      have hbu := hku.blk (by simp) HB.out
      have lb := hbu.lt
      have c0 := ln_cell0 hbu
      refine wpOp_step rfl fun KK hK => ?_
      refine Reg.step_load_mid (by rfl) 135 (.tmp 9) (by rfl) b 2 (by exact h9) (tkL N t) (ln_pin hbu).range _ Try.underlying135 rfl (by rw [size_tick, HTL.out]) ?_
      exact hK _ _ ⟨_, rfl, Reg.KJ.refl _, fun d hd => by cases hd; exact rfl, fun h => by cases h⟩
    · intro x u hku hd
      have h2 : x 2 = .pointer (some ⟨b, 0, none⟩) := hd 0 (by decide)
      have hbu := hku.blk (by simp) HB.out
      have lb := hbu.lt
      have c0 := ln_cell0 hbu
      refine wpOp_step rfl fun KK hK => ?_
      simp only [h2] at hK ⊢
      go_simp
      exact hK _ _ ⟨_, rfl, Reg.KJ.refl _, fun d hd => by cases hd; exact rfl, fun h => by cases h⟩
    · intro x u hku hd
      have h11 : x 11 = .pointer (some ⟨b, 0, none⟩) := hd 9 (by decide)
      have hbu := hku.blk (by simp) HB.out
      have lb := hbu.lt
      have c0 := ln_cell0 hbu
      refine wpOp_step rfl fun KK hK => ?_
      simp only [h11] at hK ⊢
      go_simp
      exact hK _ _ ⟨_, rfl, Reg.KJ.refl _, fun d hd => by cases hd; exact rfl, fun h => by cases h⟩
    · intro x u hku hd
      have h12 : x 12 = .pointer (some ⟨b, 64, none⟩) := hd 10 (by decide)
      have h6 : x 6 = .int .i64 (o : Int) := hd 4 (by decide)
      have hix := fun W => idxTick b o (by omega) W
      refine wpOp_step rfl fun KK hK => ?_
      simp only [h12, h6] at hK ⊢
      go_simp
      exact hK _ _ ⟨_, rfl, Reg.KJ.refl _, fun d hd => by cases hd; exact rfl, fun h => by cases h⟩
  · intro x u hku hd
    have e10 : x 10 = .agg (tkL N t).toArray := hd 8 (by decide)
    have e13 : x 13 = .pointer (some ⟨b, 64 + o * 62, none⟩) := hd 11 (by decide)
    have HP := Lib.hid (ln_pinP (hku.blk (by simp) HB.out) HTL.out HL2.out (p := o) (by omega))
    have HKB := Lib.hid hku
    clear hku hd
    simp only [Reg.frame, Reg.over, Nat.reduceAdd, Nat.reduceLeDiff, decide_true, decide_false, if_true, Bool.false_eq_true, if_false, Bool.and_true, Bool.and_false, e10, e13]
    go_upto_region 1 with (refine wpList_store_pin rfl 135 (.tmp 13) (.tmp 10) rfl HP.out (tkL N t) (by simp [Act.eval, Act.put]) (by simp [Act.eval, Act.put]) 62 size_tick (HL2.out o) HTL.out (tkL_one _ _) ?_; intro w1 p1 b1; have HP1 := Lib.hid (ln_putP (by omega) p1); have HB1 := Lib.hid b1; clear p1 b1)
    go_wp2_with fail
    have HL2' : Hid (∀ p, ((fun i => if i = o then tkL N t else Lc i) p).length = 62) := Lib.hid (fun p => by
      show (if p = o then tkL N t else Lc p).length = 62
      split
      · exact tkL_len _ _
      · exact HL2.out p)
    have HQ : Hid (∃ q : Nat, q < 16 ∧ q = (o + 1) % N ∧ ((o : Int) + 1).tmod (N : Int) = (q : Int) ∧ ((o : Int) + 1) % (N : Int) = (q : Int)) := Lib.hid ⟨(o + 1) % N, by have := Nat.mod_lt (o + 1) (show 0 < N by omega); omega, rfl, by rw [Int.tmod_eq_emod_of_nonneg (by omega), show (o : Int) + 1 = ((o + 1 : Nat) : Int) by omega]; rfl, by rw [show (o : Int) + 1 = ((o + 1 : Nat) : Int) by omega]; rfl⟩
    obtain ⟨q, hq16, hqe, hqt, hqm⟩ := HQ.out
    have HQE := Lib.hid hqe
    have HQT := Lib.hid hqt
    have HQM := Lib.hid hqm
    have HQ16 := Lib.hid hq16
    clear HQ hqe hqt hqm hq16
    refine Reg.wp_prefix 13 (by kernel_rfl) (fun t => decide (14 ≤ t) && decide (t ≤ 26)) (Reg.KJ w.heap.size [] []) (Reg.KJ.drew _ (by simp)) Reg.KJ.trans (by kernel_rfl) (by kernel_rfl) (by kernel_rfl) (by kernel_rfl) (fun zz => (Reg.tblK [
      (14, .is (.pointer (some ⟨b, 0, none⟩))),
      (15, .is (.pointer (some ⟨b, 0, none⟩))),
      (16, .is (.pointer (some ⟨b, 0, none⟩))),
      (17, .is (.pointer (some ⟨b, 1056, none⟩))),
      (18, .is (.int .i64 (o : Int))),
      (19, .is (.int .i64 ((o : Int) + 1))),
      (20, .is (.pointer (some ⟨b, 0, none⟩))),
      (21, .is (.pointer (some ⟨b, 0, none⟩))),
      (22, .is (.pointer (some ⟨b, 0, none⟩))),
      (23, .is (.int .i64 (N : Int))),
      (24, .is (.int .i64 (q : Int))),
      (25, .is (.pointer (some ⟨b, 0, none⟩))),
      (26, .is (.pointer (some ⟨b, 1056, none⟩)))] zz).P) (fun zz => (Reg.tblK _ zz).on) (fun zz => (Reg.memK [] zz).P) (fun zz => (Reg.memK _ zz).on) ?_ ?_
    · simp only [Reg.frame, Reg.over, Nat.reduceAdd, Nat.reduceLeDiff, decide_true, decide_false, if_true, Bool.false_eq_true, if_false, Bool.and_true, Bool.and_false]
      refine ⟨?_, ?_, ?_, ?_, ?_, ?_, ?_, ?_, ?_, ?_, ?_, ?_, ?_, trivial⟩
      · intro x u hku hd
        refine wpOp_step rfl fun KK hK => ?_
        go_simp
        exact hK _ _ ⟨_, rfl, Reg.KJ.refl _, fun d hd => by cases hd; exact rfl, fun h => by cases h⟩
      · intro x u hku hd
        refine wpOp_step rfl fun KK hK => ?_
        go_simp
        exact hK _ _ ⟨_, rfl, Reg.KJ.refl _, fun d hd => by cases hd; exact rfl, fun h => by cases h⟩
      · intro x u hku hd
        have h15 : x 15 = .pointer (some ⟨b, 0, none⟩) := hd 1 (by decide)
        have hbu := hku.blk (by simp) HP1.out
        have lb := hbu.lt
        have c0 := ln_cell0 hbu
        refine wpOp_step rfl fun KK hK => ?_
        simp only [h15] at hK ⊢
        go_simp
        exact hK _ _ ⟨_, rfl, Reg.KJ.refl _, fun d hd => by cases hd; exact rfl, fun h => by cases h⟩
      · intro x u hku hd
        have h16 : x 16 = .pointer (some ⟨b, 0, none⟩) := hd 2 (by decide)
        have hbu := hku.blk (by simp) HP1.out
        have lb := hbu.lt
        have c0 := ln_cell0 hbu
        refine wpOp_step rfl fun KK hK => ?_
        simp only [h16] at hK ⊢
        go_simp
        exact hK _ _ ⟨_, rfl, Reg.KJ.refl _, fun d hd => by cases hd; exact rfl, fun h => by cases h⟩
      · intro x u hku hd
        have h17 : x 17 = .pointer (some ⟨b, 1056, none⟩) := hd 3 (by decide)
        have hbu := hku.blk (by simp) HP1.out
        have lb := hbu.lt
        have c0 := ln_cell0 hbu
        have c4 := ln_cellO hbu HTL.out HL2'.out
        refine wpOp_step rfl fun KK hK => ?_
        simp only [h17] at hK ⊢
        go_simp
        exact hK _ _ ⟨_, rfl, Reg.KJ.refl _, fun d hd => by cases hd; exact rfl, fun h => by cases h⟩
      · intro x u hku hd
        have h18 : x 18 = .int .i64 (o : Int) := hd 4 (by decide)
        have hw : IntKind.i64.wrap ((o : Int) + 1) = (o : Int) + 1 := IntWalk.i64_in _ (by omega)
        refine wpOp_step rfl fun KK hK => ?_
        simp only [h18] at hK ⊢
        go_simp
        exact hK _ _ ⟨_, rfl, Reg.KJ.refl _, fun d hd => by cases hd; exact rfl, fun h => by cases h⟩
      · intro x u hku hd
        refine wpOp_step rfl fun KK hK => ?_
        go_simp
        exact hK _ _ ⟨_, rfl, Reg.KJ.refl _, fun d hd => by cases hd; exact rfl, fun h => by cases h⟩
      · intro x u hku hd
        have h20 : x 20 = .pointer (some ⟨b, 0, none⟩) := hd 6 (by decide)
        have hbu := hku.blk (by simp) HP1.out
        have lb := hbu.lt
        have c0 := ln_cell0 hbu
        refine wpOp_step rfl fun KK hK => ?_
        simp only [h20] at hK ⊢
        go_simp
        exact hK _ _ ⟨_, rfl, Reg.KJ.refl _, fun d hd => by cases hd; exact rfl, fun h => by cases h⟩
      · intro x u hku hd
        have h21 : x 21 = .pointer (some ⟨b, 0, none⟩) := hd 7 (by decide)
        have hbu := hku.blk (by simp) HP1.out
        have lb := hbu.lt
        have c0 := ln_cell0 hbu
        refine wpOp_step rfl fun KK hK => ?_
        simp only [h21] at hK ⊢
        go_simp
        exact hK _ _ ⟨_, rfl, Reg.KJ.refl _, fun d hd => by cases hd; exact rfl, fun h => by cases h⟩
      · intro x u hku hd
        have h22 : x 22 = .pointer (some ⟨b, 0, none⟩) := hd 8 (by decide)
        have hbu := hku.blk (by simp) HP1.out
        have lb := hbu.lt
        have c0 := ln_cell0 hbu
        refine wpOp_step rfl fun KK hK => ?_
        simp only [h22] at hK ⊢
        go_simp
        exact hK _ _ ⟨_, rfl, Reg.KJ.refl _, fun d hd => by cases hd; exact rfl, fun h => by cases h⟩
      · intro x u hku hd
        have h19 : x 19 = .int .i64 ((o : Int) + 1) := hd 5 (by decide)
        have h23 : x 23 = .int .i64 (N : Int) := hd 9 (by decide)
        have hqt := HQT.out
        have hqm := HQM.out
        have hn0 : N ≠ 0 := by omega
        have hw : IntKind.i64.wrap (q : Int) = (q : Int) := IntWalk.i64_in _ (by have := HQ16.out; omega)
        refine wpOp_step rfl fun KK hK => ?_
        simp only [h19, h23] at hK ⊢
        go_simp
        exact hK _ _ ⟨_, rfl, Reg.KJ.refl _, fun d hd => by cases hd; exact rfl, fun h => by cases h⟩
      · intro x u hku hd
        have h14 : x 14 = .pointer (some ⟨b, 0, none⟩) := hd 0 (by decide)
        have hbu := hku.blk (by simp) HP1.out
        have lb := hbu.lt
        have c0 := ln_cell0 hbu
        refine wpOp_step rfl fun KK hK => ?_
        simp only [h14] at hK ⊢
        go_simp
        exact hK _ _ ⟨_, rfl, Reg.KJ.refl _, fun d hd => by cases hd; exact rfl, fun h => by cases h⟩
      · intro x u hku hd
        have h25 : x 25 = .pointer (some ⟨b, 0, none⟩) := hd 11 (by decide)
        have hbu := hku.blk (by simp) HP1.out
        have lb := hbu.lt
        have c0 := ln_cell0 hbu
        refine wpOp_step rfl fun KK hK => ?_
        simp only [h25] at hK ⊢
        go_simp
        exact hK _ _ ⟨_, rfl, Reg.KJ.refl _, fun d hd => by cases hd; exact rfl, fun h => by cases h⟩
    · intro y u1 hku1 hd1
      have e24 : y 24 = .int .i64 (q : Int) := hd1 10 (by decide)
      have e26 : y 26 = .pointer (some ⟨b, 1056, none⟩) := hd1 12 (by decide)
      have HB2 := Lib.hid (hku1.blk (by simp) HP1.out)
      have cO := ln_cellO HB2.out HTL.out HL2'.out
      have fO := HB2.out.frozen 1056
      have lO := HB2.out.lt
      have HPO : Hid (PIn (u1.setCell ⟨b, 1056, none⟩ (.int .i64 (q : Int))) b 1056 138 ([.int .i64 (N : Int), .int .i64 (me : Int)] ++ (tkL N t ++ flL (fun i => if i = o then tkL N t else Lc i) 16)) [] [.int .i64 (q : Int)]) := Lib.hid ((ln_pinO HB2.out HTL.out HL2'.out).set0 (.int .i64 (q : Int)) (by simp))
      have HPN : Hid (PIn (u1.setCell ⟨b, 1056, none⟩ (.int .i64 (q : Int))) b 2 138 [.int .i64 (N : Int), .int .i64 (me : Int)] (flL (fun i => if i = o then tkL N t else Lc i) 16 ++ [.int .i64 (q : Int)]) (tkL N t)) := Lib.hid (ln_pin (by have := HPO.out.blk; unfold lnL; simpa only [List.append_assoc, List.append_nil] using this))
      have HBU : Hid (But b u1 (u1.setCell ⟨b, 1056, none⟩ (.int .i64 (q : Int)))) := Lib.hid (But.one 1056 _)
      have HK1 := Lib.hid hku1
      have HBT := Lib.hid built_tick0
      clear hku1 hd1 HPO
      simp only [Reg.frame, Reg.over, Nat.reduceAdd, Nat.reduceLeDiff, decide_true, decide_false, if_true, Bool.false_eq_true, if_false, Bool.and_true, Bool.and_false, e24, e26]
      go_wp2_with (first
        | (refine wpList_build rfl 135 _ rfl tkZ.toArray (by simpa [Act.eval, Act.put] using HBT.out) ?_)
        | (refine wpList_store_pin rfl 135 (.tmp 30) (.tmp 28) rfl HPN.out tkZ (by simp [Act.eval, Act.put]) (by simp [Act.eval, Act.put]) 62 size_tick HTL.out tkZ_len (tkL_one _ _) ?_; intro w2 p2 b2; have HP2 := Lib.hid p2; have HB3 := Lib.hid b2; clear p2 b2))
      go_end0
      have hbut : But b w w2 := (((But.of_kj HKB.out (Nat.le_of_lt hlt)).trans HB1.out).trans (But.of_kj HK1.out (Nat.le_of_lt HP1.out.lt))).trans (HBU.out.trans HB3.out)
      have hS := H.out
      have hoe := HO.out
      have hoE : o ≤ E := by rw [hoe]; exact Nat.mod_le _ _
      refine ⟨rfl, ⟨hS.N4, hS.meN, ⟨fun i => if i = o then tkL N t else Lc i, ?_, HL2'.out, fun i h1 h2 => ?_, fun p hp => ?_⟩, fun i h1 h2 => ?_, (fun t ht => by cases ht), fun g hg => ⟨Nat.lt_of_lt_of_le (hS.lt g hg).1 hbut.1.size, (hS.lt g hg).2⟩⟩, hbut⟩
      · have := HP2.out.blk
        rw [HQE.out] at this
        rw [show (E + 1) % N = (o + 1) % N by rw [hoe, Nat.add_mod E 1, Nat.add_mod (E % N) 1, Nat.mod_mod]]
        exact this
      · by_cases e : i = E
        · subst e
          rw [← hoe]
          simp
        · have hne : i % N ≠ o := by rw [hoe]; exact mod_apart (by omega) (by omega)
          simp only [hne, e, if_false]
          exact HL3.out i (by omega) (by omega)
      · have hne : p ≠ o := by omega
        simp only [hne, if_false]
        exact HL4.out p (by omega)
      · have hk : ∀ g, own g → w2.heap[g]? = w.heap[g]? := fun g hg => hbut.2 g (hS.lt g hg).1 (hS.lt g hg).2
        by_cases e : i = E
        · simp only [e, if_true]
          exact (hS.nk t rfl).keep (fun _ q => q) hk
        · simp only [e, if_false]
          exact (hS.tk i (by omega) (by omega)).keep (fun _ q => q) hk
end Go.Proofs.Ytcangipaoancnaa

namespace Go.Proofs.Ytcangipaoancnaa
open Go.RowKit
set_option linter.unusedVariables false
set_option linter.unusedSimpArgs false

/-- The N rows R, in plain form P, lie in blocks of own. -/
structure RowsK (w : World) (own : Nat → Prop) (G N : Nat) (R : Nat → Rw) (P : Nat → Ro) : Prop where
  g : own G
  b : Blk w G 54 (flL (fun s => (R s).l) N).toArray
  r : ∀ s, s < N → RwK w own (R s) ∧ (R s).ro = P s
theorem RowsK.keep {w w' : World} {own own' : Nat → Prop} {G N : Nat} {R : Nat → Rw} {P : Nat → Ro} (h : RowsK w own G N R P) (ho : ∀ g, own g → own' g) (hk : ∀ g, own g → w'.heap[g]? = w.heap[g]?) : RowsK w' own' G N R P :=
  ⟨ho G h.g, (hk G h.g).trans h.b, fun s hs => ⟨(h.r s hs).1.keep ho hk, (h.r s hs).2⟩⟩
/-- From block lo on, as many as there are. -/
def From (lo : Nat) (w : World) : Nat → Prop := fun g => lo ≤ g ∧ g < w.heap.size
theorem RowsK.on {w w' : World} {lo lo' G N : Nat} {R : Nat → Rw} {P : Nat → Ro} (h : RowsK w (From lo w) G N R P) (hb : Below w.heap.size w w') (hl : lo' ≤ lo) : RowsK w' (From lo' w') G N R P :=
  h.keep (fun g hg => ⟨Nat.le_trans hl hg.1, Nat.lt_of_lt_of_le hg.2 hb.size⟩) fun g hg => hb.block g hg.2
theorem RwK.on {w w' : World} {lo lo' : Nat} {r : Rw} (h : RwK w (From lo w) r) (hb : Below w.heap.size w w') (hl : lo' ≤ lo) : RwK w' (From lo' w') r :=
  h.keep (fun g hg => ⟨Nat.le_trans hl hg.1, Nat.lt_of_lt_of_le hg.2 hb.size⟩) fun g hg => hb.block g hg.2
theorem RowO.rwK {w : World} {lo : Nat} {r : Ro} {L : List Value} (h : RowO w lo r L) (hn : r.n ≤ 16) : ∃ R : Rw, R.l = L ∧ R.ro = r ∧ RwK w (From lo w) R := by
  obtain ⟨A, p, e, h⟩ := h
  refine ⟨⟨r.b, r.c, A, r.n, p, r.T⟩, e.symm, rfl, ?_⟩
  rcases h with h | ⟨g, h1, h2, h3, h4⟩
  · exact .inl h
  · exact .inr ⟨g, h1, h2, hn, ⟨h3, h4.lt⟩, h4⟩
theorem RowsO.rowsK {w : World} {lo G N : Nat} {P : Nat → Ro} {Ls : Nat → List Value} (h : RowsO w lo N P Ls) (hB : Blk w G 54 (flL Ls N).toArray) (hG : lo ≤ G) (hn : ∀ s, s < N → (P s).n ≤ 16) : ∃ R, RowsK w (From lo w) G N R P := by
  have hx : ∀ s, ∃ R : Rw, s < N → R.l = Ls s ∧ R.ro = P s ∧ RwK w (From lo w) R := fun s => by
    by_cases hs : s < N
    · obtain ⟨R, h1⟩ := (h s hs).rwK (hn s hs)
      exact ⟨R, fun _ => h1⟩
    · exact ⟨rwN, fun e => absurd e hs⟩
  refine ⟨fun s => (hx s).choose, ⟨hG, hB.lt⟩, ?_, fun s hs => ⟨((hx s).choose_spec hs).2.2, ((hx s).choose_spec hs).2.1⟩⟩
  rw [flL_congr (h := Ls) fun i hi => ((hx i).choose_spec hi).1]
  exact hB
theorem RowsO.mono {w : World} {lo lo' N : Nat} {P : Nat → Ro} {Ls : Nat → List Value} (h : RowsO w lo N P Ls) (hl : lo' ≤ lo) : RowsO w lo' N P Ls := fun i hi => (h i hi).mono hl
theorem plR_n (N : Nat) (r : Ro) : (plR N r).n ≤ N := by unfold plR; split <;> simp [roN]
theorem norm_k (N : Nat) (hN : N ≤ 16) (A : Option Addr) (m c : Nat) (R : Nat → Rw) (w : World) (hR : LiesR w w.heap.size A m R) :
    Calls Try.prog 76 #[.int .i64 (N : Int), .agg #[.slice A m c]] w fun e w' => ∃ G Q, e = .returned (.agg #[.slice (some ⟨G, 0, none⟩) N N]) ∧ RowsK w' (From w.heap.size w') G N Q (fun i => plR N (fitF R m rwN i).ro) ∧ Below w.heap.size w w' := by
  refine (norm_is N hN A m c R w hR).mono ?_
  rintro e w' ⟨G, Ls, rfl, h1, h2, h3, h4, h5⟩
  obtain ⟨Q, hQ⟩ := (h4.mono (Nat.le_succ_of_le h1)).rowsK h3 h1 (fun s _ => Nat.le_trans (plR_n _ _) hN)
  exact ⟨G, Q, rfl, hQ, h5⟩
def Reg.FactK.nrm {B : Nat} (lo N : Nat) (P : Nat → Ro) : Reg.FactK (Reg.KJ B [] []) := ⟨fun v w => ∃ G R, v = .agg #[.slice (some ⟨G, 0, none⟩) N N] ∧ RowsK w (From lo w) G N R P, fun _ _ w' hb h => by
  obtain ⟨G, R, e, h⟩ := h
  exact ⟨G, R, e, h.keep (fun g hg => ⟨hg.1, Nat.lt_of_lt_of_le hg.2 hb.size⟩) fun g hg => hb.2.1 g hg.2 (by simp)⟩⟩
def Reg.FactK.sln {B : Nat} (lo N : Nat) (P : Nat → Ro) : Reg.FactK (Reg.KJ B [] []) := ⟨fun v w => ∃ G R, v = .slice (some ⟨G, 0, none⟩) N N ∧ RowsK w (From lo w) G N R P, fun _ _ w' hb h => by
  obtain ⟨G, R, e, h⟩ := h
  exact ⟨G, R, e, h.keep (fun g hg => ⟨hg.1, Nat.lt_of_lt_of_le hg.2 hb.size⟩) fun g hg => hb.2.1 g hg.2 (by simp)⟩⟩
def Reg.FactK.wy {B : Nat} (lo N : Nat) (P Q : Nat → Ro) : Reg.FactK (Reg.KJ B [] []) := ⟨fun v w => ∃ G R F S, v = .agg #[.slice (some ⟨G, 0, none⟩) N N, .slice (some ⟨F, 0, none⟩) N N] ∧ RowsK w (From lo w) G N R P ∧ RowsK w (From lo w) F N S Q, fun _ _ w' hb h => by
  obtain ⟨G, R, F, S, e, h, k⟩ := h
  exact ⟨G, R, F, S, e, h.keep (fun g hg => ⟨hg.1, Nat.lt_of_lt_of_le hg.2 hb.size⟩) fun g hg => hb.2.1 g hg.2 (by simp), k.keep (fun g hg => ⟨hg.1, Nat.lt_of_lt_of_le hg.2 hb.size⟩) fun g hg => hb.2.1 g hg.2 (by simp)⟩⟩
set_option maxRecDepth 100000 in
theorem field_word (v : Value) (W : World) : (Instr.field 34 (.agg #[v]) 0).run Try.prog W = .ok v W := by kernel_rfl
set_option maxRecDepth 100000 in
set_option maxHeartbeats 4000000 in
theorem wayOf_is (b N : Nat) (hN : N ≤ 16) (A A' : Option Addr) (m c m' c' : Nat) (R R' : Nat → Rw) (w : World) (h0 : w.cell? ⟨b, 0, none⟩ = some (.int .i64 (N : Int))) (hR : LiesR w w.heap.size A m R) (hR' : LiesR w w.heap.size A' m' R') :
    Calls Try.prog 53 #[.pointer (some ⟨b, 0, none⟩), .agg #[.slice A m c], .agg #[.slice A' m' c']] w fun e w' => ∃ G Q F S, e = .returned (.agg #[.slice (some ⟨G, 0, none⟩) N N, .slice (some ⟨F, 0, none⟩) N N]) ∧ RowsK w' (From w.heap.size w') G N Q (fun i => plR N (fitF R m rwN i).ro) ∧ RowsK w' (From w.heap.size w') F N S (fun i => plR N (fitF R' m' rwN i).ro) ∧ Below w.heap.size w w' := by
  have HC0 := Lib.hid h0
  have HR := Lib.hid hR
  have HR' := Lib.hid hR'
  clear h0 hR hR'
  go_enter Try.func53, Try.ntmps53
  go_upto_region 1 with fail
  refine wp_at (fun U => Blk U w.heap.size 34 #[.slice A m c] ∧ Blk U (w.heap.size + 1) 34 #[.slice A' m' c'] ∧ Blk U (w.heap.size + 1 + 1) 132 #[.slice none 0 0, .slice none 0 0] ∧ Below w.heap.size w U) ?_ ?_
  · refine ⟨((Blk.new w 34 _).alloc _).alloc _, ?_, ?_, below_al (below_al (below_al (Below.refl _ w) _) _) _⟩
    · have := (Blk.new (w.alloc (.cells #[.slice A m c] 34)) 34 #[.slice A' m' c']).alloc (.cells #[.slice none 0 0, .slice none 0 0] 132)
      rwa [alloc_size] at this
    · have := Blk.new ((w.alloc (.cells #[.slice A m c] 34)).alloc (.cells #[.slice A' m' c'] 34)) 132 #[.slice none 0 0, .slice none 0 0]
      rwa [alloc_size, alloc_size] at this
  rintro U ⟨h1, h2, h3, h4⟩
  have H1 := Lib.hid h1
  have H2 := Lib.hid h2
  have H3 := Lib.hid h3
  have H4 := Lib.hid h4
  have H3lt := Lib.hid h3.lt
  clear h1 h2 h3 h4
  go_wp2_with fail
  refine Reg.wp_prefix 15 (by kernel_rfl) (fun t => decide (7 ≤ t) && decide (t ≤ 21)) (Reg.KJ w.heap.size [] []) (Reg.KJ.drew _ (by simp)) Reg.KJ.trans (by kernel_rfl) (by kernel_rfl) (by kernel_rfl) (by kernel_rfl) (fun zz => (Reg.tblK [
    (7, .is (.pointer (some ⟨b, 0, none⟩))),
    (8, .is (.pointer (some ⟨b, 0, none⟩))),
    (9, .is (.pointer (some ⟨b, 0, none⟩))),
    (10, .is (.int .i64 (N : Int))),
    (11, .is (.agg #[.slice A m c])),
    (12, .nrm U.heap.size N (fun i => plR N (fitF R m rwN i).ro)),
    (13, .sln U.heap.size N (fun i => plR N (fitF R m rwN i).ro)),
    (14, .is (.pointer (some ⟨b, 0, none⟩))),
    (15, .is (.pointer (some ⟨b, 0, none⟩))),
    (16, .is (.pointer (some ⟨b, 0, none⟩))),
    (17, .is (.int .i64 (N : Int))),
    (18, .is (.agg #[.slice A' m' c'])),
    (19, .nrm U.heap.size N (fun i => plR N (fitF R' m' rwN i).ro)),
    (20, .sln U.heap.size N (fun i => plR N (fitF R' m' rwN i).ro)),
    (21, .wy U.heap.size N (fun i => plR N (fitF R m rwN i).ro) (fun i => plR N (fitF R' m' rwN i).ro))] zz).P) (fun zz => (Reg.tblK _ zz).on) (fun zz => (Reg.memK [] zz).P) (fun zz => (Reg.memK _ zz).on) ?_ ?_
  · simp only [Reg.frame, Reg.over, Nat.reduceAdd, Nat.reduceLeDiff, decide_true, decide_false, if_true, Bool.false_eq_true, if_false, Bool.and_true, Bool.and_false]
    refine ⟨?_, ?_, ?_, ?_, ?_, ?_, ?_, ?_, ?_, ?_, ?_, ?_, ?_, ?_, ?_, trivial⟩
    · intro x u hku hd
      refine wpOp_step rfl fun KK hK => ?_
      go_simp
      exact hK _ _ ⟨_, rfl, Reg.KJ.refl _, fun d hd => by cases hd; exact rfl, fun h => by cases h⟩
    · intro x u hku hd
      have h7 : x 7 = .pointer (some ⟨b, 0, none⟩) := hd 0 (by decide)
      have c0 : u.cell? ⟨b, 0, none⟩ = some (.int .i64 (N : Int)) := (hku.1.cell (p := ⟨b, 0, none⟩) (cell_ltT HC0.out)).trans (belowW H4.out HC0.out)
      have lb := cell_ltT c0
      refine wpOp_step rfl fun KK hK => ?_
      simp only [h7] at hK ⊢
      go_simp
      exact hK _ _ ⟨_, rfl, Reg.KJ.refl _, fun d hd => by cases hd; exact rfl, fun h => by cases h⟩
    · intro x u hku hd
      have h8 : x 8 = .pointer (some ⟨b, 0, none⟩) := hd 1 (by decide)
      have c0 : u.cell? ⟨b, 0, none⟩ = some (.int .i64 (N : Int)) := (hku.1.cell (p := ⟨b, 0, none⟩) (cell_ltT HC0.out)).trans (belowW H4.out HC0.out)
      have lb := cell_ltT c0
      refine wpOp_step rfl fun KK hK => ?_
      simp only [h8] at hK ⊢
      go_simp
      exact hK _ _ ⟨_, rfl, Reg.KJ.refl _, fun d hd => by cases hd; exact rfl, fun h => by cases h⟩
    · intro x u hku hd
      have h9 : x 9 = .pointer (some ⟨b, 0, none⟩) := hd 2 (by decide)
      have c0 : u.cell? ⟨b, 0, none⟩ = some (.int .i64 (N : Int)) := (hku.1.cell (p := ⟨b, 0, none⟩) (cell_ltT HC0.out)).trans (belowW H4.out HC0.out)
      have lb := cell_ltT c0
      refine wpOp_step rfl fun KK hK => ?_
      simp only [h9] at hK ⊢
      go_simp
      exact hK _ _ ⟨_, rfl, Reg.KJ.refl _, fun d hd => by cases hd; exact rfl, fun h => by cases h⟩
    · intro x u hku hd
      have c1 := (hku.blk (by simp) H1.out).cell 0
      have l1 := (hku.blk (by simp) H1.out).lt
      refine wpOp_step rfl fun KK hK => ?_
      go_simp
      exact hK _ _ ⟨_, rfl, Reg.KJ.refl _, fun d hd => by cases hd; exact rfl, fun h => by cases h⟩
    · intro x u hku hd
      have h10 : x 10 = .int .i64 (N : Int) := hd 3 (by decide)
      have h11 : x 11 = .agg #[.slice A m c] := hd 4 (by decide)
      refine wpOp_step rfl fun KK hK => ?_
      simp only [h10, h11] at hK ⊢
      go_simp
      have hwu : Below w.heap.size w u := H4.out.trans hku.1
      go_at_call 76
      (with_reducible refine (norm_k N hN _ _ _ R _ (HR.out.on hwu)).mono ?_)
      rintro e u' ⟨G, Q, rfl, q1, q2⟩
      exact hK _ _ ⟨_, rfl, Reg.KJ.grow (by simp) hwu.size q2, fun d hd => by cases hd; exact ⟨G, Q, rfl, q1.keep (fun g hg => ⟨Nat.le_trans hku.size hg.1, hg.2⟩) fun _ _ => rfl⟩, fun h => by cases h⟩
    · intro x u hku hd
      have k12 : (Reg.FactK.nrm U.heap.size N (fun i => plR N (fitF R m rwN i).ro) : Reg.FactK (Reg.KJ w.heap.size [] [])).P (x 12) u := hd 5 (by decide)
      obtain ⟨G12, R12, h12, q12⟩ := k12
      have hf := fun W => field_word (.slice (some ⟨G12, 0, none⟩) N N) W
      refine wpOp_step rfl fun KK hK => ?_
      simp only [h12] at hK ⊢
      go_simp
      exact hK _ _ ⟨_, rfl, Reg.KJ.refl _, fun d hd => by cases hd; exact ⟨_, _, rfl, q12⟩, fun h => by cases h⟩
    · intro x u hku hd
      refine wpOp_step rfl fun KK hK => ?_
      go_simp
      exact hK _ _ ⟨_, rfl, Reg.KJ.refl _, fun d hd => by cases hd; exact rfl, fun h => by cases h⟩
    · intro x u hku hd
      have h14 : x 14 = .pointer (some ⟨b, 0, none⟩) := hd 7 (by decide)
      have c0 : u.cell? ⟨b, 0, none⟩ = some (.int .i64 (N : Int)) := (hku.1.cell (p := ⟨b, 0, none⟩) (cell_ltT HC0.out)).trans (belowW H4.out HC0.out)
      have lb := cell_ltT c0
      refine wpOp_step rfl fun KK hK => ?_
      simp only [h14] at hK ⊢
      go_simp
      exact hK _ _ ⟨_, rfl, Reg.KJ.refl _, fun d hd => by cases hd; exact rfl, fun h => by cases h⟩
    · intro x u hku hd
      have h15 : x 15 = .pointer (some ⟨b, 0, none⟩) := hd 8 (by decide)
      have c0 : u.cell? ⟨b, 0, none⟩ = some (.int .i64 (N : Int)) := (hku.1.cell (p := ⟨b, 0, none⟩) (cell_ltT HC0.out)).trans (belowW H4.out HC0.out)
      have lb := cell_ltT c0
      refine wpOp_step rfl fun KK hK => ?_
      simp only [h15] at hK ⊢
      go_simp
      exact hK _ _ ⟨_, rfl, Reg.KJ.refl _, fun d hd => by cases hd; exact rfl, fun h => by cases h⟩
    · intro x u hku hd
      have h16 : x 16 = .pointer (some ⟨b, 0, none⟩) := hd 9 (by decide)
      have c0 : u.cell? ⟨b, 0, none⟩ = some (.int .i64 (N : Int)) := (hku.1.cell (p := ⟨b, 0, none⟩) (cell_ltT HC0.out)).trans (belowW H4.out HC0.out)
      have lb := cell_ltT c0
      refine wpOp_step rfl fun KK hK => ?_
      simp only [h16] at hK ⊢
      go_simp
      exact hK _ _ ⟨_, rfl, Reg.KJ.refl _, fun d hd => by cases hd; exact rfl, fun h => by cases h⟩
    · intro x u hku hd
      have c1 := (hku.blk (by simp) H2.out).cell 0
      have l1 := (hku.blk (by simp) H2.out).lt
      refine wpOp_step rfl fun KK hK => ?_
      go_simp
      exact hK _ _ ⟨_, rfl, Reg.KJ.refl _, fun d hd => by cases hd; exact rfl, fun h => by cases h⟩
    · intro x u hku hd
      have h17 : x 17 = .int .i64 (N : Int) := hd 10 (by decide)
      have h18 : x 18 = .agg #[.slice A' m' c'] := hd 11 (by decide)
      refine wpOp_step rfl fun KK hK => ?_
      simp only [h17, h18] at hK ⊢
      go_simp
      have hwu : Below w.heap.size w u := H4.out.trans hku.1
      go_at_call 76
      (with_reducible refine (norm_k N hN _ _ _ R' _ (HR'.out.on hwu)).mono ?_)
      rintro e u' ⟨G, Q, rfl, q1, q2⟩
      exact hK _ _ ⟨_, rfl, Reg.KJ.grow (by simp) hwu.size q2, fun d hd => by cases hd; exact ⟨G, Q, rfl, q1.keep (fun g hg => ⟨Nat.le_trans hku.size hg.1, hg.2⟩) fun _ _ => rfl⟩, fun h => by cases h⟩
    · intro x u hku hd
      have k19 : (Reg.FactK.nrm U.heap.size N (fun i => plR N (fitF R' m' rwN i).ro) : Reg.FactK (Reg.KJ w.heap.size [] [])).P (x 19) u := hd 12 (by decide)
      obtain ⟨G19, R19, h19, q19⟩ := k19
      have hf := fun W => field_word (.slice (some ⟨G19, 0, none⟩) N N) W
      refine wpOp_step rfl fun KK hK => ?_
      simp only [h19] at hK ⊢
      go_simp
      exact hK _ _ ⟨_, rfl, Reg.KJ.refl _, fun d hd => by cases hd; exact ⟨_, _, rfl, q19⟩, fun h => by cases h⟩
    · intro x u hku hd
      have k13 : (Reg.FactK.sln U.heap.size N (fun i => plR N (fitF R m rwN i).ro) : Reg.FactK (Reg.KJ w.heap.size [] [])).P (x 13) u := hd 6 (by decide)
      obtain ⟨G13, R13, h13, q13⟩ := k13
      have k20 : (Reg.FactK.sln U.heap.size N (fun i => plR N (fitF R' m' rwN i).ro) : Reg.FactK (Reg.KJ w.heap.size [] [])).P (x 20) u := hd 13 (by decide)
      obtain ⟨G20, R20, h20, q20⟩ := k20
      refine wpOp_step rfl fun KK hK => ?_
      simp only [h13, h20] at hK ⊢
      go_simp
      exact hK _ _ ⟨_, rfl, Reg.KJ.refl _, fun d hd => by cases hd; exact ⟨_, _, _, _, rfl, q13, q20⟩, fun h => by cases h⟩
  · intro x u hku hd
    have k21 := hd 14 (by decide)
    obtain ⟨G, Q, F, S, h21, q1, q2⟩ := k21
    have h21' : x 21 = .agg #[.slice (some ⟨G, 0, none⟩) N N, .slice (some ⟨F, 0, none⟩) N N] := h21
    have hb3 := hku.blk (by simp) H3.out
    have HB3 := Lib.hid hb3
    have l3 := hb3.lt
    have c30 := hb3.cell 0
    have c31 := hb3.cell 1
    have f30 := hb3.frozen 0
    have f31 := hb3.frozen 1
    have HU := Lib.hid (H4.out.trans hku.1)
    have HQ1 := Lib.hid q1
    have HQ2 := Lib.hid q2
    clear hku hd h21 q1 q2 hb3
    simp only [Reg.frame, Reg.over, Nat.reduceAdd, Nat.reduceLeDiff, decide_true, decide_false, if_true, Bool.false_eq_true, if_false, Bool.and_true, Bool.and_false, h21']
    go_wp2_with fail
    have hbut : But (w.heap.size + 1 + 1) u ((u.setCell ⟨w.heap.size + 1 + 1, 0, none⟩ (.slice (some ⟨G, 0, none⟩) N N)).setCell ⟨w.heap.size + 1 + 1, 1, none⟩ (.slice (some ⟨F, 0, none⟩) N N)) := (But.one 0 _).trans (But.one 1 _)
    have HG3 : Hid (w.heap.size + 1 + 1 < U.heap.size) := H3lt
    have hk : ∀ g, From U.heap.size u g → ((u.setCell ⟨w.heap.size + 1 + 1, 0, none⟩ (.slice (some ⟨G, 0, none⟩) N N)).setCell ⟨w.heap.size + 1 + 1, 1, none⟩ (.slice (some ⟨F, 0, none⟩) N N)).heap[g]? = u.heap[g]? := fun g hg => hbut.2 g hg.2 (by have := hg.1; have := HG3.out; omega)
    have ho : ∀ g, From U.heap.size u g → From w.heap.size ((u.setCell ⟨w.heap.size + 1 + 1, 0, none⟩ (.slice (some ⟨G, 0, none⟩) N N)).setCell ⟨w.heap.size + 1 + 1, 1, none⟩ (.slice (some ⟨F, 0, none⟩) N N)) g := fun g hg => ⟨by have := hg.1; have := HG3.out; omega, by have := hg.2; simpa using this⟩
    exact bodyPost_ret (v := .agg #[.slice (some ⟨G, 0, none⟩) N N, .slice (some ⟨F, 0, none⟩) N N]) (by simp [results, Try.results53, go_sem, c30, c31]) rfl ⟨G, Q, F, S, rfl, HQ1.out.keep ho hk, HQ2.out.keep ho hk, HU.out.trans (hbut.low (by omega))⟩
end Go.Proofs.Ytcangipaoancnaa

