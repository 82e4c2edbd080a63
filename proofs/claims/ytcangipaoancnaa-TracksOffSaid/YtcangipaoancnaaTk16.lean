/-
  The law's example: lives returns true. No condition.
-/
import Derived.Test.YtcangipaoancnaaTk14
namespace Go.Proofs.Ytcangipaoancnaa
open Go.RowKit
set_option linter.unusedVariables false
set_option linter.unusedSimpArgs false

theorem certS_none_b (R : Nat → Rw) : ∀ (m : Nat), (∀ i, i < m → (R i).b = false) → certS R m = some rwN
  | 0, _ => rfl
  | m + 1, h => by
    rw [certS, certS_none_b R m fun i hi => h i (by omega)]
    simp [h m (by omega)]
theorem certM_none_b (R : Nat → Rw) (m : Nat) (h : ∀ i, i < m → (R i).b = false) : (certM R m).ro.b = false := by
  rw [certM, certS_none_b R m h]
  rfl
theorem exCps0 (t : Nat → Tk) : cpsR 4 1 t (List.range 4) 0 = [(t 1).nR 0 0, (t 3).fR 1 0, (t 3).nR 1 0] := rfl
theorem exCps2 (t : Nat → Tk) : cpsR 4 1 t (List.range 4) 2 = [(t 1).nR 1 2, (t 3).fR 0 2, (t 3).nR 0 2] := rfl
theorem held_none {E : Nat} {T : Nat → Tk} {s : Nat} {a b c : Rw} (hE : 4 ≤ E) (h : cpsR 4 1 (fun k => T (E - 4 + k)) (List.range 4) s = [a, b, c]) (ha : a.b = false) (hb : b.b = false) (hc : c.b = false) : (heldR 4 1 E T s).b = false := by
  unfold heldR
  rw [if_neg (by omega)]
  have hn : cpsN 4 1 (List.range 4) s = 3 := by rw [← cpsR_n 4 1 (fun k => T (E - 4 + k)), h]; rfl
  rw [hn]
  refine certM_none_b _ _ fun i hi => ?_
  unfold cpsF
  rw [h]
  rcases (show i = 0 ∨ i = 1 ∨ i = 2 by omega) with rfl | rfl | rfl
  · exact ha
  · exact hb
  · exact hc
theorem held_two {E : Nat} {T : Nat → Tk} {s : Nat} {a b c : Rw} {X : Ro} (hE : 4 ≤ E) (h : cpsR 4 1 (fun k => T (E - 4 + k)) (List.range 4) s = [a, b, c]) (hX : X.b = true) (ha : a.ro = X) (hb : b.ro = X) (hc : c.ro = roN) : heldR 4 1 E T s = X := by
  unfold heldR
  rw [if_neg (by omega)]
  have hn : cpsN 4 1 (List.range 4) s = 3 := by rw [← cpsR_n 4 1 (fun k => T (E - 4 + k)), h]; rfl
  rw [hn]
  have h0 : cpsF 4 1 (fun k => T (E - 4 + k)) s 0 = a := by unfold cpsF; rw [h]; rfl
  have h1 : cpsF 4 1 (fun k => T (E - 4 + k)) s 1 = b := by unfold cpsF; rw [h]; rfl
  have h2 : cpsF 4 1 (fun k => T (E - 4 + k)) s 2 = c := by unfold cpsF; rw [h]; rfl
  obtain ⟨F, hF⟩ : ∃ F, F = cpsF 4 1 (fun k => T (E - 4 + k)) s := ⟨_, rfl⟩
  rw [← hF] at h0 h1 h2 ⊢
  have hbb : b.b = true := by rw [show b.b = b.ro.b from rfl, hb, hX]
  have hcb : c.b = false := by rw [show c.b = c.ro.b from rfl, hc]; rfl
  have s1 : certS F 1 = some rwN := by simp [certS, amongM, allE]
  have s2 : certS F 2 = some b := by
    rw [certS, s1]
    simp [h1, hbb, amongM, h0, hb, ha, eqR_self, rwN]
  have s3 : certS F 3 = some b := by
    rw [certS, s2]
    simp [h2, hcb]
  rw [certM, s3]
  exact hb
end Go.Proofs.Ytcangipaoancnaa

namespace Go.Proofs.Ytcangipaoancnaa
open Go.RowKit
set_option linter.unusedVariables false
set_option linter.unusedSimpArgs false

def c7 : Ce := { ceN with a := 7 }
/-- The example's row. -/
def rE (g : Nat) : Rw := ⟨true, c7, some ⟨g, 0, none⟩, 4, 4, fun _ => heN⟩
def wE : Ro := ⟨true, c7, 4, fun _ => heN⟩
theorem plE (g : Nat) : eqR (plR 4 (rE g).ro) wE = true := by
  rw [eqR_iff]
  exact ⟨rfl, rfl, rfl, fun i hi => by show plH (fitH (fun _ => heN) 4 i) = heN; unfold fitH; split <;> rfl⟩
theorem plE_b (g : Nat) : (plR 4 (rE g).ro).b = true := rfl
/-- What the law knows of memory: the lane, the row, the word. -/
structure LE (w : World) (b g3 g4 gR gT : Nat) (own : Nat → Prop) (E : Nat) (T : Nat → Tk) (nw : Option Tk) (V : World) : Prop where
  l : LaneS V own b 4 1 E T nw
  t3 : Blk V g3 54 (rE gT).l.toArray
  t4 : Blk V g4 34 #[.slice (some ⟨gR, 0, none⟩) 1 1]
  gr : Blk V gR 54 (rE gT).l.toArray
  gt : Blk V gT 102 (hesL (fun _ => heN) 4).toArray
  lt : w.heap.size ≤ b ∧ b < g3 ∧ b < g4 ∧ b < gR ∧ b < gT
  bb : Below w.heap.size w V
section
variable {w V V' : World} {b g3 g4 gR gT : Nat} {own own' : Nat → Prop} {E E' : Nat} {T T' : Nat → Tk} {nw nw' : Option Tk}
theorem LE.but (h : LE w b g3 g4 gR gT own E T nw V) (hb : But b V V') (hl : LaneS V' own' b 4 1 E' T' nw') : LE w b g3 g4 gR gT own' E' T' nw' V' := by
  obtain ⟨h0, h1, h2, h3, h4⟩ := h.lt
  exact ⟨hl, hb.blk h.t3 (by omega), hb.blk h.t4 (by omega), hb.blk h.gr (by omega), hb.blk h.gt (by omega), h.lt, h.bb.trans (hb.low h0)⟩
theorem LE.on (h : LE w b g3 g4 gR gT own E T nw V) (hb : Below V.heap.size V V') : LE w b g3 g4 gR gT own E T nw V' :=
  ⟨h.l.on hb, h.t3.on hb, h.t4.on hb, h.gr.on hb, h.gt.on hb, h.lt, below_then h.bb hb⟩
theorem LE.tab (h : LE w b g3 g4 gR gT own E T nw V) : LiesH V V.heap.size (rE gT).A (rE gT).n (rE gT).T := Blk.liesH_ h.gt
theorem LE.rows (h : LE w b g3 g4 gR gT own E T nw V) (hb : But b V V') : LiesR V' V'.heap.size (some ⟨gR, 0, none⟩) 1 (fun _ => rE gT) := by
  obtain ⟨h0, h1, h2, h3, h4⟩ := h.lt
  have hg := hb.blk h.gr (by omega)
  have ht := hb.blk h.gt (by omega)
  exact ⟨Blk.liesF (by decide) (fun _ => Rw.l_len _) (by simpa [flL] using hg), fun i hi => Blk.liesH_ ht⟩
theorem hearE (h : LE w b g3 g4 gR gT own E T nw V) : Calls Try.prog 19 #[.pointer (some ⟨b, 0, none⟩), .agg #[.slice none 0 0, .slice none 0 0, .slice none 0 0, .slice none 0 0]] V (HearQ V own b 4 1 (endE nw E) (endT nw E T) (fun _ => 0) (fun _ _ => rwN)) :=
  hear_is own b 4 1 E T nw (fun _ => none) (fun _ => 0) (fun _ => 0) (fun _ _ => rwN) V h.l (fun u hu i hi => ⟨fun h0 => absurd h0 (by decide), fun j hj => absurd hj (by omega)⟩)
theorem hearN (h : LE w b g3 g4 gR gT own E T nw V) : Calls Try.prog 19 #[.pointer (some ⟨b, 0, none⟩), .agg #[.slice (some ⟨gR, 0, none⟩) 1 1, .slice none 0 0, .slice none 0 0, .slice none 0 0]] V (HearQ V own b 4 1 (endE nw E) (endT nw E T) (fun i => if i = 0 then 1 else 0) (fun _ _ => rE gT)) :=
  hear_is own b 4 1 E T nw (fun i => if i = 0 then some ⟨gR, 0, none⟩ else none) (fun i => if i = 0 then 1 else 0) (fun i => if i = 0 then 1 else 0) (fun _ _ => rE gT) V h.l (fun u hu i hi => by
    by_cases e : i = 0
    · simp only [e, if_true]; exact h.rows hu
    · simp only [e, if_false]; exact ⟨fun h0 => absurd h0 (by decide), fun j hj => absurd hj (by omega)⟩)
theorem hearF (h : LE w b g3 g4 gR gT own E T nw V) : Calls Try.prog 19 #[.pointer (some ⟨b, 0, none⟩), .agg #[.slice none 0 0, .slice none 0 0, .slice none 0 0, .slice (some ⟨gR, 0, none⟩) 1 1]] V (HearQ V own b 4 1 (endE nw E) (endT nw E T) (fun i => if i = 3 then 1 else 0) (fun _ _ => rE gT)) :=
  hear_is own b 4 1 E T nw (fun i => if i = 3 then some ⟨gR, 0, none⟩ else none) (fun i => if i = 3 then 1 else 0) (fun i => if i = 3 then 1 else 0) (fun _ _ => rE gT) V h.l (fun u hu i hi => by
    by_cases e : i = 3
    · simp only [e, if_true]; exact h.rows hu
    · simp only [e, if_false]; exact ⟨fun h0 => absurd h0 (by decide), fun j hj => absurd hj (by omega)⟩)
theorem sayE {t : Tk} (h : LE w b g3 g4 gR gT own E T (some t) V) : Calls Try.prog 23 #[.pointer (some ⟨b, 0, none⟩), .agg rwN.l.toArray] V (SayQ V own b 4 1 E T t rwN) := say_is own b 4 1 E T t rwN V h.l fun u hu => LiesH.nil_
end
/-- .. the words that went out, too. -/
structure LE2 (w : World) (b g3 g4 gR gT : Nat) (own : Nat → Prop) (E : Nat) (T : Nat → Tk) (nw : Option Tk) (g5 g6 H1 H2 : Nat) (M1 M2 : Nat → List Value) (Q1 : Rw) (V : World) : Prop where
  le : LE w b g3 g4 gR gT own E T nw V
  b5 : Blk V g5 34 #[.slice (some ⟨H1, 0, none⟩) 4 4]
  b6 : Blk V g6 34 #[.slice (some ⟨H2, 0, none⟩) 4 4]
  m1 : Blk V H1 54 (flL M1 4).toArray
  m2 : Blk V H2 54 (flL M2 4).toArray
  q : Good V Q1
theorem LE2.on {w V V' : World} {b g3 g4 gR gT g5 g6 H1 H2 : Nat} {own : Nat → Prop} {E : Nat} {T : Nat → Tk} {nw : Option Tk} {M1 M2 : Nat → List Value} {Q1 : Rw} (h : LE2 w b g3 g4 gR gT own E T nw g5 g6 H1 H2 M1 M2 Q1 V) (hb : Below V.heap.size V V') : LE2 w b g3 g4 gR gT own E T nw g5 g6 H1 H2 M1 M2 Q1 V' :=
  ⟨h.le.on hb, h.b5.on hb, h.b6.on hb, h.m1.on hb, h.m2.on hb, h.q.on hb⟩
theorem TkOf.none_n {m : Nat → Nat} {R : Nat → Nat → Rw} {t : Tk} (h : TkOf 4 m R t) {d s : Nat} (hd : d < 2) (hs : s < 4) (hm : ¬ s < m (2 * d)) : (t.nR d s).ro = roN := by
  rw [h.n d s hd hs, fitF, if_neg hm]; rfl
theorem TkOf.none_f {m : Nat → Nat} {R : Nat → Nat → Rw} {t : Tk} (h : TkOf 4 m R t) {d s : Nat} (hd : d < 2) (hs : s < 4) (hm : ¬ s < m (2 * d + 1)) : (t.fR d s).ro = roN := by
  rw [h.f d s hd hs, fitF, if_neg hm]; rfl
theorem TkOf.some_n {m : Nat → Nat} {R : Nat → Nat → Rw} {t : Tk} (h : TkOf 4 m R t) {d s : Nat} (hd : d < 2) (hs : s < 4) (hm : s < m (2 * d)) : (t.nR d s).ro = plR 4 (R (2 * d) s).ro := by
  rw [h.n d s hd hs, fitF, if_pos hm]
theorem TkOf.some_f {m : Nat → Nat} {R : Nat → Nat → Rw} {t : Tk} (h : TkOf 4 m R t) {d s : Nat} (hd : d < 2) (hs : s < 4) (hm : s < m (2 * d + 1)) : (t.fR d s).ro = plR 4 (R (2 * d + 1) s).ro := by
  rw [h.f d s hd hs, fitF, if_pos hm]
theorem ro_b {r : Rw} (h : r.ro = roN) : r.b = false := by rw [show r.b = r.ro.b from rfl, h]; rfl
/-- A row that was handed out, as one with an address. -/
theorem RowsO.rw_ {w : World} {lo n : Nat} {P : Nat → Ro} {Ls : Nat → List Value} (h : RowsO w lo n P Ls) {i : Nat} (hi : i < n) (hn : (P i).n ≤ 16) : ∃ Q : Rw, Q.l = Ls i ∧ Q.ro = P i ∧ Good w Q := by
  obtain ⟨Q, h1, h2, h3⟩ := (h i hi).rwK hn
  exact ⟨Q, h1, h2, h3.good⟩
theorem row_bool {w : World} {G n i : Nat} {Ls : Nat → List Value} (h : Blk w G 54 (flL Ls n).toArray) (hl : ∀ i, (Ls i).length = 57) (hi : i < n) {Q : Rw} (hQ : Q.l = Ls i) : w.cell? ⟨G, i * 57, none⟩ = some (.bool Q.b) := by
  have := (h.cell (i * 57 + 0)).trans (by rw [List.getElem?_toArray, flL_get hl hi 0 (by decide), ← hQ]; rfl : _ = some (Value.bool Q.b))
  exact this
theorem row_boolO {w : World} {G n i lo : Nat} {P : Nat → Ro} {Ls : Nat → List Value} (h : Blk w G 54 (flL Ls n).toArray) (hl : ∀ i, (Ls i).length = 57) (hi : i < n) (hO : RowsO w lo n P Ls) : w.cell? ⟨G, i * 57, none⟩ = some (.bool (P i).b) := by
  obtain ⟨A, p, e, _⟩ := hO i hi
  have := (h.cell (i * 57 + 0)).trans (by rw [List.getElem?_toArray, flL_get hl hi 0 (by decide), e]; rfl : _ = some (Value.bool (P i).b))
  exact this
theorem row_range {w : World} {G n i : Nat} {Ls : Nat → List Value} (h : Blk w G 54 (flL Ls n).toArray) (hl : ∀ i, (Ls i).length = 57) (hi : i < n) {Q : Rw} (hQ : Q.l = Ls i) : w.rangeAt G (i * 57) Q.l := by
  intro j v hv
  have hj : j < 57 := by have := (List.getElem?_eq_some_iff.1 hv).1; rwa [Rw.l_len] at this
  rw [h.cell, List.getElem?_toArray, flL_get hl hi j hj, ← hQ]
  exact hv
set_option maxRecDepth 100000 in
theorem built_ins0 : (Try.prog).built 36 [] = some #[.slice none 0 0, .slice none 0 0, .slice none 0 0, .slice none 0 0] := by kernel_rfl
set_option maxRecDepth 100000 in
theorem built_insN (g : Nat) : (Try.prog).built 36 [(0, .agg #[.slice (some ⟨g, 0, none⟩) 1 1])] = some #[.slice (some ⟨g, 0, none⟩) 1 1, .slice none 0 0, .slice none 0 0, .slice none 0 0] := by kernel_rfl
set_option maxRecDepth 100000 in
theorem built_insF (g : Nat) : (Try.prog).built 36 [(3, .agg #[.slice (some ⟨g, 0, none⟩) 1 1])] = some #[.slice none 0 0, .slice none 0 0, .slice none 0 0, .slice (some ⟨g, 0, none⟩) 1 1] := by kernel_rfl
set_option maxRecDepth 100000 in
theorem built_c7 : (Try.prog).built 51 [(0, .int .i64 7)] = some (ceL c7).toArray := by kernel_rfl
set_option maxRecDepth 100000 in
set_option maxHeartbeats 4000000 in
theorem lives_tk (w : World) : Calls Try.prog 14 #[] w fun e w' => e = .returned (.bool true) ∧ Below w.heap.size w w' := by
  obtain ⟨i0, hi0, hz0, hz1, hz2⟩ := info_parts infoRow
  have HI := Lib.hid hi0
  have HZ0 := Lib.hid hz0
  have HZ1 := Lib.hid hz1
  obtain ⟨j0, hj0, hy0, hy1, hy2⟩ := info_parts infoHeld
  have HJ := Lib.hid hj0
  have HY0 := Lib.hid hy0
  have HY1 := Lib.hid hy1
  have HY2 := Lib.hid hy2
  clear hi0 hz0 hz1 hz2 hj0 hy0 hy1 hy2
  have HNEW : Hid (Calls Try.prog 15 #[.int .i64 4, .int .i64 1] w fun e w' => e = .returned (.tuple #[.pointer (some ⟨w.heap.size, 0, none⟩), .int .i64 0]) ∧ LaneS w' (fun _ => False) w.heap.size 4 1 0 (fun _ => tkN) none ∧ Below w.heap.size w w') := Lib.hid (new_yes 4 1 (by decide) (by decide) w)
  go_enter Try.func14, Try.ntmps14
  go_upto_region 2 with (go_at_call 15; (with_reducible refine HNEW.out.mono ?_); rintro e w1 ⟨rfl, q1, q2⟩; have HL0 := Lib.hid q1; have HB0 := Lib.hid q2; clear q1 q2)
  clear HNEW
  obtain ⟨b, hb⟩ : ∃ b, b = w.heap.size := ⟨_, rfl⟩
  have HBE := Lib.hid hb
  rw [← hb] at HL0 ⊢
  clear hb
  have HBT := Lib.hid built_c7
  have HBR := Lib.hid (fun g => built_row true c7 (some ⟨g, 0, none⟩) 4 4)
  go_upto_region 3 with (first
    | (refine wpList_build rfl 51 _ rfl (ceL c7).toArray (by simpa [Act.eval, Act.put] using HBT.out) ?_)
    | (refine wpList_make_flat rfl (.const (.int .i64 4)) (.const (.int .i64 4)) 52 rfl 102 j0 _ (heL heN) 136 56 elemHelds HJ.out HY0.out rfl HY1.out HY2.out (heL_len _) (by decide) 4 4 (by simp [Act.eval]) (by simp [Act.eval]) (Nat.le_refl _) (by omega) (by omega) ?_; intro w2 hB1 hb1 hs1; have HGT := Lib.hid hB1; have HB1 := Lib.hid hb1; have HZN : Hid (∀ Z : Array Value, Z.size = 57 → PIn (w2.alloc (.cells Z 54)) w2.heap.size 0 54 [] [] Z.toList ∧ Z.toList.length = 57) := Lib.hid (fun Z hZ => ⟨Blk.pin (by simpa using Blk.new w2 54 Z), by simpa using hZ⟩); clear hB1 hb1 hs1)
    | (refine wpList_build rfl 54 _ rfl (roL true c7 (some ⟨w1.heap.size, 0, none⟩) 4 4).toArray (by simpa [Act.eval, Act.put] using HBR.out w1.heap.size) ?_)
    | (refine wpList_store_pin rfl 54 (.tmp 3) (.tmp 17) rfl (HZN.out _ rfl).1 (rE w1.heap.size).l (by simp [Act.eval, Act.put]) (by simp [Act.eval, Act.put]; rfl) 57 size_row (HZN.out _ rfl).2 (Rw.l_len _) (roL_one _ _ _ _ _) ?_; intro w3 p1 b1; have HP1 := Lib.hid p1; have HB2 := Lib.hid b1; clear p1 b1))
  have HP1b := Lib.hid (HP1.out.blk_)
  have HL3 : Hid (LaneS w3 (fun _ => False) b 4 1 0 (fun _ => tkN) none ∧ Blk w3 w1.heap.size 102 (hesL (fun _ => heN) 4).toArray ∧ Below w.heap.size w w3) := Lib.hid (by
    have hbl := HL0.out.blt
    have h12 := HB1.out.size
    have hg := HGT.out.lt
    refine ⟨LaneS.but (HL0.out.on (below_al HB1.out _)) HB2.out (by omega) (fun e => e), HB2.out.blk (HGT.out.alloc _) (by omega), (below_al (below_then HB0.out HB1.out) _).trans (HB2.out.low ?_)⟩
    have := HB0.out.size
    omega)
  have HLT : Hid (b < w1.heap.size ∧ b < w2.heap.size) := Lib.hid ⟨HL0.out.blt, by have := HL0.out.blt; have := HB1.out.size; omega⟩
  obtain ⟨gT, hgT⟩ : ∃ gT, gT = w1.heap.size := ⟨_, rfl⟩
  obtain ⟨g3, hg3⟩ : ∃ g3, g3 = w2.heap.size := ⟨_, rfl⟩
  rw [← hgT] at HL3 HLT HP1b ⊢
  rw [← hg3] at HLT HP1b ⊢
  clear hgT hg3 HP1 HB2 HZN HGT HB1 HL0 HBT HBR HJ HY0 HY1 HY2
  have HBS : Hid (∀ u : World, (Instr.buildSlice 32 1 #[(0, .agg (rE gT).l.toArray)]).run Try.prog u = .ok (.slice (some ⟨u.heap.size, 0, none⟩) 1 1) (u.alloc (.cells (rE gT).l.toArray 54))) := Lib.hid (fun u => run_bsl_one (P := Try.prog) u 32 54 i0 (roL false ceN none 0 0) 57 elemRows HI.out HZ0.out HZ1.out (roL_len _ _ _ _ _) (by decide) (by decide) (rE gT).l (Rw.l_len _))
  go_upto_region 4 with (first
    | (refine wpList_load_mid rfl 54 (.tmp 3) rfl g3 0 (by simp [Act.eval, Act.put]) (rE gT).l _ HP1b.out.pin.range Try.underlying54 rfl (by rw [size_row, Rw.l_len]) ?_)
    | (refine wpList_bsl rfl 32 1 _ rfl #[(0, .agg (rE gT).l.toArray)] (by simp [Act.eval, Act.put]) _ _ (HBS.out _) ?_))
  refine wp_at (LE w b g3 (w3.heap.size + 1) w3.heap.size gT (fun _ => False) 0 (fun _ => tkN) none) ?_ ?_
  · have h1 := HP1b.out.lt
    have h2 := HL3.out.1.blt
    refine ⟨(HL3.out.1.on (below_al (Below.refl _ _) _)).on (below_al (Below.refl _ _) _), (HP1b.out.alloc _).alloc _, ?_, (Blk.new w3 _ _).alloc _, (HL3.out.2.1.alloc _).alloc _, ⟨by rw [HBE.out]; exact Nat.le_refl _, HLT.out.2, by omega, h2, HLT.out.1⟩, below_al (below_al HL3.out.2.2 _) _⟩
    have := Blk.new (w3.alloc (.cells (rE gT).l.toArray 54)) 34 #[.slice (some ⟨w3.heap.size, 0, none⟩) 1 1]
    rwa [alloc_size] at this
  intro V0 hV0
  obtain ⟨g4, hg4⟩ : ∃ g4, g4 = w3.heap.size + 1 := ⟨_, rfl⟩
  obtain ⟨gR, hgR⟩ : ∃ gR, gR = w3.heap.size := ⟨_, rfl⟩
  rw [← hg4] at hV0 ⊢
  rw [← hgR] at hV0
  have HV0 := Lib.hid hV0
  have HI0 := Lib.hid built_ins0
  have HIN := Lib.hid (built_insN gR)
  have HIF := Lib.hid (built_insF gR)
  have HBR0 := Lib.hid built_row0
  clear hV0 hg4 hgR HL3 HLT HP1b HBS HBE
  go_upto_region 5 with (first
    | (refine wpList_build rfl 36 _ rfl _ (by simpa [Act.eval, Act.put] using HI0.out) ?_)
    | (go_at_call 19; (with_reducible refine (hearE HV0.out).mono ?_); rintro e V1 ⟨lo0, mid0, t0, G0, Ls0, _, _, _, _, hl, rfl, _, _, _, hb⟩; have HV1 := Lib.hid (HV0.out.but hb hl); clear hl hb))
  clear HV0
  have c4 := HV1.out.t4.cell 0
  have l4 := HV1.out.t4.lt
  go_upto_region 6 with (first
    | (refine wpList_build rfl 36 _ rfl _ (by simpa [Act.eval, Act.put] using HIN.out) ?_)
    | (go_at_call 19; (with_reducible refine (hearN HV1.out).mono ?_); rintro e V2 ⟨lo1, mid1, t1, G1, Ls1, _, _, _, ht, hl, rfl, _, _, _, hb⟩; have HT1 := Lib.hid ht; have HV2 := Lib.hid (HV1.out.but hb hl); clear hl hb ht))
  clear HV1 c4 l4
  go_upto_region 7 with (first
    | (refine wpList_build rfl 54 _ rfl rwN.l.toArray (by simpa [Act.eval, Act.put] using HBR0.out) ?_)
    | (go_at_call 23; (with_reducible refine (sayE HV2.out).mono ?_); rintro e V3 ⟨lo2, mid2, R1, H1, H2, M1, M2, _, _, _, _, _, hl, rfl, q1, q2, q3, q4, q5, q6, hb⟩; have HV3 := Lib.hid (HV2.out.but hb hl); have HM1 := Lib.hid q1; have HM2 := Lib.hid q2; have HH1 := Lib.hid q3; have HH2 := Lib.hid q4; have HR1 := Lib.hid q5; have HR2 := Lib.hid q6; clear hl hb q1 q2 q3 q4 q5 q6))
  clear HV2
  obtain ⟨T3, hT3⟩ : ∃ T3, T3 = (fun i => if i = 0 + 1 then ({ t1 with o := R1 } : Tk) else endT (some t0) 0 (endT none 0 fun _ => tkN) i) := ⟨_, rfl⟩
  have HTE := Lib.hid hT3
  obtain ⟨own3, hown3⟩ : ∃ own3 : Nat → Prop, LE w b g3 g4 gR gT own3 2 T3 none V3 := ⟨_, by rw [hT3]; exact HV3.out⟩
  have HV3' := Lib.hid hown3
  clear hT3 hown3 HV3
  obtain ⟨Q1, hQ1, hQ1r, hQ1g⟩ := HR1.out.rw_ (i := 0) (by decide) (by rw [show (({ t1 with o := R1 } : Tk).at (distM 4 1 0 0) 0 0).ro = (t1.nR 0 0).ro from rfl, HT1.out.some_n (by decide) (by decide) (by decide)]; exact Nat.le_trans (plR_n _ _) (by decide))
  obtain ⟨Q2, hQ2, hQ2r, hQ2g⟩ := HR2.out.rw_ (i := 0) (by decide) (by rw [show (({ t1 with o := R1 } : Tk).at (distM 4 1 1 0) 1 0).ro = (t1.fR 1 0).ro from rfl, HT1.out.none_f (by decide) (by decide) (by decide)]; decide)
  have HQ1 := Lib.hid hQ1
  have HQ2 := Lib.hid hQ2
  have HQE : Hid (eqR Q1.ro wE = true) := Lib.hid (by rw [hQ1r]; show eqR (t1.nR 0 0).ro wE = true; rw [HT1.out.some_n (by decide) (by decide) (by decide)]; exact plE gT)
  have HQB : Hid (Q2.b = false) := Lib.hid (ro_b (by rw [hQ2r]; show (t1.fR 1 0).ro = roN; exact HT1.out.none_f (by decide) (by decide) (by decide)))
  have HLE2 : Hid (LE2 w b g3 g4 gR gT own3 2 T3 none V3.heap.size (V3.heap.size + 1) H1 H2 M1 M2 Q1 ((V3.alloc (.cells #[.slice (some ⟨H1, 0, none⟩) 4 4] 34)).alloc (.cells #[.slice (some ⟨H2, 0, none⟩) 4 4] 34))) := Lib.hid (by
    have k1 := below_al (Below.refl V3.heap.size V3) (.cells #[.slice (some ⟨H1, 0, none⟩) 4 4] 34)
    have k2 := below_al k1 (.cells #[.slice (some ⟨H2, 0, none⟩) 4 4] 34)
    refine ⟨HV3'.out.on k2, (Blk.new V3 _ _).alloc _, ?_, HH1.out.on k2, HH2.out.on k2, hQ1g.on k2⟩
    have := Blk.new (V3.alloc (.cells #[.slice (some ⟨H1, 0, none⟩) 4 4] 34)) 34 #[.slice (some ⟨H2, 0, none⟩) 4 4]
    rwa [alloc_size] at this)
  refine wp_at (LE2 w b g3 g4 gR gT own3 2 T3 none V3.heap.size (V3.heap.size + 1) H1 H2 M1 M2 Q1) HLE2.out ?_
  intro V4 hV4
  obtain ⟨g5, hg5⟩ : ∃ g5, g5 = V3.heap.size := ⟨_, rfl⟩
  obtain ⟨g6, hg6⟩ : ∃ g6, g6 = V3.heap.size + 1 := ⟨_, rfl⟩
  rw [← hg6, ← hg5] at hV4
  rw [← hg6, ← hg5]
  have HV4 := Lib.hid hV4
  clear hV4 hg5 hg6 HLE2 HV3' HH1 HH2 hQ1 hQ1r hQ1g hQ2 hQ2r hQ2g HR1 HR2
  go_upto_region 8 with (first
    | (refine wpList_build rfl 54 _ rfl rwN.l.toArray (by simpa [Act.eval, Act.put] using HBR0.out) ?_)
    | (go_at_call 23; (with_reducible refine (say_none own3 b 4 1 2 T3 rwN.l (Rw.l_len _) _ HV4.out.le.l).mono ?_); rintro e V5 ⟨rfl, q1⟩; have HV5 := Lib.hid (HV4.out.on q1); clear q1))
  clear HV4
  refine wp_at (fun V => LE2 w b g3 g4 gR gT own3 2 T3 none g5 g6 H1 H2 M1 M2 Q1 V ∧ Blk V V5.heap.size 34 #[.slice none 0 0]) ⟨HV5.out.on (below_al (below_al (Below.refl _ _) _) _), (Blk.new V5 _ _).alloc _⟩ ?_
  rintro V6 ⟨hV6, hb7⟩
  obtain ⟨g7, hg7⟩ : ∃ g7, g7 = V5.heap.size := ⟨_, rfl⟩
  rw [← hg7] at hb7 ⊢
  have HV6 := Lib.hid hV6
  have HB7 := Lib.hid hb7
  clear hV6 hb7 hg7 HV5
  go_wp2_with fail
  refine Reg.wp_slots2 (fun t => decide (40 ≤ t) && decide (t ≤ 75)) (Reg.KJ V6.heap.size [] []) (Reg.KJ.drew _ (by simp)) Reg.KJ.trans (by kernel_rfl) (by kernel_rfl) (by kernel_rfl) (fun zz => (Reg.tblK [
    (40, .is (.int .i64 0)),
    (41, .is (.bool false)),
    (42, .is (.bool false)),
    (43, .is (.pointer (some ⟨g5, 0, none⟩))),
    (44, .is (.slice (some ⟨H1, 0, none⟩) 4 4)),
    (45, .is (.int .i64 4)),
    (46, .is (.bool false)),
    (47, .is (.bool false)),
    (48, .is (.bool false)),
    (49, .is (.pointer (some ⟨g5, 0, none⟩))),
    (50, .is (.slice (some ⟨H1, 0, none⟩) 4 4)),
    (51, .is (.pointer (some ⟨H1, 0, none⟩))),
    (52, .is (.agg Q1.l.toArray)),
    (53, .is (.agg (rE gT).l.toArray)),
    (54, .is (.bool true)),
    (55, .is (.bool false)),
    (56, .is (.bool false)),
    (57, .is (.bool false)),
    (58, .is (.pointer (some ⟨g6, 0, none⟩))),
    (59, .is (.slice (some ⟨H2, 0, none⟩) 4 4)),
    (60, .is (.int .i64 4)),
    (61, .is (.bool false)),
    (62, .is (.bool false)),
    (63, .is (.bool false)),
    (64, .is (.pointer (some ⟨g6, 0, none⟩))),
    (65, .is (.slice (some ⟨H2, 0, none⟩) 4 4)),
    (66, .is (.pointer (some ⟨H2, 0, none⟩))),
    (67, .is (.pointer (some ⟨H2, 0, none⟩))),
    (68, .is (.bool false)),
    (69, .is (.bool false)),
    (70, .is (.bool false)),
    (71, .is (.pointer (some ⟨g7, 0, none⟩))),
    (72, .is (.slice none 0 0)),
    (73, .is (.int .i64 0)),
    (74, .is (.bool false)),
    (75, .is (.bool false))] zz).P) (fun zz => (Reg.tblK _ zz).on) (fun zz => (Reg.memK [] zz).P) (fun zz => (Reg.memK _ zz).on) ?_ ?_
  · simp only [Reg.frame, Reg.over, Nat.reduceAdd, Nat.reduceLeDiff, decide_true, decide_false, if_true, Bool.false_eq_true, if_false, Bool.and_true, Bool.and_false]
    refine ⟨?_, ?_, ?_, ?_, ?_, ?_, ?_, ?_, ?_, ?_, ?_, ?_, ?_, ?_, ?_, ?_, ?_, ?_, ?_, ?_, ?_, ?_, ?_, ?_, ?_, ?_, ?_, ?_, ?_, ?_, ?_, ?_, ?_, ?_, ?_, ?_, trivial⟩
    · intro x u hku hd
      refine wpOp_step rfl fun KK hK => ?_
      go_simp
      exact hK _ _ ⟨_, rfl, Reg.KJ.refl _, fun d hd => by cases hd; exact rfl, fun h => by cases h⟩
    · intro x u hku hd
      have h40 : x 40 = .int .i64 0 := hd 0 (by decide)
      refine wpOp_step rfl fun KK hK => ?_
      simp only [h40] at hK ⊢
      go_simp
      exact hK _ _ ⟨_, rfl, Reg.KJ.refl _, fun d hd => by cases hd; exact rfl, fun h => by cases h⟩
    · intro x u hku hd
      have h41 : x 41 = .bool false := hd 1 (by decide)
      refine wpOp_step rfl fun KK hK => ?_
      simp only [h41] at hK ⊢
      go_simp
      exact hK _ _ ⟨_, rfl, Reg.KJ.refl _, fun d hd => by cases hd; exact rfl, fun h => by cases h⟩
    · intro x u hku hd
      have h42 : x 42 = .bool false := hd 2 (by decide)
      have hx := (HV6.out.on hku.belowT).b5
      have c5 := hx.cell 0
      have l5 := hx.lt
      refine wpOp_step rfl fun KK hK => ?_
      simp only [h42] at hK ⊢
      go_simp
      exact hK _ _ ⟨_, rfl, Reg.KJ.refl _, fun d hd => by cases hd; exact rfl, fun h => by cases h⟩
    · intro x u hku hd
      have h43 : x 43 = .pointer (some ⟨g5, 0, none⟩) := hd 3 (by decide)
      have h42 : x 42 = .bool false := hd 2 (by decide)
      have hx := (HV6.out.on hku.belowT).b5
      have c5 := hx.cell 0
      have l5 := hx.lt
      refine wpOp_step rfl fun KK hK => ?_
      simp only [h43, h42] at hK ⊢
      go_simp
      exact hK _ _ ⟨_, rfl, Reg.KJ.refl _, fun d hd => by cases hd; exact rfl, fun h => by cases h⟩
    · intro x u hku hd
      have h44 : x 44 = .slice (some ⟨H1, 0, none⟩) 4 4 := hd 4 (by decide)
      have h42 : x 42 = .bool false := hd 2 (by decide)
      refine wpOp_step rfl fun KK hK => ?_
      simp only [h44, h42] at hK ⊢
      go_simp
      exact hK _ _ ⟨_, rfl, Reg.KJ.refl _, fun d hd => by cases hd; exact rfl, fun h => by cases h⟩
    · intro x u hku hd
      have h45 : x 45 = .int .i64 4 := hd 5 (by decide)
      have h42 : x 42 = .bool false := hd 2 (by decide)
      refine wpOp_step rfl fun KK hK => ?_
      simp only [h45, h42] at hK ⊢
      go_simp
      exact hK _ _ ⟨_, rfl, Reg.KJ.refl _, fun d hd => by cases hd; exact rfl, fun h => by cases h⟩
    · intro x u hku hd
      have h42 : x 42 = .bool false := hd 2 (by decide)
      have h46 : x 46 = .bool false := hd 6 (by decide)
      refine wpOp_step rfl fun KK hK => ?_
      simp only [h42, h46] at hK ⊢
      go_simp
      exact hK _ _ ⟨_, rfl, Reg.KJ.refl _, fun d hd => by cases hd; exact rfl, fun h => by cases h⟩
    · intro x u hku hd
      have h47 : x 47 = .bool false := hd 7 (by decide)
      refine wpOp_step rfl fun KK hK => ?_
      simp only [h47] at hK ⊢
      go_simp
      exact hK _ _ ⟨_, rfl, Reg.KJ.refl _, fun d hd => by cases hd; exact rfl, fun h => by cases h⟩
    · intro x u hku hd
      have h48 : x 48 = .bool false := hd 8 (by decide)
      have hx := (HV6.out.on hku.belowT).b5
      have c5 := hx.cell 0
      have l5 := hx.lt
      refine wpOp_step rfl fun KK hK => ?_
      simp only [h48] at hK ⊢
      go_simp
      exact hK _ _ ⟨_, rfl, Reg.KJ.refl _, fun d hd => by cases hd; exact rfl, fun h => by cases h⟩
    · intro x u hku hd
      have h49 : x 49 = .pointer (some ⟨g5, 0, none⟩) := hd 9 (by decide)
      have h48 : x 48 = .bool false := hd 8 (by decide)
      have hx := (HV6.out.on hku.belowT).b5
      have c5 := hx.cell 0
      have l5 := hx.lt
      refine wpOp_step rfl fun KK hK => ?_
      simp only [h49, h48] at hK ⊢
      go_simp
      exact hK _ _ ⟨_, rfl, Reg.KJ.refl _, fun d hd => by cases hd; exact rfl, fun h => by cases h⟩
    · intro x u hku hd
      have h50 : x 50 = .slice (some ⟨H1, 0, none⟩) 4 4 := hd 10 (by decide)
      have h48 : x 48 = .bool false := hd 8 (by decide)
      have hix : ∀ W, (Instr.indexAt 32 (.slice (some ⟨H1, 0, none⟩) 4 4) (.int .i64 0)).run Try.prog W = .ok (.pointer (some ⟨H1, 0, none⟩)) W := fun W => idxRows (A := some ⟨H1, 0, none⟩) (n := 4) 4 (k := 0) rfl (by decide) W
      refine wpOp_step rfl fun KK hK => ?_
      simp only [h50, h48] at hK ⊢
      go_simp
      exact hK _ _ ⟨_, rfl, Reg.KJ.refl _, fun d hd => by cases hd; exact rfl, fun h => by cases h⟩
    · intro x u hku hd
      have h51 : x 51 = .pointer (some ⟨H1, 0, none⟩) := hd 11 (by decide)
      have h48 : x 48 = .bool false := hd 8 (by decide)
      refine wpOp_step rfl fun KK hK => ?_
      refine Reg.step_load_wantT (by simp only [h48]; kernel_rfl) 54 (.tmp 51) (by rfl) H1 0 (by exact h51) Q1.l (by have := row_range (i := 0) (HV6.out.on hku.belowT).m1 HM1.out (by decide) HQ1.out; rwa [Nat.zero_mul] at this) _ Try.underlying54 rfl (by rw [size_row, Rw.l_len]) ?_
      exact hK _ _ ⟨_, rfl, Reg.KJ.refl _, fun d hd => by cases hd; exact rfl, fun h => by cases h⟩
    · intro x u hku hd
      have h48 : x 48 = .bool false := hd 8 (by decide)
      refine wpOp_step rfl fun KK hK => ?_
      refine Reg.step_load_wantT (by simp only [h48]; kernel_rfl) 54 (.tmp 3) (by rfl) g3 0 (by rfl) (rE gT).l (HV6.out.on hku.belowT).le.t3.pin.range _ Try.underlying54 rfl (by rw [size_row, Rw.l_len]) ?_
      exact hK _ _ ⟨_, rfl, Reg.KJ.refl _, fun d hd => by cases hd; exact rfl, fun h => by cases h⟩
    · intro x u hku hd
      have h52 : x 52 = .agg Q1.l.toArray := hd 12 (by decide)
      have h53 : x 53 = .agg (rE gT).l.toArray := hd 13 (by decide)
      have h48 : x 48 = .bool false := hd 8 (by decide)
      have hs := HV6.out.on hku.belowT
      have hm4 : (rE gT).n ≤ 65536 := by show (4 : Nat) ≤ 65536; decide
      refine wpOp_step rfl fun KK hK => ?_
      simp only [h52, h53, h48] at hK ⊢
      go_simp
      go_at_call 50
      (with_reducible refine (same_rows Q1 (rE gT) hs.q.m hm4 _ hs.q.t hs.le.tab).mono ?_)
      rintro e u' ⟨rfl, q1⟩
      exact hK _ _ ⟨_, rfl, Reg.KJ.grow (by simp) hku.size q1, fun d hd => by cases hd; exact (show Value.bool (eqR Q1.ro wE) = .bool true from by rw [HQE.out]), fun h => by cases h⟩
    · intro x u hku hd
      have h54 : x 54 = .bool true := hd 14 (by decide)
      have h48 : x 48 = .bool false := hd 8 (by decide)
      refine wpOp_step rfl fun KK hK => ?_
      simp only [h54, h48] at hK ⊢
      go_simp
      exact hK _ _ ⟨_, rfl, Reg.KJ.refl _, fun d hd => by cases hd; exact rfl, fun h => by cases h⟩
    · intro x u hku hd
      have h48 : x 48 = .bool false := hd 8 (by decide)
      have h55 : x 55 = .bool false := hd 15 (by decide)
      refine wpOp_step rfl fun KK hK => ?_
      simp only [h48, h55] at hK ⊢
      go_simp
      exact hK _ _ ⟨_, rfl, Reg.KJ.refl _, fun d hd => by cases hd; exact rfl, fun h => by cases h⟩
    · intro x u hku hd
      have h56 : x 56 = .bool false := hd 16 (by decide)
      refine wpOp_step rfl fun KK hK => ?_
      simp only [h56] at hK ⊢
      go_simp
      exact hK _ _ ⟨_, rfl, Reg.KJ.refl _, fun d hd => by cases hd; exact rfl, fun h => by cases h⟩
    · intro x u hku hd
      have h57 : x 57 = .bool false := hd 17 (by decide)
      have hx := (HV6.out.on hku.belowT).b6
      have c5 := hx.cell 0
      have l5 := hx.lt
      refine wpOp_step rfl fun KK hK => ?_
      simp only [h57] at hK ⊢
      go_simp
      exact hK _ _ ⟨_, rfl, Reg.KJ.refl _, fun d hd => by cases hd; exact rfl, fun h => by cases h⟩
    · intro x u hku hd
      have h58 : x 58 = .pointer (some ⟨g6, 0, none⟩) := hd 18 (by decide)
      have h57 : x 57 = .bool false := hd 17 (by decide)
      have hx := (HV6.out.on hku.belowT).b6
      have c5 := hx.cell 0
      have l5 := hx.lt
      refine wpOp_step rfl fun KK hK => ?_
      simp only [h58, h57] at hK ⊢
      go_simp
      exact hK _ _ ⟨_, rfl, Reg.KJ.refl _, fun d hd => by cases hd; exact rfl, fun h => by cases h⟩
    · intro x u hku hd
      have h59 : x 59 = .slice (some ⟨H2, 0, none⟩) 4 4 := hd 19 (by decide)
      have h57 : x 57 = .bool false := hd 17 (by decide)
      refine wpOp_step rfl fun KK hK => ?_
      simp only [h59, h57] at hK ⊢
      go_simp
      exact hK _ _ ⟨_, rfl, Reg.KJ.refl _, fun d hd => by cases hd; exact rfl, fun h => by cases h⟩
    · intro x u hku hd
      have h60 : x 60 = .int .i64 4 := hd 20 (by decide)
      have h57 : x 57 = .bool false := hd 17 (by decide)
      refine wpOp_step rfl fun KK hK => ?_
      simp only [h60, h57] at hK ⊢
      go_simp
      exact hK _ _ ⟨_, rfl, Reg.KJ.refl _, fun d hd => by cases hd; exact rfl, fun h => by cases h⟩
    · intro x u hku hd
      have h57 : x 57 = .bool false := hd 17 (by decide)
      have h61 : x 61 = .bool false := hd 21 (by decide)
      refine wpOp_step rfl fun KK hK => ?_
      simp only [h57, h61] at hK ⊢
      go_simp
      exact hK _ _ ⟨_, rfl, Reg.KJ.refl _, fun d hd => by cases hd; exact rfl, fun h => by cases h⟩
    · intro x u hku hd
      have h62 : x 62 = .bool false := hd 22 (by decide)
      refine wpOp_step rfl fun KK hK => ?_
      simp only [h62] at hK ⊢
      go_simp
      exact hK _ _ ⟨_, rfl, Reg.KJ.refl _, fun d hd => by cases hd; exact rfl, fun h => by cases h⟩
    · intro x u hku hd
      have h63 : x 63 = .bool false := hd 23 (by decide)
      have hx := (HV6.out.on hku.belowT).b6
      have c5 := hx.cell 0
      have l5 := hx.lt
      refine wpOp_step rfl fun KK hK => ?_
      simp only [h63] at hK ⊢
      go_simp
      exact hK _ _ ⟨_, rfl, Reg.KJ.refl _, fun d hd => by cases hd; exact rfl, fun h => by cases h⟩
    · intro x u hku hd
      have h64 : x 64 = .pointer (some ⟨g6, 0, none⟩) := hd 24 (by decide)
      have h63 : x 63 = .bool false := hd 23 (by decide)
      have hx := (HV6.out.on hku.belowT).b6
      have c5 := hx.cell 0
      have l5 := hx.lt
      refine wpOp_step rfl fun KK hK => ?_
      simp only [h64, h63] at hK ⊢
      go_simp
      exact hK _ _ ⟨_, rfl, Reg.KJ.refl _, fun d hd => by cases hd; exact rfl, fun h => by cases h⟩
    · intro x u hku hd
      have h65 : x 65 = .slice (some ⟨H2, 0, none⟩) 4 4 := hd 25 (by decide)
      have h63 : x 63 = .bool false := hd 23 (by decide)
      have hix : ∀ W, (Instr.indexAt 32 (.slice (some ⟨H2, 0, none⟩) 4 4) (.int .i64 0)).run Try.prog W = .ok (.pointer (some ⟨H2, 0, none⟩)) W := fun W => idxRows (A := some ⟨H2, 0, none⟩) (n := 4) 4 (k := 0) rfl (by decide) W
      refine wpOp_step rfl fun KK hK => ?_
      simp only [h65, h63] at hK ⊢
      go_simp
      exact hK _ _ ⟨_, rfl, Reg.KJ.refl _, fun d hd => by cases hd; exact rfl, fun h => by cases h⟩
    · intro x u hku hd
      have h66 : x 66 = .pointer (some ⟨H2, 0, none⟩) := hd 26 (by decide)
      have h63 : x 63 = .bool false := hd 23 (by decide)
      have hx := (HV6.out.on hku.belowT).m2
      have l5 := hx.lt
      refine wpOp_step rfl fun KK hK => ?_
      simp only [h66, h63] at hK ⊢
      go_simp
      exact hK _ _ ⟨_, rfl, Reg.KJ.refl _, fun d hd => by cases hd; exact rfl, fun h => by cases h⟩
    · intro x u hku hd
      have h67 : x 67 = .pointer (some ⟨H2, 0, none⟩) := hd 27 (by decide)
      have h63 : x 63 = .bool false := hd 23 (by decide)
      have hx := (HV6.out.on hku.belowT).m2
      have c5 := row_bool (i := 0) hx HM2.out (by decide) HQ2.out
      rw [HQB.out, Nat.zero_mul] at c5
      have l5 := hx.lt
      refine wpOp_step rfl fun KK hK => ?_
      simp only [h67, h63] at hK ⊢
      go_simp
      exact hK _ _ ⟨_, rfl, Reg.KJ.refl _, fun d hd => by cases hd; exact rfl, fun h => by cases h⟩
    · intro x u hku hd
      have h63 : x 63 = .bool false := hd 23 (by decide)
      have h68 : x 68 = .bool false := hd 28 (by decide)
      refine wpOp_step rfl fun KK hK => ?_
      simp only [h63, h68] at hK ⊢
      go_simp
      exact hK _ _ ⟨_, rfl, Reg.KJ.refl _, fun d hd => by cases hd; exact rfl, fun h => by cases h⟩
    · intro x u hku hd
      have h69 : x 69 = .bool false := hd 29 (by decide)
      refine wpOp_step rfl fun KK hK => ?_
      simp only [h69] at hK ⊢
      go_simp
      exact hK _ _ ⟨_, rfl, Reg.KJ.refl _, fun d hd => by cases hd; exact rfl, fun h => by cases h⟩
    · intro x u hku hd
      have h70 : x 70 = .bool false := hd 30 (by decide)
      have hx := HB7.out.on hku.belowT
      have c5 := hx.cell 0
      have l5 := hx.lt
      refine wpOp_step rfl fun KK hK => ?_
      simp only [h70] at hK ⊢
      go_simp
      exact hK _ _ ⟨_, rfl, Reg.KJ.refl _, fun d hd => by cases hd; exact rfl, fun h => by cases h⟩
    · intro x u hku hd
      have h71 : x 71 = .pointer (some ⟨g7, 0, none⟩) := hd 31 (by decide)
      have h70 : x 70 = .bool false := hd 30 (by decide)
      have hx := HB7.out.on hku.belowT
      have c5 := hx.cell 0
      have l5 := hx.lt
      refine wpOp_step rfl fun KK hK => ?_
      simp only [h71, h70] at hK ⊢
      go_simp
      exact hK _ _ ⟨_, rfl, Reg.KJ.refl _, fun d hd => by cases hd; exact rfl, fun h => by cases h⟩
    · intro x u hku hd
      have h72 : x 72 = .slice none 0 0 := hd 32 (by decide)
      have h70 : x 70 = .bool false := hd 30 (by decide)
      refine wpOp_step rfl fun KK hK => ?_
      simp only [h72, h70] at hK ⊢
      go_simp
      exact hK _ _ ⟨_, rfl, Reg.KJ.refl _, fun d hd => by cases hd; exact rfl, fun h => by cases h⟩
    · intro x u hku hd
      have h73 : x 73 = .int .i64 0 := hd 33 (by decide)
      have h70 : x 70 = .bool false := hd 30 (by decide)
      refine wpOp_step rfl fun KK hK => ?_
      simp only [h73, h70] at hK ⊢
      go_simp
      exact hK _ _ ⟨_, rfl, Reg.KJ.refl _, fun d hd => by cases hd; exact rfl, fun h => by cases h⟩
    · intro x u hku hd
      have h70 : x 70 = .bool false := hd 30 (by decide)
      have h74 : x 74 = .bool false := hd 34 (by decide)
      refine wpOp_step rfl fun KK hK => ?_
      simp only [h70, h74] at hK ⊢
      go_simp
      exact hK _ _ ⟨_, rfl, Reg.KJ.refl _, fun d hd => by cases hd; exact rfl, fun h => by cases h⟩
  · intro y V7 hku hall
    have e75 : y 75 = .bool false := hall 35 (by decide)
    have HV7 := Lib.hid (HV6.out.on hku.belowT)
    clear hku hall HV6 HB7
    simp only [Reg.frame, Reg.over, Nat.reduceAdd, Nat.reduceLeDiff, decide_true, decide_false, if_true, Bool.false_eq_true, if_false, Bool.and_true, Bool.and_false, e75]
    go_upto_region 11 with (first
      | (refine wpList_build rfl 36 _ rfl _ (by simpa [Act.eval, Act.put] using HI0.out) ?_)
      | (go_at_call 19; (with_reducible refine (hearE HV7.out.le).mono ?_); rintro e V8 ⟨_, _, t2, _, _, _, _, _, ht, hl, rfl, _, _, _, hb⟩; have HT2 := Lib.hid ht; have HV8 := Lib.hid (HV7.out.le.but hb hl); clear hl hb ht))
    clear HV7
    have c4 := HV8.out.t4.cell 0
    have l4 := HV8.out.t4.lt
    go_upto_region 12 with (first
      | (refine wpList_build rfl 36 _ rfl _ (by simpa [Act.eval, Act.put] using HIF.out) ?_)
      | (go_at_call 19; (with_reducible refine (hearF HV8.out).mono ?_); rintro e V9 ⟨_, _, t3, _, _, _, _, _, ht, hl, rfl, _, _, _, hb⟩; have HT3 := Lib.hid ht; have HV9 := Lib.hid (HV8.out.but hb hl); clear hl hb ht))
    clear HV8 c4 l4
    go_upto_region 13 with (first
      | (refine wpList_build rfl 36 _ rfl _ (by simpa [Act.eval, Act.put] using HI0.out) ?_)
      | (go_at_call 19; (with_reducible refine (hearE HV9.out).mono ?_); rintro e V10 ⟨_, _, t4, J1, N1, p1, p2, p3, ht, hl, rfl, q1, q2, q3, hb⟩; have HT4 := Lib.hid ht; have HV10 := Lib.hid (HV9.out.but hb hl); have HN1 := Lib.hid q1; have HJ1 := Lib.hid q2; have HO1 := Lib.hid q3; have HJB : Hid (b < J1) := Lib.hid (by have := HV9.out.l.blt; omega); clear hl hb ht q1 q2 q3 p1 p2 p3))
    clear HV9
    have h31 : T3 1 = ({ t1 with o := R1 } : Tk) := by rw [HTE.out]; rfl
    have HH0 : Hid (heldR 4 1 (endE (some t3) (endE (some t2) (endE none 2))) (endT (some t3) (endE (some t2) (endE none 2)) (endT (some t2) (endE none 2) (endT none 2 T3))) 0 = plR 4 (rE gT).ro) := Lib.hid (held_two (a := t1.nR 0 0) (b := t3.fR 1 0) (c := t3.nR 1 0) (by exact Nat.le_refl 4) ((exCps0 _).trans (by show [(T3 1).nR 0 0, t3.fR 1 0, t3.nR 1 0] = _; rw [h31])) (plE_b gT) (HT1.out.some_n (by decide) (by decide) (by decide)) (HT3.out.some_f (by decide) (by decide) (by decide)) (HT3.out.none_n (by decide) (by decide) (by decide)))
    have HH2 : Hid ((heldR 4 1 (endE (some t3) (endE (some t2) (endE none 2))) (endT (some t3) (endE (some t2) (endE none 2)) (endT (some t2) (endE none 2) (endT none 2 T3))) 2).b = false) := Lib.hid (held_none (a := t1.nR 1 2) (b := t3.fR 0 2) (c := t3.nR 0 2) (by exact Nat.le_refl 4) ((exCps2 _).trans (by show [(T3 1).nR 1 2, t3.fR 0 2, t3.nR 0 2] = _; rw [h31])) (ro_b (HT1.out.none_n (by decide) (by decide) (by decide))) (ro_b (HT3.out.none_f (by decide) (by decide) (by decide))) (ro_b (HT3.out.none_n (by decide) (by decide) (by decide))))
    have HH5 : Hid ((heldR 4 1 (endE (some t4) (endE (some t3) (endE (some t2) (endE none 2)))) (endT (some t4) (endE (some t3) (endE (some t2) (endE none 2))) (endT (some t3) (endE (some t2) (endE none 2)) (endT (some t2) (endE none 2) (endT none 2 T3)))) 0).b = false) := Lib.hid (held_none (a := t2.nR 0 0) (b := t4.fR 1 0) (c := t4.nR 1 0) (by exact Nat.le_succ 4) (exCps0 _) (ro_b (HT2.out.none_n (by decide) (by decide) (by decide))) (ro_b (HT4.out.none_f (by decide) (by decide) (by decide))) (ro_b (HT4.out.none_n (by decide) (by decide) (by decide))))
    clear h31
    go_upto_region 14 with (first
      | (refine wpList_build rfl 36 _ rfl _ (by simpa [Act.eval, Act.put] using HI0.out) ?_)
      | (go_at_call 19; (with_reducible refine (hearE HV10.out).mono ?_); rintro e V11 ⟨_, _, t5, J2, N2, _, _, _, _, hl, rfl, q1, q2, q3, hb⟩; have HV11 := Lib.hid (HV10.out.but hb hl); have HN2 := Lib.hid q1; have HJ2 := Lib.hid q2; have HO2 := Lib.hid q3; have HBB := Lib.hid hb; clear hl hb q1 q2 q3))
    have HO1' : Hid (RowsO V11 (J1 + 1) 4 _ N1) := Lib.hid fun i hi => (HO1.out i hi).but HBB.out (by have := HJB.out; omega)
    have HJ1' : Hid (Blk V11 J1 54 (flL N1 4).toArray) := Lib.hid (HBB.out.blk HJ1.out (by have := HJB.out; omega))
    obtain ⟨Q3, hQ3, hQ3r, hQ3g⟩ := HO1'.out.rw_ (i := 0) (by decide) (by rw [HH0.out]; exact Nat.le_trans (plR_n _ _) (by decide))
    have HQ3 := Lib.hid hQ3
    have HQE3 : Hid (eqR Q3.ro wE = true) := Lib.hid (by rw [hQ3r, HH0.out]; exact plE gT)
    have HGD := Lib.hid hQ3g
    clear hQ3 hQ3r hQ3g
    have HC2 : Hid (V11.cell? ⟨J1, 114, none⟩ = some (.bool false)) := Lib.hid (by have := row_boolO (i := 2) HJ1'.out HN1.out (by decide) HO1'.out; rwa [HH2.out] at this)
    have HC5 : Hid (V11.cell? ⟨J2, 0, none⟩ = some (.bool false)) := Lib.hid (by have := row_boolO (i := 0) HJ2.out HN2.out (by decide) HO2.out; rwa [HH5.out, Nat.zero_mul] at this)
    clear HV10 HO1 HJ1 HO2 HO1' HH0 HH2 HH5 HBB HT1 HT2 HT3 HT4 HTE
    go_wp2_with fail
    refine Reg.wp_slots2 (fun t => t == 0 || (decide (89 ≤ t) && decide (t ≤ 117))) (Reg.KJ V11.heap.size [] []) (Reg.KJ.drew _ (by simp)) Reg.KJ.trans (by kernel_rfl) (by kernel_rfl) (by kernel_rfl) (fun zz => (Reg.tblK [
      (89, .is (.slice (some ⟨J1, 0, none⟩) 4 4)),
      (90, .is (.int .i64 4)),
      (91, .is (.bool true)),
      (92, .is (.bool true)),
      (93, .is (.slice (some ⟨J1, 0, none⟩) 4 4)),
      (94, .is (.pointer (some ⟨J1, 0, none⟩))),
      (95, .is (.agg Q3.l.toArray)),
      (96, .is (.agg (rE gT).l.toArray)),
      (97, .is (.bool true)),
      (98, .is (.bool true)),
      (99, .is (.bool true)),
      (100, .is (.slice (some ⟨J1, 0, none⟩) 4 4)),
      (101, .is (.pointer (some ⟨J1, 114, none⟩))),
      (102, .is (.pointer (some ⟨J1, 114, none⟩))),
      (103, .is (.bool false)),
      (104, .is (.bool true)),
      (105, .is (.bool true)),
      (106, .is (.bool true)),
      (107, .is (.slice (some ⟨J2, 0, none⟩) 4 4)),
      (108, .is (.int .i64 4)),
      (109, .is (.bool true)),
      (110, .is (.bool true)),
      (111, .is (.bool true)),
      (112, .is (.slice (some ⟨J2, 0, none⟩) 4 4)),
      (113, .is (.pointer (some ⟨J2, 0, none⟩))),
      (114, .is (.pointer (some ⟨J2, 0, none⟩))),
      (115, .is (.bool false)),
      (116, .is (.bool true)),
      (117, .is (.bool true)),
      (0, .is (.bool true))] zz).P) (fun zz => (Reg.tblK _ zz).on) (fun zz => (Reg.memK [] zz).P) (fun zz => (Reg.memK _ zz).on) ?_ ?_
    · simp only [Reg.frame, Reg.over, Nat.reduceAdd, Nat.reduceBEq, Nat.reduceLeDiff, decide_true, decide_false, Bool.or_true, Bool.or_false, if_true, Bool.false_eq_true, if_false, Bool.and_true, Bool.and_false]
      refine ⟨?_, ?_, ?_, ?_, ?_, ?_, ?_, ?_, ?_, ?_, ?_, ?_, ?_, ?_, ?_, ?_, ?_, ?_, ?_, ?_, ?_, ?_, ?_, ?_, ?_, ?_, ?_, ?_, ?_, ?_, trivial⟩
      · intro x u hku hd
        refine wpOp_step rfl fun KK hK => ?_
        go_simp
        exact hK _ _ ⟨_, rfl, Reg.KJ.refl _, fun d hd => by cases hd; exact rfl, fun h => by cases h⟩
      · intro x u hku hd
        have h89 : x 89 = .slice (some ⟨J1, 0, none⟩) 4 4 := hd 0 (by decide)
        refine wpOp_step rfl fun KK hK => ?_
        simp only [h89] at hK ⊢
        go_simp
        exact hK _ _ ⟨_, rfl, Reg.KJ.refl _, fun d hd => by cases hd; exact rfl, fun h => by cases h⟩
      · intro x u hku hd
        have h90 : x 90 = .int .i64 4 := hd 1 (by decide)
        refine wpOp_step rfl fun KK hK => ?_
        simp only [h90] at hK ⊢
        go_simp
        exact hK _ _ ⟨_, rfl, Reg.KJ.refl _, fun d hd => by cases hd; exact rfl, fun h => by cases h⟩
      · intro x u hku hd
        have h91 : x 91 = .bool true := hd 2 (by decide)
        refine wpOp_step rfl fun KK hK => ?_
        simp only [h91] at hK ⊢
        go_simp
        exact hK _ _ ⟨_, rfl, Reg.KJ.refl _, fun d hd => by cases hd; exact rfl, fun h => by cases h⟩
      · intro x u hku hd
        have h92 : x 92 = .bool true := hd 3 (by decide)
        refine wpOp_step rfl fun KK hK => ?_
        simp only [h92] at hK ⊢
        go_simp
        exact hK _ _ ⟨_, rfl, Reg.KJ.refl _, fun d hd => by cases hd; exact rfl, fun h => by cases h⟩
      · intro x u hku hd
        have h93 : x 93 = .slice (some ⟨J1, 0, none⟩) 4 4 := hd 4 (by decide)
        have h92 : x 92 = .bool true := hd 3 (by decide)
        have hix : ∀ W, (Instr.indexAt 32 (.slice (some ⟨J1, 0, none⟩) 4 4) (.int .i64 0)).run Try.prog W = .ok (.pointer (some ⟨J1, 0, none⟩)) W := fun W => idxRows (A := some ⟨J1, 0, none⟩) (n := 4) 4 (k := 0) rfl (by decide) W
        refine wpOp_step rfl fun KK hK => ?_
        simp only [h93, h92] at hK ⊢
        go_simp
        exact hK _ _ ⟨_, rfl, Reg.KJ.refl _, fun d hd => by cases hd; exact rfl, fun h => by cases h⟩
      · intro x u hku hd
        have h94 : x 94 = .pointer (some ⟨J1, 0, none⟩) := hd 5 (by decide)
        have h92 : x 92 = .bool true := hd 3 (by decide)
        refine wpOp_step rfl fun KK hK => ?_
        refine Reg.step_load_wantT (by simp only [h92]; kernel_rfl) 54 (.tmp 94) (by rfl) J1 0 (by exact h94) Q3.l (by have := row_range (i := 0) (HJ1'.out.on hku.belowT) HN1.out (by decide) HQ3.out; rwa [Nat.zero_mul] at this) _ Try.underlying54 rfl (by rw [size_row, Rw.l_len]) ?_
        exact hK _ _ ⟨_, rfl, Reg.KJ.refl _, fun d hd => by cases hd; exact rfl, fun h => by cases h⟩
      · intro x u hku hd
        have h92 : x 92 = .bool true := hd 3 (by decide)
        refine wpOp_step rfl fun KK hK => ?_
        refine Reg.step_load_wantT (by simp only [h92]; kernel_rfl) 54 (.tmp 3) (by rfl) g3 0 (by rfl) (rE gT).l (HV11.out.on hku.belowT).t3.pin.range _ Try.underlying54 rfl (by rw [size_row, Rw.l_len]) ?_
        exact hK _ _ ⟨_, rfl, Reg.KJ.refl _, fun d hd => by cases hd; exact rfl, fun h => by cases h⟩
      · intro x u hku hd
        have h95 : x 95 = .agg Q3.l.toArray := hd 6 (by decide)
        have h96 : x 96 = .agg (rE gT).l.toArray := hd 7 (by decide)
        have h92 : x 92 = .bool true := hd 3 (by decide)
        have hs := HV11.out.on hku.belowT
        have hgd := HGD.out.on hku.belowT
        have hm4 : (rE gT).n ≤ 65536 := by show (4 : Nat) ≤ 65536; decide
        refine wpOp_step rfl fun KK hK => ?_
        simp only [h95, h96, h92] at hK ⊢
        go_simp
        go_at_call 50
        (with_reducible refine (same_rows Q3 (rE gT) hgd.m hm4 _ hgd.t hs.tab).mono ?_)
        rintro e u' ⟨rfl, q1⟩
        exact hK _ _ ⟨_, rfl, Reg.KJ.grow (by simp) hku.size q1, fun d hd => by cases hd; exact (show Value.bool (eqR Q3.ro wE) = .bool true from by rw [HQE3.out]), fun h => by cases h⟩
      · intro x u hku hd
        have h92 : x 92 = .bool true := hd 3 (by decide)
        have h97 : x 97 = .bool true := hd 8 (by decide)
        refine wpOp_step rfl fun KK hK => ?_
        simp only [h92, h97] at hK ⊢
        go_simp
        exact hK _ _ ⟨_, rfl, Reg.KJ.refl _, fun d hd => by cases hd; exact rfl, fun h => by cases h⟩
      · intro x u hku hd
        have h98 : x 98 = .bool true := hd 9 (by decide)
        refine wpOp_step rfl fun KK hK => ?_
        simp only [h98] at hK ⊢
        go_simp
        exact hK _ _ ⟨_, rfl, Reg.KJ.refl _, fun d hd => by cases hd; exact rfl, fun h => by cases h⟩
      · intro x u hku hd
        have h99 : x 99 = .bool true := hd 10 (by decide)
        refine wpOp_step rfl fun KK hK => ?_
        simp only [h99] at hK ⊢
        go_simp
        exact hK _ _ ⟨_, rfl, Reg.KJ.refl _, fun d hd => by cases hd; exact rfl, fun h => by cases h⟩
      · intro x u hku hd
        have h100 : x 100 = .slice (some ⟨J1, 0, none⟩) 4 4 := hd 11 (by decide)
        have h99 : x 99 = .bool true := hd 10 (by decide)
        have hix : ∀ W, (Instr.indexAt 32 (.slice (some ⟨J1, 0, none⟩) 4 4) (.int .i64 2)).run Try.prog W = .ok (.pointer (some ⟨J1, 114, none⟩)) W := fun W => idxRows (A := some ⟨J1, 0, none⟩) (n := 4) 4 (k := 2) rfl (by decide) W
        refine wpOp_step rfl fun KK hK => ?_
        simp only [h100, h99] at hK ⊢
        go_simp
        exact hK _ _ ⟨_, rfl, Reg.KJ.refl _, fun d hd => by cases hd; exact rfl, fun h => by cases h⟩
      · intro x u hku hd
        have h101 : x 101 = .pointer (some ⟨J1, 114, none⟩) := hd 12 (by decide)
        have h99 : x 99 = .bool true := hd 10 (by decide)
        have l5 := (HJ1'.out.on hku.belowT).lt
        refine wpOp_step rfl fun KK hK => ?_
        simp only [h101, h99] at hK ⊢
        go_simp
        exact hK _ _ ⟨_, rfl, Reg.KJ.refl _, fun d hd => by cases hd; exact rfl, fun h => by cases h⟩
      · intro x u hku hd
        have h102 : x 102 = .pointer (some ⟨J1, 114, none⟩) := hd 13 (by decide)
        have h99 : x 99 = .bool true := hd 10 (by decide)
        have l5 := (HJ1'.out.on hku.belowT).lt
        have c5 := belowW hku.belowT HC2.out
        refine wpOp_step rfl fun KK hK => ?_
        simp only [h102, h99] at hK ⊢
        go_simp
        exact hK _ _ ⟨_, rfl, Reg.KJ.refl _, fun d hd => by cases hd; exact rfl, fun h => by cases h⟩
      · intro x u hku hd
        have h103 : x 103 = .bool false := hd 14 (by decide)
        have h99 : x 99 = .bool true := hd 10 (by decide)
        refine wpOp_step rfl fun KK hK => ?_
        simp only [h103, h99] at hK ⊢
        go_simp
        exact hK _ _ ⟨_, rfl, Reg.KJ.refl _, fun d hd => by cases hd; exact rfl, fun h => by cases h⟩
      · intro x u hku hd
        have h99 : x 99 = .bool true := hd 10 (by decide)
        have h104 : x 104 = .bool true := hd 15 (by decide)
        refine wpOp_step rfl fun KK hK => ?_
        simp only [h99, h104] at hK ⊢
        go_simp
        exact hK _ _ ⟨_, rfl, Reg.KJ.refl _, fun d hd => by cases hd; exact rfl, fun h => by cases h⟩
      · intro x u hku hd
        have h105 : x 105 = .bool true := hd 16 (by decide)
        refine wpOp_step rfl fun KK hK => ?_
        simp only [h105] at hK ⊢
        go_simp
        exact hK _ _ ⟨_, rfl, Reg.KJ.refl _, fun d hd => by cases hd; exact rfl, fun h => by cases h⟩
      · intro x u hku hd
        have h106 : x 106 = .bool true := hd 17 (by decide)
        refine wpOp_step rfl fun KK hK => ?_
        simp only [h106] at hK ⊢
        go_simp
        exact hK _ _ ⟨_, rfl, Reg.KJ.refl _, fun d hd => by cases hd; exact rfl, fun h => by cases h⟩
      · intro x u hku hd
        have h107 : x 107 = .slice (some ⟨J2, 0, none⟩) 4 4 := hd 18 (by decide)
        have h106 : x 106 = .bool true := hd 17 (by decide)
        refine wpOp_step rfl fun KK hK => ?_
        simp only [h107, h106] at hK ⊢
        go_simp
        exact hK _ _ ⟨_, rfl, Reg.KJ.refl _, fun d hd => by cases hd; exact rfl, fun h => by cases h⟩
      · intro x u hku hd
        have h108 : x 108 = .int .i64 4 := hd 19 (by decide)
        have h106 : x 106 = .bool true := hd 17 (by decide)
        refine wpOp_step rfl fun KK hK => ?_
        simp only [h108, h106] at hK ⊢
        go_simp
        exact hK _ _ ⟨_, rfl, Reg.KJ.refl _, fun d hd => by cases hd; exact rfl, fun h => by cases h⟩
      · intro x u hku hd
        have h106 : x 106 = .bool true := hd 17 (by decide)
        have h109 : x 109 = .bool true := hd 20 (by decide)
        refine wpOp_step rfl fun KK hK => ?_
        simp only [h106, h109] at hK ⊢
        go_simp
        exact hK _ _ ⟨_, rfl, Reg.KJ.refl _, fun d hd => by cases hd; exact rfl, fun h => by cases h⟩
      · intro x u hku hd
        have h110 : x 110 = .bool true := hd 21 (by decide)
        refine wpOp_step rfl fun KK hK => ?_
        simp only [h110] at hK ⊢
        go_simp
        exact hK _ _ ⟨_, rfl, Reg.KJ.refl _, fun d hd => by cases hd; exact rfl, fun h => by cases h⟩
      · intro x u hku hd
        have h111 : x 111 = .bool true := hd 22 (by decide)
        refine wpOp_step rfl fun KK hK => ?_
        simp only [h111] at hK ⊢
        go_simp
        exact hK _ _ ⟨_, rfl, Reg.KJ.refl _, fun d hd => by cases hd; exact rfl, fun h => by cases h⟩
      · intro x u hku hd
        have h112 : x 112 = .slice (some ⟨J2, 0, none⟩) 4 4 := hd 23 (by decide)
        have h111 : x 111 = .bool true := hd 22 (by decide)
        have hix : ∀ W, (Instr.indexAt 32 (.slice (some ⟨J2, 0, none⟩) 4 4) (.int .i64 0)).run Try.prog W = .ok (.pointer (some ⟨J2, 0, none⟩)) W := fun W => idxRows (A := some ⟨J2, 0, none⟩) (n := 4) 4 (k := 0) rfl (by decide) W
        refine wpOp_step rfl fun KK hK => ?_
        simp only [h112, h111] at hK ⊢
        go_simp
        exact hK _ _ ⟨_, rfl, Reg.KJ.refl _, fun d hd => by cases hd; exact rfl, fun h => by cases h⟩
      · intro x u hku hd
        have h113 : x 113 = .pointer (some ⟨J2, 0, none⟩) := hd 24 (by decide)
        have h111 : x 111 = .bool true := hd 22 (by decide)
        have l5 := (HJ2.out.on hku.belowT).lt
        refine wpOp_step rfl fun KK hK => ?_
        simp only [h113, h111] at hK ⊢
        go_simp
        exact hK _ _ ⟨_, rfl, Reg.KJ.refl _, fun d hd => by cases hd; exact rfl, fun h => by cases h⟩
      · intro x u hku hd
        have h114 : x 114 = .pointer (some ⟨J2, 0, none⟩) := hd 25 (by decide)
        have h111 : x 111 = .bool true := hd 22 (by decide)
        have l5 := (HJ2.out.on hku.belowT).lt
        have c5 := belowW hku.belowT HC5.out
        refine wpOp_step rfl fun KK hK => ?_
        simp only [h114, h111] at hK ⊢
        go_simp
        exact hK _ _ ⟨_, rfl, Reg.KJ.refl _, fun d hd => by cases hd; exact rfl, fun h => by cases h⟩
      · intro x u hku hd
        have h115 : x 115 = .bool false := hd 26 (by decide)
        have h111 : x 111 = .bool true := hd 22 (by decide)
        refine wpOp_step rfl fun KK hK => ?_
        simp only [h115, h111] at hK ⊢
        go_simp
        exact hK _ _ ⟨_, rfl, Reg.KJ.refl _, fun d hd => by cases hd; exact rfl, fun h => by cases h⟩
      · intro x u hku hd
        have h111 : x 111 = .bool true := hd 22 (by decide)
        have h116 : x 116 = .bool true := hd 27 (by decide)
        refine wpOp_step rfl fun KK hK => ?_
        simp only [h111, h116] at hK ⊢
        go_simp
        exact hK _ _ ⟨_, rfl, Reg.KJ.refl _, fun d hd => by cases hd; exact rfl, fun h => by cases h⟩
      · intro x u hku hd
        have h117 : x 117 = .bool true := hd 28 (by decide)
        refine wpOp_step rfl fun KK hK => ?_
        simp only [h117] at hK ⊢
        go_simp
        exact hK _ _ ⟨_, rfl, Reg.KJ.refl _, fun d hd => by cases hd; exact rfl, fun h => by cases h⟩
    · intro z V12 hku hall
      have e0 : z 0 = .bool true := hall 29 (by decide)
      have HFIN := Lib.hid ((HV11.out.on hku.belowT).bb)
      clear hku hall
      simp only [Reg.frame, Reg.over, Nat.reduceAdd, Nat.reduceLeDiff, Nat.reduceBEq, Bool.or_true, Bool.or_false, decide_true, decide_false, if_true, Bool.false_eq_true, if_false, Bool.and_true, Bool.and_false, e0]
      go_wp2_with fail
      go_ret
      exact ⟨rfl, HFIN.out⟩
end Go.Proofs.Ytcangipaoancnaa

