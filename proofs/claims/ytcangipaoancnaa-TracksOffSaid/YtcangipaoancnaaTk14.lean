/-
  A lane made: New, or the error. No condition.
-/
import Derived.Test.YtcangipaoancnaaTk11
namespace Go.Proofs.Ytcangipaoancnaa
open Go.RowKit
set_option linter.unusedVariables false
set_option linter.unusedSimpArgs false

theorem at_good {w : World} {N : Nat} {t : Tk} (h : GoodTk w N t) (r : Nat) {d s : Nat} (hd : d < 2) (hs : s < N) : Good w (t.at r d s) := by
  unfold Tk.at
  split
  · exact h.o
  · split
    · exact h.n d s hd hs
    · exact h.f d s hd hs
def Reg.FactK.cp {B : Nat} (lo : Nat) (P : Ro) : Reg.FactK (Reg.KJ B [] []) := ⟨fun v w => ∃ L : List Value, v = .agg L.toArray ∧ RowO w lo P L, fun _ _ w' hb h => by
  obtain ⟨L, e, h⟩ := h
  exact ⟨L, e, h.on ⟨hb.1.os, hb.1.tape, hb.1.output, hb.1.size, fun k hk => hb.2.1 k hk (by simp)⟩⟩⟩
theorem Reg.KJ.belowT {B : Nat} {Js : List (World → Prop)} {w w' : World} (h : Reg.KJ B [] Js w w') : Below w.heap.size w w' := ⟨h.1.os, h.1.tape, h.1.output, h.1.size, fun k hk => h.2.1 k hk (by simp)⟩
theorem LaneS.nowIn {w : World} {own : Nat → Prop} {b N me E : Nat} {T : Nat → Tk} {t : Tk} (h : LaneS w own b N me E T (some t)) : TkIn w w.heap.size b 2 N t := by
  obtain ⟨Lc, h1, _⟩ := h.blk
  exact (h.nk t rfl).in_ h1.lt (ln_pin h1).range
theorem LaneS.cells {w : World} {own : Nat → Prop} {b N me E : Nat} {T : Nat → Tk} {nw : Option Tk} (h : LaneS w own b N me E T nw) : w.cell? ⟨b, 0, none⟩ = some (.int .i64 (N : Int)) ∧ w.cell? ⟨b, 1, none⟩ = some (.int .i64 (me : Int)) := by
  obtain ⟨Lc, h1, _⟩ := h.blk
  exact ⟨ln_cell0 h1, ln_cell1 h1⟩
set_option maxRecDepth 100000 in
set_option maxHeartbeats 4000000 in
theorem out_is (own : Nat → Prop) (b N me E : Nat) (T : Nat → Tk) (t : Tk) (d : Nat) (hd : d < 2) (w : World) (hL : LaneS w own b N me E T (some t)) :
    Calls Try.prog 60 #[.pointer (some ⟨b, 0, none⟩), .int .u8 (d : Int)] w fun e w' => ∃ G, ∃ Ls : Nat → List Value, e = .returned (.agg #[.slice (some ⟨G, 0, none⟩) N N]) ∧ w.heap.size ≤ G ∧ (∀ i, (Ls i).length = 57) ∧ Blk w' G 54 (flL Ls N).toArray ∧ RowsO w' (G + 1) N (fun s => (t.at (distM N me d s) d s).ro) Ls ∧ Below w.heap.size w w' := by
  obtain ⟨i0, hi0, hz0, hz1, hz2⟩ := info_parts infoRow
  have HI := Lib.hid hi0
  have HZ0 := Lib.hid hz0
  have HZ1 := Lib.hid hz1
  have HZ2 := Lib.hid hz2
  have HL := Lib.hid hL
  have hN := hL.N4
  have hmN := hL.meN
  have HC0 := Lib.hid hL.cells
  have HLT := Lib.hid hL.blt
  clear hL hi0 hz0 hz1 hz2
  go_enter Try.func60, Try.ntmps60
  go_upto_region 1 with fail
  refine wp_at (fun U => Blk U w.heap.size 34 #[.slice none 0 0] ∧ Below w.heap.size w U) ⟨Blk.new w _ _, below_al (Below.refl _ w) _⟩ ?_
  rintro U ⟨h4, hU⟩
  have H4 := Lib.hid h4
  have HU := Lib.hid hU
  obtain ⟨c0, _⟩ := (HL.out.on hU).cells
  have lb := cell_ltT c0
  clear h4 hU
  go_upto_region 2 with (first
    | (refine wpList_make_flat rfl (.tmp 10) (.tmp 10) 32 rfl 54 i0 _ (roL false ceN none 0 0) 160 57 elemRows HI.out HZ0.out rfl HZ1.out HZ2.out (roL_len _ _ _ _ _) (by decide) N N (by simp [Act.eval]) (by simp [Act.eval]) (Nat.le_refl _) (by omega) (by omega) ?_; intro w1 hB1 hb1 hs1; have HB1 := Lib.hid hB1; have Hb1 := Lib.hid hb1; clear hB1 hb1 hs1))
  obtain ⟨G, hG⟩ : ∃ G, G = U.heap.size := ⟨_, rfl⟩
  have HGE := Lib.hid hG
  have HGL : Hid (w.heap.size + 1 ≤ G) := Lib.hid (by rw [hG]; exact H4.out.lt)
  rw [← hG] at HB1 ⊢
  refine wp_at (fun V => Blk V w1.heap.size 34 #[.slice (some ⟨G, 0, none⟩) N N] ∧ Blk V G 54 (flL (fun _ => roL false ceN none 0 0) N).toArray ∧ Blk V w.heap.size 34 #[.slice none 0 0] ∧ Below w.heap.size w V) ⟨Blk.new w1 _ _, HB1.out.alloc _, (H4.out.on Hb1.out).alloc _, below_al (below_then HU.out Hb1.out) _⟩ ?_
  rintro V ⟨v1, v2, v3, v4⟩
  obtain ⟨g5, hg5⟩ : ∃ g5, g5 = w1.heap.size := ⟨_, rfl⟩
  rw [← hg5] at v1 ⊢
  have HG5 : Hid (G < g5) := Lib.hid (by rw [hg5]; exact HB1.out.lt)
  have H5 := Lib.hid v1
  have HBG := Lib.hid v2
  have HB4 := Lib.hid v3
  have HBV := Lib.hid v4
  have c5 := v1.cell 0
  have l5 := v1.lt
  clear v1 v2 v3 v4 HB1 Hb1 H4 HU hG hg5 HGE
  go_upto_region 3 with fail
  clear c5 l5
  go_loopw [16] (fun s wr => ∃ k : Nat, k ≤ N ∧ s = .int .i64 (k : Int) ∧ ∃ Ls : Nat → List Value, Hid (∀ i, (Ls i).length = 57) ∧ Hid (∀ i, k ≤ i → Ls i = roL false ceN none 0 0) ∧ Hid (RowsO wr (G + 1) k (fun s => (t.at (distM N me d s) d s).ro) Ls) ∧ Hid (Blk wr G 54 (flL Ls N).toArray) ∧ Hid (Blk wr g5 34 #[.slice (some ⟨G, 0, none⟩) N N]) ∧ Hid (Blk wr w.heap.size 34 #[.slice none 0 0]) ∧ Hid (Below w.heap.size w wr)) (fun s _ => N - (intOf s).toNat)
  case atStart => exact ⟨0, by omega, rfl, _, Lib.hid fun i => roL_len _ _ _ _ _, Lib.hid fun i _ => rfl, Lib.hid fun i hi => absurd hi (by omega), HBG, H5, HB4, HBV⟩
  case round =>
    clear HBG H5 HB4 HBV
    obtain ⟨k, hk, rfl, Ls, HLN, HE, HO, HB, H5, H4, HU⟩ := hrel
    by_cases hlt' : k < N
    · have HP : Hid (PIn wr G (k * 57) 54 (flL Ls k) (flL (fun j => Ls (k + 1 + j)) (N - (k + 1))) (roL false ceN none 0 0)) := Lib.hid ⟨by have := HB.out; rw [flL_at _ hlt', HE.out k (Nat.le_refl _)] at this; exact this, flL_len HLN.out _⟩
      obtain ⟨r, hr⟩ : ∃ r, r = distM N me d k := ⟨_, rfl⟩
      have HRE := Lib.hid hr
      obtain ⟨X, hX⟩ : ∃ X, X = t.at r d k := ⟨_, rfl⟩
      have HXE := Lib.hid hX
      have HTR : Hid (∀ u, Below w.heap.size w u → Calls Try.prog 84 #[.pointer (some ⟨b, 0, none⟩), .pointer (some ⟨b, 2, none⟩), .int .u8 (d : Int), .int .i64 (k : Int)] u fun e w' => e = .returned (.agg X.l.toArray) ∧ Below u.heap.size u w') := Lib.hid (fun u hu => by rw [hX]; exact track_is b 2 N me t d k r hN hmN hd hlt' hr.symm u (HL.out.on hu).cells.1 (HL.out.on hu).cells.2 (HL.out.on hu).nowIn)
      have HGX : Hid (∀ u, Below w.heap.size w u → Good u X) := Lib.hid (fun u hu => by rw [hX]; exact at_good ((HL.out.on hu).nk t rfl).good r hd hlt')
      clear hr hX
      go_upto_region 5 with fail
      refine Reg.wp_prefix 12 (by kernel_rfl) (fun t => decide (19 ≤ t) && decide (t ≤ 30)) (Reg.KJ wr.heap.size [] []) (Reg.KJ.drew _ (by simp)) Reg.KJ.trans (by kernel_rfl) (by kernel_rfl) (by kernel_rfl) (by kernel_rfl) (fun zz => (Reg.tblK [
        (19, .is (.pointer (some ⟨g5, 0, none⟩))),
        (20, .is (.slice (some ⟨G, 0, none⟩) N N)),
        (21, .is (.int .i64 (k : Int))),
        (22, .is (.pointer (some ⟨b, 0, none⟩))),
        (23, .is (.pointer (some ⟨b, 0, none⟩))),
        (24, .is (.pointer (some ⟨b, 0, none⟩))),
        (25, .is (.pointer (some ⟨b, 2, none⟩))),
        (26, .is (.int .u8 (d : Int))),
        (27, .is (.int .i64 (k : Int))),
        (28, .is (.agg X.l.toArray)),
        (29, .cp wr.heap.size X.ro),
        (30, .is (.pointer (some ⟨G, k * 57, none⟩)))] zz).P) (fun zz => (Reg.tblK _ zz).on) (fun zz => (Reg.memK [] zz).P) (fun zz => (Reg.memK _ zz).on) ?_ ?_
      · simp only [Reg.frame, Reg.over, Nat.reduceAdd, Nat.reduceLeDiff, decide_true, decide_false, if_true, Bool.false_eq_true, if_false, Bool.and_true, Bool.and_false]
        refine ⟨?_, ?_, ?_, ?_, ?_, ?_, ?_, ?_, ?_, ?_, ?_, ?_, trivial⟩
        · intro x u hku hd
          have h5 := H5.out.on hku.belowT
          have c5 := h5.cell 0
          have l5 := h5.lt
          refine wpOp_step rfl fun KK hK => ?_
          go_simp
          exact hK _ _ ⟨_, rfl, Reg.KJ.refl _, fun d hd => by cases hd; exact rfl, fun h => by cases h⟩
        · intro x u hku hd
          have h19 : x 19 = .pointer (some ⟨g5, 0, none⟩) := hd 0 (by decide)
          have h5 := H5.out.on hku.belowT
          have c5 := h5.cell 0
          have l5 := h5.lt
          refine wpOp_step rfl fun KK hK => ?_
          simp only [h19] at hK ⊢
          go_simp
          exact hK _ _ ⟨_, rfl, Reg.KJ.refl _, fun d hd => by cases hd; exact rfl, fun h => by cases h⟩
        · intro x u hku hd
          refine wpOp_step rfl fun KK hK => ?_
          go_simp
          exact hK _ _ ⟨_, rfl, Reg.KJ.refl _, fun d hd => by cases hd; exact rfl, fun h => by cases h⟩
        · intro x u hku hd
          refine wpOp_step rfl fun KK hK => ?_
          go_simp
          exact hK _ _ ⟨_, rfl, Reg.KJ.refl _, fun d hd => by cases hd; exact rfl, fun h => by cases h⟩
        · intro x u hku hd
          refine wpOp_step rfl fun KK hK => ?_
          go_simp
          exact hK _ _ ⟨_, rfl, Reg.KJ.refl _, fun d hd => by cases hd; exact rfl, fun h => by cases h⟩
        · intro x u hku hd
          have h23 : x 23 = .pointer (some ⟨b, 0, none⟩) := hd 4 (by decide)
          have hbw : Below w.heap.size w u := below_then HU.out hku.belowT
          have c0 := (HL.out.on hbw).cells.1
          have lb := cell_ltT c0
          refine wpOp_step rfl fun KK hK => ?_
          simp only [h23] at hK ⊢
          go_simp
          exact hK _ _ ⟨_, rfl, Reg.KJ.refl _, fun d hd => by cases hd; exact rfl, fun h => by cases h⟩
        · intro x u hku hd
          have h24 : x 24 = .pointer (some ⟨b, 0, none⟩) := hd 5 (by decide)
          have hbw : Below w.heap.size w u := below_then HU.out hku.belowT
          have c0 := (HL.out.on hbw).cells.1
          have lb := cell_ltT c0
          refine wpOp_step rfl fun KK hK => ?_
          simp only [h24] at hK ⊢
          go_simp
          exact hK _ _ ⟨_, rfl, Reg.KJ.refl _, fun d hd => by cases hd; exact rfl, fun h => by cases h⟩
        · intro x u hku hd
          refine wpOp_step rfl fun KK hK => ?_
          go_simp
          exact hK _ _ ⟨_, rfl, Reg.KJ.refl _, fun d hd => by cases hd; exact rfl, fun h => by cases h⟩
        · intro x u hku hd
          refine wpOp_step rfl fun KK hK => ?_
          go_simp
          exact hK _ _ ⟨_, rfl, Reg.KJ.refl _, fun d hd => by cases hd; exact rfl, fun h => by cases h⟩
        · intro x u hku hd
          have h22 : x 22 = .pointer (some ⟨b, 0, none⟩) := hd 3 (by decide)
          have h25 : x 25 = .pointer (some ⟨b, 2, none⟩) := hd 6 (by decide)
          have h26 : x 26 = .int .u8 (d : Int) := hd 7 (by decide)
          have h27 : x 27 = .int .i64 (k : Int) := hd 8 (by decide)
          refine wpOp_step rfl fun KK hK => ?_
          simp only [h22, h25, h26, h27] at hK ⊢
          go_simp
          have hbw : Below w.heap.size w u := below_then HU.out hku.belowT
          go_at_call 84
          (with_reducible refine (HTR.out _ hbw).mono ?_)
          rintro e u' ⟨rfl, q1⟩
          exact hK _ _ ⟨_, rfl, Reg.KJ.grow (by simp) hku.size q1, fun d hd => by cases hd; exact rfl, fun h => by cases h⟩
        · intro x u hku hd
          have h28 : x 28 = .agg X.l.toArray := hd 9 (by decide)
          refine wpOp_step rfl fun KK hK => ?_
          simp only [h28] at hK ⊢
          go_simp
          have hbw : Below w.heap.size w u := below_then HU.out hku.belowT
          have hgx := HGX.out _ hbw
          go_at_call 78
          (with_reducible refine (copy_any X hgx.n hgx.m _ hgx.t).mono ?_)
          rintro e u' ⟨L, rfl, q1, q2⟩
          exact hK _ _ ⟨_, rfl, Reg.KJ.grow (by simp) hku.size q2, fun d hd => by cases hd; exact ⟨L, rfl, q1.mono hku.size⟩, fun h => by cases h⟩
        · intro x u hku hd
          have h20 : x 20 = .slice (some ⟨G, 0, none⟩) N N := hd 1 (by decide)
          have h21 : x 21 = .int .i64 (k : Int) := hd 2 (by decide)
          have hix := fun W => idxRows (A := some ⟨G, 0, none⟩) (n := N) N rfl hlt' W
          simp only [Nat.zero_add] at hix
          refine wpOp_step rfl fun KK hK => ?_
          simp only [h20, h21] at hK ⊢
          go_simp
          exact hK _ _ ⟨_, rfl, Reg.KJ.refl _, fun d hd => by cases hd; exact rfl, fun h => by cases h⟩
      · intro x u hku hdd
        have k29 := hdd 10 (by decide)
        obtain ⟨L, h29, q1⟩ := k29
        have h29' : x 29 = .agg L.toArray := h29
        have h30 : x 30 = .pointer (some ⟨G, k * 57, none⟩) := hdd 11 (by decide)
        have HQ := Lib.hid q1
        have HKU := Lib.hid hku.belowT
        have HP1 := Lib.hid (HP.out.on HKU.out)
        clear hku hdd h29 q1
        simp only [Reg.frame, Reg.over, Nat.reduceAdd, Nat.reduceLeDiff, decide_true, decide_false, if_true, Bool.false_eq_true, if_false, Bool.and_true, Bool.and_false, h29', h30]
        go_upto_region 6 with (refine wpList_store_pin rfl 54 (.tmp 30) (.tmp 29) rfl HP1.out L (by simp [Act.eval, Act.put]) (by simp [Act.eval, Act.put]) 57 size_row (roL_len _ _ _ _ _) HQ.out.len HQ.out.one ?_; intro w5 p1 b1; have HP5 := Lib.hid p1; have HB5 := Lib.hid b1; clear p1 b1)
        go_wp2_with fail
        go_roundw
        case rel =>
          have hgw : G + 1 ≤ wr.heap.size := HB.out.lt
          refine ⟨k + 1, by omega, by go_num, fun i => if i = k then L else Ls i, Lib.hid fun i => ?_, Lib.hid fun i hi => ?_, Lib.hid fun i hi => ?_, Lib.hid ?_, Lib.hid ?_, Lib.hid ?_, Lib.hid ?_⟩
          · show (if i = k then L else Ls i).length = 57
            split
            · exact HQ.out.len
            · exact HLN.out i
          · show (if i = k then L else Ls i) = _
            rw [if_neg (by omega)]; exact HE.out i (by omega)
          · by_cases e : i = k
            · subst e
              simp only [if_true]
              rw [← HRE.out, ← HXE.out]
              exact (HQ.out.mono hgw).but HB5.out (by omega)
            · simp only [e, if_false]
              exact ((HO.out i (by omega)).on HKU.out).but HB5.out (by omega)
          · rw [← flL_upd Ls k L hlt']; exact HP5.out.blk
          · exact HB5.out.blk (H5.out.on HKU.out) (by have := HG5.out; omega)
          · exact HB5.out.blk (H4.out.on HKU.out) (by have := HGL.out; omega)
          · exact (below_then HU.out HKU.out).trans (HB5.out.low (by have := HGL.out; omega))
        case measure => simp [intOf]; omega
    · obtain rfl : k = N := by omega
      have c5 := H5.out.cell 0
      have l5 := H5.out.lt
      have c4 := H4.out.cell 0
      have f4 := H4.out.frozen 0
      have l4 := H4.out.lt
      have q := But.one (u := wr) (g := w.heap.size) 0 (.slice (some ⟨G, 0, none⟩) k k)
      go_wp2_with fail
      exact bodyPost_ret (v := .agg #[.slice (some ⟨G, 0, none⟩) k k]) (by simp [results, Try.results60, go_sem, c4]) rfl ⟨G, Ls, rfl, by have := HGL.out; omega, HLN.out, q.blk HB.out (by have := HGL.out; omega), fun i hi => (HO.out i hi).but q (by have := HGL.out; omega), HU.out.trans (q.low (Nat.le_refl _))⟩
end Go.Proofs.Ytcangipaoancnaa

namespace Go.Proofs.Ytcangipaoancnaa
open Go.RowKit
set_option linter.unusedVariables false
set_option linter.unusedSimpArgs false

/-- Behind Say: where the lane's new blocks end, what was said, the words that go out. -/
def SayQ (w : World) (own : Nat → Prop) (b N me E : Nat) (T : Nat → Tk) (t : Tk) (r : Rw) (e : Ending) (w' : World) : Prop :=
  ∃ lo mid R G1 G2, ∃ L1 L2 : Nat → List Value, w.heap.size ≤ lo ∧ lo ≤ mid ∧ mid ≤ G1 ∧ G1 < G2 ∧ R.ro = plR N r.ro ∧ LaneS w' (fun g => own g ∨ (lo ≤ g ∧ g < mid)) b N me (E + 1) (fun i => if i = E then { t with o := R } else T i) none ∧
    e = .returned (.tuple #[.agg #[.slice (some ⟨G1, 0, none⟩) N N], .agg #[.slice (some ⟨G2, 0, none⟩) N N]]) ∧ (∀ i, (L1 i).length = 57) ∧ (∀ i, (L2 i).length = 57) ∧ Blk w' G1 54 (flL L1 N).toArray ∧ Blk w' G2 54 (flL L2 N).toArray ∧
    RowsO w' (G1 + 1) N (fun s => (({ t with o := R } : Tk).at (distM N me 0 s) 0 s).ro) L1 ∧ RowsO w' (G2 + 1) N (fun s => (({ t with o := R } : Tk).at (distM N me 1 s) 1 s).ro) L2 ∧ But b w w'
theorem tkL_split (N : Nat) (t : Tk) : tkL N t = [.bool t.g, .slice (t.nA 0) N (t.nc 0), .slice (t.fA 0) N (t.fc 0), .slice (t.nA 1) N (t.nc 1), .slice (t.fA 1) N (t.fc 1)] ++ (t.o.l ++ []) := by simp [tkL]
theorem say_store {w1 u U : World} {own : Nat → Prop} {b N me E : Nat} {T : Nat → Tk} {t : Tk} {R : Rw} {Lc : Nat → List Value} (hL : LaneS u own b N me E T (some t)) (hb : b < U.heap.size) (hR : RwK u (From U.heap.size u) R) (hB : Blk w1 b 138 (lnL N me (E % N) (tkL N { t with o := R }) Lc).toArray) (hC : (∀ p, (Lc p).length = 62) ∧ (∀ i, i < E → E ≤ i + N → Lc (i % N) = tkL N (T i)) ∧ (∀ p, E ≤ p → Lc p = tkZ)) (hbut : But b u w1) :
    LaneS w1 (fun g => own g ∨ (U.heap.size ≤ g ∧ g < u.heap.size)) b N me E T (some { t with o := R }) := by
  have hk : ∀ g, own g → w1.heap[g]? = u.heap[g]? := fun g hg => hbut.2 g (hL.lt g hg).1 (hL.lt g hg).2
  refine ⟨hL.N4, hL.meN, ⟨Lc, hB, hC.1, hC.2.1, hC.2.2⟩, fun i h1 h2 => (hL.tk i h1 h2).keep (fun g hg => .inl hg) hk, fun t' e => ?_, fun g hg => ?_⟩
  · cases e
    have ht := (hL.nk t rfl).keep (own' := fun g => own g ∨ (U.heap.size ≤ g ∧ g < u.heap.size)) (fun g hg => .inl hg) hk
    exact ⟨ht.g, hR.keep (fun g hg => .inr ⟨hg.1, hg.2⟩) fun g hg => hbut.2 g hg.2 (by have := hg.1; omega), ht.n, ht.f⟩
  · rcases hg with hg | ⟨h1, h2⟩
    · exact ⟨Nat.lt_of_lt_of_le (hL.lt g hg).1 hbut.1.size, (hL.lt g hg).2⟩
    · exact ⟨Nat.lt_of_lt_of_le h2 hbut.1.size, by omega⟩
set_option maxRecDepth 100000 in
theorem say_nil (L : List Value) (hL : L.length = 57) (w : World) : Calls Try.prog 23 #[.pointer none, .agg L.toArray] w fun e w' => e = .returned (.tuple #[.agg #[.slice none 0 0], .agg #[.slice none 0 0]]) ∧ Below w.heap.size w w' := by
  go_enter Try.func23, Try.ntmps23
  go_upto_region 1 with fail
  refine wp_at (fun U => Blk U (w.heap.size + 1) 34 #[.slice none 0 0] ∧ Blk U (w.heap.size + 1 + 1) 34 #[.slice none 0 0] ∧ Below w.heap.size w U) ?_ ?_
  · refine ⟨?_, ?_, below_al (below_al (below_al (Below.refl _ w) _) _) _⟩
    · have := (Blk.new (w.alloc (.cells L.toArray 54)) 34 #[.slice none 0 0]).alloc (.cells #[.slice none 0 0] 34)
      rwa [alloc_size] at this
    · have := Blk.new ((w.alloc (.cells L.toArray 54)).alloc (.cells #[.slice none 0 0] 34)) 34 #[.slice none 0 0]
      rwa [alloc_size, alloc_size] at this
  rintro U ⟨h4, h5, hb⟩
  have c4 := h4.cell 0
  have f4 := h4.frozen 0
  have l4 := h4.lt
  have c5 := h5.cell 0
  have f5 := h5.frozen 0
  have l5 := h5.lt
  have HB := Lib.hid hb
  clear hb h4 h5
  have q := (But.one (u := U) (g := w.heap.size + 1) 0 (.slice none 0 0)).low (B := w.heap.size) (by omega)
  have q2 := (But.one (u := U.setCell ⟨w.heap.size + 1, 0, none⟩ (.slice none 0 0)) (g := w.heap.size + 1 + 1) 0 (.slice none 0 0)).low (B := w.heap.size) (by omega)
  have HBE := Lib.hid ((HB.out.trans q).trans q2)
  clear q q2
  go_wp2_with (go_at_call 51; (with_reducible refine (made_nil _).mono ?_); rintro e w1 ⟨rfl, rfl⟩)
  exact bodyPost_ret (v := .tuple #[.agg #[.slice none 0 0], .agg #[.slice none 0 0]]) (by simp [results, Try.results23, go_sem, c4, c5]) rfl ⟨rfl, HBE.out⟩
set_option maxRecDepth 100000 in
theorem say_zero (l : Nat) (L : List Value) (hL : L.length = 57) (w : World) (h0 : w.cell? ⟨l, 0, none⟩ = some (.int .i64 0)) : Calls Try.prog 23 #[.pointer (some ⟨l, 0, none⟩), .agg L.toArray] w fun e w' => e = .returned (.tuple #[.agg #[.slice none 0 0], .agg #[.slice none 0 0]]) ∧ Below w.heap.size w w' := by
  go_enter Try.func23, Try.ntmps23
  go_upto_region 1 with fail
  refine wp_at (fun U => Blk U (w.heap.size + 1) 34 #[.slice none 0 0] ∧ Blk U (w.heap.size + 1 + 1) 34 #[.slice none 0 0] ∧ Below w.heap.size w U) ?_ ?_
  · refine ⟨?_, ?_, below_al (below_al (below_al (Below.refl _ w) _) _) _⟩
    · have := (Blk.new (w.alloc (.cells L.toArray 54)) 34 #[.slice none 0 0]).alloc (.cells #[.slice none 0 0] 34)
      rwa [alloc_size] at this
    · have := Blk.new ((w.alloc (.cells L.toArray 54)).alloc (.cells #[.slice none 0 0] 34)) 34 #[.slice none 0 0]
      rwa [alloc_size, alloc_size] at this
  rintro U ⟨h4, h5, hb⟩
  have c4 := h4.cell 0
  have f4 := h4.frozen 0
  have l4 := h4.lt
  have c5 := h5.cell 0
  have f5 := h5.frozen 0
  have l5 := h5.lt
  have HB := Lib.hid hb
  have HC0 := Lib.hid (belowW hb h0)
  clear h0
  clear hb h4 h5
  have q := (But.one (u := U) (g := w.heap.size + 1) 0 (.slice none 0 0)).low (B := w.heap.size) (by omega)
  have q2 := (But.one (u := U.setCell ⟨w.heap.size + 1, 0, none⟩ (.slice none 0 0)) (g := w.heap.size + 1 + 1) 0 (.slice none 0 0)).low (B := w.heap.size) (by omega)
  have HBE := Lib.hid ((HB.out.trans q).trans q2)
  clear q q2
  go_wp2_with (go_at_call 51; (with_reducible refine (made_zero l _ HC0.out).mono ?_); rintro e w1 ⟨rfl, rfl⟩)
  exact bodyPost_ret (v := .tuple #[.agg #[.slice none 0 0], .agg #[.slice none 0 0]]) (by simp [results, Try.results23, go_sem, c4, c5]) rfl ⟨rfl, HBE.out⟩
set_option maxRecDepth 100000 in
theorem say_none (own : Nat → Prop) (b N me E : Nat) (T : Nat → Tk) (L : List Value) (hL : L.length = 57) (w : World) (h0 : LaneS w own b N me E T none) : Calls Try.prog 23 #[.pointer (some ⟨b, 0, none⟩), .agg L.toArray] w fun e w' => e = .returned (.tuple #[.agg #[.slice none 0 0], .agg #[.slice none 0 0]]) ∧ Below w.heap.size w w' := by
  go_enter Try.func23, Try.ntmps23
  go_upto_region 1 with fail
  refine wp_at (fun U => Blk U (w.heap.size + 1) 34 #[.slice none 0 0] ∧ Blk U (w.heap.size + 1 + 1) 34 #[.slice none 0 0] ∧ Below w.heap.size w U) ?_ ?_
  · refine ⟨?_, ?_, below_al (below_al (below_al (Below.refl _ w) _) _) _⟩
    · have := (Blk.new (w.alloc (.cells L.toArray 54)) 34 #[.slice none 0 0]).alloc (.cells #[.slice none 0 0] 34)
      rwa [alloc_size] at this
    · have := Blk.new ((w.alloc (.cells L.toArray 54)).alloc (.cells #[.slice none 0 0] 34)) 34 #[.slice none 0 0]
      rwa [alloc_size, alloc_size] at this
  rintro U ⟨h4, h5, hb⟩
  have c4 := h4.cell 0
  have f4 := h4.frozen 0
  have l4 := h4.lt
  have c5 := h5.cell 0
  have f5 := h5.frozen 0
  have l5 := h5.lt
  have HB := Lib.hid hb
  have HC0 := Lib.hid (h0.on hb).cells.1
  have hnd : (!decide (N = 0)) = true := by have := h0.N4; simp; omega
  have cg : U.cell? ⟨b, 2, none⟩ = some (.bool false) := by
    obtain ⟨Lc, h1, _⟩ := (h0.on hb).blk
    exact ((ln_pin h1).cell0 (by rw [tkZ_len]; decide)).trans rfl
  have lb := cell_ltT cg
  clear h0
  clear hb h4 h5
  have q := (But.one (u := U) (g := w.heap.size + 1) 0 (.slice none 0 0)).low (B := w.heap.size) (by omega)
  have q2 := (But.one (u := U.setCell ⟨w.heap.size + 1, 0, none⟩ (.slice none 0 0)) (g := w.heap.size + 1 + 1) 0 (.slice none 0 0)).low (B := w.heap.size) (by omega)
  have HBE := Lib.hid ((HB.out.trans q).trans q2)
  clear q q2
  go_wp2_with (go_at_call 51; (with_reducible refine (made_is b N _ HC0.out).mono ?_); rintro e w1 ⟨rfl, rfl⟩)
  exact bodyPost_ret (v := .tuple #[.agg #[.slice none 0 0], .agg #[.slice none 0 0]]) (by simp [results, Try.results23, go_sem, c4, c5]) rfl ⟨rfl, HBE.out⟩
/-- What stands behind both words: the lane, the results' boxes, the rows. -/
structure SayI (w : World) (own : Nat → Prop) (b N me E : Nat) (T : Nat → Tk) (nw : Option Tk) (G1 G2 : Nat) (L1 L2 : Nat → List Value) (P1 P2 : Nat → Ro) (V1 V2 : Value) (V : World) : Prop where
  l : LaneS V own b N me E T nw
  b4 : Blk V (w.heap.size + 1) 34 #[V1]
  b5 : Blk V (w.heap.size + 1 + 1) 34 #[V2]
  g1 : Blk V G1 54 (flL L1 N).toArray
  g2 : Blk V G2 54 (flL L2 N).toArray
  r1 : RowsO V (G1 + 1) N P1 L1
  r2 : RowsO V (G2 + 1) N P2 L2
  bb : But b w V
  no : ∀ g, own g → g < w.heap.size ∨ w.heap.size + 3 ≤ g
  b : b < w.heap.size
  s1 : w.heap.size + 3 ≤ G1
  s2 : w.heap.size + 3 ≤ G2
section
variable {w : World} {own : Nat → Prop} {b N me E : Nat} {T : Nat → Tk} {nw : Option Tk} {G1 G2 : Nat} {L1 L2 : Nat → List Value} {P1 P2 : Nat → Ro} {V1 V2 : Value} {V : World}
theorem SayI.set4 (h : SayI w own b N me E T nw G1 G2 L1 L2 P1 P2 V1 V2 V) (v : Value) : SayI w own b N me E T nw G1 G2 L1 L2 P1 P2 v V2 (V.setCell ⟨w.heap.size + 1, 0, none⟩ v) := by
  have q := But.one (u := V) (g := w.heap.size + 1) 0 v
  have hb := h.b
  have h1 := h.s1
  have h2 := h.s2
  exact ⟨h.l.but q (by omega) (fun e => by have := h.no _ e; omega), h.b4.set_ 0 v, q.blk h.b5 (by omega), q.blk h.g1 (by omega), q.blk h.g2 (by omega), fun i hi => (h.r1 i hi).but q (by omega), fun i hi => (h.r2 i hi).but q (by omega), ⟨h.bb.1.trans (q.low (by omega)), fun k hk hn => (q.2 k (Nat.lt_of_lt_of_le hk h.bb.1.size) (by omega)).trans (h.bb.2 k hk hn)⟩, h.no, hb, h1, h2⟩
theorem SayI.set5 (h : SayI w own b N me E T nw G1 G2 L1 L2 P1 P2 V1 V2 V) (v : Value) : SayI w own b N me E T nw G1 G2 L1 L2 P1 P2 V1 v (V.setCell ⟨w.heap.size + 1 + 1, 0, none⟩ v) := by
  have q := But.one (u := V) (g := w.heap.size + 1 + 1) 0 v
  have hb := h.b
  have h1 := h.s1
  have h2 := h.s2
  exact ⟨h.l.but q (by omega) (fun e => by have := h.no _ e; omega), q.blk h.b4 (by omega), h.b5.set_ 0 v, q.blk h.g1 (by omega), q.blk h.g2 (by omega), fun i hi => (h.r1 i hi).but q (by omega), fun i hi => (h.r2 i hi).but q (by omega), ⟨h.bb.1.trans (q.low (by omega)), fun k hk hn => (q.2 k (Nat.lt_of_lt_of_le hk h.bb.1.size) (by omega)).trans (h.bb.2 k hk hn)⟩, h.no, hb, h1, h2⟩
theorem SayI.drew (h : SayI w own b N me E T nw G1 G2 L1 L2 P1 P2 V1 V2 V) : SayI w own b N me E T nw G1 G2 L1 L2 P1 P2 V1 V2 V.drew := by
  have q : Below V.heap.size V V.drew := (Below.refl _ V).drew
  exact ⟨h.l.on q, h.b4.on q, h.b5.on q, h.g1.on q, h.g2.on q, fun i hi => (h.r1 i hi).on q, fun i hi => (h.r2 i hi).on q, h.bb.drew, h.no, h.b, h.s1, h.s2⟩
theorem SayI.end_ {t : Tk} {V' : World} (h : SayI w own b N me E T (some t) G1 G2 L1 L2 P1 P2 V1 V2 V) (hl : LaneS V' own b N me (E + 1) (fun i => if i = E then t else T i) none) (q : But b V V') : SayI w own b N me (E + 1) (fun i => if i = E then t else T i) none G1 G2 L1 L2 P1 P2 V1 V2 V' := by
  have hb := h.b
  have h1 := h.s1
  have h2 := h.s2
  exact ⟨hl, q.blk h.b4 (by omega), q.blk h.b5 (by omega), q.blk h.g1 (by omega), q.blk h.g2 (by omega), fun i hi => (h.r1 i hi).but q (by omega), fun i hi => (h.r2 i hi).but q (by omega), h.bb.trans q, h.no, hb, h1, h2⟩
end
theorem But.box {g : Nat} {w U : World} (h : Below w.heap.size w U) (hg : g < w.heap.size) : But g w U := ⟨h.mono (Nat.le_of_lt hg), fun k hk _ => h.block k hk⟩
set_option maxRecDepth 100000 in
set_option maxHeartbeats 4000000 in
theorem say_is (own : Nat → Prop) (b N me E : Nat) (T : Nat → Tk) (t : Tk) (r : Rw) (w : World) (hL : LaneS w own b N me E T (some t)) (hr : ∀ u, But b w u → LiesH u u.heap.size r.A r.n r.T) :
    Calls Try.prog 23 #[.pointer (some ⟨b, 0, none⟩), .agg r.l.toArray] w (SayQ w own b N me E T t r) := by
  have HLW := Lib.hid hL
  have HRW := Lib.hid hr
  have hN := hL.N4
  have HN16 := Lib.hid hN.2
  have HBL := Lib.hid hL.blt
  have HRL := Lib.hid (Rw.l_len r)
  have hnd : (!decide (N = 0)) = true := by simp; omega
  clear hL hr
  go_enter Try.func23, Try.ntmps23
  go_upto_region 1 with fail
  refine wp_at (fun U => Blk U w.heap.size 54 r.l.toArray ∧ Blk U (w.heap.size + 1) 34 #[.slice none 0 0] ∧ Blk U (w.heap.size + 1 + 1) 34 #[.slice none 0 0] ∧ Below w.heap.size w U) ?_ ?_
  · refine ⟨((Blk.new w 54 _).alloc _).alloc _, ?_, ?_, below_al (below_al (below_al (Below.refl _ w) _) _) _⟩
    · have := (Blk.new (w.alloc (.cells r.l.toArray 54)) 34 #[.slice none 0 0]).alloc (.cells #[.slice none 0 0] 34)
      rwa [alloc_size] at this
    · have := Blk.new ((w.alloc (.cells r.l.toArray 54)).alloc (.cells #[.slice none 0 0] 34)) 34 #[.slice none 0 0]
      rwa [alloc_size, alloc_size] at this
  rintro U ⟨h3, h4, h5, hb⟩
  have H3 := Lib.hid h3
  have H4 := Lib.hid h4
  have H5 := Lib.hid h5
  have HB := Lib.hid hb
  have HLU := Lib.hid (HLW.out.on hb)
  have HC0 := Lib.hid HLU.out.cells.1
  have cg : U.cell? ⟨b, 2, none⟩ = some (.bool true) := by
    obtain ⟨Lc, h1, _⟩ := HLU.out.blk
    rw [(ln_pin h1).cell0 (by rw [tkL_len]; decide)]
    show some (Value.bool t.g) = _
    rw [(HLU.out.nk t rfl).g]
  have lb := cell_ltT cg
  have HUL : Hid (w.heap.size + 3 ≤ U.heap.size) := Lib.hid h5.lt
  clear h3 h4 h5 hb
  go_upto_region 3 with (go_at_call 51; (with_reducible refine (made_is b N _ HC0.out).mono ?_); rintro e w1 ⟨rfl, rfl⟩)
  clear cg lb hnd
  refine Reg.wp_prefix 10 (by kernel_rfl) (fun t => decide (19 ≤ t) && decide (t ≤ 28)) (Reg.KJ U.heap.size [] []) (Reg.KJ.drew _ (by simp)) Reg.KJ.trans (by kernel_rfl) (by kernel_rfl) (by kernel_rfl) (by kernel_rfl) (fun zz => (Reg.tblK [
    (19, .is (.pointer (some ⟨b, 0, none⟩))),
    (20, .is (.pointer (some ⟨b, 0, none⟩))),
    (21, .is (.pointer (some ⟨b, 0, none⟩))),
    (22, .is (.pointer (some ⟨b, 0, none⟩))),
    (23, .is (.int .i64 (N : Int))),
    (24, .is (.agg r.l.toArray)),
    (25, .cp U.heap.size (plR N r.ro)),
    (26, .is (.pointer (some ⟨b, 0, none⟩))),
    (27, .is (.pointer (some ⟨b, 2, none⟩))),
    (28, .is (.pointer (some ⟨b, 7, none⟩)))] zz).P) (fun zz => (Reg.tblK _ zz).on) (fun zz => (Reg.memK [] zz).P) (fun zz => (Reg.memK _ zz).on) ?_ ?_
  · simp only [Reg.frame, Reg.over, Nat.reduceAdd, Nat.reduceLeDiff, decide_true, decide_false, if_true, Bool.false_eq_true, if_false, Bool.and_true, Bool.and_false]
    refine ⟨?_, ?_, ?_, ?_, ?_, ?_, ?_, ?_, ?_, ?_, trivial⟩
    · intro x u hku hd
      refine wpOp_step rfl fun KK hK => ?_
      go_simp
      exact hK _ _ ⟨_, rfl, Reg.KJ.refl _, fun d hd => by cases hd; exact rfl, fun h => by cases h⟩
    · intro x u hku hd
      refine wpOp_step rfl fun KK hK => ?_
      go_simp
      exact hK _ _ ⟨_, rfl, Reg.KJ.refl _, fun d hd => by cases hd; exact rfl, fun h => by cases h⟩
    · intro x u hku hd
      have h20 : x 20 = .pointer (some ⟨b, 0, none⟩) := hd 1 (by decide)
      have c0 : u.cell? ⟨b, 0, none⟩ = some (.int .i64 (N : Int)) := belowW hku.belowT HC0.out
      have lb := cell_ltT c0
      refine wpOp_step rfl fun KK hK => ?_
      simp only [h20] at hK ⊢
      go_simp
      exact hK _ _ ⟨_, rfl, Reg.KJ.refl _, fun d hd => by cases hd; exact rfl, fun h => by cases h⟩
    · intro x u hku hd
      have h21 : x 21 = .pointer (some ⟨b, 0, none⟩) := hd 2 (by decide)
      have c0 : u.cell? ⟨b, 0, none⟩ = some (.int .i64 (N : Int)) := belowW hku.belowT HC0.out
      have lb := cell_ltT c0
      refine wpOp_step rfl fun KK hK => ?_
      simp only [h21] at hK ⊢
      go_simp
      exact hK _ _ ⟨_, rfl, Reg.KJ.refl _, fun d hd => by cases hd; exact rfl, fun h => by cases h⟩
    · intro x u hku hd
      have h22 : x 22 = .pointer (some ⟨b, 0, none⟩) := hd 3 (by decide)
      have c0 : u.cell? ⟨b, 0, none⟩ = some (.int .i64 (N : Int)) := belowW hku.belowT HC0.out
      have lb := cell_ltT c0
      refine wpOp_step rfl fun KK hK => ?_
      simp only [h22] at hK ⊢
      go_simp
      exact hK _ _ ⟨_, rfl, Reg.KJ.refl _, fun d hd => by cases hd; exact rfl, fun h => by cases h⟩
    · intro x u hku hd
      refine wpOp_step rfl fun KK hK => ?_
      refine Reg.step_load_mid (by rfl) 54 (.tmp 3) (by rfl) w.heap.size 0 (by rfl) r.l (hku.blk (by simp) H3.out).pin.range _ Try.underlying54 rfl (by rw [size_row, HRL.out]) ?_
      exact hK _ _ ⟨_, rfl, Reg.KJ.refl _, fun d hd => by cases hd; exact rfl, fun h => by cases h⟩
    · intro x u hku hd
      have h23 : x 23 = .int .i64 (N : Int) := hd 4 (by decide)
      have h24 : x 24 = .agg r.l.toArray := hd 5 (by decide)
      have hwu : But b w u := But.box (below_then HB.out hku.belowT) HBL.out
      have hru := HRW.out u hwu
      refine wpOp_step rfl fun KK hK => ?_
      simp only [h23, h24] at hK ⊢
      go_simp
      go_at_call 59
      (with_reducible refine (plain_any N HN16.out r _ hru).mono ?_)
      rintro e u' ⟨L, rfl, q1, q2⟩
      exact hK _ _ ⟨_, rfl, Reg.KJ.grow (by simp) hku.size q2, fun d hd => by cases hd; exact ⟨L, rfl, q1.mono hku.size⟩, fun h => by cases h⟩
    · intro x u hku hd
      have h19 : x 19 = .pointer (some ⟨b, 0, none⟩) := hd 0 (by decide)
      have c0 : u.cell? ⟨b, 0, none⟩ = some (.int .i64 (N : Int)) := belowW hku.belowT HC0.out
      have lb := cell_ltT c0
      refine wpOp_step rfl fun KK hK => ?_
      simp only [h19] at hK ⊢
      go_simp
      exact hK _ _ ⟨_, rfl, Reg.KJ.refl _, fun d hd => by cases hd; exact rfl, fun h => by cases h⟩
    · intro x u hku hd
      have h26 : x 26 = .pointer (some ⟨b, 0, none⟩) := hd 7 (by decide)
      have c0 : u.cell? ⟨b, 0, none⟩ = some (.int .i64 (N : Int)) := belowW hku.belowT HC0.out
      have lb := cell_ltT c0
      refine wpOp_step rfl fun KK hK => ?_
      simp only [h26] at hK ⊢
      go_simp
      exact hK _ _ ⟨_, rfl, Reg.KJ.refl _, fun d hd => by cases hd; exact rfl, fun h => by cases h⟩
    · intro x u hku hd
      have h27 : x 27 = .pointer (some ⟨b, 2, none⟩) := hd 8 (by decide)
      have c0 : u.cell? ⟨b, 0, none⟩ = some (.int .i64 (N : Int)) := belowW hku.belowT HC0.out
      have lb := cell_ltT c0
      refine wpOp_step rfl fun KK hK => ?_
      simp only [h27] at hK ⊢
      go_simp
      exact hK _ _ ⟨_, rfl, Reg.KJ.refl _, fun d hd => by cases hd; exact rfl, fun h => by cases h⟩
  · intro x u hku hd
    have k25 := hd 6 (by decide)
    obtain ⟨L, h25, q1⟩ := k25
    have h25' : x 25 = .agg L.toArray := h25
    have h28 : x 28 = .pointer (some ⟨b, 7, none⟩) := hd 9 (by decide)
    obtain ⟨R, hRL, hRR, hRK⟩ := q1.rwK (Nat.le_trans (plR_n N r.ro) HN16.out)
    have HRR := Lib.hid hRR
    have HRK := Lib.hid hRK
    have HKU := Lib.hid hku.belowT
    have HLu := Lib.hid (HLU.out.on HKU.out)
    subst hRL
    clear hku hd h25 q1 hRR hRK
    obtain ⟨Lc, hb1, hb2, hb3, hb4⟩ := HLu.out.blk
    have HP := Lib.hid (((ln_pin hb1).cs (tkL_split N t)).part (o := 7) rfl)
    have HLC := Lib.hid (And.intro hb2 (And.intro hb3 hb4))
    clear hb1 hb2 hb3 hb4
    simp only [Reg.frame, Reg.over, Nat.reduceAdd, Nat.reduceLeDiff, decide_true, decide_false, if_true, Bool.false_eq_true, if_false, Bool.and_true, Bool.and_false, h25', h28]
    go_upto_region 4 with (refine wpList_store_pin rfl 54 (.tmp 28) (.tmp 25) rfl HP.out R.l (by simp [Act.eval, Act.put]) (by simp [Act.eval, Act.put]) 57 size_row (Rw.l_len _) (Rw.l_len _) (roL_one _ _ _ _ _) ?_; intro w1 p1 b1; have HP1 := Lib.hid (p1.whole (O := 2) rfl); have HB1 := Lib.hid b1; clear p1 b1)
    have HL1 : Hid (LaneS w1 (fun g => own g ∨ (U.heap.size ≤ g ∧ g < u.heap.size)) b N me E T (some { t with o := R })) := Lib.hid (say_store HLu.out (by have := HBL.out; have := HUL.out; omega) HRK.out (by have := HP1.out.blk; unfold lnL; rw [tkL_split]; exact this) HLC.out HB1.out)
    have HBW : Hid (But b w w1) := Lib.hid ((But.box (below_then HB.out HKU.out) HBL.out).trans HB1.out)
    have HM4 : Hid (Blk w1 (w.heap.size + 1) 34 #[.slice none 0 0]) := Lib.hid (HB1.out.blk (H4.out.on HKU.out) (by have := HBL.out; omega))
    have HM5 : Hid (Blk w1 (w.heap.size + 1 + 1) 34 #[.slice none 0 0]) := Lib.hid (HB1.out.blk (H5.out.on HKU.out) (by have := HBL.out; omega))
    have HMS : Hid (U.heap.size ≤ u.heap.size ∧ u.heap.size ≤ w1.heap.size) := Lib.hid ⟨HKU.out.size, HB1.out.1.size⟩
    clear HP HP1 HKU HLu HLC HRK HB1
    obtain ⟨t', ht'⟩ : ∃ t', t' = ({ t with o := R } : Tk) := ⟨_, rfl⟩
    have HTE := Lib.hid ht'
    rw [← ht'] at HL1
    clear ht'
    have HO0 : Hid (∀ u2, Below w1.heap.size w1 u2 → Calls Try.prog 60 #[.pointer (some ⟨b, 0, none⟩), .int .u8 0] u2 fun e w' => ∃ G, ∃ Ls : Nat → List Value, e = .returned (.agg #[.slice (some ⟨G, 0, none⟩) N N]) ∧ u2.heap.size ≤ G ∧ (∀ i, (Ls i).length = 57) ∧ Blk w' G 54 (flL Ls N).toArray ∧ RowsO w' (G + 1) N (fun s => (t'.at (distM N me 0 s) 0 s).ro) Ls ∧ Below u2.heap.size u2 w') := Lib.hid (fun u2 hu => out_is _ b N me E T t' 0 (by decide) u2 (HL1.out.on hu))
    have HO1 : Hid (∀ u2, Below w1.heap.size w1 u2 → Calls Try.prog 60 #[.pointer (some ⟨b, 0, none⟩), .int .u8 1] u2 fun e w' => ∃ G, ∃ Ls : Nat → List Value, e = .returned (.agg #[.slice (some ⟨G, 0, none⟩) N N]) ∧ u2.heap.size ≤ G ∧ (∀ i, (Ls i).length = 57) ∧ Blk w' G 54 (flL Ls N).toArray ∧ RowsO w' (G + 1) N (fun s => (t'.at (distM N me 1 s) 1 s).ro) Ls ∧ Below u2.heap.size u2 w') := Lib.hid (fun u2 hu => out_is _ b N me E T t' 1 (by decide) u2 (HL1.out.on hu))
    go_upto_region 5 with (first
      | (go_at_call 60; (with_reducible refine (HO0.out _ (Below.refl _ _)).mono ?_); rintro e w2 ⟨G1, L1, rfl, q0, q1, q2, q3, q4⟩; have HG1 := Lib.hid q0; have HLA := Lib.hid q1; have HBA := Lib.hid q2; have HRA := Lib.hid q3; have HUA := Lib.hid q4; clear q0 q1 q2 q3 q4)
      | (go_at_call 60; (with_reducible refine (HO1.out _ HUA.out).mono ?_); rintro e w3 ⟨G2, L2, rfl, q0, q1, q2, q3, q4⟩; have HG2 := Lib.hid q0; have HLB2 := Lib.hid q1; have HBB := Lib.hid q2; have HRB := Lib.hid q3; have HUB := Lib.hid q4; have m4 := (HM4.out.on HUA.out).on q4; have m5 := (HM5.out.on HUA.out).on q4; have c4 := m4.cell 0; have f4 := m4.frozen 0; have l4 := m4.lt; have c5 := m5.cell 0; have f5 := m5.frozen 0; have l5 := m5.lt; have HM4' := Lib.hid m4; have HM5' := Lib.hid m5; clear q0 q1 q2 q3 q4 m4 m5))
    have HI0 : Hid (SayI w (fun g => own g ∨ (U.heap.size ≤ g ∧ g < u.heap.size)) b N me E T (some t') G1 G2 L1 L2 (fun s => (t'.at (distM N me 0 s) 0 s).ro) (fun s => (t'.at (distM N me 1 s) 1 s).ro) (.slice none 0 0) (.slice none 0 0) w3) := Lib.hid ⟨(HL1.out.on HUA.out).on HUB.out, HM4'.out, HM5'.out, HBA.out.on HUB.out, HBB.out, fun i hi => (HRA.out i hi).on HUB.out, HRB.out, (HBW.out.trans (But.grow_ HUA.out (Nat.le_of_lt HL1.out.blt))).trans (But.grow_ HUB.out (Nat.le_of_lt (HL1.out.on HUA.out).blt)), fun g hg => by
      rcases hg with hg | hg
      · exact .inl (HLW.out.lt g hg).1
      · exact .inr (Nat.le_trans HUL.out hg.1), HBL.out, by have := HUL.out; have := HMS.out; have := HG1.out; omega, by have := HUL.out; have := HMS.out; have := HG2.out; have := HUA.out.size; omega⟩
    refine wp_at (SayI w (fun g => own g ∨ (U.heap.size ≤ g ∧ g < u.heap.size)) b N me E T (some t') G1 G2 L1 L2 (fun s => (t'.at (distM N me 0 s) 0 s).ro) (fun s => (t'.at (distM N me 1 s) 1 s).ro) (.slice (some ⟨G1, 0, none⟩) N N) (.slice (some ⟨G2, 0, none⟩) N N)) ((HI0.out.set4 (.slice (some ⟨G1, 0, none⟩) N N)).set5 (.slice (some ⟨G2, 0, none⟩) N N)) ?_
    intro V1 hV1
    have HV1 := Lib.hid hV1
    have HGG : Hid (u.heap.size ≤ G1 ∧ G1 < G2) := Lib.hid ⟨by have := HMS.out; have := HG1.out; omega, by have := HBA.out.lt; have := HG2.out; omega⟩
    clear hV1 c4 f4 l4 c5 f5 l5 HI0 HM4 HM5 HM4' HM5' HO0 HO1 HRA HRB HUB HUA HBA HBB
    go_upto_region 6 with (go_at_call 52; (with_reducible refine (end_is _ b N me E T t' _ HV1.out.l).mono ?_); rintro e V2 ⟨rfl, q1, q2⟩; have HV2 := Lib.hid (HV1.out.end_ q1 q2); clear q1 q2)
    have HFIN : Hid (∀ V, SayI w (fun g => own g ∨ (U.heap.size ≤ g ∧ g < u.heap.size)) b N me (E + 1) (fun i => if i = E then t' else T i) none G1 G2 L1 L2 (fun s => (t'.at (distM N me 0 s) 0 s).ro) (fun s => (t'.at (distM N me 1 s) 1 s).ro) (.slice (some ⟨G1, 0, none⟩) N N) (.slice (some ⟨G2, 0, none⟩) N N) V → SayQ w own b N me E T t r (.returned (.tuple #[.agg #[.slice (some ⟨G1, 0, none⟩) N N], .agg #[.slice (some ⟨G2, 0, none⟩) N N]])) V) := Lib.hid (fun V h => ⟨U.heap.size, u.heap.size, R, G1, G2, L1, L2, HB.out.size, HMS.out.1, HGG.out.1, HGG.out.2, HRR.out, by rw [← HTE.out]; exact h.l, rfl, HLA.out, HLB2.out, h.g1, h.g2, by rw [← HTE.out]; exact h.r1, by rw [← HTE.out]; exact h.r2, h.bb⟩)
    have HV3 := Lib.hid HV2.out.drew
    have c4 := HV2.out.b4.cell 0
    have f4 := HV2.out.b4.frozen 0
    have l4 := HV2.out.b4.lt
    have c5 := HV2.out.b5.cell 0
    have f5 := HV2.out.b5.frozen 0
    have l5 := HV2.out.b5.lt
    clear HV1
    go_wp2_with fail
    go_region
    go_wp2_with fail
    all_goals exact bodyPost_ret (v := .tuple #[.agg #[.slice (some ⟨G1, 0, none⟩) N N], .agg #[.slice (some ⟨G2, 0, none⟩) N N]]) (by simp [results, Try.results23, go_sem, c4, c5]) rfl (HFIN.out _ ((HV2.out.set4 _).set5 _).drew)
end Go.Proofs.Ytcangipaoancnaa

namespace Go.Proofs.Ytcangipaoancnaa
open Go.RowKit
set_option linter.unusedVariables false
set_option linter.unusedSimpArgs false

set_option maxRecDepth 100000 in
set_option maxHeartbeats 4000000 in
theorem built_lane (N me : Nat) : (Try.prog).built 138 [(0, .int .i64 (N : Int)), (1, .int .i64 (me : Int))] = some (lnL N me 0 tkZ (fun _ => tkZ)).toArray := by kernel_rfl
set_option maxRecDepth 100000 in
theorem new_bad (n me : Int) (h : n < 4 ∨ 16 < n ∨ me < 0 ∨ n ≤ me) (w : World) : Calls Try.prog 15 #[.int .i64 n, .int .i64 me] w fun e w' => e = .returned (.tuple #[.pointer none, .int .i64 1]) ∧ w = w' := by
  by_cases h1 : n < 4
  · have d1 : decide (n < 4) = true := decide_eq_true h1
    go_enter Try.func15, Try.ntmps15
    go_wp2_with fail
    go_ret2
    exact ⟨rfl, rfl⟩
  · have d1 : decide (n < 4) = false := decide_eq_false h1
    by_cases h2 : 16 < n
    · have d2 : decide (16 < n) = true := decide_eq_true h2
      go_enter Try.func15, Try.ntmps15
      go_wp2_with fail
      go_ret2
      exact ⟨rfl, rfl⟩
    · have d2 : decide (16 < n) = false := decide_eq_false h2
      by_cases h3 : me < 0
      · have d3 : decide (me < 0) = true := decide_eq_true h3
        go_enter Try.func15, Try.ntmps15
        go_wp2_with fail
        go_ret2
        exact ⟨rfl, rfl⟩
      · have d3 : decide (me < 0) = false := decide_eq_false h3
        have h4 : n ≤ me := by omega
        have d4 : decide (n ≤ me) = true := decide_eq_true h4
        go_enter Try.func15, Try.ntmps15
        go_wp2_with fail
        go_ret2
        exact ⟨rfl, rfl⟩
set_option maxRecDepth 100000 in
set_option maxHeartbeats 4000000 in
theorem new_yes (N me : Nat) (hN : 4 ≤ N ∧ N ≤ 16) (hm : me < N) (w : World) : Calls Try.prog 15 #[.int .i64 (N : Int), .int .i64 (me : Int)] w fun e w' => e = .returned (.tuple #[.pointer (some ⟨w.heap.size, 0, none⟩), .int .i64 0]) ∧ LaneS w' (fun _ => False) w.heap.size N me 0 (fun _ => tkN) none ∧ Below w.heap.size w w' := by
  have d1 : decide ((N : Int) < 4) = false := decide_eq_false (by omega)
  have d2 : decide (16 < (N : Int)) = false := decide_eq_false (by omega)
  have d3 : decide ((me : Int) < 0) = false := decide_eq_false (by omega)
  have d4 : decide ((N : Int) ≤ (me : Int)) = false := decide_eq_false (by omega)
  have HBT := Lib.hid (built_lane N me)
  go_enter Try.func15, Try.ntmps15
  go_wp2_with (refine wpList_build rfl 138 _ rfl (lnL N me 0 tkZ (fun _ => tkZ)).toArray (by simpa [Act.eval, Act.put] using HBT.out) ?_)
  go_ret2
  refine ⟨rfl, ⟨hN, hm, ⟨fun _ => tkZ, ?_, fun _ => tkZ_len, fun i hi => absurd hi (by omega), fun _ _ => rfl⟩, fun i hi => absurd hi (by omega), (fun t e => by cases e), fun g hg => hg.elim⟩, below_al (Below.refl _ w) _⟩
  rw [Nat.zero_mod]
  exact Blk.new w _ _
end Go.Proofs.Ytcangipaoancnaa

