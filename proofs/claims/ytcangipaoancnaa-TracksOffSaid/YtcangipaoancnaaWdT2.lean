/-
  The law's words on rows: the contracts of Left (of a twin that is as it was: true), of Spoil (of any row in memory of its own), of the plain forms of any number. Conditions: the rows' readings, their tables' lengths.
-/
import Derived.Test.YtcangipaoancnaaWdT1
import Derived.Test.YtcangipaoancnaaWdS1
import Derived.Test.YtcangipaoancnaaWdC1
namespace Go.Proofs.Ytcangipaoancnaa
open Go.RowKit
set_option linter.unusedVariables false
set_option linter.unusedSimpArgs false

theorem Reg.KJ.top {B : Nat} {Js : List (World → Prop)} {w w' : World} (h : Reg.KJ B [] Js w w') : Below w.heap.size w w' := ⟨h.1.os, h.1.tape, h.1.output, h.1.size, fun k hk => h.2.1 k hk (by simp)⟩
def Reg.FactK.oth {B : Nat} {Js : List (World → Prop)} (R : Ro) : Reg.FactK (Reg.KJ B [] Js) := ⟨fun v w => ∃ Q : Rw, v = .agg Q.l.toArray ∧ Q.ro = R ∧ OwnT w Q, fun _ _ _ hb h => by
  obtain ⟨Q, e, hr, ho⟩ := h
  exact ⟨Q, e, hr, ho.on hb.top⟩⟩
theorem rsame_oth (Q R : Rw) (a b : Ro) (hQ : Q.ro = a) (hR : R.ro = b) (hn : a.n ≤ 65536) (hm : b.n ≤ 65536) (w : World) (h1 : OwnT w Q) (h2 : OwnT w R) :
    Calls Try.prog 58 #[.agg Q.l.toArray, .agg R.l.toArray] w fun e w' => e = .returned (.bool (eqR a b)) ∧ Below w.heap.size w w' := by
  subst hQ hR
  exact rsame_rows Q R hn hm w h1.lies h2.lies
/-- The twin, the row, in their boxes. -/
structure LF (w : World) (b : Bool) (c : Ce) (A : Option Addr) (m p g : Nat) (T : Nat → He) (U : World) : Prop where
  x : Blk U w.heap.size 54 (roL b c (some ⟨g, 0, none⟩) m (m + 2)).toArray
  y : Blk U (w.heap.size + 1) 54 (roL b c A m p).toArray
  t : TwH U g m T
  r : LiesH U U.heap.size A m T
  b : Below w.heap.size w U
theorem LF.on {w : World} {b : Bool} {c : Ce} {A : Option Addr} {m p g : Nat} {T : Nat → He} {U V : World} (h : LF w b c A m p g T U) (k : Below U.heap.size U V) : LF w b c A m p g T V := ⟨h.x.on k, h.y.on k, h.t.on k, h.r.on k, h.b.trans (k.mono h.b.size)⟩
theorem TwH.mark {w : World} {g m k : Nat} {T : Nat → He} (h : TwH w g m T) (h1 : m ≤ k) (h2 : k < m + 2) : w.rangeAt g (k * 56) (heL mkH) := by
  obtain ⟨b, off, e, _, hc⟩ := h.all (by omega)
  injection e with e
  injection e with e1 e2
  subst e1 e2
  have := hc k h2
  rw [show mkT T m k = mkH by unfold mkT; rw [if_neg (by omega)], Nat.zero_add] at this
  exact this
set_option maxRecDepth 100000 in
set_option maxHeartbeats 4000000 in
theorem left_is (r : Rw) (hm : r.n ≤ 65536) (g : Nat) (w : World) (hT : LiesH w w.heap.size r.A r.n r.T) (hW : TwH w g r.n r.T) :
    Calls Try.prog 27 #[.agg (roL r.b r.c (some ⟨g, 0, none⟩) r.n (r.n + 2)).toArray, .agg r.l.toArray] w fun e w' => e = .returned (.bool true) ∧ Below w.heap.size w w' := by
  obtain ⟨b, c, A, m, p, T⟩ := r
  have hm' : m ≤ 65536 := hm
  have H0 : Hid (LF w b c A m p g T ((w.alloc (.cells (roL b c (some ⟨g, 0, none⟩) m (m + 2)).toArray 54)).alloc (.cells (roL b c A m p).toArray 54))) := Lib.hid (by
    have hb := box_two w 54 54 (roL b c (some ⟨g, 0, none⟩) m (m + 2)).toArray (roL b c A m p).toArray
    exact ⟨hb.1, hb.2.1, (show TwH w g m T from hW).on hb.2.2, (show LiesH w w.heap.size A m T from hT).on hb.2.2, hb.2.2⟩)
  clear hT hW hm
  go_enter Try.func27, Try.ntmps27
  go_upto_region 1 with fail
  refine wp_at (LF w b c A m p g T) H0.out ?_
  clear H0
  intro U hU
  have HU := Lib.hid hU
  clear hU
  have HO1 : Hid (∀ u, LF w b c A m p g T u → Calls Try.prog 25 #[.agg (roL b c (some ⟨g, 0, none⟩) m (m + 2)).toArray] u fun e w' => ∃ Q : Rw, e = .returned (.agg Q.l.toArray) ∧ Q.ro = ⟨b, c, m, T⟩ ∧ OwnT w' Q ∧ Below u.heap.size u w') := Lib.hid (fun u h => other_is ⟨b, c, some ⟨g, 0, none⟩, m, m + 2, T⟩ hm' u h.t.lies)
  have HO2 : Hid (∀ u, LF w b c A m p g T u → Calls Try.prog 25 #[.agg (roL b c A m p).toArray] u fun e w' => ∃ Q : Rw, e = .returned (.agg Q.l.toArray) ∧ Q.ro = ⟨b, c, m, T⟩ ∧ OwnT w' Q ∧ Below u.heap.size u w') := Lib.hid (fun u h => other_is ⟨b, c, A, m, p, T⟩ hm' u h.r)
  have HSM : Hid (∀ (u : World) (Q R : Rw), Q.ro = ⟨b, c, m, T⟩ → R.ro = ⟨b, c, m, T⟩ → OwnT u Q → OwnT u R → Calls Try.prog 58 #[.agg Q.l.toArray, .agg R.l.toArray] u fun e w' => e = .returned (.bool true) ∧ Below u.heap.size u w') := Lib.hid (fun u Q R h1 h2 h3 h4 => by
    have := rsame_oth Q R _ _ h1 h2 hm' hm' u h3 h4
    rwa [eqR_self] at this)
  go_wp2_with fail
  refine Reg.wp_slots2 (fun t => decide (7 ≤ t) && decide (t ≤ 12)) (Reg.KJ U.heap.size [] []) (Reg.KJ.drew _ (by simp)) Reg.KJ.trans (by kernel_rfl) (by kernel_rfl) (by kernel_rfl) (fun zz => (Reg.tblK [
    (7, .is (.agg (roL b c (some ⟨g, 0, none⟩) m (m + 2)).toArray)),
    (8, .oth ⟨b, c, m, T⟩),
    (9, .is (.agg (roL b c A m p).toArray)),
    (10, .oth ⟨b, c, m, T⟩),
    (11, .is (.bool true)),
    (12, .is (.bool false))] zz).P) (fun zz => (Reg.tblK _ zz).on) (fun zz => (Reg.memK [] zz).P) (fun zz => (Reg.memK _ zz).on) ?_ ?_
  · simp only [Reg.frame, Reg.over, Nat.reduceAdd, Nat.reduceLeDiff, decide_true, decide_false, if_true, Bool.false_eq_true, if_false, Bool.and_true, Bool.and_false]
    refine ⟨?_, ?_, ?_, ?_, ?_, ?_, trivial⟩
    · intro x u hku hd
      refine wpOp_step rfl fun KK hK => ?_
      refine Reg.step_load_mid (by rfl) 54 (.tmp 2) (by rfl) w.heap.size 0 (by rfl) (roL b c (some ⟨g, 0, none⟩) m (m + 2)) (HU.out.on hku.top).x.pin.range _ Try.underlying54 rfl (by rw [size_row, roL_len]) ?_
      exact hK _ _ ⟨_, rfl, Reg.KJ.refl _, fun d hd => by cases hd; exact rfl, fun h => by cases h⟩
    · intro x u hku hd
      have h7 : x 7 = .agg (roL b c (some ⟨g, 0, none⟩) m (m + 2)).toArray := hd 0 (by decide)
      refine wpOp_step rfl fun KK hK => ?_
      simp only [h7] at hK ⊢
      go_simp
      (with_reducible refine (HO1.out _ (HU.out.on hku.top)).mono ?_)
      rintro e u' ⟨Q, rfl, q1, q2, hb'⟩
      exact hK _ _ ⟨_, rfl, Reg.KJ.grow (by simp) hku.size hb', fun d hd => by cases hd; exact ⟨Q, rfl, q1, q2⟩, fun h => by cases h⟩
    · intro x u hku hd
      refine wpOp_step rfl fun KK hK => ?_
      refine Reg.step_load_mid (by rfl) 54 (.tmp 3) (by rfl) (w.heap.size + 1) 0 (by rfl) (roL b c A m p) (HU.out.on hku.top).y.pin.range _ Try.underlying54 rfl (by rw [size_row, roL_len]) ?_
      exact hK _ _ ⟨_, rfl, Reg.KJ.refl _, fun d hd => by cases hd; exact rfl, fun h => by cases h⟩
    · intro x u hku hd
      have h9 : x 9 = .agg (roL b c A m p).toArray := hd 2 (by decide)
      refine wpOp_step rfl fun KK hK => ?_
      simp only [h9] at hK ⊢
      go_simp
      (with_reducible refine (HO2.out _ (HU.out.on hku.top)).mono ?_)
      rintro e u' ⟨Q, rfl, q1, q2, hb'⟩
      exact hK _ _ ⟨_, rfl, Reg.KJ.grow (by simp) hku.size hb', fun d hd => by cases hd; exact ⟨Q, rfl, q1, q2⟩, fun h => by cases h⟩
    · intro x u hku hd
      have k8 : (Reg.FactK.oth ⟨b, c, m, T⟩ : Reg.FactK (Reg.KJ U.heap.size [] [])).P (x 8) u := hd 1 (by decide)
      obtain ⟨Q8, h8, hq8, ho8⟩ := k8
      have k10 : (Reg.FactK.oth ⟨b, c, m, T⟩ : Reg.FactK (Reg.KJ U.heap.size [] [])).P (x 10) u := hd 3 (by decide)
      obtain ⟨Q10, h10, hq10, ho10⟩ := k10
      refine wpOp_step rfl fun KK hK => ?_
      simp only [h8, h10] at hK ⊢
      go_simp
      (with_reducible refine (HSM.out _ _ _ hq8 hq10 ho8 ho10).mono ?_)
      rintro e u' ⟨rfl, hb'⟩
      exact hK _ _ ⟨_, rfl, Reg.KJ.grow (by simp) hku.size hb', fun d hd => by cases hd; exact rfl, fun h => by cases h⟩
    · intro x u hku hd
      have h11 : x 11 = .bool true := hd 4 (by decide)
      refine wpOp_step rfl fun KK hK => ?_
      simp only [h11] at hK ⊢
      go_simp
      exact hK _ _ ⟨_, rfl, Reg.KJ.refl _, fun d hd => by cases hd; exact rfl, fun h => by cases h⟩
  · intro x u hku hd
    have e12 : x 12 = .bool false := hd 5 (by decide)
    have hs := HU.out.on hku.top
    have c56 := hs.x.rowTab
    have l1 := hs.x.lt
    have HS := Lib.hid hs
    clear hs
    have hsl := fun W : World => headHelds g m (m + 2) (m + 2) (Nat.le_refl _) W
    have hsl2 : ∀ W : World, (Instr.sliceAt 52 (.slice (some ⟨g, 0, none⟩) m (m + 2)) none (some (.int .i64 ((m : Int) + 2))) none).run Try.prog W = .ok (.slice (some ⟨g, 0, none⟩) (m + 2) (m + 2)) W := fun W => by
      have := headHelds g m (m + 2) (m + 2) (Nat.le_refl _) W
      rwa [show ((m + 2 : Nat) : Int) = (m : Int) + 2 by omega] at this
    simp only [Reg.frame, Reg.over, Nat.reduceAdd, Nat.reduceLeDiff, decide_true, decide_false, if_true, Bool.false_eq_true, if_false, Bool.and_true, Bool.and_false, e12]
    go_wp2_with fail
    go_loopw [6] (fun s wr => ∃ k : Nat, m ≤ k ∧ k ≤ m + 2 ∧ s = .int .i64 (k : Int) ∧ Hid (Below u.heap.size u wr)) (fun s _ => m + 2 - (intOf s).toNat)
    case atStart => exact ⟨m, by omega, by omega, rfl, Lib.hid (Below.refl _ _)⟩
    case round =>
      clear c56 l1
      obtain ⟨k, hk1, hk2, rfl, HBW⟩ := hrel
      have hs := HS.out.on HBW.out
      have c56 := hs.x.rowTab
      have l1 := hs.x.lt
      by_cases hlt : k < m + 2
      · have hi : (k : Int) < (m : Int) + 2 := by omega
        have hd : decide ((k : Int) < (m : Int) + 2) = true := by simp; omega
        have HRG := Lib.hid (hs.t.mark hk1 hlt)
        have hix := fun W => idxHelds (A := some ⟨g, 0, none⟩) (n := m + 2) (m + 2) rfl hlt W
        simp only [Nat.zero_add] at hix
        have HC1 := Lib.hid built_mkC
        have HC2 := Lib.hid built_mkH
        have hne := fun W => held_neq mkH mkH W
        rw [heE_refl] at hne
        clear hs
        go_wp2_with (first
          | (refine wpList_load_mid rfl 102 (.tmp 38) rfl g (k * 56) (by simp [Act.eval, Act.put]) (heL mkH) _ HRG.out Try.underlying102 rfl (by rw [size_he, heL_len]) ?_)
          | (refine wpList_build rfl 51 _ rfl (ceL { ceN with a := -77 }).toArray (by simpa [Act.eval, Act.put] using HC1.out) ?_)
          | (refine wpList_build rfl 102 _ rfl (heL mkH).toArray (by simpa [Act.eval, Act.put] using HC2.out) ?_))
        go_roundw
        case rel => exact ⟨k + 1, by omega, by omega, by go_num, HBW⟩
        case measure => simp [intOf]; omega
      · have hi : ¬ (k : Int) < (m : Int) + 2 := by omega
        have hd : decide ((k : Int) < (m : Int) + 2) = false := by simp; omega
        clear hs
        go_wp2_with fail
        go_ret
        exact ⟨rfl, HS.out.b.trans (HBW.out.mono HS.out.b.size)⟩
set_option maxRecDepth 100000 in
theorem noneHelds (w : World) : (Instr.sliceAt 52 (.slice none 0 0) none (some (.int .i64 0)) none).run Try.prog w = .ok (.slice none 0 0) w := by
  rw [run_sliceAt_slice w _ _ _ _ _ elemHelds, run_slice_h w 52 _ 0 0 elemHelds .i64 0 (by omega) (by omega), show Try.prog.elem 52 = 102 by kernel_rfl, sizeHelds]
  simp [Result.andThen, sliced]
set_option maxRecDepth 100000 in
set_option maxHeartbeats 4000000 in
theorem spoil_none (b : Bool) (c : Ce) (w : World) :
    Calls Try.prog 28 #[.agg (roL b c none 0 0).toArray] w fun e w' => e = .returned (.tuple #[]) ∧ Below w.heap.size w w' := by
  go_enter Try.func28, Try.ntmps28
  go_upto_region 1 with fail
  refine wp_at (fun U => Blk U w.heap.size 54 (roL b c none 0 0).toArray ∧ Below w.heap.size w U) ⟨Blk.new w _ _, below_al (Below.refl _ w) _⟩ ?_
  rintro U ⟨h1, h2⟩
  have c56 := h1.rowTab
  have lx := h1.lt
  have HB := Lib.hid h2
  have hsl := noneHelds
  clear h1 h2
  go_wp2_with fail
  go_loopw [3] (fun s wr => s = .int .i64 0 ∧ Hid (Below U.heap.size U wr)) (fun s _ => 0)
  case atStart => exact ⟨rfl, Lib.hid (Below.refl _ _)⟩
  case round =>
    obtain ⟨rfl, HW⟩ := hrel
    go_wp2_with fail
    exact bodyPost_end (v := .tuple #[]) (by simp [results, Try.results28]) rfl ⟨rfl, HB.out.trans (HW.out.mono HB.out.size)⟩
/-- What Spoil turns: the table's own block, or none. -/
def SpO (w : World) (g : Nat) (A : Option Addr) (n p : Nat) : Prop := (A = none ∧ n = 0 ∧ p = 0) ∨ (A = some ⟨g, 0, none⟩ ∧ p = n ∧ Shape g n w)
theorem SpO.on {w w' : World} {g : Nat} {A : Option Addr} {n p : Nat} (h : SpO w g A n p) (hb : Below w.heap.size w w') : SpO w' g A n p := by
  rcases h with h | ⟨h1, h2, L, h3, h4⟩
  · exact .inl h
  · exact .inr ⟨h1, h2, L, h3, h4.on hb⟩
theorem SpO.but {w w' : World} {g x : Nat} {A : Option Addr} {n p : Nat} (h : SpO w g A n p) (hb : But x w w') (hx : g ≠ x) : SpO w' g A n p := by
  rcases h with h | ⟨h1, h2, L, h3, h4⟩
  · exact .inl h
  · exact .inr ⟨h1, h2, L, h3, hb.blk h4 hx⟩
theorem row_sp {w : World} {lo : Nat} {r : Ro} {L : List Value} (h : RowO w lo r L) (hl : lo ≤ w.heap.size) : ∃ A p g, L = roL r.b r.c A r.n p ∧ LiesH w w.heap.size A r.n r.T ∧ SpO w g A r.n p ∧ lo ≤ g ∧ g ≤ w.heap.size := by
  obtain ⟨A, p, e, h⟩ := h
  rcases h with ⟨h1, h2, h3⟩ | ⟨g, h1, h2, h3, h4⟩
  · exact ⟨A, p, lo, e, (by rw [h2]; exact LiesH.nil_), .inl ⟨h1, h2, h3⟩, Nat.le_refl _, hl⟩
  · exact ⟨A, p, g, e, (by rw [h1]; exact h4.liesH_), .inr ⟨h1, h2, hesL r.T r.n, hesL_len _ _, h4⟩, h3, Nat.le_of_lt h4.lt⟩
theorem spoil_any (b : Bool) (c : Ce) (A : Option Addr) (n p g : Nat) (hn : n ≤ 65536) (w : World) (h : SpO w g A n p) (hg : g ≤ w.heap.size) :
    Calls Try.prog 28 #[.agg (roL b c A n p).toArray] w fun e w' => e = .returned (.tuple #[]) ∧ But g w w' := by
  rcases h with ⟨rfl, rfl, rfl⟩ | ⟨rfl, rfl, h⟩
  · exact (spoil_none b c w).mono fun e w' ⟨h1, h2⟩ => ⟨h1, But.grow hg h2⟩
  · exact (spoil_is b c g _ hn w h).mono fun e w' ⟨h1, _, h2⟩ => ⟨h1, h2⟩
/-- The plain form, of any number. -/
def plRI (N : Int) (r : Ro) : Ro := if nmB N = true then plR N.toNat r else roN
theorem nmB_nat {N : Int} (h : nmB N = true) : N = (N.toNat : Int) ∧ N.toNat ≤ 16 := by
  simp [nmB] at h
  omega
theorem plain_all (N : Int) (r : Rw) (w : World) (hT : LiesH w w.heap.size r.A r.n r.T) :
    Calls Try.prog 59 #[.int .i64 N, .agg r.l.toArray] w fun e w' => ∃ L : List Value, e = .returned (.agg L.toArray) ∧ RowO w' w.heap.size (plRI N r.ro) L ∧ Below w.heap.size w w' := by
  cases h : nmB N
  · have e : plRI N r.ro = roN := by unfold plRI; rw [h]; rfl
    rw [e]
    exact (plain_no N r.b r.c r.A r.n r.p (by rw [h, Bool.and_false]) w).mono fun e w' ⟨h1, h2⟩ => ⟨_, h1, ⟨none, 0, rfl, .inl ⟨rfl, rfl, rfl⟩⟩, h2⟩
  · obtain ⟨e, h16⟩ := nmB_nat h
    have e2 : plRI N r.ro = plR N.toNat r.ro := by unfold plRI; rw [if_pos h]
    rw [e2]
    have := plain_any N.toNat h16 r w hT
    rwa [← e] at this
theorem rplain_all (N : Int) (r : Rw) (hm : r.n ≤ 65536) (w : World) (hT : LiesH w w.heap.size r.A r.n r.T) :
    Calls Try.prog 61 #[.int .i64 N, .agg r.l.toArray] w fun e w' => ∃ Q : Rw, e = .returned (.agg Q.l.toArray) ∧ Q.ro = plRI N r.ro ∧ OwnT w' Q ∧ Below w.heap.size w w' := by
  cases h : nmB N
  · have e : plRI N r.ro = roN := by unfold plRI; rw [h]; rfl
    rw [e]
    exact (rplain_no N r.b r.c r.A r.n r.p (by rw [h, Bool.and_false]) w).mono fun e w' ⟨h1, h2⟩ => ⟨rwN, h1, rfl, OwnT.nil_ _ _ _, h2⟩
  · obtain ⟨e, h16⟩ := nmB_nat h
    have e2 : plRI N r.ro = plR N.toNat r.ro := by unfold plRI; rw [if_pos h]
    rw [e2]
    exact rplain_any N N.toNat e h16 r hm w hT
theorem plRI_n (N : Int) (r : Ro) (h : r.n ≤ 65536) : (plRI N r).n ≤ 65536 := by
  unfold plRI
  split
  · rename_i h1
    have := (nmB_nat h1).2
    unfold plR
    split
    · show N.toNat ≤ 65536
      omega
    · decide
  · decide
end Go.Proofs.Ytcangipaoancnaa

