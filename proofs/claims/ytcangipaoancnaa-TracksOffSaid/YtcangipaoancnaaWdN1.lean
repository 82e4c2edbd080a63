/-
  The law's words on words: the contracts of Great (what it counts), Others, SameAll, TwinWord, LeftWord. Conditions: the words' readings, their lengths.
-/
import Derived.Test.YtcangipaoancnaaWdT2
namespace Go.Proofs.Ytcangipaoancnaa
open Go.RowKit
set_option linter.unusedVariables false
set_option linter.unusedSimpArgs false

def RetG (p : Bool → Prop) (e : Ending) : Prop := ∃ g, e = .returned (.bool g) ∧ p g
set_option maxRecDepth 100000 in
set_option maxHeartbeats 2000000 in
theorem great2_is (A : Option Addr) (m c : Nat) (R : Nat → Rw) (w : World) (hR : LiesR w w.heap.size A m R) (hm : m ≤ 1099511627776) (hRn : ∀ i, i < m → (R i).n ≤ 1099511627776) :
    Calls Try.prog 49 #[.agg #[.slice A m c]] w fun e w' => RetG (fun g => g = false → m ≤ 800 ∧ ∀ i, i < m → (R i).n ≤ 800) e ∧ Below w.heap.size w w' := by
  have HR := Lib.hid hR
  have HRN := Lib.hid hRn
  clear hR hRn
  go_enter Try.func49, Try.ntmps49
  go_upto_region 1 with fail
  refine wp_at (fun U => Blk U w.heap.size 34 #[.slice A m c] ∧ Below w.heap.size w U) ⟨Blk.new w _ _, below_al (Below.refl _ w) _⟩ ?_
  rintro U ⟨h1, h2⟩
  have c0 : U.cell? ⟨w.heap.size, 0, none⟩ = some (.slice A m c) := h1.cell 0
  have l0 := h1.lt
  have HX := Lib.hid h1
  have HB := Lib.hid h2
  clear h1 h2
  go_wp2_with fail
  go_loopw [3, 4] (fun sv iv wr => ∃ (k : Nat) (s : Int), k ≤ m ∧ iv = .int .i64 (k : Int) ∧ sv = .int .i64 s ∧ Hid ((m : Int) ≤ s ∧ ∀ i, i < k → ((R i).n : Int) ≤ s) ∧ Hid (Below U.heap.size U wr)) (fun _ iv _ => m - (intOf iv).toNat)
  case atStart => exact ⟨0, m, by omega, rfl, rfl, Lib.hid ⟨Int.le_refl _, fun i hi => absurd hi (by omega)⟩, Lib.hid (Below.refl _ _)⟩
  case round =>
    clear c0 l0
    obtain ⟨k, s, hk, rfl, rfl, HS, HBW⟩ := hrel
    have c0 : wr.cell? ⟨w.heap.size, 0, none⟩ = some (.slice A m c) := (HX.out.on HBW.out).cell 0
    have l0 := (HX.out.on HBW.out).lt
    by_cases hlt : k < m
    · by_cases hs : s < 900
      · obtain ⟨ba, oa, rfl, hba, hca⟩ := HR.out.f (by omega)
        have HL := Lib.hid (HB.out.trans (HBW.out.mono HB.out.size))
        have hix := fun W => idxRows (A := some ⟨ba, oa, none⟩) (n := m) c rfl hlt W
        have cn : wr.cell? ⟨ba, oa + k * 57 + 56, none⟩ = some (.slice (R k).A (R k).n (R k).p) := by
          have := hca k hlt 56 (.slice (R k).A (R k).n (R k).p) (ro_tab _ _ _ _ _)
          exact (HL.out.cell (p := ⟨ba, _, none⟩) hba).trans this
        have lb : ba < wr.heap.size := Nat.lt_of_lt_of_le hba HL.out.size
        obtain ⟨y, hy⟩ : ∃ y, y = (R k).n := ⟨_, rfl⟩
        have hy1 : y ≤ 1099511627776 := by rw [hy]; exact HRN.out k hlt
        have hs0 : (0 : Int) ≤ s := by have := HS.out.1; omega
        have hwr : IntKind.i64.wrap (s + (y : Int)) = s + (y : Int) := by
          simp [IntKind.wrap, IntKind.bits, IntKind.signed]
          omega
        rw [← hy] at cn
        have HY := Lib.hid hy
        clear hca hba hy
        go_wp2_with fail
        go_roundw
        case rel => exact ⟨k + 1, s + (y : Int), by omega, by go_num, rfl, Lib.hid ⟨by have := HS.out.1; omega, fun i hi => by
          by_cases e : i = k
          · rw [e, ← HY.out]; omega
          · have := HS.out.2 i (by omega); omega⟩, HBW⟩
        case measure => simp [intOf]; omega
      · have hs' : decide (s < 900) = false := by simpa using hs
        have hg : decide (800 < s) = true := by simp; omega
        have hg2 : (800 : Int) < s := by omega
        go_wp2_with fail
        go_ret
        exact ⟨⟨_, rfl, fun h => absurd h (by decide)⟩, HB.out.trans (HBW.out.mono HB.out.size)⟩
    · obtain rfl : k = m := by omega
      have hk' : decide ((k : Int) < k) = false := by simp
      by_cases hg : 800 < s
      · go_wp2_with fail
        go_ret
        exact ⟨⟨_, rfl, fun h => absurd h (by decide)⟩, HB.out.trans (HBW.out.mono HB.out.size)⟩
      · have hg' : decide (800 < s) = false := by simpa using hg
        go_wp2_with fail
        go_ret
        exact ⟨⟨_, rfl, fun _ => ⟨by have := HS.out.1; omega, fun i hi => by have := HS.out.2 i hi; omega⟩⟩, HB.out.trans (HBW.out.mono HB.out.size)⟩
/-- Rows of the document's, each of its own, read as rows. -/
theorem own_liesR {w : World} {base m c : Nat} {A : Option Addr} {Q : Nat → Rw} (h : w.ownsRow base 74 57 (.slice A m c) m (flL (fun i => (Q i).l) m)) (ht : OwnTs w m Q) : LiesR w w.heap.size A m Q := ⟨owns_liesF (f := fun i => (Q i).l) (fun i => Rw.l_len _) h, fun i hi => (ht i hi).lies⟩
set_option maxRecDepth 100000 in
set_option maxHeartbeats 4000000 in
theorem others_is (A : Option Addr) (m c : Nat) (hm : m ≤ 65536) (R : Nat → Rw) (hRn : ∀ i, i < m → (R i).n ≤ 65536) (w : World) (hR : LiesR w w.heap.size A m R) :
    Calls Try.prog 57 #[.slice A m c] w fun e w' => ∃ A' c' Q, e = .returned (.slice A' m c') ∧ w'.ownsRow w.heap.size 74 57 (.slice A' m c') m (flL (fun i => (Q i).l) m) ∧ OwnTs w' m Q ∧ (∀ i, i < m → (Q i).ro = (R i).ro) ∧ Below w.heap.size w w' := by
  have HR := Lib.hid hR
  have HRN := Lib.hid hRn
  have HM := Lib.hid hm
  obtain ⟨i0, hi0, hz0, hz1, hz2⟩ := info_parts infoRRow
  have HI := Lib.hid hi0
  have HZ0 := Lib.hid hz0
  have HZ1 := Lib.hid hz1
  have HZ2 := Lib.hid hz2
  clear hR hRn hi0 hz0 hz1 hz2
  go_enter Try.func57, Try.ntmps57
  go_wp2_with fail
  go_loopw [3, 4] (fun sv iv wr => ∃ k : Nat, k ≤ m ∧ iv = .int .i64 (k : Int) ∧ ∃ (A' : Option Addr) (c' : Nat) (Q : Nat → Rw), sv = .slice A' k c' ∧ Hid (wr.ownsRow w.heap.size 74 57 (.slice A' k c') k (flL (fun i => (Q i).l) k)) ∧ Hid (OwnTs wr k Q) ∧ Hid (∀ i, i < k → (Q i).ro = (R i).ro) ∧ Hid (Below w.heap.size w wr)) (fun _ iv _ => m - (intOf iv).toNat)
  case atStart => exact ⟨0, by omega, rfl, none, 0, fun _ => rwN, rfl, Lib.hid ownsF_nil, Lib.hid (fun i hi => absurd hi (by omega)), Lib.hid (fun i hi => absurd hi (by omega)), Lib.hid (Below.refl _ _)⟩
  case round =>
    obtain ⟨k, hk, rfl, A', c', Q, rfl, HO, HT, HQ, HB⟩ := hrel
    by_cases hlt : k < m
    · obtain ⟨tb, toff, rfl, htb, hct⟩ := HR.out.f (by omega)
      have hix := fun W => idxRows (A := some ⟨tb, toff, none⟩) (n := m) c rfl hlt W
      have HRG : Hid (wr.rangeAt tb (toff + k * 57) (R k).l) := Lib.hid (fun j v hv => (HB.out.cell (p := ⟨tb, _, none⟩) htb).trans (hct k hlt j v hv))
      have HTR : Hid (LiesH wr wr.heap.size (R k).A (R k).n (R k).T) := Lib.hid (((HR.out.t k hlt).low HB.out).up HB.out.size)
      have HRK := Lib.hid (HRN.out k hlt)
      have HOT := Lib.hid (other_is (R k) HRK.out wr HTR.out)
      have HMM := Lib.hid (show (k + 1 : Nat) ≤ maxLen by have := HM.out; unfold maxLen; omega)
      have HMB := Lib.hid (show (k + 1) * 160 ≤ 140737488355328 by have := HM.out; omega)
      have HBS := Lib.hid (fun (u : World) (X : Rw) => run_bsl_one (P := Try.prog) u 60 74 i0 (roL false ceN none 0 0) 57 elemRRows HI.out HZ0.out HZ1.out (roL_len _ _ _ _ _) (by decide) (by decide) X.l X.l_len)
      clear hct htb
      go_wp2_with (first
        | (refine wpList_load_mid rfl 54 (.tmp 14) rfl tb (toff + k * 57) (by simp [Act.eval, Act.put]) (R k).l _ HRG.out Try.underlying54 rfl (by rw [size_row, Rw.l_len]) ?_)
        | (go_at_call 25; (with_reducible refine HOT.out.mono ?_); rintro e w1 ⟨X, rfl, x1, x2, x3⟩; have HX1 := Lib.hid x1; have HX2 := Lib.hid x2; have HX3 := Lib.hid x3; clear x1 x2 x3)
        | (refine wpList_bsl rfl 60 1 _ rfl #[(0, .agg X.l.toArray)] (by simp [Act.eval, Act.put]) _ _ (HBS.out w1 X) ?_)
        | (at_builtin; refine wpList_append_G rfl (.tmp 11) (.tmp 17) 60 rfl w.heap.size 74 i0 _ 57 160 elemRRows HI.out HZ0.out HZ1.out HZ2.out (by simp [Value.cells, roL_len]) (by decide) A' k c' _ (by simp [Act.eval, Act.put]) (ownsF_on (ownsF_on HO.out HX3.out) (below_al (Below.refl _ w1) _)) w1.heap.size 1 1 X.l (by simp [Act.eval, Act.put]) (Blk.new w1 74 X.l.toArray) X.l_len (roL_one _ _ _ _ _) (by decide) HMM.out HMB.out (by have h1 := HB.out.size; have h2 := HX3.out.size; simp; omega) ?_; intro A2 c2 w2 hO2 hb2 hk2; have HO2 := Lib.hid hO2; have HB2 := Lib.hid hb2; have HK2 := Lib.hid hk2; clear hO2 hb2 hk2))
      go_roundw
      case rel =>
        have hal := below_al (Below.refl w1.heap.size w1) (.cells X.l.toArray 74)
        refine ⟨k + 1, by omega, by go_num, A2, c2, fun i => if i = k then X else Q i, rfl, Lib.hid ?_, Lib.hid ?_, Lib.hid ?_, Lib.hid ?_⟩
        · have := HO2.out
          rw [show flL (fun i => (Q i).l) k ++ X.l = flL (fun i => ((if i = k then X else Q i : Rw)).l) (k + 1) by rw [flL_succ, if_pos rfl]; congr 1; exact flL_congr fun i hi => by rw [if_neg (by omega)]] at this
          exact this
        · intro i hi
          by_cases e : i = k
          · simp only [e, if_true]; exact (HX2.out.on hal).kept HK2.out (by decide)
          · simp only [e, if_false]; exact (((HT.out.on HX3.out).on hal) i (by omega)).kept HK2.out (by decide)
        · intro i hi
          by_cases e : i = k
          · simp only [e, if_true]; exact HX1.out
          · simp only [e, if_false]; exact HQ.out i (by omega)
        · exact (HB.out.trans (HX3.out.mono HB.out.size)).trans ((hal.mono (by have h1 := HB.out.size; have h2 := HX3.out.size; omega)).trans HB2.out)
      case measure => simp [intOf]; omega
    · obtain rfl : k = m := by omega
      go_wp2_with fail
      go_ret
      exact ⟨A', c', Q, rfl, HO.out, HT.out, HQ.out, HB.out⟩
set_option maxRecDepth 100000 in
set_option maxHeartbeats 4000000 in
theorem sameall_is (A B : Option Addr) (n c d : Nat) (hn : n ≤ 65536) (R Q : Nat → Rw) (hRn : ∀ i, i < n → (R i).n ≤ 65536) (he : ∀ i, i < n → (R i).ro = (Q i).ro) (w : World) (hR : LiesR w w.heap.size A n R) (hQ : LiesR w w.heap.size B n Q) :
    Calls Try.prog 22 #[.slice A n c, .slice B n d] w fun e w' => e = .returned (.bool true) ∧ Below w.heap.size w w' := by
  have HR := Lib.hid hR
  have HQ := Lib.hid hQ
  have HRN := Lib.hid hRn
  have HE := Lib.hid he
  have hnn : ((n : Int) != (n : Int)) = false := by simp
  clear hR hQ hRn he
  go_enter Try.func22, Try.ntmps22
  go_wp2_with fail
  go_loopw [5] (fun s wr => ∃ k : Nat, k ≤ n ∧ s = .int .i64 (k : Int) ∧ Hid (Below w.heap.size w wr)) (fun s _ => n - (intOf s).toNat)
  case atStart => exact ⟨0, by omega, rfl, Lib.hid (Below.refl _ _)⟩
  case round =>
    obtain ⟨k, hk, rfl, HB⟩ := hrel
    by_cases hlt : k < n
    · obtain ⟨ba, oa, rfl, hba, hca⟩ := HR.out.f (by omega)
      obtain ⟨bb, ob, rfl, hbb, hcb⟩ := HQ.out.f (by omega)
      have hix := fun W => idxRows (A := some ⟨ba, oa, none⟩) (n := n) c rfl hlt W
      have hix2 := fun W => idxRRows (A := some ⟨bb, ob, none⟩) (n := n) d rfl hlt W
      have HRA : Hid (∀ u, Below wr.heap.size wr u → u.rangeAt ba (oa + k * 57) (R k).l) := Lib.hid (fun u hu j v hv => ((HB.out.trans (hu.mono HB.out.size)).cell (p := ⟨ba, _, none⟩) hba).trans (hca k hlt j v hv))
      have HRB : Hid (∀ u, Below wr.heap.size wr u → u.rangeAt bb (ob + k * 57) (Q k).l) := Lib.hid (fun u hu j v hv => ((HB.out.trans (hu.mono HB.out.size)).cell (p := ⟨bb, _, none⟩) hbb).trans (hcb k hlt j v hv))
      have HTA : Hid (∀ u, Below wr.heap.size wr u → LiesH u u.heap.size (R k).A (R k).n (R k).T) := Lib.hid (fun u hu => (((HR.out.t k hlt).low HB.out).up HB.out.size).on hu)
      have HTB : Hid (∀ u, Below wr.heap.size wr u → LiesH u u.heap.size (Q k).A (Q k).n (Q k).T) := Lib.hid (fun u hu => (((HQ.out.t k hlt).low HB.out).up HB.out.size).on hu)
      have HOT : Hid (∀ u, Below wr.heap.size wr u → Calls Try.prog 25 #[.agg (R k).l.toArray] u fun e w' => ∃ X : Rw, e = .returned (.agg X.l.toArray) ∧ X.ro = (R k).ro ∧ OwnT w' X ∧ Below u.heap.size u w') := Lib.hid (fun u hu => other_is (R k) (HRN.out k hlt) u (HTA.out u hu))
      have HSM : Hid (∀ (u : World) (X : Rw), Below wr.heap.size wr u → X.ro = (R k).ro → OwnT u X → Calls Try.prog 58 #[.agg X.l.toArray, .agg (Q k).l.toArray] u fun e w' => e = .returned (.bool true) ∧ Below u.heap.size u w') := Lib.hid (fun u X hu h1 h2 => by
        have h3 : X.n = (R k).n := congrArg Ro.n h1
        have h4 : (R k).n = (Q k).n := congrArg Ro.n (HE.out k hlt)
        have h5 := HRN.out k hlt
        have := rsame_rows X (Q k) (by omega) (by omega) u h2.lies (HTB.out u hu)
        rwa [h1, ← HE.out k hlt, eqR_self] at this)
      clear hca hcb hba hbb
      go_wp2_with fail
      refine Reg.wp_slots2 (fun t => decide (17 ≤ t) && decide (t ≤ 27)) (Reg.KJ wr.heap.size [] []) (Reg.KJ.drew _ (by simp)) Reg.KJ.trans (by kernel_rfl) (by kernel_rfl) (by kernel_rfl) (fun zz => (Reg.tblK [
        (17, .is (.slice (some ⟨ba, oa, none⟩) n c)),
        (18, .is (.int .i64 (k : Int))),
        (19, .is (.pointer (some ⟨ba, oa + k * 57, none⟩))),
        (20, .is (.agg (R k).l.toArray)),
        (21, .oth (R k).ro),
        (22, .is (.slice (some ⟨bb, ob, none⟩) n d)),
        (23, .is (.int .i64 (k : Int))),
        (24, .is (.pointer (some ⟨bb, ob + k * 57, none⟩))),
        (25, .is (.agg (Q k).l.toArray)),
        (26, .is (.bool true)),
        (27, .is (.bool false))] zz).P) (fun zz => (Reg.tblK _ zz).on) (fun zz => (Reg.memK [] zz).P) (fun zz => (Reg.memK _ zz).on) ?_ ?_
      · simp only [Reg.frame, Reg.over, Nat.reduceAdd, Nat.reduceLeDiff, decide_true, decide_false, if_true, Bool.false_eq_true, if_false, Bool.and_true, Bool.and_false]
        refine ⟨?_, ?_, ?_, ?_, ?_, ?_, ?_, ?_, ?_, ?_, ?_, trivial⟩
        · intro x u hku hd
          refine wpOp_step rfl fun KK hK => ?_
          go_simp
          exact hK _ _ ⟨_, rfl, Reg.KJ.refl _, fun d hd => by cases hd; exact rfl, fun h => by cases h⟩
        · intro x u hku hd
          refine wpOp_step rfl fun KK hK => ?_
          go_simp
          exact hK _ _ ⟨_, rfl, Reg.KJ.refl _, fun d hd => by cases hd; exact rfl, fun h => by cases h⟩
        · intro x u hku hd
          have h17 : x 17 = .slice (some ⟨ba, oa, none⟩) n c := hd 0 (by decide)
          have h18 : x 18 = .int .i64 (k : Int) := hd 1 (by decide)
          refine wpOp_step rfl fun KK hK => ?_
          simp only [h17, h18] at hK ⊢
          go_simp
          exact hK _ _ ⟨_, rfl, Reg.KJ.refl _, fun d hd => by cases hd; exact rfl, fun h => by cases h⟩
        · intro x u hku hd
          have h19 : x 19 = .pointer (some ⟨ba, oa + k * 57, none⟩) := hd 2 (by decide)
          refine wpOp_step rfl fun KK hK => ?_
          refine Reg.step_load_mid (by rfl) 54 (.tmp 19) (by rfl) ba (oa + k * 57) (by exact h19) (R k).l (HRA.out u hku.top) _ Try.underlying54 rfl (by rw [size_row, Rw.l_len]) ?_
          exact hK _ _ ⟨_, rfl, Reg.KJ.refl _, fun d hd => by cases hd; exact rfl, fun h => by cases h⟩
        · intro x u hku hd
          have h20 : x 20 = .agg (R k).l.toArray := hd 3 (by decide)
          refine wpOp_step rfl fun KK hK => ?_
          simp only [h20] at hK ⊢
          go_simp
          (with_reducible refine (HOT.out _ hku.top).mono ?_)
          rintro e u' ⟨X, rfl, q1, q2, hb'⟩
          exact hK _ _ ⟨_, rfl, Reg.KJ.grow (by simp) hku.size hb', fun d hd => by cases hd; exact ⟨X, rfl, q1, q2⟩, fun h => by cases h⟩
        · intro x u hku hd
          refine wpOp_step rfl fun KK hK => ?_
          go_simp
          exact hK _ _ ⟨_, rfl, Reg.KJ.refl _, fun d hd => by cases hd; exact rfl, fun h => by cases h⟩
        · intro x u hku hd
          refine wpOp_step rfl fun KK hK => ?_
          go_simp
          exact hK _ _ ⟨_, rfl, Reg.KJ.refl _, fun d hd => by cases hd; exact rfl, fun h => by cases h⟩
        · intro x u hku hd
          have h22 : x 22 = .slice (some ⟨bb, ob, none⟩) n d := hd 5 (by decide)
          have h23 : x 23 = .int .i64 (k : Int) := hd 6 (by decide)
          refine wpOp_step rfl fun KK hK => ?_
          simp only [h22, h23] at hK ⊢
          go_simp
          exact hK _ _ ⟨_, rfl, Reg.KJ.refl _, fun d hd => by cases hd; exact rfl, fun h => by cases h⟩
        · intro x u hku hd
          have h24 : x 24 = .pointer (some ⟨bb, ob + k * 57, none⟩) := hd 7 (by decide)
          refine wpOp_step rfl fun KK hK => ?_
          refine Reg.step_load_mid (by rfl) 74 (.tmp 24) (by rfl) bb (ob + k * 57) (by exact h24) (Q k).l (HRB.out u hku.top) _ Try.underlying74 rfl (by rw [size_rrow, Rw.l_len]) ?_
          exact hK _ _ ⟨_, rfl, Reg.KJ.refl _, fun d hd => by cases hd; exact rfl, fun h => by cases h⟩
        · intro x u hku hd
          have k21 : (Reg.FactK.oth (R k).ro : Reg.FactK (Reg.KJ wr.heap.size [] [])).P (x 21) u := hd 4 (by decide)
          obtain ⟨Q21, h21, hq21, ho21⟩ := k21
          have h25 : x 25 = .agg (Q k).l.toArray := hd 8 (by decide)
          refine wpOp_step rfl fun KK hK => ?_
          simp only [h21, h25] at hK ⊢
          go_simp
          (with_reducible refine (HSM.out _ _ hku.top hq21 ho21).mono ?_)
          rintro e u' ⟨rfl, hb'⟩
          exact hK _ _ ⟨_, rfl, Reg.KJ.grow (by simp) hku.size hb', fun d hd => by cases hd; exact rfl, fun h => by cases h⟩
        · intro x u hku hd
          have h26 : x 26 = .bool true := hd 9 (by decide)
          refine wpOp_step rfl fun KK hK => ?_
          simp only [h26] at hK ⊢
          go_simp
          exact hK _ _ ⟨_, rfl, Reg.KJ.refl _, fun d hd => by cases hd; exact rfl, fun h => by cases h⟩
      · intro x u hku hd
        have e27 : x 27 = .bool false := hd 10 (by decide)
        have HKU := Lib.hid hku.top
        simp only [Reg.frame, Reg.over, Nat.reduceAdd, Nat.reduceLeDiff, decide_true, decide_false, if_true, Bool.false_eq_true, if_false, Bool.and_true, Bool.and_false, e27]
        go_wp2_with fail
        go_roundw
        case rel => exact ⟨k + 1, by omega, by go_num, Lib.hid (HB.out.trans (HKU.out.mono HB.out.size))⟩
        case measure => simp [intOf]; omega
    · obtain rfl : k = n := by omega
      go_wp2_with fail
      go_ret
      exact ⟨rfl, HB.out⟩
end Go.Proofs.Ytcangipaoancnaa

