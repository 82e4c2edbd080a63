/-
  The law WordsIdle returns true, whatever the number and the word. Conditions: the arguments' reading.
-/
import Derived.Test.YtmmgbhdjjejacaaWdI1
namespace Go.Proofs.Ytmmgbhdjjejacaa
open Go.RowKit
set_option linter.unusedVariables false
set_option linter.unusedSimpArgs false

theorem pick_allI {α : Type} (d : α) {Q : Nat → α → Prop} (n : Nat) (h : ∀ i, i < n → ∃ a, Q i a) : ∃ T : Nat → α, ∀ i, i < n → Q i (T i) := by
  classical
  refine ⟨fun i => if hi : i < n then (h i hi).choose else d, fun i hi => ?_⟩
  simp only [hi, dite_true]
  exact (h i hi).choose_spec
theorem RowsO.rows {w : World} {lo n G : Nat} {P : Nat → Ro} {Ls : Nat → List Value} (h : RowsO w lo n P Ls) (hL : ∀ i, (Ls i).length = 57) (hB : Blk w G 54 (flL Ls n).toArray) :
    ∃ RA : Nat → Rw, (∀ i, i < n → (RA i).ro = P i) ∧ LiesR w w.heap.size (some ⟨G, 0, none⟩) n RA := by
  obtain ⟨RA, hA⟩ := pick_allI rwN (Q := fun i r => r.ro = P i ∧ Ls i = r.l ∧ LiesH w w.heap.size r.A r.n r.T) n fun i hi => by
    obtain ⟨A, p, e, hh⟩ := h i hi
    refine ⟨⟨(P i).b, (P i).c, A, (P i).n, p, (P i).T⟩, rfl, e, ?_⟩
    rcases hh with ⟨_, h0, _⟩ | ⟨g, h1, _, _, h2⟩
    · show LiesH _ _ A (P i).n _; rw [h0]; exact LiesH.nil_
    · show LiesH _ _ A (P i).n _; rw [h1]; exact h2.liesH_
  refine ⟨RA, fun i hi => (hA i hi).1, ?_, fun i hi => (hA i hi).2.2⟩
  rw [flL_congr (h := fun i => (RA i).l) fun i hi => (hA i hi).2.1] at hB
  exact hB.liesF (by decide) fun i => Rw.l_len _
theorem LiesR.at0 {w : World} {B G n i : Nat} {R : Nat → Rw} (h : LiesR w B (some ⟨G, 0, none⟩) n R) (hi : i < n) : G < B ∧ w.rangeAt G (i * 57) (R i).l := by
  obtain ⟨b, off, e, hb, hr⟩ := h.f (by omega)
  cases e
  exact ⟨hb, by have := hr i hi; rwa [Nat.zero_add] at this⟩
theorem plR_b (n : Nat) (q : Ro) : (plR n q).b = q.b := by
  unfold plR; split
  · rename_i h; exact h.symm
  · rename_i h; simp at h; exact h.symm
theorem plR_eq (n : Nat) (a : Ro) : eqR (plR n a) (plR n (plR n a)) = true := by
  rw [eqR_iff]
  cases h : a.b
  · simp [plR, h, roN]
  · simp only [plR, h, if_true]
    refine ⟨trivial, (plC_idem _).symm, trivial, fun i hi => ?_⟩
    simp only [fitH, hi, if_true]
    exact (plH_idem _).symm
namespace Reg
theorem step_load_want {P : Program} {ops : Array Oper} {o : Oper} {a : Act} {w : World} {K : Act → World → Prop} {Q : Exit → Act → World → Prop} {E : Prop} (hw : Region.wanted o (yielded ops a.tmps) = true) (T : TypeId) (x : Operand) (ho : o.op = .load T x) (g off : Nat) (hx : a.eval x = .pointer (some ⟨g, off, none⟩)) (cs : List Value) (hc : w.rangeAt g off cs) (d : TypeDesc)
    (hu : P.underlying T = some d) (hd : d.isRow = true) (hi : (P.info? T).map (·.size) = some cs.length) (h : K (a.put o.dst (.agg cs.toArray)) w) :
    if Region.wanted o (yielded ops a.tmps) = true then Oper.wp P o a w K Q else E := by
  rw [if_pos hw]
  exact wp_load_mid T x ho g off hx cs d hc hu hd hi h
end Reg
set_option maxRecDepth 100000 in
theorem built_held0 : (Try.prog).built 69 [] = some (heL heN).toArray := by kernel_rfl
theorem Blk.heldCell {w : World} {g : Nat} {h : He} (hB : Blk w g 69 (heL h).toArray) : w.rangeAt g 1 (ceL h.c) :=
  range_of (ceL h.c) [.bool h.i] [] (by simpa [heL] using hB) rfl
theorem ro_rangeC {w : World} {b o : Nat} {x : Bool} {c : Ce} {A : Option Addr} {n p : Nat} (h : w.rangeAt b o (roL x c A n p)) : w.rangeAt b (o + 1) (ceL c) := fun j v hv => by
  have hj : j < 55 := by have := (List.getElem?_eq_some_iff.1 hv).1; rwa [ceL_len] at this
  have := h (j + 1) v (by unfold roL; rw [List.getElem?_cons_succ, List.getElem?_append_left (by rw [ceL_len]; exact hj)]; exact hv)
  rwa [show o + 1 + j = o + (j + 1) by omega]
set_option maxRecDepth 100000 in
theorem built_cell0 : (Try.prog).built 51 [] = some (ceL ceN).toArray := by kernel_rfl
/-- What the law knows of memory: the boxes of the word, of its plain form, and of that one's. -/
structure IL (w : World) (A : Option Addr) (m c n ga gb Ga Gb : Nat) (R RA RB : Nat → Rw) (U : World) : Prop where
  x : Blk U w.heap.size 24 #[.slice A m c]
  a : Blk U ga 24 #[.slice (some ⟨Ga, 0, none⟩) n n]
  b : Blk U gb 24 #[.slice (some ⟨Gb, 0, none⟩) n n]
  r : LiesR U U.heap.size A m R
  ra : LiesR U U.heap.size (some ⟨Ga, 0, none⟩) n RA
  rb : LiesR U U.heap.size (some ⟨Gb, 0, none⟩) n RB
  k : Below w.heap.size w U
theorem IL.on {w U V : World} {A : Option Addr} {m c n ga gb Ga Gb : Nat} {R RA RB : Nat → Rw} (h : IL w A m c n ga gb Ga Gb R RA RB U) (b : Below U.heap.size U V) : IL w A m c n ga gb Ga Gb R RA RB V :=
  ⟨h.x.on b, h.a.on b, h.b.on b, h.r.on b, h.ra.on b, h.rb.on b, below_then h.k b⟩
/-- Besides: the row that is looked at, and what it was. -/
structure IN (w : World) (A : Option Addr) (m c n ga gb Ga Gb : Nat) (R RA RB : Nat → Rw) (g9 ba P : Nat) (qc : Ce) (xA qA : Option Addr) (xp qn qp : Nat) (qT : Nat → He) (U : World) : Prop where
  l : IL w A m c n ga gb Ga Gb R RA RB U
  b9 : Blk U g9 54 (roL true (plC qc) xA n xp).toArray
  rq : U.rangeAt ba P (roL true qc qA qn qp)
  lq : ba < U.heap.size
  tx : LiesH U U.heap.size xA n (fun k => plH (fitH qT qn k))
  tq : LiesH U U.heap.size qA qn qT
theorem IN.on {w U V : World} {A : Option Addr} {m c n ga gb Ga Gb : Nat} {R RA RB : Nat → Rw} {g9 ba P : Nat} {qc : Ce} {xA qA : Option Addr} {xp qn qp : Nat} {qT : Nat → He} (h : IN w A m c n ga gb Ga Gb R RA RB g9 ba P qc xA qA xp qn qp qT U) (b : Below U.heap.size U V) : IN w A m c n ga gb Ga Gb R RA RB g9 ba P qc xA qA xp qn qp qT V :=
  ⟨h.l.on b, h.b9.on b, fun j v hv => (b.cell (p := ⟨ba, _, none⟩) h.lq).trans (h.rq j v hv), Nat.lt_of_lt_of_le h.lq b.size, h.tx.on b, h.tq.on b⟩
set_option maxRecDepth 100000 in
set_option maxHeartbeats 16000000 in
theorem wordsIdle_walk (x0 : Int) (A : Option Addr) (m c : Nat) (R : Nat → Rw) (w : World) (f0 : 0 ≤ x0 ∧ x0 ≤ 255) (hR : LiesR w w.heap.size A m R) (hm : m ≤ 9223372036854775807) (hRm : ∀ i, i < m → (R i).n ≤ 9223372036854775807) :
    Calls Try.prog 5 #[.int .u8 x0, .agg #[.slice A m c]] w fun e w' => e = .returned (.bool true) ∧ Below w.heap.size w w' := by
  obtain ⟨f00, f01⟩ := f0
  obtain ⟨n0, rfl⟩ : ∃ k : Nat, x0 = (k : Int) := ⟨x0.toNat, by omega⟩
  have HR := Lib.hid hR
  have HRM := Lib.hid hRm
  obtain ⟨n, hn⟩ : ∃ n, n = n0 % 17 := ⟨_, rfl⟩
  have hn16 : n ≤ 16 := by have := Nat.mod_lt n0 (show 0 < 17 by decide); omega
  have en : ((n0 : Int).tmod 17) = (n : Int) := by rw [hn]; rfl
  have en' : ((n0 : Int) % 17) = (n : Int) := by rw [hn]; rfl
  clear hR hRm hn
  go_enter Try.func5, Try.ntmps5
  go_upto_region 1 with fail
  refine wp_at (fun U => Blk U w.heap.size 24 #[.slice A m c] ∧ Below w.heap.size w U) ⟨Blk.new w _ _, below_al (Below.refl _ w) _⟩ ?_
  rintro U ⟨h1, h2⟩
  have c0 : U.cell? ⟨w.heap.size, 0, none⟩ = some (.slice A m c) := h1.cell 0
  have l0 := h1.lt
  have HX := Lib.hid h1
  have HB := Lib.hid h2
  have HRU := Lib.hid (HR.out.on h2)
  have HGR : Hid (∀ u, Below U.heap.size U u → Calls Try.prog 11 #[.agg #[.slice A m c]] u fun e w' => RetB e ∧ Below u.heap.size u w') := Lib.hid (fun u hu => great_is A m c R u (HRU.out.on hu) hm)
  clear h1 h2
  go_upto_region 3 with (first
    | (go_at_call 11; (with_reducible refine (HGR.out _ (Below.refl _ _)).mono ?_); rintro e w1 ⟨⟨g, rfl⟩, b1⟩; have HB1 := Lib.hid b1; clear b1)
    | (go_at_call 12; (with_reducible refine (lives_wd _).mono ?_); rintro e w7 ⟨rfl, b7⟩))
  any_goals (go_ret; exact ⟨rfl, below_then (below_then HB.out HB1.out) b7⟩)
  refine wp_at (fun U => Blk U w.heap.size 24 #[.slice A m c] ∧ LiesR U U.heap.size A m R ∧ Below w.heap.size w U) ⟨HX.out.on HB1.out, HRU.out.on HB1.out, below_then HB.out HB1.out⟩ ?_
  clear HX HB HRU HGR c0 l0 HB1
  rintro V ⟨h1, h2, h3⟩
  have c0 : V.cell? ⟨w.heap.size, 0, none⟩ = some (.slice A m c) := h1.cell 0
  have l0 := h1.lt
  have HX := Lib.hid h1
  have HRV := Lib.hid h2
  have HB := Lib.hid h3
  clear h1 h2 h3
  have HNM : Hid (∀ (A : Option Addr) (m c : Nat) (R : Nat → Rw) (u : World), LiesR u u.heap.size A m R → Calls Try.prog 14 #[.int .i64 (n : Int), .agg #[.slice A m c]] u fun e w' => ∃ (G : Nat) (RA : Nat → Rw), e = .returned (.agg #[.slice (some ⟨G, 0, none⟩) n n]) ∧ (∀ i, i < n → (RA i).ro = plR n (fitF R m rwN i).ro) ∧ LiesR w' w'.heap.size (some ⟨G, 0, none⟩) n RA ∧ Below u.heap.size u w') := Lib.hid (fun A m c R u h => (norm_is n hn16 A m c R u h).mono fun e w' ⟨G, Ls, h1, h2, h3, h4, h5, h6⟩ => by
    obtain ⟨RA, r1, r2⟩ := h5.rows h3 h4
    exact ⟨G, RA, h1, r1, r2, h6⟩)
  have hmin : Nat.min n n = n := Nat.min_self n
  go_upto_region 5 with (go_at_call 14; (with_reducible refine (HNM.out A m c R _ HRV.out).mono ?_); rintro e w2 ⟨Ga, RA, rfl, q1, q2, q3⟩; have HQ1 := Lib.hid q1; have HQ2 := Lib.hid q2; have HQ3 := Lib.hid q3; clear q1 q2 q3)
  refine wp_at (fun U => Blk U w.heap.size 24 #[.slice A m c] ∧ Blk U w2.heap.size 24 #[.slice (some ⟨Ga, 0, none⟩) n n] ∧ LiesR U U.heap.size A m R ∧ LiesR U U.heap.size (some ⟨Ga, 0, none⟩) n RA ∧ Below w.heap.size w U) ⟨(HX.out.on HQ3.out).alloc _, Blk.new w2 _ _, (HRV.out.on HQ3.out).on (below_al (Below.refl _ _) _), HQ2.out.on (below_al (Below.refl _ _) _), below_al (below_then HB.out HQ3.out) _⟩ ?_
  obtain ⟨ga, hga⟩ : ∃ ga, ga = w2.heap.size := ⟨_, rfl⟩
  rw [← hga]
  clear HX HB HRV c0 l0 HQ2 HQ3 hga
  rintro V2 ⟨h1, h2, h3, h4, h5⟩
  have c0 : V2.cell? ⟨ga, 0, none⟩ = some (.slice (some ⟨Ga, 0, none⟩) n n) := h2.cell 0
  have l0 := h2.lt
  have HX := Lib.hid h1
  have HA := Lib.hid h2
  have HRV := Lib.hid h3
  have HRA := Lib.hid h4
  have HB := Lib.hid h5
  clear h1 h2 h3 h4 h5
  go_upto_region 6 with (go_at_call 14; (with_reducible refine (HNM.out (some ⟨Ga, 0, none⟩) n n RA _ HRA.out).mono ?_); rintro e w3 ⟨Gb, RB, rfl, q1, q2, q3⟩; have HP1 := Lib.hid q1; have HP2 := Lib.hid q2; have HP3 := Lib.hid q3; clear q1 q2 q3)
  refine wp_at (IL w A m c n ga w3.heap.size Ga Gb R RA RB) ⟨(HX.out.on HP3.out).alloc _, (HA.out.on HP3.out).alloc _, Blk.new w3 _ _, (HRV.out.on HP3.out).on (below_al (Below.refl _ _) _), (HRA.out.on HP3.out).on (below_al (Below.refl _ _) _), HP2.out.on (below_al (Below.refl _ _) _), below_al (below_then HB.out HP3.out) _⟩ ?_
  obtain ⟨gb, hgb⟩ : ∃ gb, gb = w3.heap.size := ⟨_, rfl⟩
  rw [← hgb]
  have HE : Hid (∀ i, i < n → eqR (RA i).ro (RB i).ro = true) := Lib.hid (fun i hi => by
    rw [HP1.out i hi, HQ1.out i hi, show fitF RA n rwN i = RA i by simp [fitF, hi], HQ1.out i hi]
    exact plR_eq _ _)
  clear HX HB HRV c0 l0 HRA HA HP1 HP2 HP3 hgb HNM
  rintro V3 hV3
  have HV := Lib.hid hV3
  have ca : V3.cell? ⟨ga, 0, none⟩ = some (.slice (some ⟨Ga, 0, none⟩) n n) := hV3.a.cell 0
  have cb : V3.cell? ⟨gb, 0, none⟩ = some (.slice (some ⟨Gb, 0, none⟩) n n) := hV3.b.cell 0
  have la := hV3.a.lt
  have lb := hV3.b.lt
  clear hV3
  go_wp2_with fail
  go_loopw [8] (fun s wr => ∃ i : Nat, i ≤ n ∧ s = .int .i64 (i : Int) ∧ Hid (IL w A m c n ga gb Ga Gb R RA RB wr)) (fun s _ => n - (intOf s).toNat)
  case atStart => exact ⟨0, by omega, rfl, HV⟩
  case round =>
    clear HV ca cb la lb
    obtain ⟨i, hi, rfl, HU⟩ := hrel
    by_cases hlt : i < n
    · have ca : wr.cell? ⟨ga, 0, none⟩ = some (.slice (some ⟨Ga, 0, none⟩) n n) := HU.out.a.cell 0
      have la := HU.out.a.lt
      obtain ⟨O, hO⟩ : ∃ O, O = i * 57 := ⟨_, rfl⟩
      have HRA : Hid (wr.rangeAt Ga O (RA i).l) := Lib.hid (by rw [hO]; exact (HU.out.ra.at0 hlt).2)
      have hixa : ∀ W, (Instr.indexAt 22 (.slice (some ⟨Ga, 0, none⟩) n n) (.int .i64 (i : Int))).run Try.prog W = .ok (.pointer (some ⟨Ga, O, none⟩)) W := fun W => by rw [idxRows (A := some ⟨Ga, 0, none⟩) (n := n) n rfl hlt W, hO, Nat.zero_add]
      have hixb : ∀ W, (Instr.indexAt 22 (.slice (some ⟨Gb, 0, none⟩) n n) (.int .i64 (i : Int))).run Try.prog W = .ok (.pointer (some ⟨Gb, O, none⟩)) W := fun W => by rw [idxRows (A := some ⟨Gb, 0, none⟩) (n := n) n rfl hlt W, hO, Nat.zero_add]
      have HOO := Lib.hid hO
      clear hO
      have HZN : Hid (∀ Z : Array Value, Z.size = 57 → PIn (wr.alloc (.cells Z 54)) wr.heap.size 0 54 [] [] Z.toList ∧ Z.toList.length = 57) := Lib.hid (fun Z hZ => ⟨Blk.pin (by simpa using Blk.new wr 54 Z), by simpa using hZ⟩)
      go_upto_region 12 with (first
        | (refine wpList_load_mid rfl 54 (.tmp 45) rfl Ga O (by simp [Act.eval, Act.put]) (RA i).l _ HRA.out Try.underlying54 rfl (by rw [size_row, (RA i).l_len]) ?_)
        | (refine wpList_store_pin rfl 54 (.tmp 9) (.tmp 46) rfl (HZN.out _ rfl).1 (RA i).l (by simp [Act.eval, Act.put]) (by simp [Act.eval, Act.put]) 57 size_row (HZN.out _ rfl).2 (RA i).l_len (roL_one _ _ _ _ _) ?_; intro w2' p2 b2; have HP2 := Lib.hid p2; have HB2 := Lib.hid b2; clear p2 b2))
      refine wp_at (fun V => IL w A m c n ga gb Ga Gb R RA RB V ∧ Blk V wr.heap.size 54 (RA i).l.toArray) ⟨HU.out.on ((below_al (Below.refl _ wr) _).trans (HB2.out.low (Nat.le_refl _))), HP2.out.blk_⟩ ?_
      obtain ⟨g9, hg9⟩ : ∃ g9, g9 = wr.heap.size := ⟨_, rfl⟩
      rw [← hg9]
      clear HZN HP2 HB2 HRA HU ca la hg9
      rintro V ⟨v1, v2⟩
      have HV := Lib.hid v1
      obtain ⟨q, hq⟩ : ∃ q, q = fitF R m rwN i := ⟨_, rfl⟩
      have HXQ := HQ1.out i hlt
      rw [← hq] at HXQ
      have HXE := HE.out i hlt
      have HXT := v1.ra.t i hlt
      have HYT := v1.rb.t i hlt
      clear v1
      generalize RA i = X at v2 HXQ HXE HXT ⊢
      have HSM : Hid (∀ u, Below V.heap.size V u → X.n ≤ 65536 → Calls Try.prog 26 #[.agg (roL X.b X.c X.A X.n X.p).toArray, .agg (RB i).l.toArray] u fun e w' => e = .returned (.bool true) ∧ Below u.heap.size u w') := Lib.hid (fun u hu hx => by
        have h3 : X.n = (RB i).n := ((eqR_iff _ _).1 HXE).2.2.1
        have := same_rows X (RB i) hx (by omega) u (HXT.on hu) (HYT.on hu)
        rw [HXE] at this
        exact this)
      obtain ⟨xb, xc, xA, xn, xp, xT⟩ := X
      have h9 : Blk V g9 54 (roL xb xc xA xn xp).toArray := v2
      clear v2 HYT HXE
      by_cases him : i < m
      · have hqi : q = R i := by rw [hq]; simp [fitF, him]
        obtain ⟨ba, oa, rfl, hba, hra⟩ := HV.out.r.f (by omega)
        obtain ⟨P, hP⟩ : ∃ P, P = oa + i * 57 := ⟨_, rfl⟩
        have hixr : ∀ W, (Instr.indexAt 22 (.slice (some ⟨ba, oa, none⟩) m c) (.int .i64 (i : Int))).run Try.prog W = .ok (.pointer (some ⟨ba, P, none⟩)) W := fun W => by rw [idxRows (A := some ⟨ba, oa, none⟩) (n := m) c rfl him W, hP]
        have hr : V.rangeAt ba (oa + i * 57) (R i).l := hra i him
        rw [← hP, ← hqi] at hr
        have HTQ := HV.out.r.t i him
        rw [← hqi] at HTQ
        have HBA := Lib.hid hba
        have hqn : q.n ≤ 9223372036854775807 := by rw [hqi]; exact HRM.out i him
        clear hq hra hP hqi hba
        generalize q = q' at HXQ hr HTQ hqn
        obtain ⟨qb, qc, qA, qn, qp, qT⟩ := q'
        cases qb
        · have hxx : (⟨xb, xc, xn, xT⟩ : Ro) = roN := HXQ
          simp only [roN, Ro.mk.injEq] at hxx
          obtain ⟨rfl, rfl, rfl, rfl⟩ := hxx
          have HR0 : Hid (V.cell? ⟨ba, P, none⟩ = some (.bool false)) := Lib.hid (hr 0 _ rfl)
          clear hr HTQ HXT HXQ hqn
          have H9 := Lib.hid h9
          clear h9
          go_wp2_with fail
          refine Reg.wp_slots2 (fun t => decide (47 ≤ t) && decide (t ≤ 72)) (Reg.KJ V.heap.size [] []) (Reg.KJ.drew _ (by simp)) Reg.KJ.trans (by kernel_rfl) (by kernel_rfl) (by kernel_rfl) (fun zz => (Reg.tblK [
            (47, .is (.agg (roL false ceN xA 0 xp).toArray)),
            (48, .is (.pointer (some ⟨gb, 0, none⟩))),
            (49, .is (.slice (some ⟨Gb, 0, none⟩) n n)),
            (50, .is (.int .i64 (i : Int))),
            (51, .is (.pointer (some ⟨Gb, O, none⟩))),
            (52, .is (.agg (RB i).l.toArray)),
            (53, .is (.bool true)),
            (54, .is (.bool false)),
            (55, .is (.bool false)),
            (56, .is (.pointer (some ⟨g9, 0, none⟩))),
            (57, .is (.bool false)),
            (58, .is (.int .i64 (i : Int))),
            (59, .is (.pointer (some ⟨w.heap.size, 0, none⟩))),
            (60, .is (.slice (some ⟨ba, oa, none⟩) m c)),
            (61, .is (.int .i64 (m : Int))),
            (62, .is (.bool true)),
            (63, .is (.bool true)),
            (64, .is (.pointer (some ⟨w.heap.size, 0, none⟩))),
            (65, .is (.slice (some ⟨ba, oa, none⟩) m c)),
            (66, .is (.int .i64 (i : Int))),
            (67, .is (.pointer (some ⟨ba, P, none⟩))),
            (68, .is (.pointer (some ⟨ba, P, none⟩))),
            (69, .is (.bool false)),
            (70, .is (.bool false)),
            (71, .is (.bool false)),
            (72, .is (.bool false))] zz).P) (fun zz => (Reg.tblK _ zz).on) (fun zz => (Reg.memK [] zz).P) (fun zz => (Reg.memK _ zz).on) ?_ ?_
          · simp only [Reg.frame, Reg.over, Nat.reduceAdd, Nat.reduceLeDiff, decide_true, decide_false, if_true, Bool.false_eq_true, if_false, Bool.and_true, Bool.and_false]
            refine ⟨?_, ?_, ?_, ?_, ?_, ?_, ?_, ?_, ?_, ?_, ?_, ?_, ?_, ?_, ?_, ?_, ?_, ?_, ?_, ?_, ?_, ?_, ?_, ?_, ?_, ?_, trivial⟩
            · intro x u hku hd
              refine wpOp_step rfl fun KK hK => ?_
              refine Reg.step_load_mid (by rfl) 54 (.tmp 9) (by rfl) g9 0 (by rfl) (roL false ceN xA 0 xp) (hku.blk (by simp) H9.out).pin.range _ Try.underlying54 rfl (by rw [size_row, roL_len]) ?_
              exact hK _ _ ⟨_, rfl, Reg.KJ.refl _, fun d hd => by cases hd; exact rfl, fun h => by cases h⟩
            · intro x u hku hd
              refine wpOp_step rfl fun KK hK => ?_
              go_simp
              exact hK _ _ ⟨_, rfl, Reg.KJ.refl _, fun d hd => by cases hd; exact rfl, fun h => by cases h⟩
            · intro x u hku hd
              have h48 : x 48 = .pointer (some ⟨gb, 0, none⟩) := hd 1 (by decide)
              have cu := (HV.out.on hku.below).b.cell 0
              have lu := (HV.out.on hku.below).b.lt
              simp only [List.getElem?_toArray, List.getElem?_cons_zero] at cu
              refine wpOp_step rfl fun KK hK => ?_
              simp only [h48] at hK ⊢
              go_simp
              exact hK _ _ ⟨_, rfl, Reg.KJ.refl _, fun d hd => by cases hd; exact rfl, fun h => by cases h⟩
            · intro x u hku hd
              refine wpOp_step rfl fun KK hK => ?_
              go_simp
              exact hK _ _ ⟨_, rfl, Reg.KJ.refl _, fun d hd => by cases hd; exact rfl, fun h => by cases h⟩
            · intro x u hku hd
              have h49 : x 49 = .slice (some ⟨Gb, 0, none⟩) n n := hd 2 (by decide)
              have h50 : x 50 = .int .i64 (i : Int) := hd 3 (by decide)
              refine wpOp_step rfl fun KK hK => ?_
              simp only [h49, h50] at hK ⊢
              go_simp
              exact hK _ _ ⟨_, rfl, Reg.KJ.refl _, fun d hd => by cases hd; exact rfl, fun h => by cases h⟩
            · intro x u hku hd
              have h51 : x 51 = .pointer (some ⟨Gb, O, none⟩) := hd 4 (by decide)
              refine wpOp_step rfl fun KK hK => ?_
              refine Reg.step_load_mid (by rfl) 54 (.tmp 51) (by rfl) Gb O (by exact h51) (RB i).l (by rw [HOO.out]; exact ((HV.out.on hku.below).rb.at0 hlt).2) _ Try.underlying54 rfl (by rw [size_row, (RB i).l_len]) ?_
              exact hK _ _ ⟨_, rfl, Reg.KJ.refl _, fun d hd => by cases hd; exact rfl, fun h => by cases h⟩
            · intro x u hku hd
              have h47 : x 47 = .agg (roL false ceN xA 0 xp).toArray := hd 0 (by decide)
              have h52 : x 52 = .agg (RB i).l.toArray := hd 5 (by decide)
              refine wpOp_step rfl fun KK hK => ?_
              simp only [h47, h52] at hK ⊢
              go_simp
              (with_reducible refine (HSM.out u hku.below (by first | (simp; done) | omega | (simp; omega))).mono ?_)
              rintro e u' ⟨rfl, hb'⟩
              exact hK _ _ ⟨_, rfl, Reg.KJ.grow (by simp) hku.size hb', fun d hd => by cases hd; exact rfl, fun h => by cases h⟩
            · intro x u hku hd
              have h53 : x 53 = .bool true := hd 6 (by decide)
              refine wpOp_step rfl fun KK hK => ?_
              simp only [h53] at hK ⊢
              go_simp
              exact hK _ _ ⟨_, rfl, Reg.KJ.refl _, fun d hd => by cases hd; exact rfl, fun h => by cases h⟩
            · intro x u hku hd
              have h54 : x 54 = .bool false := hd 7 (by decide)
              refine wpOp_step rfl fun KK hK => ?_
              simp only [h54] at hK ⊢
              go_simp
              exact hK _ _ ⟨_, rfl, Reg.KJ.refl _, fun d hd => by cases hd; exact rfl, fun h => by cases h⟩
            · intro x u hku hd
              have h55 : x 55 = .bool false := hd 8 (by decide)
              refine wpOp_step rfl fun KK hK => ?_
              simp only [h55] at hK ⊢
              go_simp
              exact hK _ _ ⟨_, rfl, Reg.KJ.refl _, fun d hd => by cases hd; exact rfl, fun h => by cases h⟩
            · intro x u hku hd
              have h56 : x 56 = .pointer (some ⟨g9, 0, none⟩) := hd 9 (by decide)
              have h55 : x 55 = .bool false := hd 8 (by decide)
              have cu : u.cell? ⟨g9, 0, none⟩ = some (.bool false) := ((hku.blk (by simp) H9.out).pin.cell0 (by rw [roL_len]; decide)).trans rfl
              have lu := (hku.blk (by simp) H9.out).lt
              refine wpOp_step rfl fun KK hK => ?_
              simp only [h56, h55] at hK ⊢
              go_simp
              exact hK _ _ ⟨_, rfl, Reg.KJ.refl _, fun d hd => by cases hd; exact rfl, fun h => by cases h⟩
            · intro x u hku hd
              have h55 : x 55 = .bool false := hd 8 (by decide)
              refine wpOp_step rfl fun KK hK => ?_
              simp only [h55] at hK ⊢
              go_simp
              exact hK _ _ ⟨_, rfl, Reg.KJ.refl _, fun d hd => by cases hd; exact rfl, fun h => by cases h⟩
            · intro x u hku hd
              have h55 : x 55 = .bool false := hd 8 (by decide)
              refine wpOp_step rfl fun KK hK => ?_
              simp only [h55] at hK ⊢
              go_simp
              exact hK _ _ ⟨_, rfl, Reg.KJ.refl _, fun d hd => by cases hd; exact rfl, fun h => by cases h⟩
            · intro x u hku hd
              have h59 : x 59 = .pointer (some ⟨w.heap.size, 0, none⟩) := hd 12 (by decide)
              have h55 : x 55 = .bool false := hd 8 (by decide)
              have cu := (HV.out.on hku.below).x.cell 0
              have lu := (HV.out.on hku.below).x.lt
              simp only [List.getElem?_toArray, List.getElem?_cons_zero] at cu
              refine wpOp_step rfl fun KK hK => ?_
              simp only [h59, h55] at hK ⊢
              go_simp
              exact hK _ _ ⟨_, rfl, Reg.KJ.refl _, fun d hd => by cases hd; exact rfl, fun h => by cases h⟩
            · intro x u hku hd
              have h60 : x 60 = .slice (some ⟨ba, oa, none⟩) m c := hd 13 (by decide)
              have h55 : x 55 = .bool false := hd 8 (by decide)
              refine wpOp_step rfl fun KK hK => ?_
              simp only [h60, h55] at hK ⊢
              go_simp
              exact hK _ _ ⟨_, rfl, Reg.KJ.refl _, fun d hd => by cases hd; exact rfl, fun h => by cases h⟩
            · intro x u hku hd
              have h58 : x 58 = .int .i64 (i : Int) := hd 11 (by decide)
              have h61 : x 61 = .int .i64 (m : Int) := hd 14 (by decide)
              have h55 : x 55 = .bool false := hd 8 (by decide)
              refine wpOp_step rfl fun KK hK => ?_
              simp only [h58, h61, h55] at hK ⊢
              go_simp
              exact hK _ _ ⟨_, rfl, Reg.KJ.refl _, fun d hd => by cases hd; exact rfl, fun h => by cases h⟩
            · intro x u hku hd
              have h62 : x 62 = .bool true := hd 15 (by decide)
              have h55 : x 55 = .bool false := hd 8 (by decide)
              refine wpOp_step rfl fun KK hK => ?_
              simp only [h62, h55] at hK ⊢
              go_simp
              exact hK _ _ ⟨_, rfl, Reg.KJ.refl _, fun d hd => by cases hd; exact rfl, fun h => by cases h⟩
            · intro x u hku hd
              have h63 : x 63 = .bool true := hd 16 (by decide)
              refine wpOp_step rfl fun KK hK => ?_
              simp only [h63] at hK ⊢
              go_simp
              exact hK _ _ ⟨_, rfl, Reg.KJ.refl _, fun d hd => by cases hd; exact rfl, fun h => by cases h⟩
            · intro x u hku hd
              have h64 : x 64 = .pointer (some ⟨w.heap.size, 0, none⟩) := hd 17 (by decide)
              have h63 : x 63 = .bool true := hd 16 (by decide)
              have cu := (HV.out.on hku.below).x.cell 0
              have lu := (HV.out.on hku.below).x.lt
              simp only [List.getElem?_toArray, List.getElem?_cons_zero] at cu
              refine wpOp_step rfl fun KK hK => ?_
              simp only [h64, h63] at hK ⊢
              go_simp
              exact hK _ _ ⟨_, rfl, Reg.KJ.refl _, fun d hd => by cases hd; exact rfl, fun h => by cases h⟩
            · intro x u hku hd
              have h63 : x 63 = .bool true := hd 16 (by decide)
              refine wpOp_step rfl fun KK hK => ?_
              simp only [h63] at hK ⊢
              go_simp
              exact hK _ _ ⟨_, rfl, Reg.KJ.refl _, fun d hd => by cases hd; exact rfl, fun h => by cases h⟩
            · intro x u hku hd
              have h65 : x 65 = .slice (some ⟨ba, oa, none⟩) m c := hd 18 (by decide)
              have h66 : x 66 = .int .i64 (i : Int) := hd 19 (by decide)
              have h63 : x 63 = .bool true := hd 16 (by decide)
              refine wpOp_step rfl fun KK hK => ?_
              simp only [h65, h66, h63] at hK ⊢
              go_simp
              exact hK _ _ ⟨_, rfl, Reg.KJ.refl _, fun d hd => by cases hd; exact rfl, fun h => by cases h⟩
            · intro x u hku hd
              have h67 : x 67 = .pointer (some ⟨ba, P, none⟩) := hd 20 (by decide)
              have h63 : x 63 = .bool true := hd 16 (by decide)
              refine wpOp_step rfl fun KK hK => ?_
              simp only [h67, h63] at hK ⊢
              go_simp
              exact hK _ _ ⟨_, rfl, Reg.KJ.refl _, fun d hd => by cases hd; exact rfl, fun h => by cases h⟩
            · intro x u hku hd
              have h68 : x 68 = .pointer (some ⟨ba, P, none⟩) := hd 21 (by decide)
              have h63 : x 63 = .bool true := hd 16 (by decide)
              have cu : u.cell? ⟨ba, P, none⟩ = some (.bool false) := (hku.below.cell (p := ⟨ba, P, none⟩) HBA.out).trans HR0.out
              have lu : ba < u.heap.size := Nat.lt_of_lt_of_le HBA.out hku.size
              refine wpOp_step rfl fun KK hK => ?_
              simp only [h68, h63] at hK ⊢
              go_simp
              exact hK _ _ ⟨_, rfl, Reg.KJ.refl _, fun d hd => by cases hd; exact rfl, fun h => by cases h⟩
            · intro x u hku hd
              have h63 : x 63 = .bool true := hd 16 (by decide)
              have h69 : x 69 = .bool false := hd 22 (by decide)
              have h55 : x 55 = .bool false := hd 8 (by decide)
              refine wpOp_step rfl fun KK hK => ?_
              simp only [h63, h69, h55] at hK ⊢
              go_simp
              exact hK _ _ ⟨_, rfl, Reg.KJ.refl _, fun d hd => by cases hd; exact rfl, fun h => by cases h⟩
            · intro x u hku hd
              have h57 : x 57 = .bool false := hd 10 (by decide)
              have h70 : x 70 = .bool false := hd 23 (by decide)
              have h55 : x 55 = .bool false := hd 8 (by decide)
              refine wpOp_step rfl fun KK hK => ?_
              simp only [h57, h70, h55] at hK ⊢
              go_simp
              exact hK _ _ ⟨_, rfl, Reg.KJ.refl _, fun d hd => by cases hd; exact rfl, fun h => by cases h⟩
            · intro x u hku hd
              have h55 : x 55 = .bool false := hd 8 (by decide)
              have h71 : x 71 = .bool false := hd 24 (by decide)
              refine wpOp_step rfl fun KK hK => ?_
              simp only [h55, h71] at hK ⊢
              go_simp
              exact hK _ _ ⟨_, rfl, Reg.KJ.refl _, fun d hd => by cases hd; exact rfl, fun h => by cases h⟩
          · intro x u hku hd
            have e72 : x 72 = .bool false := hd 25 (by decide)
            have e57 : x 57 = .bool false := hd 10 (by decide)
            have h9u := hku.blk (by simp) H9.out
            have c90 : u.cell? ⟨g9, 0, none⟩ = some (.bool false) := (h9u.pin.cell0 (by rw [roL_len]; decide)).trans rfl
            have c956 : u.cell? ⟨g9, 56, none⟩ = some (.slice xA 0 xp) := h9u.rowTab
            have l9 := h9u.lt
            have H9U := Lib.hid h9u
            have HVU := Lib.hid (HV.out.on hku.below)
            have HBC := Lib.hid built_cell0
            have hne : ∀ W, (binOp .neq 51 (.agg (ceL ceN).toArray) (.agg (ceL ceN).toArray)).run Try.prog W = .ok (.bool false) W := fun W => by rw [cell_neq, ceE_refl]; rfl
            clear h9u
            simp only [Reg.frame, Reg.over, Nat.reduceAdd, Nat.reduceLeDiff, decide_true, decide_false, if_true, Bool.false_eq_true, if_false, Bool.and_true, Bool.and_false, e72, e57]
            go_wp2_with (first
              | (refine wpList_load_want 51 (.tmp 81) rfl g9 1 (ceL ceN) H9U.out.rowCell (by simp [Act.eval, Act.put]) (by kernel_rfl) _ Try.underlying51 rfl (by rw [size_ce, ceL_len]) ?_)
              | (refine wpList_build_want 51 _ rfl (ceL ceN).toArray (by simpa [Act.eval, Act.put] using HBC.out) (by kernel_rfl) ?_))
            go_roundw
            case rel => exact ⟨i + 1, by omega, by go_num, HVU⟩
            case measure => simp [intOf]; omega
        · have hxx : (⟨xb, xc, xn, xT⟩ : Ro) = ⟨true, plC qc, n, fun k => plH (fitH qT qn k)⟩ := HXQ
          simp only [Ro.mk.injEq] at hxx
          obtain ⟨rfl, rfl, hxn, rfl⟩ := hxx
          obtain rfl : n = xn := hxn.symm
          have HR0 : Hid (V.cell? ⟨ba, P, none⟩ = some (.bool true)) := Lib.hid (hr 0 _ rfl)
          have HRC := Lib.hid hr
          have HTQ' := Lib.hid HTQ
          have HXT' := Lib.hid HXT
          clear hr HTQ HXT HXQ
          have H9 := Lib.hid h9
          clear h9
          go_wp2_with fail
          refine Reg.wp_slots2 (fun t => decide (47 ≤ t) && decide (t ≤ 72)) (Reg.KJ V.heap.size [] []) (Reg.KJ.drew _ (by simp)) Reg.KJ.trans (by kernel_rfl) (by kernel_rfl) (by kernel_rfl) (fun zz => (Reg.tblK [
            (47, .is (.agg (roL true (plC qc) xA n xp).toArray)),
            (48, .is (.pointer (some ⟨gb, 0, none⟩))),
            (49, .is (.slice (some ⟨Gb, 0, none⟩) n n)),
            (50, .is (.int .i64 (i : Int))),
            (51, .is (.pointer (some ⟨Gb, O, none⟩))),
            (52, .is (.agg (RB i).l.toArray)),
            (53, .is (.bool true)),
            (54, .is (.bool false)),
            (55, .is (.bool false)),
            (56, .is (.pointer (some ⟨g9, 0, none⟩))),
            (57, .is (.bool true)),
            (58, .is (.int .i64 (i : Int))),
            (59, .is (.pointer (some ⟨w.heap.size, 0, none⟩))),
            (60, .is (.slice (some ⟨ba, oa, none⟩) m c)),
            (61, .is (.int .i64 (m : Int))),
            (62, .is (.bool true)),
            (63, .is (.bool true)),
            (64, .is (.pointer (some ⟨w.heap.size, 0, none⟩))),
            (65, .is (.slice (some ⟨ba, oa, none⟩) m c)),
            (66, .is (.int .i64 (i : Int))),
            (67, .is (.pointer (some ⟨ba, P, none⟩))),
            (68, .is (.pointer (some ⟨ba, P, none⟩))),
            (69, .is (.bool true)),
            (70, .is (.bool true)),
            (71, .is (.bool false)),
            (72, .is (.bool false))] zz).P) (fun zz => (Reg.tblK _ zz).on) (fun zz => (Reg.memK [] zz).P) (fun zz => (Reg.memK _ zz).on) ?_ ?_
          · simp only [Reg.frame, Reg.over, Nat.reduceAdd, Nat.reduceLeDiff, decide_true, decide_false, if_true, Bool.false_eq_true, if_false, Bool.and_true, Bool.and_false]
            refine ⟨?_, ?_, ?_, ?_, ?_, ?_, ?_, ?_, ?_, ?_, ?_, ?_, ?_, ?_, ?_, ?_, ?_, ?_, ?_, ?_, ?_, ?_, ?_, ?_, ?_, ?_, trivial⟩
            · intro x u hku hd
              refine wpOp_step rfl fun KK hK => ?_
              refine Reg.step_load_mid (by rfl) 54 (.tmp 9) (by rfl) g9 0 (by rfl) (roL true (plC qc) xA n xp) (hku.blk (by simp) H9.out).pin.range _ Try.underlying54 rfl (by rw [size_row, roL_len]) ?_
              exact hK _ _ ⟨_, rfl, Reg.KJ.refl _, fun d hd => by cases hd; exact rfl, fun h => by cases h⟩
            · intro x u hku hd
              refine wpOp_step rfl fun KK hK => ?_
              go_simp
              exact hK _ _ ⟨_, rfl, Reg.KJ.refl _, fun d hd => by cases hd; exact rfl, fun h => by cases h⟩
            · intro x u hku hd
              have h48 : x 48 = .pointer (some ⟨gb, 0, none⟩) := hd 1 (by decide)
              have cu := (HV.out.on hku.below).b.cell 0
              have lu := (HV.out.on hku.below).b.lt
              simp only [List.getElem?_toArray, List.getElem?_cons_zero] at cu
              refine wpOp_step rfl fun KK hK => ?_
              simp only [h48] at hK ⊢
              go_simp
              exact hK _ _ ⟨_, rfl, Reg.KJ.refl _, fun d hd => by cases hd; exact rfl, fun h => by cases h⟩
            · intro x u hku hd
              refine wpOp_step rfl fun KK hK => ?_
              go_simp
              exact hK _ _ ⟨_, rfl, Reg.KJ.refl _, fun d hd => by cases hd; exact rfl, fun h => by cases h⟩
            · intro x u hku hd
              have h49 : x 49 = .slice (some ⟨Gb, 0, none⟩) n n := hd 2 (by decide)
              have h50 : x 50 = .int .i64 (i : Int) := hd 3 (by decide)
              refine wpOp_step rfl fun KK hK => ?_
              simp only [h49, h50] at hK ⊢
              go_simp
              exact hK _ _ ⟨_, rfl, Reg.KJ.refl _, fun d hd => by cases hd; exact rfl, fun h => by cases h⟩
            · intro x u hku hd
              have h51 : x 51 = .pointer (some ⟨Gb, O, none⟩) := hd 4 (by decide)
              refine wpOp_step rfl fun KK hK => ?_
              refine Reg.step_load_mid (by rfl) 54 (.tmp 51) (by rfl) Gb O (by exact h51) (RB i).l (by rw [HOO.out]; exact ((HV.out.on hku.below).rb.at0 hlt).2) _ Try.underlying54 rfl (by rw [size_row, (RB i).l_len]) ?_
              exact hK _ _ ⟨_, rfl, Reg.KJ.refl _, fun d hd => by cases hd; exact rfl, fun h => by cases h⟩
            · intro x u hku hd
              have h47 : x 47 = .agg (roL true (plC qc) xA n xp).toArray := hd 0 (by decide)
              have h52 : x 52 = .agg (RB i).l.toArray := hd 5 (by decide)
              refine wpOp_step rfl fun KK hK => ?_
              simp only [h47, h52] at hK ⊢
              go_simp
              (with_reducible refine (HSM.out u hku.below (by first | (simp; done) | omega | (simp; omega))).mono ?_)
              rintro e u' ⟨rfl, hb'⟩
              exact hK _ _ ⟨_, rfl, Reg.KJ.grow (by simp) hku.size hb', fun d hd => by cases hd; exact rfl, fun h => by cases h⟩
            · intro x u hku hd
              have h53 : x 53 = .bool true := hd 6 (by decide)
              refine wpOp_step rfl fun KK hK => ?_
              simp only [h53] at hK ⊢
              go_simp
              exact hK _ _ ⟨_, rfl, Reg.KJ.refl _, fun d hd => by cases hd; exact rfl, fun h => by cases h⟩
            · intro x u hku hd
              have h54 : x 54 = .bool false := hd 7 (by decide)
              refine wpOp_step rfl fun KK hK => ?_
              simp only [h54] at hK ⊢
              go_simp
              exact hK _ _ ⟨_, rfl, Reg.KJ.refl _, fun d hd => by cases hd; exact rfl, fun h => by cases h⟩
            · intro x u hku hd
              have h55 : x 55 = .bool false := hd 8 (by decide)
              refine wpOp_step rfl fun KK hK => ?_
              simp only [h55] at hK ⊢
              go_simp
              exact hK _ _ ⟨_, rfl, Reg.KJ.refl _, fun d hd => by cases hd; exact rfl, fun h => by cases h⟩
            · intro x u hku hd
              have h56 : x 56 = .pointer (some ⟨g9, 0, none⟩) := hd 9 (by decide)
              have h55 : x 55 = .bool false := hd 8 (by decide)
              have cu : u.cell? ⟨g9, 0, none⟩ = some (.bool true) := ((hku.blk (by simp) H9.out).pin.cell0 (by rw [roL_len]; decide)).trans rfl
              have lu := (hku.blk (by simp) H9.out).lt
              refine wpOp_step rfl fun KK hK => ?_
              simp only [h56, h55] at hK ⊢
              go_simp
              exact hK _ _ ⟨_, rfl, Reg.KJ.refl _, fun d hd => by cases hd; exact rfl, fun h => by cases h⟩
            · intro x u hku hd
              have h55 : x 55 = .bool false := hd 8 (by decide)
              refine wpOp_step rfl fun KK hK => ?_
              simp only [h55] at hK ⊢
              go_simp
              exact hK _ _ ⟨_, rfl, Reg.KJ.refl _, fun d hd => by cases hd; exact rfl, fun h => by cases h⟩
            · intro x u hku hd
              have h55 : x 55 = .bool false := hd 8 (by decide)
              refine wpOp_step rfl fun KK hK => ?_
              simp only [h55] at hK ⊢
              go_simp
              exact hK _ _ ⟨_, rfl, Reg.KJ.refl _, fun d hd => by cases hd; exact rfl, fun h => by cases h⟩
            · intro x u hku hd
              have h59 : x 59 = .pointer (some ⟨w.heap.size, 0, none⟩) := hd 12 (by decide)
              have h55 : x 55 = .bool false := hd 8 (by decide)
              have cu := (HV.out.on hku.below).x.cell 0
              have lu := (HV.out.on hku.below).x.lt
              simp only [List.getElem?_toArray, List.getElem?_cons_zero] at cu
              refine wpOp_step rfl fun KK hK => ?_
              simp only [h59, h55] at hK ⊢
              go_simp
              exact hK _ _ ⟨_, rfl, Reg.KJ.refl _, fun d hd => by cases hd; exact rfl, fun h => by cases h⟩
            · intro x u hku hd
              have h60 : x 60 = .slice (some ⟨ba, oa, none⟩) m c := hd 13 (by decide)
              have h55 : x 55 = .bool false := hd 8 (by decide)
              refine wpOp_step rfl fun KK hK => ?_
              simp only [h60, h55] at hK ⊢
              go_simp
              exact hK _ _ ⟨_, rfl, Reg.KJ.refl _, fun d hd => by cases hd; exact rfl, fun h => by cases h⟩
            · intro x u hku hd
              have h58 : x 58 = .int .i64 (i : Int) := hd 11 (by decide)
              have h61 : x 61 = .int .i64 (m : Int) := hd 14 (by decide)
              have h55 : x 55 = .bool false := hd 8 (by decide)
              refine wpOp_step rfl fun KK hK => ?_
              simp only [h58, h61, h55] at hK ⊢
              go_simp
              exact hK _ _ ⟨_, rfl, Reg.KJ.refl _, fun d hd => by cases hd; exact rfl, fun h => by cases h⟩
            · intro x u hku hd
              have h62 : x 62 = .bool true := hd 15 (by decide)
              have h55 : x 55 = .bool false := hd 8 (by decide)
              refine wpOp_step rfl fun KK hK => ?_
              simp only [h62, h55] at hK ⊢
              go_simp
              exact hK _ _ ⟨_, rfl, Reg.KJ.refl _, fun d hd => by cases hd; exact rfl, fun h => by cases h⟩
            · intro x u hku hd
              have h63 : x 63 = .bool true := hd 16 (by decide)
              refine wpOp_step rfl fun KK hK => ?_
              simp only [h63] at hK ⊢
              go_simp
              exact hK _ _ ⟨_, rfl, Reg.KJ.refl _, fun d hd => by cases hd; exact rfl, fun h => by cases h⟩
            · intro x u hku hd
              have h64 : x 64 = .pointer (some ⟨w.heap.size, 0, none⟩) := hd 17 (by decide)
              have h63 : x 63 = .bool true := hd 16 (by decide)
              have cu := (HV.out.on hku.below).x.cell 0
              have lu := (HV.out.on hku.below).x.lt
              simp only [List.getElem?_toArray, List.getElem?_cons_zero] at cu
              refine wpOp_step rfl fun KK hK => ?_
              simp only [h64, h63] at hK ⊢
              go_simp
              exact hK _ _ ⟨_, rfl, Reg.KJ.refl _, fun d hd => by cases hd; exact rfl, fun h => by cases h⟩
            · intro x u hku hd
              have h63 : x 63 = .bool true := hd 16 (by decide)
              refine wpOp_step rfl fun KK hK => ?_
              simp only [h63] at hK ⊢
              go_simp
              exact hK _ _ ⟨_, rfl, Reg.KJ.refl _, fun d hd => by cases hd; exact rfl, fun h => by cases h⟩
            · intro x u hku hd
              have h65 : x 65 = .slice (some ⟨ba, oa, none⟩) m c := hd 18 (by decide)
              have h66 : x 66 = .int .i64 (i : Int) := hd 19 (by decide)
              have h63 : x 63 = .bool true := hd 16 (by decide)
              refine wpOp_step rfl fun KK hK => ?_
              simp only [h65, h66, h63] at hK ⊢
              go_simp
              exact hK _ _ ⟨_, rfl, Reg.KJ.refl _, fun d hd => by cases hd; exact rfl, fun h => by cases h⟩
            · intro x u hku hd
              have h67 : x 67 = .pointer (some ⟨ba, P, none⟩) := hd 20 (by decide)
              have h63 : x 63 = .bool true := hd 16 (by decide)
              refine wpOp_step rfl fun KK hK => ?_
              simp only [h67, h63] at hK ⊢
              go_simp
              exact hK _ _ ⟨_, rfl, Reg.KJ.refl _, fun d hd => by cases hd; exact rfl, fun h => by cases h⟩
            · intro x u hku hd
              have h68 : x 68 = .pointer (some ⟨ba, P, none⟩) := hd 21 (by decide)
              have h63 : x 63 = .bool true := hd 16 (by decide)
              have cu : u.cell? ⟨ba, P, none⟩ = some (.bool true) := (hku.below.cell (p := ⟨ba, P, none⟩) HBA.out).trans HR0.out
              have lu : ba < u.heap.size := Nat.lt_of_lt_of_le HBA.out hku.size
              refine wpOp_step rfl fun KK hK => ?_
              simp only [h68, h63] at hK ⊢
              go_simp
              exact hK _ _ ⟨_, rfl, Reg.KJ.refl _, fun d hd => by cases hd; exact rfl, fun h => by cases h⟩
            · intro x u hku hd
              have h63 : x 63 = .bool true := hd 16 (by decide)
              have h69 : x 69 = .bool true := hd 22 (by decide)
              have h55 : x 55 = .bool false := hd 8 (by decide)
              refine wpOp_step rfl fun KK hK => ?_
              simp only [h63, h69, h55] at hK ⊢
              go_simp
              exact hK _ _ ⟨_, rfl, Reg.KJ.refl _, fun d hd => by cases hd; exact rfl, fun h => by cases h⟩
            · intro x u hku hd
              have h57 : x 57 = .bool true := hd 10 (by decide)
              have h70 : x 70 = .bool true := hd 23 (by decide)
              have h55 : x 55 = .bool false := hd 8 (by decide)
              refine wpOp_step rfl fun KK hK => ?_
              simp only [h57, h70, h55] at hK ⊢
              go_simp
              exact hK _ _ ⟨_, rfl, Reg.KJ.refl _, fun d hd => by cases hd; exact rfl, fun h => by cases h⟩
            · intro x u hku hd
              have h55 : x 55 = .bool false := hd 8 (by decide)
              have h71 : x 71 = .bool false := hd 24 (by decide)
              refine wpOp_step rfl fun KK hK => ?_
              simp only [h55, h71] at hK ⊢
              go_simp
              exact hK _ _ ⟨_, rfl, Reg.KJ.refl _, fun d hd => by cases hd; exact rfl, fun h => by cases h⟩
          · intro x u hku hd
            have e72 : x 72 = .bool false := hd 25 (by decide)
            have e57 : x 57 = .bool true := hd 10 (by decide)
            have h9u := hku.blk (by simp) H9.out
            have c90 : u.cell? ⟨g9, 0, none⟩ = some (.bool true) := (h9u.pin.cell0 (by rw [roL_len]; decide)).trans rfl
            have l9 := h9u.lt
            have HZ : Hid (IN w (some ⟨ba, oa, none⟩) m c n ga gb Ga Gb R RA RB g9 ba P qc xA qA xp qn qp qT u) := Lib.hid ⟨HV.out.on hku.below, h9u, fun j v hv => (hku.below.cell (p := ⟨ba, _, none⟩) HBA.out).trans (HRC.out j v hv), Nat.lt_of_lt_of_le HBA.out hku.size, HXT'.out.on hku.below, HTQ'.out.on hku.below⟩
            clear h9u
            simp only [Reg.frame, Reg.over, Nat.reduceAdd, Nat.reduceLeDiff, decide_true, decide_false, if_true, Bool.false_eq_true, if_false, Bool.and_true, Bool.and_false, e72, e57]
            go_upto_region 17 with fail
            refine wp_at (IN w (some ⟨ba, oa, none⟩) m c n ga gb Ga Gb R RA RB g9 ba P qc xA qA xp qn qp qT) HZ.out ?_
            clear HZ HV H9 HR0 HRC HTQ' HXT' HSM c90 l9 hku hd e72 e57
            rintro Z z1
            have HN := Lib.hid z1
            clear z1
            have HFP : Hid (∀ u, Calls Try.prog 30 #[.agg (ceL (plC qc)).toArray] u fun e w' => e = .returned (.bool true) ∧ Below u.heap.size u w') := Lib.hid (fun u => by have := fine_is (plC qc) u; rw [fiC_pl] at this; exact this)
            obtain ⟨F, hF⟩ : ∃ F, F = fiC qc := ⟨_, rfl⟩
            have hfq := fun u => fine_is qc u
            rw [← hF] at hfq
            have HFQ := Lib.hid hfq
            have HNE : Hid (F = true → ∀ W, (binOp .neq 51 (.agg (ceL (plC qc)).toArray) (.agg (ceL qc).toArray)).run Try.prog W = .ok (.bool false) W) := Lib.hid (fun h W => by rw [cell_neq, fiC_id (hF.symm.trans h), ceE_refl]; rfl)
            clear hfq hF
            go_wp2_with fail
            refine Reg.wp_slots2 (fun t => decide (86 ≤ t) && decide (t ≤ 116)) (Reg.KJ Z.heap.size [] []) (Reg.KJ.drew _ (by simp)) Reg.KJ.trans (by kernel_rfl) (by kernel_rfl) (by kernel_rfl) (fun zz => (Reg.tblK [
              (86, .is (.pointer (some ⟨g9, 56, none⟩))),
              (87, .is (.slice xA n xp)),
              (88, .is (.int .i64 (n : Int))),
              (89, .is (.int .i64 (n : Int))),
              (90, .is (.bool false)),
              (91, .is (.bool false)),
              (92, .is (.pointer (some ⟨g9, 1, none⟩))),
              (93, .is (.agg (ceL (plC qc)).toArray)),
              (94, .is (.bool true)),
              (95, .is (.bool false)),
              (96, .is (.bool false)),
              (97, .is (.bool false)),
              (98, .is (.pointer (some ⟨w.heap.size, 0, none⟩))),
              (99, .is (.slice (some ⟨ba, oa, none⟩) m c)),
              (100, .is (.int .i64 (i : Int))),
              (101, .is (.pointer (some ⟨ba, P, none⟩))),
              (102, .is (.pointer (some ⟨ba, P + 1, none⟩))),
              (103, .is (.agg (ceL qc).toArray)),
              (104, .is (.bool F)),
              (105, .is (.bool F)),
              (106, .is (if F = true then .pointer (some ⟨g9, 1, none⟩) else undef)),
              (107, .is (if F = true then .agg (ceL (plC qc)).toArray else undef)),
              (108, .is (if F = true then .pointer (some ⟨w.heap.size, 0, none⟩) else undef)),
              (109, .is (if F = true then .slice (some ⟨ba, oa, none⟩) m c else undef)),
              (110, .is (if F = true then .int .i64 (i : Int) else undef)),
              (111, .is (if F = true then .pointer (some ⟨ba, P, none⟩) else undef)),
              (112, .is (if F = true then .pointer (some ⟨ba, P + 1, none⟩) else undef)),
              (113, .is (if F = true then .agg (ceL qc).toArray else undef)),
              (114, .is (if F = true then .bool false else undef)),
              (115, .is (.bool false)),
              (116, .is (.bool false))] zz).P) (fun zz => (Reg.tblK _ zz).on) (fun zz => (Reg.memK [] zz).P) (fun zz => (Reg.memK _ zz).on) ?_ ?_
            · simp only [Reg.frame, Reg.over, Nat.reduceAdd, Nat.reduceLeDiff, decide_true, decide_false, if_true, Bool.false_eq_true, if_false, Bool.and_true, Bool.and_false]
              refine ⟨?_, ?_, ?_, ?_, ?_, ?_, ?_, ?_, ?_, ?_, ?_, ?_, ?_, ?_, ?_, ?_, ?_, ?_, ?_, ?_, ?_, ?_, ?_, ?_, ?_, ?_, ?_, ?_, ?_, ?_, ?_, trivial⟩
              · intro x u hku hd
                refine wpOp_step rfl fun KK hK => ?_
                go_simp
                exact hK _ _ ⟨_, rfl, Reg.KJ.refl _, fun d hd => by cases hd; exact rfl, fun h => by cases h⟩
              · intro x u hku hd
                have h86 : x 86 = .pointer (some ⟨g9, 56, none⟩) := hd 0 (by decide)
                have cu := (HN.out.on hku.below).b9.rowTab
                have lu := (HN.out.on hku.below).b9.lt
                refine wpOp_step rfl fun KK hK => ?_
                simp only [h86] at hK ⊢
                go_simp
                exact hK _ _ ⟨_, rfl, Reg.KJ.refl _, fun d hd => by cases hd; exact rfl, fun h => by cases h⟩
              · intro x u hku hd
                have h87 : x 87 = .slice xA n xp := hd 1 (by decide)
                refine wpOp_step rfl fun KK hK => ?_
                simp only [h87] at hK ⊢
                go_simp
                exact hK _ _ ⟨_, rfl, Reg.KJ.refl _, fun d hd => by cases hd; exact rfl, fun h => by cases h⟩
              · intro x u hku hd
                refine wpOp_step rfl fun KK hK => ?_
                go_simp
                exact hK _ _ ⟨_, rfl, Reg.KJ.refl _, fun d hd => by cases hd; exact rfl, fun h => by cases h⟩
              · intro x u hku hd
                have h88 : x 88 = .int .i64 (n : Int) := hd 2 (by decide)
                have h89 : x 89 = .int .i64 (n : Int) := hd 3 (by decide)
                refine wpOp_step rfl fun KK hK => ?_
                simp only [h88, h89] at hK ⊢
                go_simp
                exact hK _ _ ⟨_, rfl, Reg.KJ.refl _, fun d hd => by cases hd; exact rfl, fun h => by cases h⟩
              · intro x u hku hd
                have h90 : x 90 = .bool false := hd 4 (by decide)
                refine wpOp_step rfl fun KK hK => ?_
                simp only [h90] at hK ⊢
                go_simp
                exact hK _ _ ⟨_, rfl, Reg.KJ.refl _, fun d hd => by cases hd; exact rfl, fun h => by cases h⟩
              · intro x u hku hd
                have h91 : x 91 = .bool false := hd 5 (by decide)
                refine wpOp_step rfl fun KK hK => ?_
                simp only [h91] at hK ⊢
                go_simp
                exact hK _ _ ⟨_, rfl, Reg.KJ.refl _, fun d hd => by cases hd; exact rfl, fun h => by cases h⟩
              · intro x u hku hd
                have h92 : x 92 = .pointer (some ⟨g9, 1, none⟩) := hd 6 (by decide)
                have h91 : x 91 = .bool false := hd 5 (by decide)
                refine wpOp_step rfl fun KK hK => ?_
                refine Reg.step_load_want (by simp only [h91]; kernel_rfl) 51 (.tmp 92) (by rfl) g9 1 (by exact h92) (ceL (plC qc)) (HN.out.on hku.below).b9.rowCell _ Try.underlying51 rfl (by rw [size_ce, ceL_len]) ?_
                exact hK _ _ ⟨_, rfl, Reg.KJ.refl _, fun d hd => by cases hd; exact rfl, fun h => by cases h⟩
              · intro x u hku hd
                have h93 : x 93 = .agg (ceL (plC qc)).toArray := hd 7 (by decide)
                have h91 : x 91 = .bool false := hd 5 (by decide)
                refine wpOp_step rfl fun KK hK => ?_
                simp only [h93, h91] at hK ⊢
                go_simp
                (with_reducible refine (HFP.out _).mono ?_)
                rintro e u' ⟨rfl, hb'⟩
                exact hK _ _ ⟨_, rfl, Reg.KJ.grow (by simp) hku.size hb', fun d hd => by cases hd; exact rfl, fun h => by cases h⟩
              · intro x u hku hd
                have h94 : x 94 = .bool true := hd 8 (by decide)
                have h91 : x 91 = .bool false := hd 5 (by decide)
                refine wpOp_step rfl fun KK hK => ?_
                simp only [h94, h91] at hK ⊢
                go_simp
                exact hK _ _ ⟨_, rfl, Reg.KJ.refl _, fun d hd => by cases hd; exact rfl, fun h => by cases h⟩
              · intro x u hku hd
                have h91 : x 91 = .bool false := hd 5 (by decide)
                have h95 : x 95 = .bool false := hd 9 (by decide)
                refine wpOp_step rfl fun KK hK => ?_
                simp only [h91, h95] at hK ⊢
                go_simp
                exact hK _ _ ⟨_, rfl, Reg.KJ.refl _, fun d hd => by cases hd; exact rfl, fun h => by cases h⟩
              · intro x u hku hd
                have h96 : x 96 = .bool false := hd 10 (by decide)
                refine wpOp_step rfl fun KK hK => ?_
                simp only [h96] at hK ⊢
                go_simp
                exact hK _ _ ⟨_, rfl, Reg.KJ.refl _, fun d hd => by cases hd; exact rfl, fun h => by cases h⟩
              · intro x u hku hd
                have h97 : x 97 = .bool false := hd 11 (by decide)
                refine wpOp_step rfl fun KK hK => ?_
                simp only [h97] at hK ⊢
                go_simp
                exact hK _ _ ⟨_, rfl, Reg.KJ.refl _, fun d hd => by cases hd; exact rfl, fun h => by cases h⟩
              · intro x u hku hd
                have h98 : x 98 = .pointer (some ⟨w.heap.size, 0, none⟩) := hd 12 (by decide)
                have h97 : x 97 = .bool false := hd 11 (by decide)
                have cu := (HN.out.on hku.below).l.x.cell 0
                have lu := (HN.out.on hku.below).l.x.lt
                simp only [List.getElem?_toArray, List.getElem?_cons_zero] at cu
                refine wpOp_step rfl fun KK hK => ?_
                simp only [h98, h97] at hK ⊢
                go_simp
                exact hK _ _ ⟨_, rfl, Reg.KJ.refl _, fun d hd => by cases hd; exact rfl, fun h => by cases h⟩
              · intro x u hku hd
                have h97 : x 97 = .bool false := hd 11 (by decide)
                refine wpOp_step rfl fun KK hK => ?_
                simp only [h97] at hK ⊢
                go_simp
                exact hK _ _ ⟨_, rfl, Reg.KJ.refl _, fun d hd => by cases hd; exact rfl, fun h => by cases h⟩
              · intro x u hku hd
                have h99 : x 99 = .slice (some ⟨ba, oa, none⟩) m c := hd 13 (by decide)
                have h100 : x 100 = .int .i64 (i : Int) := hd 14 (by decide)
                have h97 : x 97 = .bool false := hd 11 (by decide)
                refine wpOp_step rfl fun KK hK => ?_
                simp only [h99, h100, h97] at hK ⊢
                go_simp
                exact hK _ _ ⟨_, rfl, Reg.KJ.refl _, fun d hd => by cases hd; exact rfl, fun h => by cases h⟩
              · intro x u hku hd
                have h101 : x 101 = .pointer (some ⟨ba, P, none⟩) := hd 15 (by decide)
                have h97 : x 97 = .bool false := hd 11 (by decide)
                refine wpOp_step rfl fun KK hK => ?_
                simp only [h101, h97] at hK ⊢
                go_simp
                exact hK _ _ ⟨_, rfl, Reg.KJ.refl _, fun d hd => by cases hd; exact rfl, fun h => by cases h⟩
              · intro x u hku hd
                have h102 : x 102 = .pointer (some ⟨ba, P + 1, none⟩) := hd 16 (by decide)
                have h97 : x 97 = .bool false := hd 11 (by decide)
                refine wpOp_step rfl fun KK hK => ?_
                refine Reg.step_load_want (by simp only [h97]; kernel_rfl) 51 (.tmp 102) (by rfl) ba (P + 1) (by exact h102) (ceL qc) (ro_rangeC (HN.out.on hku.below).rq) _ Try.underlying51 rfl (by rw [size_ce, ceL_len]) ?_
                exact hK _ _ ⟨_, rfl, Reg.KJ.refl _, fun d hd => by cases hd; exact rfl, fun h => by cases h⟩
              · intro x u hku hd
                have h103 : x 103 = .agg (ceL qc).toArray := hd 17 (by decide)
                have h97 : x 97 = .bool false := hd 11 (by decide)
                refine wpOp_step rfl fun KK hK => ?_
                simp only [h103, h97] at hK ⊢
                go_simp
                (with_reducible refine (HFQ.out _).mono ?_)
                rintro e u' ⟨rfl, hb'⟩
                exact hK _ _ ⟨_, rfl, Reg.KJ.grow (by simp) hku.size hb', fun d hd => by cases hd; exact rfl, fun h => by cases h⟩
              · intro x u hku hd
                have h104 : x 104 = .bool F := hd 18 (by decide)
                have h97 : x 97 = .bool false := hd 11 (by decide)
                refine wpOp_step rfl fun KK hK => ?_
                simp only [h104, h97] at hK ⊢
                go_simp
                exact hK _ _ ⟨_, rfl, Reg.KJ.refl _, fun d hd => by cases hd; exact rfl, fun h => by cases h⟩
              · cases F
                · intro x u hku hd
                  have h105 : x 105 = .bool false := hd 19 (by decide)
                  refine wpOp_step rfl fun KK hK => ?_
                  simp only [h105] at hK ⊢
                  go_simp
                  exact hK _ _ ⟨_, rfl, Reg.KJ.refl _, fun d hd => by cases hd; exact rfl, fun h => by cases h⟩
                · intro x u hku hd
                  have h105 : x 105 = .bool true := hd 19 (by decide)
                  refine wpOp_step rfl fun KK hK => ?_
                  simp only [h105] at hK ⊢
                  go_simp
                  exact hK _ _ ⟨_, rfl, Reg.KJ.refl _, fun d hd => by cases hd; exact rfl, fun h => by cases h⟩
              · cases F
                · intro x u hku hd
                  have h106 : x 106 = undef := hd 20 (by decide)
                  have h105 : x 105 = .bool false := hd 19 (by decide)
                  refine wpOp_step rfl fun KK hK => ?_
                  simp only [h106, h105] at hK ⊢
                  go_simp
                  exact hK _ _ ⟨_, rfl, Reg.KJ.refl _, fun d hd => by cases hd; exact rfl, fun h => by cases h⟩
                · intro x u hku hd
                  have h106 : x 106 = .pointer (some ⟨g9, 1, none⟩) := hd 20 (by decide)
                  have h105 : x 105 = .bool true := hd 19 (by decide)
                  refine wpOp_step rfl fun KK hK => ?_
                  refine Reg.step_load_want (by simp only [h105]; kernel_rfl) 51 (.tmp 106) (by rfl) g9 1 (by exact h106) (ceL (plC qc)) (HN.out.on hku.below).b9.rowCell _ Try.underlying51 rfl (by rw [size_ce, ceL_len]) ?_
                  exact hK _ _ ⟨_, rfl, Reg.KJ.refl _, fun d hd => by cases hd; exact rfl, fun h => by cases h⟩
              · cases F
                · intro x u hku hd
                  have h105 : x 105 = .bool false := hd 19 (by decide)
                  refine wpOp_step rfl fun KK hK => ?_
                  simp only [h105] at hK ⊢
                  go_simp
                  exact hK _ _ ⟨_, rfl, Reg.KJ.refl _, fun d hd => by cases hd; exact rfl, fun h => by cases h⟩
                · intro x u hku hd
                  have h105 : x 105 = .bool true := hd 19 (by decide)
                  refine wpOp_step rfl fun KK hK => ?_
                  simp only [h105] at hK ⊢
                  go_simp
                  exact hK _ _ ⟨_, rfl, Reg.KJ.refl _, fun d hd => by cases hd; exact rfl, fun h => by cases h⟩
              · cases F
                · intro x u hku hd
                  have h108 : x 108 = undef := hd 22 (by decide)
                  have h105 : x 105 = .bool false := hd 19 (by decide)
                  refine wpOp_step rfl fun KK hK => ?_
                  simp only [h108, h105] at hK ⊢
                  go_simp
                  exact hK _ _ ⟨_, rfl, Reg.KJ.refl _, fun d hd => by cases hd; exact rfl, fun h => by cases h⟩
                · intro x u hku hd
                  have h108 : x 108 = .pointer (some ⟨w.heap.size, 0, none⟩) := hd 22 (by decide)
                  have h105 : x 105 = .bool true := hd 19 (by decide)
                  have cu := (HN.out.on hku.below).l.x.cell 0
                  have lu := (HN.out.on hku.below).l.x.lt
                  simp only [List.getElem?_toArray, List.getElem?_cons_zero] at cu
                  refine wpOp_step rfl fun KK hK => ?_
                  simp only [h108, h105] at hK ⊢
                  go_simp
                  exact hK _ _ ⟨_, rfl, Reg.KJ.refl _, fun d hd => by cases hd; exact rfl, fun h => by cases h⟩
              · cases F
                · intro x u hku hd
                  have h105 : x 105 = .bool false := hd 19 (by decide)
                  refine wpOp_step rfl fun KK hK => ?_
                  simp only [h105] at hK ⊢
                  go_simp
                  exact hK _ _ ⟨_, rfl, Reg.KJ.refl _, fun d hd => by cases hd; exact rfl, fun h => by cases h⟩
                · intro x u hku hd
                  have h105 : x 105 = .bool true := hd 19 (by decide)
                  refine wpOp_step rfl fun KK hK => ?_
                  simp only [h105] at hK ⊢
                  go_simp
                  exact hK _ _ ⟨_, rfl, Reg.KJ.refl _, fun d hd => by cases hd; exact rfl, fun h => by cases h⟩
              · cases F
                · intro x u hku hd
                  have h109 : x 109 = undef := hd 23 (by decide)
                  have h110 : x 110 = undef := hd 24 (by decide)
                  have h105 : x 105 = .bool false := hd 19 (by decide)
                  refine wpOp_step rfl fun KK hK => ?_
                  simp only [h109, h110, h105] at hK ⊢
                  go_simp
                  exact hK _ _ ⟨_, rfl, Reg.KJ.refl _, fun d hd => by cases hd; exact rfl, fun h => by cases h⟩
                · intro x u hku hd
                  have h109 : x 109 = .slice (some ⟨ba, oa, none⟩) m c := hd 23 (by decide)
                  have h110 : x 110 = .int .i64 (i : Int) := hd 24 (by decide)
                  have h105 : x 105 = .bool true := hd 19 (by decide)
                  refine wpOp_step rfl fun KK hK => ?_
                  simp only [h109, h110, h105] at hK ⊢
                  go_simp
                  exact hK _ _ ⟨_, rfl, Reg.KJ.refl _, fun d hd => by cases hd; exact rfl, fun h => by cases h⟩
              · cases F
                · intro x u hku hd
                  have h111 : x 111 = undef := hd 25 (by decide)
                  have h105 : x 105 = .bool false := hd 19 (by decide)
                  refine wpOp_step rfl fun KK hK => ?_
                  simp only [h111, h105] at hK ⊢
                  go_simp
                  exact hK _ _ ⟨_, rfl, Reg.KJ.refl _, fun d hd => by cases hd; exact rfl, fun h => by cases h⟩
                · intro x u hku hd
                  have h111 : x 111 = .pointer (some ⟨ba, P, none⟩) := hd 25 (by decide)
                  have h105 : x 105 = .bool true := hd 19 (by decide)
                  refine wpOp_step rfl fun KK hK => ?_
                  simp only [h111, h105] at hK ⊢
                  go_simp
                  exact hK _ _ ⟨_, rfl, Reg.KJ.refl _, fun d hd => by cases hd; exact rfl, fun h => by cases h⟩
              · cases F
                · intro x u hku hd
                  have h112 : x 112 = undef := hd 26 (by decide)
                  have h105 : x 105 = .bool false := hd 19 (by decide)
                  refine wpOp_step rfl fun KK hK => ?_
                  simp only [h112, h105] at hK ⊢
                  go_simp
                  exact hK _ _ ⟨_, rfl, Reg.KJ.refl _, fun d hd => by cases hd; exact rfl, fun h => by cases h⟩
                · intro x u hku hd
                  have h112 : x 112 = .pointer (some ⟨ba, P + 1, none⟩) := hd 26 (by decide)
                  have h105 : x 105 = .bool true := hd 19 (by decide)
                  refine wpOp_step rfl fun KK hK => ?_
                  refine Reg.step_load_want (by simp only [h105]; kernel_rfl) 51 (.tmp 112) (by rfl) ba (P + 1) (by exact h112) (ceL qc) (ro_rangeC (HN.out.on hku.below).rq) _ Try.underlying51 rfl (by rw [size_ce, ceL_len]) ?_
                  exact hK _ _ ⟨_, rfl, Reg.KJ.refl _, fun d hd => by cases hd; exact rfl, fun h => by cases h⟩
              · cases F
                · intro x u hku hd
                  have h107 : x 107 = undef := hd 21 (by decide)
                  have h113 : x 113 = undef := hd 27 (by decide)
                  have h105 : x 105 = .bool false := hd 19 (by decide)
                  refine wpOp_step rfl fun KK hK => ?_
                  simp only [h107, h113, h105] at hK ⊢
                  go_simp
                  exact hK _ _ ⟨_, rfl, Reg.KJ.refl _, fun d hd => by cases hd; exact rfl, fun h => by cases h⟩
                · have hne := fun W => HNE.out rfl W
                  intro x u hku hd
                  have h107 : x 107 = .agg (ceL (plC qc)).toArray := hd 21 (by decide)
                  have h113 : x 113 = .agg (ceL qc).toArray := hd 27 (by decide)
                  have h105 : x 105 = .bool true := hd 19 (by decide)
                  refine wpOp_step rfl fun KK hK => ?_
                  simp only [h107, h113, h105] at hK ⊢
                  go_simp
                  exact hK _ _ ⟨_, rfl, Reg.KJ.refl _, fun d hd => by cases hd; exact rfl, fun h => by cases h⟩
              · cases F
                · intro x u hku hd
                  have h105 : x 105 = .bool false := hd 19 (by decide)
                  have h114 : x 114 = undef := hd 28 (by decide)
                  have h97 : x 97 = .bool false := hd 11 (by decide)
                  refine wpOp_step rfl fun KK hK => ?_
                  simp only [h105, h114, h97] at hK ⊢
                  go_simp
                  exact hK _ _ ⟨_, rfl, Reg.KJ.refl _, fun d hd => by cases hd; exact rfl, fun h => by cases h⟩
                · intro x u hku hd
                  have h105 : x 105 = .bool true := hd 19 (by decide)
                  have h114 : x 114 = .bool false := hd 28 (by decide)
                  have h97 : x 97 = .bool false := hd 11 (by decide)
                  refine wpOp_step rfl fun KK hK => ?_
                  simp only [h105, h114, h97] at hK ⊢
                  go_simp
                  exact hK _ _ ⟨_, rfl, Reg.KJ.refl _, fun d hd => by cases hd; exact rfl, fun h => by cases h⟩
              · intro x u hku hd
                have h97 : x 97 = .bool false := hd 11 (by decide)
                have h115 : x 115 = .bool false := hd 29 (by decide)
                refine wpOp_step rfl fun KK hK => ?_
                simp only [h97, h115] at hK ⊢
                go_simp
                exact hK _ _ ⟨_, rfl, Reg.KJ.refl _, fun d hd => by cases hd; exact rfl, fun h => by cases h⟩
            · intro x2 u2 hku hd
              have e116 : x2 116 = .bool false := hd 30 (by decide)
              have HU2 := Lib.hid (HN.out.on hku.below)
              simp only [Reg.frame, Reg.over, Nat.reduceAdd, Nat.reduceLeDiff, decide_true, decide_false, if_true, Bool.false_eq_true, if_false, Bool.and_true, Bool.and_false, e116]
              clear HN HFP HFQ HNE
              go_wp2_with fail
              go_loopw [10] (fun s wr => ∃ k : Nat, k ≤ n ∧ s = .int .i64 (k : Int) ∧ Hid (IN w (some ⟨ba, oa, none⟩) m c n ga gb Ga Gb R RA RB g9 ba P qc xA qA xp qn qp qT wr)) (fun s _ => n - (intOf s).toNat)
              case atStart => exact ⟨0, by omega, rfl, HU2⟩
              case round =>
                clear HU2
                obtain ⟨k, hk, rfl, HI⟩ := hrel
                by_cases hkn : k < n
                · obtain ⟨bx, ox, rfl, hbx, hrx⟩ := HI.out.tx (by omega)
                  obtain ⟨O4, hO4⟩ : ∃ O4, O4 = ox + k * 56 := ⟨_, rfl⟩
                  have hixh : ∀ W, (Instr.indexAt 52 (.slice (some ⟨bx, ox, none⟩) n xp) (.int .i64 (k : Int))).run Try.prog W = .ok (.pointer (some ⟨bx, O4, none⟩)) W := fun W => by rw [idxHelds (A := some ⟨bx, ox, none⟩) (n := n) xp rfl hkn W, hO4]
                  have hr4 : World.rangeAt wr bx (ox + k * 56) (heL (plH (fitH qT qn k))) := hrx k hkn
                  rw [← hO4] at hr4
                  have HR4 := Lib.hid hr4
                  clear hrx hr4 hbx hO4
                  have c956 : wr.cell? ⟨g9, 56, none⟩ = some (.slice (some ⟨bx, ox, none⟩) n xp) := HI.out.b9.rowTab
                  have l9 := HI.out.b9.lt
                  have HZN : Hid (∀ Z : Array Value, Z.size = 56 → PIn (wr.alloc (.cells Z 69)) wr.heap.size 0 69 [] [] Z.toList ∧ Z.toList.length = 56) := Lib.hid (fun Z hZ => ⟨Blk.pin (by simpa using Blk.new wr 69 Z), by simpa using hZ⟩)
                  go_upto_region 23 with (first
                    | (refine wpList_load_mid rfl 69 (.tmp 125) rfl bx O4 (by simp [Act.eval, Act.put]) (heL (plH (fitH qT qn k))) _ HR4.out Try.underlying69 rfl (by rw [size_he, heL_len]) ?_)
                    | (refine wpList_store_pin rfl 69 (.tmp 11) (.tmp 126) rfl (HZN.out _ rfl).1 (heL (plH (fitH qT qn k))) (by simp [Act.eval, Act.put]) (by simp [Act.eval, Act.put]) 56 size_he (HZN.out _ rfl).2 (heL_len _) (heL_one _) ?_; intro w2' p2 b2; have HP2 := Lib.hid p2; have HB2 := Lib.hid b2; clear p2 b2))
                  refine wp_at (fun Y => IN w (some ⟨ba, oa, none⟩) m c n ga gb Ga Gb R RA RB g9 ba P qc (some ⟨bx, ox, none⟩) qA xp qn qp qT Y ∧ Blk Y wr.heap.size 69 (heL (plH (fitH qT qn k))).toArray) ⟨HI.out.on ((below_al (Below.refl _ wr) _).trans (HB2.out.low (Nat.le_refl _))), HP2.out.blk_⟩ ?_
                  obtain ⟨g11, hg11⟩ : ∃ g11, g11 = wr.heap.size := ⟨_, rfl⟩
                  rw [← hg11]
                  clear HZN HP2 HB2 HR4 HI c956 l9 hg11 hixh
                  rintro Z1 ⟨z1, z2⟩
                  have HI := Lib.hid z1
                  have HP11 := Lib.hid z2
                  clear z1 z2
                  have HBH := Lib.hid built_held0
                  have HZN : Hid (∀ Z : Array Value, Z.size = 56 → PIn (Z1.alloc (.cells Z 69)) Z1.heap.size 0 69 [] [] Z.toList ∧ Z.toList.length = 56) := Lib.hid (fun Z hZ => ⟨Blk.pin (by simpa using Blk.new Z1 69 Z), by simpa using hZ⟩)
                  go_upto_region 24 with (first
                    | (refine wpList_build rfl 69 _ rfl (heL heN).toArray (by simpa [Act.eval, Act.put] using HBH.out) ?_)
                    | (refine wpList_store_pin rfl 69 (.tmp 12) (.tmp 127) rfl (HZN.out _ rfl).1 (heL heN) (by simp [Act.eval, Act.put]) (by simp [Act.eval, Act.put]) 56 size_he (HZN.out _ rfl).2 (heL_len _) (heL_one _) ?_; intro w2' p2 b2; have HP2 := Lib.hid p2; have HB2 := Lib.hid b2; clear p2 b2))
                  refine wp_at (fun Y => PIn Y Z1.heap.size 0 69 [] [] (heL heN) ∧ Below Z1.heap.size Z1 Y) ⟨HP2.out, (below_al (Below.refl _ Z1) _).trans (HB2.out.low (Nat.le_refl _))⟩ ?_
                  clear HZN HP2 HB2 HBH
                  rintro Z2 ⟨z1, z2⟩
                  have HP12 := Lib.hid z1
                  have HBZ := Lib.hid z2
                  have HJ := Lib.hid (HI.out.on z2)
                  clear z1 z2
                  have cx0 : Z2.cell? ⟨w.heap.size, 0, none⟩ = some (.slice (some ⟨ba, oa, none⟩) m c) := HJ.out.l.x.cell 0
                  have lx0 := HJ.out.l.x.lt
                  have cq56 : Z2.cell? ⟨ba, P + 56, none⟩ = some (.slice qA qn qp) := HJ.out.rq 56 _ (ro_tab _ _ _ _ _)
                  have lq0 := HJ.out.lq
                  by_cases hkq : k < qn
                  · obtain ⟨bq, oq, rfl, hbq, hrq⟩ := HJ.out.tq (by omega)
                    obtain ⟨O5, hO5⟩ : ∃ O5, O5 = oq + k * 56 := ⟨_, rfl⟩
                    have hixq : ∀ W, (Instr.indexAt 52 (.slice (some ⟨bq, oq, none⟩) qn qp) (.int .i64 (k : Int))).run Try.prog W = .ok (.pointer (some ⟨bq, O5, none⟩)) W := fun W => by rw [idxHelds (A := some ⟨bq, oq, none⟩) (n := qn) qp rfl hkq W, hO5]
                    have hr5 : Z2.rangeAt bq (oq + k * 56) (heL (qT k)) := hrq k hkq
                    rw [← hO5] at hr5
                    have HR5 := Lib.hid hr5
                    have hfit : fitH qT qn k = qT k := by simp [fitH, hkq]
                    rw [hfit] at HP11
                    clear hrq hr5 hbq hO5 hfit
                    go_upto_region 26 with (first
                      | (refine wpList_load_mid rfl 69 (.tmp 144) rfl bq O5 (by simp [Act.eval, Act.put]) (heL (qT k)) _ HR5.out Try.underlying69 rfl (by rw [size_he, heL_len]) ?_)
                      | (refine wpList_store_pin rfl 69 (.tmp 12) (.tmp 145) rfl HP12.out (heL (qT k)) (by simp [Act.eval, Act.put]) (by simp [Act.eval, Act.put]) 56 size_he (heL_len _) (heL_len _) (heL_one _) ?_; intro w2' p2 b2; have HP2 := Lib.hid p2; have HB2 := Lib.hid b2; clear p2 b2))
                    refine wp_at (fun Y => IN w (some ⟨ba, oa, none⟩) m c n ga gb Ga Gb R RA RB g9 ba P qc (some ⟨bx, ox, none⟩) (some ⟨bq, oq, none⟩) xp qn qp qT Y ∧ Blk Y g11 69 (heL (plH (qT k))).toArray ∧ Blk Y Z1.heap.size 69 (heL (qT k)).toArray) ⟨HI.out.on (HBZ.out.trans (HB2.out.low (Nat.le_refl _))), HP11.out.on (HBZ.out.trans (HB2.out.low (Nat.le_refl _))), HP2.out.blk_⟩ ?_
                    obtain ⟨g12, hg12⟩ : ∃ g12, g12 = Z1.heap.size := ⟨_, rfl⟩
                    rw [← hg12]
                    clear HP2 HB2 HP11 HP12 HBZ HI HJ hg12 hixq HR5 cx0 lx0 cq56 lq0
                    rintro Y ⟨y1, y2, y3⟩
                    have HY := Lib.hid y1
                    clear y1
                    generalize qT k = W at y2 y3
                    obtain ⟨wi, wc⟩ := W
                    cases wi
                    · have k11 : Blk Y g11 69 (heL heN).toArray := y2
                      have k12 : Blk Y g12 69 (heL ⟨false, wc⟩).toArray := y3
                      have c11 : Y.cell? ⟨g11, 0, none⟩ = some (.bool false) := (k11.pin.cell0 (by rw [heL_len]; decide)).trans rfl
                      have c12 : Y.cell? ⟨g12, 0, none⟩ = some (.bool false) := (k12.pin.cell0 (by rw [heL_len]; decide)).trans rfl
                      have l11 := k11.lt
                      have l12 := k12.lt
                      have HK11 := Lib.hid k11
                      have HK12 := Lib.hid k12
                      clear k11 k12 y2 y3
                      have hne : ∀ W, (binOp .neq 51 (.agg (ceL ceN).toArray) (.agg (ceL ceN).toArray)).run Try.prog W = .ok (.bool false) W := fun W => by rw [cell_neq, ceE_refl]; rfl
                      have HBC := Lib.hid built_cell0
                      go_wp2_with (first
                        | (refine wpList_load_want 51 (.tmp 166) rfl g11 1 (ceL ceN) HK11.out.heldCell (by simp [Act.eval, Act.put]) (by kernel_rfl) _ Try.underlying51 rfl (by rw [size_ce, ceL_len]) ?_)
                        | (refine wpList_build_want 51 _ rfl (ceL ceN).toArray (by simpa [Act.eval, Act.put] using HBC.out) (by kernel_rfl) ?_))
                      go_roundw
                      case rel => exact ⟨k + 1, by omega, by go_num, HY⟩
                      case measure => simp [intOf]; omega
                    · cases hf : fiC wc
                      · have k11 : Blk Y g11 69 (heL ⟨true, plC wc⟩).toArray := y2
                        have k12 : Blk Y g12 69 (heL ⟨true, wc⟩).toArray := y3
                        have c11 : Y.cell? ⟨g11, 0, none⟩ = some (.bool true) := (k11.pin.cell0 (by rw [heL_len]; decide)).trans rfl
                        have c12 : Y.cell? ⟨g12, 0, none⟩ = some (.bool true) := (k12.pin.cell0 (by rw [heL_len]; decide)).trans rfl
                        have l11 := k11.lt
                        have l12 := k12.lt
                        have HK11 := Lib.hid k11
                        have HK12 := Lib.hid k12
                        clear k11 k12 y2 y3
                        have HF1 : Hid (∀ u, Calls Try.prog 30 #[.agg (ceL (plC wc)).toArray] u fun e w' => e = .returned (.bool true) ∧ Below u.heap.size u w') := Lib.hid (fun u => by have := fine_is (plC wc) u; rw [fiC_pl] at this; exact this)
                        have HF2 : Hid (∀ u, Calls Try.prog 30 #[.agg (ceL wc).toArray] u fun e w' => e = .returned (.bool false) ∧ Below u.heap.size u w') := Lib.hid (fun u => by have := fine_is wc u; rw [hf] at this; exact this)
                        go_wp2_with (first
                          | (refine wpList_load_want 51 (.tmp 155) rfl g11 1 (ceL (plC wc)) HK11.out.heldCell (by simp [Act.eval, Act.put]) (by kernel_rfl) _ Try.underlying51 rfl (by rw [size_ce, ceL_len]) ?_)
                          | (go_at_call 30; (with_reducible refine (HF1.out _).mono ?_); rintro e w5 ⟨rfl, b5⟩; have HB5 := Lib.hid b5; clear b5; have c11' : w5.cell? ⟨g11, 0, none⟩ = some (.bool true) := ((HK11.out.on HB5.out).pin.cell0 (by rw [heL_len]; decide)).trans rfl; have l11' := (HK11.out.on HB5.out).lt)
                          | (refine wpList_load_want 51 (.tmp 176) rfl g12 1 (ceL wc) (HK12.out.on HB5.out).heldCell (by simp [Act.eval, Act.put]) (by kernel_rfl) _ Try.underlying51 rfl (by rw [size_ce, ceL_len]) ?_)
                          | (go_at_call 30; (with_reducible refine (HF2.out _).mono ?_); rintro e w6 ⟨rfl, b6⟩; have HB6 := Lib.hid b6; clear b6))
                        go_roundw
                        case rel => exact ⟨k + 1, by omega, by go_num, Lib.hid ((HY.out.on HB5.out).on HB6.out)⟩
                        case measure => simp [intOf]; omega
                      · have k11 : Blk Y g11 69 (heL ⟨true, plC wc⟩).toArray := y2
                        have k12 : Blk Y g12 69 (heL ⟨true, wc⟩).toArray := y3
                        have c11 : Y.cell? ⟨g11, 0, none⟩ = some (.bool true) := (k11.pin.cell0 (by rw [heL_len]; decide)).trans rfl
                        have c12 : Y.cell? ⟨g12, 0, none⟩ = some (.bool true) := (k12.pin.cell0 (by rw [heL_len]; decide)).trans rfl
                        have l11 := k11.lt
                        have l12 := k12.lt
                        have HK11 := Lib.hid k11
                        have HK12 := Lib.hid k12
                        clear k11 k12 y2 y3
                        have HF1 : Hid (∀ u, Calls Try.prog 30 #[.agg (ceL (plC wc)).toArray] u fun e w' => e = .returned (.bool true) ∧ Below u.heap.size u w') := Lib.hid (fun u => by have := fine_is (plC wc) u; rw [fiC_pl] at this; exact this)
                        have HF2 : Hid (∀ u, Calls Try.prog 30 #[.agg (ceL wc).toArray] u fun e w' => e = .returned (.bool true) ∧ Below u.heap.size u w') := Lib.hid (fun u => by have := fine_is wc u; rw [hf] at this; exact this)
                        have hne : ∀ W, (binOp .neq 69 (.agg (heL ⟨true, plC wc⟩).toArray) (.agg (heL ⟨true, wc⟩).toArray)).run Try.prog W = .ok (.bool false) W := fun W => by rw [held_neq, fiC_id hf, heE_refl]; rfl
                        go_wp2_with (first
                          | (refine wpList_load_want 51 (.tmp 155) rfl g11 1 (ceL (plC wc)) HK11.out.heldCell (by simp [Act.eval, Act.put]) (by kernel_rfl) _ Try.underlying51 rfl (by rw [size_ce, ceL_len]) ?_)
                          | (go_at_call 30; (with_reducible refine (HF1.out _).mono ?_); rintro e w5 ⟨rfl, b5⟩; have HB5 := Lib.hid b5; clear b5; have c11' : w5.cell? ⟨g11, 0, none⟩ = some (.bool true) := ((HK11.out.on HB5.out).pin.cell0 (by rw [heL_len]; decide)).trans rfl; have l11' := (HK11.out.on HB5.out).lt)
                          | (refine wpList_load_want 51 (.tmp 176) rfl g12 1 (ceL wc) (HK12.out.on HB5.out).heldCell (by simp [Act.eval, Act.put]) (by kernel_rfl) _ Try.underlying51 rfl (by rw [size_ce, ceL_len]) ?_)
                          | (go_at_call 30; (with_reducible refine (HF2.out _).mono ?_); rintro e w6 ⟨rfl, b6⟩; have HB6 := Lib.hid b6; clear b6)
                          | (refine wpList_load_want 69 (.tmp 11) rfl g11 0 (heL ⟨true, plC wc⟩) ((HK11.out.on HB5.out).on HB6.out).pin.range (by simp [Act.eval, Act.put]) (by kernel_rfl) _ Try.underlying69 rfl (by rw [size_he, heL_len]) ?_)
                          | (refine wpList_load_want 69 (.tmp 12) rfl g12 0 (heL ⟨true, wc⟩) ((HK12.out.on HB5.out).on HB6.out).pin.range (by simp [Act.eval, Act.put]) (by kernel_rfl) _ Try.underlying69 rfl (by rw [size_he, heL_len]) ?_))
                        go_roundw
                        case rel => exact ⟨k + 1, by omega, by go_num, Lib.hid ((HY.out.on HB5.out).on HB6.out)⟩
                        case measure => simp [intOf]; omega
                  · have hkq' : decide ((k : Int) < qn) = false := by simp; omega
                    have hfit : fitH qT qn k = heN := by simp [fitH, hkq]
                    rw [hfit] at HP11
                    clear hfit
                    go_upto_region 26 with fail
                    refine wp_at (fun Y => IN w (some ⟨ba, oa, none⟩) m c n ga gb Ga Gb R RA RB g9 ba P qc (some ⟨bx, ox, none⟩) qA xp qn qp qT Y ∧ Blk Y g11 69 (heL (plH heN)).toArray ∧ Blk Y Z1.heap.size 69 (heL heN).toArray) ⟨HJ.out, HP11.out.on HBZ.out, HP12.out.blk_⟩ ?_
                    obtain ⟨g12, hg12⟩ : ∃ g12, g12 = Z1.heap.size := ⟨_, rfl⟩
                    rw [← hg12]
                    clear HP11 HP12 HBZ HI HJ hg12 cx0 lx0 cq56 lq0
                    rintro Y ⟨y1, y2, y3⟩
                    have HY := Lib.hid y1
                    clear y1
                    generalize heN = W at y2 y3
                    obtain ⟨wi, wc⟩ := W
                    cases wi
                    · have k11 : Blk Y g11 69 (heL heN).toArray := y2
                      have k12 : Blk Y g12 69 (heL ⟨false, wc⟩).toArray := y3
                      have c11 : Y.cell? ⟨g11, 0, none⟩ = some (.bool false) := (k11.pin.cell0 (by rw [heL_len]; decide)).trans rfl
                      have c12 : Y.cell? ⟨g12, 0, none⟩ = some (.bool false) := (k12.pin.cell0 (by rw [heL_len]; decide)).trans rfl
                      have l11 := k11.lt
                      have l12 := k12.lt
                      have HK11 := Lib.hid k11
                      have HK12 := Lib.hid k12
                      clear k11 k12 y2 y3
                      have hne : ∀ W, (binOp .neq 51 (.agg (ceL ceN).toArray) (.agg (ceL ceN).toArray)).run Try.prog W = .ok (.bool false) W := fun W => by rw [cell_neq, ceE_refl]; rfl
                      have HBC := Lib.hid built_cell0
                      go_wp2_with (first
                        | (refine wpList_load_want 51 (.tmp 166) rfl g11 1 (ceL ceN) HK11.out.heldCell (by simp [Act.eval, Act.put]) (by kernel_rfl) _ Try.underlying51 rfl (by rw [size_ce, ceL_len]) ?_)
                        | (refine wpList_build_want 51 _ rfl (ceL ceN).toArray (by simpa [Act.eval, Act.put] using HBC.out) (by kernel_rfl) ?_))
                      go_roundw
                      case rel => exact ⟨k + 1, by omega, by go_num, HY⟩
                      case measure => simp [intOf]; omega
                    · cases hf : fiC wc
                      · have k11 : Blk Y g11 69 (heL ⟨true, plC wc⟩).toArray := y2
                        have k12 : Blk Y g12 69 (heL ⟨true, wc⟩).toArray := y3
                        have c11 : Y.cell? ⟨g11, 0, none⟩ = some (.bool true) := (k11.pin.cell0 (by rw [heL_len]; decide)).trans rfl
                        have c12 : Y.cell? ⟨g12, 0, none⟩ = some (.bool true) := (k12.pin.cell0 (by rw [heL_len]; decide)).trans rfl
                        have l11 := k11.lt
                        have l12 := k12.lt
                        have HK11 := Lib.hid k11
                        have HK12 := Lib.hid k12
                        clear k11 k12 y2 y3
                        have HF1 : Hid (∀ u, Calls Try.prog 30 #[.agg (ceL (plC wc)).toArray] u fun e w' => e = .returned (.bool true) ∧ Below u.heap.size u w') := Lib.hid (fun u => by have := fine_is (plC wc) u; rw [fiC_pl] at this; exact this)
                        have HF2 : Hid (∀ u, Calls Try.prog 30 #[.agg (ceL wc).toArray] u fun e w' => e = .returned (.bool false) ∧ Below u.heap.size u w') := Lib.hid (fun u => by have := fine_is wc u; rw [hf] at this; exact this)
                        go_wp2_with (first
                          | (refine wpList_load_want 51 (.tmp 155) rfl g11 1 (ceL (plC wc)) HK11.out.heldCell (by simp [Act.eval, Act.put]) (by kernel_rfl) _ Try.underlying51 rfl (by rw [size_ce, ceL_len]) ?_)
                          | (go_at_call 30; (with_reducible refine (HF1.out _).mono ?_); rintro e w5 ⟨rfl, b5⟩; have HB5 := Lib.hid b5; clear b5; have c11' : w5.cell? ⟨g11, 0, none⟩ = some (.bool true) := ((HK11.out.on HB5.out).pin.cell0 (by rw [heL_len]; decide)).trans rfl; have l11' := (HK11.out.on HB5.out).lt)
                          | (refine wpList_load_want 51 (.tmp 176) rfl g12 1 (ceL wc) (HK12.out.on HB5.out).heldCell (by simp [Act.eval, Act.put]) (by kernel_rfl) _ Try.underlying51 rfl (by rw [size_ce, ceL_len]) ?_)
                          | (go_at_call 30; (with_reducible refine (HF2.out _).mono ?_); rintro e w6 ⟨rfl, b6⟩; have HB6 := Lib.hid b6; clear b6))
                        go_roundw
                        case rel => exact ⟨k + 1, by omega, by go_num, Lib.hid ((HY.out.on HB5.out).on HB6.out)⟩
                        case measure => simp [intOf]; omega
                      · have k11 : Blk Y g11 69 (heL ⟨true, plC wc⟩).toArray := y2
                        have k12 : Blk Y g12 69 (heL ⟨true, wc⟩).toArray := y3
                        have c11 : Y.cell? ⟨g11, 0, none⟩ = some (.bool true) := (k11.pin.cell0 (by rw [heL_len]; decide)).trans rfl
                        have c12 : Y.cell? ⟨g12, 0, none⟩ = some (.bool true) := (k12.pin.cell0 (by rw [heL_len]; decide)).trans rfl
                        have l11 := k11.lt
                        have l12 := k12.lt
                        have HK11 := Lib.hid k11
                        have HK12 := Lib.hid k12
                        clear k11 k12 y2 y3
                        have HF1 : Hid (∀ u, Calls Try.prog 30 #[.agg (ceL (plC wc)).toArray] u fun e w' => e = .returned (.bool true) ∧ Below u.heap.size u w') := Lib.hid (fun u => by have := fine_is (plC wc) u; rw [fiC_pl] at this; exact this)
                        have HF2 : Hid (∀ u, Calls Try.prog 30 #[.agg (ceL wc).toArray] u fun e w' => e = .returned (.bool true) ∧ Below u.heap.size u w') := Lib.hid (fun u => by have := fine_is wc u; rw [hf] at this; exact this)
                        have hne : ∀ W, (binOp .neq 69 (.agg (heL ⟨true, plC wc⟩).toArray) (.agg (heL ⟨true, wc⟩).toArray)).run Try.prog W = .ok (.bool false) W := fun W => by rw [held_neq, fiC_id hf, heE_refl]; rfl
                        go_wp2_with (first
                          | (refine wpList_load_want 51 (.tmp 155) rfl g11 1 (ceL (plC wc)) HK11.out.heldCell (by simp [Act.eval, Act.put]) (by kernel_rfl) _ Try.underlying51 rfl (by rw [size_ce, ceL_len]) ?_)
                          | (go_at_call 30; (with_reducible refine (HF1.out _).mono ?_); rintro e w5 ⟨rfl, b5⟩; have HB5 := Lib.hid b5; clear b5; have c11' : w5.cell? ⟨g11, 0, none⟩ = some (.bool true) := ((HK11.out.on HB5.out).pin.cell0 (by rw [heL_len]; decide)).trans rfl; have l11' := (HK11.out.on HB5.out).lt)
                          | (refine wpList_load_want 51 (.tmp 176) rfl g12 1 (ceL wc) (HK12.out.on HB5.out).heldCell (by simp [Act.eval, Act.put]) (by kernel_rfl) _ Try.underlying51 rfl (by rw [size_ce, ceL_len]) ?_)
                          | (go_at_call 30; (with_reducible refine (HF2.out _).mono ?_); rintro e w6 ⟨rfl, b6⟩; have HB6 := Lib.hid b6; clear b6)
                          | (refine wpList_load_want 69 (.tmp 11) rfl g11 0 (heL ⟨true, plC wc⟩) ((HK11.out.on HB5.out).on HB6.out).pin.range (by simp [Act.eval, Act.put]) (by kernel_rfl) _ Try.underlying69 rfl (by rw [size_he, heL_len]) ?_)
                          | (refine wpList_load_want 69 (.tmp 12) rfl g12 0 (heL ⟨true, wc⟩) ((HK12.out.on HB5.out).on HB6.out).pin.range (by simp [Act.eval, Act.put]) (by kernel_rfl) _ Try.underlying69 rfl (by rw [size_he, heL_len]) ?_))
                        go_roundw
                        case rel => exact ⟨k + 1, by omega, by go_num, Lib.hid ((HY.out.on HB5.out).on HB6.out)⟩
                        case measure => simp [intOf]; omega
                · obtain rfl : k = n := by omega
                  have hk' : decide ((k : Int) < k) = false := by simp
                  go_wp2_with fail
                  go_roundw
                  case rel => exact ⟨i + 1, by omega, by go_num, Lib.hid HI.out.l⟩
                  case measure => simp [intOf]; omega
      · have hqi : q = rwN := by rw [hq]; simp [fitF, him]
        subst hqi
        have hxx : (⟨xb, xc, xn, xT⟩ : Ro) = roN := HXQ
        simp only [roN, Ro.mk.injEq] at hxx
        obtain ⟨rfl, rfl, rfl, rfl⟩ := hxx
        have him' : decide ((i : Int) < m) = false := by simp; omega
        have H9 := Lib.hid h9
        clear h9 HXT HXQ hq
        go_wp2_with fail
        refine Reg.wp_slots2 (fun t => decide (47 ≤ t) && decide (t ≤ 72)) (Reg.KJ V.heap.size [] []) (Reg.KJ.drew _ (by simp)) Reg.KJ.trans (by kernel_rfl) (by kernel_rfl) (by kernel_rfl) (fun zz => (Reg.tblK [
          (47, .is (.agg (roL false ceN xA 0 xp).toArray)),
          (48, .is (.pointer (some ⟨gb, 0, none⟩))),
          (49, .is (.slice (some ⟨Gb, 0, none⟩) n n)),
          (50, .is (.int .i64 (i : Int))),
          (51, .is (.pointer (some ⟨Gb, O, none⟩))),
          (52, .is (.agg (RB i).l.toArray)),
          (53, .is (.bool true)),
          (54, .is (.bool false)),
          (55, .is (.bool false)),
          (56, .is (.pointer (some ⟨g9, 0, none⟩))),
          (57, .is (.bool false)),
          (58, .is (.int .i64 (i : Int))),
          (59, .is (.pointer (some ⟨w.heap.size, 0, none⟩))),
          (60, .is (.slice A m c)),
          (61, .is (.int .i64 (m : Int))),
          (62, .is (.bool false)),
          (63, .is (.bool false)),
          (64, .is (undef)),
          (65, .is (undef)),
          (66, .is (undef)),
          (67, .is (undef)),
          (68, .is (undef)),
          (69, .is (undef)),
          (70, .is (.bool false)),
          (71, .is (.bool false)),
          (72, .is (.bool false))] zz).P) (fun zz => (Reg.tblK _ zz).on) (fun zz => (Reg.memK [] zz).P) (fun zz => (Reg.memK _ zz).on) ?_ ?_
        · simp only [Reg.frame, Reg.over, Nat.reduceAdd, Nat.reduceLeDiff, decide_true, decide_false, if_true, Bool.false_eq_true, if_false, Bool.and_true, Bool.and_false]
          refine ⟨?_, ?_, ?_, ?_, ?_, ?_, ?_, ?_, ?_, ?_, ?_, ?_, ?_, ?_, ?_, ?_, ?_, ?_, ?_, ?_, ?_, ?_, ?_, ?_, ?_, ?_, trivial⟩
          · intro x u hku hd
            refine wpOp_step rfl fun KK hK => ?_
            refine Reg.step_load_mid (by rfl) 54 (.tmp 9) (by rfl) g9 0 (by rfl) (roL false ceN xA 0 xp) (hku.blk (by simp) H9.out).pin.range _ Try.underlying54 rfl (by rw [size_row, roL_len]) ?_
            exact hK _ _ ⟨_, rfl, Reg.KJ.refl _, fun d hd => by cases hd; exact rfl, fun h => by cases h⟩
          · intro x u hku hd
            refine wpOp_step rfl fun KK hK => ?_
            go_simp
            exact hK _ _ ⟨_, rfl, Reg.KJ.refl _, fun d hd => by cases hd; exact rfl, fun h => by cases h⟩
          · intro x u hku hd
            have h48 : x 48 = .pointer (some ⟨gb, 0, none⟩) := hd 1 (by decide)
            have cu := (HV.out.on hku.below).b.cell 0
            have lu := (HV.out.on hku.below).b.lt
            simp only [List.getElem?_toArray, List.getElem?_cons_zero] at cu
            refine wpOp_step rfl fun KK hK => ?_
            simp only [h48] at hK ⊢
            go_simp
            exact hK _ _ ⟨_, rfl, Reg.KJ.refl _, fun d hd => by cases hd; exact rfl, fun h => by cases h⟩
          · intro x u hku hd
            refine wpOp_step rfl fun KK hK => ?_
            go_simp
            exact hK _ _ ⟨_, rfl, Reg.KJ.refl _, fun d hd => by cases hd; exact rfl, fun h => by cases h⟩
          · intro x u hku hd
            have h49 : x 49 = .slice (some ⟨Gb, 0, none⟩) n n := hd 2 (by decide)
            have h50 : x 50 = .int .i64 (i : Int) := hd 3 (by decide)
            refine wpOp_step rfl fun KK hK => ?_
            simp only [h49, h50] at hK ⊢
            go_simp
            exact hK _ _ ⟨_, rfl, Reg.KJ.refl _, fun d hd => by cases hd; exact rfl, fun h => by cases h⟩
          · intro x u hku hd
            have h51 : x 51 = .pointer (some ⟨Gb, O, none⟩) := hd 4 (by decide)
            refine wpOp_step rfl fun KK hK => ?_
            refine Reg.step_load_mid (by rfl) 54 (.tmp 51) (by rfl) Gb O (by exact h51) (RB i).l (by rw [HOO.out]; exact ((HV.out.on hku.below).rb.at0 hlt).2) _ Try.underlying54 rfl (by rw [size_row, (RB i).l_len]) ?_
            exact hK _ _ ⟨_, rfl, Reg.KJ.refl _, fun d hd => by cases hd; exact rfl, fun h => by cases h⟩
          · intro x u hku hd
            have h47 : x 47 = .agg (roL false ceN xA 0 xp).toArray := hd 0 (by decide)
            have h52 : x 52 = .agg (RB i).l.toArray := hd 5 (by decide)
            refine wpOp_step rfl fun KK hK => ?_
            simp only [h47, h52] at hK ⊢
            go_simp
            (with_reducible refine (HSM.out u hku.below (by first | (simp; done) | omega | (simp; omega))).mono ?_)
            rintro e u' ⟨rfl, hb'⟩
            exact hK _ _ ⟨_, rfl, Reg.KJ.grow (by simp) hku.size hb', fun d hd => by cases hd; exact rfl, fun h => by cases h⟩
          · intro x u hku hd
            have h53 : x 53 = .bool true := hd 6 (by decide)
            refine wpOp_step rfl fun KK hK => ?_
            simp only [h53] at hK ⊢
            go_simp
            exact hK _ _ ⟨_, rfl, Reg.KJ.refl _, fun d hd => by cases hd; exact rfl, fun h => by cases h⟩
          · intro x u hku hd
            have h54 : x 54 = .bool false := hd 7 (by decide)
            refine wpOp_step rfl fun KK hK => ?_
            simp only [h54] at hK ⊢
            go_simp
            exact hK _ _ ⟨_, rfl, Reg.KJ.refl _, fun d hd => by cases hd; exact rfl, fun h => by cases h⟩
          · intro x u hku hd
            have h55 : x 55 = .bool false := hd 8 (by decide)
            refine wpOp_step rfl fun KK hK => ?_
            simp only [h55] at hK ⊢
            go_simp
            exact hK _ _ ⟨_, rfl, Reg.KJ.refl _, fun d hd => by cases hd; exact rfl, fun h => by cases h⟩
          · intro x u hku hd
            have h56 : x 56 = .pointer (some ⟨g9, 0, none⟩) := hd 9 (by decide)
            have h55 : x 55 = .bool false := hd 8 (by decide)
            have cu : u.cell? ⟨g9, 0, none⟩ = some (.bool false) := ((hku.blk (by simp) H9.out).pin.cell0 (by rw [roL_len]; decide)).trans rfl
            have lu := (hku.blk (by simp) H9.out).lt
            refine wpOp_step rfl fun KK hK => ?_
            simp only [h56, h55] at hK ⊢
            go_simp
            exact hK _ _ ⟨_, rfl, Reg.KJ.refl _, fun d hd => by cases hd; exact rfl, fun h => by cases h⟩
          · intro x u hku hd
            have h55 : x 55 = .bool false := hd 8 (by decide)
            refine wpOp_step rfl fun KK hK => ?_
            simp only [h55] at hK ⊢
            go_simp
            exact hK _ _ ⟨_, rfl, Reg.KJ.refl _, fun d hd => by cases hd; exact rfl, fun h => by cases h⟩
          · intro x u hku hd
            have h55 : x 55 = .bool false := hd 8 (by decide)
            refine wpOp_step rfl fun KK hK => ?_
            simp only [h55] at hK ⊢
            go_simp
            exact hK _ _ ⟨_, rfl, Reg.KJ.refl _, fun d hd => by cases hd; exact rfl, fun h => by cases h⟩
          · intro x u hku hd
            have h59 : x 59 = .pointer (some ⟨w.heap.size, 0, none⟩) := hd 12 (by decide)
            have h55 : x 55 = .bool false := hd 8 (by decide)
            have cu := (HV.out.on hku.below).x.cell 0
            have lu := (HV.out.on hku.below).x.lt
            simp only [List.getElem?_toArray, List.getElem?_cons_zero] at cu
            refine wpOp_step rfl fun KK hK => ?_
            simp only [h59, h55] at hK ⊢
            go_simp
            exact hK _ _ ⟨_, rfl, Reg.KJ.refl _, fun d hd => by cases hd; exact rfl, fun h => by cases h⟩
          · intro x u hku hd
            have h60 : x 60 = .slice A m c := hd 13 (by decide)
            have h55 : x 55 = .bool false := hd 8 (by decide)
            refine wpOp_step rfl fun KK hK => ?_
            simp only [h60, h55] at hK ⊢
            go_simp
            exact hK _ _ ⟨_, rfl, Reg.KJ.refl _, fun d hd => by cases hd; exact rfl, fun h => by cases h⟩
          · intro x u hku hd
            have h58 : x 58 = .int .i64 (i : Int) := hd 11 (by decide)
            have h61 : x 61 = .int .i64 (m : Int) := hd 14 (by decide)
            have h55 : x 55 = .bool false := hd 8 (by decide)
            refine wpOp_step rfl fun KK hK => ?_
            simp only [h58, h61, h55] at hK ⊢
            go_simp
            exact hK _ _ ⟨_, rfl, Reg.KJ.refl _, fun d hd => by cases hd; exact rfl, fun h => by cases h⟩
          · intro x u hku hd
            have h62 : x 62 = .bool false := hd 15 (by decide)
            have h55 : x 55 = .bool false := hd 8 (by decide)
            refine wpOp_step rfl fun KK hK => ?_
            simp only [h62, h55] at hK ⊢
            go_simp
            exact hK _ _ ⟨_, rfl, Reg.KJ.refl _, fun d hd => by cases hd; exact rfl, fun h => by cases h⟩
          · intro x u hku hd
            have h63 : x 63 = .bool false := hd 16 (by decide)
            refine wpOp_step rfl fun KK hK => ?_
            simp only [h63] at hK ⊢
            go_simp
            exact hK _ _ ⟨_, rfl, Reg.KJ.refl _, fun d hd => by cases hd; exact rfl, fun h => by cases h⟩
          · intro x u hku hd
            have h64 : x 64 = undef := hd 17 (by decide)
            have h63 : x 63 = .bool false := hd 16 (by decide)
            refine wpOp_step rfl fun KK hK => ?_
            simp only [h64, h63] at hK ⊢
            go_simp
            exact hK _ _ ⟨_, rfl, Reg.KJ.refl _, fun d hd => by cases hd; exact rfl, fun h => by cases h⟩
          · intro x u hku hd
            have h63 : x 63 = .bool false := hd 16 (by decide)
            refine wpOp_step rfl fun KK hK => ?_
            simp only [h63] at hK ⊢
            go_simp
            exact hK _ _ ⟨_, rfl, Reg.KJ.refl _, fun d hd => by cases hd; exact rfl, fun h => by cases h⟩
          · intro x u hku hd
            have h65 : x 65 = undef := hd 18 (by decide)
            have h66 : x 66 = undef := hd 19 (by decide)
            have h63 : x 63 = .bool false := hd 16 (by decide)
            refine wpOp_step rfl fun KK hK => ?_
            simp only [h65, h66, h63] at hK ⊢
            go_simp
            exact hK _ _ ⟨_, rfl, Reg.KJ.refl _, fun d hd => by cases hd; exact rfl, fun h => by cases h⟩
          · intro x u hku hd
            have h67 : x 67 = undef := hd 20 (by decide)
            have h63 : x 63 = .bool false := hd 16 (by decide)
            refine wpOp_step rfl fun KK hK => ?_
            simp only [h67, h63] at hK ⊢
            go_simp
            exact hK _ _ ⟨_, rfl, Reg.KJ.refl _, fun d hd => by cases hd; exact rfl, fun h => by cases h⟩
          · intro x u hku hd
            have h68 : x 68 = undef := hd 21 (by decide)
            have h63 : x 63 = .bool false := hd 16 (by decide)
            refine wpOp_step rfl fun KK hK => ?_
            simp only [h68, h63] at hK ⊢
            go_simp
            exact hK _ _ ⟨_, rfl, Reg.KJ.refl _, fun d hd => by cases hd; exact rfl, fun h => by cases h⟩
          · intro x u hku hd
            have h63 : x 63 = .bool false := hd 16 (by decide)
            have h69 : x 69 = undef := hd 22 (by decide)
            have h55 : x 55 = .bool false := hd 8 (by decide)
            refine wpOp_step rfl fun KK hK => ?_
            simp only [h63, h69, h55] at hK ⊢
            go_simp
            exact hK _ _ ⟨_, rfl, Reg.KJ.refl _, fun d hd => by cases hd; exact rfl, fun h => by cases h⟩
          · intro x u hku hd
            have h57 : x 57 = .bool false := hd 10 (by decide)
            have h70 : x 70 = .bool false := hd 23 (by decide)
            have h55 : x 55 = .bool false := hd 8 (by decide)
            refine wpOp_step rfl fun KK hK => ?_
            simp only [h57, h70, h55] at hK ⊢
            go_simp
            exact hK _ _ ⟨_, rfl, Reg.KJ.refl _, fun d hd => by cases hd; exact rfl, fun h => by cases h⟩
          · intro x u hku hd
            have h55 : x 55 = .bool false := hd 8 (by decide)
            have h71 : x 71 = .bool false := hd 24 (by decide)
            refine wpOp_step rfl fun KK hK => ?_
            simp only [h55, h71] at hK ⊢
            go_simp
            exact hK _ _ ⟨_, rfl, Reg.KJ.refl _, fun d hd => by cases hd; exact rfl, fun h => by cases h⟩
        · intro x u hku hd
          have e72 : x 72 = .bool false := hd 25 (by decide)
          have e57 : x 57 = .bool false := hd 10 (by decide)
          have h9u := hku.blk (by simp) H9.out
          have c90 : u.cell? ⟨g9, 0, none⟩ = some (.bool false) := (h9u.pin.cell0 (by rw [roL_len]; decide)).trans rfl
          have c956 : u.cell? ⟨g9, 56, none⟩ = some (.slice xA 0 xp) := h9u.rowTab
          have l9 := h9u.lt
          have H9U := Lib.hid h9u
          have HVU := Lib.hid (HV.out.on hku.below)
          have HBC := Lib.hid built_cell0
          have hne : ∀ W, (binOp .neq 51 (.agg (ceL ceN).toArray) (.agg (ceL ceN).toArray)).run Try.prog W = .ok (.bool false) W := fun W => by rw [cell_neq, ceE_refl]; rfl
          clear h9u
          simp only [Reg.frame, Reg.over, Nat.reduceAdd, Nat.reduceLeDiff, decide_true, decide_false, if_true, Bool.false_eq_true, if_false, Bool.and_true, Bool.and_false, e72, e57]
          go_wp2_with (first
            | (refine wpList_load_want 51 (.tmp 81) rfl g9 1 (ceL ceN) H9U.out.rowCell (by simp [Act.eval, Act.put]) (by kernel_rfl) _ Try.underlying51 rfl (by rw [size_ce, ceL_len]) ?_)
            | (refine wpList_build_want 51 _ rfl (ceL ceN).toArray (by simpa [Act.eval, Act.put] using HBC.out) (by kernel_rfl) ?_))
          go_roundw
          case rel => exact ⟨i + 1, by omega, by go_num, HVU⟩
          case measure => simp [intOf]; omega
    · obtain rfl : i = n := by omega
      have hn' : decide ((i : Int) < i) = false := by simp
      go_wp2_with (go_at_call 12; (with_reducible refine (lives_wd _).mono ?_); rintro e w7 ⟨rfl, b7⟩)
      go_ret
      exact ⟨rfl, below_then HU.out.k b7⟩
end Go.Proofs.Ytmmgbhdjjejacaa

