/-
  The contracts of a net's Next and Given. Conditions: the net's reading.
-/
import Derived.Test.YtkejpkcaojidaaaGreatDoorCf8
import Derived.Test.YtkejpkcaojidaaaGreatDoorCf4
namespace Go.Proofs.YtkejpkcaojidaaaGreatDoor
set_option linter.unusedVariables false
set_option linter.unusedSimpArgs false
open Go.RowKit Rg

/-- No config. -/
def zeroCf : Cf := ⟨0, 0, 0, 0, 0, none, 0, 0, none, 0, 0, none, 0, 0, none, 0, 0, [], [], [], []⟩
theorem zero_in (w : World) : CfIn w zeroCf := ⟨Lies.nil_, Lies.nil_, Lies.nil_, LiesT.nil_, by simp [zeroCf]⟩
/-- The pointer v is a net of the config c (alone in its block, or ahead of others), or nil, and c none. -/
def NetIs (w : World) (v : Value) (c : Cf) : Prop := (v = .pointer none ∧ c = zeroCf) ∨ ∃ (g : Nat) (b : Cf), v = .pointer (some ⟨g, 0, none⟩) ∧ (∃ T Z, Blk w g T ([.int .i64 b.N, .slice b.pA b.pn b.pc, .slice b.sA b.sn b.sc, .int .i64 b.L, .slice b.bA b.bn b.bc, .slice b.tA b.tn b.tc, .int .i64 b.M, .int .i64 b.G, .int .i64 b.F, .int .i64 c.N, .slice c.pA c.pn c.pc, .slice c.sA c.sn c.sc, .int .i64 c.L, .slice c.bA c.bn c.bc, .slice c.tA c.tn c.tc, .int .i64 c.M, .int .i64 c.G, .int .i64 c.F] ++ Z).toArray) ∧ CfIn w c
theorem NetIs.on {w w' : World} {v : Value} {c : Cf} (h : NetIs w v c) (hb : Below w.heap.size w w') : NetIs w' v c := by
  rcases h with h | ⟨g, b, e, hB, hc⟩
  · exact .inl h
  · obtain ⟨T, Z, hB⟩ := hB
    exact .inr ⟨g, b, e, ⟨T, Z, hB.on hb⟩, hc.on hb⟩
theorem NetIs.in_ {w : World} {v : Value} {c : Cf} (h : NetIs w v c) : CfIn w c := by
  rcases h with ⟨_, rfl⟩ | ⟨g, b, e, hB, hc⟩
  · exact zero_in w
  · exact hc

set_option maxRecDepth 100000 in
theorem field_pairs (c : Cf) (w : World) : (Instr.field 25 (.agg #[.int .i64 c.N, .slice c.pA c.pn c.pc, .slice c.sA c.sn c.sc, .int .i64 c.L, .slice c.bA c.bn c.bc, .slice c.tA c.tn c.tc, .int .i64 c.M, .int .i64 c.G, .int .i64 c.F]) 1).run Tryz.prog w = .ok (.slice c.pA c.pn c.pc) w := rfl
theorem kept_net (v : Value) (c : Cf) (w : World) (hn : NetIs w v c) :
    Calls Tryz.prog 81 #[v] w fun e w' => e = .returned (.agg #[.int .i64 c.N, .slice c.pA c.pn c.pc, .slice c.sA c.sn c.sc, .int .i64 c.L, .slice c.bA c.bn c.bc, .slice c.tA c.tn c.tc, .int .i64 c.M, .int .i64 c.G, .int .i64 c.F]) ∧ Below w.heap.size w w' := by
  rcases hn with ⟨rfl, rfl⟩ | ⟨g, b, rfl, hB, hc⟩
  · go_enter Tryz.func81, Tryz.ntmps81
    go_wp2_with fail
    exact bodyPost_ret (v := .agg #[.int .i64 0, .slice none 0 0, .slice none 0 0, .int .i64 0, .slice none 0 0, .slice none 0 0, .int .i64 0, .int .i64 0, .int .i64 0]) (by simp [results, Tryz.results81, go_sem]) rfl ⟨rfl, by first | exact below_al (Below.refl _ _) _ | exact (Below.refl _ _).alloc (Nat.le_refl _) _⟩
  · obtain ⟨T, Z, hB⟩ := hB
    have c9 := hB.cell 9
    have c10 := hB.cell 10
    have c11 := hB.cell 11
    have c12 := hB.cell 12
    have c13 := hB.cell 13
    have c14 := hB.cell 14
    have c15 := hB.cell 15
    have c16 := hB.cell 16
    have c17 := hB.cell 17
    have hg := hB.lt
    simp at c9 c10 c11 c12 c13 c14 c15 c16 c17
    clear hc hB
    go_enter Tryz.func81, Tryz.ntmps81
    go_wp2_with fail
    refine bodyPost_ret (v := .agg #[.int .i64 c.N, .slice c.pA c.pn c.pc, .slice c.sA c.sn c.sc, .int .i64 c.L, .slice c.bA c.bn c.bc, .slice c.tA c.tn c.tc, .int .i64 c.M, .int .i64 c.G, .int .i64 c.F]) (by simp [results, Tryz.results81, go_sem]) rfl ⟨rfl, ?_⟩
    first | exact below_al (Below.refl _ _) _ | exact (Below.refl _ _).alloc (Nat.le_refl _) _
end Go.Proofs.YtkejpkcaojidaaaGreatDoor

namespace Go.Proofs.YtkejpkcaojidaaaGreatDoor
open Go.RowKit Rg

theorem net_first (v : Value) (c : Cf) (x : Int) (w : World) (hn : NetIs w v c) :
    Calls Tryz.prog 43 #[v, .int .i64 x] w fun e w' => e = .returned (.int .i64 (atM c.P x)) ∧ Below w.heap.size w w' := by
  have hs := hn.in_.few.1
  have hfd := field_pairs c
  go_enter Tryz.func43, Tryz.ntmps43
  go_wp2_with (first
    | (go_at_call 81; (with_reducible refine (kept_net v c w hn).mono ?_); rintro e w1 ⟨rfl, b1⟩)
    | (go_at_call 80; (with_reducible refine (at_any c.pA c.pn c.pc c.P x w1 (hn.on b1).in_.p hs).mono ?_); rintro e w2 ⟨rfl, rfl⟩))
  go_ret
  exact ⟨rfl, b1⟩

/-- Is a node a half of the pair that begins with a? -/
def hitB (N x a : Int) : Bool := decide (x = a ∨ x = stepM N 0 a 1)
/-- A node's pair; -1: none. -/
def pairM (N : Int) (P : List Int) (x : Int) : Int := match P.findIdx? (hitB N x) with
  | some i => (i : Int)
  | none => -1
theorem pair_hit {N : Int} {P : List Int} {x : Int} (k : Nat) (hk : k < P.length) (h0 : ∀ j, j < k → hitB N x (P.getD j 0) = false) (h1 : hitB N x (P.getD k 0) = true) : pairM N P x = k := by
  have : P.findIdx? (hitB N x) = some k := by
    rw [List.findIdx?_eq_some_iff_getElem]
    refine ⟨hk, by rwa [getD_at P k hk] at h1, fun j hj => ?_⟩
    have := h0 j hj
    rw [getD_at P j (by omega)] at this
    simp [this]
  rw [pairM, this]
theorem pair_none {N : Int} {P : List Int} {x : Int} (h0 : ∀ j, j < P.length → hitB N x (P.getD j 0) = false) : pairM N P x = -1 := by
  have : P.findIdx? (hitB N x) = none := by
    rw [List.findIdx?_eq_none_iff]
    intro a ha
    obtain ⟨j, hj, rfl⟩ := List.getElem_of_mem ha
    have := h0 j hj
    rwa [getD_at P j hj] at this
  rw [pairM, this]

set_option maxRecDepth 100000 in
theorem net_pair (v : Value) (c : Cf) (x : Int) (w : World) (hn : NetIs w v c) (hw : Ways w) :
    Calls Tryz.prog 82 #[v, .int .i64 x] w fun e w' => e = .returned (.int .i64 (pairM c.N c.P x)) ∧ Below w.heap.size w w' := by
  have HC := Lib.hid hn.in_
  have HL := Lib.hid hn.in_.p.len
  have hfew := hn.in_.few.1
  have HW := Lib.hid hw
  clear hw
  go_enter Tryz.func82, Tryz.ntmps82
  go_wp2_with (go_at_call 81; (with_reducible refine (kept_net v c w hn).mono ?_); rintro e w1 ⟨rfl, b1⟩)
  have hz1 := b1.size
  clear hn
  go_loopw [13] (fun i wr => ∃ k : Nat, k ≤ c.pn ∧ i = .int .i64 k ∧ Hid (∀ j, j < k → hitB c.N x (c.P.getD j 0) = false) ∧ Blk wr w1.heap.size 25 #[.int .i64 c.N, .slice c.pA c.pn c.pc, .slice c.sA c.sn c.sc, .int .i64 c.L, .slice c.bA c.bn c.bc, .slice c.tA c.tn c.tc, .int .i64 c.M, .int .i64 c.G, .int .i64 c.F] ∧ Below w.heap.size w wr) (fun i _ => c.pn - (intOf i).toNat)
  case atStart => exact ⟨0, Nat.zero_le _, rfl, Lib.hid fun j hj => absurd hj (by omega), Blk.new w1 _ _, below_al b1 _⟩
  case round =>
    clear b1
    obtain ⟨k, hk, rfl, ht, hB1, hb⟩ := hrel
    have hz := hb.size
    by_cases hlt : k < c.pn
    · obtain ⟨b, off, hA, hbl, hcc⟩ := (HC.out.on hb).p.at_ (by omega)
      have hcell := hcc k hlt
      have hix := fun W => idxNums (n := c.pn) c.pc hA hlt W
      have HH := Lib.hid (pair_hit (N := c.N) (P := c.P) (x := x) k (by have := HL.out; omega) ht.out)
      have HN := Lib.hid (show hitB c.N x (c.P.getD k 0) = false → ∀ j, j < k + 1 → hitB c.N x (c.P.getD j 0) = false from fun h j hj => by
        rcases Nat.lt_succ_iff_lt_or_eq.1 hj with q | q
        · exact ht.out j q
        · rw [q]; exact h)
      obtain ⟨k0, k1, k2, k3, k4, k5, k6, k7, k8⟩ := hB1.cf
      obtain ⟨a, ha⟩ : ∃ a, a = c.P.getD k 0 := ⟨_, rfl⟩
      rw [← ha] at hcell HH HN
      clear hcc hA ha
      by_cases h1 : x = a
      · subst h1
        have HX := Lib.hid (HH.out (by simp [hitB]))
        go_wp2_with fail
        go_ret
        exact ⟨ret_int HX.out.symm, hb⟩
      · have e1 := beq_eq_false_iff_ne.2 h1
        by_cases h2 : x = stepM c.N 0 a 1
        · have HX := Lib.hid (HH.out (by simp [hitB, ← h2]))
          have HST := Lib.hid h2.symm
          clear h1 h2
          go_wp2_with (go_at_call 83; (with_reducible refine (second_is c a x HST.out wr (HW.out.on hb)).mono ?_); rintro e w2 ⟨rfl, b2⟩)
          go_ret
          exact ⟨ret_int HX.out.symm, below_then hb b2⟩
        · have HX := Lib.hid (HN.out (by simp [hitB, h1, h2]))
          obtain ⟨y, hy⟩ : ∃ y, y = stepM c.N 0 a 1 := ⟨_, rfl⟩
          rw [← hy] at h2
          have HST := Lib.hid hy.symm
          have e2 := beq_eq_false_iff_ne.2 h2
          clear h1 h2 hy
          go_wp2_with (go_at_call 83; (with_reducible refine (second_is c a y HST.out wr (HW.out.on hb)).mono ?_); rintro e w2 ⟨rfl, b2⟩)
          go_roundw
          case rel => exact ⟨k + 1, by omega, by go_num, HX, hB1.on b2, below_then hb b2⟩
          case measure => simp [intOf]; omega
    · have HX := Lib.hid (pair_none (N := c.N) (P := c.P) (x := x) fun j hj => ht.out j (by have := HL.out; omega))
      go_wp2_with fail
      go_ret
      exact ⟨ret_int HX.out.symm, hb⟩
theorem pair_is (v : Value) (c : Cf) (x p : Int) (hp : pairM c.N c.P x = p) (w : World) (hn : NetIs w v c) (hw : Ways w) :
    Calls Tryz.prog 82 #[v, .int .i64 x] w fun e w' => e = .returned (.int .i64 p) ∧ Below w.heap.size w w' := by
  subst hp; exact net_pair v c x w hn hw
theorem first_is (v : Value) (c : Cf) (x p : Int) (hp : atM c.P x = p) (w : World) (hn : NetIs w v c) :
    Calls Tryz.prog 43 #[v, .int .i64 x] w fun e w' => e = .returned (.int .i64 p) ∧ Below w.heap.size w w' := by
  subst hp; exact net_first v c x w hn

/-- A node's partner; -1: none. -/
def partM (N : Int) (P : List Int) (x : Int) : Int := if x = atM P (pairM N P x) then stepM N 0 x 1 else atM P (pairM N P x)
theorem net_partner (v : Value) (c : Cf) (x : Int) (w : World) (hn : NetIs w v c) (hw : Ways w) :
    Calls Tryz.prog 44 #[v, .int .i64 x] w fun e w' => e = .returned (.int .i64 (partM c.N c.P x)) ∧ Below w.heap.size w w' := by
  obtain ⟨p, hp⟩ : ∃ p, p = pairM c.N c.P x := ⟨_, rfl⟩
  obtain ⟨f, hf⟩ : ∃ f, f = atM c.P p := ⟨_, rfl⟩
  have HP := Lib.hid hp.symm
  have HF := Lib.hid hf.symm
  have HM := Lib.hid (show partM c.N c.P x = if x = f then stepM c.N 0 x 1 else f by rw [partM, ← hp, ← hf])
  clear hp hf
  by_cases h : x = f
  · subst h
    rw [if_pos rfl] at HM
    go_enter Tryz.func44, Tryz.ntmps44
    go_wp2_with (first
      | (go_at_call 82; (with_reducible refine (pair_is v c x p HP.out w hn hw).mono ?_); rintro e w1 ⟨rfl, b1⟩)
      | (go_at_call 43; (with_reducible refine (first_is v c p x HF.out w1 (hn.on b1)).mono ?_); rintro e w2 ⟨rfl, b2⟩; have B2 := below_then b1 b2)
      | (go_at_call 81; (with_reducible refine (kept_net v c w2 (hn.on B2)).mono ?_); rintro e w3 ⟨rfl, b3⟩; have B3 := below_then B2 b3)
      | (go_at_call 83; (with_reducible refine (second_any c x w3 (hw.on B3)).mono ?_); rintro e w4 ⟨rfl, b4⟩))
    go_ret
    exact ⟨ret_int HM.out.symm, below_then B3 b4⟩
  · rw [if_neg h] at HM
    have e1 := beq_eq_false_iff_ne.2 h
    clear h
    go_enter Tryz.func44, Tryz.ntmps44
    go_wp2_with (first
      | (go_at_call 82; (with_reducible refine (pair_is v c x p HP.out w hn hw).mono ?_); rintro e w1 ⟨rfl, b1⟩)
      | (go_at_call 43; (with_reducible refine (first_is v c p f HF.out w1 (hn.on b1)).mono ?_); rintro e w2 ⟨rfl, b2⟩; have B2 := below_then b1 b2))
    go_ret
    exact ⟨ret_int HM.out.symm, B2⟩
end Go.Proofs.YtkejpkcaojidaaaGreatDoor

namespace Go.Proofs.YtkejpkcaojidaaaGreatDoor
open Go.RowKit Rg

theorem net_given (v : Value) (c : Cf) (w : World) (hn : NetIs w v c) :
    Calls Tryz.prog 92 #[v] w fun e w' => ∃ A1 A2 A3 A4, e = .returned (.agg #[.int .i64 c.N, .slice A1 c.pn c.pn, .slice A2 c.sn c.sn, .int .i64 c.L, .slice A3 c.bn c.bn, .slice A4 c.tn c.tn, .int .i64 c.M, .int .i64 c.G, .int .i64 c.F]) ∧ CfOwn w' w.heap.size (c.to A1 A2 A3 A4) ∧ Below w.heap.size w w' := by
  have hn1 := hn.on (below_al (Below.refl _ w) (.cells #[.int .i64 0, .slice none 0 0, .slice none 0 0, .int .i64 0, .slice none 0 0, .slice none 0 0, .int .i64 0, .int .i64 0, .int .i64 0] 25))
  clear hn
  go_enter Tryz.func92, Tryz.ntmps92
  go_wp2_with (first
    | (go_at_call 81; (with_reducible refine (kept_net v c _ hn1).mono ?_); rintro e w1 ⟨rfl, b1⟩)
    | (go_at_call 42; (with_reducible refine (copied_any c w1 (hn1.on b1).in_).mono ?_); rintro e w2 ⟨A1, A2, A3, A4, rfl, o2, b2⟩
       have hZ := ((Blk.new w 25 #[.int .i64 0, .slice none 0 0, .slice none 0 0, .int .i64 0, .slice none 0 0, .slice none 0 0, .int .i64 0, .int .i64 0, .int .i64 0]).on b1).on b2
       have hz1 := ((Blk.new w 25 #[.int .i64 0, .slice none 0 0, .slice none 0 0, .int .i64 0, .slice none 0 0, .slice none 0 0, .int .i64 0, .int .i64 0, .int .i64 0]).on b1).lt
       have hfz := hZ.frozen
       have z0 := hZ.cell 0
       have z1 := hZ.cell 1
       have z2 := hZ.cell 2
       have z3 := hZ.cell 3
       have z4 := hZ.cell 4
       have z5 := hZ.cell 5
       have z6 := hZ.cell 6
       have z7 := hZ.cell 7
       have z8 := hZ.cell 8
       simp at z0 z1 z2 z3 z4 z5 z6 z7 z8
       have hb2 := below_then (below_then (below_al (Below.refl _ w) _) b1) b2
       clear b1 b2 hn1 hZ))
  refine bodyPost_ret (v := .agg #[.int .i64 c.N, .slice A1 c.pn c.pn, .slice A2 c.sn c.sn, .int .i64 c.L, .slice A3 c.bn c.bn, .slice A4 c.tn c.tn, .int .i64 c.M, .int .i64 c.G, .int .i64 c.F]) (by simp [results, Tryz.results92, go_sem, z0, z1, z2, z3, z4, z5, z6, z7, z8]) rfl ⟨A1, A2, A3, A4, rfl, CfOwn.mono ((((((((((o2.far hz1 _).far hz1 _).far hz1 _).far hz1 _).far hz1 _).far hz1 _).far hz1 _).far hz1 _).far hz1 _)) (by omega), ?_⟩
  exact (((((((((hb2.setCell (by simp) _).setCell (by simp) _).setCell (by simp) _).setCell (by simp) _).setCell (by simp) _).setCell (by simp) _).setCell (by simp) _).setCell (by simp) _).setCell (by simp) _)
end Go.Proofs.YtkejpkcaojidaaaGreatDoor

