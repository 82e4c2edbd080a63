/-
  The law AgreesOne. Conditions: what came in reads as such, its numbers in range.
-/
import Derived.Test.YtdbljggjddnjcaaAgL2
import Derived.Deep.CutBlock
namespace Go.Proofs.Ytdbljggjddnjcaa
open Go.RowKit
set_option linter.unusedVariables false
set_option linter.unusedSimpArgs false

/-- The first vector, if there is one yet. -/
def FirstA (U : World) (N : Nat) (W : Nat → He) (v : Value) : Prop := v = .slice none 0 0 ∨ ∃ gf, v = .slice (some ⟨gf, 0, none⟩) N N ∧ Blk U gf 118 (hesL W N).toArray
theorem FirstA.on {U V : World} {N : Nat} {W : Nat → He} {v : Value} (h : FirstA U N W v) (hb : Below U.heap.size U V) : FirstA V N W v := by
  rcases h with h | ⟨gf, e, hB⟩
  · exact .inl h
  · exact .inr ⟨gf, e, hB.on hb⟩
set_option maxRecDepth 100000 in
theorem nilHe0 (w : World) : (binOp .eql 52 (.slice none 0 0) (.slice none 0 0)).run Try.prog w = .ok (.bool true) w := by kernel_rfl
set_option maxRecDepth 100000 in
theorem nilHe (A : Addr) (n c : Nat) (w : World) : (binOp .eql 52 (.slice (some A) n c) (.slice none 0 0)).run Try.prog w = .ok (.bool false) w := by kernel_rfl
theorem flL_oneA {f : Nat → List Value} (h : ∀ i, ∀ v ∈ f i, v.oneCell' = true) {n : Nat} : ∀ v ∈ flL f n, v.oneCell' = true := fun v hv => by
  obtain ⟨i, _, hi⟩ := List.mem_flatMap.1 hv
  exact h i v hi
theorem u8_in {a : Int} (h : (Lit.int .u8 a).wf = true) : 0 ≤ a ∧ a < 256 := by
  simp [Lit.wf] at h
  have e1 : IntKind.u8.min = 0 := rfl
  have e2 : IntKind.u8.max = 255 := rfl
  omega
set_option maxRecDepth 100000 in
set_option maxHeartbeats 40000000 in
theorem agreesOne_walk (a b : Int) (A : Option Addr) (m c : Nat) (C : Nat → Ce) (xo : On) (w : World) (hA : (Lit.int .u8 a).wf = true) (hB : (Lit.int .u8 b).wf = true) (hC : CellsIn w A m c C) (hX : OnIn w xo) :
    Calls Try.prog 8 #[.agg #[.int .u8 a, .int .u8 b], .slice A m c, .agg xo.l.toArray] w fun e w' => e = .returned (.bool true) ∧ Below w.heap.size w w' := by
  obtain ⟨i0, hi0, hz0, hz1, hz2⟩ := info_parts infoHeld
  have HI := Lib.hid hi0
  have HZ0 := Lib.hid hz0
  have HZ1 := Lib.hid hz1
  have HZ2 := Lib.hid hz2
  obtain ⟨z0, rfl, lz0⟩ : ∃ z : Nat, a = (z : Int) ∧ z < 256 := by
    have := u8_in hA
    exact ⟨a.toNat, by omega, by omega⟩
  obtain ⟨z1, rfl, lz1⟩ : ∃ z : Nat, b = (z : Int) ∧ z < 256 := by
    have := u8_in hB
    exact ⟨b.toNat, by omega, by omega⟩
  obtain ⟨N3, hN3⟩ : ∃ n, n = z0 % 13 := ⟨_, rfl⟩
  obtain ⟨N, hN⟩ : ∃ n, n = 4 + N3 := ⟨_, rfl⟩
  obtain ⟨bad, hbad⟩ : ∃ n, n = z1 % N := ⟨_, rfl⟩
  have HN : Hid (4 ≤ N ∧ N ≤ 16) := Lib.hid (by omega)
  have lN : 4 ≤ N ∧ N ≤ 16 := by omega
  have lbad : bad < N := by rw [hbad]; exact Nat.mod_lt _ (by omega)
  have en : (z0 : Int).tmod 13 = (N3 : Int) := by rw [hN3]; rfl
  have en' : (4 : Int) + (N3 : Int) = (N : Int) := by omega
  have eb : (z1 : Int).tmod (N : Int) = (bad : Int) := by rw [hbad]; rfl
  have HMK := Lib.hid hC.k
  have HCI := Lib.hid hC
  have HXI := Lib.hid hX
  have HLV : Hid (∀ u, Below w.heap.size w u → Calls Try.prog 38 #[] u fun e w' => e = .returned (.bool true) ∧ Below w.heap.size w w') := Lib.hid (fun u hu => (lives_ag u).mono fun e w' h => ⟨h.1, below_then hu h.2⟩)
  clear hi0 hz0 hz1 hz2 hA hB hC hX hN3 hN hbad
  go_enter Try.func8, Try.ntmps8
  go_upto_region 1 with fail
  refine wp_at (P1 w z0 z1 xo w.heap.size (w.heap.size + 1)) ⟨(Blk.new w _ _).alloc _, by have := Blk.new (w.alloc (.cells #[.int .u8 (z0 : Int), .int .u8 (z1 : Int)] 113)) 116 xo.l.toArray; rwa [alloc_size] at this, below_al (below_al (Below.refl _ w) _) _, Nat.le_refl _, Nat.lt_succ_self _⟩ ?_
  intro U hU
  obtain ⟨gz, hgz⟩ : ∃ gz, gz = w.heap.size := ⟨_, rfl⟩
  obtain ⟨gx, hgx⟩ : ∃ gx, gx = w.heap.size + 1 := ⟨_, rfl⟩
  rw [← hgx, ← hgz] at hU
  have HU := Lib.hid hU
  have HG := Lib.hid (show gz = w.heap.size ∧ gx = w.heap.size + 1 from ⟨hgz, hgx⟩)
  have cx0 := hU.x.cell 0
  have cx1 := hU.x.cell 1
  have lx := hU.x.lt
  have cz0 := hU.z.cell 0
  have cz1 := hU.z.cell 1
  have lz := hU.z.lt
  simp only [On.l] at cx0 cx1
  rw [← hgx, ← hgz]
  clear hU hgz hgx
  by_cases hgr : 40 < m ∨ 40 < xo.m ∨ 40 < xo.n
  · clear HI HZ0 HZ1 HZ2 lN lbad en en' eb
    rcases (show 40 < m ∨ (m ≤ 40 ∧ 40 < xo.m) ∨ (m ≤ 40 ∧ xo.m ≤ 40 ∧ 40 < xo.n) by omega) with h | h | h
    · have d1 : decide ((40 : Int) < (m : Int)) = true := decide_eq_true (by omega)
      clear h hgr
      go_wp2_with (go_at_call 38; (with_reducible refine (HLV.out _ HU.out.b).mono ?_); rintro e w3 ⟨rfl, q1⟩; have HB3 := Lib.hid q1; clear q1)
      go_ret
      exact ⟨rfl, HB3.out⟩
    · have d1 : decide ((40 : Int) < (m : Int)) = false := decide_eq_false (by omega)
      have d2 : decide ((40 : Int) < (xo.m : Int)) = true := decide_eq_true (by omega)
      clear h hgr
      go_wp2_with (go_at_call 38; (with_reducible refine (HLV.out _ HU.out.b).mono ?_); rintro e w3 ⟨rfl, q1⟩; have HB3 := Lib.hid q1; clear q1)
      go_ret
      exact ⟨rfl, HB3.out⟩
    · have d1 : decide ((40 : Int) < (m : Int)) = false := decide_eq_false (by omega)
      have d2 : decide ((40 : Int) < (xo.m : Int)) = false := decide_eq_false (by omega)
      have d3 : decide ((40 : Int) < (xo.n : Int)) = true := decide_eq_true (by omega)
      clear h hgr
      go_wp2_with (go_at_call 38; (with_reducible refine (HLV.out _ HU.out.b).mono ?_); rintro e w3 ⟨rfl, q1⟩; have HB3 := Lib.hid q1; clear q1)
      go_ret
      exact ⟨rfl, HB3.out⟩
  · have d1 : decide ((40 : Int) < (m : Int)) = false := decide_eq_false (by omega)
    have d2 : decide ((40 : Int) < (xo.m : Int)) = false := decide_eq_false (by omega)
    have d3 : decide ((40 : Int) < (xo.n : Int)) = false := decide_eq_false (by omega)
    have HLE : Hid (m ≤ 40 ∧ xo.m ≤ 40 ∧ xo.n ≤ 40) := Lib.hid (by omega)
    clear hgr
    go_upto_region 6 with (refine wpList_make_flat rfl (.tmp 45) (.tmp 45) 52 rfl 118 i0 _ (heL heN) 136 56 elemHelds HI.out HZ0.out rfl HZ1.out HZ2.out (heL_len _) (by decide) N N (by simp [Act.eval]) (by simp [Act.eval]) (Nat.le_refl _) (by omega) (by omega) ?_; intro w1 hB1 hb1 hs1; have HB1 := Lib.hid hB1; have Hb1 := Lib.hid hb1; clear hB1 hb1 hs1)
    have HP1 := Lib.hid (HU.out.on Hb1.out)
    obtain ⟨gT, hgT⟩ : ∃ g, g = U.heap.size := ⟨_, rfl⟩
    have HGT := Lib.hid (show gx < gT ∧ gz < gT by omega)
    rw [← hgT] at HB1 ⊢
    clear hgT cx0 cx1 cz0 cz1 lx lz Hb1 HU en en' eb d1 d2 d3
    go_upto_block 0 with fail
    go_cut [10] from 47 to 67 (fun s10 wx => Hid (P2 w z0 z1 xo gz gx gT m C N wx))
    case first =>
      go_wp2_with fail
      go_loopw [10] (fun iv wr => ∃ k : Nat, k ≤ N ∧ iv = .int .i64 (k : Int) ∧ ∃ Ls : Nat → List Value, Hid (∀ i, (Ls i).length = 56) ∧ Hid (∀ i, i < k → Ls i = heL (truA m C i)) ∧ Hid (∀ i, k ≤ i → Ls i = heL heN) ∧ Hid (Blk wr gT 118 (flL Ls N).toArray) ∧ Hid (P1 w z0 z1 xo gz gx wr)) (fun iv _ => N - (intOf iv).toNat)
      case atStart => exact ⟨0, by omega, rfl, _, Lib.hid fun i => heL_len _, Lib.hid fun i hi => absurd hi (by omega), Lib.hid fun i _ => rfl, HB1, HP1⟩
      case round =>
        clear HB1 HP1
        obtain ⟨k, hk, rfl, Ls, HLN, HLE, HLZ, HB, HP⟩ := hrel
        by_cases hlt : k < N
        · have dk : decide ((k : Int) < (N : Int)) = true := decide_eq_true (by omega)
          by_cases h0 : 0 < m
          · have dm : decide (0 < (m : Int)) = true := decide_eq_true (by omega)
            obtain ⟨j, hj⟩ : ∃ j, j = k % m := ⟨_, rfl⟩
            have lj : j < m := by rw [hj]; exact Nat.mod_lt _ h0
            have ej : (k : Int).tmod (m : Int) = (j : Int) := by rw [hj]; rfl
            obtain ⟨cb, co, rfl, hcb, hcr⟩ := HCI.out.f h0
            have HRG : Hid (wr.rangeAt cb (co + j * 55) (ceL (C j))) := Lib.hid (fun i v hv => (HP.out.b.cell (p := ⟨cb, _, none⟩) hcb).trans (hcr j lj i v hv))
            obtain ⟨X, hX⟩ : ∃ X : He, X = ⟨true, C j⟩ := ⟨_, rfl⟩
            have HXE := Lib.hid (show X = truA m C k by rw [hX, hj, truA, if_pos h0])
            have HBH : Hid ((Try.prog).built 118 [(0, .bool true), (1, .agg (ceL (C j)).toArray)] = some (heL X).toArray) := Lib.hid (by rw [hX]; exact built_heldC _)
            have HPN : Hid (PIn wr gT (k * 56) 118 (flL Ls k) (flL (fun j => Ls (k + 1 + j)) (N - (k + 1))) (heL heN)) := Lib.hid ⟨by have := HB.out; rw [flL_at _ hlt, HLZ.out k (Nat.le_refl _)] at this; exact this, flL_len HLN.out _⟩
            have hix := fun W => idxHelds (A := some ⟨gT, 0, none⟩) (n := N) N rfl hlt W
            have hic := fun W => idxCells (A := some ⟨cb, co, none⟩) (n := m) c rfl lj W
            simp only [Nat.zero_add] at hix
            clear hcb hcr hX hj
            go_wp2_with (first
              | (refine wpList_load_mid rfl 51 (.tmp 64) rfl cb (co + j * 55) (by simp [Act.eval, Act.put]) (ceL (C j)) _ HRG.out Try.underlying51 rfl (by rw [size_ce, ceL_len]) ?_)
              | (refine wpList_build rfl 118 _ rfl (heL X).toArray (by simpa [Act.eval, Act.put] using HBH.out) ?_)
              | (refine wpList_store_pin rfl 118 (.tmp 67) (.tmp 66) rfl HPN.out (heL X) (by simp [Act.eval, Act.put]) (by simp [Act.eval, Act.put]) 56 size_he (heL_len _) (heL_len _) (heL_one _) ?_; intro w5 p1 b1; have HP5 := Lib.hid p1; have HB5 := Lib.hid b1; clear p1 b1))
            go_roundw
            case rel =>
              refine ⟨k + 1, by omega, by go_num, fun i => if i = k then heL X else Ls i, Lib.hid fun i => ?_, Lib.hid fun i hi => ?_, Lib.hid fun i hi => ?_, Lib.hid ?_, Lib.hid (HP.out.but HB5.out HGT.out.1)⟩
              · show (if i = k then heL X else Ls i).length = 56
                split
                · exact heL_len _
                · exact HLN.out i
              · show (if i = k then heL X else Ls i) = _
                by_cases e : i = k
                · subst e; rw [if_pos rfl, HXE.out]
                · rw [if_neg e]; exact HLE.out i (by omega)
              · show (if i = k then heL X else Ls i) = _
                rw [if_neg (by omega)]; exact HLZ.out i (by omega)
              · rw [← flL_upd Ls k (heL X) hlt]; exact HP5.out.blk
            case measure => simp [intOf]; omega
          · obtain rfl : m = 0 := by omega
            go_wp2_with fail
            go_meet
            exact Lib.hid ⟨HP.out, by
              have h := HB.out
              rwa [show flL Ls N = hesL (truA 0 C) N from flL_congr fun i hi => by
                by_cases e : i < k
                · exact HLE.out i e
                · rw [HLZ.out i (by omega)]; rfl] at h, HGT.out.1⟩
        · obtain rfl : k = N := by omega
          go_wp2_with fail
          go_meet
          exact Lib.hid ⟨HP.out, by
            have h := HB.out
            rwa [show flL Ls k = hesL (truA m C) k from flL_congr fun i hi => HLE.out i hi] at h, HGT.out.1⟩
    case rest =>
      have HP2 : Hid (P2 w z0 z1 xo gz gx gT m C N wc) := hcut
      clear hcut HB1 HP1 HG
      have HT14 : Hid (gT < gT + 1) := Lib.hid (Nat.lt_succ_self _)
      obtain ⟨r0, hr0, rz0, rz1, rz2⟩ := info_parts infoRow
      have RI := Lib.hid hr0
      have RZ0 := Lib.hid rz0
      have RZ1 := Lib.hid rz1
      have RZ2 := Lib.hid rz2
      have HBS := Lib.hid (fun (u : World) (l : List Value) (hl : l.length = 57) => run_bsl_one (P := Try.prog) u 32 54 r0 (roL false ceN none 0 0) 57 elemRows RI.out RZ0.out RZ1.out (roL_len _ _ _ _ _) (by decide) (by decide) l hl)
      clear hr0 rz0 rz1 rz2
      go_upto_region 11 with fail
      go_wp2_with fail
      go_loopw [11, 12] (fun v iv wr => ∃ k : Nat, k ≤ N ∧ iv = .int .i64 (k : Int) ∧ ∃ (A' : Option Addr) (c' : Nat) (Rs : Nat → Rw), v = .slice A' k c' ∧ Hid (P3 w z0 z1 xo gz gx gT m C N bad k A' c' Rs wr)) (fun _ iv _ => N - (intOf iv).toNat)
      case atStart => exact ⟨0, by omega, rfl, none, 0, fun _ => rwN, rfl, Lib.hid ⟨HP2.out, ownsF_nil, fun i hi => absurd hi (by omega)⟩⟩
      case round =>
        clear HP2
        obtain ⟨k, hk, rfl, A', c', Rs, rfl, HP⟩ := hrel
        by_cases hlt : k < N
        · have dk : decide ((k : Int) < (N : Int)) = true := decide_eq_true (by omega)
          have HLO := Lib.hid HP.out.p.t.lt
          obtain ⟨X, hX⟩ : ∃ X : He, X = truA m C k := ⟨_, rfl⟩
          have HXE := Lib.hid hX
          have HBX := Lib.hid (fun g p => built_row true X.c (some ⟨g, 0, none⟩) N p)
          have HRX : Hid (∀ u, Below wr.heap.size wr u → u.rangeAt gT (k * 56 + 1) (ceL X.c) ∧ gT < u.heap.size ∧ Blk u gT 118 (hesL (truA m C) N).toArray) := Lib.hid (fun u hu => by
            have hB := HP.out.p.t.on hu
            refine ⟨fun j v hv => ?_, hB.lt, hB⟩
            have h1 := held_range hB hlt
            rw [← hX] at h1
            have := h1 (j + 1) v (by rw [heL]; simpa using hv)
            rwa [show k * 56 + (j + 1) = k * 56 + 1 + j by omega] at this)
          clear hX
          go_upto_region 14 with fail
          refine Reg.wp_prefix 9 (by kernel_rfl) (fun t => t == 13 || (decide (73 ≤ t) && decide (t ≤ 80))) (Reg.KJ wr.heap.size [] []) (Reg.KJ.drew _ (by simp)) Reg.KJ.trans (by kernel_rfl) (by kernel_rfl) (by kernel_rfl) (by kernel_rfl) (fun zz => (Reg.tblK [
            (73, .is (.slice (some ⟨gT, 0, none⟩) N N)),
            (74, .is (.int .i64 (k : Int))),
            (75, .is (.pointer (some ⟨gT, k * 56, none⟩))),
            (76, .is (.pointer (some ⟨gT, k * 56 + 1, none⟩))),
            (77, .is (.agg (ceL X.c).toArray)),
            (78, .is (.slice (some ⟨gT, 0, none⟩) N N)),
            (79, .tz wr.heap.size N (truA m C)),
            (80, .rz wr.heap.size N X.c (truA m C)),
            (13, .rb wr.heap.size)] zz).P) (fun zz => (Reg.tblK _ zz).on) (fun zz => (Reg.memK [] zz).P) (fun zz => (Reg.memK _ zz).on) ?_ ?_
          · simp only [Reg.frame, Reg.over, Nat.reduceAdd, Nat.reduceBEq, Nat.reduceLeDiff, decide_true, decide_false, Bool.or_true, Bool.or_false, if_true, Bool.false_eq_true, if_false, Bool.and_true, Bool.and_false]
            refine ⟨?_, ?_, ?_, ?_, ?_, ?_, ?_, ?_, ?_, trivial⟩
            · intro x u hku hd
              refine wpOp_step rfl fun KK hK => ?_
              go_simp
              exact hK _ _ ⟨_, rfl, Reg.KJ.refl _, fun d hd => by cases hd; exact rfl, fun h => by cases h⟩
            · intro x u hku hd
              refine wpOp_step rfl fun KK hK => ?_
              go_simp
              exact hK _ _ ⟨_, rfl, Reg.KJ.refl _, fun d hd => by cases hd; exact rfl, fun h => by cases h⟩
            · intro x u hku hd
              have h73 : x 73 = .slice (some ⟨gT, 0, none⟩) N N := hd 0 (by decide)
              have h74 : x 74 = .int .i64 (k : Int) := hd 1 (by decide)
              have hix := fun W => idxHelds (A := some ⟨gT, 0, none⟩) (n := N) N rfl hlt W
              simp only [Nat.zero_add] at hix
              refine wpOp_step rfl fun KK hK => ?_
              simp only [h73, h74] at hK ⊢
              go_simp
              exact hK _ _ ⟨_, rfl, Reg.KJ.refl _, fun d hd => by cases hd; exact rfl, fun h => by cases h⟩
            · intro x u hku hd
              have h75 : x 75 = .pointer (some ⟨gT, k * 56, none⟩) := hd 2 (by decide)
              have hrx := HRX.out u hku.below
              have lx := hrx.2.1
              refine wpOp_step rfl fun KK hK => ?_
              simp only [h75] at hK ⊢
              go_simp
              exact hK _ _ ⟨_, rfl, Reg.KJ.refl _, fun d hd => by cases hd; exact rfl, fun h => by cases h⟩
            · intro x u hku hd
              have h76 : x 76 = .pointer (some ⟨gT, k * 56 + 1, none⟩) := hd 3 (by decide)
              have hrx := HRX.out u hku.below
              have lx := hrx.2.1
              refine wpOp_step rfl fun KK hK => ?_
              refine Reg.step_load_mid (by rfl) 51 (.tmp 76) (by rfl) gT (k * 56 + 1) (by exact h76) (ceL X.c) hrx.1 _ Try.underlying51 rfl (by rw [size_ce, ceL_len]) ?_
              exact hK _ _ ⟨_, rfl, Reg.KJ.refl _, fun d hd => by cases hd; exact rfl, fun h => by cases h⟩
            · intro x u hku hd
              refine wpOp_step rfl fun KK hK => ?_
              go_simp
              exact hK _ _ ⟨_, rfl, Reg.KJ.refl _, fun d hd => by cases hd; exact rfl, fun h => by cases h⟩
            · intro x u hku hd
              have h78 : x 78 = .slice (some ⟨gT, 0, none⟩) N N := hd 5 (by decide)
              have hrx := HRX.out u hku.below
              have lx := hrx.2.1
              refine wpOp_step rfl fun KK hK => ?_
              refine Reg.step_append_G rfl (.const (.slice none 0 0)) (.tmp 78) 52 (by rfl) u.heap.size 118 i0 _ 56 136 elemHelds HI.out HZ0.out HZ1.out HZ2.out (by simp [Value.cells, heL_len]) (by decide) none 0 0 [] (by simp [Act.eval]) ownsF_nil gT N N (hesL (truA m C) N) (by simpa [Act.eval] using h78) hrx.2.2 (hesL_len _ _) (hesL_one _ _) (by omega) (by unfold maxLen; omega) (by omega) (Nat.le_refl _) ?_
              intro A2 p2 w2 q1 q2 _
              rw [Nat.zero_add, List.nil_append] at q1
              obtain ⟨g2, rfl, l2, t2⟩ := TbZ.of_owns q1 (by omega)
              exact hK _ _ ⟨_, rfl, Reg.KJ.grow (by simp) hku.size q2, fun d hd => by cases hd; exact ⟨g2, p2, by rw [Nat.zero_add], Nat.le_trans hku.size l2, t2⟩, fun h => by cases h⟩
            · intro x u hku hd
              have h77 : x 77 = .agg (ceL X.c).toArray := hd 4 (by decide)
              have k79 : (Reg.FactK.tz wr.heap.size N (truA m C) : Reg.FactK (Reg.KJ wr.heap.size [] [])).P (x 79) u := hd 6 (by decide)
              obtain ⟨g79, p79, h79, l79, q79⟩ := k79
              refine wpOp_step rfl fun KK hK => ?_
              refine Reg.step_build (by rfl) 54 _ (by rfl) _ (by simpa [Act.eval, h77, h79] using HBX.out g79 p79) ?_
              exact hK _ _ ⟨_, rfl, Reg.KJ.refl _, fun d hd => by cases hd; exact ⟨g79, p79, rfl, l79, q79⟩, fun h => by cases h⟩
            · intro x u hku hd
              refine wpOp_step rfl fun KK hK => ?_
              go_simp
              exact hK _ _ ⟨_, rfl, Reg.KJ.grow (by simp) hku.size (below_al (Below.refl _ _) _), fun d hd => by cases hd; exact ⟨u.heap.size, rfl, hku.size, _, rfl, Blk.new u _ _⟩, fun h => by cases h⟩
          · intro y V1 hku hdd
            obtain ⟨g, p, e80, lg, q1⟩ := hdd 7 (by decide)
            obtain ⟨gr, e13, lr, Z, hZ, q2⟩ := hdd 8 (by decide)
            have e80' : y 80 = .agg (roL true X.c (some ⟨g, 0, none⟩) N p).toArray := e80
            have e13' : y 13 = .pointer (some ⟨gr, 0, none⟩) := e13
            have HV1 := Lib.hid hku.belowA
            have HQ1 := Lib.hid q1
            have HQ2 := Lib.hid q2.pin
            have HZL := Lib.hid hZ
            have HNE := Lib.hid (show g ≠ gr by obtain ⟨Z1, h1⟩ := q1; exact h1.ne q2 (by decide))
            clear hku hdd e80 e13 q1 q2 hZ
            simp only [Reg.frame, Reg.over, Nat.reduceAdd, Nat.reduceLeDiff, Nat.reduceBEq, Bool.or_true, Bool.or_false, decide_true, decide_false, if_true, Bool.false_eq_true, if_false, Bool.and_true, Bool.and_false, e80', e13']
            go_upto_region 15 with (refine wpList_store_pin rfl 54 (.tmp 13) (.tmp 80) rfl HQ2.out (roL true X.c (some ⟨g, 0, none⟩) N p) (by simp [Act.eval, Act.put]) (by simp [Act.eval, Act.put]) 57 size_row HZL.out (roL_len _ _ _ _ _) (roL_one _ _ _ _ _) ?_; intro V2 p1 b1; have HR2 := Lib.hid p1.blk_; have HB2 := Lib.hid b1; clear p1 b1)
            have HW2 := Lib.hid (HV1.out.trans (HB2.out.low lr))
            have HT2 : Hid (TbZ V2 g N (truA m C)) := Lib.hid (by obtain ⟨Z1, h1⟩ := HQ1.out; exact ⟨Z1, HB2.out.blk h1 HNE.out⟩)
            clear HV1 HQ1 HQ2 HZL HB2
            obtain ⟨Z2, hp2⟩ := HT2.out.pin lbad
            have HP2 := Lib.hid hp2
            have c56 := HR2.out.rowTab
            have l2 := HR2.out.lt
            have hixg := fun W => idxHelds (A := some ⟨g, 0, none⟩) (n := N) p rfl lbad W
            simp only [Nat.zero_add] at hixg
            clear hp2
            go_upto_region 16 with (first
              | (refine wpList_build rfl 118 _ rfl (heL heN).toArray (by simpa [Act.eval, Act.put] using builtHeld0) ?_)
              | (refine wpList_store_pin rfl 118 (.tmp 85) (.tmp 84) rfl HP2.out (heL heN) (by simp [Act.eval, Act.put]) (by simp [Act.eval, Act.put]) 56 size_he (heL_len _) (heL_len _) (heL_one _) ?_; intro V3 p1 b1; have HP3 := Lib.hid p1; have HB3 := Lib.hid b1; clear p1 b1))
            have HT3 : Hid (TbZ V3 g N (fun s => if s = bad then heN else truA m C s)) := Lib.hid (TbZ.of_pin lbad HP3.out)
            have HR3 : Hid (Blk V3 gr 54 (roL true X.c (some ⟨g, 0, none⟩) N p).toArray) := Lib.hid (HB3.out.blk HR2.out (Ne.symm HNE.out))
            have HW3 := Lib.hid (HW2.out.trans (HB3.out.low lg))
            have HPV := Lib.hid (HP.out.on HW3.out)
            clear HP3 HB3 HT2 HR2 HW2 HP2 c56 l2
            have cx1 := HPV.out.p.p.x.cell 1
            have lx := HPV.out.p.p.x.lt
            simp only [On.l] at cx1
            by_cases hn : 0 < xo.n
            · have dn : decide (0 < (xo.n : Int)) = true := decide_eq_true (by omega)
              obtain ⟨j, hj⟩ : ∃ j, j = k % xo.n := ⟨_, rfl⟩
              have lj : j < xo.n := by rw [hj]; exact Nat.mod_lt _ hn
              have HJT : Hid ((k : Int).tmod (xo.n : Int) = (j : Int)) := Lib.hid (by rw [hj]; rfl)
              have HJM : Hid ((k : Int) % (xo.n : Int) = (j : Int)) := Lib.hid (by rw [hj]; rfl)
              obtain ⟨Y, hY⟩ : ∃ Y : He, Y = xo.H j := ⟨_, rfl⟩
              obtain ⟨tb, to_, hxB, htb, htr⟩ := HXI.out.t.t hn
              have HYR : Hid (∀ u, Below wr.heap.size wr u → u.rangeAt tb (to_ + j * 56) (heL Y)) := Lib.hid (fun u hu i v hv => ((below_then HP.out.p.p.b hu).cell (p := ⟨tb, _, none⟩) htb).trans (htr j lj i v (by rw [← hY]; exact hv)))
              have HXB := Lib.hid hxB
              have HYE := Lib.hid (show Y = hoA xo k by rw [hY, hj, hoA, if_pos hn])
              have HTJ := HT3
              clear hY hj htb htr hxB
              go_upto_region 17 with fail
              refine Reg.wp_prefix 13 (by kernel_rfl) (fun t => decide (90 ≤ t) && decide (t ≤ 102)) (Reg.KJ V3.heap.size [] []) (Reg.KJ.drew _ (by simp)) Reg.KJ.trans (by kernel_rfl) (by kernel_rfl) (by kernel_rfl) (by kernel_rfl) (fun zz => (Reg.tblK [
                (90, .is (.pointer (some ⟨gr, 56, none⟩))),
                (91, .is (.slice (some ⟨g, 0, none⟩) N p)),
                (92, .is (.int .i64 (bad : Int))),
                (93, .is (.pointer (some ⟨gx, 1, none⟩))),
                (94, .is (.slice xo.B xo.n xo.d)),
                (95, .is (.int .i64 (k : Int))),
                (96, .is (.pointer (some ⟨gx, 1, none⟩))),
                (97, .is (.slice xo.B xo.n xo.d)),
                (98, .is (.int .i64 (xo.n : Int))),
                (99, .is (.int .i64 (j : Int))),
                (100, .is (.pointer (some ⟨tb, to_ + j * 56, none⟩))),
                (101, .is (.agg (heL Y).toArray)),
                (102, .is (.pointer (some ⟨g, bad * 56, none⟩)))] zz).P) (fun zz => (Reg.tblK _ zz).on) (fun zz => (Reg.memK [] zz).P) (fun zz => (Reg.memK _ zz).on) ?_ ?_
              · simp only [Reg.frame, Reg.over, Nat.reduceAdd, Nat.reduceLeDiff, decide_true, decide_false, if_true, Bool.false_eq_true, if_false, Bool.and_true, Bool.and_false]
                refine ⟨?_, ?_, ?_, ?_, ?_, ?_, ?_, ?_, ?_, ?_, ?_, ?_, ?_, trivial⟩
                · intro x u hku hd
                  have hb := hku.belowA
                  have c56 := (HR3.out.on hb).rowTab
                  have l3 := (HR3.out.on hb).lt
                  refine wpOp_step rfl fun KK hK => ?_
                  go_simp
                  exact hK _ _ ⟨_, rfl, Reg.KJ.refl _, fun d hd => by cases hd; exact rfl, fun h => by cases h⟩
                · intro x u hku hd
                  have h90 : x 90 = .pointer (some ⟨gr, 56, none⟩) := hd 0 (by decide)
                  have hb := hku.belowA
                  have c56 := (HR3.out.on hb).rowTab
                  have l3 := (HR3.out.on hb).lt
                  refine wpOp_step rfl fun KK hK => ?_
                  simp only [h90] at hK ⊢
                  go_simp
                  exact hK _ _ ⟨_, rfl, Reg.KJ.refl _, fun d hd => by cases hd; exact rfl, fun h => by cases h⟩
                · intro x u hku hd
                  refine wpOp_step rfl fun KK hK => ?_
                  go_simp
                  exact hK _ _ ⟨_, rfl, Reg.KJ.refl _, fun d hd => by cases hd; exact rfl, fun h => by cases h⟩
                · intro x u hku hd
                  have hb := hku.belowA
                  have cx1' := (HPV.out.on hb).p.p.x.cell 1
                  have lx' := (HPV.out.on hb).p.p.x.lt
                  simp only [On.l] at cx1'
                  refine wpOp_step rfl fun KK hK => ?_
                  go_simp
                  exact hK _ _ ⟨_, rfl, Reg.KJ.refl _, fun d hd => by cases hd; exact rfl, fun h => by cases h⟩
                · intro x u hku hd
                  have h93 : x 93 = .pointer (some ⟨gx, 1, none⟩) := hd 3 (by decide)
                  have hb := hku.belowA
                  have cx1' := (HPV.out.on hb).p.p.x.cell 1
                  have lx' := (HPV.out.on hb).p.p.x.lt
                  simp only [On.l] at cx1'
                  refine wpOp_step rfl fun KK hK => ?_
                  simp only [h93] at hK ⊢
                  go_simp
                  exact hK _ _ ⟨_, rfl, Reg.KJ.refl _, fun d hd => by cases hd; exact rfl, fun h => by cases h⟩
                · intro x u hku hd
                  refine wpOp_step rfl fun KK hK => ?_
                  go_simp
                  exact hK _ _ ⟨_, rfl, Reg.KJ.refl _, fun d hd => by cases hd; exact rfl, fun h => by cases h⟩
                · intro x u hku hd
                  have hb := hku.belowA
                  have cx1' := (HPV.out.on hb).p.p.x.cell 1
                  have lx' := (HPV.out.on hb).p.p.x.lt
                  simp only [On.l] at cx1'
                  refine wpOp_step rfl fun KK hK => ?_
                  go_simp
                  exact hK _ _ ⟨_, rfl, Reg.KJ.refl _, fun d hd => by cases hd; exact rfl, fun h => by cases h⟩
                · intro x u hku hd
                  have h96 : x 96 = .pointer (some ⟨gx, 1, none⟩) := hd 6 (by decide)
                  have hb := hku.belowA
                  have cx1' := (HPV.out.on hb).p.p.x.cell 1
                  have lx' := (HPV.out.on hb).p.p.x.lt
                  simp only [On.l] at cx1'
                  refine wpOp_step rfl fun KK hK => ?_
                  simp only [h96] at hK ⊢
                  go_simp
                  exact hK _ _ ⟨_, rfl, Reg.KJ.refl _, fun d hd => by cases hd; exact rfl, fun h => by cases h⟩
                · intro x u hku hd
                  have h97 : x 97 = .slice xo.B xo.n xo.d := hd 7 (by decide)
                  refine wpOp_step rfl fun KK hK => ?_
                  simp only [h97] at hK ⊢
                  go_simp
                  exact hK _ _ ⟨_, rfl, Reg.KJ.refl _, fun d hd => by cases hd; exact rfl, fun h => by cases h⟩
                · intro x u hku hd
                  have h95 : x 95 = .int .i64 (k : Int) := hd 5 (by decide)
                  have h98 : x 98 = .int .i64 (xo.n : Int) := hd 8 (by decide)
                  have hqm := HJM.out
                  have hqt := HJT.out
                  have hn0 : xo.n ≠ 0 := by omega
                  have hw : IntKind.i64.wrap (j : Int) = (j : Int) := IntWalk.i64_in _ (by have := HLE.out; omega)
                  refine wpOp_step rfl fun KK hK => ?_
                  simp only [h95, h98] at hK ⊢
                  go_simp
                  exact hK _ _ ⟨_, rfl, Reg.KJ.refl _, fun d hd => by cases hd; exact rfl, fun h => by cases h⟩
                · intro x u hku hd
                  have h94 : x 94 = .slice xo.B xo.n xo.d := hd 4 (by decide)
                  have h99 : x 99 = .int .i64 (j : Int) := hd 9 (by decide)
                  have hixb := fun W => idxHelds (A := xo.B) (n := xo.n) xo.d HXB.out lj W
                  refine wpOp_step rfl fun KK hK => ?_
                  simp only [h94, h99] at hK ⊢
                  go_simp
                  exact hK _ _ ⟨_, rfl, Reg.KJ.refl _, fun d hd => by cases hd; exact rfl, fun h => by cases h⟩
                · intro x u hku hd
                  have h100 : x 100 = .pointer (some ⟨tb, to_ + j * 56, none⟩) := hd 10 (by decide)
                  refine wpOp_step rfl fun KK hK => ?_
                  refine Reg.step_load_mid (by rfl) 118 (.tmp 100) (by rfl) tb (to_ + j * 56) (by exact h100) (heL Y) (HYR.out u (below_then HW3.out hku.belowA)) _ Try.underlying118 rfl (by rw [size_he, heL_len]) ?_
                  exact hK _ _ ⟨_, rfl, Reg.KJ.refl _, fun d hd => by cases hd; exact rfl, fun h => by cases h⟩
                · intro x u hku hd
                  have h91 : x 91 = .slice (some ⟨g, 0, none⟩) N p := hd 1 (by decide)
                  have h92 : x 92 = .int .i64 (bad : Int) := hd 2 (by decide)
                  refine wpOp_step rfl fun KK hK => ?_
                  simp only [h91, h92] at hK ⊢
                  go_simp
                  exact hK _ _ ⟨_, rfl, Reg.KJ.refl _, fun d hd => by cases hd; exact rfl, fun h => by cases h⟩
              · intro y2 V4 hku hdd
                have e101 : y2 101 = .agg (heL Y).toArray := hdd 11 (by decide)
                have e102 : y2 102 = .pointer (some ⟨g, bad * 56, none⟩) := hdd 12 (by decide)
                have HW34 := Lib.hid hku.belowA
                obtain ⟨Z3, hp3⟩ := (HT3.out.on HW34.out).pin lbad
                have HP3 := Lib.hid hp3
                clear hku hdd hp3 cx1 lx
                simp only [Reg.frame, Reg.over, Nat.reduceAdd, Nat.reduceLeDiff, decide_true, decide_false, if_true, Bool.false_eq_true, if_false, Bool.and_true, Bool.and_false, e101, e102]
                go_upto_region 18 with (refine wpList_store_pin rfl 118 (.tmp 102) (.tmp 101) rfl HP3.out (heL Y) (by simp [Act.eval, Act.put]) (by simp [Act.eval, Act.put]) 56 size_he (heL_len _) (heL_len _) (heL_one _) ?_; intro V p1 b1; have HP4 := Lib.hid p1; have HB4 := Lib.hid b1; clear p1 b1)
                have HTV : Hid (TbZ V g N (tabA m C xo bad k)) := Lib.hid ((TbZ.of_pin lbad HP4.out).congr fun s hs => by
                  unfold tabA
                  by_cases e : s = bad
                  · rw [if_pos e, if_pos e, HYE.out]
                  · rw [if_neg e, if_neg e, if_neg e])
                have HRV : Hid (Blk V gr 54 (roL true X.c (some ⟨g, 0, none⟩) N p).toArray) := Lib.hid (HB4.out.blk (HR3.out.on HW34.out) (Ne.symm HNE.out))
                have HWV := Lib.hid ((below_then HW3.out HW34.out).trans (HB4.out.low lg))
                clear HP3 HP4 HB4 HW34 HT3 HR3 HW3 HPV HTJ HYR HYE HXB
                have HPV := Lib.hid (HP.out.on HWV.out)
                have HBV := Lib.hid (below_al (Below.refl V.heap.size V) (.cells (roL true X.c (some ⟨g, 0, none⟩) N p).toArray 54))
                have HGE := Lib.hid (show gT + 1 ≤ wr.heap.size from HLO.out)
                have HGV := Lib.hid (show gT + 1 ≤ V.heap.size from Nat.le_trans HGE.out HWV.out.size)
                have lg' := Nat.le_trans HGE.out lg
                clear HWV
                go_wp2_with (first
                  | (refine wpList_load_pin rfl 54 (.tmp 13) rfl HRV.out.pin (by simp [Act.eval, Act.put]) _ Try.underlying54 rfl 57 size_row (roL_len _ _ _ _ _) ?_)
                  | (refine wpList_bsl rfl 32 1 _ rfl #[(0, .agg (roL true X.c (some ⟨g, 0, none⟩) N p).toArray)] (by simp [Act.eval, Act.put]) _ _ (HBS.out V _ (roL_len _ _ _ _ _)) ?_)
                  | (at_builtin; refine wpList_append_G rfl (.tmp 103) (.tmp 105) 32 rfl (gT + 1) 54 r0 _ 57 160 elemRows RI.out RZ0.out RZ1.out RZ2.out (by simp [Value.cells, roL_len]) (by decide) A' k c' _ (by simp [Act.eval, Act.put]) (HPV.out.on HBV.out).o V.heap.size 1 1 (roL true X.c (some ⟨g, 0, none⟩) N p) (by simp [Act.eval, Act.put]) (Blk.new V _ _) (roL_len _ _ _ _ _) (roL_one _ _ _ _ _) (by decide) (by unfold maxLen; omega) (by omega) (Nat.le_trans HGV.out HBV.out.size) ?_; intro A2 c2 w2 q1 q2 q3; have HO2 := Lib.hid q1; have HO3 := Lib.hid q2; have HO4 := Lib.hid q3; clear q1 q2 q3))
                go_roundw
                case rel => exact ⟨k + 1, by omega, by go_num, A2, c2, _, rfl, Lib.hid (P3.step (r := ⟨true, X.c, some ⟨g, 0, none⟩, N, p, tabA m C xo bad k⟩) (HPV.out.on HBV.out) ⟨g, p, by rw [HXE.out], lg', HTV.out.on HBV.out⟩ HO2.out HO3.out HO4.out)⟩
                case measure => simp [intOf]; omega
            · have dn : decide (0 < (xo.n : Int)) = false := decide_eq_false (by omega)
              have HTV : Hid (TbZ V3 g N (tabA m C xo bad k)) := Lib.hid (HT3.out.congr fun s hs => by rw [tabA, hoA, if_neg hn])
              have HRV := HR3
              have HWV := HW3
              clear HT3 HR3 HW3 HPV
              go_upto_region 18 with fail
              clear cx1 lx dn
              obtain ⟨V, hV⟩ : ∃ V, V = V3 := ⟨_, rfl⟩
              rw [← hV] at HTV HRV HWV ⊢
              clear hV
              have HPV := Lib.hid (HP.out.on HWV.out)
              have HBV := Lib.hid (below_al (Below.refl V.heap.size V) (.cells (roL true X.c (some ⟨g, 0, none⟩) N p).toArray 54))
              have HGE := Lib.hid (show gT + 1 ≤ wr.heap.size from HLO.out)
              have HGV := Lib.hid (show gT + 1 ≤ V.heap.size from Nat.le_trans HGE.out HWV.out.size)
              have lg' := Nat.le_trans HGE.out lg
              clear HWV
              go_wp2_with (first
                | (refine wpList_load_pin rfl 54 (.tmp 13) rfl HRV.out.pin (by simp [Act.eval, Act.put]) _ Try.underlying54 rfl 57 size_row (roL_len _ _ _ _ _) ?_)
                | (refine wpList_bsl rfl 32 1 _ rfl #[(0, .agg (roL true X.c (some ⟨g, 0, none⟩) N p).toArray)] (by simp [Act.eval, Act.put]) _ _ (HBS.out V _ (roL_len _ _ _ _ _)) ?_)
                | (at_builtin; refine wpList_append_G rfl (.tmp 103) (.tmp 105) 32 rfl (gT + 1) 54 r0 _ 57 160 elemRows RI.out RZ0.out RZ1.out RZ2.out (by simp [Value.cells, roL_len]) (by decide) A' k c' _ (by simp [Act.eval, Act.put]) (HPV.out.on HBV.out).o V.heap.size 1 1 (roL true X.c (some ⟨g, 0, none⟩) N p) (by simp [Act.eval, Act.put]) (Blk.new V _ _) (roL_len _ _ _ _ _) (roL_one _ _ _ _ _) (by decide) (by unfold maxLen; omega) (by omega) (Nat.le_trans HGV.out HBV.out.size) ?_; intro A2 c2 w2 q1 q2 q3; have HO2 := Lib.hid q1; have HO3 := Lib.hid q2; have HO4 := Lib.hid q3; clear q1 q2 q3))
              go_roundw
              case rel => exact ⟨k + 1, by omega, by go_num, A2, c2, _, rfl, Lib.hid (P3.step (r := ⟨true, X.c, some ⟨g, 0, none⟩, N, p, tabA m C xo bad k⟩) (HPV.out.on HBV.out) ⟨g, p, by rw [HXE.out], lg', HTV.out.on HBV.out⟩ HO2.out HO3.out HO4.out)⟩
              case measure => simp [intOf]; omega
        · obtain rfl : N = k := by omega
          obtain ⟨W, hW⟩ : ∃ W, W = agW N m C bad Rs := ⟨_, rfl⟩
          have HWE := Lib.hid hW
          clear hW
          have HP3 := HP
          go_upto_region 20 with fail
          go_wp2_with fail
          go_loopw [14, 15] (fun v iv wi => ∃ i : Nat, i ≤ N ∧ iv = .int .i64 (i : Int) ∧ Hid (P3 w z0 z1 xo gz gx gT m C N bad N A' c' Rs wi) ∧ Hid (FirstA wi N W v)) (fun _ iv _ => N - (intOf iv).toNat)
          case atStart => exact ⟨0, by omega, rfl, HP3, Lib.hid (.inl rfl)⟩
          case round =>
            clear HP HP3
            obtain ⟨i, hi, rfl, HP, HF⟩ := hrel
            by_cases hlt : i < N
            · have dk : decide ((i : Int) < (N : Int)) = true := decide_eq_true (by omega)
              by_cases hib : i = bad
              · obtain rfl : bad = i := hib.symm
                go_wp2_with fail
                go_roundw
                case rel => exact ⟨bad + 1, by omega, by go_num, HP, HF⟩
                case measure => simp [intOf]; omega
              · have e1 : ((i : Int) == (bad : Int)) = false := by simp; omega
                have e2 : (i == bad) = false := by simp; omega
                obtain ⟨gR, rfl, _, _, hcR⟩ := ownsF_get HP.out.o (by omega)
                have HCR := Lib.hid hcR
                clear hcR
                have hixr : ∀ g W', (Instr.indexAt 32 (.slice (some ⟨g, 0, none⟩) N W') (.int .i64 (bad : Int))).run Try.prog wr = .ok (.pointer (some ⟨g, bad * 57, none⟩)) wr := fun g W' => by rw [idxRows (A := some ⟨g, 0, none⟩) (n := N) W' rfl lbad]; simp
                clear hixr
                go_upto_region 25 with (at_builtin; refine wpList_append_S rfl (.const (.slice none 0 0)) (.tmp 115) 32 rfl wr.heap.size 54 r0 _ 57 160 elemRows RI.out RZ0.out RZ1.out RZ2.out (by simp [Value.cells, roL_len]) (by decide) none 0 0 [] (by simp [Act.eval, Act.put]) ownsF_nil gR N c' (flL (fun j => (Rs j).l) N) (by simp [Act.eval, Act.put]) HCR.out (flL_len (fun _ => Rw.l_len _) _) (flL_oneA (fun _ => roL_one _ _ _ _ _)) (by omega) (by unfold maxLen; omega) (by omega) (Nat.le_refl _) ?_; intro A2 c2 V1 q1 q2 _; rw [show 0 + N = N from Nat.zero_add N, List.nil_append] at q1; rw [show 0 + N = N from Nat.zero_add N]; obtain ⟨g, Z, rfl, lg, lc, q3⟩ := rows_of_owns q1 (by omega); have HB1 := Lib.hid q2; have HQ1 := Lib.hid q3; clear q1 q2 q3)
                have hixg : ∀ W', (Instr.indexAt 32 (.slice (some ⟨g, 0, none⟩) N c2) (.int .i64 (bad : Int))).run Try.prog W' = .ok (.pointer (some ⟨g, bad * 57, none⟩)) W' := fun W' => by rw [idxRows (A := some ⟨g, 0, none⟩) (n := N) c2 rfl lbad]; simp
                have HPN := Lib.hid (rows_pin (f := fun j => (Rs j).l) (fun _ => Rw.l_len _) HQ1.out lbad)
                have HRB := Lib.hid built_row0
                go_upto_region 26 with (first
                  | (refine wpList_build rfl 54 _ rfl rwN.l.toArray (by simpa [Act.eval, Act.put] using HRB.out) ?_)
                  | (refine wpList_store_pin rfl 54 (.tmp 120) (.tmp 119) rfl HPN.out rwN.l (by simp [Act.eval, Act.put]) (by simp [Act.eval, Act.put]) 57 size_row (Rw.l_len _) (Rw.l_len _) (roL_one _ _ _ _ _) ?_; intro V2 p1 b1; have HPM := Lib.hid p1; have HB2 := Lib.hid b1; clear p1 b1))
                have HQ2 := Lib.hid (rows_set (f := fun j => (Rs j).l) lbad HPM.out)
                have HW2 := Lib.hid (HB1.out.trans (HB2.out.low lg))
                clear HQ1 HPN HPM HB1 HB2
                have HPV := Lib.hid (HP.out.on HW2.out)
                have cx0 := HPV.out.p.p.x.cell 0
                have lx := HPV.out.p.p.x.lt
                simp only [On.l] at cx0
                by_cases hn : 0 < xo.m
                · have dn : decide (0 < (xo.m : Int)) = true := decide_eq_true (by omega)
                  obtain ⟨j, hj⟩ : ∃ j, j = i % xo.m := ⟨_, rfl⟩
                  have lj : j < xo.m := by rw [hj]; exact Nat.mod_lt _ hn
                  have HJT : Hid ((i : Int).tmod (xo.m : Int) = (j : Int)) := Lib.hid (by rw [hj]; rfl)
                  have HJM : Hid ((i : Int) % (xo.m : Int) = (j : Int)) := Lib.hid (by rw [hj]; rfl)
                  obtain ⟨Y, hY⟩ : ∃ Y : Rw, Y = xo.R j := ⟨_, rfl⟩
                  obtain ⟨tb, to_, hxB, htb, htr⟩ := HXI.out.r.r.f hn
                  have HYR : Hid (∀ u, Below wr.heap.size wr u → u.rangeAt tb (to_ + j * 57) Y.l) := Lib.hid (fun u hu q v hv => ((below_then HP.out.p.p.b hu).cell (p := ⟨tb, _, none⟩) htb).trans (htr j lj q v (by show (xo.R j).l[q]? = some v; rw [← hY]; exact hv)))
                  have HXB := Lib.hid hxB
                  have HYE := Lib.hid (show Y = faA xo i by rw [hY, hj, faA, if_pos hn])
                  clear hY hj htb htr hxB
                  go_upto_region 27 with fail
                  refine Reg.wp_prefix 12 (by kernel_rfl) (fun t => decide (125 ≤ t) && decide (t ≤ 136)) (Reg.KJ V2.heap.size [] []) (Reg.KJ.drew _ (by simp)) Reg.KJ.trans (by kernel_rfl) (by kernel_rfl) (by kernel_rfl) (by kernel_rfl) (fun zz => (Reg.tblK [
                    (125, .is (.slice (some ⟨g, 0, none⟩) N c2)),
                    (126, .is (.int .i64 (bad : Int))),
                    (127, .is (.pointer (some ⟨gx, 0, none⟩))),
                    (128, .is (.slice xo.A xo.m xo.c)),
                    (129, .is (.int .i64 (i : Int))),
                    (130, .is (.pointer (some ⟨gx, 0, none⟩))),
                    (131, .is (.slice xo.A xo.m xo.c)),
                    (132, .is (.int .i64 (xo.m : Int))),
                    (133, .is (.int .i64 (j : Int))),
                    (134, .is (.pointer (some ⟨tb, to_ + j * 57, none⟩))),
                    (135, .is (.agg Y.l.toArray)),
                    (136, .is (.pointer (some ⟨g, bad * 57, none⟩)))] zz).P) (fun zz => (Reg.tblK _ zz).on) (fun zz => (Reg.memK [] zz).P) (fun zz => (Reg.memK _ zz).on) ?_ ?_
                  · simp only [Reg.frame, Reg.over, Nat.reduceAdd, Nat.reduceLeDiff, decide_true, decide_false, if_true, Bool.false_eq_true, if_false, Bool.and_true, Bool.and_false]
                    refine ⟨?_, ?_, ?_, ?_, ?_, ?_, ?_, ?_, ?_, ?_, ?_, ?_, trivial⟩
                    · intro x u hku hd
                      refine wpOp_step rfl fun KK hK => ?_
                      go_simp
                      exact hK _ _ ⟨_, rfl, Reg.KJ.refl _, fun d hd => by cases hd; exact rfl, fun h => by cases h⟩
                    · intro x u hku hd
                      refine wpOp_step rfl fun KK hK => ?_
                      go_simp
                      exact hK _ _ ⟨_, rfl, Reg.KJ.refl _, fun d hd => by cases hd; exact rfl, fun h => by cases h⟩
                    · intro x u hku hd
                      have hb := hku.belowA
                      have cx1' := (HPV.out.on hb).p.p.x.cell 0
                      have lx' := (HPV.out.on hb).p.p.x.lt
                      simp only [On.l] at cx1'
                      refine wpOp_step rfl fun KK hK => ?_
                      go_simp
                      exact hK _ _ ⟨_, rfl, Reg.KJ.refl _, fun d hd => by cases hd; exact rfl, fun h => by cases h⟩
                    · intro x u hku hd
                      have h127 : x 127 = .pointer (some ⟨gx, 0, none⟩) := hd 2 (by decide)
                      have hb := hku.belowA
                      have cx1' := (HPV.out.on hb).p.p.x.cell 0
                      have lx' := (HPV.out.on hb).p.p.x.lt
                      simp only [On.l] at cx1'
                      refine wpOp_step rfl fun KK hK => ?_
                      simp only [h127] at hK ⊢
                      go_simp
                      exact hK _ _ ⟨_, rfl, Reg.KJ.refl _, fun d hd => by cases hd; exact rfl, fun h => by cases h⟩
                    · intro x u hku hd
                      refine wpOp_step rfl fun KK hK => ?_
                      go_simp
                      exact hK _ _ ⟨_, rfl, Reg.KJ.refl _, fun d hd => by cases hd; exact rfl, fun h => by cases h⟩
                    · intro x u hku hd
                      have hb := hku.belowA
                      have cx1' := (HPV.out.on hb).p.p.x.cell 0
                      have lx' := (HPV.out.on hb).p.p.x.lt
                      simp only [On.l] at cx1'
                      refine wpOp_step rfl fun KK hK => ?_
                      go_simp
                      exact hK _ _ ⟨_, rfl, Reg.KJ.refl _, fun d hd => by cases hd; exact rfl, fun h => by cases h⟩
                    · intro x u hku hd
                      have h130 : x 130 = .pointer (some ⟨gx, 0, none⟩) := hd 5 (by decide)
                      have hb := hku.belowA
                      have cx1' := (HPV.out.on hb).p.p.x.cell 0
                      have lx' := (HPV.out.on hb).p.p.x.lt
                      simp only [On.l] at cx1'
                      refine wpOp_step rfl fun KK hK => ?_
                      simp only [h130] at hK ⊢
                      go_simp
                      exact hK _ _ ⟨_, rfl, Reg.KJ.refl _, fun d hd => by cases hd; exact rfl, fun h => by cases h⟩
                    · intro x u hku hd
                      have h131 : x 131 = .slice xo.A xo.m xo.c := hd 6 (by decide)
                      refine wpOp_step rfl fun KK hK => ?_
                      simp only [h131] at hK ⊢
                      go_simp
                      exact hK _ _ ⟨_, rfl, Reg.KJ.refl _, fun d hd => by cases hd; exact rfl, fun h => by cases h⟩
                    · intro x u hku hd
                      have h129 : x 129 = .int .i64 (i : Int) := hd 4 (by decide)
                      have h132 : x 132 = .int .i64 (xo.m : Int) := hd 7 (by decide)
                      have hqm := HJM.out
                      have hqt := HJT.out
                      have hn0 : xo.m ≠ 0 := by omega
                      have hw : IntKind.i64.wrap (j : Int) = (j : Int) := IntWalk.i64_in _ (by have := HLE.out; omega)
                      refine wpOp_step rfl fun KK hK => ?_
                      simp only [h129, h132] at hK ⊢
                      go_simp
                      exact hK _ _ ⟨_, rfl, Reg.KJ.refl _, fun d hd => by cases hd; exact rfl, fun h => by cases h⟩
                    · intro x u hku hd
                      have h128 : x 128 = .slice xo.A xo.m xo.c := hd 3 (by decide)
                      have h133 : x 133 = .int .i64 (j : Int) := hd 8 (by decide)
                      have hixb := fun W => idxRows (A := xo.A) (n := xo.m) xo.c HXB.out lj W
                      refine wpOp_step rfl fun KK hK => ?_
                      simp only [h128, h133] at hK ⊢
                      go_simp
                      exact hK _ _ ⟨_, rfl, Reg.KJ.refl _, fun d hd => by cases hd; exact rfl, fun h => by cases h⟩
                    · intro x u hku hd
                      have h134 : x 134 = .pointer (some ⟨tb, to_ + j * 57, none⟩) := hd 9 (by decide)
                      refine wpOp_step rfl fun KK hK => ?_
                      refine Reg.step_load_mid (by rfl) 54 (.tmp 134) (by rfl) tb (to_ + j * 57) (by exact h134) Y.l (HYR.out u (below_then HW2.out hku.belowA)) _ Try.underlying54 rfl (by rw [size_row, Rw.l_len]) ?_
                      exact hK _ _ ⟨_, rfl, Reg.KJ.refl _, fun d hd => by cases hd; exact rfl, fun h => by cases h⟩
                    · intro x u hku hd
                      have h125 : x 125 = .slice (some ⟨g, 0, none⟩) N c2 := hd 0 (by decide)
                      have h126 : x 126 = .int .i64 (bad : Int) := hd 1 (by decide)
                      refine wpOp_step rfl fun KK hK => ?_
                      simp only [h125, h126] at hK ⊢
                      go_simp
                      exact hK _ _ ⟨_, rfl, Reg.KJ.refl _, fun d hd => by cases hd; exact rfl, fun h => by cases h⟩
                  · intro y2 V4 hku hdd
                    have e135 : y2 135 = .agg Y.l.toArray := hdd 10 (by decide)
                    have e136 : y2 136 = .pointer (some ⟨g, bad * 57, none⟩) := hdd 11 (by decide)
                    have HW34 := Lib.hid hku.belowA
                    have HPN := Lib.hid (rows_pin (f := fun i => if i = bad then rwN.l else (Rs i).l) (fun i => by show (if i = bad then rwN.l else (Rs i).l).length = 57; split <;> exact Rw.l_len _) (HQ2.out.on HW34.out) lbad)
                    have HLR : Hid ((if bad = bad then rwN.l else (Rs bad).l).length = 57) := Lib.hid (by rw [if_pos rfl]; exact Rw.l_len _)
                    clear hku hdd cx0 lx
                    simp only [Reg.frame, Reg.over, Nat.reduceAdd, Nat.reduceLeDiff, decide_true, decide_false, if_true, Bool.false_eq_true, if_false, Bool.and_true, Bool.and_false, e135, e136]
                    go_upto_region 28 with (refine wpList_store_pin rfl 54 (.tmp 136) (.tmp 135) rfl HPN.out Y.l (by simp [Act.eval, Act.put]) (by simp [Act.eval, Act.put]) 57 size_row HLR.out (Rw.l_len _) (roL_one _ _ _ _ _) ?_; intro V p1 b1; have HP4 := Lib.hid p1; have HB4 := Lib.hid b1; clear p1 b1)
                    have HWV := Lib.hid ((below_then HW2.out HW34.out).trans (HB4.out.low lg))
                    have HBV : Hid (Blk V g 54 (flL (fun j => (hRow xo bad Rs i j).l) N ++ Z).toArray) := Lib.hid (by
                      have h := rows_set (f := fun i => if i = bad then rwN.l else (Rs i).l) lbad HP4.out
                      rwa [flL_congr (h := fun j => (hRow xo bad Rs i j).l) (fun q hq => by
                        unfold hRow
                        by_cases e : q = bad
                        · rw [if_pos e, if_pos e, HYE.out]
                        · rw [if_neg e, if_neg e, if_neg e])] at h)
                    clear HPN HP4 HB4 HW34 HQ2 HW2 HPV HYR HYE HXB HJT HJM HLR
                    have HPV := Lib.hid (HP.out.on HWV.out)
                    have HFV : Hid (FirstA V N W _) := Lib.hid (HF.out.on HWV.out)
                    have HAGR := Lib.hid (agree_row lN lbad HCI.out HXI.out HPV.out i g c2 lc Z HBV.out)
                    rw [← HWE.out] at HAGR
                    obtain ⟨gw, hgw⟩ : ∃ gw, gw = V.heap.size := ⟨_, rfl⟩
                    rw [← hgw] at HAGR
                    have HGWE := Lib.hid hgw
                    clear hgw HWV HBV HP HF
                    rcases HFV.out with rfl | ⟨gf, rfl, hgf⟩
                    · clear HFV
                      have hq := nilHe0
                      go_upto_region 33 with (go_at_call 40; (with_reducible refine HAGR.out.mono ?_); rintro e V2 ⟨rfl, q1, q2⟩; have HGW := Lib.hid q1; have HBW : Hid (Below V.heap.size V V2) := Lib.hid (by rw [← HGWE.out]; exact q2); clear q1 q2)
                      have HGF := HGW
                      have HPW := Lib.hid (HPV.out.on (HBW.out))
                      clear HAGR HPV HBW
                      go_wp2_with fail
                      go_loopw [18] (fun sv wj => ∃ s : Nat, s ≤ N ∧ sv = .int .i64 (s : Int) ∧ Hid (Below V2.heap.size V2 wj)) (fun sv _ => N - (intOf sv).toNat)
                      case atStart => exact ⟨0, by omega, rfl, Lib.hid (Below.refl _ _)⟩
                      case round =>
                        obtain ⟨s, hs, rfl, HJ⟩ := hrel
                        by_cases hls : s < N
                        · have ds : decide ((s : Int) < (N : Int)) = true := decide_eq_true (by omega)
                          obtain ⟨Y, hY⟩ : ∃ Y : He, Y = W s := ⟨_, rfl⟩
                          have HEY : Hid (∀ W', (binOp .neq 118 (.agg (heL Y).toArray) (.agg (heL Y).toArray)).run Try.prog W' = .ok (.bool false) W') := Lib.hid (fun W' => (held_neq Y Y W').trans (by rw [heE_refl]; rfl))
                          have HRG : Hid (∀ u, Below wr.heap.size wr u → u.rangeAt gw (s * 56) (heL Y) ∧ u.rangeAt gw (s * 56) (heL Y) ∧ (s ≠ bad → u.rangeAt gT (s * 56) (heL Y))) := Lib.hid (fun u hu => by
                            have hb := below_then HJ.out hu
                            refine ⟨?_, ?_, fun hne => ?_⟩
                            · rw [hY]; exact held_range (HGW.out.on hb) hls
                            · rw [hY]; exact held_range (HGF.out.on hb) hls
                            · have h := held_range (HPW.out.p.t.on hb) hls
                              rwa [hY, HWE.out, agW, if_neg hne])
                          clear hY
                          by_cases hsb : s = bad
                          · obtain rfl : bad = s := hsb.symm
                            go_upto_region 36 with fail
                            refine Reg.wp_slots2 (fun t => decide (152 ≤ t) && decide (t ≤ 176)) (Reg.KJ wr.heap.size [] []) (Reg.KJ.drew _ (by simp)) Reg.KJ.trans (by kernel_rfl) (by kernel_rfl) (by kernel_rfl) (fun zz => (Reg.tblK [
                              (152, .is (.slice (some ⟨gw, 0, none⟩) N N)),
                              (153, .is (.int .i64 (bad : Int))),
                              (154, .is (.pointer (some ⟨gw, bad * 56, none⟩))),
                              (155, .is (.agg (heL Y).toArray)),
                              (156, .is (.slice (some ⟨gw, 0, none⟩) N N)),
                              (157, .is (.int .i64 (bad : Int))),
                              (158, .is (.pointer (some ⟨gw, bad * 56, none⟩))),
                              (159, .is (.agg (heL Y).toArray)),
                              (160, .is (.bool false)),
                              (161, .is (.bool false)),
                              (162, .is (.int .i64 (bad : Int))),
                              (163, .is (.int .i64 (bad : Int))),
                              (164, .is (.bool false)),
                              (165, .is (.bool false)),
                              (166, .is (undef)),
                              (167, .is (undef)),
                              (168, .is (undef)),
                              (169, .is (undef)),
                              (170, .is (undef)),
                              (171, .is (undef)),
                              (172, .is (undef)),
                              (173, .is (undef)),
                              (174, .is (undef)),
                              (175, .is (.bool false)),
                              (176, .is (.bool false))] zz).P) (fun zz => (Reg.tblK _ zz).on) (fun zz => (Reg.memK [] zz).P) (fun zz => (Reg.memK _ zz).on) ?_ ?_
                            · simp only [Reg.frame, Reg.over, Nat.reduceAdd, Nat.reduceLeDiff, decide_true, decide_false, if_true, Bool.false_eq_true, if_false, Bool.and_true, Bool.and_false]
                              refine ⟨?_, ?_, ?_, ?_, ?_, ?_, ?_, ?_, ?_, ?_, ?_, ?_, ?_, ?_, ?_, ?_, ?_, ?_, ?_, ?_, ?_, ?_, ?_, ?_, ?_, trivial⟩
                              · intro x u hku hd
                                refine wpOp_step rfl fun KK hK => ?_
                                go_simp
                                exact hK _ _ ⟨_, rfl, Reg.KJ.refl _, fun d hd => by cases hd; exact rfl, fun h => by cases h⟩
                              · intro x u hku hd
                                refine wpOp_step rfl fun KK hK => ?_
                                go_simp
                                exact hK _ _ ⟨_, rfl, Reg.KJ.refl _, fun d hd => by cases hd; exact rfl, fun h => by cases h⟩
                              · intro x u hku hd
                                have h152 : x 152 = .slice (some ⟨gw, 0, none⟩) N N := hd 0 (by decide)
                                have h153 : x 153 = .int .i64 (bad : Int) := hd 1 (by decide)
                                have hix : ∀ W, (Instr.indexAt 52 (.slice (some ⟨gw, 0, none⟩) N N) (.int .i64 (bad : Int))).run Try.prog W = .ok (.pointer (some ⟨gw, bad * 56, none⟩)) W := fun W => by rw [idxHelds (A := some ⟨gw, 0, none⟩) (n := N) N rfl hls W, Nat.zero_add]
                                refine wpOp_step rfl fun KK hK => ?_
                                simp only [h152, h153] at hK ⊢
                                go_simp
                                exact hK _ _ ⟨_, rfl, Reg.KJ.refl _, fun d hd => by cases hd; exact rfl, fun h => by cases h⟩
                              · intro x u hku hd
                                have h154 : x 154 = .pointer (some ⟨gw, bad * 56, none⟩) := hd 2 (by decide)
                                refine wpOp_step rfl fun KK hK => ?_
                                refine Reg.step_load_mid (by rfl) 118 (.tmp 154) (by rfl) gw (bad * 56) (by exact h154) (heL Y) (HRG.out u hku.belowA).1 _ Try.underlying118 rfl (by rw [size_he, heL_len]) ?_
                                exact hK _ _ ⟨_, rfl, Reg.KJ.refl _, fun d hd => by cases hd; exact rfl, fun h => by cases h⟩
                              · intro x u hku hd
                                refine wpOp_step rfl fun KK hK => ?_
                                go_simp
                                exact hK _ _ ⟨_, rfl, Reg.KJ.refl _, fun d hd => by cases hd; exact rfl, fun h => by cases h⟩
                              · intro x u hku hd
                                refine wpOp_step rfl fun KK hK => ?_
                                go_simp
                                exact hK _ _ ⟨_, rfl, Reg.KJ.refl _, fun d hd => by cases hd; exact rfl, fun h => by cases h⟩
                              · intro x u hku hd
                                have h156 : x 156 = .slice (some ⟨gw, 0, none⟩) N N := hd 4 (by decide)
                                have h157 : x 157 = .int .i64 (bad : Int) := hd 5 (by decide)
                                have hix : ∀ W, (Instr.indexAt 52 (.slice (some ⟨gw, 0, none⟩) N N) (.int .i64 (bad : Int))).run Try.prog W = .ok (.pointer (some ⟨gw, bad * 56, none⟩)) W := fun W => by rw [idxHelds (A := some ⟨gw, 0, none⟩) (n := N) N rfl hls W, Nat.zero_add]
                                refine wpOp_step rfl fun KK hK => ?_
                                simp only [h156, h157] at hK ⊢
                                go_simp
                                exact hK _ _ ⟨_, rfl, Reg.KJ.refl _, fun d hd => by cases hd; exact rfl, fun h => by cases h⟩
                              · intro x u hku hd
                                have h158 : x 158 = .pointer (some ⟨gw, bad * 56, none⟩) := hd 6 (by decide)
                                refine wpOp_step rfl fun KK hK => ?_
                                refine Reg.step_load_mid (by rfl) 118 (.tmp 158) (by rfl) gw (bad * 56) (by exact h158) (heL Y) (HRG.out u hku.belowA).2.1 _ Try.underlying118 rfl (by rw [size_he, heL_len]) ?_
                                exact hK _ _ ⟨_, rfl, Reg.KJ.refl _, fun d hd => by cases hd; exact rfl, fun h => by cases h⟩
                              · intro x u hku hd
                                have h155 : x 155 = .agg (heL Y).toArray := hd 3 (by decide)
                                have h159 : x 159 = .agg (heL Y).toArray := hd 7 (by decide)
                                have he := HEY.out
                                refine wpOp_step rfl fun KK hK => ?_
                                simp only [h155, h159] at hK ⊢
                                go_simp
                                exact hK _ _ ⟨_, rfl, Reg.KJ.refl _, fun d hd => by cases hd; exact rfl, fun h => by cases h⟩
                              · intro x u hku hd
                                have h160 : x 160 = .bool false := hd 8 (by decide)
                                refine wpOp_step rfl fun KK hK => ?_
                                simp only [h160] at hK ⊢
                                go_simp
                                exact hK _ _ ⟨_, rfl, Reg.KJ.refl _, fun d hd => by cases hd; exact rfl, fun h => by cases h⟩
                              · intro x u hku hd
                                have h161 : x 161 = .bool false := hd 9 (by decide)
                                refine wpOp_step rfl fun KK hK => ?_
                                simp only [h161] at hK ⊢
                                go_simp
                                exact hK _ _ ⟨_, rfl, Reg.KJ.refl _, fun d hd => by cases hd; exact rfl, fun h => by cases h⟩
                              · intro x u hku hd
                                have h161 : x 161 = .bool false := hd 9 (by decide)
                                refine wpOp_step rfl fun KK hK => ?_
                                simp only [h161] at hK ⊢
                                go_simp
                                exact hK _ _ ⟨_, rfl, Reg.KJ.refl _, fun d hd => by cases hd; exact rfl, fun h => by cases h⟩
                              · intro x u hku hd
                                have h162 : x 162 = .int .i64 (bad : Int) := hd 10 (by decide)
                                have h163 : x 163 = .int .i64 (bad : Int) := hd 11 (by decide)
                                have h161 : x 161 = .bool false := hd 9 (by decide)
                                refine wpOp_step rfl fun KK hK => ?_
                                simp only [h162, h163, h161] at hK ⊢
                                go_simp
                                exact hK _ _ ⟨_, rfl, Reg.KJ.refl _, fun d hd => by cases hd; exact rfl, fun h => by cases h⟩
                              · intro x u hku hd
                                have h164 : x 164 = .bool false := hd 12 (by decide)
                                have h161 : x 161 = .bool false := hd 9 (by decide)
                                refine wpOp_step rfl fun KK hK => ?_
                                simp only [h164, h161] at hK ⊢
                                go_simp
                                exact hK _ _ ⟨_, rfl, Reg.KJ.refl _, fun d hd => by cases hd; exact rfl, fun h => by cases h⟩
                              · intro x u hku hd
                                have h165 : x 165 = .bool false := hd 13 (by decide)
                                refine wpOp_step rfl fun KK hK => ?_
                                simp only [h165] at hK ⊢
                                go_simp
                                exact hK _ _ ⟨_, rfl, Reg.KJ.refl _, fun d hd => by cases hd; exact rfl, fun h => by cases h⟩
                              · intro x u hku hd
                                have h165 : x 165 = .bool false := hd 13 (by decide)
                                refine wpOp_step rfl fun KK hK => ?_
                                simp only [h165] at hK ⊢
                                go_simp
                                exact hK _ _ ⟨_, rfl, Reg.KJ.refl _, fun d hd => by cases hd; exact rfl, fun h => by cases h⟩
                              · intro x u hku hd
                                have h166 : x 166 = undef := hd 14 (by decide)
                                have h167 : x 167 = undef := hd 15 (by decide)
                                have h165 : x 165 = .bool false := hd 13 (by decide)
                                refine wpOp_step rfl fun KK hK => ?_
                                simp only [h166, h167, h165] at hK ⊢
                                go_simp
                                exact hK _ _ ⟨_, rfl, Reg.KJ.refl _, fun d hd => by cases hd; exact rfl, fun h => by cases h⟩
                              · intro x u hku hd
                                have h168 : x 168 = undef := hd 16 (by decide)
                                have h165 : x 165 = .bool false := hd 13 (by decide)
                                refine wpOp_step rfl fun KK hK => ?_
                                simp only [h168, h165] at hK ⊢
                                go_simp
                                exact hK _ _ ⟨_, rfl, Reg.KJ.refl _, fun d hd => by cases hd; exact rfl, fun h => by cases h⟩
                              · intro x u hku hd
                                have h165 : x 165 = .bool false := hd 13 (by decide)
                                refine wpOp_step rfl fun KK hK => ?_
                                simp only [h165] at hK ⊢
                                go_simp
                                exact hK _ _ ⟨_, rfl, Reg.KJ.refl _, fun d hd => by cases hd; exact rfl, fun h => by cases h⟩
                              · intro x u hku hd
                                have h165 : x 165 = .bool false := hd 13 (by decide)
                                refine wpOp_step rfl fun KK hK => ?_
                                simp only [h165] at hK ⊢
                                go_simp
                                exact hK _ _ ⟨_, rfl, Reg.KJ.refl _, fun d hd => by cases hd; exact rfl, fun h => by cases h⟩
                              · intro x u hku hd
                                have h170 : x 170 = undef := hd 18 (by decide)
                                have h171 : x 171 = undef := hd 19 (by decide)
                                have h165 : x 165 = .bool false := hd 13 (by decide)
                                refine wpOp_step rfl fun KK hK => ?_
                                simp only [h170, h171, h165] at hK ⊢
                                go_simp
                                exact hK _ _ ⟨_, rfl, Reg.KJ.refl _, fun d hd => by cases hd; exact rfl, fun h => by cases h⟩
                              · intro x u hku hd
                                have h172 : x 172 = undef := hd 20 (by decide)
                                have h165 : x 165 = .bool false := hd 13 (by decide)
                                refine wpOp_step rfl fun KK hK => ?_
                                simp only [h172, h165] at hK ⊢
                                go_simp
                                exact hK _ _ ⟨_, rfl, Reg.KJ.refl _, fun d hd => by cases hd; exact rfl, fun h => by cases h⟩
                              · intro x u hku hd
                                have h169 : x 169 = undef := hd 17 (by decide)
                                have h173 : x 173 = undef := hd 21 (by decide)
                                have h165 : x 165 = .bool false := hd 13 (by decide)
                                refine wpOp_step rfl fun KK hK => ?_
                                simp only [h169, h173, h165] at hK ⊢
                                go_simp
                                exact hK _ _ ⟨_, rfl, Reg.KJ.refl _, fun d hd => by cases hd; exact rfl, fun h => by cases h⟩
                              · intro x u hku hd
                                have h165 : x 165 = .bool false := hd 13 (by decide)
                                have h174 : x 174 = undef := hd 22 (by decide)
                                have h161 : x 161 = .bool false := hd 9 (by decide)
                                refine wpOp_step rfl fun KK hK => ?_
                                simp only [h165, h174, h161] at hK ⊢
                                go_simp
                                exact hK _ _ ⟨_, rfl, Reg.KJ.refl _, fun d hd => by cases hd; exact rfl, fun h => by cases h⟩
                              · intro x u hku hd
                                have h161 : x 161 = .bool false := hd 9 (by decide)
                                have h175 : x 175 = .bool false := hd 23 (by decide)
                                refine wpOp_step rfl fun KK hK => ?_
                                simp only [h161, h175] at hK ⊢
                                go_simp
                                exact hK _ _ ⟨_, rfl, Reg.KJ.refl _, fun d hd => by cases hd; exact rfl, fun h => by cases h⟩
                            · intro y V3 hku hdd
                              have e176 : y 176 = .bool false := hdd 24 (by decide)
                              have HJ3 := Lib.hid (below_then HJ.out hku.belowA)
                              clear hku hdd
                              simp only [Reg.frame, Reg.over, Nat.reduceAdd, Nat.reduceLeDiff, decide_true, decide_false, if_true, Bool.false_eq_true, if_false, Bool.and_true, Bool.and_false, e176]
                              go_wp2_with fail
                              go_roundw
                              case rel => exact ⟨bad + 1, by omega, by go_num, HJ3⟩
                              case measure => simp [intOf]; omega
                          · have HNB : Hid (((s : Int) != (bad : Int)) = true) := Lib.hid (by simp; omega)
                            have HRG' := HRG
                            clear HRG
                            have HRG : Hid (∀ u, Below wr.heap.size wr u → u.rangeAt gw (s * 56) (heL Y) ∧ u.rangeAt gw (s * 56) (heL Y) ∧ u.rangeAt gT (s * 56) (heL Y)) := Lib.hid (fun u hu => ⟨(HRG'.out u hu).1, (HRG'.out u hu).2.1, (HRG'.out u hu).2.2 hsb⟩)
                            clear HRG' hsb
                            go_upto_region 36 with fail
                            refine Reg.wp_slots2 (fun t => decide (152 ≤ t) && decide (t ≤ 176)) (Reg.KJ wr.heap.size [] []) (Reg.KJ.drew _ (by simp)) Reg.KJ.trans (by kernel_rfl) (by kernel_rfl) (by kernel_rfl) (fun zz => (Reg.tblK [
                              (152, .is (.slice (some ⟨gw, 0, none⟩) N N)),
                              (153, .is (.int .i64 (s : Int))),
                              (154, .is (.pointer (some ⟨gw, s * 56, none⟩))),
                              (155, .is (.agg (heL Y).toArray)),
                              (156, .is (.slice (some ⟨gw, 0, none⟩) N N)),
                              (157, .is (.int .i64 (s : Int))),
                              (158, .is (.pointer (some ⟨gw, s * 56, none⟩))),
                              (159, .is (.agg (heL Y).toArray)),
                              (160, .is (.bool false)),
                              (161, .is (.bool false)),
                              (162, .is (.int .i64 (s : Int))),
                              (163, .is (.int .i64 (bad : Int))),
                              (164, .is (.bool true)),
                              (165, .is (.bool true)),
                              (166, .is (.slice (some ⟨gw, 0, none⟩) N N)),
                              (167, .is (.int .i64 (s : Int))),
                              (168, .is (.pointer (some ⟨gw, s * 56, none⟩))),
                              (169, .is (.agg (heL Y).toArray)),
                              (170, .is (.slice (some ⟨gT, 0, none⟩) N N)),
                              (171, .is (.int .i64 (s : Int))),
                              (172, .is (.pointer (some ⟨gT, s * 56, none⟩))),
                              (173, .is (.agg (heL Y).toArray)),
                              (174, .is (.bool false)),
                              (175, .is (.bool false)),
                              (176, .is (.bool false))] zz).P) (fun zz => (Reg.tblK _ zz).on) (fun zz => (Reg.memK [] zz).P) (fun zz => (Reg.memK _ zz).on) ?_ ?_
                            · simp only [Reg.frame, Reg.over, Nat.reduceAdd, Nat.reduceLeDiff, decide_true, decide_false, if_true, Bool.false_eq_true, if_false, Bool.and_true, Bool.and_false]
                              refine ⟨?_, ?_, ?_, ?_, ?_, ?_, ?_, ?_, ?_, ?_, ?_, ?_, ?_, ?_, ?_, ?_, ?_, ?_, ?_, ?_, ?_, ?_, ?_, ?_, ?_, trivial⟩
                              · intro x u hku hd
                                refine wpOp_step rfl fun KK hK => ?_
                                go_simp
                                exact hK _ _ ⟨_, rfl, Reg.KJ.refl _, fun d hd => by cases hd; exact rfl, fun h => by cases h⟩
                              · intro x u hku hd
                                refine wpOp_step rfl fun KK hK => ?_
                                go_simp
                                exact hK _ _ ⟨_, rfl, Reg.KJ.refl _, fun d hd => by cases hd; exact rfl, fun h => by cases h⟩
                              · intro x u hku hd
                                have h152 : x 152 = .slice (some ⟨gw, 0, none⟩) N N := hd 0 (by decide)
                                have h153 : x 153 = .int .i64 (s : Int) := hd 1 (by decide)
                                have hix : ∀ W, (Instr.indexAt 52 (.slice (some ⟨gw, 0, none⟩) N N) (.int .i64 (s : Int))).run Try.prog W = .ok (.pointer (some ⟨gw, s * 56, none⟩)) W := fun W => by rw [idxHelds (A := some ⟨gw, 0, none⟩) (n := N) N rfl hls W, Nat.zero_add]
                                refine wpOp_step rfl fun KK hK => ?_
                                simp only [h152, h153] at hK ⊢
                                go_simp
                                exact hK _ _ ⟨_, rfl, Reg.KJ.refl _, fun d hd => by cases hd; exact rfl, fun h => by cases h⟩
                              · intro x u hku hd
                                have h154 : x 154 = .pointer (some ⟨gw, s * 56, none⟩) := hd 2 (by decide)
                                refine wpOp_step rfl fun KK hK => ?_
                                refine Reg.step_load_mid (by rfl) 118 (.tmp 154) (by rfl) gw (s * 56) (by exact h154) (heL Y) (HRG.out u hku.belowA).1 _ Try.underlying118 rfl (by rw [size_he, heL_len]) ?_
                                exact hK _ _ ⟨_, rfl, Reg.KJ.refl _, fun d hd => by cases hd; exact rfl, fun h => by cases h⟩
                              · intro x u hku hd
                                refine wpOp_step rfl fun KK hK => ?_
                                go_simp
                                exact hK _ _ ⟨_, rfl, Reg.KJ.refl _, fun d hd => by cases hd; exact rfl, fun h => by cases h⟩
                              · intro x u hku hd
                                refine wpOp_step rfl fun KK hK => ?_
                                go_simp
                                exact hK _ _ ⟨_, rfl, Reg.KJ.refl _, fun d hd => by cases hd; exact rfl, fun h => by cases h⟩
                              · intro x u hku hd
                                have h156 : x 156 = .slice (some ⟨gw, 0, none⟩) N N := hd 4 (by decide)
                                have h157 : x 157 = .int .i64 (s : Int) := hd 5 (by decide)
                                have hix : ∀ W, (Instr.indexAt 52 (.slice (some ⟨gw, 0, none⟩) N N) (.int .i64 (s : Int))).run Try.prog W = .ok (.pointer (some ⟨gw, s * 56, none⟩)) W := fun W => by rw [idxHelds (A := some ⟨gw, 0, none⟩) (n := N) N rfl hls W, Nat.zero_add]
                                refine wpOp_step rfl fun KK hK => ?_
                                simp only [h156, h157] at hK ⊢
                                go_simp
                                exact hK _ _ ⟨_, rfl, Reg.KJ.refl _, fun d hd => by cases hd; exact rfl, fun h => by cases h⟩
                              · intro x u hku hd
                                have h158 : x 158 = .pointer (some ⟨gw, s * 56, none⟩) := hd 6 (by decide)
                                refine wpOp_step rfl fun KK hK => ?_
                                refine Reg.step_load_mid (by rfl) 118 (.tmp 158) (by rfl) gw (s * 56) (by exact h158) (heL Y) (HRG.out u hku.belowA).2.1 _ Try.underlying118 rfl (by rw [size_he, heL_len]) ?_
                                exact hK _ _ ⟨_, rfl, Reg.KJ.refl _, fun d hd => by cases hd; exact rfl, fun h => by cases h⟩
                              · intro x u hku hd
                                have h155 : x 155 = .agg (heL Y).toArray := hd 3 (by decide)
                                have h159 : x 159 = .agg (heL Y).toArray := hd 7 (by decide)
                                have he := HEY.out
                                refine wpOp_step rfl fun KK hK => ?_
                                simp only [h155, h159] at hK ⊢
                                go_simp
                                exact hK _ _ ⟨_, rfl, Reg.KJ.refl _, fun d hd => by cases hd; exact rfl, fun h => by cases h⟩
                              · intro x u hku hd
                                have h160 : x 160 = .bool false := hd 8 (by decide)
                                refine wpOp_step rfl fun KK hK => ?_
                                simp only [h160] at hK ⊢
                                go_simp
                                exact hK _ _ ⟨_, rfl, Reg.KJ.refl _, fun d hd => by cases hd; exact rfl, fun h => by cases h⟩
                              · intro x u hku hd
                                have h161 : x 161 = .bool false := hd 9 (by decide)
                                refine wpOp_step rfl fun KK hK => ?_
                                simp only [h161] at hK ⊢
                                go_simp
                                exact hK _ _ ⟨_, rfl, Reg.KJ.refl _, fun d hd => by cases hd; exact rfl, fun h => by cases h⟩
                              · intro x u hku hd
                                have h161 : x 161 = .bool false := hd 9 (by decide)
                                refine wpOp_step rfl fun KK hK => ?_
                                simp only [h161] at hK ⊢
                                go_simp
                                exact hK _ _ ⟨_, rfl, Reg.KJ.refl _, fun d hd => by cases hd; exact rfl, fun h => by cases h⟩
                              · intro x u hku hd
                                have h162 : x 162 = .int .i64 (s : Int) := hd 10 (by decide)
                                have h163 : x 163 = .int .i64 (bad : Int) := hd 11 (by decide)
                                have h161 : x 161 = .bool false := hd 9 (by decide)
                                have hn3 : ((s : Int) != (bad : Int)) = true := HNB.out
                                refine wpOp_step rfl fun KK hK => ?_
                                simp only [h162, h163, h161] at hK ⊢
                                go_simp
                                exact hK _ _ ⟨_, rfl, Reg.KJ.refl _, fun d hd => by cases hd; exact rfl, fun h => by cases h⟩
                              · intro x u hku hd
                                have h164 : x 164 = .bool true := hd 12 (by decide)
                                have h161 : x 161 = .bool false := hd 9 (by decide)
                                refine wpOp_step rfl fun KK hK => ?_
                                simp only [h164, h161] at hK ⊢
                                go_simp
                                exact hK _ _ ⟨_, rfl, Reg.KJ.refl _, fun d hd => by cases hd; exact rfl, fun h => by cases h⟩
                              · intro x u hku hd
                                have h165 : x 165 = .bool true := hd 13 (by decide)
                                refine wpOp_step rfl fun KK hK => ?_
                                simp only [h165] at hK ⊢
                                go_simp
                                exact hK _ _ ⟨_, rfl, Reg.KJ.refl _, fun d hd => by cases hd; exact rfl, fun h => by cases h⟩
                              · intro x u hku hd
                                have h165 : x 165 = .bool true := hd 13 (by decide)
                                refine wpOp_step rfl fun KK hK => ?_
                                simp only [h165] at hK ⊢
                                go_simp
                                exact hK _ _ ⟨_, rfl, Reg.KJ.refl _, fun d hd => by cases hd; exact rfl, fun h => by cases h⟩
                              · intro x u hku hd
                                have h166 : x 166 = .slice (some ⟨gw, 0, none⟩) N N := hd 14 (by decide)
                                have h167 : x 167 = .int .i64 (s : Int) := hd 15 (by decide)
                                have h165 : x 165 = .bool true := hd 13 (by decide)
                                have hix : ∀ W, (Instr.indexAt 52 (.slice (some ⟨gw, 0, none⟩) N N) (.int .i64 (s : Int))).run Try.prog W = .ok (.pointer (some ⟨gw, s * 56, none⟩)) W := fun W => by rw [idxHelds (A := some ⟨gw, 0, none⟩) (n := N) N rfl hls W, Nat.zero_add]
                                refine wpOp_step rfl fun KK hK => ?_
                                simp only [h166, h167, h165] at hK ⊢
                                go_simp
                                exact hK _ _ ⟨_, rfl, Reg.KJ.refl _, fun d hd => by cases hd; exact rfl, fun h => by cases h⟩
                              · intro x u hku hd
                                have h168 : x 168 = .pointer (some ⟨gw, s * 56, none⟩) := hd 16 (by decide)
                                have h165 : x 165 = .bool true := hd 13 (by decide)
                                refine wpOp_step rfl fun KK hK => ?_
                                refine Reg.step_load_wantT (by simp only [h165]; kernel_rfl) 118 (.tmp 168) (by rfl) gw (s * 56) (by exact h168) (heL Y) (HRG.out u hku.belowA).1 _ Try.underlying118 rfl (by rw [size_he, heL_len]) ?_
                                exact hK _ _ ⟨_, rfl, Reg.KJ.refl _, fun d hd => by cases hd; exact rfl, fun h => by cases h⟩
                              · intro x u hku hd
                                have h165 : x 165 = .bool true := hd 13 (by decide)
                                refine wpOp_step rfl fun KK hK => ?_
                                simp only [h165] at hK ⊢
                                go_simp
                                exact hK _ _ ⟨_, rfl, Reg.KJ.refl _, fun d hd => by cases hd; exact rfl, fun h => by cases h⟩
                              · intro x u hku hd
                                have h165 : x 165 = .bool true := hd 13 (by decide)
                                refine wpOp_step rfl fun KK hK => ?_
                                simp only [h165] at hK ⊢
                                go_simp
                                exact hK _ _ ⟨_, rfl, Reg.KJ.refl _, fun d hd => by cases hd; exact rfl, fun h => by cases h⟩
                              · intro x u hku hd
                                have h170 : x 170 = .slice (some ⟨gT, 0, none⟩) N N := hd 18 (by decide)
                                have h171 : x 171 = .int .i64 (s : Int) := hd 19 (by decide)
                                have h165 : x 165 = .bool true := hd 13 (by decide)
                                have hix : ∀ W, (Instr.indexAt 52 (.slice (some ⟨gT, 0, none⟩) N N) (.int .i64 (s : Int))).run Try.prog W = .ok (.pointer (some ⟨gT, s * 56, none⟩)) W := fun W => by rw [idxHelds (A := some ⟨gT, 0, none⟩) (n := N) N rfl hls W, Nat.zero_add]
                                refine wpOp_step rfl fun KK hK => ?_
                                simp only [h170, h171, h165] at hK ⊢
                                go_simp
                                exact hK _ _ ⟨_, rfl, Reg.KJ.refl _, fun d hd => by cases hd; exact rfl, fun h => by cases h⟩
                              · intro x u hku hd
                                have h172 : x 172 = .pointer (some ⟨gT, s * 56, none⟩) := hd 20 (by decide)
                                have h165 : x 165 = .bool true := hd 13 (by decide)
                                refine wpOp_step rfl fun KK hK => ?_
                                refine Reg.step_load_wantT (by simp only [h165]; kernel_rfl) 118 (.tmp 172) (by rfl) gT (s * 56) (by exact h172) (heL Y) (HRG.out u hku.belowA).2.2 _ Try.underlying118 rfl (by rw [size_he, heL_len]) ?_
                                exact hK _ _ ⟨_, rfl, Reg.KJ.refl _, fun d hd => by cases hd; exact rfl, fun h => by cases h⟩
                              · intro x u hku hd
                                have h169 : x 169 = .agg (heL Y).toArray := hd 17 (by decide)
                                have h173 : x 173 = .agg (heL Y).toArray := hd 21 (by decide)
                                have h165 : x 165 = .bool true := hd 13 (by decide)
                                have he := HEY.out
                                refine wpOp_step rfl fun KK hK => ?_
                                simp only [h169, h173, h165] at hK ⊢
                                go_simp
                                exact hK _ _ ⟨_, rfl, Reg.KJ.refl _, fun d hd => by cases hd; exact rfl, fun h => by cases h⟩
                              · intro x u hku hd
                                have h165 : x 165 = .bool true := hd 13 (by decide)
                                have h174 : x 174 = .bool false := hd 22 (by decide)
                                have h161 : x 161 = .bool false := hd 9 (by decide)
                                refine wpOp_step rfl fun KK hK => ?_
                                simp only [h165, h174, h161] at hK ⊢
                                go_simp
                                exact hK _ _ ⟨_, rfl, Reg.KJ.refl _, fun d hd => by cases hd; exact rfl, fun h => by cases h⟩
                              · intro x u hku hd
                                have h161 : x 161 = .bool false := hd 9 (by decide)
                                have h175 : x 175 = .bool false := hd 23 (by decide)
                                refine wpOp_step rfl fun KK hK => ?_
                                simp only [h161, h175] at hK ⊢
                                go_simp
                                exact hK _ _ ⟨_, rfl, Reg.KJ.refl _, fun d hd => by cases hd; exact rfl, fun h => by cases h⟩
                            · intro y V3 hku hdd
                              have e176 : y 176 = .bool false := hdd 24 (by decide)
                              have HJ3 := Lib.hid (below_then HJ.out hku.belowA)
                              clear hku hdd
                              simp only [Reg.frame, Reg.over, Nat.reduceAdd, Nat.reduceLeDiff, decide_true, decide_false, if_true, Bool.false_eq_true, if_false, Bool.and_true, Bool.and_false, e176]
                              go_wp2_with fail
                              go_roundw
                              case rel => exact ⟨s + 1, by omega, by go_num, HJ3⟩
                              case measure => simp [intOf]; omega
                        · obtain rfl : s = N := by omega
                          go_wp2_with fail
                          go_roundw
                          case rel => exact ⟨i + 1, by omega, by go_num, Lib.hid (HPW.out.on HJ.out), Lib.hid (.inr ⟨gw, rfl, HGF.out.on HJ.out⟩)⟩
                          case measure => simp [intOf]; omega
                    · have HGF0 := Lib.hid hgf
                      clear hgf HFV
                      have hq := nilHe ⟨gf, 0, none⟩ N N
                      go_upto_region 33 with (go_at_call 40; (with_reducible refine HAGR.out.mono ?_); rintro e V2 ⟨rfl, q1, q2⟩; have HGW := Lib.hid q1; have HBW : Hid (Below V.heap.size V V2) := Lib.hid (by rw [← HGWE.out]; exact q2); clear q1 q2)
                      have HGF := Lib.hid (HGF0.out.on (HBW.out))
                      have HPW := Lib.hid (HPV.out.on (HBW.out))
                      clear HAGR HPV HBW HGF0
                      go_wp2_with fail
                      go_loopw [18] (fun sv wj => ∃ s : Nat, s ≤ N ∧ sv = .int .i64 (s : Int) ∧ Hid (Below V2.heap.size V2 wj)) (fun sv _ => N - (intOf sv).toNat)
                      case atStart => exact ⟨0, by omega, rfl, Lib.hid (Below.refl _ _)⟩
                      case round =>
                        obtain ⟨s, hs, rfl, HJ⟩ := hrel
                        by_cases hls : s < N
                        · have ds : decide ((s : Int) < (N : Int)) = true := decide_eq_true (by omega)
                          obtain ⟨Y, hY⟩ : ∃ Y : He, Y = W s := ⟨_, rfl⟩
                          have HEY : Hid (∀ W', (binOp .neq 118 (.agg (heL Y).toArray) (.agg (heL Y).toArray)).run Try.prog W' = .ok (.bool false) W') := Lib.hid (fun W' => (held_neq Y Y W').trans (by rw [heE_refl]; rfl))
                          have HRG : Hid (∀ u, Below wr.heap.size wr u → u.rangeAt gw (s * 56) (heL Y) ∧ u.rangeAt gf (s * 56) (heL Y) ∧ (s ≠ bad → u.rangeAt gT (s * 56) (heL Y))) := Lib.hid (fun u hu => by
                            have hb := below_then HJ.out hu
                            refine ⟨?_, ?_, fun hne => ?_⟩
                            · rw [hY]; exact held_range (HGW.out.on hb) hls
                            · rw [hY]; exact held_range (HGF.out.on hb) hls
                            · have h := held_range (HPW.out.p.t.on hb) hls
                              rwa [hY, HWE.out, agW, if_neg hne])
                          clear hY
                          by_cases hsb : s = bad
                          · obtain rfl : bad = s := hsb.symm
                            go_upto_region 36 with fail
                            refine Reg.wp_slots2 (fun t => decide (152 ≤ t) && decide (t ≤ 176)) (Reg.KJ wr.heap.size [] []) (Reg.KJ.drew _ (by simp)) Reg.KJ.trans (by kernel_rfl) (by kernel_rfl) (by kernel_rfl) (fun zz => (Reg.tblK [
                              (152, .is (.slice (some ⟨gw, 0, none⟩) N N)),
                              (153, .is (.int .i64 (bad : Int))),
                              (154, .is (.pointer (some ⟨gw, bad * 56, none⟩))),
                              (155, .is (.agg (heL Y).toArray)),
                              (156, .is (.slice (some ⟨gf, 0, none⟩) N N)),
                              (157, .is (.int .i64 (bad : Int))),
                              (158, .is (.pointer (some ⟨gf, bad * 56, none⟩))),
                              (159, .is (.agg (heL Y).toArray)),
                              (160, .is (.bool false)),
                              (161, .is (.bool false)),
                              (162, .is (.int .i64 (bad : Int))),
                              (163, .is (.int .i64 (bad : Int))),
                              (164, .is (.bool false)),
                              (165, .is (.bool false)),
                              (166, .is (undef)),
                              (167, .is (undef)),
                              (168, .is (undef)),
                              (169, .is (undef)),
                              (170, .is (undef)),
                              (171, .is (undef)),
                              (172, .is (undef)),
                              (173, .is (undef)),
                              (174, .is (undef)),
                              (175, .is (.bool false)),
                              (176, .is (.bool false))] zz).P) (fun zz => (Reg.tblK _ zz).on) (fun zz => (Reg.memK [] zz).P) (fun zz => (Reg.memK _ zz).on) ?_ ?_
                            · simp only [Reg.frame, Reg.over, Nat.reduceAdd, Nat.reduceLeDiff, decide_true, decide_false, if_true, Bool.false_eq_true, if_false, Bool.and_true, Bool.and_false]
                              refine ⟨?_, ?_, ?_, ?_, ?_, ?_, ?_, ?_, ?_, ?_, ?_, ?_, ?_, ?_, ?_, ?_, ?_, ?_, ?_, ?_, ?_, ?_, ?_, ?_, ?_, trivial⟩
                              · intro x u hku hd
                                refine wpOp_step rfl fun KK hK => ?_
                                go_simp
                                exact hK _ _ ⟨_, rfl, Reg.KJ.refl _, fun d hd => by cases hd; exact rfl, fun h => by cases h⟩
                              · intro x u hku hd
                                refine wpOp_step rfl fun KK hK => ?_
                                go_simp
                                exact hK _ _ ⟨_, rfl, Reg.KJ.refl _, fun d hd => by cases hd; exact rfl, fun h => by cases h⟩
                              · intro x u hku hd
                                have h152 : x 152 = .slice (some ⟨gw, 0, none⟩) N N := hd 0 (by decide)
                                have h153 : x 153 = .int .i64 (bad : Int) := hd 1 (by decide)
                                have hix : ∀ W, (Instr.indexAt 52 (.slice (some ⟨gw, 0, none⟩) N N) (.int .i64 (bad : Int))).run Try.prog W = .ok (.pointer (some ⟨gw, bad * 56, none⟩)) W := fun W => by rw [idxHelds (A := some ⟨gw, 0, none⟩) (n := N) N rfl hls W, Nat.zero_add]
                                refine wpOp_step rfl fun KK hK => ?_
                                simp only [h152, h153] at hK ⊢
                                go_simp
                                exact hK _ _ ⟨_, rfl, Reg.KJ.refl _, fun d hd => by cases hd; exact rfl, fun h => by cases h⟩
                              · intro x u hku hd
                                have h154 : x 154 = .pointer (some ⟨gw, bad * 56, none⟩) := hd 2 (by decide)
                                refine wpOp_step rfl fun KK hK => ?_
                                refine Reg.step_load_mid (by rfl) 118 (.tmp 154) (by rfl) gw (bad * 56) (by exact h154) (heL Y) (HRG.out u hku.belowA).1 _ Try.underlying118 rfl (by rw [size_he, heL_len]) ?_
                                exact hK _ _ ⟨_, rfl, Reg.KJ.refl _, fun d hd => by cases hd; exact rfl, fun h => by cases h⟩
                              · intro x u hku hd
                                refine wpOp_step rfl fun KK hK => ?_
                                go_simp
                                exact hK _ _ ⟨_, rfl, Reg.KJ.refl _, fun d hd => by cases hd; exact rfl, fun h => by cases h⟩
                              · intro x u hku hd
                                refine wpOp_step rfl fun KK hK => ?_
                                go_simp
                                exact hK _ _ ⟨_, rfl, Reg.KJ.refl _, fun d hd => by cases hd; exact rfl, fun h => by cases h⟩
                              · intro x u hku hd
                                have h156 : x 156 = .slice (some ⟨gf, 0, none⟩) N N := hd 4 (by decide)
                                have h157 : x 157 = .int .i64 (bad : Int) := hd 5 (by decide)
                                have hix : ∀ W, (Instr.indexAt 52 (.slice (some ⟨gf, 0, none⟩) N N) (.int .i64 (bad : Int))).run Try.prog W = .ok (.pointer (some ⟨gf, bad * 56, none⟩)) W := fun W => by rw [idxHelds (A := some ⟨gf, 0, none⟩) (n := N) N rfl hls W, Nat.zero_add]
                                refine wpOp_step rfl fun KK hK => ?_
                                simp only [h156, h157] at hK ⊢
                                go_simp
                                exact hK _ _ ⟨_, rfl, Reg.KJ.refl _, fun d hd => by cases hd; exact rfl, fun h => by cases h⟩
                              · intro x u hku hd
                                have h158 : x 158 = .pointer (some ⟨gf, bad * 56, none⟩) := hd 6 (by decide)
                                refine wpOp_step rfl fun KK hK => ?_
                                refine Reg.step_load_mid (by rfl) 118 (.tmp 158) (by rfl) gf (bad * 56) (by exact h158) (heL Y) (HRG.out u hku.belowA).2.1 _ Try.underlying118 rfl (by rw [size_he, heL_len]) ?_
                                exact hK _ _ ⟨_, rfl, Reg.KJ.refl _, fun d hd => by cases hd; exact rfl, fun h => by cases h⟩
                              · intro x u hku hd
                                have h155 : x 155 = .agg (heL Y).toArray := hd 3 (by decide)
                                have h159 : x 159 = .agg (heL Y).toArray := hd 7 (by decide)
                                have he := HEY.out
                                refine wpOp_step rfl fun KK hK => ?_
                                simp only [h155, h159] at hK ⊢
                                go_simp
                                exact hK _ _ ⟨_, rfl, Reg.KJ.refl _, fun d hd => by cases hd; exact rfl, fun h => by cases h⟩
                              · intro x u hku hd
                                have h160 : x 160 = .bool false := hd 8 (by decide)
                                refine wpOp_step rfl fun KK hK => ?_
                                simp only [h160] at hK ⊢
                                go_simp
                                exact hK _ _ ⟨_, rfl, Reg.KJ.refl _, fun d hd => by cases hd; exact rfl, fun h => by cases h⟩
                              · intro x u hku hd
                                have h161 : x 161 = .bool false := hd 9 (by decide)
                                refine wpOp_step rfl fun KK hK => ?_
                                simp only [h161] at hK ⊢
                                go_simp
                                exact hK _ _ ⟨_, rfl, Reg.KJ.refl _, fun d hd => by cases hd; exact rfl, fun h => by cases h⟩
                              · intro x u hku hd
                                have h161 : x 161 = .bool false := hd 9 (by decide)
                                refine wpOp_step rfl fun KK hK => ?_
                                simp only [h161] at hK ⊢
                                go_simp
                                exact hK _ _ ⟨_, rfl, Reg.KJ.refl _, fun d hd => by cases hd; exact rfl, fun h => by cases h⟩
                              · intro x u hku hd
                                have h162 : x 162 = .int .i64 (bad : Int) := hd 10 (by decide)
                                have h163 : x 163 = .int .i64 (bad : Int) := hd 11 (by decide)
                                have h161 : x 161 = .bool false := hd 9 (by decide)
                                refine wpOp_step rfl fun KK hK => ?_
                                simp only [h162, h163, h161] at hK ⊢
                                go_simp
                                exact hK _ _ ⟨_, rfl, Reg.KJ.refl _, fun d hd => by cases hd; exact rfl, fun h => by cases h⟩
                              · intro x u hku hd
                                have h164 : x 164 = .bool false := hd 12 (by decide)
                                have h161 : x 161 = .bool false := hd 9 (by decide)
                                refine wpOp_step rfl fun KK hK => ?_
                                simp only [h164, h161] at hK ⊢
                                go_simp
                                exact hK _ _ ⟨_, rfl, Reg.KJ.refl _, fun d hd => by cases hd; exact rfl, fun h => by cases h⟩
                              · intro x u hku hd
                                have h165 : x 165 = .bool false := hd 13 (by decide)
                                refine wpOp_step rfl fun KK hK => ?_
                                simp only [h165] at hK ⊢
                                go_simp
                                exact hK _ _ ⟨_, rfl, Reg.KJ.refl _, fun d hd => by cases hd; exact rfl, fun h => by cases h⟩
                              · intro x u hku hd
                                have h165 : x 165 = .bool false := hd 13 (by decide)
                                refine wpOp_step rfl fun KK hK => ?_
                                simp only [h165] at hK ⊢
                                go_simp
                                exact hK _ _ ⟨_, rfl, Reg.KJ.refl _, fun d hd => by cases hd; exact rfl, fun h => by cases h⟩
                              · intro x u hku hd
                                have h166 : x 166 = undef := hd 14 (by decide)
                                have h167 : x 167 = undef := hd 15 (by decide)
                                have h165 : x 165 = .bool false := hd 13 (by decide)
                                refine wpOp_step rfl fun KK hK => ?_
                                simp only [h166, h167, h165] at hK ⊢
                                go_simp
                                exact hK _ _ ⟨_, rfl, Reg.KJ.refl _, fun d hd => by cases hd; exact rfl, fun h => by cases h⟩
                              · intro x u hku hd
                                have h168 : x 168 = undef := hd 16 (by decide)
                                have h165 : x 165 = .bool false := hd 13 (by decide)
                                refine wpOp_step rfl fun KK hK => ?_
                                simp only [h168, h165] at hK ⊢
                                go_simp
                                exact hK _ _ ⟨_, rfl, Reg.KJ.refl _, fun d hd => by cases hd; exact rfl, fun h => by cases h⟩
                              · intro x u hku hd
                                have h165 : x 165 = .bool false := hd 13 (by decide)
                                refine wpOp_step rfl fun KK hK => ?_
                                simp only [h165] at hK ⊢
                                go_simp
                                exact hK _ _ ⟨_, rfl, Reg.KJ.refl _, fun d hd => by cases hd; exact rfl, fun h => by cases h⟩
                              · intro x u hku hd
                                have h165 : x 165 = .bool false := hd 13 (by decide)
                                refine wpOp_step rfl fun KK hK => ?_
                                simp only [h165] at hK ⊢
                                go_simp
                                exact hK _ _ ⟨_, rfl, Reg.KJ.refl _, fun d hd => by cases hd; exact rfl, fun h => by cases h⟩
                              · intro x u hku hd
                                have h170 : x 170 = undef := hd 18 (by decide)
                                have h171 : x 171 = undef := hd 19 (by decide)
                                have h165 : x 165 = .bool false := hd 13 (by decide)
                                refine wpOp_step rfl fun KK hK => ?_
                                simp only [h170, h171, h165] at hK ⊢
                                go_simp
                                exact hK _ _ ⟨_, rfl, Reg.KJ.refl _, fun d hd => by cases hd; exact rfl, fun h => by cases h⟩
                              · intro x u hku hd
                                have h172 : x 172 = undef := hd 20 (by decide)
                                have h165 : x 165 = .bool false := hd 13 (by decide)
                                refine wpOp_step rfl fun KK hK => ?_
                                simp only [h172, h165] at hK ⊢
                                go_simp
                                exact hK _ _ ⟨_, rfl, Reg.KJ.refl _, fun d hd => by cases hd; exact rfl, fun h => by cases h⟩
                              · intro x u hku hd
                                have h169 : x 169 = undef := hd 17 (by decide)
                                have h173 : x 173 = undef := hd 21 (by decide)
                                have h165 : x 165 = .bool false := hd 13 (by decide)
                                refine wpOp_step rfl fun KK hK => ?_
                                simp only [h169, h173, h165] at hK ⊢
                                go_simp
                                exact hK _ _ ⟨_, rfl, Reg.KJ.refl _, fun d hd => by cases hd; exact rfl, fun h => by cases h⟩
                              · intro x u hku hd
                                have h165 : x 165 = .bool false := hd 13 (by decide)
                                have h174 : x 174 = undef := hd 22 (by decide)
                                have h161 : x 161 = .bool false := hd 9 (by decide)
                                refine wpOp_step rfl fun KK hK => ?_
                                simp only [h165, h174, h161] at hK ⊢
                                go_simp
                                exact hK _ _ ⟨_, rfl, Reg.KJ.refl _, fun d hd => by cases hd; exact rfl, fun h => by cases h⟩
                              · intro x u hku hd
                                have h161 : x 161 = .bool false := hd 9 (by decide)
                                have h175 : x 175 = .bool false := hd 23 (by decide)
                                refine wpOp_step rfl fun KK hK => ?_
                                simp only [h161, h175] at hK ⊢
                                go_simp
                                exact hK _ _ ⟨_, rfl, Reg.KJ.refl _, fun d hd => by cases hd; exact rfl, fun h => by cases h⟩
                            · intro y V3 hku hdd
                              have e176 : y 176 = .bool false := hdd 24 (by decide)
                              have HJ3 := Lib.hid (below_then HJ.out hku.belowA)
                              clear hku hdd
                              simp only [Reg.frame, Reg.over, Nat.reduceAdd, Nat.reduceLeDiff, decide_true, decide_false, if_true, Bool.false_eq_true, if_false, Bool.and_true, Bool.and_false, e176]
                              go_wp2_with fail
                              go_roundw
                              case rel => exact ⟨bad + 1, by omega, by go_num, HJ3⟩
                              case measure => simp [intOf]; omega
                          · have HNB : Hid (((s : Int) != (bad : Int)) = true) := Lib.hid (by simp; omega)
                            have HRG' := HRG
                            clear HRG
                            have HRG : Hid (∀ u, Below wr.heap.size wr u → u.rangeAt gw (s * 56) (heL Y) ∧ u.rangeAt gf (s * 56) (heL Y) ∧ u.rangeAt gT (s * 56) (heL Y)) := Lib.hid (fun u hu => ⟨(HRG'.out u hu).1, (HRG'.out u hu).2.1, (HRG'.out u hu).2.2 hsb⟩)
                            clear HRG' hsb
                            go_upto_region 36 with fail
                            refine Reg.wp_slots2 (fun t => decide (152 ≤ t) && decide (t ≤ 176)) (Reg.KJ wr.heap.size [] []) (Reg.KJ.drew _ (by simp)) Reg.KJ.trans (by kernel_rfl) (by kernel_rfl) (by kernel_rfl) (fun zz => (Reg.tblK [
                              (152, .is (.slice (some ⟨gw, 0, none⟩) N N)),
                              (153, .is (.int .i64 (s : Int))),
                              (154, .is (.pointer (some ⟨gw, s * 56, none⟩))),
                              (155, .is (.agg (heL Y).toArray)),
                              (156, .is (.slice (some ⟨gf, 0, none⟩) N N)),
                              (157, .is (.int .i64 (s : Int))),
                              (158, .is (.pointer (some ⟨gf, s * 56, none⟩))),
                              (159, .is (.agg (heL Y).toArray)),
                              (160, .is (.bool false)),
                              (161, .is (.bool false)),
                              (162, .is (.int .i64 (s : Int))),
                              (163, .is (.int .i64 (bad : Int))),
                              (164, .is (.bool true)),
                              (165, .is (.bool true)),
                              (166, .is (.slice (some ⟨gw, 0, none⟩) N N)),
                              (167, .is (.int .i64 (s : Int))),
                              (168, .is (.pointer (some ⟨gw, s * 56, none⟩))),
                              (169, .is (.agg (heL Y).toArray)),
                              (170, .is (.slice (some ⟨gT, 0, none⟩) N N)),
                              (171, .is (.int .i64 (s : Int))),
                              (172, .is (.pointer (some ⟨gT, s * 56, none⟩))),
                              (173, .is (.agg (heL Y).toArray)),
                              (174, .is (.bool false)),
                              (175, .is (.bool false)),
                              (176, .is (.bool false))] zz).P) (fun zz => (Reg.tblK _ zz).on) (fun zz => (Reg.memK [] zz).P) (fun zz => (Reg.memK _ zz).on) ?_ ?_
                            · simp only [Reg.frame, Reg.over, Nat.reduceAdd, Nat.reduceLeDiff, decide_true, decide_false, if_true, Bool.false_eq_true, if_false, Bool.and_true, Bool.and_false]
                              refine ⟨?_, ?_, ?_, ?_, ?_, ?_, ?_, ?_, ?_, ?_, ?_, ?_, ?_, ?_, ?_, ?_, ?_, ?_, ?_, ?_, ?_, ?_, ?_, ?_, ?_, trivial⟩
                              · intro x u hku hd
                                refine wpOp_step rfl fun KK hK => ?_
                                go_simp
                                exact hK _ _ ⟨_, rfl, Reg.KJ.refl _, fun d hd => by cases hd; exact rfl, fun h => by cases h⟩
                              · intro x u hku hd
                                refine wpOp_step rfl fun KK hK => ?_
                                go_simp
                                exact hK _ _ ⟨_, rfl, Reg.KJ.refl _, fun d hd => by cases hd; exact rfl, fun h => by cases h⟩
                              · intro x u hku hd
                                have h152 : x 152 = .slice (some ⟨gw, 0, none⟩) N N := hd 0 (by decide)
                                have h153 : x 153 = .int .i64 (s : Int) := hd 1 (by decide)
                                have hix : ∀ W, (Instr.indexAt 52 (.slice (some ⟨gw, 0, none⟩) N N) (.int .i64 (s : Int))).run Try.prog W = .ok (.pointer (some ⟨gw, s * 56, none⟩)) W := fun W => by rw [idxHelds (A := some ⟨gw, 0, none⟩) (n := N) N rfl hls W, Nat.zero_add]
                                refine wpOp_step rfl fun KK hK => ?_
                                simp only [h152, h153] at hK ⊢
                                go_simp
                                exact hK _ _ ⟨_, rfl, Reg.KJ.refl _, fun d hd => by cases hd; exact rfl, fun h => by cases h⟩
                              · intro x u hku hd
                                have h154 : x 154 = .pointer (some ⟨gw, s * 56, none⟩) := hd 2 (by decide)
                                refine wpOp_step rfl fun KK hK => ?_
                                refine Reg.step_load_mid (by rfl) 118 (.tmp 154) (by rfl) gw (s * 56) (by exact h154) (heL Y) (HRG.out u hku.belowA).1 _ Try.underlying118 rfl (by rw [size_he, heL_len]) ?_
                                exact hK _ _ ⟨_, rfl, Reg.KJ.refl _, fun d hd => by cases hd; exact rfl, fun h => by cases h⟩
                              · intro x u hku hd
                                refine wpOp_step rfl fun KK hK => ?_
                                go_simp
                                exact hK _ _ ⟨_, rfl, Reg.KJ.refl _, fun d hd => by cases hd; exact rfl, fun h => by cases h⟩
                              · intro x u hku hd
                                refine wpOp_step rfl fun KK hK => ?_
                                go_simp
                                exact hK _ _ ⟨_, rfl, Reg.KJ.refl _, fun d hd => by cases hd; exact rfl, fun h => by cases h⟩
                              · intro x u hku hd
                                have h156 : x 156 = .slice (some ⟨gf, 0, none⟩) N N := hd 4 (by decide)
                                have h157 : x 157 = .int .i64 (s : Int) := hd 5 (by decide)
                                have hix : ∀ W, (Instr.indexAt 52 (.slice (some ⟨gf, 0, none⟩) N N) (.int .i64 (s : Int))).run Try.prog W = .ok (.pointer (some ⟨gf, s * 56, none⟩)) W := fun W => by rw [idxHelds (A := some ⟨gf, 0, none⟩) (n := N) N rfl hls W, Nat.zero_add]
                                refine wpOp_step rfl fun KK hK => ?_
                                simp only [h156, h157] at hK ⊢
                                go_simp
                                exact hK _ _ ⟨_, rfl, Reg.KJ.refl _, fun d hd => by cases hd; exact rfl, fun h => by cases h⟩
                              · intro x u hku hd
                                have h158 : x 158 = .pointer (some ⟨gf, s * 56, none⟩) := hd 6 (by decide)
                                refine wpOp_step rfl fun KK hK => ?_
                                refine Reg.step_load_mid (by rfl) 118 (.tmp 158) (by rfl) gf (s * 56) (by exact h158) (heL Y) (HRG.out u hku.belowA).2.1 _ Try.underlying118 rfl (by rw [size_he, heL_len]) ?_
                                exact hK _ _ ⟨_, rfl, Reg.KJ.refl _, fun d hd => by cases hd; exact rfl, fun h => by cases h⟩
                              · intro x u hku hd
                                have h155 : x 155 = .agg (heL Y).toArray := hd 3 (by decide)
                                have h159 : x 159 = .agg (heL Y).toArray := hd 7 (by decide)
                                have he := HEY.out
                                refine wpOp_step rfl fun KK hK => ?_
                                simp only [h155, h159] at hK ⊢
                                go_simp
                                exact hK _ _ ⟨_, rfl, Reg.KJ.refl _, fun d hd => by cases hd; exact rfl, fun h => by cases h⟩
                              · intro x u hku hd
                                have h160 : x 160 = .bool false := hd 8 (by decide)
                                refine wpOp_step rfl fun KK hK => ?_
                                simp only [h160] at hK ⊢
                                go_simp
                                exact hK _ _ ⟨_, rfl, Reg.KJ.refl _, fun d hd => by cases hd; exact rfl, fun h => by cases h⟩
                              · intro x u hku hd
                                have h161 : x 161 = .bool false := hd 9 (by decide)
                                refine wpOp_step rfl fun KK hK => ?_
                                simp only [h161] at hK ⊢
                                go_simp
                                exact hK _ _ ⟨_, rfl, Reg.KJ.refl _, fun d hd => by cases hd; exact rfl, fun h => by cases h⟩
                              · intro x u hku hd
                                have h161 : x 161 = .bool false := hd 9 (by decide)
                                refine wpOp_step rfl fun KK hK => ?_
                                simp only [h161] at hK ⊢
                                go_simp
                                exact hK _ _ ⟨_, rfl, Reg.KJ.refl _, fun d hd => by cases hd; exact rfl, fun h => by cases h⟩
                              · intro x u hku hd
                                have h162 : x 162 = .int .i64 (s : Int) := hd 10 (by decide)
                                have h163 : x 163 = .int .i64 (bad : Int) := hd 11 (by decide)
                                have h161 : x 161 = .bool false := hd 9 (by decide)
                                have hn3 : ((s : Int) != (bad : Int)) = true := HNB.out
                                refine wpOp_step rfl fun KK hK => ?_
                                simp only [h162, h163, h161] at hK ⊢
                                go_simp
                                exact hK _ _ ⟨_, rfl, Reg.KJ.refl _, fun d hd => by cases hd; exact rfl, fun h => by cases h⟩
                              · intro x u hku hd
                                have h164 : x 164 = .bool true := hd 12 (by decide)
                                have h161 : x 161 = .bool false := hd 9 (by decide)
                                refine wpOp_step rfl fun KK hK => ?_
                                simp only [h164, h161] at hK ⊢
                                go_simp
                                exact hK _ _ ⟨_, rfl, Reg.KJ.refl _, fun d hd => by cases hd; exact rfl, fun h => by cases h⟩
                              · intro x u hku hd
                                have h165 : x 165 = .bool true := hd 13 (by decide)
                                refine wpOp_step rfl fun KK hK => ?_
                                simp only [h165] at hK ⊢
                                go_simp
                                exact hK _ _ ⟨_, rfl, Reg.KJ.refl _, fun d hd => by cases hd; exact rfl, fun h => by cases h⟩
                              · intro x u hku hd
                                have h165 : x 165 = .bool true := hd 13 (by decide)
                                refine wpOp_step rfl fun KK hK => ?_
                                simp only [h165] at hK ⊢
                                go_simp
                                exact hK _ _ ⟨_, rfl, Reg.KJ.refl _, fun d hd => by cases hd; exact rfl, fun h => by cases h⟩
                              · intro x u hku hd
                                have h166 : x 166 = .slice (some ⟨gw, 0, none⟩) N N := hd 14 (by decide)
                                have h167 : x 167 = .int .i64 (s : Int) := hd 15 (by decide)
                                have h165 : x 165 = .bool true := hd 13 (by decide)
                                have hix : ∀ W, (Instr.indexAt 52 (.slice (some ⟨gw, 0, none⟩) N N) (.int .i64 (s : Int))).run Try.prog W = .ok (.pointer (some ⟨gw, s * 56, none⟩)) W := fun W => by rw [idxHelds (A := some ⟨gw, 0, none⟩) (n := N) N rfl hls W, Nat.zero_add]
                                refine wpOp_step rfl fun KK hK => ?_
                                simp only [h166, h167, h165] at hK ⊢
                                go_simp
                                exact hK _ _ ⟨_, rfl, Reg.KJ.refl _, fun d hd => by cases hd; exact rfl, fun h => by cases h⟩
                              · intro x u hku hd
                                have h168 : x 168 = .pointer (some ⟨gw, s * 56, none⟩) := hd 16 (by decide)
                                have h165 : x 165 = .bool true := hd 13 (by decide)
                                refine wpOp_step rfl fun KK hK => ?_
                                refine Reg.step_load_wantT (by simp only [h165]; kernel_rfl) 118 (.tmp 168) (by rfl) gw (s * 56) (by exact h168) (heL Y) (HRG.out u hku.belowA).1 _ Try.underlying118 rfl (by rw [size_he, heL_len]) ?_
                                exact hK _ _ ⟨_, rfl, Reg.KJ.refl _, fun d hd => by cases hd; exact rfl, fun h => by cases h⟩
                              · intro x u hku hd
                                have h165 : x 165 = .bool true := hd 13 (by decide)
                                refine wpOp_step rfl fun KK hK => ?_
                                simp only [h165] at hK ⊢
                                go_simp
                                exact hK _ _ ⟨_, rfl, Reg.KJ.refl _, fun d hd => by cases hd; exact rfl, fun h => by cases h⟩
                              · intro x u hku hd
                                have h165 : x 165 = .bool true := hd 13 (by decide)
                                refine wpOp_step rfl fun KK hK => ?_
                                simp only [h165] at hK ⊢
                                go_simp
                                exact hK _ _ ⟨_, rfl, Reg.KJ.refl _, fun d hd => by cases hd; exact rfl, fun h => by cases h⟩
                              · intro x u hku hd
                                have h170 : x 170 = .slice (some ⟨gT, 0, none⟩) N N := hd 18 (by decide)
                                have h171 : x 171 = .int .i64 (s : Int) := hd 19 (by decide)
                                have h165 : x 165 = .bool true := hd 13 (by decide)
                                have hix : ∀ W, (Instr.indexAt 52 (.slice (some ⟨gT, 0, none⟩) N N) (.int .i64 (s : Int))).run Try.prog W = .ok (.pointer (some ⟨gT, s * 56, none⟩)) W := fun W => by rw [idxHelds (A := some ⟨gT, 0, none⟩) (n := N) N rfl hls W, Nat.zero_add]
                                refine wpOp_step rfl fun KK hK => ?_
                                simp only [h170, h171, h165] at hK ⊢
                                go_simp
                                exact hK _ _ ⟨_, rfl, Reg.KJ.refl _, fun d hd => by cases hd; exact rfl, fun h => by cases h⟩
                              · intro x u hku hd
                                have h172 : x 172 = .pointer (some ⟨gT, s * 56, none⟩) := hd 20 (by decide)
                                have h165 : x 165 = .bool true := hd 13 (by decide)
                                refine wpOp_step rfl fun KK hK => ?_
                                refine Reg.step_load_wantT (by simp only [h165]; kernel_rfl) 118 (.tmp 172) (by rfl) gT (s * 56) (by exact h172) (heL Y) (HRG.out u hku.belowA).2.2 _ Try.underlying118 rfl (by rw [size_he, heL_len]) ?_
                                exact hK _ _ ⟨_, rfl, Reg.KJ.refl _, fun d hd => by cases hd; exact rfl, fun h => by cases h⟩
                              · intro x u hku hd
                                have h169 : x 169 = .agg (heL Y).toArray := hd 17 (by decide)
                                have h173 : x 173 = .agg (heL Y).toArray := hd 21 (by decide)
                                have h165 : x 165 = .bool true := hd 13 (by decide)
                                have he := HEY.out
                                refine wpOp_step rfl fun KK hK => ?_
                                simp only [h169, h173, h165] at hK ⊢
                                go_simp
                                exact hK _ _ ⟨_, rfl, Reg.KJ.refl _, fun d hd => by cases hd; exact rfl, fun h => by cases h⟩
                              · intro x u hku hd
                                have h165 : x 165 = .bool true := hd 13 (by decide)
                                have h174 : x 174 = .bool false := hd 22 (by decide)
                                have h161 : x 161 = .bool false := hd 9 (by decide)
                                refine wpOp_step rfl fun KK hK => ?_
                                simp only [h165, h174, h161] at hK ⊢
                                go_simp
                                exact hK _ _ ⟨_, rfl, Reg.KJ.refl _, fun d hd => by cases hd; exact rfl, fun h => by cases h⟩
                              · intro x u hku hd
                                have h161 : x 161 = .bool false := hd 9 (by decide)
                                have h175 : x 175 = .bool false := hd 23 (by decide)
                                refine wpOp_step rfl fun KK hK => ?_
                                simp only [h161, h175] at hK ⊢
                                go_simp
                                exact hK _ _ ⟨_, rfl, Reg.KJ.refl _, fun d hd => by cases hd; exact rfl, fun h => by cases h⟩
                            · intro y V3 hku hdd
                              have e176 : y 176 = .bool false := hdd 24 (by decide)
                              have HJ3 := Lib.hid (below_then HJ.out hku.belowA)
                              clear hku hdd
                              simp only [Reg.frame, Reg.over, Nat.reduceAdd, Nat.reduceLeDiff, decide_true, decide_false, if_true, Bool.false_eq_true, if_false, Bool.and_true, Bool.and_false, e176]
                              go_wp2_with fail
                              go_roundw
                              case rel => exact ⟨s + 1, by omega, by go_num, HJ3⟩
                              case measure => simp [intOf]; omega
                        · obtain rfl : s = N := by omega
                          go_wp2_with fail
                          go_roundw
                          case rel => exact ⟨i + 1, by omega, by go_num, Lib.hid (HPW.out.on HJ.out), Lib.hid (.inr ⟨gf, rfl, HGF.out.on HJ.out⟩)⟩
                          case measure => simp [intOf]; omega
                · have dn : decide (0 < (xo.m : Int)) = false := decide_eq_false (by omega)
                  have HWV := HW2
                  have HBV : Hid (Blk V2 g 54 (flL (fun j => (hRow xo bad Rs i j).l) N ++ Z).toArray) := Lib.hid (by
                      have h := HQ2.out
                      rwa [flL_congr (h := fun j => (hRow xo bad Rs i j).l) (fun q hq => by
                        unfold hRow faA
                        by_cases e : q = bad
                        · rw [if_pos e, if_pos e, if_neg hn]
                        · rw [if_neg e, if_neg e])] at h)
                  go_upto_region 28 with fail
                  clear cx0 lx dn HQ2 HW2 HPV
                  obtain ⟨V, hV⟩ : ∃ V, V = V2 := ⟨_, rfl⟩
                  rw [← hV] at HBV HWV ⊢
                  clear hV
                  have HPV := Lib.hid (HP.out.on HWV.out)
                  have HFV : Hid (FirstA V N W _) := Lib.hid (HF.out.on HWV.out)
                  have HAGR := Lib.hid (agree_row lN lbad HCI.out HXI.out HPV.out i g c2 lc Z HBV.out)
                  rw [← HWE.out] at HAGR
                  obtain ⟨gw, hgw⟩ : ∃ gw, gw = V.heap.size := ⟨_, rfl⟩
                  rw [← hgw] at HAGR
                  have HGWE := Lib.hid hgw
                  clear hgw HWV HBV HP HF
                  rcases HFV.out with rfl | ⟨gf, rfl, hgf⟩
                  · clear HFV
                    have hq := nilHe0
                    go_upto_region 33 with (go_at_call 40; (with_reducible refine HAGR.out.mono ?_); rintro e V2 ⟨rfl, q1, q2⟩; have HGW := Lib.hid q1; have HBW : Hid (Below V.heap.size V V2) := Lib.hid (by rw [← HGWE.out]; exact q2); clear q1 q2)
                    have HGF := HGW
                    have HPW := Lib.hid (HPV.out.on (HBW.out))
                    clear HAGR HPV HBW
                    go_wp2_with fail
                    go_loopw [18] (fun sv wj => ∃ s : Nat, s ≤ N ∧ sv = .int .i64 (s : Int) ∧ Hid (Below V2.heap.size V2 wj)) (fun sv _ => N - (intOf sv).toNat)
                    case atStart => exact ⟨0, by omega, rfl, Lib.hid (Below.refl _ _)⟩
                    case round =>
                      obtain ⟨s, hs, rfl, HJ⟩ := hrel
                      by_cases hls : s < N
                      · have ds : decide ((s : Int) < (N : Int)) = true := decide_eq_true (by omega)
                        obtain ⟨Y, hY⟩ : ∃ Y : He, Y = W s := ⟨_, rfl⟩
                        have HEY : Hid (∀ W', (binOp .neq 118 (.agg (heL Y).toArray) (.agg (heL Y).toArray)).run Try.prog W' = .ok (.bool false) W') := Lib.hid (fun W' => (held_neq Y Y W').trans (by rw [heE_refl]; rfl))
                        have HRG : Hid (∀ u, Below wr.heap.size wr u → u.rangeAt gw (s * 56) (heL Y) ∧ u.rangeAt gw (s * 56) (heL Y) ∧ (s ≠ bad → u.rangeAt gT (s * 56) (heL Y))) := Lib.hid (fun u hu => by
                          have hb := below_then HJ.out hu
                          refine ⟨?_, ?_, fun hne => ?_⟩
                          · rw [hY]; exact held_range (HGW.out.on hb) hls
                          · rw [hY]; exact held_range (HGF.out.on hb) hls
                          · have h := held_range (HPW.out.p.t.on hb) hls
                            rwa [hY, HWE.out, agW, if_neg hne])
                        clear hY
                        by_cases hsb : s = bad
                        · obtain rfl : bad = s := hsb.symm
                          go_upto_region 36 with fail
                          refine Reg.wp_slots2 (fun t => decide (152 ≤ t) && decide (t ≤ 176)) (Reg.KJ wr.heap.size [] []) (Reg.KJ.drew _ (by simp)) Reg.KJ.trans (by kernel_rfl) (by kernel_rfl) (by kernel_rfl) (fun zz => (Reg.tblK [
                            (152, .is (.slice (some ⟨gw, 0, none⟩) N N)),
                            (153, .is (.int .i64 (bad : Int))),
                            (154, .is (.pointer (some ⟨gw, bad * 56, none⟩))),
                            (155, .is (.agg (heL Y).toArray)),
                            (156, .is (.slice (some ⟨gw, 0, none⟩) N N)),
                            (157, .is (.int .i64 (bad : Int))),
                            (158, .is (.pointer (some ⟨gw, bad * 56, none⟩))),
                            (159, .is (.agg (heL Y).toArray)),
                            (160, .is (.bool false)),
                            (161, .is (.bool false)),
                            (162, .is (.int .i64 (bad : Int))),
                            (163, .is (.int .i64 (bad : Int))),
                            (164, .is (.bool false)),
                            (165, .is (.bool false)),
                            (166, .is (undef)),
                            (167, .is (undef)),
                            (168, .is (undef)),
                            (169, .is (undef)),
                            (170, .is (undef)),
                            (171, .is (undef)),
                            (172, .is (undef)),
                            (173, .is (undef)),
                            (174, .is (undef)),
                            (175, .is (.bool false)),
                            (176, .is (.bool false))] zz).P) (fun zz => (Reg.tblK _ zz).on) (fun zz => (Reg.memK [] zz).P) (fun zz => (Reg.memK _ zz).on) ?_ ?_
                          · simp only [Reg.frame, Reg.over, Nat.reduceAdd, Nat.reduceLeDiff, decide_true, decide_false, if_true, Bool.false_eq_true, if_false, Bool.and_true, Bool.and_false]
                            refine ⟨?_, ?_, ?_, ?_, ?_, ?_, ?_, ?_, ?_, ?_, ?_, ?_, ?_, ?_, ?_, ?_, ?_, ?_, ?_, ?_, ?_, ?_, ?_, ?_, ?_, trivial⟩
                            · intro x u hku hd
                              refine wpOp_step rfl fun KK hK => ?_
                              go_simp
                              exact hK _ _ ⟨_, rfl, Reg.KJ.refl _, fun d hd => by cases hd; exact rfl, fun h => by cases h⟩
                            · intro x u hku hd
                              refine wpOp_step rfl fun KK hK => ?_
                              go_simp
                              exact hK _ _ ⟨_, rfl, Reg.KJ.refl _, fun d hd => by cases hd; exact rfl, fun h => by cases h⟩
                            · intro x u hku hd
                              have h152 : x 152 = .slice (some ⟨gw, 0, none⟩) N N := hd 0 (by decide)
                              have h153 : x 153 = .int .i64 (bad : Int) := hd 1 (by decide)
                              have hix : ∀ W, (Instr.indexAt 52 (.slice (some ⟨gw, 0, none⟩) N N) (.int .i64 (bad : Int))).run Try.prog W = .ok (.pointer (some ⟨gw, bad * 56, none⟩)) W := fun W => by rw [idxHelds (A := some ⟨gw, 0, none⟩) (n := N) N rfl hls W, Nat.zero_add]
                              refine wpOp_step rfl fun KK hK => ?_
                              simp only [h152, h153] at hK ⊢
                              go_simp
                              exact hK _ _ ⟨_, rfl, Reg.KJ.refl _, fun d hd => by cases hd; exact rfl, fun h => by cases h⟩
                            · intro x u hku hd
                              have h154 : x 154 = .pointer (some ⟨gw, bad * 56, none⟩) := hd 2 (by decide)
                              refine wpOp_step rfl fun KK hK => ?_
                              refine Reg.step_load_mid (by rfl) 118 (.tmp 154) (by rfl) gw (bad * 56) (by exact h154) (heL Y) (HRG.out u hku.belowA).1 _ Try.underlying118 rfl (by rw [size_he, heL_len]) ?_
                              exact hK _ _ ⟨_, rfl, Reg.KJ.refl _, fun d hd => by cases hd; exact rfl, fun h => by cases h⟩
                            · intro x u hku hd
                              refine wpOp_step rfl fun KK hK => ?_
                              go_simp
                              exact hK _ _ ⟨_, rfl, Reg.KJ.refl _, fun d hd => by cases hd; exact rfl, fun h => by cases h⟩
                            · intro x u hku hd
                              refine wpOp_step rfl fun KK hK => ?_
                              go_simp
                              exact hK _ _ ⟨_, rfl, Reg.KJ.refl _, fun d hd => by cases hd; exact rfl, fun h => by cases h⟩
                            · intro x u hku hd
                              have h156 : x 156 = .slice (some ⟨gw, 0, none⟩) N N := hd 4 (by decide)
                              have h157 : x 157 = .int .i64 (bad : Int) := hd 5 (by decide)
                              have hix : ∀ W, (Instr.indexAt 52 (.slice (some ⟨gw, 0, none⟩) N N) (.int .i64 (bad : Int))).run Try.prog W = .ok (.pointer (some ⟨gw, bad * 56, none⟩)) W := fun W => by rw [idxHelds (A := some ⟨gw, 0, none⟩) (n := N) N rfl hls W, Nat.zero_add]
                              refine wpOp_step rfl fun KK hK => ?_
                              simp only [h156, h157] at hK ⊢
                              go_simp
                              exact hK _ _ ⟨_, rfl, Reg.KJ.refl _, fun d hd => by cases hd; exact rfl, fun h => by cases h⟩
                            · intro x u hku hd
                              have h158 : x 158 = .pointer (some ⟨gw, bad * 56, none⟩) := hd 6 (by decide)
                              refine wpOp_step rfl fun KK hK => ?_
                              refine Reg.step_load_mid (by rfl) 118 (.tmp 158) (by rfl) gw (bad * 56) (by exact h158) (heL Y) (HRG.out u hku.belowA).2.1 _ Try.underlying118 rfl (by rw [size_he, heL_len]) ?_
                              exact hK _ _ ⟨_, rfl, Reg.KJ.refl _, fun d hd => by cases hd; exact rfl, fun h => by cases h⟩
                            · intro x u hku hd
                              have h155 : x 155 = .agg (heL Y).toArray := hd 3 (by decide)
                              have h159 : x 159 = .agg (heL Y).toArray := hd 7 (by decide)
                              have he := HEY.out
                              refine wpOp_step rfl fun KK hK => ?_
                              simp only [h155, h159] at hK ⊢
                              go_simp
                              exact hK _ _ ⟨_, rfl, Reg.KJ.refl _, fun d hd => by cases hd; exact rfl, fun h => by cases h⟩
                            · intro x u hku hd
                              have h160 : x 160 = .bool false := hd 8 (by decide)
                              refine wpOp_step rfl fun KK hK => ?_
                              simp only [h160] at hK ⊢
                              go_simp
                              exact hK _ _ ⟨_, rfl, Reg.KJ.refl _, fun d hd => by cases hd; exact rfl, fun h => by cases h⟩
                            · intro x u hku hd
                              have h161 : x 161 = .bool false := hd 9 (by decide)
                              refine wpOp_step rfl fun KK hK => ?_
                              simp only [h161] at hK ⊢
                              go_simp
                              exact hK _ _ ⟨_, rfl, Reg.KJ.refl _, fun d hd => by cases hd; exact rfl, fun h => by cases h⟩
                            · intro x u hku hd
                              have h161 : x 161 = .bool false := hd 9 (by decide)
                              refine wpOp_step rfl fun KK hK => ?_
                              simp only [h161] at hK ⊢
                              go_simp
                              exact hK _ _ ⟨_, rfl, Reg.KJ.refl _, fun d hd => by cases hd; exact rfl, fun h => by cases h⟩
                            · intro x u hku hd
                              have h162 : x 162 = .int .i64 (bad : Int) := hd 10 (by decide)
                              have h163 : x 163 = .int .i64 (bad : Int) := hd 11 (by decide)
                              have h161 : x 161 = .bool false := hd 9 (by decide)
                              refine wpOp_step rfl fun KK hK => ?_
                              simp only [h162, h163, h161] at hK ⊢
                              go_simp
                              exact hK _ _ ⟨_, rfl, Reg.KJ.refl _, fun d hd => by cases hd; exact rfl, fun h => by cases h⟩
                            · intro x u hku hd
                              have h164 : x 164 = .bool false := hd 12 (by decide)
                              have h161 : x 161 = .bool false := hd 9 (by decide)
                              refine wpOp_step rfl fun KK hK => ?_
                              simp only [h164, h161] at hK ⊢
                              go_simp
                              exact hK _ _ ⟨_, rfl, Reg.KJ.refl _, fun d hd => by cases hd; exact rfl, fun h => by cases h⟩
                            · intro x u hku hd
                              have h165 : x 165 = .bool false := hd 13 (by decide)
                              refine wpOp_step rfl fun KK hK => ?_
                              simp only [h165] at hK ⊢
                              go_simp
                              exact hK _ _ ⟨_, rfl, Reg.KJ.refl _, fun d hd => by cases hd; exact rfl, fun h => by cases h⟩
                            · intro x u hku hd
                              have h165 : x 165 = .bool false := hd 13 (by decide)
                              refine wpOp_step rfl fun KK hK => ?_
                              simp only [h165] at hK ⊢
                              go_simp
                              exact hK _ _ ⟨_, rfl, Reg.KJ.refl _, fun d hd => by cases hd; exact rfl, fun h => by cases h⟩
                            · intro x u hku hd
                              have h166 : x 166 = undef := hd 14 (by decide)
                              have h167 : x 167 = undef := hd 15 (by decide)
                              have h165 : x 165 = .bool false := hd 13 (by decide)
                              refine wpOp_step rfl fun KK hK => ?_
                              simp only [h166, h167, h165] at hK ⊢
                              go_simp
                              exact hK _ _ ⟨_, rfl, Reg.KJ.refl _, fun d hd => by cases hd; exact rfl, fun h => by cases h⟩
                            · intro x u hku hd
                              have h168 : x 168 = undef := hd 16 (by decide)
                              have h165 : x 165 = .bool false := hd 13 (by decide)
                              refine wpOp_step rfl fun KK hK => ?_
                              simp only [h168, h165] at hK ⊢
                              go_simp
                              exact hK _ _ ⟨_, rfl, Reg.KJ.refl _, fun d hd => by cases hd; exact rfl, fun h => by cases h⟩
                            · intro x u hku hd
                              have h165 : x 165 = .bool false := hd 13 (by decide)
                              refine wpOp_step rfl fun KK hK => ?_
                              simp only [h165] at hK ⊢
                              go_simp
                              exact hK _ _ ⟨_, rfl, Reg.KJ.refl _, fun d hd => by cases hd; exact rfl, fun h => by cases h⟩
                            · intro x u hku hd
                              have h165 : x 165 = .bool false := hd 13 (by decide)
                              refine wpOp_step rfl fun KK hK => ?_
                              simp only [h165] at hK ⊢
                              go_simp
                              exact hK _ _ ⟨_, rfl, Reg.KJ.refl _, fun d hd => by cases hd; exact rfl, fun h => by cases h⟩
                            · intro x u hku hd
                              have h170 : x 170 = undef := hd 18 (by decide)
                              have h171 : x 171 = undef := hd 19 (by decide)
                              have h165 : x 165 = .bool false := hd 13 (by decide)
                              refine wpOp_step rfl fun KK hK => ?_
                              simp only [h170, h171, h165] at hK ⊢
                              go_simp
                              exact hK _ _ ⟨_, rfl, Reg.KJ.refl _, fun d hd => by cases hd; exact rfl, fun h => by cases h⟩
                            · intro x u hku hd
                              have h172 : x 172 = undef := hd 20 (by decide)
                              have h165 : x 165 = .bool false := hd 13 (by decide)
                              refine wpOp_step rfl fun KK hK => ?_
                              simp only [h172, h165] at hK ⊢
                              go_simp
                              exact hK _ _ ⟨_, rfl, Reg.KJ.refl _, fun d hd => by cases hd; exact rfl, fun h => by cases h⟩
                            · intro x u hku hd
                              have h169 : x 169 = undef := hd 17 (by decide)
                              have h173 : x 173 = undef := hd 21 (by decide)
                              have h165 : x 165 = .bool false := hd 13 (by decide)
                              refine wpOp_step rfl fun KK hK => ?_
                              simp only [h169, h173, h165] at hK ⊢
                              go_simp
                              exact hK _ _ ⟨_, rfl, Reg.KJ.refl _, fun d hd => by cases hd; exact rfl, fun h => by cases h⟩
                            · intro x u hku hd
                              have h165 : x 165 = .bool false := hd 13 (by decide)
                              have h174 : x 174 = undef := hd 22 (by decide)
                              have h161 : x 161 = .bool false := hd 9 (by decide)
                              refine wpOp_step rfl fun KK hK => ?_
                              simp only [h165, h174, h161] at hK ⊢
                              go_simp
                              exact hK _ _ ⟨_, rfl, Reg.KJ.refl _, fun d hd => by cases hd; exact rfl, fun h => by cases h⟩
                            · intro x u hku hd
                              have h161 : x 161 = .bool false := hd 9 (by decide)
                              have h175 : x 175 = .bool false := hd 23 (by decide)
                              refine wpOp_step rfl fun KK hK => ?_
                              simp only [h161, h175] at hK ⊢
                              go_simp
                              exact hK _ _ ⟨_, rfl, Reg.KJ.refl _, fun d hd => by cases hd; exact rfl, fun h => by cases h⟩
                          · intro y V3 hku hdd
                            have e176 : y 176 = .bool false := hdd 24 (by decide)
                            have HJ3 := Lib.hid (below_then HJ.out hku.belowA)
                            clear hku hdd
                            simp only [Reg.frame, Reg.over, Nat.reduceAdd, Nat.reduceLeDiff, decide_true, decide_false, if_true, Bool.false_eq_true, if_false, Bool.and_true, Bool.and_false, e176]
                            go_wp2_with fail
                            go_roundw
                            case rel => exact ⟨bad + 1, by omega, by go_num, HJ3⟩
                            case measure => simp [intOf]; omega
                        · have HNB : Hid (((s : Int) != (bad : Int)) = true) := Lib.hid (by simp; omega)
                          have HRG' := HRG
                          clear HRG
                          have HRG : Hid (∀ u, Below wr.heap.size wr u → u.rangeAt gw (s * 56) (heL Y) ∧ u.rangeAt gw (s * 56) (heL Y) ∧ u.rangeAt gT (s * 56) (heL Y)) := Lib.hid (fun u hu => ⟨(HRG'.out u hu).1, (HRG'.out u hu).2.1, (HRG'.out u hu).2.2 hsb⟩)
                          clear HRG' hsb
                          go_upto_region 36 with fail
                          refine Reg.wp_slots2 (fun t => decide (152 ≤ t) && decide (t ≤ 176)) (Reg.KJ wr.heap.size [] []) (Reg.KJ.drew _ (by simp)) Reg.KJ.trans (by kernel_rfl) (by kernel_rfl) (by kernel_rfl) (fun zz => (Reg.tblK [
                            (152, .is (.slice (some ⟨gw, 0, none⟩) N N)),
                            (153, .is (.int .i64 (s : Int))),
                            (154, .is (.pointer (some ⟨gw, s * 56, none⟩))),
                            (155, .is (.agg (heL Y).toArray)),
                            (156, .is (.slice (some ⟨gw, 0, none⟩) N N)),
                            (157, .is (.int .i64 (s : Int))),
                            (158, .is (.pointer (some ⟨gw, s * 56, none⟩))),
                            (159, .is (.agg (heL Y).toArray)),
                            (160, .is (.bool false)),
                            (161, .is (.bool false)),
                            (162, .is (.int .i64 (s : Int))),
                            (163, .is (.int .i64 (bad : Int))),
                            (164, .is (.bool true)),
                            (165, .is (.bool true)),
                            (166, .is (.slice (some ⟨gw, 0, none⟩) N N)),
                            (167, .is (.int .i64 (s : Int))),
                            (168, .is (.pointer (some ⟨gw, s * 56, none⟩))),
                            (169, .is (.agg (heL Y).toArray)),
                            (170, .is (.slice (some ⟨gT, 0, none⟩) N N)),
                            (171, .is (.int .i64 (s : Int))),
                            (172, .is (.pointer (some ⟨gT, s * 56, none⟩))),
                            (173, .is (.agg (heL Y).toArray)),
                            (174, .is (.bool false)),
                            (175, .is (.bool false)),
                            (176, .is (.bool false))] zz).P) (fun zz => (Reg.tblK _ zz).on) (fun zz => (Reg.memK [] zz).P) (fun zz => (Reg.memK _ zz).on) ?_ ?_
                          · simp only [Reg.frame, Reg.over, Nat.reduceAdd, Nat.reduceLeDiff, decide_true, decide_false, if_true, Bool.false_eq_true, if_false, Bool.and_true, Bool.and_false]
                            refine ⟨?_, ?_, ?_, ?_, ?_, ?_, ?_, ?_, ?_, ?_, ?_, ?_, ?_, ?_, ?_, ?_, ?_, ?_, ?_, ?_, ?_, ?_, ?_, ?_, ?_, trivial⟩
                            · intro x u hku hd
                              refine wpOp_step rfl fun KK hK => ?_
                              go_simp
                              exact hK _ _ ⟨_, rfl, Reg.KJ.refl _, fun d hd => by cases hd; exact rfl, fun h => by cases h⟩
                            · intro x u hku hd
                              refine wpOp_step rfl fun KK hK => ?_
                              go_simp
                              exact hK _ _ ⟨_, rfl, Reg.KJ.refl _, fun d hd => by cases hd; exact rfl, fun h => by cases h⟩
                            · intro x u hku hd
                              have h152 : x 152 = .slice (some ⟨gw, 0, none⟩) N N := hd 0 (by decide)
                              have h153 : x 153 = .int .i64 (s : Int) := hd 1 (by decide)
                              have hix : ∀ W, (Instr.indexAt 52 (.slice (some ⟨gw, 0, none⟩) N N) (.int .i64 (s : Int))).run Try.prog W = .ok (.pointer (some ⟨gw, s * 56, none⟩)) W := fun W => by rw [idxHelds (A := some ⟨gw, 0, none⟩) (n := N) N rfl hls W, Nat.zero_add]
                              refine wpOp_step rfl fun KK hK => ?_
                              simp only [h152, h153] at hK ⊢
                              go_simp
                              exact hK _ _ ⟨_, rfl, Reg.KJ.refl _, fun d hd => by cases hd; exact rfl, fun h => by cases h⟩
                            · intro x u hku hd
                              have h154 : x 154 = .pointer (some ⟨gw, s * 56, none⟩) := hd 2 (by decide)
                              refine wpOp_step rfl fun KK hK => ?_
                              refine Reg.step_load_mid (by rfl) 118 (.tmp 154) (by rfl) gw (s * 56) (by exact h154) (heL Y) (HRG.out u hku.belowA).1 _ Try.underlying118 rfl (by rw [size_he, heL_len]) ?_
                              exact hK _ _ ⟨_, rfl, Reg.KJ.refl _, fun d hd => by cases hd; exact rfl, fun h => by cases h⟩
                            · intro x u hku hd
                              refine wpOp_step rfl fun KK hK => ?_
                              go_simp
                              exact hK _ _ ⟨_, rfl, Reg.KJ.refl _, fun d hd => by cases hd; exact rfl, fun h => by cases h⟩
                            · intro x u hku hd
                              refine wpOp_step rfl fun KK hK => ?_
                              go_simp
                              exact hK _ _ ⟨_, rfl, Reg.KJ.refl _, fun d hd => by cases hd; exact rfl, fun h => by cases h⟩
                            · intro x u hku hd
                              have h156 : x 156 = .slice (some ⟨gw, 0, none⟩) N N := hd 4 (by decide)
                              have h157 : x 157 = .int .i64 (s : Int) := hd 5 (by decide)
                              have hix : ∀ W, (Instr.indexAt 52 (.slice (some ⟨gw, 0, none⟩) N N) (.int .i64 (s : Int))).run Try.prog W = .ok (.pointer (some ⟨gw, s * 56, none⟩)) W := fun W => by rw [idxHelds (A := some ⟨gw, 0, none⟩) (n := N) N rfl hls W, Nat.zero_add]
                              refine wpOp_step rfl fun KK hK => ?_
                              simp only [h156, h157] at hK ⊢
                              go_simp
                              exact hK _ _ ⟨_, rfl, Reg.KJ.refl _, fun d hd => by cases hd; exact rfl, fun h => by cases h⟩
                            · intro x u hku hd
                              have h158 : x 158 = .pointer (some ⟨gw, s * 56, none⟩) := hd 6 (by decide)
                              refine wpOp_step rfl fun KK hK => ?_
                              refine Reg.step_load_mid (by rfl) 118 (.tmp 158) (by rfl) gw (s * 56) (by exact h158) (heL Y) (HRG.out u hku.belowA).2.1 _ Try.underlying118 rfl (by rw [size_he, heL_len]) ?_
                              exact hK _ _ ⟨_, rfl, Reg.KJ.refl _, fun d hd => by cases hd; exact rfl, fun h => by cases h⟩
                            · intro x u hku hd
                              have h155 : x 155 = .agg (heL Y).toArray := hd 3 (by decide)
                              have h159 : x 159 = .agg (heL Y).toArray := hd 7 (by decide)
                              have he := HEY.out
                              refine wpOp_step rfl fun KK hK => ?_
                              simp only [h155, h159] at hK ⊢
                              go_simp
                              exact hK _ _ ⟨_, rfl, Reg.KJ.refl _, fun d hd => by cases hd; exact rfl, fun h => by cases h⟩
                            · intro x u hku hd
                              have h160 : x 160 = .bool false := hd 8 (by decide)
                              refine wpOp_step rfl fun KK hK => ?_
                              simp only [h160] at hK ⊢
                              go_simp
                              exact hK _ _ ⟨_, rfl, Reg.KJ.refl _, fun d hd => by cases hd; exact rfl, fun h => by cases h⟩
                            · intro x u hku hd
                              have h161 : x 161 = .bool false := hd 9 (by decide)
                              refine wpOp_step rfl fun KK hK => ?_
                              simp only [h161] at hK ⊢
                              go_simp
                              exact hK _ _ ⟨_, rfl, Reg.KJ.refl _, fun d hd => by cases hd; exact rfl, fun h => by cases h⟩
                            · intro x u hku hd
                              have h161 : x 161 = .bool false := hd 9 (by decide)
                              refine wpOp_step rfl fun KK hK => ?_
                              simp only [h161] at hK ⊢
                              go_simp
                              exact hK _ _ ⟨_, rfl, Reg.KJ.refl _, fun d hd => by cases hd; exact rfl, fun h => by cases h⟩
                            · intro x u hku hd
                              have h162 : x 162 = .int .i64 (s : Int) := hd 10 (by decide)
                              have h163 : x 163 = .int .i64 (bad : Int) := hd 11 (by decide)
                              have h161 : x 161 = .bool false := hd 9 (by decide)
                              have hn3 : ((s : Int) != (bad : Int)) = true := HNB.out
                              refine wpOp_step rfl fun KK hK => ?_
                              simp only [h162, h163, h161] at hK ⊢
                              go_simp
                              exact hK _ _ ⟨_, rfl, Reg.KJ.refl _, fun d hd => by cases hd; exact rfl, fun h => by cases h⟩
                            · intro x u hku hd
                              have h164 : x 164 = .bool true := hd 12 (by decide)
                              have h161 : x 161 = .bool false := hd 9 (by decide)
                              refine wpOp_step rfl fun KK hK => ?_
                              simp only [h164, h161] at hK ⊢
                              go_simp
                              exact hK _ _ ⟨_, rfl, Reg.KJ.refl _, fun d hd => by cases hd; exact rfl, fun h => by cases h⟩
                            · intro x u hku hd
                              have h165 : x 165 = .bool true := hd 13 (by decide)
                              refine wpOp_step rfl fun KK hK => ?_
                              simp only [h165] at hK ⊢
                              go_simp
                              exact hK _ _ ⟨_, rfl, Reg.KJ.refl _, fun d hd => by cases hd; exact rfl, fun h => by cases h⟩
                            · intro x u hku hd
                              have h165 : x 165 = .bool true := hd 13 (by decide)
                              refine wpOp_step rfl fun KK hK => ?_
                              simp only [h165] at hK ⊢
                              go_simp
                              exact hK _ _ ⟨_, rfl, Reg.KJ.refl _, fun d hd => by cases hd; exact rfl, fun h => by cases h⟩
                            · intro x u hku hd
                              have h166 : x 166 = .slice (some ⟨gw, 0, none⟩) N N := hd 14 (by decide)
                              have h167 : x 167 = .int .i64 (s : Int) := hd 15 (by decide)
                              have h165 : x 165 = .bool true := hd 13 (by decide)
                              have hix : ∀ W, (Instr.indexAt 52 (.slice (some ⟨gw, 0, none⟩) N N) (.int .i64 (s : Int))).run Try.prog W = .ok (.pointer (some ⟨gw, s * 56, none⟩)) W := fun W => by rw [idxHelds (A := some ⟨gw, 0, none⟩) (n := N) N rfl hls W, Nat.zero_add]
                              refine wpOp_step rfl fun KK hK => ?_
                              simp only [h166, h167, h165] at hK ⊢
                              go_simp
                              exact hK _ _ ⟨_, rfl, Reg.KJ.refl _, fun d hd => by cases hd; exact rfl, fun h => by cases h⟩
                            · intro x u hku hd
                              have h168 : x 168 = .pointer (some ⟨gw, s * 56, none⟩) := hd 16 (by decide)
                              have h165 : x 165 = .bool true := hd 13 (by decide)
                              refine wpOp_step rfl fun KK hK => ?_
                              refine Reg.step_load_wantT (by simp only [h165]; kernel_rfl) 118 (.tmp 168) (by rfl) gw (s * 56) (by exact h168) (heL Y) (HRG.out u hku.belowA).1 _ Try.underlying118 rfl (by rw [size_he, heL_len]) ?_
                              exact hK _ _ ⟨_, rfl, Reg.KJ.refl _, fun d hd => by cases hd; exact rfl, fun h => by cases h⟩
                            · intro x u hku hd
                              have h165 : x 165 = .bool true := hd 13 (by decide)
                              refine wpOp_step rfl fun KK hK => ?_
                              simp only [h165] at hK ⊢
                              go_simp
                              exact hK _ _ ⟨_, rfl, Reg.KJ.refl _, fun d hd => by cases hd; exact rfl, fun h => by cases h⟩
                            · intro x u hku hd
                              have h165 : x 165 = .bool true := hd 13 (by decide)
                              refine wpOp_step rfl fun KK hK => ?_
                              simp only [h165] at hK ⊢
                              go_simp
                              exact hK _ _ ⟨_, rfl, Reg.KJ.refl _, fun d hd => by cases hd; exact rfl, fun h => by cases h⟩
                            · intro x u hku hd
                              have h170 : x 170 = .slice (some ⟨gT, 0, none⟩) N N := hd 18 (by decide)
                              have h171 : x 171 = .int .i64 (s : Int) := hd 19 (by decide)
                              have h165 : x 165 = .bool true := hd 13 (by decide)
                              have hix : ∀ W, (Instr.indexAt 52 (.slice (some ⟨gT, 0, none⟩) N N) (.int .i64 (s : Int))).run Try.prog W = .ok (.pointer (some ⟨gT, s * 56, none⟩)) W := fun W => by rw [idxHelds (A := some ⟨gT, 0, none⟩) (n := N) N rfl hls W, Nat.zero_add]
                              refine wpOp_step rfl fun KK hK => ?_
                              simp only [h170, h171, h165] at hK ⊢
                              go_simp
                              exact hK _ _ ⟨_, rfl, Reg.KJ.refl _, fun d hd => by cases hd; exact rfl, fun h => by cases h⟩
                            · intro x u hku hd
                              have h172 : x 172 = .pointer (some ⟨gT, s * 56, none⟩) := hd 20 (by decide)
                              have h165 : x 165 = .bool true := hd 13 (by decide)
                              refine wpOp_step rfl fun KK hK => ?_
                              refine Reg.step_load_wantT (by simp only [h165]; kernel_rfl) 118 (.tmp 172) (by rfl) gT (s * 56) (by exact h172) (heL Y) (HRG.out u hku.belowA).2.2 _ Try.underlying118 rfl (by rw [size_he, heL_len]) ?_
                              exact hK _ _ ⟨_, rfl, Reg.KJ.refl _, fun d hd => by cases hd; exact rfl, fun h => by cases h⟩
                            · intro x u hku hd
                              have h169 : x 169 = .agg (heL Y).toArray := hd 17 (by decide)
                              have h173 : x 173 = .agg (heL Y).toArray := hd 21 (by decide)
                              have h165 : x 165 = .bool true := hd 13 (by decide)
                              have he := HEY.out
                              refine wpOp_step rfl fun KK hK => ?_
                              simp only [h169, h173, h165] at hK ⊢
                              go_simp
                              exact hK _ _ ⟨_, rfl, Reg.KJ.refl _, fun d hd => by cases hd; exact rfl, fun h => by cases h⟩
                            · intro x u hku hd
                              have h165 : x 165 = .bool true := hd 13 (by decide)
                              have h174 : x 174 = .bool false := hd 22 (by decide)
                              have h161 : x 161 = .bool false := hd 9 (by decide)
                              refine wpOp_step rfl fun KK hK => ?_
                              simp only [h165, h174, h161] at hK ⊢
                              go_simp
                              exact hK _ _ ⟨_, rfl, Reg.KJ.refl _, fun d hd => by cases hd; exact rfl, fun h => by cases h⟩
                            · intro x u hku hd
                              have h161 : x 161 = .bool false := hd 9 (by decide)
                              have h175 : x 175 = .bool false := hd 23 (by decide)
                              refine wpOp_step rfl fun KK hK => ?_
                              simp only [h161, h175] at hK ⊢
                              go_simp
                              exact hK _ _ ⟨_, rfl, Reg.KJ.refl _, fun d hd => by cases hd; exact rfl, fun h => by cases h⟩
                          · intro y V3 hku hdd
                            have e176 : y 176 = .bool false := hdd 24 (by decide)
                            have HJ3 := Lib.hid (below_then HJ.out hku.belowA)
                            clear hku hdd
                            simp only [Reg.frame, Reg.over, Nat.reduceAdd, Nat.reduceLeDiff, decide_true, decide_false, if_true, Bool.false_eq_true, if_false, Bool.and_true, Bool.and_false, e176]
                            go_wp2_with fail
                            go_roundw
                            case rel => exact ⟨s + 1, by omega, by go_num, HJ3⟩
                            case measure => simp [intOf]; omega
                      · obtain rfl : s = N := by omega
                        go_wp2_with fail
                        go_roundw
                        case rel => exact ⟨i + 1, by omega, by go_num, Lib.hid (HPW.out.on HJ.out), Lib.hid (.inr ⟨gw, rfl, HGF.out.on HJ.out⟩)⟩
                        case measure => simp [intOf]; omega
                  · have HGF0 := Lib.hid hgf
                    clear hgf HFV
                    have hq := nilHe ⟨gf, 0, none⟩ N N
                    go_upto_region 33 with (go_at_call 40; (with_reducible refine HAGR.out.mono ?_); rintro e V2 ⟨rfl, q1, q2⟩; have HGW := Lib.hid q1; have HBW : Hid (Below V.heap.size V V2) := Lib.hid (by rw [← HGWE.out]; exact q2); clear q1 q2)
                    have HGF := Lib.hid (HGF0.out.on (HBW.out))
                    have HPW := Lib.hid (HPV.out.on (HBW.out))
                    clear HAGR HPV HBW HGF0
                    go_wp2_with fail
                    go_loopw [18] (fun sv wj => ∃ s : Nat, s ≤ N ∧ sv = .int .i64 (s : Int) ∧ Hid (Below V2.heap.size V2 wj)) (fun sv _ => N - (intOf sv).toNat)
                    case atStart => exact ⟨0, by omega, rfl, Lib.hid (Below.refl _ _)⟩
                    case round =>
                      obtain ⟨s, hs, rfl, HJ⟩ := hrel
                      by_cases hls : s < N
                      · have ds : decide ((s : Int) < (N : Int)) = true := decide_eq_true (by omega)
                        obtain ⟨Y, hY⟩ : ∃ Y : He, Y = W s := ⟨_, rfl⟩
                        have HEY : Hid (∀ W', (binOp .neq 118 (.agg (heL Y).toArray) (.agg (heL Y).toArray)).run Try.prog W' = .ok (.bool false) W') := Lib.hid (fun W' => (held_neq Y Y W').trans (by rw [heE_refl]; rfl))
                        have HRG : Hid (∀ u, Below wr.heap.size wr u → u.rangeAt gw (s * 56) (heL Y) ∧ u.rangeAt gf (s * 56) (heL Y) ∧ (s ≠ bad → u.rangeAt gT (s * 56) (heL Y))) := Lib.hid (fun u hu => by
                          have hb := below_then HJ.out hu
                          refine ⟨?_, ?_, fun hne => ?_⟩
                          · rw [hY]; exact held_range (HGW.out.on hb) hls
                          · rw [hY]; exact held_range (HGF.out.on hb) hls
                          · have h := held_range (HPW.out.p.t.on hb) hls
                            rwa [hY, HWE.out, agW, if_neg hne])
                        clear hY
                        by_cases hsb : s = bad
                        · obtain rfl : bad = s := hsb.symm
                          go_upto_region 36 with fail
                          refine Reg.wp_slots2 (fun t => decide (152 ≤ t) && decide (t ≤ 176)) (Reg.KJ wr.heap.size [] []) (Reg.KJ.drew _ (by simp)) Reg.KJ.trans (by kernel_rfl) (by kernel_rfl) (by kernel_rfl) (fun zz => (Reg.tblK [
                            (152, .is (.slice (some ⟨gw, 0, none⟩) N N)),
                            (153, .is (.int .i64 (bad : Int))),
                            (154, .is (.pointer (some ⟨gw, bad * 56, none⟩))),
                            (155, .is (.agg (heL Y).toArray)),
                            (156, .is (.slice (some ⟨gf, 0, none⟩) N N)),
                            (157, .is (.int .i64 (bad : Int))),
                            (158, .is (.pointer (some ⟨gf, bad * 56, none⟩))),
                            (159, .is (.agg (heL Y).toArray)),
                            (160, .is (.bool false)),
                            (161, .is (.bool false)),
                            (162, .is (.int .i64 (bad : Int))),
                            (163, .is (.int .i64 (bad : Int))),
                            (164, .is (.bool false)),
                            (165, .is (.bool false)),
                            (166, .is (undef)),
                            (167, .is (undef)),
                            (168, .is (undef)),
                            (169, .is (undef)),
                            (170, .is (undef)),
                            (171, .is (undef)),
                            (172, .is (undef)),
                            (173, .is (undef)),
                            (174, .is (undef)),
                            (175, .is (.bool false)),
                            (176, .is (.bool false))] zz).P) (fun zz => (Reg.tblK _ zz).on) (fun zz => (Reg.memK [] zz).P) (fun zz => (Reg.memK _ zz).on) ?_ ?_
                          · simp only [Reg.frame, Reg.over, Nat.reduceAdd, Nat.reduceLeDiff, decide_true, decide_false, if_true, Bool.false_eq_true, if_false, Bool.and_true, Bool.and_false]
                            refine ⟨?_, ?_, ?_, ?_, ?_, ?_, ?_, ?_, ?_, ?_, ?_, ?_, ?_, ?_, ?_, ?_, ?_, ?_, ?_, ?_, ?_, ?_, ?_, ?_, ?_, trivial⟩
                            · intro x u hku hd
                              refine wpOp_step rfl fun KK hK => ?_
                              go_simp
                              exact hK _ _ ⟨_, rfl, Reg.KJ.refl _, fun d hd => by cases hd; exact rfl, fun h => by cases h⟩
                            · intro x u hku hd
                              refine wpOp_step rfl fun KK hK => ?_
                              go_simp
                              exact hK _ _ ⟨_, rfl, Reg.KJ.refl _, fun d hd => by cases hd; exact rfl, fun h => by cases h⟩
                            · intro x u hku hd
                              have h152 : x 152 = .slice (some ⟨gw, 0, none⟩) N N := hd 0 (by decide)
                              have h153 : x 153 = .int .i64 (bad : Int) := hd 1 (by decide)
                              have hix : ∀ W, (Instr.indexAt 52 (.slice (some ⟨gw, 0, none⟩) N N) (.int .i64 (bad : Int))).run Try.prog W = .ok (.pointer (some ⟨gw, bad * 56, none⟩)) W := fun W => by rw [idxHelds (A := some ⟨gw, 0, none⟩) (n := N) N rfl hls W, Nat.zero_add]
                              refine wpOp_step rfl fun KK hK => ?_
                              simp only [h152, h153] at hK ⊢
                              go_simp
                              exact hK _ _ ⟨_, rfl, Reg.KJ.refl _, fun d hd => by cases hd; exact rfl, fun h => by cases h⟩
                            · intro x u hku hd
                              have h154 : x 154 = .pointer (some ⟨gw, bad * 56, none⟩) := hd 2 (by decide)
                              refine wpOp_step rfl fun KK hK => ?_
                              refine Reg.step_load_mid (by rfl) 118 (.tmp 154) (by rfl) gw (bad * 56) (by exact h154) (heL Y) (HRG.out u hku.belowA).1 _ Try.underlying118 rfl (by rw [size_he, heL_len]) ?_
                              exact hK _ _ ⟨_, rfl, Reg.KJ.refl _, fun d hd => by cases hd; exact rfl, fun h => by cases h⟩
                            · intro x u hku hd
                              refine wpOp_step rfl fun KK hK => ?_
                              go_simp
                              exact hK _ _ ⟨_, rfl, Reg.KJ.refl _, fun d hd => by cases hd; exact rfl, fun h => by cases h⟩
                            · intro x u hku hd
                              refine wpOp_step rfl fun KK hK => ?_
                              go_simp
                              exact hK _ _ ⟨_, rfl, Reg.KJ.refl _, fun d hd => by cases hd; exact rfl, fun h => by cases h⟩
                            · intro x u hku hd
                              have h156 : x 156 = .slice (some ⟨gf, 0, none⟩) N N := hd 4 (by decide)
                              have h157 : x 157 = .int .i64 (bad : Int) := hd 5 (by decide)
                              have hix : ∀ W, (Instr.indexAt 52 (.slice (some ⟨gf, 0, none⟩) N N) (.int .i64 (bad : Int))).run Try.prog W = .ok (.pointer (some ⟨gf, bad * 56, none⟩)) W := fun W => by rw [idxHelds (A := some ⟨gf, 0, none⟩) (n := N) N rfl hls W, Nat.zero_add]
                              refine wpOp_step rfl fun KK hK => ?_
                              simp only [h156, h157] at hK ⊢
                              go_simp
                              exact hK _ _ ⟨_, rfl, Reg.KJ.refl _, fun d hd => by cases hd; exact rfl, fun h => by cases h⟩
                            · intro x u hku hd
                              have h158 : x 158 = .pointer (some ⟨gf, bad * 56, none⟩) := hd 6 (by decide)
                              refine wpOp_step rfl fun KK hK => ?_
                              refine Reg.step_load_mid (by rfl) 118 (.tmp 158) (by rfl) gf (bad * 56) (by exact h158) (heL Y) (HRG.out u hku.belowA).2.1 _ Try.underlying118 rfl (by rw [size_he, heL_len]) ?_
                              exact hK _ _ ⟨_, rfl, Reg.KJ.refl _, fun d hd => by cases hd; exact rfl, fun h => by cases h⟩
                            · intro x u hku hd
                              have h155 : x 155 = .agg (heL Y).toArray := hd 3 (by decide)
                              have h159 : x 159 = .agg (heL Y).toArray := hd 7 (by decide)
                              have he := HEY.out
                              refine wpOp_step rfl fun KK hK => ?_
                              simp only [h155, h159] at hK ⊢
                              go_simp
                              exact hK _ _ ⟨_, rfl, Reg.KJ.refl _, fun d hd => by cases hd; exact rfl, fun h => by cases h⟩
                            · intro x u hku hd
                              have h160 : x 160 = .bool false := hd 8 (by decide)
                              refine wpOp_step rfl fun KK hK => ?_
                              simp only [h160] at hK ⊢
                              go_simp
                              exact hK _ _ ⟨_, rfl, Reg.KJ.refl _, fun d hd => by cases hd; exact rfl, fun h => by cases h⟩
                            · intro x u hku hd
                              have h161 : x 161 = .bool false := hd 9 (by decide)
                              refine wpOp_step rfl fun KK hK => ?_
                              simp only [h161] at hK ⊢
                              go_simp
                              exact hK _ _ ⟨_, rfl, Reg.KJ.refl _, fun d hd => by cases hd; exact rfl, fun h => by cases h⟩
                            · intro x u hku hd
                              have h161 : x 161 = .bool false := hd 9 (by decide)
                              refine wpOp_step rfl fun KK hK => ?_
                              simp only [h161] at hK ⊢
                              go_simp
                              exact hK _ _ ⟨_, rfl, Reg.KJ.refl _, fun d hd => by cases hd; exact rfl, fun h => by cases h⟩
                            · intro x u hku hd
                              have h162 : x 162 = .int .i64 (bad : Int) := hd 10 (by decide)
                              have h163 : x 163 = .int .i64 (bad : Int) := hd 11 (by decide)
                              have h161 : x 161 = .bool false := hd 9 (by decide)
                              refine wpOp_step rfl fun KK hK => ?_
                              simp only [h162, h163, h161] at hK ⊢
                              go_simp
                              exact hK _ _ ⟨_, rfl, Reg.KJ.refl _, fun d hd => by cases hd; exact rfl, fun h => by cases h⟩
                            · intro x u hku hd
                              have h164 : x 164 = .bool false := hd 12 (by decide)
                              have h161 : x 161 = .bool false := hd 9 (by decide)
                              refine wpOp_step rfl fun KK hK => ?_
                              simp only [h164, h161] at hK ⊢
                              go_simp
                              exact hK _ _ ⟨_, rfl, Reg.KJ.refl _, fun d hd => by cases hd; exact rfl, fun h => by cases h⟩
                            · intro x u hku hd
                              have h165 : x 165 = .bool false := hd 13 (by decide)
                              refine wpOp_step rfl fun KK hK => ?_
                              simp only [h165] at hK ⊢
                              go_simp
                              exact hK _ _ ⟨_, rfl, Reg.KJ.refl _, fun d hd => by cases hd; exact rfl, fun h => by cases h⟩
                            · intro x u hku hd
                              have h165 : x 165 = .bool false := hd 13 (by decide)
                              refine wpOp_step rfl fun KK hK => ?_
                              simp only [h165] at hK ⊢
                              go_simp
                              exact hK _ _ ⟨_, rfl, Reg.KJ.refl _, fun d hd => by cases hd; exact rfl, fun h => by cases h⟩
                            · intro x u hku hd
                              have h166 : x 166 = undef := hd 14 (by decide)
                              have h167 : x 167 = undef := hd 15 (by decide)
                              have h165 : x 165 = .bool false := hd 13 (by decide)
                              refine wpOp_step rfl fun KK hK => ?_
                              simp only [h166, h167, h165] at hK ⊢
                              go_simp
                              exact hK _ _ ⟨_, rfl, Reg.KJ.refl _, fun d hd => by cases hd; exact rfl, fun h => by cases h⟩
                            · intro x u hku hd
                              have h168 : x 168 = undef := hd 16 (by decide)
                              have h165 : x 165 = .bool false := hd 13 (by decide)
                              refine wpOp_step rfl fun KK hK => ?_
                              simp only [h168, h165] at hK ⊢
                              go_simp
                              exact hK _ _ ⟨_, rfl, Reg.KJ.refl _, fun d hd => by cases hd; exact rfl, fun h => by cases h⟩
                            · intro x u hku hd
                              have h165 : x 165 = .bool false := hd 13 (by decide)
                              refine wpOp_step rfl fun KK hK => ?_
                              simp only [h165] at hK ⊢
                              go_simp
                              exact hK _ _ ⟨_, rfl, Reg.KJ.refl _, fun d hd => by cases hd; exact rfl, fun h => by cases h⟩
                            · intro x u hku hd
                              have h165 : x 165 = .bool false := hd 13 (by decide)
                              refine wpOp_step rfl fun KK hK => ?_
                              simp only [h165] at hK ⊢
                              go_simp
                              exact hK _ _ ⟨_, rfl, Reg.KJ.refl _, fun d hd => by cases hd; exact rfl, fun h => by cases h⟩
                            · intro x u hku hd
                              have h170 : x 170 = undef := hd 18 (by decide)
                              have h171 : x 171 = undef := hd 19 (by decide)
                              have h165 : x 165 = .bool false := hd 13 (by decide)
                              refine wpOp_step rfl fun KK hK => ?_
                              simp only [h170, h171, h165] at hK ⊢
                              go_simp
                              exact hK _ _ ⟨_, rfl, Reg.KJ.refl _, fun d hd => by cases hd; exact rfl, fun h => by cases h⟩
                            · intro x u hku hd
                              have h172 : x 172 = undef := hd 20 (by decide)
                              have h165 : x 165 = .bool false := hd 13 (by decide)
                              refine wpOp_step rfl fun KK hK => ?_
                              simp only [h172, h165] at hK ⊢
                              go_simp
                              exact hK _ _ ⟨_, rfl, Reg.KJ.refl _, fun d hd => by cases hd; exact rfl, fun h => by cases h⟩
                            · intro x u hku hd
                              have h169 : x 169 = undef := hd 17 (by decide)
                              have h173 : x 173 = undef := hd 21 (by decide)
                              have h165 : x 165 = .bool false := hd 13 (by decide)
                              refine wpOp_step rfl fun KK hK => ?_
                              simp only [h169, h173, h165] at hK ⊢
                              go_simp
                              exact hK _ _ ⟨_, rfl, Reg.KJ.refl _, fun d hd => by cases hd; exact rfl, fun h => by cases h⟩
                            · intro x u hku hd
                              have h165 : x 165 = .bool false := hd 13 (by decide)
                              have h174 : x 174 = undef := hd 22 (by decide)
                              have h161 : x 161 = .bool false := hd 9 (by decide)
                              refine wpOp_step rfl fun KK hK => ?_
                              simp only [h165, h174, h161] at hK ⊢
                              go_simp
                              exact hK _ _ ⟨_, rfl, Reg.KJ.refl _, fun d hd => by cases hd; exact rfl, fun h => by cases h⟩
                            · intro x u hku hd
                              have h161 : x 161 = .bool false := hd 9 (by decide)
                              have h175 : x 175 = .bool false := hd 23 (by decide)
                              refine wpOp_step rfl fun KK hK => ?_
                              simp only [h161, h175] at hK ⊢
                              go_simp
                              exact hK _ _ ⟨_, rfl, Reg.KJ.refl _, fun d hd => by cases hd; exact rfl, fun h => by cases h⟩
                          · intro y V3 hku hdd
                            have e176 : y 176 = .bool false := hdd 24 (by decide)
                            have HJ3 := Lib.hid (below_then HJ.out hku.belowA)
                            clear hku hdd
                            simp only [Reg.frame, Reg.over, Nat.reduceAdd, Nat.reduceLeDiff, decide_true, decide_false, if_true, Bool.false_eq_true, if_false, Bool.and_true, Bool.and_false, e176]
                            go_wp2_with fail
                            go_roundw
                            case rel => exact ⟨bad + 1, by omega, by go_num, HJ3⟩
                            case measure => simp [intOf]; omega
                        · have HNB : Hid (((s : Int) != (bad : Int)) = true) := Lib.hid (by simp; omega)
                          have HRG' := HRG
                          clear HRG
                          have HRG : Hid (∀ u, Below wr.heap.size wr u → u.rangeAt gw (s * 56) (heL Y) ∧ u.rangeAt gf (s * 56) (heL Y) ∧ u.rangeAt gT (s * 56) (heL Y)) := Lib.hid (fun u hu => ⟨(HRG'.out u hu).1, (HRG'.out u hu).2.1, (HRG'.out u hu).2.2 hsb⟩)
                          clear HRG' hsb
                          go_upto_region 36 with fail
                          refine Reg.wp_slots2 (fun t => decide (152 ≤ t) && decide (t ≤ 176)) (Reg.KJ wr.heap.size [] []) (Reg.KJ.drew _ (by simp)) Reg.KJ.trans (by kernel_rfl) (by kernel_rfl) (by kernel_rfl) (fun zz => (Reg.tblK [
                            (152, .is (.slice (some ⟨gw, 0, none⟩) N N)),
                            (153, .is (.int .i64 (s : Int))),
                            (154, .is (.pointer (some ⟨gw, s * 56, none⟩))),
                            (155, .is (.agg (heL Y).toArray)),
                            (156, .is (.slice (some ⟨gf, 0, none⟩) N N)),
                            (157, .is (.int .i64 (s : Int))),
                            (158, .is (.pointer (some ⟨gf, s * 56, none⟩))),
                            (159, .is (.agg (heL Y).toArray)),
                            (160, .is (.bool false)),
                            (161, .is (.bool false)),
                            (162, .is (.int .i64 (s : Int))),
                            (163, .is (.int .i64 (bad : Int))),
                            (164, .is (.bool true)),
                            (165, .is (.bool true)),
                            (166, .is (.slice (some ⟨gw, 0, none⟩) N N)),
                            (167, .is (.int .i64 (s : Int))),
                            (168, .is (.pointer (some ⟨gw, s * 56, none⟩))),
                            (169, .is (.agg (heL Y).toArray)),
                            (170, .is (.slice (some ⟨gT, 0, none⟩) N N)),
                            (171, .is (.int .i64 (s : Int))),
                            (172, .is (.pointer (some ⟨gT, s * 56, none⟩))),
                            (173, .is (.agg (heL Y).toArray)),
                            (174, .is (.bool false)),
                            (175, .is (.bool false)),
                            (176, .is (.bool false))] zz).P) (fun zz => (Reg.tblK _ zz).on) (fun zz => (Reg.memK [] zz).P) (fun zz => (Reg.memK _ zz).on) ?_ ?_
                          · simp only [Reg.frame, Reg.over, Nat.reduceAdd, Nat.reduceLeDiff, decide_true, decide_false, if_true, Bool.false_eq_true, if_false, Bool.and_true, Bool.and_false]
                            refine ⟨?_, ?_, ?_, ?_, ?_, ?_, ?_, ?_, ?_, ?_, ?_, ?_, ?_, ?_, ?_, ?_, ?_, ?_, ?_, ?_, ?_, ?_, ?_, ?_, ?_, trivial⟩
                            · intro x u hku hd
                              refine wpOp_step rfl fun KK hK => ?_
                              go_simp
                              exact hK _ _ ⟨_, rfl, Reg.KJ.refl _, fun d hd => by cases hd; exact rfl, fun h => by cases h⟩
                            · intro x u hku hd
                              refine wpOp_step rfl fun KK hK => ?_
                              go_simp
                              exact hK _ _ ⟨_, rfl, Reg.KJ.refl _, fun d hd => by cases hd; exact rfl, fun h => by cases h⟩
                            · intro x u hku hd
                              have h152 : x 152 = .slice (some ⟨gw, 0, none⟩) N N := hd 0 (by decide)
                              have h153 : x 153 = .int .i64 (s : Int) := hd 1 (by decide)
                              have hix : ∀ W, (Instr.indexAt 52 (.slice (some ⟨gw, 0, none⟩) N N) (.int .i64 (s : Int))).run Try.prog W = .ok (.pointer (some ⟨gw, s * 56, none⟩)) W := fun W => by rw [idxHelds (A := some ⟨gw, 0, none⟩) (n := N) N rfl hls W, Nat.zero_add]
                              refine wpOp_step rfl fun KK hK => ?_
                              simp only [h152, h153] at hK ⊢
                              go_simp
                              exact hK _ _ ⟨_, rfl, Reg.KJ.refl _, fun d hd => by cases hd; exact rfl, fun h => by cases h⟩
                            · intro x u hku hd
                              have h154 : x 154 = .pointer (some ⟨gw, s * 56, none⟩) := hd 2 (by decide)
                              refine wpOp_step rfl fun KK hK => ?_
                              refine Reg.step_load_mid (by rfl) 118 (.tmp 154) (by rfl) gw (s * 56) (by exact h154) (heL Y) (HRG.out u hku.belowA).1 _ Try.underlying118 rfl (by rw [size_he, heL_len]) ?_
                              exact hK _ _ ⟨_, rfl, Reg.KJ.refl _, fun d hd => by cases hd; exact rfl, fun h => by cases h⟩
                            · intro x u hku hd
                              refine wpOp_step rfl fun KK hK => ?_
                              go_simp
                              exact hK _ _ ⟨_, rfl, Reg.KJ.refl _, fun d hd => by cases hd; exact rfl, fun h => by cases h⟩
                            · intro x u hku hd
                              refine wpOp_step rfl fun KK hK => ?_
                              go_simp
                              exact hK _ _ ⟨_, rfl, Reg.KJ.refl _, fun d hd => by cases hd; exact rfl, fun h => by cases h⟩
                            · intro x u hku hd
                              have h156 : x 156 = .slice (some ⟨gf, 0, none⟩) N N := hd 4 (by decide)
                              have h157 : x 157 = .int .i64 (s : Int) := hd 5 (by decide)
                              have hix : ∀ W, (Instr.indexAt 52 (.slice (some ⟨gf, 0, none⟩) N N) (.int .i64 (s : Int))).run Try.prog W = .ok (.pointer (some ⟨gf, s * 56, none⟩)) W := fun W => by rw [idxHelds (A := some ⟨gf, 0, none⟩) (n := N) N rfl hls W, Nat.zero_add]
                              refine wpOp_step rfl fun KK hK => ?_
                              simp only [h156, h157] at hK ⊢
                              go_simp
                              exact hK _ _ ⟨_, rfl, Reg.KJ.refl _, fun d hd => by cases hd; exact rfl, fun h => by cases h⟩
                            · intro x u hku hd
                              have h158 : x 158 = .pointer (some ⟨gf, s * 56, none⟩) := hd 6 (by decide)
                              refine wpOp_step rfl fun KK hK => ?_
                              refine Reg.step_load_mid (by rfl) 118 (.tmp 158) (by rfl) gf (s * 56) (by exact h158) (heL Y) (HRG.out u hku.belowA).2.1 _ Try.underlying118 rfl (by rw [size_he, heL_len]) ?_
                              exact hK _ _ ⟨_, rfl, Reg.KJ.refl _, fun d hd => by cases hd; exact rfl, fun h => by cases h⟩
                            · intro x u hku hd
                              have h155 : x 155 = .agg (heL Y).toArray := hd 3 (by decide)
                              have h159 : x 159 = .agg (heL Y).toArray := hd 7 (by decide)
                              have he := HEY.out
                              refine wpOp_step rfl fun KK hK => ?_
                              simp only [h155, h159] at hK ⊢
                              go_simp
                              exact hK _ _ ⟨_, rfl, Reg.KJ.refl _, fun d hd => by cases hd; exact rfl, fun h => by cases h⟩
                            · intro x u hku hd
                              have h160 : x 160 = .bool false := hd 8 (by decide)
                              refine wpOp_step rfl fun KK hK => ?_
                              simp only [h160] at hK ⊢
                              go_simp
                              exact hK _ _ ⟨_, rfl, Reg.KJ.refl _, fun d hd => by cases hd; exact rfl, fun h => by cases h⟩
                            · intro x u hku hd
                              have h161 : x 161 = .bool false := hd 9 (by decide)
                              refine wpOp_step rfl fun KK hK => ?_
                              simp only [h161] at hK ⊢
                              go_simp
                              exact hK _ _ ⟨_, rfl, Reg.KJ.refl _, fun d hd => by cases hd; exact rfl, fun h => by cases h⟩
                            · intro x u hku hd
                              have h161 : x 161 = .bool false := hd 9 (by decide)
                              refine wpOp_step rfl fun KK hK => ?_
                              simp only [h161] at hK ⊢
                              go_simp
                              exact hK _ _ ⟨_, rfl, Reg.KJ.refl _, fun d hd => by cases hd; exact rfl, fun h => by cases h⟩
                            · intro x u hku hd
                              have h162 : x 162 = .int .i64 (s : Int) := hd 10 (by decide)
                              have h163 : x 163 = .int .i64 (bad : Int) := hd 11 (by decide)
                              have h161 : x 161 = .bool false := hd 9 (by decide)
                              have hn3 : ((s : Int) != (bad : Int)) = true := HNB.out
                              refine wpOp_step rfl fun KK hK => ?_
                              simp only [h162, h163, h161] at hK ⊢
                              go_simp
                              exact hK _ _ ⟨_, rfl, Reg.KJ.refl _, fun d hd => by cases hd; exact rfl, fun h => by cases h⟩
                            · intro x u hku hd
                              have h164 : x 164 = .bool true := hd 12 (by decide)
                              have h161 : x 161 = .bool false := hd 9 (by decide)
                              refine wpOp_step rfl fun KK hK => ?_
                              simp only [h164, h161] at hK ⊢
                              go_simp
                              exact hK _ _ ⟨_, rfl, Reg.KJ.refl _, fun d hd => by cases hd; exact rfl, fun h => by cases h⟩
                            · intro x u hku hd
                              have h165 : x 165 = .bool true := hd 13 (by decide)
                              refine wpOp_step rfl fun KK hK => ?_
                              simp only [h165] at hK ⊢
                              go_simp
                              exact hK _ _ ⟨_, rfl, Reg.KJ.refl _, fun d hd => by cases hd; exact rfl, fun h => by cases h⟩
                            · intro x u hku hd
                              have h165 : x 165 = .bool true := hd 13 (by decide)
                              refine wpOp_step rfl fun KK hK => ?_
                              simp only [h165] at hK ⊢
                              go_simp
                              exact hK _ _ ⟨_, rfl, Reg.KJ.refl _, fun d hd => by cases hd; exact rfl, fun h => by cases h⟩
                            · intro x u hku hd
                              have h166 : x 166 = .slice (some ⟨gw, 0, none⟩) N N := hd 14 (by decide)
                              have h167 : x 167 = .int .i64 (s : Int) := hd 15 (by decide)
                              have h165 : x 165 = .bool true := hd 13 (by decide)
                              have hix : ∀ W, (Instr.indexAt 52 (.slice (some ⟨gw, 0, none⟩) N N) (.int .i64 (s : Int))).run Try.prog W = .ok (.pointer (some ⟨gw, s * 56, none⟩)) W := fun W => by rw [idxHelds (A := some ⟨gw, 0, none⟩) (n := N) N rfl hls W, Nat.zero_add]
                              refine wpOp_step rfl fun KK hK => ?_
                              simp only [h166, h167, h165] at hK ⊢
                              go_simp
                              exact hK _ _ ⟨_, rfl, Reg.KJ.refl _, fun d hd => by cases hd; exact rfl, fun h => by cases h⟩
                            · intro x u hku hd
                              have h168 : x 168 = .pointer (some ⟨gw, s * 56, none⟩) := hd 16 (by decide)
                              have h165 : x 165 = .bool true := hd 13 (by decide)
                              refine wpOp_step rfl fun KK hK => ?_
                              refine Reg.step_load_wantT (by simp only [h165]; kernel_rfl) 118 (.tmp 168) (by rfl) gw (s * 56) (by exact h168) (heL Y) (HRG.out u hku.belowA).1 _ Try.underlying118 rfl (by rw [size_he, heL_len]) ?_
                              exact hK _ _ ⟨_, rfl, Reg.KJ.refl _, fun d hd => by cases hd; exact rfl, fun h => by cases h⟩
                            · intro x u hku hd
                              have h165 : x 165 = .bool true := hd 13 (by decide)
                              refine wpOp_step rfl fun KK hK => ?_
                              simp only [h165] at hK ⊢
                              go_simp
                              exact hK _ _ ⟨_, rfl, Reg.KJ.refl _, fun d hd => by cases hd; exact rfl, fun h => by cases h⟩
                            · intro x u hku hd
                              have h165 : x 165 = .bool true := hd 13 (by decide)
                              refine wpOp_step rfl fun KK hK => ?_
                              simp only [h165] at hK ⊢
                              go_simp
                              exact hK _ _ ⟨_, rfl, Reg.KJ.refl _, fun d hd => by cases hd; exact rfl, fun h => by cases h⟩
                            · intro x u hku hd
                              have h170 : x 170 = .slice (some ⟨gT, 0, none⟩) N N := hd 18 (by decide)
                              have h171 : x 171 = .int .i64 (s : Int) := hd 19 (by decide)
                              have h165 : x 165 = .bool true := hd 13 (by decide)
                              have hix : ∀ W, (Instr.indexAt 52 (.slice (some ⟨gT, 0, none⟩) N N) (.int .i64 (s : Int))).run Try.prog W = .ok (.pointer (some ⟨gT, s * 56, none⟩)) W := fun W => by rw [idxHelds (A := some ⟨gT, 0, none⟩) (n := N) N rfl hls W, Nat.zero_add]
                              refine wpOp_step rfl fun KK hK => ?_
                              simp only [h170, h171, h165] at hK ⊢
                              go_simp
                              exact hK _ _ ⟨_, rfl, Reg.KJ.refl _, fun d hd => by cases hd; exact rfl, fun h => by cases h⟩
                            · intro x u hku hd
                              have h172 : x 172 = .pointer (some ⟨gT, s * 56, none⟩) := hd 20 (by decide)
                              have h165 : x 165 = .bool true := hd 13 (by decide)
                              refine wpOp_step rfl fun KK hK => ?_
                              refine Reg.step_load_wantT (by simp only [h165]; kernel_rfl) 118 (.tmp 172) (by rfl) gT (s * 56) (by exact h172) (heL Y) (HRG.out u hku.belowA).2.2 _ Try.underlying118 rfl (by rw [size_he, heL_len]) ?_
                              exact hK _ _ ⟨_, rfl, Reg.KJ.refl _, fun d hd => by cases hd; exact rfl, fun h => by cases h⟩
                            · intro x u hku hd
                              have h169 : x 169 = .agg (heL Y).toArray := hd 17 (by decide)
                              have h173 : x 173 = .agg (heL Y).toArray := hd 21 (by decide)
                              have h165 : x 165 = .bool true := hd 13 (by decide)
                              have he := HEY.out
                              refine wpOp_step rfl fun KK hK => ?_
                              simp only [h169, h173, h165] at hK ⊢
                              go_simp
                              exact hK _ _ ⟨_, rfl, Reg.KJ.refl _, fun d hd => by cases hd; exact rfl, fun h => by cases h⟩
                            · intro x u hku hd
                              have h165 : x 165 = .bool true := hd 13 (by decide)
                              have h174 : x 174 = .bool false := hd 22 (by decide)
                              have h161 : x 161 = .bool false := hd 9 (by decide)
                              refine wpOp_step rfl fun KK hK => ?_
                              simp only [h165, h174, h161] at hK ⊢
                              go_simp
                              exact hK _ _ ⟨_, rfl, Reg.KJ.refl _, fun d hd => by cases hd; exact rfl, fun h => by cases h⟩
                            · intro x u hku hd
                              have h161 : x 161 = .bool false := hd 9 (by decide)
                              have h175 : x 175 = .bool false := hd 23 (by decide)
                              refine wpOp_step rfl fun KK hK => ?_
                              simp only [h161, h175] at hK ⊢
                              go_simp
                              exact hK _ _ ⟨_, rfl, Reg.KJ.refl _, fun d hd => by cases hd; exact rfl, fun h => by cases h⟩
                          · intro y V3 hku hdd
                            have e176 : y 176 = .bool false := hdd 24 (by decide)
                            have HJ3 := Lib.hid (below_then HJ.out hku.belowA)
                            clear hku hdd
                            simp only [Reg.frame, Reg.over, Nat.reduceAdd, Nat.reduceLeDiff, decide_true, decide_false, if_true, Bool.false_eq_true, if_false, Bool.and_true, Bool.and_false, e176]
                            go_wp2_with fail
                            go_roundw
                            case rel => exact ⟨s + 1, by omega, by go_num, HJ3⟩
                            case measure => simp [intOf]; omega
                      · obtain rfl : s = N := by omega
                        go_wp2_with fail
                        go_roundw
                        case rel => exact ⟨i + 1, by omega, by go_num, Lib.hid (HPW.out.on HJ.out), Lib.hid (.inr ⟨gf, rfl, HGF.out.on HJ.out⟩)⟩
                        case measure => simp [intOf]; omega
            · obtain rfl : i = N := by omega
              go_wp2_with (go_at_call 38; (with_reducible refine (HLV.out _ HP.out.p.p.b).mono ?_); rintro e w3 ⟨rfl, q1⟩; have HB3 := Lib.hid q1; clear q1)
              go_ret
              exact ⟨rfl, HB3.out⟩
end Go.Proofs.Ytdbljggjddnjcaa

