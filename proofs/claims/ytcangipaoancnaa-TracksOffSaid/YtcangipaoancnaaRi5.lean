/-
  The ring: a new one; the law's words on rows. Conditions: the rows' readings.
-/
import Derived.Test.YtcangipaoancnaaRiR
import Derived.Test.YtcangipaoancnaaWd9
import Derived.Test.YtcangipaoancnaaWdI1
import Derived.Test.YtcangipaoancnaaWdN1
namespace Go.Proofs.Ytcangipaoancnaa
open Go.RowKit
set_option linter.unusedVariables false
set_option linter.unusedSimpArgs false

theorem Reg.step_make_flat {P : Program} {w : World} {ops : Array Oper} {o : Oper} {a : Act} {K : Act → World → Prop} {Q : Exit → Act → World → Prop} {E : Prop} (hgd : o.guard = none) (l c : Operand) (t : TypeId) (hop : o.op = .makeSlice t l c)
    (e : TypeId) (i : TypeInfo) (v : Value) (z : List Value) (bytes size : Nat) (ht : P.underlying t = some (.slice e)) (hi : P.info? e = some i) (hz : i.zero = some v) (hv : v.cells = z.toArray) (hsize : i.size = size) (hby : i.bytes = bytes) (hzl : z.length = size) (h0 : 0 < size)
    (n m : Nat) (hl : a.eval l = .int .i64 (n : Int)) (hc : a.eval c = .int .i64 (m : Int)) (hnm : n ≤ m) (hb : bytes * m ≤ 281474976710656) (hm : m ≤ 9223372036854775807)
    (k : ∀ w', Blk w' w.heap.size e ((List.range m).flatMap fun _ => z).toArray → Below w.heap.size w w' → K (a.put o.dst (.slice (some ⟨w.heap.size, 0, none⟩) n m)) w') :
    if Region.wanted o (yielded ops a.tmps) = true then Oper.wp P o a w K Q else E := by
  have hw : Region.wanted o (yielded ops a.tmps) = true := by simp [Region.wanted, hgd]
  rw [if_pos hw]
  subst hsize hby
  have h := run_make (P := P) w t e i v ht hi hz .i64 .i64 (n : Int) (m : Int) (by omega) (by omega) (by have := Int.ofNat_le.2 hb; rw [Int.natCast_mul] at this; exact this) (by omega)
  rw [hv, Int.toNat_natCast, ← hzl, made_flat z (by omega)] at h
  unfold Oper.wp
  simp [execOp, hop, hl, hc, h, Result.andThen]
  exact k _ (Blk.new w e _) (below_al (Below.refl _ w) _)
def onN : Nat → Bool := fun _ => false
/-- The ring that is new, k lanes in. -/
structure NJ (w : World) (gr go N : Nat) (F : Fa) (k : Nat) (A : Option Addr) (c : Nat) (L : Nat → Ln) (u : World) : Prop where
  r : Blk u gr 158 (rgL N F (.slice A k c) (.slice (some ⟨go, 0, none⟩) N N) (.slice none 0 0)).toArray
  o : Blk u go 4 (flL (trL onN) N).toArray
  h : u.ownsRow w.heap.size 25 1 (.slice A k c) k (flL (ptL L) k)
  l : ∀ i, i < k → (L i).S u N i ∧ (L i).nw = none ∧ w.heap.size ≤ (L i).b
  d : ∀ i j, i < k → j < k → i ≠ j → (L i).b ≠ (L j).b
  b : Below w.heap.size w u
  lo : w.heap.size ≤ gr ∧ w.heap.size ≤ go
def Reg.FactK.go {B : Nat} (lo N : Nat) : Reg.FactK (Reg.KJ B [] []) := ⟨fun v w => ∃ g, v = .slice (some ⟨g, 0, none⟩) N N ∧ lo ≤ g ∧ Blk w g 4 (flL (trL onN) N).toArray, fun _ _ _ hb h => by
  obtain ⟨g, e, h1, h2⟩ := h
  exact ⟨g, e, h1, hb.blk (by simp) h2⟩⟩
def Reg.FactK.rg {B : Nat} (lo N : Nat) (F : Fa) : Reg.FactK (Reg.KJ B [] []) := ⟨fun v w => ∃ g, v = .agg (rgL N F (.slice none 0 0) (.slice (some ⟨g, 0, none⟩) N N) (.slice none 0 0)).toArray ∧ lo ≤ g ∧ Blk w g 4 (flL (trL onN) N).toArray, fun _ _ _ hb h => by
  obtain ⟨g, e, h1, h2⟩ := h
  exact ⟨g, e, h1, hb.blk (by simp) h2⟩⟩
def Reg.FactK.rb {B : Nat} (lo N : Nat) (F : Fa) : Reg.FactK (Reg.KJ B [] []) := ⟨fun v w => ∃ r g, v = .pointer (some ⟨r, 0, none⟩) ∧ lo ≤ r ∧ lo ≤ g ∧ Blk w g 4 (flL (trL onN) N).toArray ∧ Blk w r 158 (rgL N F (.slice none 0 0) (.slice (some ⟨g, 0, none⟩) N N) (.slice none 0 0)).toArray, fun _ _ _ hb h => by
  obtain ⟨r, g, e, h1, h2, h3, h4⟩ := h
  exact ⟨r, g, e, h1, h2, hb.blk (by simp) h3, hb.blk (by simp) h4⟩⟩
def faL (F : Fa) : List Value := [.bool F.l, .int .u8 (F.a : Int), .int .u8 (F.w : Int), .slice F.A F.n F.c]
set_option maxRecDepth 100000 in
theorem size_fault : (Try.prog.info? 83).map (·.size) = some 4 := by kernel_rfl
set_option maxRecDepth 100000 in
theorem built_ring (N : Int) (l : Bool) (a b : Int) (A : Option Addr) (n c : Nat) (g : Addr) (m : Nat) : (Try.prog).built 158 [(0, .int .i64 N), (1, .agg #[.bool l, .int .u8 a, .int .u8 b, .slice A n c]), (3, .slice (some g) m m)] = some #[.int .i64 N, .bool l, .int .u8 a, .int .u8 b, .slice A n c, .slice none 0 0, .slice (some g) m m, .slice none 0 0] := by kernel_rfl
set_option maxRecDepth 100000 in
theorem infoBoolR : (Try.prog.info? 4).map (fun i => (i.zero, i.size, i.bytes)) = some (some (.bool false), 1, 1) := by kernel_rfl
set_option maxRecDepth 100000 in
theorem infoLaneP : (Try.prog.info? 25).map (fun i => (i.zero, i.size, i.bytes)) = some (some (.pointer none), 1, 8) := by kernel_rfl
set_option maxRecDepth 100000 in
theorem run_bsl_lane (p : Option Addr) (u : World) : (Instr.buildSlice 155 1 #[(0, .pointer p)]).run Try.prog u = .ok (.slice (some ⟨u.heap.size, 0, none⟩) 1 1) (u.alloc (.cells #[.pointer p] 25)) := by kernel_rfl
section
variable {w u v : World} {gr go N k c : Nat} {F : Fa} {A : Option Addr} {L : Nat → Ln}
theorem NJ.up (h : NJ w gr go N F k A c L u) (b : Below u.heap.size u v) : NJ w gr go N F k A c L v := ⟨h.r.on b, h.o.on b, ownsF_on h.h b, fun i hi => ⟨(h.l i hi).1.on (B := w.heap.size) h.b.size b, (h.l i hi).2⟩, h.d, below_then h.b b, h.lo⟩
theorem NJ.app {A2 : Option Addr} {c2 : Nat} {X : Ln} (h : NJ w gr go N F k A c L u) (hX : X.S v N k) (hn : X.nw = none) (hb : w.heap.size ≤ X.b) (hd : ∀ i, i < k → (L i).b ≠ X.b) (b : Below w.heap.size u v) (kt : KeptBut u v [25]) (ho : v.ownsRow w.heap.size 25 1 (.slice A2 (k + 1) c2) (k + 1) (flL (ptL L) k ++ [.pointer (some ⟨X.b, 0, none⟩)])) : NJ w gr go N F (k + 1) A2 c2 (updL L k X) (v.setCell ⟨gr, 5, none⟩ (.slice A2 (k + 1) c2)) := by
  have hr := kt _ _ _ (by decide) h.r
  have bb : But gr v (v.setCell ⟨gr, 5, none⟩ (.slice A2 (k + 1) c2)) := But.one _ _
  have kr1 : KR w.heap.size u v := KR.kept b kt (by decide) (by decide)
  have kr2 : KR w.heap.size v (v.setCell ⟨gr, 5, none⟩ (.slice A2 (k + 1) c2)) := KR.but hr bb h.lo.1 (by decide) (by decide)
  have kg := bb.kept hr
  refine ⟨?_, kg _ _ _ (by decide) (kt _ _ _ (by decide) h.o), ?_, fun i hi => ?_, fun i j hi hj hn => ?_, (h.b.trans b).trans (bb.low h.lo.1), h.lo⟩
  · have hP : PIn v gr 0 158 [] [] (rgL N F (.slice A k c) (.slice (some ⟨go, 0, none⟩) N N) (.slice none 0 0)) := Blk.pin hr
    have h3 := (hP.set_ 5 (.slice A2 (k + 1) c2) (by show 5 < 8; decide)).blk_
    rw [Nat.zero_add] at h3
    exact h3
  · rw [flL_succ, show flL (ptL (updL L k X)) k = flL (ptL L) k from flL_congr fun i hi => by unfold ptL; rw [updL_ne _ _ (by omega)], show ptL (updL L k X) k = [.pointer (some ⟨X.b, 0, none⟩)] by unfold ptL; rw [updL_self]]
    exact ownsF_kept ho kg (by decide)
  · by_cases e : i = k
    · subst e
      rw [updL_self]
      exact ⟨hX.kept kr2 kg (by decide), hn, hb⟩
    · rw [updL_ne _ _ e]
      exact ⟨((h.l i (by omega)).1.kept kr1 kt (by decide)).kept kr2 kg (by decide), (h.l i (by omega)).2⟩
  · by_cases e : i = k
    · subst e
      rw [updL_self, updL_ne _ _ (Ne.symm hn)]
      exact Ne.symm (hd j (by omega))
    · by_cases e2 : j = k
      · subst e2
        rw [updL_self, updL_ne _ _ e]
        exact hd i (by omega)
      · rw [updL_ne _ _ e, updL_ne _ _ e2]
        exact h.d i j (by omega) (by omega) hn
theorem lanes_blk {lo n p : Nat} {f : Nat → List Value} (h : u.ownsRow lo 25 1 (.slice A n p) n (flL f n)) (h0 : 0 < n) : ∃ g, ∃ Z : List Value, A = some ⟨g, 0, none⟩ ∧ lo ≤ g ∧ Blk u g 25 (flL f n ++ Z).toArray := by
  rcases h.2 with ⟨_, h0'⟩ | ⟨g, cap, cur, hv, hb, hh, hnc, _, hcs, htk⟩
  · omega
  · injection hv with hA _ hp
    refine ⟨g, cur.toList.drop (n * 1), hA, hb, ?_⟩
    rw [← htk, List.take_append_drop]
    exact hh
end
set_option maxRecDepth 100000 in
set_option maxHeartbeats 4000000 in
theorem newRing_is (N : Nat) (F : Fa) (hN : 4 ≤ N ∧ N ≤ 16) (w : World) :
    Calls Try.prog 31 #[.int .i64 (N : Int), .agg (faL F).toArray] w fun e v => ∃ gr gl cl go L, e = .returned (.pointer (some ⟨gr, 0, none⟩)) ∧ RiS w.heap.size v gr gl cl go N F (.slice none 0 0) L onN 0 (fun _ _ _ => woN) ∧ (∀ i, i < N → (L i).nw = none) ∧ Below w.heap.size w v := by
  obtain ⟨i0, hi0, hz0, hz1, hz2⟩ := info_parts infoBoolR
  have HI := Lib.hid hi0
  have HZ0 := Lib.hid hz0
  have HZ1 := Lib.hid hz1
  have HZ2 := Lib.hid hz2
  obtain ⟨j0, hj0, jz0, jz1, jz2⟩ := info_parts infoLaneP
  have JI := Lib.hid hj0
  have JZ0 := Lib.hid jz0
  have JZ1 := Lib.hid jz1
  have JZ2 := Lib.hid jz2
  have HNW : Hid (∀ (u : World) (k : Nat), k < N → Calls Try.prog 15 #[.int .i64 (N : Int), .int .i64 (k : Int)] u fun e w' => e = .returned (.tuple #[.pointer (some ⟨u.heap.size, 0, none⟩), .int .i64 0]) ∧ LaneS w' (fun _ => False) u.heap.size N k 0 (fun _ => tkN) none ∧ Below u.heap.size u w') := Lib.hid (fun u k hk => new_yes N k hN hk u)
  have HBR := Lib.hid (fun g : Nat => built_ring (N : Int) F.l (F.a : Int) (F.w : Int) F.A F.n F.c ⟨g, 0, none⟩ N)
  clear hi0 hz0 hz1 hz2 hj0 jz0 jz1 jz2
  go_enter Try.func31, Try.ntmps31
  go_upto_region 1 with fail
  refine wp_at (fun U => Blk U w.heap.size 83 (faL F).toArray ∧ Below w.heap.size w U) ⟨Blk.new w _ _, below_al (Below.refl _ w) _⟩ ?_
  rintro U ⟨u1, u2⟩
  have HF := Lib.hid u1
  have HU := Lib.hid u2
  clear u1 u2
  refine Reg.wp_slots2 (fun tt => decide (9 ≤ tt) && decide (tt ≤ 14) || tt == 5) (Reg.KJ U.heap.size [] []) (Reg.KJ.drew _ (by simp)) Reg.KJ.trans (by kernel_rfl) (by kernel_rfl) (by kernel_rfl) (fun zz => (Reg.tblK [
    (9, .is (.int .i64 (N : Int))),
    (10, .is (.agg (faL F).toArray)),
    (11, .is (.int .i64 (N : Int))),
    (12, .go w.heap.size N),
    (13, .rg w.heap.size N F),
    (14, .rb w.heap.size N F),
    (5, .rb w.heap.size N F)] zz).P) (fun zz => (Reg.tblK _ zz).on) (fun zz => (Reg.memK [] zz).P) (fun zz => (Reg.memK _ zz).on) ?_ ?_
  · simp only [Reg.frame, Reg.over, Nat.reduceAdd, Nat.reduceBEq, Nat.reduceLeDiff, decide_true, decide_false, Bool.or_true, Bool.or_false, if_true, Bool.false_eq_true, if_false, Bool.and_true, Bool.and_false]
    refine ⟨?_, ?_, ?_, ?_, ?_, ?_, ?_, trivial⟩
    · intro y u hku hd
      refine wpOp_step rfl fun KK hK => ?_
      go_simp
      exact hK _ _ ⟨_, rfl, Reg.KJ.refl _, fun d hd => by cases hd; exact rfl, fun h => by cases h⟩
    · intro y u hku hd
      refine wpOp_step rfl fun KK hK => ?_
      refine Reg.step_load_mid (by rfl) 83 (.tmp 3) (by rfl) w.heap.size 0 (by rfl) (faL F) (hku.blk (by simp) HF.out).pin.range _ Try.underlying83 rfl (by rw [size_fault]; rfl) ?_
      exact hK _ _ ⟨_, rfl, Reg.KJ.refl _, fun d hd => by cases hd; exact rfl, fun h => by cases h⟩
    · intro y u hku hd
      refine wpOp_step rfl fun KK hK => ?_
      go_simp
      exact hK _ _ ⟨_, rfl, Reg.KJ.refl _, fun d hd => by cases hd; exact rfl, fun h => by cases h⟩
    · intro y u hku hd
      have h11 : y 11 = .int .i64 (N : Int) := hd 2 (by decide)
      refine wpOp_step rfl fun KK hK => ?_
      refine Reg.step_make_flat (by rfl) (.tmp 11) (.tmp 11) 87 (by rfl) 4 i0 _ [.bool false] 1 1 elemTruths HI.out HZ0.out rfl HZ1.out HZ2.out rfl (by decide) N N (by exact h11) (by exact h11) (Nat.le_refl _) (by omega) (by omega) ?_
      intro w' hB hb
      exact hK _ _ ⟨_, rfl, Reg.KJ.grow (by simp) hku.size hb, fun d hd => by cases hd; exact ⟨_, rfl, Nat.le_trans HU.out.size hku.size, hB⟩, fun h => by cases h⟩
    · intro y u hku hd
      have h9 : y 9 = .int .i64 (N : Int) := hd 0 (by decide)
      have h10 : y 10 = .agg (faL F).toArray := hd 1 (by decide)
      have k12 : (Reg.FactK.go w.heap.size N : Reg.FactK (Reg.KJ U.heap.size [] [])).P (y 12) u := hd 3 (by decide)
      obtain ⟨g12, h12, l12, q12⟩ := k12
      refine wpOp_step rfl fun KK hK => ?_
      refine Reg.step_build (by rfl) 158 _ (by rfl) _ (by simpa [Act.eval, h9, h10, h12, faL] using HBR.out g12) ?_
      exact hK _ _ ⟨_, rfl, Reg.KJ.refl _, fun d hd => by cases hd; exact ⟨g12, rfl, l12, q12⟩, fun h => by cases h⟩
    · intro y u hku hd
      have k13 : (Reg.FactK.rg w.heap.size N F : Reg.FactK (Reg.KJ U.heap.size [] [])).P (y 13) u := hd 4 (by decide)
      obtain ⟨g13, h13, l13, q13⟩ := k13
      refine wpOp_step rfl fun KK hK => ?_
      simp only [h13] at hK ⊢
      go_simp
      exact hK _ _ ⟨_, rfl, Reg.KJ.grow (by simp) hku.size (below_al (Below.refl _ u) _), fun d hd => by cases hd; exact ⟨_, g13, rfl, Nat.le_trans HU.out.size hku.size, l13, q13.alloc _, Blk.new u _ _⟩, fun h => by cases h⟩
    · intro y u hku hd
      have k14 : (Reg.FactK.rb w.heap.size N F : Reg.FactK (Reg.KJ U.heap.size [] [])).P (y 14) u := hd 5 (by decide)
      obtain ⟨r14, g14, h14, l14, m14, q14, s14⟩ := k14
      refine wpOp_step rfl fun KK hK => ?_
      simp only [h14] at hK ⊢
      go_simp
      exact hK _ _ ⟨_, rfl, Reg.KJ.refl _, fun d hd => by cases hd; exact ⟨r14, g14, rfl, l14, m14, q14, s14⟩, fun h => by cases h⟩
  · intro y u hku hall
    obtain ⟨gr, go, e5, lgr, lgo, q1, q2⟩ : (∃ r g, y 5 = .pointer (some ⟨r, 0, none⟩) ∧ w.heap.size ≤ r ∧ w.heap.size ≤ g ∧ Blk u g 4 (flL (trL onN) N).toArray ∧ Blk u r 158 (rgL N F (.slice none 0 0) (.slice (some ⟨g, 0, none⟩) N N) (.slice none 0 0)).toArray) := hall 6 (by decide)
    have H0 : Hid (NJ w gr go N F 0 none 0 (fun _ => ⟨0, fun _ => False, 0, fun _ => tkN, none⟩) u) := Lib.hid ⟨q2, q1, ownsF_nil, fun i hi => absurd hi (by omega), fun i j hi => absurd hi (by omega), below_then HU.out hku.below, lgr, lgo⟩
    clear hku hall q1 q2 lgr lgo
    simp only [Reg.frame, Reg.over, Nat.reduceAdd, Nat.reduceBEq, Nat.reduceLeDiff, decide_true, decide_false, Bool.or_true, Bool.or_false, if_true, Bool.false_eq_true, if_false, Bool.and_true, Bool.and_false, e5]
    go_wp2_with fail
    go_loopw [6] (fun iv wr => ∃ k : Nat, k ≤ N ∧ iv = .int .i64 (k : Int) ∧ ∃ (A : Option Addr) (c : Nat) (L : Nat → Ln), Hid (NJ w gr go N F k A c L wr)) (fun iv _ => N - (intOf iv).toNat)
    case atStart => exact ⟨0, by omega, rfl, _, _, _, H0⟩
    case round =>
      clear H0
      obtain ⟨k, hk, rfl, A, c, L, HJ⟩ := hrel
      by_cases hlt : k < N
      · have dk : decide ((k : Int) < (N : Int)) = true := decide_eq_true (by omega)
        go_upto_region 8 with (go_at_call 15; (with_reducible refine (HNW.out _ k hlt).mono ?_); rintro e w1 ⟨rfl, q1, q2⟩; have HQ1 := Lib.hid q1; have HQ2 := Lib.hid q2; clear q1 q2)
        obtain ⟨X, hX⟩ : ∃ X : Ln, X = ⟨wr.heap.size, fun _ => False, 0, fun _ => tkN, none⟩ := ⟨_, rfl⟩
        have hXb : wr.heap.size = X.b := by rw [hX]
        refine wp_at (fun U => NJ w gr go N F k A c L U ∧ X.S U N k ∧ X.nw = none ∧ w.heap.size ≤ X.b ∧ ∀ i, i < k → (L i).b ≠ X.b) ⟨HJ.out.up HQ2.out, by rw [hX]; exact ⟨HQ1.out, fun g hg => hg.elim⟩, by rw [hX], by rw [← hXb]; exact HJ.out.b.size, fun i hi => by
          obtain ⟨cs, q⟩ := (HJ.out.l i hi).1.blk
          have := q.lt
          rw [← hXb]; omega⟩ ?_
        rw [hXb]
        clear HJ HQ1 HQ2 hX hXb
        rintro V ⟨v1, v2, v3, v4, v5⟩
        have HV1 := Lib.hid (v1.up (below_al (Below.refl V.heap.size V) (.cells #[.pointer (some ⟨X.b, 0, none⟩)] 25)))
        have HV2 := Lib.hid (v2.on (B := w.heap.size) v1.b.size (below_al (Below.refl V.heap.size V) (.cells #[.pointer (some ⟨X.b, 0, none⟩)] 25)))
        have HV3 := Lib.hid v3
        have HV4 := Lib.hid v4
        have HV5 := Lib.hid v5
        have c5 : V.cell? ⟨gr, 5, none⟩ = some (.slice A k c) := v1.r.cell 5
        have lr := v1.r.lt
        have HBL := Lib.hid (run_bsl_lane (some ⟨X.b, 0, none⟩) V)
        have HNR := Lib.hid (Blk.new V 25 #[.pointer (some ⟨X.b, 0, none⟩)])
        have HSZ : Hid (w.heap.size ≤ V.heap.size + 1) := Lib.hid (by have := v1.b.size; omega)
        clear v1 v2 v3 v4 v5
        go_wp2_with (first
          | (refine wpList_bsl rfl 155 1 _ rfl #[(0, .pointer (some ⟨X.b, 0, none⟩))] (by simp [Act.eval, Act.put]) _ _ HBL.out ?_)
          | (at_builtin; refine wpList_append_G rfl (.tmp 32) (.tmp 34) 155 rfl w.heap.size 25 j0 _ 1 8 elemLanes JI.out JZ0.out JZ1.out JZ2.out rfl (by decide) A k c (flL (ptL L) k) (by simp [Act.eval, Act.put]) HV1.out.h V.heap.size 1 1 [.pointer (some ⟨X.b, 0, none⟩)] (by simp [Act.eval, Act.put]) HNR.out rfl (by simp [Value.oneCell']) (by decide) (by unfold maxLen; omega) (by omega) (by simpa using HSZ.out) ?_; intro A2 c2 w2 hO2 hb2 hk2; have HO2 := Lib.hid hO2; have HB2 := Lib.hid hb2; have HK2 := Lib.hid hk2; have hr2 := hk2 _ _ _ (by decide) HV1.out.r; have c5' : w2.cell? ⟨gr, 5, none⟩ = some (.slice A k c) := hr2.cell 5; have f5' := hr2.frozen 5; have l5' := hr2.lt; clear hO2 hb2 hk2 hr2))
        go_roundw
        case rel => exact ⟨k + 1, by omega, by go_num, A2, c2, updL L k X, Lib.hid (HV1.out.app (HV2.out.kept (KR.kept HB2.out HK2.out (by decide) (by decide)) HK2.out (by decide)) HV3.out HV4.out HV5.out HB2.out HK2.out HO2.out)⟩
        case measure => simp [intOf]; omega
      · obtain rfl : N = k := by omega
        have dk : decide ((N : Int) < (N : Int)) = false := decide_eq_false (by omega)
        go_wp2_with fail
        go_ret
        have h := HJ.out
        obtain ⟨gl, Z, rfl, lgl, hgl⟩ := lanes_blk h.h (by omega)
        exact ⟨gr, gl, c, go, L, rfl, ⟨h.r, ⟨Z, hgl⟩, h.o, fun i hi => (h.l i hi).1, h.d, fun i hi => (h.l i hi).2.2, ⟨⟨none, 0, fun _ => 0, fun _ => 0, rfl, ownsF_nil, fun t ht => absurd ht (by omega)⟩, fun t i k ht => absurd ht (by omega)⟩, h.lo.1, lgl, h.lo.2, h.b.size⟩, fun i hi => (h.l i hi).2.1, h.b⟩
end Go.Proofs.Ytcangipaoancnaa

