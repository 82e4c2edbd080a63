/-
  The ring: what was sent some ticks ago; what comes in. Conditions: the ring's reading, bounds.
-/
import Derived.Test.YtcangipaoancnaaRiM
namespace Go.Proofs.Ytcangipaoancnaa
open Go.RowKit
set_option linter.unusedVariables false
set_option linter.unusedSimpArgs false

/-- What was sent p (mod N) on a link so many ticks ago, when Tn ticks have been. -/
def sentM (N Tn : Nat) (S : Nat → Nat → Nat → Wo) (p k ago : Nat) : Wo := if Tn < ago then woN else S (Tn - ago) (p % N) k
theorem sentM_w {B N Tn : Nat} {u : World} {VS : Value} {S : Nat → Nat → Nat → Wo} (h : SentS B u VS N Tn S) (hN : 0 < N) {p k ago : Nat} (hk : k < 4) (ha : 0 < ago) : SW B u (sentM N Tn S p k ago) := by
  unfold sentM
  split
  · exact SW.nil _ _
  · exact h.s _ _ _ (by omega) (Nat.mod_lt _ hN) hk
set_option maxRecDepth 100000 in
set_option maxHeartbeats 4000000 in
theorem sent_is (B gr N Tn : Nat) (F : Fa) (VL VO VS : Value) (S : Nat → Nat → Nat → Wo) (x : Int) (p k ago : Nat) (hN : 4 ≤ N ∧ N ≤ 16) (hT : Tn ≤ 1000) (hp : x + 2 * (N : Int) = (p : Int)) (hp2 : p ≤ 1000) (hk : k < 4) (ha : 1 ≤ ago ∧ ago ≤ 1000) (w : World) (hr : Blk w gr 158 (rgL N F VL VO VS).toArray) (hS : SentS B w VS N Tn S) :
    Calls Try.prog 87 #[.pointer (some ⟨gr, 0, none⟩), .int .i64 x, .int .i64 (k : Int), .int .i64 (ago : Int)] w fun e w' => e = .returned (.agg #[(sentM N Tn S p k ago).v]) ∧ Below w.heap.size w w' := by
  obtain ⟨A, c, g, q, rfl, q1, q2⟩ := hS.l
  have HQ1 := Lib.hid q1
  have HQ2 := Lib.hid q2
  have HR := Lib.hid hr
  have HBT := Lib.hid built_word0
  have HZN : Hid (∀ Z : Array Value, Z.size = 1 → PIn (w.alloc (.cells Z 34)) w.heap.size 0 34 [] [] Z.toList ∧ Z.toList.length = 1) := Lib.hid (fun Z hZ => ⟨Blk.pin (by simpa using Blk.new w 34 Z), by simpa using hZ⟩)
  obtain ⟨X, hX⟩ : ∃ X, X = sentM N Tn S p k ago := ⟨_, rfl⟩
  rw [← hX]
  have HX := Lib.hid hX
  clear q1 q2 hr hS hX
  go_enter Try.func87, Try.ntmps87
  go_upto_region 1 with fail
  refine wp_at (fun U => (∃ Z : List Value, Z.length = 1 ∧ PIn U w.heap.size 0 34 [] [] Z) ∧ Below w.heap.size w U) ⟨⟨_, (HZN.out _ rfl).2, (HZN.out _ rfl).1⟩, below_al (Below.refl _ w) _⟩ ?_
  rintro U ⟨⟨Z, hZl, hZ⟩, hb⟩
  have HZ := Lib.hid hZ
  have HZL := Lib.hid hZl
  have HB := Lib.hid hb
  have c7 : U.cell? ⟨gr, 7, none⟩ = some (.slice A Tn c) := (HR.out.on hb).cell 7
  have lr := (HR.out.on hb).lt
  clear hZ hZl hb HZN
  have hw1 : IntKind.i64.wrap ((Tn : Int) - (ago : Int)) = (Tn : Int) - (ago : Int) := by rw [IntWalk.i64_in _ (by omega)]
  by_cases hlt : Tn < ago
  · have d1 : decide ((Tn : Int) - (ago : Int) < 0) = true := decide_eq_true (by omega)
    have HE : Hid (X.v = .slice none 0 0) := Lib.hid (by rw [HX.out]; unfold sentM; rw [if_pos hlt]; rfl)
    go_wp2_with (first
      | (refine wpList_build rfl 34 _ rfl #[.slice none 0 0] (by simpa [Act.eval, Act.put] using HBT.out) ?_)
      | (refine wpList_store_pin rfl 34 (.tmp 8) (.tmp 19) rfl HZ.out [.slice none 0 0] (by simp [Act.eval, Act.put]) (by simp [Act.eval, Act.put]) 1 size_word HZL.out rfl (by simp [Value.oneCell']) ?_; intro w1 p1 b1))
    have hld := p1.var 34 _ Try.underlying34 rfl 1 size_word rfl
    exact bodyPost_ret (v := .agg #[.slice none 0 0]) (by simp [results, Try.results87, asAddr, Act.put, hld]) rfl ⟨by rw [HE.out], HB.out.trans (b1.low (Nat.le_refl _))⟩
  · have d1 : decide ((Tn : Int) - (ago : Int) < 0) = false := decide_eq_false (by omega)
    obtain ⟨t, ht⟩ : ∃ t, t = Tn - ago := ⟨_, rfl⟩
    have htT : t < Tn := by omega
    have ett : (Tn : Int) - (ago : Int) = (t : Int) := by omega
    rw [ett] at d1 hw1
    obtain ⟨ga, hA, _, lga, hga⟩ := ownsF_get (ownsF_on HQ1.out HB.out) (by omega)
    subst hA
    obtain ⟨gt, hgt, lgt, hct⟩ : ∃ gt, some (⟨g t, 0, none⟩ : Addr) = some ⟨gt, 0, none⟩ ∧ gt < U.heap.size ∧ ∀ j v, (flL (fun i => wo4 (S t i)) N)[j]? = some v → U.cell? ⟨gt, j, none⟩ = some v := by
      obtain ⟨Zt, q⟩ := HQ2.out t htT
      have q := q.on HB.out
      exact ⟨g t, rfl, q.lt, fun j v hv => by rw [q.cell, List.getElem?_toArray, List.getElem?_append_left ((List.getElem?_eq_some_iff.1 hv).1)]; exact hv⟩
    obtain ⟨i, hi⟩ : ∃ i, i = p % N := ⟨_, rfl⟩
    have liN : i < N := by rw [hi]; exact Nat.mod_lt _ (by omega)
    have HGT : Hid (some (⟨g t, 0, none⟩ : Addr) = some ⟨gt, 0, none⟩) := Lib.hid hgt
    have HE : Hid (X.v = (S t i k).v) := Lib.hid (by rw [HX.out]; unfold sentM; rw [if_neg hlt, ht, hi])
    have ca : U.cell? ⟨ga, t, none⟩ = some (.slice (some ⟨gt, 0, none⟩) N (q t)) := by
      have h1 := hga (t * 1 + 0) (.slice (some ⟨g t, 0, none⟩) N (q t)) (by rw [flL_get (f := fun t => [Value.slice (some ⟨g t, 0, none⟩) N (q t)]) (fun _ => rfl) htT 0 (by decide)]; rfl)
      rw [show t * 1 + 0 = t by omega, hgt] at h1
      exact h1
    have HCT : Hid (U.rangeAt gt (i * 4 + k) [(S t i k).v]) := Lib.hid (fun j v hv => by
      have hj : j = 0 := by have := (List.getElem?_eq_some_iff.1 hv).1; simp at this; exact this
      subst hj
      have hv2 : (S t i k).v = v := by simpa using hv
      rw [Nat.add_zero, ← hv2]
      exact hct _ _ (by rw [flL_get (f := fun i => wo4 (S t i)) (fun _ => wo4_len _) liN k hk]; exact wo4_at _ hk))
    have eti : (p : Int).tmod (N : Int) = (i : Int) := by rw [hi]; rfl
    have eti2 : (p : Int) % (N : Int) = (i : Int) := by rw [hi]; rfl
    have hn0 : (N : Int) ≠ 0 := by omega
    have hix1 := fun W => idxSent (A := some ⟨ga, 0, none⟩) (n := Tn) c rfl htT W
    have hix2 := fun W => idxOut (A := some ⟨gt, 0, none⟩) (n := N) (q t) rfl liN W
    have hix3 := fun W => idxW4 gt (i * 4) k hk W
    simp only [Nat.zero_add] at hix1 hix2
    have hw2 : IntKind.i64.wrap (2 * (N : Int)) = 2 * (N : Int) := IntWalk.i64_in _ (by omega)
    have hw3 : IntKind.i64.wrap (x + 2 * (N : Int)) = (p : Int) := by rw [hp]; exact IntWalk.i64_in _ (by omega)
    have hw4 : IntKind.i64.wrap (i : Int) = (i : Int) := IntWalk.i64_in _ (by omega)
    have HIX : Hid ((∀ W, (Instr.indexAt 156 (.slice (some ⟨ga, 0, none⟩) Tn c) (.int .i64 (t : Int))).run Try.prog W = .ok (.pointer (some ⟨ga, t, none⟩)) W) ∧ (∀ W, (Instr.indexAt 160 (.slice (some ⟨gt, 0, none⟩) N (q t)) (.int .i64 (i : Int))).run Try.prog W = .ok (.pointer (some ⟨gt, i * 4, none⟩)) W) ∧ ∀ W, (Instr.indexAt 161 (.pointer (some ⟨gt, i * 4, none⟩)) (.int .i64 (k : Int))).run Try.prog W = .ok (.pointer (some ⟨gt, i * 4 + k, none⟩)) W) := Lib.hid ⟨hix1, hix2, hix3⟩
    have HEQ : Hid ((p : Int).tmod (N : Int) = (i : Int) ∧ (p : Int) % (N : Int) = (i : Int) ∧ (N : Int) ≠ 0 ∧ IntKind.i64.wrap (2 * (N : Int)) = 2 * (N : Int) ∧ IntKind.i64.wrap (x + 2 * (N : Int)) = (p : Int) ∧ IntKind.i64.wrap (i : Int) = (i : Int)) := Lib.hid ⟨eti, eti2, hn0, hw2, hw3, hw4⟩
    have HC : Hid (U.cell? ⟨gr, 0, none⟩ = some (.int .i64 (N : Int)) ∧ U.cell? ⟨gr, 7, none⟩ = some (.slice (some ⟨ga, 0, none⟩) Tn c) ∧ U.cell? ⟨ga, t, none⟩ = some (.slice (some ⟨gt, 0, none⟩) N (q t))) := Lib.hid ⟨(HR.out.on HB.out).cell 0, c7, ca⟩
    have HLL : Hid (gr < U.heap.size ∧ ga < U.heap.size ∧ gt < U.heap.size) := Lib.hid ⟨lr, lga, lgt⟩
    clear hgt hga hct hi ht eti eti2 hn0 hix1 hix2 hix3 hw2 hw3 hw4 hp ca lga lgt
    go_upto_region 4 with fail
    clear c7 lr
    refine Reg.wp_prefix 23 (by kernel_rfl) (fun tt => decide (20 ≤ tt) && decide (tt ≤ 42)) (Reg.KJ U.heap.size [] []) (Reg.KJ.drew _ (by simp)) Reg.KJ.trans (by kernel_rfl) (by kernel_rfl) (by kernel_rfl) (by kernel_rfl) (fun zz => (Reg.tblK [
      (20, .is (.pointer (some ⟨gr, 0, none⟩))),
      (21, .is (.pointer (some ⟨gr, 0, none⟩))),
      (22, .is (.pointer (some ⟨gr, 7, none⟩))),
      (23, .is (.slice (some ⟨ga, 0, none⟩) Tn c)),
      (24, .is (.int .i64 (t : Int))),
      (25, .is (.pointer (some ⟨ga, t, none⟩))),
      (26, .is (.slice (some ⟨gt, 0, none⟩) N (q t))),
      (27, .is (.int .i64 x)),
      (28, .is (.pointer (some ⟨gr, 0, none⟩))),
      (29, .is (.pointer (some ⟨gr, 0, none⟩))),
      (30, .is (.pointer (some ⟨gr, 0, none⟩))),
      (31, .is (.int .i64 (N : Int))),
      (32, .is (.int .i64 (2 * (N : Int)))),
      (33, .is (.int .i64 (p : Int))),
      (34, .is (.pointer (some ⟨gr, 0, none⟩))),
      (35, .is (.pointer (some ⟨gr, 0, none⟩))),
      (36, .is (.pointer (some ⟨gr, 0, none⟩))),
      (37, .is (.int .i64 (N : Int))),
      (38, .is (.int .i64 (i : Int))),
      (39, .is (.int .i64 (k : Int))),
      (40, .is (.pointer (some ⟨gt, i * 4, none⟩))),
      (41, .is (.pointer (some ⟨gt, i * 4 + k, none⟩))),
      (42, .is (.agg #[(S t i k).v]))] zz).P) (fun zz => (Reg.tblK _ zz).on) (fun zz => (Reg.memK [] zz).P) (fun zz => (Reg.memK _ zz).on) ?_ ?_
    · simp only [Reg.frame, Reg.over, Nat.reduceAdd, Nat.reduceLeDiff, decide_true, decide_false, if_true, Bool.false_eq_true, if_false, Bool.and_true, Bool.and_false]
      refine ⟨?_, ?_, ?_, ?_, ?_, ?_, ?_, ?_, ?_, ?_, ?_, ?_, ?_, ?_, ?_, ?_, ?_, ?_, ?_, ?_, ?_, ?_, ?_, trivial⟩
      · intro y u hku hd
        refine wpOp_step rfl fun KK hK => ?_
        go_simp
        exact hK _ _ ⟨_, rfl, Reg.KJ.refl _, fun d hd => by cases hd; exact rfl, fun h => by cases h⟩
      · intro y u hku hd
        have h20 : y 20 = .pointer (some ⟨gr, 0, none⟩) := hd 0 (by decide)
        have l0 := Nat.lt_of_lt_of_le HLL.out.1 hku.size
        refine wpOp_step rfl fun KK hK => ?_
        simp only [h20] at hK ⊢
        go_simp
        exact hK _ _ ⟨_, rfl, Reg.KJ.refl _, fun d hd => by cases hd; exact rfl, fun h => by cases h⟩
      · intro y u hku hd
        have h21 : y 21 = .pointer (some ⟨gr, 0, none⟩) := hd 1 (by decide)
        refine wpOp_step rfl fun KK hK => ?_
        simp only [h21] at hK ⊢
        go_simp
        exact hK _ _ ⟨_, rfl, Reg.KJ.refl _, fun d hd => by cases hd; exact rfl, fun h => by cases h⟩
      · intro y u hku hd
        have h22 : y 22 = .pointer (some ⟨gr, 7, none⟩) := hd 2 (by decide)
        have c7 := belowW hku.below HC.out.2.1
        have l0 := Nat.lt_of_lt_of_le HLL.out.1 hku.size
        refine wpOp_step rfl fun KK hK => ?_
        simp only [h22] at hK ⊢
        go_simp
        exact hK _ _ ⟨_, rfl, Reg.KJ.refl _, fun d hd => by cases hd; exact rfl, fun h => by cases h⟩
      · intro y u hku hd
        refine wpOp_step rfl fun KK hK => ?_
        go_simp
        exact hK _ _ ⟨_, rfl, Reg.KJ.refl _, fun d hd => by cases hd; exact rfl, fun h => by cases h⟩
      · intro y u hku hd
        have h23 : y 23 = .slice (some ⟨ga, 0, none⟩) Tn c := hd 3 (by decide)
        have h24 : y 24 = .int .i64 (t : Int) := hd 4 (by decide)
        have hix := HIX.out.1
        refine wpOp_step rfl fun KK hK => ?_
        simp only [h23, h24] at hK ⊢
        go_simp
        exact hK _ _ ⟨_, rfl, Reg.KJ.refl _, fun d hd => by cases hd; exact rfl, fun h => by cases h⟩
      · intro y u hku hd
        have h25 : y 25 = .pointer (some ⟨ga, t, none⟩) := hd 5 (by decide)
        have ca := belowW hku.below HC.out.2.2
        have la := Nat.lt_of_lt_of_le HLL.out.2.1 hku.size
        refine wpOp_step rfl fun KK hK => ?_
        simp only [h25] at hK ⊢
        go_simp
        exact hK _ _ ⟨_, rfl, Reg.KJ.refl _, fun d hd => by cases hd; exact rfl, fun h => by cases h⟩
      · intro y u hku hd
        refine wpOp_step rfl fun KK hK => ?_
        go_simp
        exact hK _ _ ⟨_, rfl, Reg.KJ.refl _, fun d hd => by cases hd; exact rfl, fun h => by cases h⟩
      · intro y u hku hd
        refine wpOp_step rfl fun KK hK => ?_
        go_simp
        exact hK _ _ ⟨_, rfl, Reg.KJ.refl _, fun d hd => by cases hd; exact rfl, fun h => by cases h⟩
      · intro y u hku hd
        have h28 : y 28 = .pointer (some ⟨gr, 0, none⟩) := hd 8 (by decide)
        have l0 := Nat.lt_of_lt_of_le HLL.out.1 hku.size
        refine wpOp_step rfl fun KK hK => ?_
        simp only [h28] at hK ⊢
        go_simp
        exact hK _ _ ⟨_, rfl, Reg.KJ.refl _, fun d hd => by cases hd; exact rfl, fun h => by cases h⟩
      · intro y u hku hd
        have h29 : y 29 = .pointer (some ⟨gr, 0, none⟩) := hd 9 (by decide)
        refine wpOp_step rfl fun KK hK => ?_
        simp only [h29] at hK ⊢
        go_simp
        exact hK _ _ ⟨_, rfl, Reg.KJ.refl _, fun d hd => by cases hd; exact rfl, fun h => by cases h⟩
      · intro y u hku hd
        have h30 : y 30 = .pointer (some ⟨gr, 0, none⟩) := hd 10 (by decide)
        have c0 := belowW hku.below HC.out.1
        have l0 := Nat.lt_of_lt_of_le HLL.out.1 hku.size
        refine wpOp_step rfl fun KK hK => ?_
        simp only [h30] at hK ⊢
        go_simp
        exact hK _ _ ⟨_, rfl, Reg.KJ.refl _, fun d hd => by cases hd; exact rfl, fun h => by cases h⟩
      · intro y u hku hd
        have h31 : y 31 = .int .i64 (N : Int) := hd 11 (by decide)
        have hq := HEQ.out.2.2.2.1
        refine wpOp_step rfl fun KK hK => ?_
        simp only [h31] at hK ⊢
        go_simp
        exact hK _ _ ⟨_, rfl, Reg.KJ.refl _, fun d hd => by cases hd; exact rfl, fun h => by cases h⟩
      · intro y u hku hd
        have h27 : y 27 = .int .i64 x := hd 7 (by decide)
        have h32 : y 32 = .int .i64 (2 * (N : Int)) := hd 12 (by decide)
        have hq := HEQ.out.2.2.2.2.1
        refine wpOp_step rfl fun KK hK => ?_
        simp only [h27, h32] at hK ⊢
        go_simp
        exact hK _ _ ⟨_, rfl, Reg.KJ.refl _, fun d hd => by cases hd; exact rfl, fun h => by cases h⟩
      · intro y u hku hd
        refine wpOp_step rfl fun KK hK => ?_
        go_simp
        exact hK _ _ ⟨_, rfl, Reg.KJ.refl _, fun d hd => by cases hd; exact rfl, fun h => by cases h⟩
      · intro y u hku hd
        have h34 : y 34 = .pointer (some ⟨gr, 0, none⟩) := hd 14 (by decide)
        have l0 := Nat.lt_of_lt_of_le HLL.out.1 hku.size
        refine wpOp_step rfl fun KK hK => ?_
        simp only [h34] at hK ⊢
        go_simp
        exact hK _ _ ⟨_, rfl, Reg.KJ.refl _, fun d hd => by cases hd; exact rfl, fun h => by cases h⟩
      · intro y u hku hd
        have h35 : y 35 = .pointer (some ⟨gr, 0, none⟩) := hd 15 (by decide)
        refine wpOp_step rfl fun KK hK => ?_
        simp only [h35] at hK ⊢
        go_simp
        exact hK _ _ ⟨_, rfl, Reg.KJ.refl _, fun d hd => by cases hd; exact rfl, fun h => by cases h⟩
      · intro y u hku hd
        have h36 : y 36 = .pointer (some ⟨gr, 0, none⟩) := hd 16 (by decide)
        have c0 := belowW hku.below HC.out.1
        have l0 := Nat.lt_of_lt_of_le HLL.out.1 hku.size
        refine wpOp_step rfl fun KK hK => ?_
        simp only [h36] at hK ⊢
        go_simp
        exact hK _ _ ⟨_, rfl, Reg.KJ.refl _, fun d hd => by cases hd; exact rfl, fun h => by cases h⟩
      · intro y u hku hd
        have h33 : y 33 = .int .i64 (p : Int) := hd 13 (by decide)
        have h37 : y 37 = .int .i64 (N : Int) := hd 17 (by decide)
        have h1 := HEQ.out.1
        have h2 := HEQ.out.2.1
        have h3 : N ≠ 0 := by omega
        have h4 := HEQ.out.2.2.2.2.2
        refine wpOp_step rfl fun KK hK => ?_
        simp only [h33, h37] at hK ⊢
        go_simp
        exact hK _ _ ⟨_, rfl, Reg.KJ.refl _, fun d hd => by cases hd; exact rfl, fun h => by cases h⟩
      · intro y u hku hd
        refine wpOp_step rfl fun KK hK => ?_
        go_simp
        exact hK _ _ ⟨_, rfl, Reg.KJ.refl _, fun d hd => by cases hd; exact rfl, fun h => by cases h⟩
      · intro y u hku hd
        have h26 : y 26 = .slice (some ⟨gt, 0, none⟩) N (q t) := hd 6 (by decide)
        have h38 : y 38 = .int .i64 (i : Int) := hd 18 (by decide)
        have hix := HIX.out.2.1
        refine wpOp_step rfl fun KK hK => ?_
        simp only [h26, h38] at hK ⊢
        go_simp
        exact hK _ _ ⟨_, rfl, Reg.KJ.refl _, fun d hd => by cases hd; exact rfl, fun h => by cases h⟩
      · intro y u hku hd
        have h40 : y 40 = .pointer (some ⟨gt, i * 4, none⟩) := hd 20 (by decide)
        have h39 : y 39 = .int .i64 (k : Int) := hd 19 (by decide)
        have hix := HIX.out.2.2
        refine wpOp_step rfl fun KK hK => ?_
        simp only [h40, h39] at hK ⊢
        go_simp
        exact hK _ _ ⟨_, rfl, Reg.KJ.refl _, fun d hd => by cases hd; exact rfl, fun h => by cases h⟩
      · intro y u hku hd
        have h41 : y 41 = .pointer (some ⟨gt, i * 4 + k, none⟩) := hd 21 (by decide)
        refine wpOp_step rfl fun KK hK => ?_
        refine Reg.step_load_mid (by rfl) 34 (.tmp 41) (by rfl) gt (i * 4 + k) (by exact h41) [(S t i k).v] (fun j v hv => (hku.below.cell (p := ⟨gt, _, none⟩) HLL.out.2.2).trans (HCT.out j v hv)) _ Try.underlying34 rfl (by rw [size_word]; rfl) ?_
        exact hK _ _ ⟨_, rfl, Reg.KJ.refl _, fun d hd => by cases hd; exact rfl, fun h => by cases h⟩
    · intro y u hku hd
      have e42 : y 42 = .agg #[(S t i k).v] := hd 22 (by decide)
      have HKU := Lib.hid hku.below
      have HZU := Lib.hid (HZ.out.on hku.below)
      clear hku hd
      simp only [Reg.frame, Reg.over, Nat.reduceAdd, Nat.reduceLeDiff, decide_true, decide_false, if_true, Bool.false_eq_true, if_false, Bool.and_true, Bool.and_false, e42, List.drop_succ_cons, List.drop_zero]
      go_wp2_with (refine wpList_store_pin rfl 34 (.tmp 8) (.tmp 42) rfl HZU.out [(S t i k).v] (by simp [Act.eval, Act.put]) (by simp [Act.eval, Act.put]) 1 size_word HZL.out rfl (by simp [Wo.v, Value.oneCell']) ?_; intro w1 p1 b1)
      have hld := p1.var 34 _ Try.underlying34 rfl 1 size_word rfl
      exact bodyPost_ret (v := .agg #[(S t i k).v]) (by simp [results, Try.results87, asAddr, Act.put, hld]) rfl ⟨by rw [HE.out], (below_then HB.out HKU.out).trans (b1.low (Nat.le_refl _))⟩
set_option maxRecDepth 100000 in
theorem built_ins (a b c d : Value) : (Try.prog).built 36 [(0, .agg #[a]), (1, .agg #[b]), (2, .agg #[c]), (3, .agg #[d])] = some #[a, b, c, d] := by kernel_rfl
set_option maxRecDepth 100000 in
theorem size_ins : (Try.prog.info? 36).map (·.size) = some 4 := by kernel_rfl
/-- What comes in at a node. -/
def insM (N Tn : Nat) (S : Nat → Nat → Nat → Wo) (i k : Nat) : Wo := if k = 0 then sentM N Tn S (i + 2 * N - 1) 0 1 else if k = 1 then sentM N Tn S (i + 2 * N - 2) 1 2 else if k = 2 then sentM N Tn S (i + 2 * N + 1) 2 1 else sentM N Tn S (i + 2 * N + 2) 3 2
set_option maxRecDepth 100000 in
set_option maxHeartbeats 4000000 in
theorem ins_is (B gr N Tn : Nat) (F : Fa) (VL VO VS : Value) (S : Nat → Nat → Nat → Wo) (i : Nat) (hN : 4 ≤ N ∧ N ≤ 16) (hT : Tn ≤ 1000) (hi : i < N) (w : World) (hB : B ≤ w.heap.size) (hr : Blk w gr 158 (rgL N F VL VO VS).toArray) (hS : SentS B w VS N Tn S) :
    Calls Try.prog 63 #[.pointer (some ⟨gr, 0, none⟩), .int .i64 (i : Int)] w fun e w' => e = .returned (.agg #[(insM N Tn S i 0).v, (insM N Tn S i 1).v, (insM N Tn S i 2).v, (insM N Tn S i 3).v]) ∧ Below w.heap.size w w' := by
  have HC : Hid (∀ (u : World) (x : Int) (p k ago : Nat), Below w.heap.size w u → x + 2 * (N : Int) = (p : Int) → p ≤ 1000 → k < 4 → 1 ≤ ago ∧ ago ≤ 1000 → Calls Try.prog 87 #[.pointer (some ⟨gr, 0, none⟩), .int .i64 x, .int .i64 (k : Int), .int .i64 (ago : Int)] u fun e w' => e = .returned (.agg #[(sentM N Tn S p k ago).v]) ∧ Below u.heap.size u w') := Lib.hid (fun u x p k ago hu h1 h2 h3 h4 => sent_is B gr N Tn F VL VO VS S x p k ago hN hT h1 h2 h3 h4 u (hr.on hu) (hS.on hB hu))
  have HS1 : Hid (∀ u : World, Below w.heap.size w u → Calls Try.prog 87 #[.pointer (some ⟨gr, 0, none⟩), .int .i64 ((i : Int) - 1), .int .i64 0, .int .i64 1] u fun e w' => e = .returned (.agg #[(insM N Tn S i 0).v]) ∧ Below u.heap.size u w') := Lib.hid (fun u hu => HC.out u ((i : Int) - 1) (i + 2 * N - 1) 0 1 hu (by omega) (by omega) (by decide) (by decide))
  have HS2 : Hid (∀ u : World, Below w.heap.size w u → Calls Try.prog 87 #[.pointer (some ⟨gr, 0, none⟩), .int .i64 ((i : Int) - 2), .int .i64 1, .int .i64 2] u fun e w' => e = .returned (.agg #[(insM N Tn S i 1).v]) ∧ Below u.heap.size u w') := Lib.hid (fun u hu => HC.out u ((i : Int) - 2) (i + 2 * N - 2) 1 2 hu (by omega) (by omega) (by decide) (by decide))
  have HS3 : Hid (∀ u : World, Below w.heap.size w u → Calls Try.prog 87 #[.pointer (some ⟨gr, 0, none⟩), .int .i64 ((i : Int) + 1), .int .i64 2, .int .i64 1] u fun e w' => e = .returned (.agg #[(insM N Tn S i 2).v]) ∧ Below u.heap.size u w') := Lib.hid (fun u hu => HC.out u ((i : Int) + 1) (i + 2 * N + 1) 2 1 hu (by omega) (by omega) (by decide) (by decide))
  have HS4 : Hid (∀ u : World, Below w.heap.size w u → Calls Try.prog 87 #[.pointer (some ⟨gr, 0, none⟩), .int .i64 ((i : Int) + 2), .int .i64 3, .int .i64 2] u fun e w' => e = .returned (.agg #[(insM N Tn S i 3).v]) ∧ Below u.heap.size u w') := Lib.hid (fun u hu => HC.out u ((i : Int) + 2) (i + 2 * N + 2) 3 2 hu (by omega) (by omega) (by decide) (by decide))
  have HZN : Hid (∀ Z : Array Value, Z.size = 4 → PIn (w.alloc (.cells Z 36)) w.heap.size 0 36 [] [] Z.toList ∧ Z.toList.length = 4) := Lib.hid (fun Z hZ => ⟨Blk.pin (by simpa using Blk.new w 36 Z), by simpa using hZ⟩)
  have HBI := Lib.hid (built_ins (insM N Tn S i 0).v (insM N Tn S i 1).v (insM N Tn S i 2).v (insM N Tn S i 3).v)
  have hw1 : IntKind.i64.wrap ((i : Int) - 1) = (i : Int) - 1 := IntWalk.i64_in _ (by omega)
  have hw2 : IntKind.i64.wrap ((i : Int) - 2) = (i : Int) - 2 := IntWalk.i64_in _ (by omega)
  have hw3 : IntKind.i64.wrap ((i : Int) + 1) = (i : Int) + 1 := IntWalk.i64_in _ (by omega)
  have hw4 : IntKind.i64.wrap ((i : Int) + 2) = (i : Int) + 2 := IntWalk.i64_in _ (by omega)
  clear hr hS
  go_enter Try.func63, Try.ntmps63
  go_upto_region 1 with fail
  refine wp_at (fun U => (∃ Z : List Value, Z.length = 4 ∧ PIn U w.heap.size 0 36 [] [] Z) ∧ Below w.heap.size w U) ⟨⟨_, (HZN.out _ rfl).2, (HZN.out _ rfl).1⟩, below_al (Below.refl _ w) _⟩ ?_
  rintro U ⟨⟨Z, hZl, hZ⟩, hb⟩
  have HZ := Lib.hid hZ
  have HZL := Lib.hid hZl
  have HB := Lib.hid hb
  clear hZ hZl hb HZN
  go_wp2_with (first
    | (go_at_call 87; (with_reducible refine (HS1.out _ HB.out).mono ?_); rintro e w1 ⟨rfl, q1⟩; have H1 := Lib.hid (below_then HB.out q1); have Z1 := Lib.hid (HZ.out.on q1); clear q1)
    | (go_at_call 87; (with_reducible refine (HS2.out _ H1.out).mono ?_); rintro e w2 ⟨rfl, q1⟩; have H2 := Lib.hid (below_then H1.out q1); have Z2 := Lib.hid (Z1.out.on q1); clear q1)
    | (go_at_call 87; (with_reducible refine (HS3.out _ H2.out).mono ?_); rintro e w3 ⟨rfl, q1⟩; have H3 := Lib.hid (below_then H2.out q1); have Z3 := Lib.hid (Z2.out.on q1); clear q1)
    | (go_at_call 87; (with_reducible refine (HS4.out _ H3.out).mono ?_); rintro e w4 ⟨rfl, q1⟩; have H4 := Lib.hid (below_then H3.out q1); have Z4 := Lib.hid (Z3.out.on q1); clear q1)
    | (refine wpList_build rfl 36 _ rfl #[(insM N Tn S i 0).v, (insM N Tn S i 1).v, (insM N Tn S i 2).v, (insM N Tn S i 3).v] (by simpa [Act.eval, Act.put] using HBI.out) ?_)
    | (refine wpList_store_pin rfl 36 (.tmp 4) (.tmp 21) rfl Z4.out [(insM N Tn S i 0).v, (insM N Tn S i 1).v, (insM N Tn S i 2).v, (insM N Tn S i 3).v] (by simp [Act.eval, Act.put]) (by simp [Act.eval, Act.put]) 4 size_ins HZL.out rfl (by simp [Wo.v, Value.oneCell']) ?_; intro w5 p1 b1))
  have hld := p1.var 36 _ Try.underlying36 rfl 4 size_ins rfl
  exact bodyPost_ret (v := .agg #[(insM N Tn S i 0).v, (insM N Tn S i 1).v, (insM N Tn S i 2).v, (insM N Tn S i 3).v]) (by simp [results, Try.results63, asAddr, Act.put, hld]) rfl ⟨rfl, H4.out.trans (b1.low (Nat.le_refl _))⟩
end Go.Proofs.Ytcangipaoancnaa

