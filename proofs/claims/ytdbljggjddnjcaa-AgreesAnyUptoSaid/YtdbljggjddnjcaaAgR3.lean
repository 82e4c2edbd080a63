/-
  The document's answer of stage 15: what is agreed on. Conditions: the rows' readings, their lengths.
-/
import Derived.Test.YtdbljggjddnjcaaAgR2
namespace Go.Proofs.Ytdbljggjddnjcaa
open Go.RowKit
set_option linter.unusedVariables false
set_option linter.unusedSimpArgs false

set_option maxRecDepth 100000 in
theorem ragree_bad (n : Int) (h : n < 4 ∨ 16 < n) (v : Value) (w : World) : Calls Try.prog 43 #[.int .i64 n, v] w fun e w' => e = .returned (.slice none 0 0) ∧ w = w' := by
  by_cases h1 : n < 4
  · have d1 : decide (n < 4) = true := decide_eq_true h1
    go_enter Try.func43, Try.ntmps43
    go_wp2_with fail
    go_ret
    exact ⟨rfl, rfl⟩
  · have d1 : decide (n < 4) = false := decide_eq_false h1
    have h2 : 16 < n := by omega
    have d2 : decide (16 < n) = true := decide_eq_true h2
    go_enter Try.func43, Try.ntmps43
    go_wp2_with fail
    go_ret
    exact ⟨rfl, rfl⟩
/-- What the loops know of memory: the vector so far, the box of what is found, and of one. -/
structure RA1 (w : World) (A' : Option Addr) (k c' : Nat) (V : Nat → He) (g7 : Nat) (X : He) (U : World) : Prop where
  r : U.ownsRow w.heap.size 147 56 (.slice A' k c') k (hesL V k)
  f : PIn U g7 0 147 [] [] (heL X)
  n : ∀ g, A' = some ⟨g, 0, none⟩ → g ≠ g7
  lo : w.heap.size ≤ g7
  b : Below w.heap.size w U
section
variable {w U V : World} {A' : Option Addr} {k c' g7 : Nat} {T : Nat → He} {X Y : He}
theorem RA1.on (h : RA1 w A' k c' T g7 X U) (b : Below U.heap.size U V) : RA1 w A' k c' T g7 X V := ⟨ownsF_on h.r b, h.f.on b, h.n, h.lo, below_then h.b b⟩
theorem RA1.turn (h : RA1 w A' k c' T g7 X U) (f : PIn V g7 0 147 [] [] (heL Y)) (b : But g7 U V) : RA1 w A' k c' T g7 Y V := ⟨ownsF_but h.r b h.n, f, h.n, h.lo, h.b.trans (b.low h.lo)⟩
theorem RA1.but {xo : Nat} (h : RA1 w A' k c' T g7 X U) (b : But xo U V) (h1 : g7 < xo) (h2 : ∀ g, A' = some ⟨g, 0, none⟩ → g ≠ xo) : RA1 w A' k c' T g7 X V := ⟨ownsF_but h.r b h2, h.f.but b (by omega), h.n, h.lo, h.b.trans (b.low (by have := h.lo; omega))⟩
end
theorem heE_comm (a b : He) : heE a b = heE b a := by
  rw [Bool.eq_iff_iff, heE_iff, heE_iff]; exact eq_comm
set_option maxRecDepth 100000 in
set_option maxHeartbeats 8000000 in
theorem ragree_is (N : Nat) (hN : 4 ≤ N ∧ N ≤ 16) (A : Option Addr) (m c : Nat) (hm : m ≤ 65536) (R : Nat → Rw) (hRn : ∀ i, i < m → (R i).n ≤ 65536) (w : World) (hR : LiesR w w.heap.size A m R) :
    Calls Try.prog 43 #[.int .i64 (N : Int), .slice A m c] w fun e w' => ∃ (A' : Option Addr) (c' : Nat), e = .returned (.slice A' N c') ∧ w'.ownsRow w.heap.size 147 56 (.slice A' N c') N (hesL (fun s => fndM N s (hasM m s (fun j => (R j).ro)) N) N) ∧ Below w.heap.size w w' := by
  have HBT := Lib.hid builtRHeld0
  obtain ⟨i0, hi0, hz0, hz1, hz2⟩ := info_parts infoRHeld
  have HI := Lib.hid hi0
  have HZ0 := Lib.hid hz0
  have HZ1 := Lib.hid hz1
  have HZ2 := Lib.hid hz2
  have d1 : decide ((N : Int) < 4) = false := decide_eq_false (by omega)
  have d2 : decide (16 < (N : Int)) = false := decide_eq_false (by omega)
  obtain ⟨Hs, hHs⟩ : ∃ Hs : Nat → Nat → He, Hs = fun s j => hasM m s (fun j => (R j).ro) j := ⟨_, rfl⟩
  have HHS := Lib.hid hHs
  have HCA : Hid (∀ (u : World) (k s : Nat), s ≤ 65536 → Below w.heap.size w u → Calls Try.prog 63 #[.slice A m c, .int .i64 (k : Int), .int .i64 (s : Int)] u fun e w' => e = .returned (.agg (heL (Hs s k)).toArray) ∧ Below u.heap.size u w') := Lib.hid (fun u k s hs hu => by rw [hHs]; exact has_is A m c k s hm hs R hRn u (hR.on hu))
  obtain ⟨V, hV⟩ : ∃ V : Nat → He, V = fun s => fndM N s (Hs s) N := ⟨_, rfl⟩
  have HVV := Lib.hid hV
  rw [show (fun s => fndM N s (hasM m s (fun j => (R j).ro)) N) = V by rw [hV, hHs]]
  clear hR hRn hi0 hz0 hz1 hz2 hV hHs hm
  go_enter Try.func43, Try.ntmps43
  go_wp2_with fail
  go_loopw [5, 6] (fun sv iv wr => ∃ k : Nat, k ≤ N ∧ iv = .int .i64 (k : Int) ∧ ∃ (A' : Option Addr) (c' : Nat), sv = .slice A' k c' ∧ Hid (wr.ownsRow w.heap.size 147 56 (.slice A' k c') k (hesL V k)) ∧ Hid (Below w.heap.size w wr)) (fun _ iv _ => N - (intOf iv).toNat)
  case atStart => exact ⟨0, by omega, rfl, none, 0, rfl, Lib.hid ownsF_nil, Lib.hid (Below.refl _ _)⟩
  case round =>
    obtain ⟨s, hs, rfl, A', c', rfl, HO, HB⟩ := hrel
    by_cases hlt : s < N
    · have ds : decide ((s : Int) < (N : Int)) = true := decide_eq_true (by omega)
      obtain ⟨H, hH⟩ : ∃ H, H = Hs s := ⟨_, rfl⟩
      have HHE := Lib.hid hH
      have HVS : Hid (V s = fndM N s H N) := Lib.hid (by rw [HVV.out, hH])
      have HCH : Hid (∀ (u : World) (k : Nat), Below w.heap.size w u → Calls Try.prog 63 #[.slice A m c, .int .i64 (k : Int), .int .i64 (s : Int)] u fun e w' => e = .returned (.agg (heL (H k)).toArray) ∧ Below u.heap.size u w') := Lib.hid (fun u k hu => by rw [hH]; exact HCA.out u k s (by omega) hu)
      clear hH
      have HZN : Hid (∀ Z : Array Value, Z.size = 56 → PIn (wr.alloc (.cells Z 147)) wr.heap.size 0 147 [] [] Z.toList ∧ Z.toList.length = 56) := Lib.hid (fun Z hZ => ⟨Blk.pin (by simpa using Blk.new wr 147 Z), by simpa using hZ⟩)
      go_upto_region 8 with (first
        | (refine wpList_build rfl 147 _ rfl (heL heN).toArray (by simpa [Act.eval, Act.put] using HBT.out) ?_)
        | (refine wpList_store_pin rfl 147 (.tmp 7) (.tmp 23) rfl (HZN.out _ rfl).1 (heL heN) (by simp [Act.eval, Act.put]) (by simp [Act.eval, Act.put]) 56 size_rhe (HZN.out _ rfl).2 (heL_len _) (heL_one _) ?_; intro w1 p1 b1; have HP1 := Lib.hid p1; have HB1 := Lib.hid b1; clear p1 b1))
      refine wp_at (RA1 w A' s c' V wr.heap.size heN) ⟨ownsF_but (ownsF_on HO.out (below_al (Below.refl _ wr) _)) HB1.out (fun g hg => by have := (ownsF_lt HO.out hg).2; omega), HP1.out, fun g hg => by have := (ownsF_lt HO.out hg).2; omega, HB.out.size, (below_al HB.out _).trans (HB1.out.low HB.out.size)⟩ ?_
      obtain ⟨g7, hg7⟩ : ∃ g7, g7 = wr.heap.size := ⟨_, rfl⟩
      rw [← hg7]
      clear hg7 HO HB HZN HP1 HB1
      intro U hU
      have HU := Lib.hid hU
      clear hU
      go_wp2_with fail
      go_loopw [8] (fun iv wr => ∃ k : Nat, k ≤ N ∧ iv = .int .i64 (k : Int) ∧ Hid (RA1 w A' s c' V g7 (fndM N s H k) wr)) (fun iv _ => N - (intOf iv).toNat)
      case atStart => exact ⟨0, by omega, rfl, HU⟩
      case round =>
        clear HU
        obtain ⟨k, hk, rfl, HU⟩ := hrel
        by_cases hkl : k < N
        · have dk : decide ((k : Int) < (N : Int)) = true := decide_eq_true (by omega)
          go_upto_region 12 with (first
            | (go_at_call 63; (with_reducible refine (HCH.out _ k HU.out.b).mono ?_); rintro e w3 ⟨rfl, q1⟩; have Q1 := Lib.hid q1; have HZ2 : Hid (∀ Z : Array Value, Z.size = 56 → PIn (w3.alloc (.cells Z 147)) w3.heap.size 0 147 [] [] Z.toList ∧ Z.toList.length = 56) := Lib.hid (fun Z hZ => ⟨Blk.pin (by simpa using Blk.new w3 147 Z), by simpa using hZ⟩); clear q1)
            | (refine wpList_store_pin rfl 147 (.tmp 9) (.tmp 32) rfl (HZ2.out _ rfl).1 (heL (H k)) (by simp [Act.eval, Act.put]) (by simp [Act.eval, Act.put]) 56 size_rhe (HZ2.out _ rfl).2 (heL_len _) (heL_one _) ?_; intro w4 p1 b1; have HP1 := Lib.hid p1; have HB1 := Lib.hid b1; clear p1 b1))
          refine wp_at (fun Y => RA1 w A' s c' V g7 (fndM N s H k) Y ∧ PIn Y w3.heap.size 0 147 [] [] (heL (H k))) ⟨((HU.out.on Q1.out).on (below_al (Below.refl _ _) _)).but HB1.out (HU.out.on Q1.out).f.lt (fun g hg => by have := (ownsF_lt (HU.out.on Q1.out).r hg).2; omega), HP1.out⟩ ?_
          obtain ⟨g9, hg9⟩ : ∃ g9, g9 = w3.heap.size := ⟨_, rfl⟩
          rw [← hg9]
          clear hg9 HU Q1 HZ2 HP1 HB1
          obtain ⟨xo, hx⟩ : ∃ xo, xo = H k := ⟨_, rfl⟩
          rw [← hx]
          have HX := Lib.hid hx
          clear hx
          rintro Y ⟨y1, y2⟩
          have HY := Lib.hid y1
          have HP := Lib.hid y2
          have c9 : Y.cell? ⟨g9, 0, none⟩ = some (.bool xo.i) := y2.cell0 (by rw [heL_len]; decide)
          have l9 := y2.lt
          clear y1 y2
          by_cases hks : k = s
          · have dks : ((k : Int) == (s : Int)) = true := by simp [hks]
            have HNX : Hid (fndM N s H (k + 1) = fndM N s H k) := Lib.hid (by rw [fndM, if_neg (by simp [hks])])
            go_wp2_with fail
            go_roundw
            case rel => exact ⟨k + 1, by omega, by go_num, Lib.hid (by rw [HNX.out]; exact HY.out)⟩
            case measure => simp [intOf]; omega
          · have dks : ((k : Int) == (s : Int)) = false := by simp; omega
            obtain ⟨xi, hxi⟩ : ∃ xi, xi = xo.i := ⟨_, rfl⟩
            rw [← hxi] at c9
            have HXI := Lib.hid hxi
            clear hxi
            cases xi with
            | false =>
              have HNX : Hid (fndM N s H (k + 1) = fndM N s H k) := Lib.hid (by rw [fndM, if_neg (by rw [← HX.out, ← HXI.out]; simp)])
              go_wp2_with fail
              go_roundw
              case rel => exact ⟨k + 1, by omega, by go_num, Lib.hid (by rw [HNX.out]; exact HY.out)⟩
              case measure => simp [intOf]; omega
            | true =>
              go_wp2_with fail
              go_loopw [10, 11] (fun mv iv wr => ∃ j : Nat, j ≤ N ∧ iv = .int .i64 (j : Int) ∧ mv = .int .i64 ((manM s H xo j : Nat) : Int) ∧ Hid (Below Y.heap.size Y wr)) (fun _ iv _ => N - (intOf iv).toNat)
              case atStart => exact ⟨0, by omega, rfl, rfl, Lib.hid (Below.refl _ _)⟩
              case round =>
                clear c9 l9
                obtain ⟨j, hj, rfl, rfl, HJ⟩ := hrel
                have HBW : Hid (Below w.heap.size w wr) := Lib.hid (below_then HY.out.b HJ.out)
                have HPW : Hid (PIn wr g9 0 147 [] [] (heL xo)) := Lib.hid (HP.out.on HJ.out)
                obtain ⟨n0, hn0⟩ : ∃ n0, n0 = manM s H xo j := ⟨_, rfl⟩
                rw [← hn0]
                have HN0 := Lib.hid hn0
                have ln0 : n0 ≤ 16 := by have := man_le s H xo j; omega
                clear hn0
                by_cases hjl : j < N
                · have dj : decide ((j : Int) < (N : Int)) = true := decide_eq_true (by omega)
                  by_cases hjs : j = s
                  · have djs : ((j : Int) != (s : Int)) = false := by simp [hjs]
                    have HM1 : Hid (manM s H xo (j + 1) = n0) := Lib.hid (by rw [manM, if_neg (by simp [hjs]), HN0.out])
                    clear hjs
                    go_wp2_with fail
                    refine Reg.wp_slots2 (fun t => decide (46 ≤ t) && decide (t ≤ 56)) (Reg.KJ wr.heap.size [] []) (Reg.KJ.drew _ (by simp)) Reg.KJ.trans (by kernel_rfl) (by kernel_rfl) (by kernel_rfl) (fun zz => (Reg.tblK [
                      (46, .is (.int .i64 (j : Int))),
                      (47, .is (.int .i64 (s : Int))),
                      (48, .is (.bool false)),
                      (49, .is (.bool false)),
                      (50, .is (undef)),
                      (51, .is (undef)),
                      (52, .is (undef)),
                      (53, .is (undef)),
                      (54, .is (undef)),
                      (55, .is (undef)),
                      (56, .is (.bool false))] zz).P) (fun zz => (Reg.tblK _ zz).on) (fun zz => (Reg.memK [] zz).P) (fun zz => (Reg.memK _ zz).on) ?_ ?_
                    · simp only [Reg.frame, Reg.over, Nat.reduceAdd, Nat.reduceLeDiff, decide_true, decide_false, if_true, Bool.false_eq_true, if_false, Bool.and_true, Bool.and_false]
                      refine ⟨?_, ?_, ?_, ?_, ?_, ?_, ?_, ?_, ?_, ?_, ?_, trivial⟩
                      · intro x u hku hd
                        refine wpOp_step rfl fun KK hK => ?_
                        go_simp
                        exact hK _ _ ⟨_, rfl, Reg.KJ.refl _, fun d hd => by cases hd; exact rfl, fun h => by cases h⟩
                      · intro x u hku hd
                        refine wpOp_step rfl fun KK hK => ?_
                        go_simp
                        exact hK _ _ ⟨_, rfl, Reg.KJ.refl _, fun d hd => by cases hd; exact rfl, fun h => by cases h⟩
                      · intro x u hku hd
                        have h46 : x 46 = .int .i64 (j : Int) := hd 0 (by decide)
                        have h47 : x 47 = .int .i64 (s : Int) := hd 1 (by decide)
                        refine wpOp_step rfl fun KK hK => ?_
                        simp only [h46, h47] at hK ⊢
                        go_simp
                        exact hK _ _ ⟨_, rfl, Reg.KJ.refl _, fun d hd => by cases hd; exact rfl, fun h => by cases h⟩
                      · intro x u hku hd
                        have h48 : x 48 = .bool false := hd 2 (by decide)
                        refine wpOp_step rfl fun KK hK => ?_
                        simp only [h48] at hK ⊢
                        go_simp
                        exact hK _ _ ⟨_, rfl, Reg.KJ.refl _, fun d hd => by cases hd; exact rfl, fun h => by cases h⟩
                      · intro x u hku hd
                        have h49 : x 49 = .bool false := hd 3 (by decide)
                        refine wpOp_step rfl fun KK hK => ?_
                        simp only [h49] at hK ⊢
                        go_simp
                        exact hK _ _ ⟨_, rfl, Reg.KJ.refl _, fun d hd => by cases hd; exact rfl, fun h => by cases h⟩
                      · intro x u hku hd
                        have h49 : x 49 = .bool false := hd 3 (by decide)
                        refine wpOp_step rfl fun KK hK => ?_
                        simp only [h49] at hK ⊢
                        go_simp
                        exact hK _ _ ⟨_, rfl, Reg.KJ.refl _, fun d hd => by cases hd; exact rfl, fun h => by cases h⟩
                      · intro x u hku hd
                        have h49 : x 49 = .bool false := hd 3 (by decide)
                        refine wpOp_step rfl fun KK hK => ?_
                        simp only [h49] at hK ⊢
                        go_simp
                        exact hK _ _ ⟨_, rfl, Reg.KJ.refl _, fun d hd => by cases hd; exact rfl, fun h => by cases h⟩
                      · intro x u hku hd
                        have h50 : x 50 = undef := hd 4 (by decide)
                        have h51 : x 51 = undef := hd 5 (by decide)
                        have h52 : x 52 = undef := hd 6 (by decide)
                        have h49 : x 49 = .bool false := hd 3 (by decide)
                        refine wpOp_step rfl fun KK hK => ?_
                        simp only [h50, h51, h52, h49] at hK ⊢
                        go_simp
                        exact hK _ _ ⟨_, rfl, Reg.KJ.refl _, fun d hd => by cases hd; exact rfl, fun h => by cases h⟩
                      · intro x u hku hd
                        have h49 : x 49 = .bool false := hd 3 (by decide)
                        refine wpOp_step rfl fun KK hK => ?_
                        simp only [h49] at hK ⊢
                        go_simp
                        exact hK _ _ ⟨_, rfl, Reg.KJ.refl _, fun d hd => by cases hd; exact rfl, fun h => by cases h⟩
                      · intro x u hku hd
                        have h53 : x 53 = undef := hd 7 (by decide)
                        have h54 : x 54 = undef := hd 8 (by decide)
                        have h49 : x 49 = .bool false := hd 3 (by decide)
                        refine wpOp_step rfl fun KK hK => ?_
                        simp only [h53, h54, h49] at hK ⊢
                        go_simp
                        exact hK _ _ ⟨_, rfl, Reg.KJ.refl _, fun d hd => by cases hd; exact rfl, fun h => by cases h⟩
                      · intro x u hku hd
                        have h49 : x 49 = .bool false := hd 3 (by decide)
                        have h55 : x 55 = undef := hd 9 (by decide)
                        refine wpOp_step rfl fun KK hK => ?_
                        simp only [h49, h55] at hK ⊢
                        go_simp
                        exact hK _ _ ⟨_, rfl, Reg.KJ.refl _, fun d hd => by cases hd; exact rfl, fun h => by cases h⟩
                    · intro y U hku hall
                      have e56 : y 56 = .bool false := hall 10 (by decide)
                      simp only [Reg.frame, Reg.over, Nat.reduceAdd, Nat.reduceLeDiff, decide_true, decide_false, if_true, Bool.false_eq_true, if_false, Bool.and_true, Bool.and_false, e56]
                      have HKU := Lib.hid hku.below
                      clear hku hall
                      go_wp2_with fail
                      go_roundw
                      case rel => exact ⟨j + 1, by omega, by go_num, by rw [HM1.out], Lib.hid (below_then HJ.out HKU.out)⟩
                      case measure => simp [intOf]; omega
                  · have djs : ((j : Int) != (s : Int)) = true := by simp; omega
                    obtain ⟨z, hz⟩ : ∃ z, z = H j := ⟨_, rfl⟩
                    obtain ⟨q, hq⟩ : ∃ q, q = heE z xo := ⟨_, rfl⟩
                    have HCZ : Hid (∀ u : World, Below wr.heap.size wr u → Calls Try.prog 63 #[.slice A m c, .int .i64 (j : Int), .int .i64 (s : Int)] u fun e w' => e = .returned (.agg (heL z).toArray) ∧ Below u.heap.size u w') := Lib.hid (fun u hu => by rw [hz]; exact HCH.out u j (below_then HBW.out hu))
                    have HEQ : Hid (∀ W, (binOp .eql 147 (.agg (heL z).toArray) (.agg (heL xo).toArray)).run Try.prog W = .ok (.bool q) W) := Lib.hid (fun W => by rw [hq]; exact rheld_eql z xo W)
                    have HM1 : Hid (manM s H xo (j + 1) = if q = true then n0 + 1 else n0) := Lib.hid (by rw [manM, ← hz, ← hq, HN0.out]; simp [hjs])
                    clear hz hq
                    go_wp2_with fail
                    refine Reg.wp_slots2 (fun t => decide (46 ≤ t) && decide (t ≤ 56)) (Reg.KJ wr.heap.size [] []) (Reg.KJ.drew _ (by simp)) Reg.KJ.trans (by kernel_rfl) (by kernel_rfl) (by kernel_rfl) (fun zz => (Reg.tblK [
                      (46, .is (.int .i64 (j : Int))),
                      (47, .is (.int .i64 (s : Int))),
                      (48, .is (.bool true)),
                      (49, .is (.bool true)),
                      (50, .is (.slice A m c)),
                      (51, .is (.int .i64 (j : Int))),
                      (52, .is (.int .i64 (s : Int))),
                      (53, .is (.agg (heL z).toArray)),
                      (54, .is (.agg (heL xo).toArray)),
                      (55, .is (.bool q)),
                      (56, .is (.bool q))] zz).P) (fun zz => (Reg.tblK _ zz).on) (fun zz => (Reg.memK [] zz).P) (fun zz => (Reg.memK _ zz).on) ?_ ?_
                    · simp only [Reg.frame, Reg.over, Nat.reduceAdd, Nat.reduceLeDiff, decide_true, decide_false, if_true, Bool.false_eq_true, if_false, Bool.and_true, Bool.and_false]
                      refine ⟨?_, ?_, ?_, ?_, ?_, ?_, ?_, ?_, ?_, ?_, ?_, trivial⟩
                      · intro x u hku hd
                        refine wpOp_step rfl fun KK hK => ?_
                        go_simp
                        exact hK _ _ ⟨_, rfl, Reg.KJ.refl _, fun d hd => by cases hd; exact rfl, fun h => by cases h⟩
                      · intro x u hku hd
                        refine wpOp_step rfl fun KK hK => ?_
                        go_simp
                        exact hK _ _ ⟨_, rfl, Reg.KJ.refl _, fun d hd => by cases hd; exact rfl, fun h => by cases h⟩
                      · intro x u hku hd
                        have h46 : x 46 = .int .i64 (j : Int) := hd 0 (by decide)
                        have h47 : x 47 = .int .i64 (s : Int) := hd 1 (by decide)
                        refine wpOp_step rfl fun KK hK => ?_
                        simp only [h46, h47] at hK ⊢
                        go_simp
                        exact hK _ _ ⟨_, rfl, Reg.KJ.refl _, fun d hd => by cases hd; exact rfl, fun h => by cases h⟩
                      · intro x u hku hd
                        have h48 : x 48 = .bool true := hd 2 (by decide)
                        refine wpOp_step rfl fun KK hK => ?_
                        simp only [h48] at hK ⊢
                        go_simp
                        exact hK _ _ ⟨_, rfl, Reg.KJ.refl _, fun d hd => by cases hd; exact rfl, fun h => by cases h⟩
                      · intro x u hku hd
                        have h49 : x 49 = .bool true := hd 3 (by decide)
                        refine wpOp_step rfl fun KK hK => ?_
                        simp only [h49] at hK ⊢
                        go_simp
                        exact hK _ _ ⟨_, rfl, Reg.KJ.refl _, fun d hd => by cases hd; exact rfl, fun h => by cases h⟩
                      · intro x u hku hd
                        have h49 : x 49 = .bool true := hd 3 (by decide)
                        refine wpOp_step rfl fun KK hK => ?_
                        simp only [h49] at hK ⊢
                        go_simp
                        exact hK _ _ ⟨_, rfl, Reg.KJ.refl _, fun d hd => by cases hd; exact rfl, fun h => by cases h⟩
                      · intro x u hku hd
                        have h49 : x 49 = .bool true := hd 3 (by decide)
                        refine wpOp_step rfl fun KK hK => ?_
                        simp only [h49] at hK ⊢
                        go_simp
                        exact hK _ _ ⟨_, rfl, Reg.KJ.refl _, fun d hd => by cases hd; exact rfl, fun h => by cases h⟩
                      · intro x u hku hd
                        have h50 : x 50 = .slice A m c := hd 4 (by decide)
                        have h51 : x 51 = .int .i64 (j : Int) := hd 5 (by decide)
                        have h52 : x 52 = .int .i64 (s : Int) := hd 6 (by decide)
                        have h49 : x 49 = .bool true := hd 3 (by decide)
                        refine wpOp_step rfl fun KK hK => ?_
                        simp only [h50, h51, h52, h49] at hK ⊢
                        go_simp
                        (with_reducible refine (HCZ.out _ hku.below).mono ?_)
                        rintro e u' ⟨rfl, hb'⟩
                        exact hK _ _ ⟨_, rfl, Reg.KJ.grow (by simp) hku.size hb', fun d hd => by cases hd; exact rfl, fun h => by cases h⟩
                      · intro x u hku hd
                        have h49 : x 49 = .bool true := hd 3 (by decide)
                        refine wpOp_step rfl fun KK hK => ?_
                        refine Reg.step_load_wantT (by simp only [h49]; kernel_rfl) 147 (.tmp 9) (by rfl) g9 0 (by rfl) (heL xo) (hku.pin HPW.out).range _ Try.underlying147 rfl (by rw [size_rhe, heL_len]) ?_
                        exact hK _ _ ⟨_, rfl, Reg.KJ.refl _, fun d hd => by cases hd; exact rfl, fun h => by cases h⟩
                      · intro x u hku hd
                        have h53 : x 53 = .agg (heL z).toArray := hd 7 (by decide)
                        have h54 : x 54 = .agg (heL xo).toArray := hd 8 (by decide)
                        have h49 : x 49 = .bool true := hd 3 (by decide)
                        have heq := HEQ.out
                        refine wpOp_step rfl fun KK hK => ?_
                        simp only [h53, h54, h49] at hK ⊢
                        go_simp
                        exact hK _ _ ⟨_, rfl, Reg.KJ.refl _, fun d hd => by cases hd; exact rfl, fun h => by cases h⟩
                      · intro x u hku hd
                        have h49 : x 49 = .bool true := hd 3 (by decide)
                        have h55 : x 55 = .bool q := hd 9 (by decide)
                        refine wpOp_step rfl fun KK hK => ?_
                        simp only [h49, h55] at hK ⊢
                        go_simp
                        exact hK _ _ ⟨_, rfl, Reg.KJ.refl _, fun d hd => by cases hd; exact rfl, fun h => by cases h⟩
                    · intro y U hku hall
                      have e56 : y 56 = .bool q := hall 10 (by decide)
                      simp only [Reg.frame, Reg.over, Nat.reduceAdd, Nat.reduceLeDiff, decide_true, decide_false, if_true, Bool.false_eq_true, if_false, Bool.and_true, Bool.and_false, e56]
                      have HKU := Lib.hid hku.below
                      clear hku hall
                      cases q with
                      | false =>
                        go_wp2_with fail
                        go_roundw
                        case rel => exact ⟨j + 1, by omega, by go_num, by rw [HM1.out]; rfl, Lib.hid (below_then HJ.out HKU.out)⟩
                        case measure => simp [intOf]; omega
                      | true =>
                        have hw1 : IntKind.i64.wrap ((n0 : Int) + 1) = ((n0 + 1 : Nat) : Int) := by rw [IntWalk.i64_in _ (by omega)]; omega
                        go_wp2_with fail
                        go_roundw
                        case rel => exact ⟨j + 1, by omega, by go_num, by rw [HM1.out]; rfl, Lib.hid (below_then HJ.out HKU.out)⟩
                        case measure => simp [intOf]; omega
                · obtain rfl : j = N := by omega
                  have dj : decide ((j : Int) < (j : Int)) = false := decide_eq_false (by omega)
                  obtain ⟨n2, hn2⟩ : ∃ n2, n2 = 2 * n0 := ⟨_, rfl⟩
                  obtain ⟨n3, hn3⟩ : ∃ n3, n3 = j - 1 := ⟨_, rfl⟩
                  have hw2 : IntKind.i64.wrap (2 * (n0 : Int)) = (n2 : Int) := by rw [IntWalk.i64_in _ (by omega)]; omega
                  have hw3 : IntKind.i64.wrap ((j : Int) - 1) = (n3 : Int) := by rw [IntWalk.i64_in _ (by omega)]; omega
                  have HFN : Hid (fndM j s H (k + 1) = if n3 < n2 then xo else fndM j s H k) := Lib.hid (by
                    rw [fndM, ← HX.out, ← HN0.out, hn2, hn3]
                    by_cases h : j - 1 < 2 * n0
                    · rw [if_pos ⟨hks, HXI.out.symm, h⟩, if_pos h]
                    · rw [if_neg (fun q => h q.2.2), if_neg h])
                  have HYW := Lib.hid (HY.out.on HJ.out)
                  have HRX := Lib.hid HPW.out.range
                  clear hn2 hn3
                  by_cases h32 : n3 < n2
                  · have d32 : decide ((n3 : Int) < (n2 : Int)) = true := decide_eq_true (by omega)
                    go_wp2_with (first
                      | (refine wpList_load_mid rfl 147 (.tmp 9) rfl g9 0 (by simp [Act.eval, Act.put]) (heL xo) _ HRX.out Try.underlying147 rfl (by rw [size_rhe, heL_len]) ?_)
                      | (refine wpList_store_pin rfl 147 (.tmp 7) (.tmp 64) rfl HYW.out.f (heL xo) (by simp [Act.eval, Act.put]) (by simp [Act.eval, Act.put]) 56 size_rhe (heL_len _) (heL_len _) (heL_one _) ?_; intro w5 p1 b1; have HP5 := Lib.hid p1; have HB5 := Lib.hid b1; clear p1 b1))
                    go_roundw
                    case rel => exact ⟨k + 1, by omega, by go_num, Lib.hid (by rw [HFN.out, if_pos h32]; exact HYW.out.turn HP5.out HB5.out)⟩
                    case measure => simp [intOf]; omega
                  · have d32 : decide ((n3 : Int) < (n2 : Int)) = false := decide_eq_false (by omega)
                    go_wp2_with fail
                    go_roundw
                    case rel => exact ⟨k + 1, by omega, by go_num, Lib.hid (by rw [HFN.out, if_neg h32]; exact HYW.out)⟩
                    case measure => simp [intOf]; omega
        · obtain rfl : k = N := by omega
          have dk : decide ((k : Int) < (k : Int)) = false := decide_eq_false (by omega)
          obtain ⟨xo, hx⟩ : ∃ xo, xo = fndM k s H k := ⟨_, rfl⟩
          rw [← hx] at HU
          have HXV : Hid (V s = xo) := Lib.hid (by rw [HVS.out, hx])
          clear hx
          have HRX := Lib.hid HU.out.f.range
          have HBS := Lib.hid (fun u => run_bsl_one (P := Try.prog) u 72 147 i0 (heL heN) 56 elemRHelds HI.out HZ0.out HZ1.out (heL_len _) (by decide) (by decide) (heL xo) (heL_len _))
          have HOU := Lib.hid (ownsF_on HU.out.r (below_al (Below.refl wr.heap.size wr) (.cells (heL xo).toArray 147)))
          have HNR := Lib.hid (Blk.new wr 147 (heL xo).toArray)
          have HSZ := Lib.hid (show w.heap.size ≤ wr.heap.size + 1 by have := HU.out.b.size; omega)
          have HMM := Lib.hid (show s + 1 ≤ maxLen by unfold maxLen; omega)
          have HMB := Lib.hid (show (s + 1) * 136 ≤ 140737488355328 by omega)
          go_wp2_with (first
            | (refine wpList_load_mid rfl 147 (.tmp 7) rfl g7 0 (by simp [Act.eval, Act.put]) (heL xo) _ HRX.out Try.underlying147 rfl (by rw [size_rhe, heL_len]) ?_)
            | (refine wpList_bsl rfl 72 1 _ rfl #[(0, .agg (heL xo).toArray)] (by simp [Act.eval, Act.put]) _ _ (HBS.out _) ?_)
            | (at_builtin; refine wpList_append_G rfl (.tmp 65) (.tmp 67) 72 rfl w.heap.size 147 i0 _ 56 136 elemRHelds HI.out HZ0.out HZ1.out HZ2.out (by simp [Value.cells, heL_len]) (by decide) A' s c' (hesL V s) (by simp [Act.eval, Act.put]) HOU.out wr.heap.size 1 1 (heL xo) (by simp [Act.eval, Act.put]) HNR.out (heL_len _) (heL_one _) (by decide) HMM.out HMB.out (by simpa using HSZ.out) ?_; intro A2 c2 w2 hO2 hb2 _; have HO2 := Lib.hid hO2; have HB2 := Lib.hid hb2; clear hO2 hb2))
          go_roundw
          case rel =>
            refine ⟨s + 1, by omega, by go_num, A2, c2, rfl, Lib.hid ?_, Lib.hid ((below_al HU.out.b _).trans HB2.out)⟩
            rw [hesL_succ, HXV.out]
            exact HO2.out
          case measure => simp [intOf]; omega
    · obtain rfl : s = N := by omega
      go_wp2_with fail
      go_ret
      exact ⟨A', c', rfl, HO.out, HB.out⟩
end Go.Proofs.Ytdbljggjddnjcaa

