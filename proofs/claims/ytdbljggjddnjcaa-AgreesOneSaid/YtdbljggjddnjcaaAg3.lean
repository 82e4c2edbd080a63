/-
  Package agrees: Agree. Conditions: the rows' readings; the cells' numbers are such as their kinds may be.
-/
import Derived.Test.YtdbljggjddnjcaaAg2
import Derived.Test.YtdbljggjddnjcaaTk4
import Derived.Lib.MinMax
namespace Go.Proofs.Ytdbljggjddnjcaa
open Go.RowKit
set_option linter.unusedVariables false
set_option linter.unusedSimpArgs false

set_option maxRecDepth 100000 in
theorem noneRows (w : World) : (Instr.sliceAt 32 (.slice none 0 0) none (some (.int .i64 0)) none).run Try.prog w = .ok (.slice none 0 0) w := by
  rw [run_sliceAt_slice w _ _ _ _ _ elemRows, run_slice_h w 32 _ 0 0 elemRows .i64 0 (by omega) (by omega), show Try.prog.elem 32 = 54 by kernel_rfl, sizeRows]
  simp [Result.andThen, sliced]
theorem LiesR.less {w : World} {B : Nat} {A : Option Addr} {m q : Nat} {R : Nat → Rw} (h : LiesR w B A m R) (hq : q ≤ m) : LiesR w B A q R := ⟨h.f.less hq, fun i hi => h.t i (by omega)⟩
set_option maxRecDepth 100000 in
theorem agree_bad (n : Int) (h : n < 4 ∨ 16 < n) (v : Value) (w : World) : Calls Try.prog 40 #[.int .i64 n, v] w fun e w' => e = .returned (.slice none 0 0) ∧ w = w' := by
  by_cases h1 : n < 4
  · have d1 : decide (n < 4) = true := decide_eq_true h1
    go_enter Try.func40, Try.ntmps40
    go_wp2_with fail
    go_ret
    exact ⟨rfl, rfl⟩
  · have d1 : decide (n < 4) = false := decide_eq_false h1
    have h2 : 16 < n := by omega
    have d2 : decide (16 < n) = true := decide_eq_true h2
    go_enter Try.func40, Try.ntmps40
    go_wp2_with fail
    go_ret
    exact ⟨rfl, rfl⟩
set_option maxRecDepth 100000 in
set_option maxHeartbeats 4000000 in
theorem agree_is (N : Nat) (hN : 4 ≤ N ∧ N ≤ 16) (A : Option Addr) (m c q : Nat) (hq : q = min N m) (hA : (A = none ∧ m = 0 ∧ c = 0) ∨ ∃ g o, A = some ⟨g, o, none⟩) (hmc : m ≤ c) (hm : m ≤ 9223372036854775807) (R : Nat → Rw) (hRn : ∀ k, k < q → (R k).n ≤ 9223372036854775807) (hW : ∀ s k, s < N → k < q → CeW (tolM s (R k).ro).c) (w : World) (hR : LiesR w w.heap.size A m R) :
    Calls Try.prog 40 #[.int .i64 (N : Int), .slice A m c] w fun e w' => e = .returned (.slice (some ⟨w.heap.size, 0, none⟩) N N) ∧ Blk w' w.heap.size 118 (hesL (fun s => agM N s (fun j => (R j).ro) q) N).toArray ∧ Below w.heap.size w w' := by
  obtain ⟨i0, hi0, hz0, hz1, hz2⟩ := info_parts infoHeld
  have HI := Lib.hid hi0
  have HZ0 := Lib.hid hz0
  have HZ1 := Lib.hid hz1
  have HZ2 := Lib.hid hz2
  have hqm : q ≤ m := by omega
  have hqN : q ≤ N := by omega
  have d1 : decide ((N : Int) < 4) = false := decide_eq_false (by omega)
  have d2 : decide (16 < (N : Int)) = false := decide_eq_false (by omega)
  have hmin : min (N : Int) (m : Int) = (q : Int) := by omega
  have HAG : Hid (∀ u s, s < N → Below w.heap.size w u → Calls Try.prog 62 #[.int .i64 (N : Int), .int .i64 (s : Int), .slice A q c] u fun e w' => e = .returned (.agg (heL (agM N s (fun j => (R j).ro) q)).toArray) ∧ Below u.heap.size u w') := Lib.hid (fun u s hs hu => agreed_is N s hN (by omega) A q c R (by omega) hRn (fun k hk => hW s k hs hk) u ((hR.on hu).less hqm))
  have hsl : ∀ W : World, (Instr.sliceAt 32 (.slice A m c) none (some (.int .i64 (q : Int))) none).run Try.prog W = .ok (.slice A q c) W := by
    intro W
    rcases hA with ⟨rfl, rfl, rfl⟩ | ⟨g, o, rfl⟩
    · obtain rfl : q = 0 := by omega
      exact noneRows W
    · exact headRows g o m c q (by omega) W
  clear hq hW hRn hi0 hz0 hz1 hz2 hR hA
  go_enter Try.func40, Try.ntmps40
  go_upto_region 5 with (refine wpList_make_flat rfl (.tmp 20) (.tmp 20) 52 rfl 118 i0 _ (heL heN) 136 56 elemHelds HI.out HZ0.out rfl HZ1.out HZ2.out (heL_len _) (by decide) N N (by simp [Act.eval]) (by simp [Act.eval]) (Nat.le_refl _) (by omega) (by omega) ?_; intro w1 hB1 hb1 hs1; have HB1 : Hid (Blk w1 w.heap.size 118 (flL (fun _ => heL heN) N).toArray) := Lib.hid hB1; have Hb1 := Lib.hid hb1; clear hB1 hb1 hs1)
  obtain ⟨G, hG⟩ : ∃ G, G = w.heap.size := ⟨_, rfl⟩
  have HG := Lib.hid hG
  rw [← hG] at HB1 ⊢
  clear hG hsl hmin
  go_upto_region 6 with fail
  go_loopw [24] (fun iv wr => ∃ k : Nat, k ≤ N ∧ iv = .int .i64 (k : Int) ∧ ∃ Ls : Nat → List Value, Hid (∀ i, (Ls i).length = 56) ∧ Hid (∀ i, i < k → Ls i = heL (agM N i (fun j => (R j).ro) q)) ∧ Hid (∀ i, k ≤ i → Ls i = heL heN) ∧ Hid (Blk wr G 118 (flL Ls N).toArray) ∧ Hid (Below w.heap.size w wr)) (fun iv _ => N - (intOf iv).toNat)
  case atStart => exact ⟨0, by omega, rfl, _, Lib.hid fun i => heL_len _, Lib.hid fun i hi => absurd hi (by omega), Lib.hid fun i _ => rfl, HB1, Hb1⟩
  case round =>
    clear HB1 Hb1
    obtain ⟨k, hk, rfl, Ls, HLN, HLE, HLZ, HB, HU⟩ := hrel
    by_cases hlt : k < N
    · have dk : decide ((k : Int) < (N : Int)) = true := decide_eq_true (by omega)
      have HP : Hid (PIn wr G (k * 56) 118 (flL Ls k) (flL (fun j => Ls (k + 1 + j)) (N - (k + 1))) (heL heN)) := Lib.hid ⟨by have := HB.out; rw [flL_at _ hlt, HLZ.out k (Nat.le_refl _)] at this; exact this, flL_len HLN.out _⟩
      have hix := fun W => idxHelds (A := some ⟨G, 0, none⟩) (n := N) N rfl hlt W
      simp only [Nat.zero_add] at hix
      obtain ⟨X, hX⟩ : ∃ X, X = agM N k (fun j => (R j).ro) q := ⟨_, rfl⟩
      have HXE := Lib.hid hX
      have HC : Hid (Calls Try.prog 62 #[.int .i64 (N : Int), .int .i64 (k : Int), .slice A q c] wr fun e w' => e = .returned (.agg (heL X).toArray) ∧ Below wr.heap.size wr w') := Lib.hid (by rw [hX]; exact HAG.out wr k hlt HU.out)
      clear hX
      go_wp2_with (first
        | (go_at_call 62; (with_reducible refine HC.out.mono ?_); rintro e w3 ⟨rfl, q1⟩; have Q1 := Lib.hid q1; have HP3 := Lib.hid (HP.out.on q1); have l3 := HP3.out.lt; clear q1)
        | (refine wpList_store_pin rfl 118 (.tmp 33) (.tmp 32) rfl HP3.out (heL X) (by simp [Act.eval, Act.put]) (by simp [Act.eval, Act.put]) 56 size_he (heL_len _) (heL_len _) (heL_one _) ?_; intro w5 p1 b1; have HP5 := Lib.hid p1; have HB5 := Lib.hid b1; clear p1 b1))
      go_roundw
      case rel =>
        refine ⟨k + 1, by omega, by go_num, fun i => if i = k then heL X else Ls i, Lib.hid fun i => ?_, Lib.hid fun i hi => ?_, Lib.hid fun i hi => ?_, Lib.hid ?_, Lib.hid ?_⟩
        · show (if i = k then heL X else Ls i).length = 56
          split
          · exact heL_len _
          · exact HLN.out i
        · show (if i = k then heL X else Ls i) = _
          by_cases e : i = k
          · subst e; rw [if_pos rfl, HXE.out]
          · rw [if_neg e]; exact HLE.out i (by omega)
        · show (if i = k then heL X else Ls i) = _
          rw [if_neg (by omega)]; exact HLZ.out i (by omega)
        · rw [← flL_upd Ls k (heL X) hlt]; exact HP5.out.blk
        · exact (below_then HU.out Q1.out).trans (HB5.out.low (by rw [HG.out]; exact Nat.le_refl _))
      case measure => simp [intOf]; omega
    · obtain rfl : k = N := by omega
      go_wp2_with fail
      go_ret
      have h1 := HB.out
      have h2 := HU.out
      rw [← HG.out] at h2 ⊢
      refine ⟨rfl, ?_, h2⟩
      rw [show hesL (fun s => agM k s (fun j => (R j).ro) q) k = flL Ls k from (flL_congr fun i hi => (HLE.out i hi)).symm]
      exact h1
end Go.Proofs.Ytdbljggjddnjcaa

