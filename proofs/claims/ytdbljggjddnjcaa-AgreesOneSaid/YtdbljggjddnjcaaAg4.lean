/-
  Package agrees: Table; the law's word of a row that has a cell at one place. Conditions: the rows' readings.
-/
import Derived.Test.YtdbljggjddnjcaaAg3
namespace Go.Proofs.Ytdbljggjddnjcaa
open Go.RowKit
set_option linter.unusedVariables false
set_option linter.unusedSimpArgs false

/-- The table's entry of a row. -/
def tblM (r : Ro) : He := ⟨r.b, r.c⟩
set_option maxRecDepth 100000 in
theorem built_heldB (b : Bool) (c : Ce) : (Try.prog).built 118 [(0, .bool b), (1, .agg (ceL c).toArray)] = some (heL ⟨b, c⟩).toArray := by
  obtain ⟨x, o, r, ⟨v1, v2, v3, v4, v5, y, z⟩⟩ := c
  obtain ⟨_, _, _, _, _, _, _, _, rfl⟩ := vec8 v1
  obtain ⟨_, _, _, _, _, _, _, _, rfl⟩ := vec8 v2
  obtain ⟨_, _, _, _, _, _, _, _, rfl⟩ := vec8 v3
  obtain ⟨_, _, _, _, _, _, _, _, rfl⟩ := vec8 v4
  obtain ⟨_, _, _, _, _, _, _, _, rfl⟩ := vec8 v5
  kernel_rfl
theorem built_heldC (c : Ce) : (Try.prog).built 118 [(0, .bool true), (1, .agg (ceL c).toArray)] = some (heL ⟨true, c⟩).toArray := built_heldB true c
set_option maxRecDepth 100000 in
set_option maxHeartbeats 4000000 in
theorem table_is (A : Option Addr) (m c : Nat) (hm : m ≤ 65536) (R : Nat → Rw) (w : World) (hR : LiesR w w.heap.size A m R) :
    Calls Try.prog 39 #[.slice A m c] w fun e w' => e = .returned (.slice (some ⟨w.heap.size, 0, none⟩) m m) ∧ Blk w' w.heap.size 118 (hesL (fun k => tblM (R k).ro) m).toArray ∧ Below w.heap.size w w' := by
  obtain ⟨i0, hi0, hz0, hz1, hz2⟩ := info_parts infoHeld
  have HI := Lib.hid hi0
  have HZ0 := Lib.hid hz0
  have HZ1 := Lib.hid hz1
  have HZ2 := Lib.hid hz2
  have HR := Lib.hid hR
  clear hi0 hz0 hz1 hz2 hR
  go_enter Try.func39, Try.ntmps39
  go_upto_region 2 with (refine wpList_make_flat rfl (.tmp 7) (.tmp 7) 52 rfl 118 i0 _ (heL heN) 136 56 elemHelds HI.out HZ0.out rfl HZ1.out HZ2.out (heL_len _) (by decide) m m (by simp [Act.eval]) (by simp [Act.eval]) (Nat.le_refl _) (by omega) (by omega) ?_; intro w1 hB1 hb1 hs1; have HB1 : Hid (Blk w1 w.heap.size 118 (flL (fun _ => heL heN) m).toArray) := Lib.hid hB1; have Hb1 := Lib.hid hb1; clear hB1 hb1 hs1)
  obtain ⟨G, hG⟩ : ∃ G, G = w.heap.size := ⟨_, rfl⟩
  have HG := Lib.hid hG
  rw [← hG] at HB1 ⊢
  clear hG
  go_upto_region 3 with fail
  go_loopw [11] (fun iv wr => ∃ k : Nat, k ≤ m ∧ iv = .int .i64 (k : Int) ∧ ∃ Ls : Nat → List Value, Hid (∀ i, (Ls i).length = 56) ∧ Hid (∀ i, i < k → Ls i = heL (tblM (R i).ro)) ∧ Hid (∀ i, k ≤ i → Ls i = heL heN) ∧ Hid (Blk wr G 118 (flL Ls m).toArray) ∧ Hid (Below w.heap.size w wr)) (fun iv _ => m - (intOf iv).toNat)
  case atStart => exact ⟨0, by omega, rfl, _, Lib.hid fun i => heL_len _, Lib.hid fun i hi => absurd hi (by omega), Lib.hid fun i _ => rfl, HB1, Hb1⟩
  case round =>
    clear HB1 Hb1
    obtain ⟨k, hk, rfl, Ls, HLN, HLE, HLZ, HB, HU⟩ := hrel
    by_cases hlt : k < m
    · obtain ⟨ba, oa, rfl, hba, hca⟩ := (HR.out.on HU.out).f (by omega)
      have HRG := Lib.hid (hca k hlt)
      have hix := fun W => idxRows (A := some ⟨ba, oa, none⟩) (n := m) c rfl hlt W
      have dk : decide ((k : Int) < (m : Int)) = true := decide_eq_true (by omega)
      have HZN : Hid (∀ Z : Array Value, Z.size = 57 → PIn (wr.alloc (.cells Z 54)) wr.heap.size 0 54 [] [] Z.toList ∧ Z.toList.length = 57) := Lib.hid (fun Z hZ => ⟨Blk.pin (by simpa using Blk.new wr 54 Z), by simpa using hZ⟩)
      have hgl := HB.out.lt
      clear hca
      go_upto_region 5 with (first
        | (refine wpList_load_mid rfl 54 (.tmp 14) rfl ba (oa + k * 57) (by simp [Act.eval, Act.put]) (R k).l _ HRG.out Try.underlying54 rfl (by rw [size_row, Rw.l_len]) ?_)
        | (refine wpList_store_pin rfl 54 (.tmp 5) (.tmp 15) rfl (HZN.out _ rfl).1 (R k).l (by simp [Act.eval, Act.put]) (by simp [Act.eval, Act.put]) 57 size_row (HZN.out _ rfl).2 (Rw.l_len _) (roL_one _ _ _ _ _) ?_; intro w2 p1 b1; have HP1 := Lib.hid p1; have HB1 := Lib.hid b1; clear p1 b1))
      refine wp_at (fun V => Blk V G 118 (flL Ls m).toArray ∧ Below w.heap.size w V ∧ Blk V wr.heap.size 54 (R k).l.toArray ∧ G < wr.heap.size) ⟨HB1.out.blk (HB.out.alloc _) (by omega), (below_al HU.out _).trans (HB1.out.low HU.out.size), HP1.out.blk_, hgl⟩ ?_
      rintro V ⟨v1, v2, v3, v4⟩
      obtain ⟨g5, hg5⟩ : ∃ g5, g5 = wr.heap.size := ⟨_, rfl⟩
      rw [← hg5] at v3 v4 ⊢
      have V1 := Lib.hid v1
      have V2 := Lib.hid v2
      have V3 := Lib.hid v3
      have c0 : V.cell? ⟨g5, 0, none⟩ = some (.bool (R k).b) := v3.cell 0
      have l0 := v3.lt
      have lG := v1.lt
      clear v1 v2 v3 hg5 HZN HP1 HB1 HRG hix hgl
      obtain ⟨b, hb⟩ : ∃ b, b = (R k).b := ⟨_, rfl⟩
      rw [← hb] at c0
      have HTB : Hid (tblM (R k).ro = ⟨b, (R k).c⟩) := Lib.hid (by rw [hb]; rfl)
      have HP : Hid (PIn V G (k * 56) 118 (flL Ls k) (flL (fun j => Ls (k + 1 + j)) (m - (k + 1))) (heL heN)) := Lib.hid ⟨by have := V1.out; rw [flL_at _ hlt, HLZ.out k (Nat.le_refl _)] at this; exact this, flL_len HLN.out _⟩
      have hix := fun W => idxHelds (A := some ⟨G, 0, none⟩) (n := m) m rfl hlt W
      simp only [Nat.zero_add] at hix
      have HBH := Lib.hid (built_heldB b (R k).c)
      have HRC := Lib.hid V3.out.rowCell
      clear hb
      go_wp2_with (first
        | (refine wpList_load_mid rfl 51 (.tmp 20) rfl g5 1 (by simp [Act.eval, Act.put]) (ceL (R k).c) _ HRC.out Try.underlying51 rfl (by rw [size_ce, ceL_len]) ?_)
        | (refine wpList_build rfl 118 _ rfl (heL ⟨b, (R k).c⟩).toArray (by simpa [Act.eval, Act.put] using HBH.out) ?_)
        | (refine wpList_store_pin rfl 118 (.tmp 23) (.tmp 22) rfl HP.out (heL ⟨b, (R k).c⟩) (by simp [Act.eval, Act.put]) (by simp [Act.eval, Act.put]) 56 size_he (heL_len _) (heL_len _) (heL_one _) ?_; intro w5 p1 b1; have HP5 := Lib.hid p1; have HB5 := Lib.hid b1; clear p1 b1))
      go_roundw
      case rel =>
        refine ⟨k + 1, by omega, by go_num, fun i => if i = k then heL ⟨b, (R k).c⟩ else Ls i, Lib.hid fun i => ?_, Lib.hid fun i hi => ?_, Lib.hid fun i hi => ?_, Lib.hid ?_, Lib.hid ?_⟩
        · show (if i = k then heL ⟨b, (R k).c⟩ else Ls i).length = 56
          split
          · exact heL_len _
          · exact HLN.out i
        · show (if i = k then heL ⟨b, (R k).c⟩ else Ls i) = _
          by_cases e : i = k
          · subst e; rw [if_pos rfl, HTB.out]
          · rw [if_neg e]; exact HLE.out i (by omega)
        · show (if i = k then heL ⟨b, (R k).c⟩ else Ls i) = _
          rw [if_neg (by omega)]; exact HLZ.out i (by omega)
        · rw [← flL_upd Ls k _ hlt]; exact HP5.out.blk
        · exact V2.out.trans (HB5.out.low (by rw [HG.out]; exact Nat.le_refl _))
      case measure => simp [intOf]; omega
    · obtain rfl : k = m := by omega
      go_wp2_with fail
      go_ret
      have h1 := HB.out
      have h2 := HU.out
      rw [← HG.out] at h2 ⊢
      refine ⟨rfl, ?_, h2⟩
      rw [show hesL (fun j => tblM (R j).ro) k = flL Ls k from (flL_congr fun i hi => (HLE.out i hi)).symm]
      exact h1

end Go.Proofs.Ytdbljggjddnjcaa

