/-
  The contract of the document's answer on slots: what the mathematics says; nothing that was there has turned. Conditions: the config's reading.
-/
import Derived.Test.YtajkpbmjgncbbaaDoorCfRef
namespace Go.Proofs.YtajkpbmjgncbbaaDoor
open Go.RowKit Rg

/-- Which pairs some slots are. -/
def hasL (n : Nat) (l : List Int) : List Bool := (List.range n).map fun (x : Nat) => decide ((x : Int) ∈ l)
theorem hasL_len (n : Nat) (l : List Int) : (hasL n l).length = n := by simp [hasL]
theorem hasL_none (n : Nat) : hasL n [] = List.replicate n false := by
  apply List.ext_getElem
  · simp [hasL]
  · intro i h1 h2; simp [hasL]
theorem hasL_at (n : Nat) (l : List Int) (x : Nat) (h : x < n) : (hasL n l).getD x false = decide ((x : Int) ∈ l) := by
  simp [hasL, List.getD, h]
theorem hasL_snoc (n : Nat) (l : List Int) (s : Nat) : (hasL n l).set s true = hasL n (l ++ [(s : Int)]) := by
  apply List.ext_getElem
  · simp [hasL]
  · intro x h1 h2
    rw [List.getElem_set]
    split
    · rename_i e; subst e; simp [hasL]
    · rename_i e
      have : ¬ (x : Int) = (s : Int) := by omega
      simp [hasL, this]

set_option maxRecDepth 100000 in
set_option maxHeartbeats 1000000 in
theorem refSlots_any (c : Cf) (w : World) (hc : CfIn w c) :
    Calls Tryd.prog 37 #[.agg #[.int .i64 c.N, .slice c.pA c.pn c.pc, .slice c.sA c.sn c.sc, .int .i64 c.L, .slice c.bA c.bn c.bc, .slice c.tA c.tn c.tc, .int .i64 c.M, .int .i64 c.G, .int .i64 c.F]] w fun e w' => e = .returned (.bool (decide (okS c.pn c.S))) ∧ Below w.heap.size w w' := by
  have HL := Lib.hid hc.s.len
  have hfs := hc.few.2.1
  have hfp := hc.few.1
  have HC := Lib.hid hc
  have hmk := fun u => makeBools (c.pn : Int) (by omega) (by omega) u
  simp only [Int.toNat_natCast] at hmk
  clear hc
  have HF1 := Lib.hid (fun k hk h => show decide (okS c.pn c.S) = false from decide_eq_false fun q => by have := okS_first (n := c.pn) (S := c.S) k hk h; rw [slotsE_ok.2 q] at this; cases this)
  have HF2 := Lib.hid (fun k hk h => show decide (okS c.pn c.S) = false from decide_eq_false fun q => by have := okS_second (n := c.pn) (S := c.S) k hk h; rw [slotsE_ok.2 q] at this; cases this)
  go_enter Tryd.func37, Tryd.ntmps37
  go_wp2_with fail
  clear hmk
  go_loopw [4] (fun i wr => ∃ k : Nat, k ≤ c.sn ∧ i = .int .i64 k ∧ Hid (∀ j, j < k → plB c.pn (c.S.getD j 0) = true) ∧ Blk wr w.heap.size 25 #[.int .i64 c.N, .slice c.pA c.pn c.pc, .slice c.sA c.sn c.sc, .int .i64 c.L, .slice c.bA c.bn c.bc, .slice c.tA c.tn c.tc, .int .i64 c.M, .int .i64 c.G, .int .i64 c.F] ∧ Blk wr (w.heap.size + 1) 4 (cellsB (hasL c.pn (c.S.take k))) ∧ Below w.heap.size w wr) (fun i _ => c.sn - (intOf i).toNat)
  case atStart =>
    refine ⟨0, Nat.zero_le _, rfl, Lib.hid fun j hj => absurd hj (by omega), (Blk.new w _ _).alloc _, ?_, below_al (below_al (Below.refl _ _) _) _⟩
    have h := Blk.new (w.alloc (.cells #[.int .i64 c.N, .slice c.pA c.pn c.pc, .slice c.sA c.sn c.sc, .int .i64 c.L, .slice c.bA c.bn c.bc, .slice c.tA c.tn c.tc, .int .i64 c.M, .int .i64 c.G, .int .i64 c.F] 25)) 4 (cellsB (List.replicate c.pn false))
    rw [alloc_size] at h
    rw [List.take_zero, hasL_none]
    exact h
  case round =>
    obtain ⟨k, hk, rfl, ht, hB1, hB2, hb⟩ := hrel
    obtain ⟨k0, k1, k2, k3, k4, k5, k6, k7, k8⟩ := hB1.cf
    by_cases hlt : k < c.sn
    · obtain ⟨b, off, hA, hbl, hcc⟩ := (HC.out.on hb).s.at_ (by omega)
      have hcell := hcc k hlt
      have hix := fun W => idxNums (n := c.sn) c.sc hA hlt W
      have HS := Lib.hid (take_snoc c.S k (by have := HL.out; omega))
      have HF := Lib.hid (HF1.out k (by have := HL.out; omega))
      have HN := Lib.hid (show plB c.pn (c.S.getD k 0) = true → ∀ j, j < k + 1 → plB c.pn (c.S.getD j 0) = true from fun h j hj => by
        rcases Nat.lt_succ_iff_lt_or_eq.1 hj with q | q
        · exact ht.out j q
        · rw [q]; exact h)
      obtain ⟨a, ha⟩ : ∃ a, a = c.S.getD k 0 := ⟨_, rfl⟩
      rw [← ha] at hcell HF HN HS
      clear ha hcc hA
      have hi0 : (0 : Int) ≤ (k : Int) := by omega
      have hi1 : (k : Int) < (c.sn : Int) := by omega
      by_cases ha0 : a < 0
      · have HX := Lib.hid (HF.out (by simp only [plB, decide_eq_false_iff_not]; omega))
        have hd : decide (a < 0) = true := decide_eq_true ha0
        go_wp2_with fail
        go_quiet (fail)
        go_wp2_with fail
        go_ret
        exact ⟨ret_bool HX.out.symm, below_drewN hb _⟩
      · by_cases haN : (c.pn : Int) ≤ a
        · have HX := Lib.hid (HF.out (by simp only [plB, decide_eq_false_iff_not]; omega))
          have ha0' : 0 ≤ a := by omega
          have hd : decide (a < 0) = false := decide_eq_false ha0
          have hd2 : decide ((c.pn : Int) ≤ a) = true := decide_eq_true haN
          clear ha0
          go_wp2_with fail
          go_quiet (fail)
          go_wp2_with fail
          go_ret
          exact ⟨ret_bool HX.out.symm, below_drewN hb _⟩
        · obtain ⟨s, rfl⟩ : ∃ s : Nat, a = s := ⟨a.toNat, by omega⟩
          have hs : s < c.pn := by omega
          have HP := Lib.hid (HN.out (by simp only [plB]; exact decide_eq_true (by omega)))
          have HSN := Lib.hid (hasL_snoc c.pn (c.S.take k) s)
          have hd : decide ((s : Int) < 0) = false := decide_eq_false ha0
          have hd2 : decide ((c.pn : Int) ≤ (s : Int)) = false := decide_eq_false haN
          have hd3 : decide (c.pn ≤ s) = false := decide_eq_false (by omega)
          have hiB := fun W => idxBools (n := c.pn) c.pn (k := s) (b := w.heap.size + 1) (off := 0) rfl hs W
          simp only [Nat.zero_add] at hiB
          have hcB := (hB2.cell s).trans (cellsB_at _ s (by rw [hasL_len]; exact hs))
          have hfr := hB2.frozen
          obtain ⟨tb, htb⟩ : ∃ t, t = (hasL c.pn (c.S.take k)).getD s false := ⟨_, rfl⟩
          rw [← htb] at hcB
          clear htb ha0 haN
          have hS := hB2.set_ s (.bool true)
          rw [cellsB_set, HSN.out, ← HS.out] at hS
          have hD := hB1.far_ (p := ⟨w.heap.size + 1, s, none⟩) (by simp) (.bool true)
          go_wp2_with fail
          go_quiet (fail)
          go_wp2_with fail
          go_roundw
          case rel => exact ⟨k + 1, by omega, by go_num, HP, by first | exact hD | exact hD.drewN _, by first | exact hS | exact hS.drewN _, by first | exact hb.setCell (by simp) _ | exact below_drewN (hb.setCell (by simp) _) _ | exact (below_drewN hb _).setCell (by simp) _⟩
          case measure => simp [intOf]; omega
    · have H1 := Lib.hid (show ∀ j, j < c.S.length → plB c.pn (c.S.getD j 0) = true from fun j hj => ht.out j (by have := HL.out; omega))
      have hB3 : Blk wr (w.heap.size + 1) 4 (cellsB (hasL c.pn c.S)) := by have h := hB2; rw [List.take_of_length_le (by have := HL.out; omega)] at h; exact h
      clear ht hB2
      go_wp2_with fail
      clear k0 k1 k2 k3 k4 k5 k6 k7 k8
      go_loop [5] (fun i => ∃ p : Nat, p ≤ c.pn ∧ i = .int .i64 p ∧ Hid (∀ j, j < p → (j : Int) ∈ c.S)) (fun i => c.pn - (intOf i).toNat)
      case atStart => exact ⟨0, Nat.zero_le _, rfl, Lib.hid fun j hj => absurd hj (by omega)⟩
      case round =>
        obtain ⟨p, hpk, rfl, ht⟩ := hrel
        by_cases hlt2 : p < c.pn
        · have HF := Lib.hid (HF2.out p hlt2)
          have HN := Lib.hid (show (p : Int) ∈ c.S → ∀ j : Nat, j < p + 1 → (j : Int) ∈ c.S from fun h j hj => by
            rcases Nat.lt_succ_iff_lt_or_eq.1 hj with q | q
            · exact ht.out j q
            · rw [q]; exact h)
          have hiB := fun W => idxBools (n := c.pn) c.pn (k := p) (b := w.heap.size + 1) (off := 0) rfl hlt2 W
          simp only [Nat.zero_add] at hiB
          have hcB := (hB3.cell p).trans (cellsB_at _ p (by rw [hasL_len]; exact hlt2))
          rw [hasL_at _ _ _ hlt2] at hcB
          by_cases hp : decide ((p : Int) ∈ c.S) = true
          · have HP := Lib.hid (HN.out (of_decide_eq_true hp))
            rw [hp] at hcB
            clear hp
            go_wp2_with fail
            go_round
            case rel => exact ⟨p + 1, by omega, by go_num, HP⟩
            case measure => simp [intOf]; omega
          · have hp := bfalse hp
            have HX := Lib.hid (HF.out hp)
            rw [hp] at hcB
            clear hp
            go_wp2_with fail
            go_ret
            exact ⟨ret_bool HX.out.symm, hb⟩
        · have HX := Lib.hid (show decide (okS c.pn c.S) = true from decide_eq_true (slotsE_ok.1 (okS_all (n := c.pn) (S := c.S) H1.out fun q hq => ht.out q (by omega))))
          go_wp2_with fail
          go_ret
          exact ⟨ret_bool HX.out.symm, hb⟩
end Go.Proofs.YtajkpbmjgncbbaaDoor

