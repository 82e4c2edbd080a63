/-
  slices.Repeat at int64: as many of the one that was handed in. Condition: at most 65536.
-/
import Derived.Test.YtcangipaoancnaaAs6
import Derived.Laws.CopyOwn
import Derived.Deep.RegionLaw
import Derived.Test.YtcangipaoancnaaRegI
namespace Go.Proofs.Ytcangipaoancnaa
open Go.RowKit
set_option linter.unusedVariables false
set_option linter.unusedSimpArgs false

/-- The first k are -1, the others 0. -/
def repL (M k : Nat) : List Value := (List.range M).map fun j => Value.int .i64 (if j < k then -1 else 0)
theorem repL_len (M k : Nat) : (repL M k).length = M := by simp [repL]
theorem repL_get {M k j : Nat} (hj : j < M) : (repL M k)[j]? = some (.int .i64 (if j < k then -1 else 0)) := by
  simp [repL, hj]
theorem repL_zero (M : Nat) : flL (fun _ => [Value.int .i64 0]) M = repL M 0 := by
  apply List.ext_getElem?
  intro j
  by_cases hj : j < M
  · have h := flL_get (f := fun _ => [Value.int .i64 0]) (m := 1) (fun _ => rfl) hj 0 Nat.one_pos
    rw [show j * 1 + 0 = j by omega] at h
    rw [h, repL_get hj]; rfl
  · rw [List.getElem?_eq_none (by rw [flL_len (m := 1) (fun _ => rfl)]; omega), List.getElem?_eq_none (by rw [repL_len]; omega)]
theorem repL_splice {M k d : Nat} (h : k + d ≤ M) : splice (repL M k) k (List.replicate d (.int .i64 (-1))) = repL M (k + d) := by
  have hL : (List.take k (repL M k)).length = k := by rw [List.length_take, repL_len]; omega
  apply List.ext_getElem?
  intro j
  unfold splice
  by_cases hj : j < M
  · rw [repL_get hj]
    by_cases h1 : j < k
    · rw [List.getElem?_append_left (by rw [hL]; exact h1), List.getElem?_take_of_lt h1, repL_get hj, if_pos h1, if_pos (by omega)]
    · rw [List.getElem?_append_right (by rw [hL]; omega), hL]
      by_cases h2 : j < k + d
      · rw [List.getElem?_append_left (by rw [List.length_replicate]; omega), List.getElem?_replicate, if_pos (by omega), if_pos h2]
      · rw [List.getElem?_append_right (by rw [List.length_replicate]; omega), List.getElem?_drop, List.length_replicate, show k + d + (j - k - d) = j by omega, repL_get hj, if_neg h1, if_neg h2]
  · rw [List.getElem?_eq_none (by rw [List.length_append, List.length_append, hL, List.length_drop, repL_len, List.length_replicate]; omega), List.getElem?_eq_none (by rw [repL_len]; omega)]
theorem repL_all (M : Nat) : repL M M = List.replicate M (.int .i64 (-1)) := by
  apply List.ext_getElem?
  intro j
  by_cases hj : j < M
  · rw [repL_get hj, if_pos hj, List.getElem?_replicate, if_pos hj]
  · rw [List.getElem?_eq_none (by rw [repL_len]; omega), List.getElem?_eq_none (by rw [List.length_replicate]; omega)]
set_option maxRecDepth 100000 in
theorem sizeI64 (w : World) : (sizeOf 2).run Try.prog w = .ok 1 w := by kernel_rfl
set_option maxRecDepth 100000 in
theorem sizeI64i : (Try.prog.info? 2).map (·.size) = some 1 := by kernel_rfl
set_option maxRecDepth 100000 in
theorem headI64 (g off n c h : Nat) (h2 : h ≤ c) (w : World) :
    (Instr.sliceAt 121 (.slice (some ⟨g, off, none⟩) n c) none (some (.int .i64 (h : Int))) none).run Try.prog w = .ok (.slice (some ⟨g, off, none⟩) h c) w := by
  rw [run_sliceAt_slice w _ _ _ _ _ elemI64, run_slice_h w 121 _ n c elemI64 .i64 (h : Int) (by omega) (by omega), show Try.prog.elem 121 = 2 by kernel_rfl, sizeI64]
  simp only [Result.andThen, sliced]
  simp [Addr.add]
set_option maxRecDepth 100000 in
theorem tailI64 (g n c l : Nat) (h1 : l < n) (h2 : n ≤ c) (w : World) :
    (Instr.sliceAt 121 (.slice (some ⟨g, 0, none⟩) n c) (some (.int .i64 (l : Int))) none none).run Try.prog w = .ok (.slice (some ⟨g, l, none⟩) (n - l) (c - l)) w := by
  rw [run_sliceAt_slice w _ _ _ _ _ elemI64, run_slice_l w 121 _ n c elemI64 .i64 (l : Int) (by omega) (by omega), show Try.prog.elem 121 = 2 by kernel_rfl, sizeI64]
  simp only [Result.andThen, sliced]
  simp [Addr.add]
  rw [if_neg (by omega)]
  by_cases h0 : l = 0
  · simp [h0]
  · simp [h0]
set_option maxRecDepth 100000 in
set_option maxHeartbeats 4000000 in
theorem repeat_is (b M : Nat) (hM : 1 ≤ M ∧ M ≤ 65536) (w : World) (hc : w.cell? ⟨b, 0, none⟩ = some (.int .i64 (-1))) :
    Calls Try.prog 72 #[.slice (some ⟨b, 0, none⟩) 1 1, .int .i64 (M : Int)] w fun e w' => ∃ g, e = .returned (.slice (some ⟨g, 0, none⟩) M M) ∧ w.heap.size ≤ g ∧ Blk w' g 2 (List.replicate M (Value.int .i64 (-1))).toArray ∧ Below w.heap.size w w' := by
  obtain ⟨i0, hi0, hz0, hz1, hz2⟩ := info_parts infoI64
  have HI := Lib.hid hi0
  have HZ0 := Lib.hid hz0
  have HZ1 := Lib.hid hz1
  have HZ2 := Lib.hid hz2
  have HM : Hid (Calls Try.prog 93 #[.int .u64 1, .int .u64 (M : Int)] w fun e w' => e = .returned (.tuple #[.int .u64 0, .int .u64 (M : Int)]) ∧ w = w') := Lib.hid (by
    have h := Any.bits_Mul lays212 1 M (by omega) (by omega) w
    rw [show 1 * M / 18446744073709551616 = 0 by omega, show 1 * M % 18446744073709551616 = M by omega] at h
    exact Calls.mono (show Calls Try.prog 93 #[.int .u64 1, .int .u64 (M : Int)] w _ from h) fun e w' q => ⟨q.1, q.2.symm⟩)
  have d0 : decide ((M : Int) < 0) = false := decide_eq_false (by omega)
  have d1 : decide ((9223372036854775807 : Int) < (M : Int)) = false := decide_eq_false (by omega)
  have w1 : IntKind.u64.wrap (M : Int) = (M : Int) := IntWalk.u64_in _ (by omega)
  have w2 : IntKind.i64.wrap (M : Int) = (M : Int) := IntWalk.i64_in _ (by omega)
  have lb := cell_lt' hc
  have HC := Lib.hid hc
  clear hi0 hz0 hz1 hz2 hc
  go_enter Try.func72, Try.ntmps72
  go_upto_region 7 with (first
    | (go_at_call 93; (with_reducible refine HM.out.mono ?_); rintro e u1 ⟨rfl, rfl⟩)
    | (refine wpList_make_flat rfl (.tmp 29) (.tmp 29) 121 rfl 2 i0 _ [.int .i64 0] 8 1 elemI64 HI.out HZ0.out rfl HZ1.out HZ2.out rfl (by decide) M M (by simp [Act.eval]) (by simp [Act.eval]) (Nat.le_refl _) (by omega) (by omega) ?_; intro w3 hB1 hb1 hs1; have HB1 : Hid (Blk w3 w.heap.size 2 (flL (fun _ => [Value.int .i64 0]) M).toArray) := Lib.hid hB1; have Hb1 := Lib.hid hb1; clear hB1 hb1 hs1))
  obtain ⟨G, hG⟩ : ∃ G, G = w.heap.size := ⟨_, rfl⟩
  have HGW := Lib.hid hG
  rw [← hG] at HB1 ⊢
  clear hG
  obtain ⟨W3, hW3⟩ : ∃ W, W = w3 := ⟨_, rfl⟩
  have HCB : Hid (w3.cell? ⟨b, 0, none⟩ = some (.int .i64 (-1))) := Lib.hid ((Hb1.out.cell (p := ⟨b, 0, none⟩) lb).trans HC.out)
  have hcur : w3.heap[G]? = some (.cells (repL M 0).toArray 2 (0, 0)) := by have := HB1.out; rw [repL_zero] at this; exact this
  have HSR : Hid (∀ j v, (List.replicate 1 (Value.int .i64 (-1)))[j]? = some v → w3.cell? ((⟨b, 0, none⟩ : Addr).add j) = some v) := Lib.hid (fun j v hv => by
    cases j with
    | zero => simp at hv; subst hv; rw [Addr.add_mid]; exact HCB.out
    | succ j => simp at hv)
  have HCU := Lib.hid hcur
  have hmn : (List.replicate 1 (Value.int .i64 (-1))).length = Nat.min 1 M := by rw [List.length_replicate]; exact (Nat.min_eq_left hM.1).symm
  have HMN := Lib.hid hmn
  have HFT : Hid (0 + (List.replicate 1 (Value.int .i64 (-1))).length ≤ (repL M 0).length) := Lib.hid (by rw [repL_len, List.length_replicate]; omega)
  have HON : Hid (∀ v ∈ List.replicate 1 (Value.int .i64 (-1)), v.oneCell' = true) := Lib.hid (by intro v hv; rw [List.eq_of_mem_replicate hv]; rfl)
  have HLE : Hid (w.heap.size ≤ G) := Lib.hid (by have := HGW.out; omega)
  clear hcur hmn
  go_upto_region 8 with (refine wpList_copy_splice rfl (.tmp 31) (.tmp 32) 121 121 rfl 2 elemI64 sizeI64i (some ⟨G, 0, none⟩) (some ⟨b, 0, none⟩) M M 1 1 (by simp [Act.eval, Act.put]) (by simp [Act.eval, Act.put]) G 0 (repL M 0) 2 HCU.out (List.replicate 1 (.int .i64 (-1))) HMN.out (fun _ => ⟨rfl, _, rfl, HSR.out⟩) HFT.out HON.out w.heap.size w Hb1.out HLE.out ?_; intro w4 hg4 hb4; have HG4 := Lib.hid (show Blk w4 G 2 (repL M 1).toArray by have := hg4.out; rw [repL_splice (k := 0) (d := 1) (by omega)] at this; exact this); have HB4 := Lib.hid hb4; clear hg4 hb4)
  clear HB1 Hb1 HCB hW3 HCU HMN HFT HON HLE HSR
  go_wp2_with fail
  go_loopw [8] (fun iv wr => ∃ k : Nat, (1 ≤ k ∧ k ≤ M) ∧ iv = .int .i64 (k : Int) ∧ Hid (Blk wr G 2 (repL M k).toArray) ∧ Hid (Below w.heap.size w wr)) (fun iv _ => M - (intOf iv).toNat)
  case atStart => exact ⟨1, ⟨by omega, by omega⟩, by first | rfl | simp [goInt], HG4, HB4⟩
  case round =>
    clear HG4 HB4
    obtain ⟨k, ⟨hk1, hk⟩, rfl, HB, HW⟩ := hrel
    by_cases hlt : k < M
    · have dk : decide ((k : Int) < (M : Int)) = true := decide_eq_true (by omega)
      obtain ⟨d, hd⟩ : ∃ d, d = min k (M - k) := ⟨_, rfl⟩
      have HD : Hid (d = min k (M - k) ∧ 1 ≤ d ∧ k + d ≤ M) := Lib.hid ⟨hd, by omega, by omega⟩
      clear hd
      have hsl1 := fun W => tailI64 G M M k hlt (Nat.le_refl _) W
      have hsl2 := fun W => headI64 G 0 M M k hk W
      have wkd : IntKind.i64.wrap ((k : Int) + (d : Int)) = ((k + d : Nat) : Int) := by rw [IntWalk.i64_in _ (by have := HD.out; omega)]; omega
      have HSRC : Hid (∀ j v, (List.replicate d (Value.int .i64 (-1)))[j]? = some v → wr.cell? ((⟨G, 0, none⟩ : Addr).add j) = some v) := Lib.hid (fun j v hv => by
        have hj : j < d := by have := (List.getElem?_eq_some_iff.1 hv).1; simpa using this
        rw [List.getElem?_replicate, if_pos hj] at hv
        have h2 := HD.out
        rw [Addr.add_mid, HB.out.cell, List.getElem?_toArray, Nat.zero_add, repL_get (by omega), if_pos (by omega)]
        exact hv)
      have HLN : Hid ((List.replicate d (Value.int .i64 (-1))).length = Nat.min k (M - k)) := Lib.hid (by rw [List.length_replicate]; exact HD.out.1)
      have HFT : Hid (k + (List.replicate d (Value.int .i64 (-1))).length ≤ (repL M k).length) := Lib.hid (by rw [repL_len, List.length_replicate]; exact HD.out.2.2)
      have HON : Hid (∀ v ∈ List.replicate d (Value.int .i64 (-1)), v.oneCell' = true) := Lib.hid (by intro v hv; rw [List.eq_of_mem_replicate hv]; rfl)
      have HLE : Hid (w.heap.size ≤ G) := Lib.hid (by have := HGW.out; omega)
      have HLR : Hid (goInt (List.replicate d (Value.int .i64 (-1))).length = .int .i64 (d : Int)) := Lib.hid (by rw [List.length_replicate]; rfl)
      obtain ⟨CS, hCS⟩ : ∃ CS, CS = List.replicate d (Value.int .i64 (-1)) := ⟨_, rfl⟩
      have HCS := Lib.hid hCS
      rw [← hCS] at HSRC HLN HFT HON HLR
      clear hCS
      go_upto_region 9 with fail
      go_region_law (refine step_copy_splice rfl (.tmp 41) (.tmp 44) 121 121 rfl 2 elemI64 sizeI64i (some ⟨G, k, none⟩) (some ⟨G, 0, none⟩) (M - k) (M - k) k M (by simp [Act.eval, Act.put]) (by simp [Act.eval, Act.put]) G k (repL M k) 2 HB.out CS HLN.out (fun _ => ⟨rfl, _, rfl, HSRC.out⟩) HFT.out HON.out w.heap.size w HW.out.drew HLE.out ?_; intro w4 hg4 hb4; rw [HLR.out]; have HG4 := Lib.hid (show Blk w4 G 2 (repL M (k + d)).toArray by have := hg4.out; rw [HCS.out, repL_splice HD.out.2.2] at this; exact this); have HB4 := Lib.hid hb4; clear hg4 hb4)
      all_goals
        simp only [Act.put, List.getElem_toArray, List.getElem_cons_zero, List.getElem_cons_succ, List.setIfInBounds_toArray, List.set_cons_zero, List.set_cons_succ, List.getElem?_toArray]
        go_wp2_with fail
        exact ⟨⟨k + d, by have := HD.out; omega, by simp, HG4, HB4⟩, by have := HD.out; simp [intOf]; omega⟩
    · obtain rfl : M = k := by omega
      have dk : decide ((M : Int) < (M : Int)) = false := decide_eq_false (by omega)
      go_wp2_with fail
      go_ret
      exact ⟨G, rfl, by have := HGW.out; omega, by have := HB.out; rwa [repL_all] at this, HW.out⟩
end Go.Proofs.Ytcangipaoancnaa

