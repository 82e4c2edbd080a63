/-
  The contract of the reference's Read. Conditions: the slice's reading, a length of at most 65536 within the capacity.
-/
import Derived.Test.YtkjdlcobidglcaaFr9
namespace Go.Proofs.Ytkjdlcobidglcaa
open Go.RowKit Crc

theorem refRead_len (A : Option Addr) (n c : Nat) (w : World) (h : n ≠ 114) :
    Calls Try.prog 31 #[.slice A n c] w fun e w' => e = .returned (.tuple #[.agg #[.int .i64 Fr.zero.o, .int .u8 Fr.zero.k, .int .u8 Fr.zero.s, .int .u32 Fr.zero.q, .int .u32 Fr.zero.v], .agg #[.bool false, .bool false], .int .i64 4]) ∧ Below w.heap.size w w' := by
  have hne : ((n : Int) == 114) = false := beq_eq_false_iff_ne.2 (by omega)
  go_enter Try.func31, Try.ntmps31
  go_wp2_with fail
  refine bodyPost_ret (v := .tuple #[.agg #[.int .i64 0, .int .u8 0, .int .u8 0, .int .u32 0, .int .u32 0], .agg #[.bool false, .bool false], .int .i64 4]) (by simp [results, Try.results31, go_sem]) rfl ⟨rfl, ?_⟩
  exact below_al (below_al (Below.refl _ _) _) _
theorem refRead_whole (A : Option Addr) (c : Nat) (xs : List Int) (w : World) (hx : Lies .u8 w w.heap.size A 114 xs) (h : wholeL xs = false) :
    Calls Try.prog 31 #[.slice A 114 c] w fun e w' => e = .returned (.tuple #[.agg #[.int .i64 Fr.zero.o, .int .u8 Fr.zero.k, .int .u8 Fr.zero.s, .int .u32 Fr.zero.q, .int .u32 Fr.zero.v], .agg #[.bool false, .bool false], .int .i64 4]) ∧ Below w.heap.size w w' := by
  have HW := Lib.hid (fun u (hu : Lies .u8 u u.heap.size A 114 xs) => refWhole_any A 114 c xs u hu (by omega))
  rw [h] at HW
  have hx2 := (hx.al (.cells #[.int .i64 0, .int .u8 0, .int .u8 0, .int .u32 0, .int .u32 0] 28)).al (.cells #[.bool false, .bool false] 39)
  clear h
  go_enter Try.func31, Try.ntmps31
  go_wp2_with (go_at_call 51; with_reducible refine (HW.out _ hx2).mono ?_; rintro e w1 ⟨rfl, rfl⟩)
  refine bodyPost_ret (v := .tuple #[.agg #[.int .i64 0, .int .u8 0, .int .u8 0, .int .u32 0, .int .u32 0], .agg #[.bool false, .bool false], .int .i64 4]) (by simp [results, Try.results31, go_sem]) rfl ⟨rfl, ?_⟩
  exact below_al (below_al (Below.refl _ _) _) _

set_option maxRecDepth 100000 in
set_option maxHeartbeats 4000000 in
theorem refRead_sound (A : Option Addr) (c : Nat) (xs : List Int) (w : World) (hx : Lies .u8 w w.heap.size A 114 xs) (hc : 114 ≤ c) (h : wholeL xs = true) :
    Calls Try.prog 31 #[.slice A 114 c] w fun e w' => e = .returned (.tuple #[.agg #[.int .i64 (readF xs).o, .int .u8 (readF xs).k, .int .u8 (readF xs).s, .int .u32 (readF xs).q, .int .u32 (readF xs).v], .agg #[.bool (readA xs), .bool (readB xs)], .int .i64 (readE xs)]) ∧ Below w.heap.size w w' := by
  have hl := hx.len
  have hok : readOk xs = true := by simp [readOk, hl, h]
  obtain ⟨hE, hF, hA, hB⟩ := read_yes hok
  rw [hE, hF, hA, hB]
  have HW := Lib.hid (fun u (hu : Lies .u8 u u.heap.size A 114 xs) => refWhole_any A 114 c xs u hu (by omega))
  rw [h] at HW
  have hw2 := wholeL_take xs 112 h
  have hl2 : (xs.take 112).length = 112 := by simp [hl]
  have HBY := Lib.hid (fun u (hu : Lies .u8 u u.heap.size A 112 (xs.take 112)) => refBytes_owns A 112 c (xs.take 112) u hu (by omega) (by omega) (by simp [bytesOk, hl2, hw2]))
  simp only [show 112 / 8 = 14 from rfl] at HBY
  have HBB := Lib.hid (bytesL_bd _ hw2)
  have HBL := Lib.hid (show (bytesL (xs.take 112)).length = 14 by rw [bytesL_length, hl2])
  obtain ⟨L, hL⟩ : ∃ L, L = bytesL (xs.take 112) := ⟨_, rfl⟩
  rw [← hL] at HBY HBB HBL ⊢
  have HGT := Lib.hid (fun u B C (hu : Lies .u8 u u.heap.size B 14 L) (hC : 14 ≤ C) => refGet_any B 14 C L u hu HBB.out hC)
  obtain ⟨F, hF0⟩ : ∃ F, F = getF L := ⟨_, rfl⟩
  obtain ⟨E, hE0⟩ : ∃ E, E = getE L := ⟨_, rfl⟩
  rw [← hF0, ← hE0] at HGT ⊢
  obtain ⟨ta, hta⟩ : ∃ ta, ta = (xs.getD 112 0 == 2) := ⟨_, rfl⟩
  obtain ⟨tb, htb⟩ : ∃ tb, tb = (xs.getD 113 0 == 2) := ⟨_, rfl⟩
  rw [← hta, ← htb]
  have HTA := Lib.hid hta.symm
  have HTB := Lib.hid htb.symm
  obtain ⟨b, off, rfl, hbl, hcell⟩ := hx.at_ (by omega)
  have HBL0 := Lib.hid hbl
  have HC112 := Lib.hid (hcell 112 (by omega))
  have HC113 := Lib.hid (hcell 113 (by omega))
  obtain ⟨x112, h112⟩ : ∃ x, x = xs.getD 112 0 := ⟨_, rfl⟩
  obtain ⟨x113, h113⟩ : ∃ x, x = xs.getD 113 0 := ⟨_, rfl⟩
  rw [← h112] at HC112 HTA
  rw [← h113] at HC113 HTB
  have hx2 := (hx.al (.cells #[.int .i64 0, .int .u8 0, .int .u8 0, .int .u32 0, .int .u32 0] 28)).al (.cells #[.bool false, .bool false] 39)
  have hs1 := fun W => uptoSyms (some ⟨b, off, none⟩) 114 c 112 (by omega) (by omega) W
  rw [show (112 : Int).toNat = 112 from rfl] at hs1
  clear hta htb h112 h113 hcell hbl hF0 hE0 hL hw2 hl2 hok hE hF hA hB h hl
  go_enter Try.func31, Try.ntmps31
  go_wp2_with (first
    | (go_at_call 51; with_reducible refine (HW.out _ hx2).mono ?_; rintro e w1 ⟨rfl, rfl⟩)
    | (go_at_call 52; with_reducible refine (HBY.out _ (hx2.head (by omega))).mono ?_; rintro e w2 ⟨A2, c2, rfl, hown2, hb2⟩; have hl2 := lies_of_owns hown2; have hcp2 := owns_cap hown2)
    | (go_at_call 26; with_reducible refine (HGT.out _ _ _ hl2 hcp2).mono ?_; rintro e w3 ⟨rfl, hb3⟩))
  obtain ⟨wz, hwz⟩ : ∃ wz, wz = w3.alloc (.cells #[.int .i64 F.o, .int .u8 F.k, .int .u8 F.s, .int .u32 F.q, .int .u32 F.v] 28) := ⟨_, rfl⟩
  have hb23 := below_then hb2 hb3
  have hb4 := below_al hb23 (.cells #[.int .i64 F.o, .int .u8 F.k, .int .u8 F.s, .int .u32 F.q, .int .u32 F.v] 28)
  have hbw := below_then (below_al (below_al (Below.refl w.heap.size w) (.cells #[.int .i64 0, .int .u8 0, .int .u8 0, .int .u32 0, .int .u32 0] 28)) (.cells #[.bool false, .bool false] 39)) hb4
  have hT := Blk.new (w.alloc (.cells #[.int .i64 0, .int .u8 0, .int .u8 0, .int .u32 0, .int .u32 0] 28)) 39 #[.bool false, .bool false]
  rw [alloc_size] at hT
  have HJ5 := Lib.hid (show has5 w.heap.size 28 wz from ⟨_, _, _, _, _, by rw [hwz]; exact ((Blk.new w 28 #[.int .i64 0, .int .u8 0, .int .u8 0, .int .u32 0, .int .u32 0]).alloc (.cells #[.bool false, .bool false] 39)).on hb4⟩)
  have HJ2 := Lib.hid (show has2 (w.heap.size + 1) 39 wz from ⟨_, _, by rw [hwz]; exact hT.on hb4⟩)
  have HB7 := Lib.hid (show Blk wz w3.heap.size 28 #[.int .i64 F.o, .int .u8 F.k, .int .u8 F.s, .int .u32 F.q, .int .u32 F.v] by rw [hwz]; exact Blk.new _ _ _)
  have HG7 := Lib.hid (show w.heap.size + 1 < w3.heap.size from (hT.on hb23).lt)
  rw [← hwz] at hbw ⊢
  have HZ := Lib.hid hbw.size
  have HBW := Lib.hid hbw
  have HJ := Lib.hid (grow52 w.heap.size (w.heap.size + 1) 28 39 F ta tb)
  clear hwz hb23 hb4 hbw hT hb2 hb3 hown2 hl2 hcp2 hx2 hx HW HBY HGT
  refine Reg.wp_slots2 (fun t => t == 4 || decide (30 ≤ t)) (Reg.KJ w.heap.size [w.heap.size, w.heap.size + 1] [has5 w.heap.size 28, is5 w.heap.size 28 F, has2 (w.heap.size + 1) 39, is2 (w.heap.size + 1) 39 ta tb]) (Reg.KJ.drew _ HJ.out) Reg.KJ.trans (by kernel_rfl) (by kernel_rfl) (by kernel_rfl) (fun zz => (Reg.tblK [
    (30, .is (.agg #[.int .i64 F.o, .int .u8 F.k, .int .u8 F.s, .int .u32 F.q, .int .u32 F.v])),
    (31, .is (.slice (some ⟨b, off, none⟩) 114 c)),
    (32, .is (.pointer (some ⟨b, off + 112, none⟩))),
    (33, .is (.int .u8 x112)),
    (34, .is (.bool ta)),
    (35, .is (.slice (some ⟨b, off, none⟩) 114 c)),
    (36, .is (.pointer (some ⟨b, off + 113, none⟩))),
    (37, .is (.int .u8 x113)),
    (38, .is (.bool tb)),
    (39, .is (.agg #[.bool ta, .bool tb])),
    (40, .is (.int .i64 E)),
    (4, .is (.int .i64 E))] zz).P) (fun zz => (Reg.tblK _ zz).on) (fun zz => (Reg.memK [(11, .j (is5 w.heap.size 28 F) (by simp)), (12, .j (is2 (w.heap.size + 1) 39 ta tb) (by simp))] zz).P) (fun zz => (Reg.memK _ zz).on) ?_ ?_
  · simp only [Reg.frame, Reg.over, Nat.reduceAdd, Nat.reduceBEq, Nat.reduceLeDiff, decide_true, decide_false, Bool.or_true, Bool.or_false, if_true, Bool.false_eq_true, if_false]
    refine ⟨?_, ?_, ?_, ?_, ?_, ?_, ?_, ?_, ?_, ?_, ?_, ?_, ?_, ?_, trivial⟩
    · intro x u hku hd
      have hB := hku.blk (by have := HG7.out; simp; omega) HB7.out
      have c0 := hB.cell 0
      have c1 := hB.cell 1
      have c2 := hB.cell 2
      have c3 := hB.cell 3
      have c4 := hB.cell 4
      simp only [List.getElem?_toArray, List.getElem?_cons_zero, List.getElem?_cons_succ] at c0 c1 c2 c3 c4
      have hlt := hB.lt
      refine wpOp_step rfl fun KK hK => ?_
      go_simp
      exact hK _ _ ⟨_, rfl, Reg.KJ.refl _, fun d hd => by cases hd; exact rfl, fun h => by cases h⟩
    · intro x u hku hd
      refine wpOp_step rfl fun KK hK => ?_
      go_simp
      exact hK _ _ ⟨_, rfl, Reg.KJ.refl _, fun d hd => by cases hd; exact rfl, fun h => by cases h⟩
    · intro x u hku hd
      have h31 : x 31 = .slice (some ⟨b, off, none⟩) 114 c := hd 1 (by decide)
      refine wpOp_step rfl fun KK hK => ?_
      simp only [h31] at hK ⊢
      go_simp
      exact hK _ _ ⟨_, rfl, Reg.KJ.refl _, fun d hd => by cases hd; exact rfl, fun h => by cases h⟩
    · intro x u hku hd
      have h32 : x 32 = .pointer (some ⟨b, off + 112, none⟩) := hd 2 (by decide)
      have e112 := ((HBW.out.trans hku.1).cell (p := ⟨b, off + 112, none⟩) HBL0.out).trans HC112.out
      refine wpOp_step rfl fun KK hK => ?_
      simp only [h32] at hK ⊢
      go_simp
      exact hK _ _ ⟨_, rfl, Reg.KJ.refl _, fun d hd => by cases hd; exact rfl, fun h => by cases h⟩
    · intro x u hku hd
      have h33 : x 33 = .int .u8 x112 := hd 3 (by decide)
      refine wpOp_step rfl fun KK hK => ?_
      simp only [h33] at hK ⊢
      go_simp
      exact hK _ _ ⟨_, rfl, Reg.KJ.refl _, fun d hd => by cases hd; exact congrArg Value.bool HTA.out, fun h => by cases h⟩
    · intro x u hku hd
      refine wpOp_step rfl fun KK hK => ?_
      go_simp
      exact hK _ _ ⟨_, rfl, Reg.KJ.refl _, fun d hd => by cases hd; exact rfl, fun h => by cases h⟩
    · intro x u hku hd
      have h35 : x 35 = .slice (some ⟨b, off, none⟩) 114 c := hd 5 (by decide)
      refine wpOp_step rfl fun KK hK => ?_
      simp only [h35] at hK ⊢
      go_simp
      exact hK _ _ ⟨_, rfl, Reg.KJ.refl _, fun d hd => by cases hd; exact rfl, fun h => by cases h⟩
    · intro x u hku hd
      have h36 : x 36 = .pointer (some ⟨b, off + 113, none⟩) := hd 6 (by decide)
      have e113 := ((HBW.out.trans hku.1).cell (p := ⟨b, off + 113, none⟩) HBL0.out).trans HC113.out
      refine wpOp_step rfl fun KK hK => ?_
      simp only [h36] at hK ⊢
      go_simp
      exact hK _ _ ⟨_, rfl, Reg.KJ.refl _, fun d hd => by cases hd; exact rfl, fun h => by cases h⟩
    · intro x u hku hd
      have h37 : x 37 = .int .u8 x113 := hd 7 (by decide)
      refine wpOp_step rfl fun KK hK => ?_
      simp only [h37] at hK ⊢
      go_simp
      exact hK _ _ ⟨_, rfl, Reg.KJ.refl _, fun d hd => by cases hd; exact congrArg Value.bool HTB.out, fun h => by cases h⟩
    · intro x u hku hd
      have h34 : x 34 = .bool ta := hd 4 (by decide)
      have h38 : x 38 = .bool tb := hd 8 (by decide)
      refine wpOp_step rfl fun KK hK => ?_
      simp only [h34, h38] at hK ⊢
      go_simp
      exact hK _ _ ⟨_, rfl, Reg.KJ.refl _, fun d hd => by cases hd; exact rfl, fun h => by cases h⟩
    · intro x u hku hd
      refine wpOp_step rfl fun KK hK => ?_
      go_simp
      exact hK _ _ ⟨_, rfl, Reg.KJ.refl _, fun d hd => by cases hd; exact rfl, fun h => by cases h⟩
    · intro x u hku hd
      have h30 : x 30 = .agg #[.int .i64 F.o, .int .u8 F.k, .int .u8 F.s, .int .u32 F.q, .int .u32 F.v] := hd 0 (by decide)
      obtain ⟨v0, v1, v2, v3, v4, hB⟩ := hku.j (has5 w.heap.size 28) (by simp) HJ5.out
      have c0 := hB.cell 0
      have f0 := hB.frozen 0
      have c1 := hB.cell 1
      have f1 := hB.frozen 1
      have c2 := hB.cell 2
      have f2 := hB.frozen 2
      have c3 := hB.cell 3
      have f3 := hB.frozen 3
      have c4 := hB.cell 4
      have f4 := hB.frozen 4
      simp only [List.getElem?_toArray, List.getElem?_cons_zero, List.getElem?_cons_succ] at c0 c1 c2 c3 c4
      have hlt := hB.lt
      have HFIN := Lib.hid (hB.five F)
      clear hB
      refine wpOp_step rfl fun KK hK => ?_
      simp only [h30] at hK ⊢
      go_simp
      exact hK _ _ ⟨undef, rfl, Reg.KJ.five (Nat.le_refl _) (by simp) (by simp only [List.forall_mem_cons]; exact ⟨fun _ => HFIN.out.has, fun _ => HFIN.out, fun h => h.five (by omega), fun h => h.five (by omega), fun _ h => by cases h⟩), fun d hd => (by cases hd), fun _ => HFIN.out⟩
    · intro x u hku hd
      have h39 : x 39 = .agg #[.bool ta, .bool tb] := hd 9 (by decide)
      obtain ⟨v0, v1, hB⟩ := hku.j (has2 (w.heap.size + 1) 39) (by simp) HJ2.out
      have c0 := hB.cell 0
      have f0 := hB.frozen 0
      have c1 := hB.cell 1
      have f1 := hB.frozen 1
      simp only [List.getElem?_toArray, List.getElem?_cons_zero, List.getElem?_cons_succ] at c0 c1
      have hlt := hB.lt
      have HFIN := Lib.hid (hB.two ta tb)
      clear hB
      refine wpOp_step rfl fun KK hK => ?_
      simp only [h39] at hK ⊢
      go_simp
      exact hK _ _ ⟨undef, rfl, Reg.KJ.two (by omega) (by simp) (by simp only [List.forall_mem_cons]; exact ⟨fun h => h.two (by omega), fun h => h.two (by omega), fun _ => HFIN.out.has, fun _ => HFIN.out, fun _ h => by cases h⟩), fun d hd => (by cases hd), fun _ => HFIN.out⟩
    · intro x u hku hd
      have h40 : x 40 = .int .i64 E := hd 10 (by decide)
      refine wpOp_step rfl fun KK hK => ?_
      simp only [h40] at hK ⊢
      go_simp
      exact hK _ _ ⟨_, rfl, Reg.KJ.refl _, fun d hd => by cases hd; exact rfl, fun h => by cases h⟩
  · intro x u hku hall
    have h4 : x 4 = .int .i64 E := hall 13 (by decide)
    have m5 : is5 w.heap.size 28 F u := hall 11 (by decide)
    have m2 : is2 (w.heap.size + 1) 39 ta tb u := hall 12 (by decide)
    have c0 := m5.cell 0
    have c1 := m5.cell 1
    have c2 := m5.cell 2
    have c3 := m5.cell 3
    have c4 := m5.cell 4
    have d0 := m2.cell 0
    have d1 := m2.cell 1
    simp only [List.getElem?_toArray, List.getElem?_cons_zero, List.getElem?_cons_succ] at c0 c1 c2 c3 c4 d0 d1
    simp only [Reg.frame, Reg.over, Nat.reduceAdd, Nat.reduceBEq, Nat.reduceLeDiff, decide_true, decide_false, Bool.or_true, Bool.or_false, if_true, Bool.false_eq_true, if_false, h4]
    go_wp2_with fail
    refine bodyPost_ret (v := .tuple #[.agg #[.int .i64 F.o, .int .u8 F.k, .int .u8 F.s, .int .u32 F.q, .int .u32 F.v], .agg #[.bool ta, .bool tb], .int .i64 E]) (by simp [results, Try.results31, go_sem, c0, c1, c2, c3, c4, d0, d1]) rfl ⟨rfl, ?_⟩
    exact HBW.out.trans hku.1

theorem refRead_any (A : Option Addr) (n c : Nat) (xs : List Int) (w : World) (hx : Lies .u8 w w.heap.size A n xs) (hc : n ≤ c) :
    Calls Try.prog 31 #[.slice A n c] w fun e w' => e = .returned (.tuple #[.agg #[.int .i64 (readF xs).o, .int .u8 (readF xs).k, .int .u8 (readF xs).s, .int .u32 (readF xs).q, .int .u32 (readF xs).v], .agg #[.bool (readA xs), .bool (readB xs)], .int .i64 (readE xs)]) ∧ Below w.heap.size w w' := by
  have hl := hx.len
  by_cases hn : n = 114
  · subst hn
    by_cases h : wholeL xs = true
    · exact refRead_sound A c xs w hx hc h
    · have h' : wholeL xs = false := by simpa using h
      obtain ⟨e1, e2, e3, e4⟩ := read_no (xs := xs) (by simp [readOk, h'])
      rw [e1, e2, e3, e4]
      exact refRead_whole A c xs w hx h'
  · obtain ⟨e1, e2, e3, e4⟩ := read_no (xs := xs) (by simp [readOk, hl, hn])
    rw [e1, e2, e3, e4]
    exact refRead_len A n c w hn
end Go.Proofs.Ytkjdlcobidglcaa
