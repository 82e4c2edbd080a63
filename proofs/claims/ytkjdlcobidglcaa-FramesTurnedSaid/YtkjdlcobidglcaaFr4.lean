/-
  The contract of the reference's Put of frames: the frame's bytes, in new memory; ErrArg and nothing, if it may not be. Conditions: the frame's numbers are of their kinds.
-/
import Derived.Test.YtkjdlcobidglcaaFr3
namespace Go.Proofs.Ytkjdlcobidglcaa
open Go.RowKit Crc

theorem body_q (f : Fr) (r : Nat) (hr : r < 4) (h0 : 0 ≤ f.q) (h1 : f.q < 4294967296) : f.body.getD (2 + (4 - (r + 1))) 0 = f.q / 2 ^ (8 * r) % 256 := by
  rw [← four_at f.q r hr h0 h1]
  match r, hr with
  | 0, _ => rfl
  | 1, _ => rfl
  | 2, _ => rfl
  | 3, _ => rfl
theorem body_v (f : Fr) (r : Nat) (hr : r < 4) (h0 : 0 ≤ f.v) (h1 : f.v < 4294967296) : f.body.getD (6 + (4 - (r + 1))) 0 = f.v / 2 ^ (8 * r) % 256 := by
  rw [← four_at f.v r hr h0 h1]
  match r, hr with
  | 0, _ => rfl
  | 1, _ => rfl
  | 2, _ => rfl
  | 3, _ => rfl

theorem refFrPut_no (f : Fr) (w : World) (hm : mayB f.o f.k = false) :
    Calls Try.prog 11 #[.agg #[.int .i64 f.o, .int .u8 f.k, .int .u8 f.s, .int .u32 f.q, .int .u32 f.v]] w fun e w' => e = .returned (.tuple #[.slice none 0 0, .int .i64 1]) ∧ Below w.heap.size w w' := by
  have HM := Lib.hid (fun u => refMay_any f u)
  rw [hm] at HM
  clear hm
  go_enter Try.func11, Try.ntmps11
  go_wp2_with (go_at_call 37; (with_reducible refine (HM.out _).mono ?_); rintro e w1 ⟨rfl, hb1⟩)
  go_ret2
  exact ⟨rfl, below_then (below_al (Below.refl _ _) _) hb1⟩

set_option maxRecDepth 100000 in
set_option maxHeartbeats 4000000 in
theorem refFrPut_yes (f : Fr) (w : World) (hf : f.Fit) (hm : mayB f.o f.k = true) :
    Calls Try.prog 11 #[.agg #[.int .i64 f.o, .int .u8 f.k, .int .u8 f.s, .int .u32 f.q, .int .u32 f.v]] w fun e w' => ∃ A' c', e = .returned (.tuple #[.slice A' 14 c', .int .i64 0]) ∧ Lies .u8 w' w'.heap.size A' 14 (putL f.body) ∧ Below w.heap.size w w' := by
  obtain ⟨i0, hi0, hz0, hz1, hz2⟩ := info_parts infoBytes
  have HM := Lib.hid (fun u => refMay_any f u)
  rw [hm] at HM
  have q0 := hf.q0
  have q1 := hf.q1
  have v0 := hf.v0
  have v1 := hf.v1
  obtain ⟨h0, h1, h2⟩ := (mayB_iff _ _).1 hm
  obtain ⟨ts, hts⟩ : ∃ ts, ts = f.body := ⟨_, rfl⟩
  have HT := Lib.hid (show ts.length = 10 by rw [hts]; rfl)
  have HTB := Lib.hid (show ∀ x ∈ ts, 0 ≤ x ∧ x ≤ 255 by rw [hts]; exact Fr.body_bd hf hm)
  have HV1 := Lib.hid (fun r hr => body_q f r hr q0 q1)
  have HV2 := Lib.hid (fun r hr => body_v f r hr v0 v1)
  have HT2 := Lib.hid (show ts.take 2 = [16 * f.k + f.o, f.s] by rw [hts]; rfl)
  rw [← hts] at HV1 HV2 ⊢
  obtain ⟨o, k, s, q, v⟩ := f
  simp only at h0 h1 h2 q0 q1 v0 v1 HV1 HV2 HT2
  have hk1 : 1 ≤ k := by omega
  have hk2 : k ≤ 2 := by omega
  clear hts hf hm h2
  go_enter Try.func11, Try.ntmps11
  have hF := Blk.new w 28 #[.int .i64 o, .int .u8 k, .int .u8 s, .int .u32 q, .int .u32 v]
  go_wp2_with (first
    | (go_at_call 37; (with_reducible refine (HM.out _).mono ?_); rintro e w1 ⟨rfl, hb1⟩; have hF1 := hF.on hb1; have c0 := hF1.cell 0; have c1 := hF1.cell 1; have c2 := hF1.cell 2; simp only [List.getElem?_toArray, List.getElem?_cons_zero, List.getElem?_cons_succ] at c0 c1 c2; have hlt := hF1.lt))
  have HB1 := Lib.hid (below_then (below_al (Below.refl _ _) _) hb1)
  have hbb := below_al (Below.refl w1.heap.size w1) (.cells #[.int .u8 (16 * k + o), .int .u8 s] 5)
  have hown := Blk.owns (k := .u8) (xs := ts.take 2) (n := 2) (base := w1.heap.size) (show Blk (w1.alloc (.cells #[.int .u8 (16 * k + o), .int .u8 s] 5)) w1.heap.size 5 (cellsOf .u8 (ts.take 2)) by rw [HT2.out]; exact Blk.new _ _ _) (by rw [HT2.out]; rfl) (Nat.le_refl _) (by unfold maxLen; omega)
  clear hF c0 c1 c2 hb1 HM hlt
  go_loopw [4, 5] (fun v1 kv wr => ∃ (j : Nat) (A' : Option Addr) (c' : Nat), j ≤ 4 ∧ kv = .int .i64 ((j : Int) - 1) ∧ v1 = .slice A' (2 + (4 - j)) c' ∧ wr.ownsRow w1.heap.size 5 1 (.slice A' (2 + (4 - j)) c') (2 + (4 - j)) ((ts.take (2 + (4 - j))).map (Value.int .u8)) ∧ Below w1.heap.size w1 wr) (fun _ kv _ => ((intOf kv) + 1).toNat)
  case atStart => exact ⟨4, _, _, Nat.le_refl _, rfl, rfl, hown, hbb⟩
  case round =>
    clear hown hbb
    obtain ⟨j, A', c', hj, rfl, rfl, hown, hb⟩ := hrel
    have hFr := hF1.below hb hF1.lt
    have c3 := hFr.cell 3
    simp only [List.getElem?_toArray, List.getElem?_cons_zero, List.getElem?_cons_succ] at c3
    have hlt := hFr.lt
    clear hFr
    by_cases hj0 : j = 0
    · subst hj0
      have hbb := hb
      rw [show ((0 : Nat) : Int) - 1 = -1 by omega]
      clear hb c3
      go_wp2_with fail
      go_loopw [4, 6] (fun v1 kv wr => ∃ (j : Nat) (A' : Option Addr) (c' : Nat), j ≤ 4 ∧ kv = .int .i64 ((j : Int) - 1) ∧ v1 = .slice A' (6 + (4 - j)) c' ∧ wr.ownsRow w1.heap.size 5 1 (.slice A' (6 + (4 - j)) c') (6 + (4 - j)) ((ts.take (6 + (4 - j))).map (Value.int .u8)) ∧ Below w1.heap.size w1 wr) (fun _ kv _ => ((intOf kv) + 1).toNat)
      case atStart => exact ⟨4, _, _, Nat.le_refl _, rfl, rfl, hown, hbb⟩
      case round =>
        clear hown hbb
        obtain ⟨j, A', c', hj, rfl, rfl, hown, hb⟩ := hrel
        have hFr := hF1.below hb hF1.lt
        have c4 := hFr.cell 4
        simp only [List.getElem?_toArray, List.getElem?_cons_zero, List.getElem?_cons_succ] at c4
        have hlt := hFr.lt
        clear hFr
        by_cases hj0 : j = 0
        · subst hj0
          rw [List.take_of_length_le (by rw [HT.out]; omega)] at hown
          have hly := lies_of_owns hown
          clear hown
          go_wp2_with fail
          with_reducible refine (refPut_any _ 10 _ ts _ hly HTB.out (by omega)).mono ?_
          rintro e w3 ⟨A3, c3, rfl, hl3, hb3⟩
          go_wp2_with fail
          go_ret2
          exact ⟨A3, c3, rfl, hl3, below_then HB1.out (below_then hb hb3)⟩
        · obtain ⟨r, rfl⟩ : ∃ r, j = r + 1 := ⟨j - 1, by omega⟩
          clear hj0
          have hre : ((r + 1 : Nat) : Int) - 1 = (r : Int) := by omega
          rw [hre]
          have hr1 : (0 : Int) ≤ (r : Int) := by omega
          have hr3 : (r : Int) ≤ 3 := by omega
          have hy := Lib.hid (HV2.out r (by omega))
          obtain ⟨p, hp⟩ : ∃ p, p = 6 + (4 - (r + 1)) := ⟨_, rfl⟩
          have HQ1 := Lib.hid (show 6 + (4 - r) = p + 1 by omega)
          have hq9 : p ≤ 8192 := by omega
          have hqT : p < 10 := by omega
          rw [← hp] at hown hy ⊢
          clear hp hre
          obtain ⟨R, hR⟩ : ∃ R, R = 8 * r := ⟨_, rfl⟩
          have hR8 : 8 * (r : Int) = (R : Int) := by omega
          rw [← hR] at hy
          have hR24 : R ≤ 24 := by omega
          clear hR
          obtain ⟨y, hy1⟩ : ∃ y, y = v / 2 ^ R % 256 := ⟨_, rfl⟩
          have hyw : IntKind.u8.wrap (v / 2 ^ R) = y := by rw [IntKind.wrap_u8', hy1]
          rw [← hy1] at hy
          have hy1' := hy1.symm
          clear hy1
          have hl1 := Lies.new wr 5 .u8 [y] 1 rfl #[.int .u8 y] rfl
          have hown' := hown.alloc (.cells #[.int .u8 y] 5)
          go_wp2_with (first
            | (at_builtin; with_reducible refine wpList_append_lies rfl (.tmp 41) (.tmp 49) 29 rfl w1.heap.size 5 i0 _ 1 Try.underlying29 hi0 hz0 hz1 hz2 rfl .u8 (.slice A' p c') p (ts.take p) rfl hown' (some ⟨wr.heap.size, 0, none⟩) 1 1 [y] rfl hl1 (p + 1) rfl (by unfold maxLen; omega) (by omega) (Nat.le_trans hb.size (by simp)) ?_))
          intro A2 c2 w2 hown2 hg2 _
          have hb2 := (hb.alloc hb.size (.cells #[.int .u8 y] 5)).grown hg2 (Nat.le_trans hb.size (by simp)) (fun r hr => (hown.lt r hr).1)
          have hown3 := owns_snoc (ts := ts) hown2 (by rw [HT.out]; omega) hy.out
          clear hown hown' hown2 hg2 hl1 hyw hy1' hR8
          go_wp2_with fail
          go_roundw
          case rel => exact ⟨r, A2, c2, by omega, by go_num, by rw [HQ1.out], by rw [HQ1.out]; exact hown3, hb2⟩
          case measure => simp [intOf]
    · obtain ⟨r, rfl⟩ : ∃ r, j = r + 1 := ⟨j - 1, by omega⟩
      clear hj0
      have hre : ((r + 1 : Nat) : Int) - 1 = (r : Int) := by omega
      rw [hre]
      have hr1 : (0 : Int) ≤ (r : Int) := by omega
      have hr3 : (r : Int) ≤ 3 := by omega
      have hy := Lib.hid (HV1.out r (by omega))
      obtain ⟨p, hp⟩ : ∃ p, p = 2 + (4 - (r + 1)) := ⟨_, rfl⟩
      have HQ1 := Lib.hid (show 2 + (4 - r) = p + 1 by omega)
      have hq9 : p ≤ 8192 := by omega
      have hqT : p < 10 := by omega
      rw [← hp] at hown hy ⊢
      clear hp hre
      obtain ⟨R, hR⟩ : ∃ R, R = 8 * r := ⟨_, rfl⟩
      have hR8 : 8 * (r : Int) = (R : Int) := by omega
      rw [← hR] at hy
      have hR24 : R ≤ 24 := by omega
      clear hR
      obtain ⟨y, hy1⟩ : ∃ y, y = q / 2 ^ R % 256 := ⟨_, rfl⟩
      have hyw : IntKind.u8.wrap (q / 2 ^ R) = y := by rw [IntKind.wrap_u8', hy1]
      rw [← hy1] at hy
      have hy1' := hy1.symm
      clear hy1
      have hl1 := Lies.new wr 5 .u8 [y] 1 rfl #[.int .u8 y] rfl
      have hown' := hown.alloc (.cells #[.int .u8 y] 5)
      go_wp2_with (first
        | (at_builtin; with_reducible refine wpList_append_lies rfl (.tmp 27) (.tmp 35) 29 rfl w1.heap.size 5 i0 _ 1 Try.underlying29 hi0 hz0 hz1 hz2 rfl .u8 (.slice A' p c') p (ts.take p) rfl hown' (some ⟨wr.heap.size, 0, none⟩) 1 1 [y] rfl hl1 (p + 1) rfl (by unfold maxLen; omega) (by omega) (Nat.le_trans hb.size (by simp)) ?_))
      intro A2 c2 w2 hown2 hg2 _
      have hb2 := (hb.alloc hb.size (.cells #[.int .u8 y] 5)).grown hg2 (Nat.le_trans hb.size (by simp)) (fun r hr => (hown.lt r hr).1)
      have hown3 := owns_snoc (ts := ts) hown2 (by rw [HT.out]; omega) hy.out
      clear hown hown' hown2 hg2 hl1 hyw hy1' hR8
      go_wp2_with fail
      go_roundw
      case rel => exact ⟨r, A2, c2, by omega, by go_num, by rw [HQ1.out], by rw [HQ1.out]; exact hown3, hb2⟩
      case measure => simp [intOf]
end Go.Proofs.Ytkjdlcobidglcaa
