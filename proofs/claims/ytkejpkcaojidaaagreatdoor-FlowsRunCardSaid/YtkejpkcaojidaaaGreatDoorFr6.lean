/-
  The contract of the reference's Get of frames: the frame of these bytes, or what is wrong first. Conditions: the slice's reading, bytes, a length of at most 4096 within the capacity.
-/
import Derived.Test.YtkejpkcaojidaaaGreatDoorFr3
namespace Go.Proofs.YtkejpkcaojidaaaGreatDoor
set_option linter.unusedVariables false
set_option linter.unusedSimpArgs false
open Go.RowKit Crc

theorem body_q (f : Fr) (r : Nat) (hr : r < 4) (h0 : 0 ≤ f.q) (h1 : f.q < 4294967296) : f.body.getD (2 + (4 - (r + 1))) 0 = f.q / 2 ^ (8 * r) % 256 := by
  rw [← four_at f.q r hr h0 h1]
  match r, hr with
  | 0, _ => rfl
  | 1, _ => rfl
  | 2, _ => rfl
  | 3, _ => rfl
theorem body_v (f : Fr) (r : Nat) (hr : r < 4) (h0 : 0 ≤ f.v) (h1 : f.v < 4294967296) : f.body.getD (6 + (4 - (r + 1))) 0 = f.v / 2 ^ (8 * r) % 256 := by
  rw [← four_at f.v r hr h0 h1]
  match r, hr with
  | 0, _ => rfl
  | 1, _ => rfl
  | 2, _ => rfl
  | 3, _ => rfl

theorem refFrPut_no (f : Fr) (w : World) (hm : mayB f.o f.k = false) :
    Calls Tryz.prog 100 #[.agg #[.int .i64 f.o, .int .u8 f.k, .int .u8 f.s, .int .u32 f.q, .int .u32 f.v]] w fun e w' => e = .returned (.tuple #[.slice none 0 0, .int .i64 1]) ∧ Below w.heap.size w w' := by
  have HM := Lib.hid (fun u => refMay_any f u)
  rw [hm] at HM
  clear hm
  go_enter Tryz.func100, Tryz.ntmps100
  go_wp2_with (go_at_call 120; (with_reducible refine (HM.out _).mono ?_); rintro e w1 ⟨rfl, hb1⟩)
  go_ret2
  exact ⟨rfl, below_then (below_al (Below.refl _ _) _) hb1⟩

set_option maxRecDepth 100000 in
set_option maxHeartbeats 4000000 in
theorem refFrPut_yes (f : Fr) (w : World) (hf : f.Fit) (hm : mayB f.o f.k = true) :
    Calls Tryz.prog 100 #[.agg #[.int .i64 f.o, .int .u8 f.k, .int .u8 f.s, .int .u32 f.q, .int .u32 f.v]] w fun e w' => ∃ A' c', e = .returned (.tuple #[.slice A' 14 c', .int .i64 0]) ∧ Lies .u8 w' w'.heap.size A' 14 (putL f.body) ∧ Below w.heap.size w w' := by
  obtain ⟨i0, hi0, hz0, hz1, hz2⟩ := info_parts infoBytes
  have HM := Lib.hid (fun u => refMay_any f u)
  rw [hm] at HM
  have q0 := hf.q0
  have q1 := hf.q1
  have v0 := hf.v0
  have v1 := hf.v1
  obtain ⟨h0, h1, h2⟩ := (mayB_iff _ _).1 hm
  obtain ⟨ts, hts⟩ : ∃ ts, ts = f.body := ⟨_, rfl⟩
  have HT := Lib.hid (show ts.length = 10 by rw [hts]; rfl)
  have HTB := Lib.hid (show ∀ x ∈ ts, 0 ≤ x ∧ x ≤ 255 by rw [hts]; exact Fr.body_bd hf hm)
  have HV1 := Lib.hid (fun r hr => body_q f r hr q0 q1)
  have HV2 := Lib.hid (fun r hr => body_v f r hr v0 v1)
  have HT2 := Lib.hid (show ts.take 2 = [16 * f.k + f.o, f.s] by rw [hts]; rfl)
  rw [← hts] at HV1 HV2 ⊢
  obtain ⟨o, k, s, q, v⟩ := f
  simp only at h0 h1 h2 q0 q1 v0 v1 HV1 HV2 HT2
  have hk1 : 1 ≤ k := by omega
  have hk2 : k ≤ 2 := by omega
  clear hts hf hm h2
  go_enter Tryz.func100, Tryz.ntmps100
  have hF := Blk.new w 123 #[.int .i64 o, .int .u8 k, .int .u8 s, .int .u32 q, .int .u32 v]
  go_wp2_with (first
    | (go_at_call 120; (with_reducible refine (HM.out _).mono ?_); rintro e w1 ⟨rfl, hb1⟩; have hF1 := hF.on hb1; have c0 := hF1.cell 0; have c1 := hF1.cell 1; have c2 := hF1.cell 2; simp only [List.getElem?_toArray, List.getElem?_cons_zero, List.getElem?_cons_succ] at c0 c1 c2; have hlt := hF1.lt))
  have HB1 := Lib.hid (below_then (below_al (Below.refl _ _) _) hb1)
  have hbb := below_al (Below.refl w1.heap.size w1) (.cells #[.int .u8 (16 * k + o), .int .u8 s] 5)
  have hown := Blk.owns (k := .u8) (xs := ts.take 2) (n := 2) (base := w1.heap.size) (show Blk (w1.alloc (.cells #[.int .u8 (16 * k + o), .int .u8 s] 5)) w1.heap.size 5 (cellsOf .u8 (ts.take 2)) by rw [HT2.out]; exact Blk.new _ _ _) (by rw [HT2.out]; rfl) (Nat.le_refl _) (by unfold maxLen; omega)
  clear hF c0 c1 c2 hb1 HM hlt
  go_loopw [4, 5] (fun v1 kv wr => ∃ (j : Nat) (A' : Option Addr) (c' : Nat), j ≤ 4 ∧ kv = .int .i64 ((j : Int) - 1) ∧ v1 = .slice A' (2 + (4 - j)) c' ∧ wr.ownsRow w1.heap.size 5 1 (.slice A' (2 + (4 - j)) c') (2 + (4 - j)) ((ts.take (2 + (4 - j))).map (Value.int .u8)) ∧ Below w1.heap.size w1 wr) (fun _ kv _ => ((intOf kv) + 1).toNat)
  case atStart => exact ⟨4, _, _, Nat.le_refl _, rfl, rfl, hown, hbb⟩
  case round =>
    clear hown hbb
    obtain ⟨j, A', c', hj, rfl, rfl, hown, hb⟩ := hrel
    have hFr := hF1.below hb hF1.lt
    have c3 := hFr.cell 3
    simp only [List.getElem?_toArray, List.getElem?_cons_zero, List.getElem?_cons_succ] at c3
    have hlt := hFr.lt
    clear hFr
    by_cases hj0 : j = 0
    · subst hj0
      have hbb := hb
      rw [show ((0 : Nat) : Int) - 1 = -1 by omega]
      clear hb c3
      go_wp2_with fail
      go_loopw [4, 6] (fun v1 kv wr => ∃ (j : Nat) (A' : Option Addr) (c' : Nat), j ≤ 4 ∧ kv = .int .i64 ((j : Int) - 1) ∧ v1 = .slice A' (6 + (4 - j)) c' ∧ wr.ownsRow w1.heap.size 5 1 (.slice A' (6 + (4 - j)) c') (6 + (4 - j)) ((ts.take (6 + (4 - j))).map (Value.int .u8)) ∧ Below w1.heap.size w1 wr) (fun _ kv _ => ((intOf kv) + 1).toNat)
      case atStart => exact ⟨4, _, _, Nat.le_refl _, rfl, rfl, hown, hbb⟩
      case round =>
        clear hown hbb
        obtain ⟨j, A', c', hj, rfl, rfl, hown, hb⟩ := hrel
        have hFr := hF1.below hb hF1.lt
        have c4 := hFr.cell 4
        simp only [List.getElem?_toArray, List.getElem?_cons_zero, List.getElem?_cons_succ] at c4
        have hlt := hFr.lt
        clear hFr
        by_cases hj0 : j = 0
        · subst hj0
          rw [List.take_of_length_le (by rw [HT.out]; omega)] at hown
          have hly := lies_of_owns hown
          clear hown
          go_wp2_with fail
          with_reducible refine (refPut_any _ 10 _ ts _ hly HTB.out (by omega)).mono ?_
          rintro e w3 ⟨A3, c3, rfl, hl3, hb3⟩
          go_wp2_with fail
          go_ret2
          exact ⟨A3, c3, rfl, hl3, below_then HB1.out (below_then hb hb3)⟩
        · obtain ⟨r, rfl⟩ : ∃ r, j = r + 1 := ⟨j - 1, by omega⟩
          clear hj0
          have hre : ((r + 1 : Nat) : Int) - 1 = (r : Int) := by omega
          rw [hre]
          have hr1 : (0 : Int) ≤ (r : Int) := by omega
          have hr3 : (r : Int) ≤ 3 := by omega
          have hy := Lib.hid (HV2.out r (by omega))
          obtain ⟨p, hp⟩ : ∃ p, p = 6 + (4 - (r + 1)) := ⟨_, rfl⟩
          have HQ1 := Lib.hid (show 6 + (4 - r) = p + 1 by omega)
          have hq9 : p ≤ 8192 := by omega
          have hqT : p < 10 := by omega
          rw [← hp] at hown hy ⊢
          clear hp hre
          obtain ⟨R, hR⟩ : ∃ R, R = 8 * r := ⟨_, rfl⟩
          have hR8 : 8 * (r : Int) = (R : Int) := by omega
          rw [← hR] at hy
          have hR24 : R ≤ 24 := by omega
          clear hR
          obtain ⟨y, hy1⟩ : ∃ y, y = v / 2 ^ R % 256 := ⟨_, rfl⟩
          have hyw : IntKind.u8.wrap (v / 2 ^ R) = y := by rw [IntKind.wrap_u8', hy1]
          rw [← hy1] at hy
          have hy1' := hy1.symm
          clear hy1
          have hl1 := Lies.new wr 5 .u8 [y] 1 rfl #[.int .u8 y] rfl
          have hown' := hown.alloc (.cells #[.int .u8 y] 5)
          go_wp2_with (first
            | (at_builtin; with_reducible refine wpList_append_lies rfl (.tmp 41) (.tmp 49) 68 rfl w1.heap.size 5 i0 _ 1 Tryz.underlying68 hi0 hz0 hz1 hz2 rfl .u8 (.slice A' p c') p (ts.take p) rfl hown' (some ⟨wr.heap.size, 0, none⟩) 1 1 [y] rfl hl1 (p + 1) rfl (by unfold maxLen; omega) (by omega) (Nat.le_trans hb.size (by simp)) ?_))
          intro A2 c2 w2 hown2 hg2 _
          have hb2 := (hb.alloc hb.size (.cells #[.int .u8 y] 5)).grown hg2 (Nat.le_trans hb.size (by simp)) (fun r hr => (hown.lt r hr).1)
          have hown3 := owns_snoc (ts := ts) hown2 (by rw [HT.out]; omega) hy.out
          clear hown hown' hown2 hg2 hl1 hyw hy1' hR8
          go_wp2_with fail
          go_roundw
          case rel => exact ⟨r, A2, c2, by omega, by go_num, by rw [HQ1.out], by rw [HQ1.out]; exact hown3, hb2⟩
          case measure => simp [intOf]
    · obtain ⟨r, rfl⟩ : ∃ r, j = r + 1 := ⟨j - 1, by omega⟩
      clear hj0
      have hre : ((r + 1 : Nat) : Int) - 1 = (r : Int) := by omega
      rw [hre]
      have hr1 : (0 : Int) ≤ (r : Int) := by omega
      have hr3 : (r : Int) ≤ 3 := by omega
      have hy := Lib.hid (HV1.out r (by omega))
      obtain ⟨p, hp⟩ : ∃ p, p = 2 + (4 - (r + 1)) := ⟨_, rfl⟩
      have HQ1 := Lib.hid (show 2 + (4 - r) = p + 1 by omega)
      have hq9 : p ≤ 8192 := by omega
      have hqT : p < 10 := by omega
      rw [← hp] at hown hy ⊢
      clear hp hre
      obtain ⟨R, hR⟩ : ∃ R, R = 8 * r := ⟨_, rfl⟩
      have hR8 : 8 * (r : Int) = (R : Int) := by omega
      rw [← hR] at hy
      have hR24 : R ≤ 24 := by omega
      clear hR
      obtain ⟨y, hy1⟩ : ∃ y, y = q / 2 ^ R % 256 := ⟨_, rfl⟩
      have hyw : IntKind.u8.wrap (q / 2 ^ R) = y := by rw [IntKind.wrap_u8', hy1]
      rw [← hy1] at hy
      have hy1' := hy1.symm
      clear hy1
      have hl1 := Lies.new wr 5 .u8 [y] 1 rfl #[.int .u8 y] rfl
      have hown' := hown.alloc (.cells #[.int .u8 y] 5)
      go_wp2_with (first
        | (at_builtin; with_reducible refine wpList_append_lies rfl (.tmp 27) (.tmp 35) 68 rfl w1.heap.size 5 i0 _ 1 Tryz.underlying68 hi0 hz0 hz1 hz2 rfl .u8 (.slice A' p c') p (ts.take p) rfl hown' (some ⟨wr.heap.size, 0, none⟩) 1 1 [y] rfl hl1 (p + 1) rfl (by unfold maxLen; omega) (by omega) (Nat.le_trans hb.size (by simp)) ?_))
      intro A2 c2 w2 hown2 hg2 _
      have hb2 := (hb.alloc hb.size (.cells #[.int .u8 y] 5)).grown hg2 (Nat.le_trans hb.size (by simp)) (fun r hr => (hown.lt r hr).1)
      have hown3 := owns_snoc (ts := ts) hown2 (by rw [HT.out]; omega) hy.out
      clear hown hown' hown2 hg2 hl1 hyw hy1' hR8
      go_wp2_with fail
      go_roundw
      case rel => exact ⟨r, A2, c2, by omega, by go_num, by rw [HQ1.out], by rw [HQ1.out]; exact hown3, hb2⟩
      case measure => simp [intOf]
end Go.Proofs.YtkejpkcaojidaaaGreatDoor

namespace Go.Proofs.YtkejpkcaojidaaaGreatDoor
open Go.RowKit Crc

/-- The frame of these bytes, if they are any's; what is wrong first; what Get answers. -/
def frAt (l : List Int) : Fr := ⟨l.getD 0 0 % 16, l.getD 0 0 / 16, l.getD 1 0, numB ((l.drop 2).take 4), numB ((l.drop 6).take 4)⟩
def getE (l : List Int) : Int := if l.length = 14 then (if checkB l then (if mayB (frAt l).o (frAt l).k then 0 else 4) else 5) else 4
def getF (l : List Int) : Fr := if getE l = 0 then frAt l else Fr.zero
theorem getE_len {l : List Int} (h : l.length ≠ 14) : getE l = 4 ∧ getF l = Fr.zero := by simp [getE, getF, h]
theorem getE_sum {l : List Int} (h : l.length = 14) (hc : checkB l = false) : getE l = 5 ∧ getF l = Fr.zero := by simp [getE, getF, h, hc]
theorem getE_form {l : List Int} (h : l.length = 14) (hc : checkB l = true) (hm : mayB (frAt l).o (frAt l).k = false) : getE l = 4 ∧ getF l = Fr.zero := by simp [getE, getF, h, hc, hm]
theorem getE_ok {l : List Int} (h : l.length = 14) (hc : checkB l = true) (hm : mayB (frAt l).o (frAt l).k = true) : getE l = 0 ∧ getF l = frAt l := by simp [getE, getF, h, hc, hm]
theorem drop_take10 (l : List Int) (i : Nat) (h : i + 4 ≤ 10) : ((l.take 10).drop i).take 4 = (l.drop i).take 4 := by
  rw [List.drop_take, List.take_take]
  congr 1
  omega
theorem take10_at (l : List Int) (i : Nat) (h : i < 10) : (l.take 10).getD i 0 = l.getD i 0 := by
  rw [List.getD, List.getD, List.getElem?_take, if_pos h]

theorem below_five {B : Nat} {a w : World} (h : Below B a w) {g : Nat} (hg : B ≤ g) (u0 u1 u2 u3 u4 : Value) :
    Below B a (((((w.setCell ⟨g, 0, none⟩ u0).setCell ⟨g, 1, none⟩ u1).setCell ⟨g, 2, none⟩ u2).setCell ⟨g, 3, none⟩ u3).setCell ⟨g, 4, none⟩ u4) :=
  ((((h.setCell (p := ⟨g, 0, none⟩) hg u0).setCell (p := ⟨g, 1, none⟩) hg u1).setCell (p := ⟨g, 2, none⟩) hg u2).setCell (p := ⟨g, 3, none⟩) hg u3).setCell (p := ⟨g, 4, none⟩) hg u4

theorem frGet_len (A : Option Addr) (n c : Nat) (w : World) (h : n ≠ 14) :
    Calls Tryz.prog 144 #[.slice A n c] w fun e w' => e = .returned (.tuple #[.agg #[.int .i64 Fr.zero.o, .int .u8 Fr.zero.k, .int .u8 Fr.zero.s, .int .u32 Fr.zero.q, .int .u32 Fr.zero.v], .int .i64 4]) ∧ Below w.heap.size w w' := by
  have hne : ((n : Int) == 14) = false := beq_eq_false_iff_ne.2 (by omega)
  go_enter Tryz.func144, Tryz.ntmps144
  go_wp2_with fail
  refine bodyPost_ret (v := .tuple #[.agg #[.int .i64 0, .int .u8 0, .int .u8 0, .int .u32 0, .int .u32 0], .int .i64 4]) (by simp [results, Tryz.results144, go_sem]) rfl ⟨rfl, ?_⟩
  first | exact below_al (Below.refl _ _) _ | exact (Below.refl _ _).alloc (Nat.le_refl _) _

theorem frGet_sum (A : Option Addr) (c : Nat) (l : List Int) (w : World) (hx : Lies .u8 w w.heap.size A 14 l) (hb : ∀ x ∈ l, 0 ≤ x ∧ x ≤ 255) (hc : 14 ≤ c) (hk : checkB l = false) :
    Calls Tryz.prog 144 #[.slice A 14 c] w fun e w' => e = .returned (.tuple #[.agg #[.int .i64 Fr.zero.o, .int .u8 Fr.zero.k, .int .u8 Fr.zero.s, .int .u32 Fr.zero.q, .int .u32 Fr.zero.v], .int .i64 5]) ∧ Below w.heap.size w w' := by
  have HC := Lib.hid (fun u (h : Lies .u8 u u.heap.size A 14 l) => check_no A 14 c l u h hb (by omega) hc hk)
  have hx1 := hx.al (.cells #[.int .i64 0, .int .u8 0, .int .u8 0, .int .u32 0, .int .u32 0] 112)
  have hF := Blk.new w 112 #[.int .i64 0, .int .u8 0, .int .u8 0, .int .u32 0, .int .u32 0]
  clear hx hb hk
  go_enter Tryz.func144, Tryz.ntmps144
  go_wp2_with (go_at_call 148; (with_reducible refine (HC.out _ hx1).mono ?_); rintro e w1 ⟨rfl, hb1⟩; have hF1 := hF.on hb1; have hlt := hF1.lt; have c0 := hF1.cell 0; have c1 := hF1.cell 1; have c2 := hF1.cell 2; have c3 := hF1.cell 3; have c4 := hF1.cell 4; have f0 := hF1.frozen 0; have f1 := hF1.frozen 1; have f2 := hF1.frozen 2; have f3 := hF1.frozen 3; have f4 := hF1.frozen 4; simp only [List.getElem?_toArray, List.getElem?_cons_zero, List.getElem?_cons_succ] at c0 c1 c2 c3 c4)
  refine bodyPost_ret (v := .tuple #[.agg #[.int .i64 0, .int .u8 0, .int .u8 0, .int .u32 0, .int .u32 0], .int .i64 5]) (by simp [results, Tryz.results144, go_sem, c0, c1, c2, c3, c4]) rfl ⟨rfl, ?_⟩
  exact below_five (below_then (below_al (Below.refl _ _) _) hb1) (Nat.le_refl _) _ _ _ _ _

set_option maxRecDepth 100000 in
theorem frGet_sound (A : Option Addr) (c : Nat) (l : List Int) (w : World) (hx : Lies .u8 w w.heap.size A 14 l) (hb : ∀ x ∈ l, 0 ≤ x ∧ x ≤ 255) (hc : 14 ≤ c) (hk : checkB l = true) :
    Calls Tryz.prog 144 #[.slice A 14 c] w fun e w' => e = .returned (.tuple #[.agg #[.int .i64 (getF l).o, .int .u8 (getF l).k, .int .u8 (getF l).s, .int .u32 (getF l).q, .int .u32 (getF l).v], .int .i64 (getE l)]) ∧ Below w.heap.size w w' := by
  have hl := hx.len
  have HC := Lib.hid (fun u (h : Lies .u8 u u.heap.size A 14 l) => check_yes A 14 c l u h hb (by omega) hc hk)
  simp only [show 14 - 4 = 10 from rfl] at HC
  have hx1 := hx.al (.cells #[.int .i64 0, .int .u8 0, .int .u8 0, .int .u32 0, .int .u32 0] 112)
  have hF := Blk.new w 112 #[.int .i64 0, .int .u8 0, .int .u8 0, .int .u32 0, .int .u32 0]
  have HT0 := Lib.hid (show (cellsOf .u8 (l.take 10))[0]? = some (.int .u8 (l.getD 0 0)) by rw [cellsOf_at _ _ _ (by simp [hl]), take10_at l 0 (by omega)])
  have HT1 := Lib.hid (show (cellsOf .u8 (l.take 10))[1]? = some (.int .u8 (l.getD 1 0)) by rw [cellsOf_at _ _ _ (by simp [hl]), take10_at l 1 (by omega)])
  have hm0 : l.getD 0 0 ∈ l := by rw [getD_at l 0 (by omega)]; exact List.getElem_mem _
  have hx0 := hb _ hm0
  have HQ := Lib.hid (fun u B C (h : Lies .u8 u u.heap.size B 4 ((l.drop 2).take 4)) => frNumber_any B C _ u h (fun x hx => hb x (List.mem_of_mem_drop (List.mem_of_mem_take hx))))
  have HV := Lib.hid (fun u B C (h : Lies .u8 u u.heap.size B 4 ((l.drop 6).take 4)) => frNumber_any B C _ u h (fun x hx => hb x (List.mem_of_mem_drop (List.mem_of_mem_take hx))))
  have HM := Lib.hid (fun u => mayBe_any (frAt l) u)
  have HP1 := Lib.hid (fun u g (h : Blk u g 5 (cellsOf .u8 (l.take 10))) => show Lies .u8 u u.heap.size (cutA (some ⟨g, 0, none⟩) 10 2) 4 ((l.drop 2).take 4) by
    rw [← drop_take10 l 2 (by omega)]; exact Lies.part (l := 2) (h := 6) (c := 10) (h.lies (n := 10) (by simp [hl])) (by omega) (by omega) (by omega))
  have HP2 := Lib.hid (fun u g (h : Blk u g 5 (cellsOf .u8 (l.take 10))) => show Lies .u8 u u.heap.size (cutA (some ⟨g, 0, none⟩) 10 6) 4 ((l.drop 6).take 4) by
    rw [← drop_take10 l 6 (by omega)]; exact Lies.part (l := 6) (h := 10) (c := 10) (h.lies (n := 10) (by simp [hl])) (by omega) (by omega) (by omega))
  have HGO := Lib.hid (fun h => getE_ok hl hk h)
  have HGF := Lib.hid (fun h => getE_form hl hk h)
  have HFA := Lib.hid (show frAt l = ⟨l.getD 0 0 % 16, l.getD 0 0 / 16, l.getD 1 0, numB ((l.drop 2).take 4), numB ((l.drop 6).take 4)⟩ from rfl)
  obtain ⟨F, hF0⟩ : ∃ F, F = frAt l := ⟨_, rfl⟩
  obtain ⟨G, hG0⟩ : ∃ G, G = getF l := ⟨_, rfl⟩
  obtain ⟨E, hE0⟩ : ∃ E, E = getE l := ⟨_, rfl⟩
  rw [← hF0] at HM HGO HGF HFA
  rw [← hG0, ← hE0] at HGO HGF ⊢
  obtain ⟨x, hx2⟩ : ∃ x, x = l.getD 0 0 := ⟨_, rfl⟩
  obtain ⟨y, hy2⟩ : ∃ y, y = l.getD 1 0 := ⟨_, rfl⟩
  obtain ⟨q, hq2⟩ : ∃ q, q = numB ((l.drop 2).take 4) := ⟨_, rfl⟩
  obtain ⟨v, hv2⟩ : ∃ v, v = numB ((l.drop 6).take 4) := ⟨_, rfl⟩
  rw [← hx2] at HT0 HFA hx0
  rw [← hy2] at HT1 HFA
  rw [← hq2] at HQ HFA
  rw [← hv2] at HV HFA
  obtain ⟨hx00, hx01⟩ := hx0
  clear hx hb hk hm0 hF0 hG0 hE0 hx2 hy2 hq2 hv2 hl
  go_enter Tryz.func144, Tryz.ntmps144
  go_wp2_with (go_at_call 148; (with_reducible refine (HC.out _ hx1).mono ?_); rintro e w1 ⟨g, rfl, hg, hB, hb1⟩; have hF1 := hF.on hb1; have hlt := hF1.lt; have c0 := hF1.cell 0; have c1 := hF1.cell 1; have c2 := hF1.cell 2; have c3 := hF1.cell 3; have c4 := hF1.cell 4; have f0 := hF1.frozen 0; have f1 := hF1.frozen 1; have f2 := hF1.frozen 2; have f3 := hF1.frozen 3; have f4 := hF1.frozen 4; simp only [List.getElem?_toArray, List.getElem?_cons_zero, List.getElem?_cons_succ] at c0 c1 c2 c3 c4; have t0 := (hB.cell 0).trans HT0.out; have t1 := (hB.cell 1).trans HT1.out; have hgl := hB.lt; have hs1 := fun W => partBytes (some ⟨g, 0, none⟩) 10 10 2 6 (by omega) (by omega) (by omega) W; have hs2 := fun W => partBytes (some ⟨g, 0, none⟩) 10 10 6 10 (by omega) (by omega) (by omega) W)
  with_reducible refine (HQ.out _ _ _ (HP1.out _ g (hB.alloc _))).mono ?_
  rintro e w2 ⟨rfl, rfl⟩
  go_wp2_with fail
  with_reducible refine (HV.out _ _ _ (HP2.out _ g (hB.alloc _))).mono ?_
  rintro e w2 ⟨rfl, rfl⟩
  have hL := Blk.new w1 112 #[.int .i64 (x % 16), .int .u8 (x / 16), .int .u8 y, .int .u32 q, .int .u32 v]
  have hF2 := hF1.alloc (.cells #[.int .i64 (x % 16), .int .u8 (x / 16), .int .u8 y, .int .u32 q, .int .u32 v] 112)
  have hb2 := below_al (below_then (below_al (Below.refl _ _) _) hb1) (.cells #[.int .i64 (x % 16), .int .u8 (x / 16), .int .u8 y, .int .u32 q, .int .u32 v] 112)
  have HR := Lib.hid (show ∀ i, Ending.returned (.tuple #[.agg #[.int .i64 Fr.zero.o, .int .u8 Fr.zero.k, .int .u8 Fr.zero.s, .int .u32 Fr.zero.q, .int .u32 Fr.zero.v], .int .i64 i]) = .returned (.tuple #[.agg #[.int .i64 0, .int .u8 0, .int .u8 0, .int .u32 0, .int .u32 0], .int .i64 i]) from fun _ => rfl)
  rw [HFA.out] at HGO HGF HM
  simp only at HGO HGF HM
  clear hb1 hF1 hlt c0 c1 c2 c3 c4 f0 f1 f2 f3 f4 t0 t1 hs1 hs2 hgl hB hF hx1
  by_cases hm : mayB (x % 16) (x / 16) = true
  · obtain ⟨hE, hG⟩ := HGO.out hm
    rw [hm] at HM
    subst hE hG
    go_wp2_with (go_at_call 135; (with_reducible refine (HM.out _).mono ?_); rintro e w3 ⟨rfl, hb3⟩; have hF3 := hF2.on hb3; have hlt := hF3.lt; have c0 := hF3.cell 0; have c1 := hF3.cell 1; have c2 := hF3.cell 2; have c3 := hF3.cell 3; have c4 := hF3.cell 4; have f0 := hF3.frozen 0; have f1 := hF3.frozen 1; have f2 := hF3.frozen 2; have f3 := hF3.frozen 3; have f4 := hF3.frozen 4; simp only [List.getElem?_toArray, List.getElem?_cons_zero, List.getElem?_cons_succ] at c0 c1 c2 c3 c4; have hL3 := hL.on hb3; have hlt' := hL3.lt; have d0 := hL3.cell 0; have d1 := hL3.cell 1; have d2 := hL3.cell 2; have d3 := hL3.cell 3; have d4 := hL3.cell 4; simp only [List.getElem?_toArray, List.getElem?_cons_zero, List.getElem?_cons_succ] at d0 d1 d2 d3 d4)
    refine bodyPost_ret (v := .tuple #[.agg #[.int .i64 (x % 16), .int .u8 (x / 16), .int .u8 y, .int .u32 q, .int .u32 v], .int .i64 0]) (by simp [results, Tryz.results144, go_sem, c0, c1, c2, c3, c4]) rfl ⟨rfl, ?_⟩
    exact below_five (below_then hb2 hb3) (Nat.le_refl _) _ _ _ _ _
  · have hm' : mayB (x % 16) (x / 16) = false := by simpa using hm
    obtain ⟨hE, hG⟩ := HGF.out hm'
    rw [hm'] at HM
    clear hm hm'
    subst hE hG
    go_wp2_with (go_at_call 135; (with_reducible refine (HM.out _).mono ?_); rintro e w3 ⟨rfl, hb3⟩; have hF3 := hF2.on hb3; have hlt := hF3.lt; have c0 := hF3.cell 0; have c1 := hF3.cell 1; have c2 := hF3.cell 2; have c3 := hF3.cell 3; have c4 := hF3.cell 4; have f0 := hF3.frozen 0; have f1 := hF3.frozen 1; have f2 := hF3.frozen 2; have f3 := hF3.frozen 3; have f4 := hF3.frozen 4; simp only [List.getElem?_toArray, List.getElem?_cons_zero, List.getElem?_cons_succ] at c0 c1 c2 c3 c4)
    refine bodyPost_ret (v := .tuple #[.agg #[.int .i64 0, .int .u8 0, .int .u8 0, .int .u32 0, .int .u32 0], .int .i64 4]) (by simp [results, Tryz.results144, go_sem, c0, c1, c2, c3, c4]) rfl ⟨(HR.out 4).symm, ?_⟩
    exact below_five (below_then hb2 hb3) (Nat.le_refl _) _ _ _ _ _

theorem frGet_any (A : Option Addr) (n c : Nat) (l : List Int) (w : World) (hx : Lies .u8 w w.heap.size A n l) (hb : ∀ x ∈ l, 0 ≤ x ∧ x ≤ 255) (hc : n ≤ c) :
    Calls Tryz.prog 144 #[.slice A n c] w fun e w' => e = .returned (.tuple #[.agg #[.int .i64 (getF l).o, .int .u8 (getF l).k, .int .u8 (getF l).s, .int .u32 (getF l).q, .int .u32 (getF l).v], .int .i64 (getE l)]) ∧ Below w.heap.size w w' := by
  have hl := hx.len
  by_cases h : n = 14
  · subst h
    by_cases hk : checkB l = true
    · exact frGet_sound A c l w hx hb hc hk
    · have hk' : checkB l = false := by simpa using hk
      obtain ⟨e1, e2⟩ := getE_sum hl hk'
      rw [e1, e2]
      exact frGet_sum A c l w hx hb hc hk'
  · obtain ⟨e1, e2⟩ := getE_len (l := l) (by omega)
    rw [e1, e2]
    exact frGet_len A n c w h
end Go.Proofs.YtkejpkcaojidaaaGreatDoor

namespace Go.Proofs.YtkejpkcaojidaaaGreatDoor
open Go.RowKit Crc

theorem idxBytes {A : Option Addr} {n : Nat} (c : Nat) {k b off : Nat} (hA : A = some ⟨b, off, none⟩) (hk : k < n) (w : World) :
    (Instr.indexAt 68 (.slice A n c) (.int .i64 (k : Int))).run Tryz.prog w = .ok (.pointer (some ⟨b, off + k, none⟩)) w := by
  subst hA
  rw [run_indexAt_slice (h := elemBytes), if_pos (by omega), sizeBytes]
  simp [Result.andThen, Addr.add_lit]
theorem refGet_len (A : Option Addr) (n c : Nat) (w : World) (h : n ≠ 14) :
    Calls Tryz.prog 106 #[.slice A n c] w fun e w' => e = .returned (.tuple #[.agg #[.int .i64 Fr.zero.o, .int .u8 Fr.zero.k, .int .u8 Fr.zero.s, .int .u32 Fr.zero.q, .int .u32 Fr.zero.v], .int .i64 4]) ∧ Below w.heap.size w w' := by
  have hne : ((n : Int) == 14) = false := beq_eq_false_iff_ne.2 (by omega)
  go_enter Tryz.func106, Tryz.ntmps106
  go_wp2_with fail
  refine bodyPost_ret (v := .tuple #[.agg #[.int .i64 0, .int .u8 0, .int .u8 0, .int .u32 0, .int .u32 0], .int .i64 4]) (by simp [results, Tryz.results106, go_sem]) rfl ⟨rfl, ?_⟩
  first | exact below_al (Below.refl _ _) _ | exact (Below.refl _ _).alloc (Nat.le_refl _) _

theorem refGet_sum (A : Option Addr) (c : Nat) (l : List Int) (w : World) (hx : Lies .u8 w w.heap.size A 14 l) (hb : ∀ x ∈ l, 0 ≤ x ∧ x ≤ 255) (hc : 14 ≤ c) (hk : checkB l = false) :
    Calls Tryz.prog 106 #[.slice A 14 c] w fun e w' => e = .returned (.tuple #[.agg #[.int .i64 Fr.zero.o, .int .u8 Fr.zero.k, .int .u8 Fr.zero.s, .int .u32 Fr.zero.q, .int .u32 Fr.zero.v], .int .i64 5]) ∧ Below w.heap.size w w' := by
  have HC := Lib.hid (fun u (h : Lies .u8 u u.heap.size A 14 l) => (refCheck_long A 14 c l u h hb (by omega) hc (by omega)).mono (R' := fun e w' => e = .returned (.tuple #[.slice none 0 0, .bool false]) ∧ Below u.heap.size u w') fun e w' h => by
    rcases h with ⟨_, h⟩ | ⟨h, _⟩
    · exact h
    · rw [hk] at h; cases h)
  have hx1 := hx.al (.cells #[.int .i64 0, .int .u8 0, .int .u8 0, .int .u32 0, .int .u32 0] 123)
  have hF := Blk.new w 123 #[.int .i64 0, .int .u8 0, .int .u8 0, .int .u32 0, .int .u32 0]
  clear hx hb hk
  go_enter Tryz.func106, Tryz.ntmps106
  go_wp2_with (go_at_call 126; (with_reducible refine (HC.out _ hx1).mono ?_); rintro e w1 ⟨rfl, hb1⟩; have hF1 := hF.on hb1; have hlt := hF1.lt; have c0 := hF1.cell 0; have c1 := hF1.cell 1; have c2 := hF1.cell 2; have c3 := hF1.cell 3; have c4 := hF1.cell 4; have f0 := hF1.frozen 0; have f1 := hF1.frozen 1; have f2 := hF1.frozen 2; have f3 := hF1.frozen 3; have f4 := hF1.frozen 4; simp only [List.getElem?_toArray, List.getElem?_cons_zero, List.getElem?_cons_succ] at c0 c1 c2 c3 c4)
  refine bodyPost_ret (v := .tuple #[.agg #[.int .i64 0, .int .u8 0, .int .u8 0, .int .u32 0, .int .u32 0], .int .i64 5]) (by simp [results, Tryz.results106, go_sem, c0, c1, c2, c3, c4]) rfl ⟨rfl, ?_⟩
  exact below_five (below_then (below_al (Below.refl _ _) _) hb1) (Nat.le_refl _) _ _ _ _ _

set_option maxRecDepth 100000 in
set_option maxHeartbeats 4000000 in
theorem refGet_sound (A : Option Addr) (c : Nat) (l : List Int) (w : World) (hx : Lies .u8 w w.heap.size A 14 l) (hb : ∀ x ∈ l, 0 ≤ x ∧ x ≤ 255) (hc : 14 ≤ c) (hk : checkB l = true) :
    Calls Tryz.prog 106 #[.slice A 14 c] w fun e w' => e = .returned (.tuple #[.agg #[.int .i64 (getF l).o, .int .u8 (getF l).k, .int .u8 (getF l).s, .int .u32 (getF l).q, .int .u32 (getF l).v], .int .i64 (getE l)]) ∧ Below w.heap.size w w' := by
  have hl := hx.len
  have HC := Lib.hid (fun u (h : Lies .u8 u u.heap.size A 14 l) => (refCheck_long A 14 c l u h hb (by omega) hc (by omega)).mono (R' := fun e w' => e = .returned (.tuple #[.slice A 10 c, .bool true]) ∧ Below u.heap.size u w') fun e w' h => by
    rcases h with ⟨h, _⟩ | ⟨_, h⟩
    · rw [hk] at h; cases h
    · exact h)
  have hx1 := hx.al (.cells #[.int .i64 0, .int .u8 0, .int .u8 0, .int .u32 0, .int .u32 0] 123)
  have hF := Blk.new w 123 #[.int .i64 0, .int .u8 0, .int .u8 0, .int .u32 0, .int .u32 0]
  obtain ⟨b, off, rfl, hbl, hcell⟩ := hx.at_ (by omega)
  have hm : ∀ i, i < 14 → 0 ≤ l.getD i 0 ∧ l.getD i 0 ≤ 255 := fun i hi => hb _ (by rw [getD_at l i (by omega)]; exact List.getElem_mem _)
  have hx0 := hm 0 (by omega)
  have HMB := Lib.hid hm
  have HQS := Lib.hid (fun i (hi : i < 4) => show numB ((l.drop 2).take (i + 1)) = numB ((l.drop 2).take i) * 256 + l.getD (i + 2) 0 by
    rw [numB_snoc _ _ (by simp [hl]; omega), List.getD, List.getElem?_drop, Nat.add_comm 2 i]; rfl)
  have HVS := Lib.hid (fun i (hi : i < 4) => show numB ((l.drop 6).take (i + 1)) = numB ((l.drop 6).take i) * 256 + l.getD (i + 6) 0 by
    rw [numB_snoc _ _ (by simp [hl]; omega), List.getD, List.getElem?_drop, Nat.add_comm 6 i]; rfl)
  have HQB := Lib.hid (fun i (hi : i < 4) => show 0 ≤ numB ((l.drop 2).take i) ∧ numB ((l.drop 2).take i) < 16777216 by
    have h1 := numB_bd (l.drop 2) (fun x hx => hb x (List.mem_of_mem_drop hx)) i (by simp [hl]; omega)
    have h2 := pow256 i hi
    omega)
  have HVB := Lib.hid (fun i (hi : i < 4) => show 0 ≤ numB ((l.drop 6).take i) ∧ numB ((l.drop 6).take i) < 16777216 by
    have h1 := numB_bd (l.drop 6) (fun x hx => hb x (List.mem_of_mem_drop hx)) i (by simp [hl]; omega)
    have h2 := pow256 i hi
    omega)
  have HCE := Lib.hid hcell
  have HM := Lib.hid (fun u => refMay_any (frAt l) u)
  have HGO := Lib.hid (fun h => getE_ok hl hk h)
  have HGF := Lib.hid (fun h => getE_form hl hk h)
  have HFA := Lib.hid (show frAt l = ⟨l.getD 0 0 % 16, l.getD 0 0 / 16, l.getD 1 0, numB ((l.drop 2).take 4), numB ((l.drop 6).take 4)⟩ from rfl)
  obtain ⟨F, hF0⟩ : ∃ F, F = frAt l := ⟨_, rfl⟩
  obtain ⟨G, hG0⟩ : ∃ G, G = getF l := ⟨_, rfl⟩
  obtain ⟨E, hE0⟩ : ∃ E, E = getE l := ⟨_, rfl⟩
  rw [← hF0] at HM HGO HGF HFA
  rw [← hG0, ← hE0] at HGO HGF ⊢
  have k0 := hcell 0 (by omega)
  have k1 := hcell 1 (by omega)
  rw [Nat.add_zero] at k0
  obtain ⟨x, hx2⟩ : ∃ x, x = l.getD 0 0 := ⟨_, rfl⟩
  obtain ⟨y, hy2⟩ : ∃ y, y = l.getD 1 0 := ⟨_, rfl⟩
  rw [← hx2] at HFA hx0 k0
  rw [← hy2] at HFA k1
  obtain ⟨hx00, hx01⟩ := hx0
  rw [HFA.out] at HGO HGF HM
  simp only at HGO HGF HM
  clear hx hb hk hm hF0 hG0 hE0 hx2 hy2 hl hcell
  go_enter Tryz.func106, Tryz.ntmps106
  go_wp2_with (go_at_call 126; (with_reducible refine (HC.out _ hx1).mono ?_); rintro e w1 ⟨rfl, hb1⟩; have hbw := below_then (below_al (Below.refl _ _) _) hb1; have t0 := (hbw.cell (p := ⟨b, off, none⟩) hbl).trans k0; have t1 := (hbw.cell (p := ⟨b, off + 1, none⟩) hbl).trans k1; have hsz := hbw.size; have hbl1 : b < w1.heap.size := by omega)
  have HBW := Lib.hid hbw
  have hF1 := hF.on hb1
  have HF1 := Lib.hid hF1
  clear hF hF1 hb1 hbw hx1 t0 t1 k0 k1 hsz HC
  go_loopw [7] (fun iv wr => ∃ i : Nat, i ≤ 4 ∧ iv = .int .i64 i ∧ Blk wr w1.heap.size 123 #[.int .i64 (x % 16), .int .u8 (x / 16), .int .u8 y, .int .u32 (numB ((l.drop 2).take i)), .int .u32 (numB ((l.drop 6).take i))] ∧ Below w1.heap.size w1 wr) (fun iv _ => 4 - (intOf iv).toNat)
  case atStart => exact ⟨0, by omega, rfl, Blk.new _ _ _, below_al (Below.refl _ _) _⟩
  case round =>
    obtain ⟨i, hi, rfl, hB, hb⟩ := hrel
    by_cases hlt : i < 4
    · have hi3 : (i : Int) ≤ 3 := by omega
      have hi0 : (0 : Int) ≤ (i : Int) := by omega
      obtain ⟨q0, q1⟩ := HQB.out i hlt
      obtain ⟨v0, v1⟩ := HVB.out i hlt
      have HQ1 := Lib.hid (HQS.out i hlt)
      have HV1 := Lib.hid (HVS.out i hlt)
      have e2 := (hb.cell (p := ⟨b, off + (i + 2), none⟩) hbl1).trans ((HBW.out.cell (p := ⟨b, off + (i + 2), none⟩) hbl).trans (HCE.out (i + 2) (by omega)))
      have e6 := (hb.cell (p := ⟨b, off + (i + 6), none⟩) hbl1).trans ((HBW.out.cell (p := ⟨b, off + (i + 6), none⟩) hbl).trans (HCE.out (i + 6) (by omega)))
      obtain ⟨xa0, xa1⟩ := HMB.out (i + 2) (by omega)
      obtain ⟨xb0, xb1⟩ := HMB.out (i + 6) (by omega)
      have hixJ := fun W => idxBytes (n := 10) c (k := i + 2) (b := b) (off := off) rfl (by omega) W
      have hixK := fun W => idxBytes (n := 10) c (k := i + 6) (b := b) (off := off) rfl (by omega) W
      obtain ⟨J, hJ⟩ : ∃ J, J = i + 2 := ⟨_, rfl⟩
      obtain ⟨K, hK⟩ : ∃ K, K = i + 6 := ⟨_, rfl⟩
      have hJi : 2 + (i : Int) = (J : Int) := by omega
      have hKi : 6 + (i : Int) = (K : Int) := by omega
      rw [← hJ] at e2 xa0 xa1 hixJ HQ1
      rw [← hK] at e6 xb0 xb1 hixK HV1
      clear hJ hK
      obtain ⟨xa, hxa⟩ : ∃ xa, xa = l.getD J 0 := ⟨_, rfl⟩
      obtain ⟨xb, hxb⟩ : ∃ xb, xb = l.getD K 0 := ⟨_, rfl⟩
      obtain ⟨q, hq⟩ : ∃ q, q = numB ((l.drop 2).take i) := ⟨_, rfl⟩
      obtain ⟨v, hv⟩ : ∃ v, v = numB ((l.drop 6).take i) := ⟨_, rfl⟩
      rw [← hxa] at e2 xa0 xa1 HQ1
      rw [← hxb] at e6 xb0 xb1 HV1
      rw [← hq] at q0 q1 HQ1 hB
      rw [← hv] at v0 v1 HV1 hB
      have hgl := hB.lt
      have c3 := hB.cell 3
      have c4 := hB.cell 4
      simp only [List.getElem?_toArray, List.getElem?_cons_zero, List.getElem?_cons_succ] at c3 c4
      have f3 := hB.frozen 3
      have f4 := hB.frozen 4
      have HB3 := Lib.hid ((hB.set_ 3 (.int .u32 (256 * q + xa))).set_ 4 (.int .u32 (256 * v + xb)))
      have HB4 := Lib.hid ((hb.setCell (p := ⟨w1.heap.size, 3, none⟩) (Nat.le_refl _) (.int .u32 (256 * q + xa))).setCell (p := ⟨w1.heap.size, 4, none⟩) (Nat.le_refl _) (.int .u32 (256 * v + xb)))
      clear hB hb hxa hxb hq hv
      go_wp2_with fail
      go_region
      go_wp2_with fail
      go_region
      go_wp2_with fail
      go_roundw
      case rel => exact ⟨i + 1, by omega, by go_num, by rw [HQ1.out, HV1.out, Int.mul_comm q, Int.mul_comm v]; exact HB3.out, ⟨HB4.out.os, HB4.out.tape, HB4.out.output, HB4.out.size, HB4.out.block⟩⟩
      case measure => simp [intOf]; omega
    · obtain rfl : i = 4 := by omega
      have hF2 := HF1.out.below hb HF1.out.lt
      have hL := hB
      have hb2 := below_then HBW.out hb
      have HR := Lib.hid (show ∀ i, Ending.returned (.tuple #[.agg #[.int .i64 Fr.zero.o, .int .u8 Fr.zero.k, .int .u8 Fr.zero.s, .int .u32 Fr.zero.q, .int .u32 Fr.zero.v], .int .i64 i]) = .returned (.tuple #[.agg #[.int .i64 0, .int .u8 0, .int .u8 0, .int .u32 0, .int .u32 0], .int .i64 i]) from fun _ => rfl)
      obtain ⟨q, hq⟩ : ∃ q, q = numB ((l.drop 2).take 4) := ⟨_, rfl⟩
      obtain ⟨v, hv⟩ : ∃ v, v = numB ((l.drop 6).take 4) := ⟨_, rfl⟩
      rw [← hq] at hL HGO HM
      rw [← hv] at hL HGO HM
      clear hB hb hq hv hlt hi
      have l0 := hL.cell 0
      have l1 := hL.cell 1
      have l2 := hL.cell 2
      have l3 := hL.cell 3
      have l4 := hL.cell 4
      simp only [List.getElem?_toArray, List.getElem?_cons_zero, List.getElem?_cons_succ] at l0 l1 l2 l3 l4
      have hll := hL.lt
      by_cases hm : mayB (x % 16) (x / 16) = true
      · obtain ⟨hE, hG⟩ := HGO.out hm
        rw [hm] at HM
        subst hE hG
        go_wp2_with (go_at_call 120; (with_reducible refine (HM.out _).mono ?_); rintro e w3 ⟨rfl, hb3⟩; have hF3 := hF2.on hb3; have hlt := hF3.lt; have c0 := hF3.cell 0; have c1 := hF3.cell 1; have c2 := hF3.cell 2; have c3 := hF3.cell 3; have c4 := hF3.cell 4; have f0 := hF3.frozen 0; have f1 := hF3.frozen 1; have f2 := hF3.frozen 2; have f3 := hF3.frozen 3; have f4 := hF3.frozen 4; simp only [List.getElem?_toArray, List.getElem?_cons_zero, List.getElem?_cons_succ] at c0 c1 c2 c3 c4; have hL3 := hL.on hb3; have hlt' := hL3.lt; have d0 := hL3.cell 0; have d1 := hL3.cell 1; have d2 := hL3.cell 2; have d3 := hL3.cell 3; have d4 := hL3.cell 4; simp only [List.getElem?_toArray, List.getElem?_cons_zero, List.getElem?_cons_succ] at d0 d1 d2 d3 d4)
        refine bodyPost_ret (v := .tuple #[.agg #[.int .i64 (x % 16), .int .u8 (x / 16), .int .u8 y, .int .u32 q, .int .u32 v], .int .i64 0]) (by simp [results, Tryz.results106, go_sem, c0, c1, c2, c3, c4]) rfl ⟨rfl, ?_⟩
        exact below_five (below_then hb2 hb3) (Nat.le_refl _) _ _ _ _ _
      · have hm' : mayB (x % 16) (x / 16) = false := by simpa using hm
        obtain ⟨hE, hG⟩ := HGF.out hm'
        rw [hm'] at HM
        clear hm hm'
        subst hE hG
        go_wp2_with (go_at_call 120; (with_reducible refine (HM.out _).mono ?_); rintro e w3 ⟨rfl, hb3⟩; have hF3 := hF2.on hb3; have hlt := hF3.lt; have c0 := hF3.cell 0; have c1 := hF3.cell 1; have c2 := hF3.cell 2; have c3 := hF3.cell 3; have c4 := hF3.cell 4; have f0 := hF3.frozen 0; have f1 := hF3.frozen 1; have f2 := hF3.frozen 2; have f3 := hF3.frozen 3; have f4 := hF3.frozen 4; simp only [List.getElem?_toArray, List.getElem?_cons_zero, List.getElem?_cons_succ] at c0 c1 c2 c3 c4)
        refine bodyPost_ret (v := .tuple #[.agg #[.int .i64 0, .int .u8 0, .int .u8 0, .int .u32 0, .int .u32 0], .int .i64 4]) (by simp [results, Tryz.results106, go_sem, c0, c1, c2, c3, c4]) rfl ⟨(HR.out 4).symm, ?_⟩
        exact below_five (below_then hb2 hb3) (Nat.le_refl _) _ _ _ _ _

theorem refGet_any (A : Option Addr) (n c : Nat) (l : List Int) (w : World) (hx : Lies .u8 w w.heap.size A n l) (hb : ∀ x ∈ l, 0 ≤ x ∧ x ≤ 255) (hc : n ≤ c) :
    Calls Tryz.prog 106 #[.slice A n c] w fun e w' => e = .returned (.tuple #[.agg #[.int .i64 (getF l).o, .int .u8 (getF l).k, .int .u8 (getF l).s, .int .u32 (getF l).q, .int .u32 (getF l).v], .int .i64 (getE l)]) ∧ Below w.heap.size w w' := by
  have hl := hx.len
  by_cases h : n = 14
  · subst h
    by_cases hk : checkB l = true
    · exact refGet_sound A c l w hx hb hc hk
    · have hk' : checkB l = false := by simpa using hk
      obtain ⟨e1, e2⟩ := getE_sum hl hk'
      rw [e1, e2]
      exact refGet_sum A c l w hx hb hc hk'
  · obtain ⟨e1, e2⟩ := getE_len (l := l) (by omega)
    rw [e1, e2]
    exact refGet_len A n c w h
end Go.Proofs.YtkejpkcaojidaaaGreatDoor

