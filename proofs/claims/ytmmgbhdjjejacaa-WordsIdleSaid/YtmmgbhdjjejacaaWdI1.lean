/-
  The law's words on words: the contracts of Great and fine. Conditions: the word's reading.
-/
import Derived.Test.YtmmgbhdjjejacaaWdL2
namespace Go.Proofs.Ytmmgbhdjjejacaa
open Go.RowKit
set_option linter.unusedVariables false
set_option linter.unusedSimpArgs false

def RetB (e : Ending) : Prop := ∃ g, e = .returned (.bool g)
set_option maxRecDepth 100000 in
set_option maxHeartbeats 2000000 in
theorem great_is (A : Option Addr) (m c : Nat) (R : Nat → Rw) (w : World) (hR : LiesR w w.heap.size A m R) (hm : m ≤ 9223372036854775807) :
    Calls Try.prog 11 #[.agg #[.slice A m c]] w fun e w' => RetB e ∧ Below w.heap.size w w' := by
  have HR := Lib.hid hR
  clear hR
  go_enter Try.func11, Try.ntmps11
  go_upto_region 1 with fail
  refine wp_at (fun U => Blk U w.heap.size 24 #[.slice A m c] ∧ Below w.heap.size w U) ⟨Blk.new w _ _, below_al (Below.refl _ w) _⟩ ?_
  rintro U ⟨h1, h2⟩
  have c0 : U.cell? ⟨w.heap.size, 0, none⟩ = some (.slice A m c) := h1.cell 0
  have l0 := h1.lt
  have HX := Lib.hid h1
  have HB := Lib.hid h2
  clear h1 h2
  go_wp2_with fail
  go_loopw [3, 4] (fun sv iv wr => ∃ (k : Nat) (s : Int), k ≤ m ∧ iv = .int .i64 (k : Int) ∧ sv = .int .i64 s ∧ Hid (Below U.heap.size U wr)) (fun _ iv _ => m - (intOf iv).toNat)
  case atStart => exact ⟨0, m, by omega, rfl, rfl, Lib.hid (Below.refl _ _)⟩
  case round =>
    clear c0 l0
    obtain ⟨k, s, hk, rfl, rfl, HBW⟩ := hrel
    have c0 : wr.cell? ⟨w.heap.size, 0, none⟩ = some (.slice A m c) := (HX.out.on HBW.out).cell 0
    have l0 := (HX.out.on HBW.out).lt
    by_cases hlt : k < m
    · by_cases hs : s < 900
      · obtain ⟨ba, oa, rfl, hba, hca⟩ := HR.out.f (by omega)
        have HL := Lib.hid (HB.out.trans (HBW.out.mono HB.out.size))
        have hix := fun W => idxRows (A := some ⟨ba, oa, none⟩) (n := m) c rfl hlt W
        have cn : wr.cell? ⟨ba, oa + k * 57 + 56, none⟩ = some (.slice (R k).A (R k).n (R k).p) := by
          have := hca k hlt 56 (.slice (R k).A (R k).n (R k).p) (ro_tab _ _ _ _ _)
          exact (HL.out.cell (p := ⟨ba, _, none⟩) hba).trans this
        have lb : ba < wr.heap.size := Nat.lt_of_lt_of_le hba HL.out.size
        clear hca hba
        go_wp2_with fail
        go_roundw
        case rel => exact ⟨k + 1, _, by omega, by go_num, rfl, HBW⟩
        case measure => simp [intOf]; omega
      · have hs' : decide (s < 900) = false := by simpa using hs
        go_wp2_with fail
        go_ret
        exact ⟨⟨_, rfl⟩, HB.out.trans (HBW.out.mono HB.out.size)⟩
    · have hk' : decide ((k : Int) < m) = false := by simp; omega
      go_wp2_with fail
      go_ret
      exact ⟨⟨_, rfl⟩, HB.out.trans (HBW.out.mono HB.out.size)⟩
def fiS (s : Sa) : Bool := tmB s.a && (if s.i = true then (s.k == 1 || s.k == 2) else saE s saN)
def fiC (c : Ce) : Bool := fiS c.o && (fiS c.r && (decide (-1 ≤ c.a) && (decide (c.a ≤ 1099511627776) && (decide (-1 ≤ c.v.c) && (decide (c.v.c < 8) && decide (c.v.d < 8))))))
theorem fiS_pl (s : Sa) : fiS (plS s) = true := by
  unfold plS
  by_cases h : okS s = true
  · rw [if_pos h]
    simp only [okS, Bool.and_eq_true] at h
    simp [fiS, h.1, h.2.1]
    simpa using h.2.2
  · rw [if_neg h]; rfl
theorem fiS_id {s : Sa} (h : fiS s = true) : plS s = s := by
  simp only [fiS, Bool.and_eq_true] at h
  by_cases hi : s.i = true
  · rw [if_pos hi] at h
    unfold plS
    rw [if_pos]
    simp only [okS, Bool.and_eq_true]
    exact ⟨hi, h.1, h.2⟩
  · rw [if_neg hi] at h
    rw [(saE_iff _ _).1 h.2]
    rfl
theorem fiC_pl (c : Ce) : fiC (plC c) = true := by
  unfold fiC plC plV
  simp only [fiS_pl, Bool.true_and, Bool.and_eq_true, decide_eq_true_eq]
  refine ⟨?_, ?_, ?_, ?_, ?_⟩
  · unfold plA1; split
    · rename_i h; simp [tmB] at h; omega
    · omega
  · unfold plA1; split
    · rename_i h; simp [tmB] at h; omega
    · omega
  · unfold plC1; split
    · omega
    · rename_i h; simp at h; omega
  · unfold plC1; split
    · omega
    · rename_i h; simp at h; omega
  · unfold plD1; split
    · omega
    · rename_i h; simp at h; omega
theorem fiC_id {c : Ce} (h : fiC c = true) : plC c = c := by
  simp only [fiC, Bool.and_eq_true, decide_eq_true_eq] at h
  obtain ⟨h1, h2, h3, h4, h5, h6, h7⟩ := h
  obtain ⟨a, o, r, v⟩ := c
  unfold plC plV
  simp only [Ce.mk.injEq] at *
  refine ⟨?_, fiS_id h1, fiS_id h2, ?_⟩
  · unfold plA1; split
    · rfl
    · rename_i h; simp [tmB] at h; omega
  · obtain ⟨n, mm, g, s, t, cc, d⟩ := v
    simp only [Vw.mk.injEq, true_and] at *
    refine ⟨?_, ?_⟩
    · unfold plC1; split
      · rename_i h; simp at h; omega
      · rfl
    · unfold plD1; split
      · rename_i h; simp at h; omega
      · rfl
set_option maxRecDepth 100000 in
theorem elemSaids : Try.prog.underlying 138 = some (.slice 42) := by kernel_rfl
set_option maxRecDepth 100000 in
theorem sizeSaids (w : World) : (sizeOf 42).run Try.prog w = .ok 6 w := by kernel_rfl
set_option maxRecDepth 100000 in
theorem infoSaid : (Try.prog.info? 42).map (fun i => (i.zero, i.size, i.bytes)) = some (some (.agg (saL saN).toArray), 6, 32) := by kernel_rfl
set_option maxRecDepth 100000 in
theorem idxSaids {g j : Nat} (hj : j < 2) (w : World) : (Instr.indexAt 138 (.slice (some ⟨g, 0, none⟩) 2 2) (.int .i64 (j : Int))).run Try.prog w = .ok (.pointer (some ⟨g, j * 6, none⟩)) w := by
  rw [run_indexAt_slice (h := elemSaids), if_pos (by omega), show Try.prog.elem 138 = 42 by kernel_rfl, sizeSaids]
  simp [Result.andThen, Addr.add_lit]
set_option maxRecDepth 100000 in
theorem built_said0 : (Try.prog).built 42 [] = some (saL saN).toArray := by kernel_rfl
theorem fiC_no1 {c : Ce} (h : fiS c.o = false) : fiC c = false := by simp [fiC, h]
theorem fiC_no2 {c : Ce} (h : fiS c.r = false) : fiC c = false := by simp [fiC, h]
set_option maxRecDepth 100000 in
set_option maxHeartbeats 8000000 in
theorem fine_is (c : Ce) (w : World) :
    Calls Try.prog 30 #[.agg (ceL c).toArray] w fun e w' => e = .returned (.bool (fiC c)) ∧ Below w.heap.size w w' := by
  obtain ⟨i0, hi0, hz0, hz1, hz2⟩ := info_parts infoSaid
  have HI := Lib.hid hi0
  have HZ0 := Lib.hid hz0
  have HZ1 := Lib.hid hz1
  have HBS := Lib.hid built_said0
  clear hi0 hz0 hz1 hz2
  go_enter Try.func30, Try.ntmps30
  go_upto_region 1 with fail
  refine wp_at (fun U => Blk U w.heap.size 51 (ceL c).toArray ∧ Below w.heap.size w U) ⟨Blk.new w _ _, below_al (Below.refl _ w) _⟩ ?_
  rintro U ⟨h1, h2⟩
  have HO : Hid (PIn U w.heap.size 1 51 [.int .i64 c.a] (saL c.r ++ vwL c.v) (saL c.o)) := Lib.hid (by simpa using PIn.part (P := [.int .i64 c.a]) (M := saL c.o) (S := saL c.r ++ vwL c.v) (o := 1) (h1.pin.cs rfl) rfl)
  have HRR : Hid (PIn U w.heap.size 7 51 (.int .i64 c.a :: saL c.o) (vwL c.v) (saL c.r)) := Lib.hid (by simpa using PIn.part (P := .int .i64 c.a :: saL c.o) (M := saL c.r) (S := vwL c.v) (o := 7) (h1.pin.cs (by simp [ceL])) rfl)
  have HX := Lib.hid h1
  have HB := Lib.hid h2
  clear h1 h2
  go_upto_region 2 with (first
    | (refine wpList_load_pin rfl 42 (.tmp 5) rfl HO.out (by simp [Act.eval, Act.put]) _ Try.underlying42 rfl 6 size_sa rfl ?_)
    | (refine wpList_load_pin rfl 42 (.tmp 7) rfl HRR.out (by simp [Act.eval, Act.put]) _ Try.underlying42 rfl 6 size_sa rfl ?_)
    | (refine wpList_bsl rfl 138 2 _ rfl #[(0, .agg (saL c.o).toArray), (1, .agg (saL c.r).toArray)] (by simp [Act.eval, Act.put]) _ _ (run_bsl_two (P := Try.prog) U 138 42 i0 (saL saN) 6 elemSaids HI.out HZ0.out HZ1.out rfl (by decide) (by decide) (saL c.o) (saL c.r) rfl rfl) ?_))
  refine wp_at (fun V => Blk V w.heap.size 51 (ceL c).toArray ∧ Blk V U.heap.size 42 (saL c.o ++ saL c.r).toArray ∧ Below w.heap.size w V) ⟨HX.out.on (below_al (Below.refl _ U) _), Blk.new U _ _, below_al HB.out _⟩ ?_
  obtain ⟨g, hg⟩ : ∃ g, g = U.heap.size := ⟨_, rfl⟩
  rw [← hg]
  clear HX HB HO HRR hg
  rintro V ⟨h1, h2, h3⟩
  have HX := Lib.hid h1
  have HY := Lib.hid h2
  have HB := Lib.hid h3
  clear h1 h2 h3
  obtain ⟨ao, ⟨oi, oa, ok, os, oq, ov⟩, ⟨ri, ra, rk, rs, rq, rv⟩, vv⟩ := c
  go_wp2_with fail
  go_loopw [4] (fun iv wr => ∃ k : Nat, k ≤ 2 ∧ iv = .int .i64 (k : Int) ∧ Hid ((0 < k → fiS ⟨oi, oa, ok, os, oq, ov⟩ = true) ∧ (1 < k → fiS ⟨ri, ra, rk, rs, rq, rv⟩ = true)) ∧ Hid (Below V.heap.size V wr)) (fun iv _ => 2 - (intOf iv).toNat)
  case atStart => exact ⟨0, by omega, rfl, Lib.hid ⟨fun h => absurd h (by omega), fun h => absurd h (by omega)⟩, Lib.hid (Below.refl _ _)⟩
  case round =>
    obtain ⟨k, hk, rfl, HF, HBW⟩ := hrel
    have HYW := Lib.hid (HY.out.on HBW.out)
    have ly := HYW.out.lt
    rcases (show k = 0 ∨ k = 1 ∨ k = 2 by omega) with rfl | rfl | rfl
    · have HPS : Hid (PIn wr g 0 42 ([]) (saL ⟨ri, ra, rk, rs, rq, rv⟩) (saL ⟨oi, oa, ok, os, oq, ov⟩)) := Lib.hid (by simpa using PIn.part (P := []) (M := saL ⟨oi, oa, ok, os, oq, ov⟩) (S := saL ⟨ri, ra, rk, rs, rq, rv⟩) (o := 0) HYW.out.pin rfl)
      have hix := fun W => idxSaids (g := g) (j := 0) (by omega) W
      have ci : wr.cell? ⟨g, 0, none⟩ = some (.bool oi) := by have := HPS.out.cell 0 (by simp [saL]); simpa [saL] using this
      have cA : wr.cell? ⟨g, 0 + 1, none⟩ = some (.int .i64 oa) := by have := HPS.out.cell 1 (by simp [saL]); simpa [saL] using this
      have ck : wr.cell? ⟨g, 0 + 2, none⟩ = some (.int .u8 ok) := by have := HPS.out.cell 2 (by simp [saL]); simpa [saL] using this
      have hne := fun W => said_neq ⟨oi, oa, ok, os, oq, ov⟩ saN W
      simp only [Nat.reduceMul, Nat.reduceAdd] at hix ci cA ck
      by_cases ha : oa < 0
      · go_wp2_with (first
          | (refine wpList_load_want 42 (.tmp 38) rfl g 0 (saL ⟨oi, oa, ok, os, oq, ov⟩) HPS.out.range (by simp [Act.eval, Act.put]) (by kernel_rfl) _ Try.underlying42 rfl (by rw [size_sa]; rfl) ?_)
          | (refine wpList_build_want 42 _ rfl (saL saN).toArray (by simpa [Act.eval, Act.put] using HBS.out) (by kernel_rfl) ?_))
        go_ret
        exact ⟨by rw [fiC_no1 (by simp [fiS, tmB]; intro h; omega)]; rfl, HB.out.trans (HBW.out.mono HB.out.size)⟩
      · have ha' : decide (oa < 0) = false := by simp; omega
        by_cases hb : 1099511627776 < oa
        · go_wp2_with (first
            | (refine wpList_load_want 42 (.tmp 38) rfl g 0 (saL ⟨oi, oa, ok, os, oq, ov⟩) HPS.out.range (by simp [Act.eval, Act.put]) (by kernel_rfl) _ Try.underlying42 rfl (by rw [size_sa]; rfl) ?_)
            | (refine wpList_build_want 42 _ rfl (saL saN).toArray (by simpa [Act.eval, Act.put] using HBS.out) (by kernel_rfl) ?_))
          go_ret
          exact ⟨by rw [fiC_no1 (by simp [fiS, tmB]; intro h1 h2; omega)]; rfl, HB.out.trans (HBW.out.mono HB.out.size)⟩
        · have hb' : decide (1099511627776 < oa) = false := by simp; omega
          have htm : tmB oa = true := by simp [tmB]; omega
          cases oi
          · obtain ⟨t, ht⟩ : ∃ t, t = saE ⟨false, oa, ok, os, oq, ov⟩ saN := ⟨_, rfl⟩
            rw [← ht] at hne
            have HTT := Lib.hid ht
            clear ht
            cases t
            · go_wp2_with (first
                | (refine wpList_load_want 42 (.tmp 38) rfl g 0 (saL ⟨false, oa, ok, os, oq, ov⟩) HPS.out.range (by simp [Act.eval, Act.put]) (by kernel_rfl) _ Try.underlying42 rfl (by rw [size_sa]; rfl) ?_)
                | (refine wpList_build_want 42 _ rfl (saL saN).toArray (by simpa [Act.eval, Act.put] using HBS.out) (by kernel_rfl) ?_))
              go_ret
              exact ⟨by rw [fiC_no1 (by simp only [fiS, Bool.false_eq_true, if_false]; rw [← HTT.out]; simp)]; rfl, HB.out.trans (HBW.out.mono HB.out.size)⟩
            · have hfin : fiS ⟨false, oa, ok, os, oq, ov⟩ = true := by simp only [fiS, Bool.false_eq_true, if_false]; rw [← HTT.out, htm]; rfl
              go_wp2_with (first
                | (refine wpList_load_want 42 (.tmp 38) rfl g 0 (saL ⟨false, oa, ok, os, oq, ov⟩) HPS.out.range (by simp [Act.eval, Act.put]) (by kernel_rfl) _ Try.underlying42 rfl (by rw [size_sa]; rfl) ?_)
                | (refine wpList_build_want 42 _ rfl (saL saN).toArray (by simpa [Act.eval, Act.put] using HBS.out) (by kernel_rfl) ?_))
              go_roundw
              case rel => exact ⟨1, by omega, by go_num, Lib.hid ⟨fun _ => hfin, fun h => absurd h (by omega)⟩, HBW⟩
              case measure => simp [intOf]
          · by_cases h1 : ok = 1
            · subst h1
              have hfin : fiS ⟨true, oa, 1, os, oq, ov⟩ = true := by simp [fiS, htm]
              go_wp2_with (first
                | (refine wpList_load_want 42 (.tmp 38) rfl g 0 (saL ⟨true, oa, 1, os, oq, ov⟩) HPS.out.range (by simp [Act.eval, Act.put]) (by kernel_rfl) _ Try.underlying42 rfl (by rw [size_sa]; rfl) ?_)
                | (refine wpList_build_want 42 _ rfl (saL saN).toArray (by simpa [Act.eval, Act.put] using HBS.out) (by kernel_rfl) ?_))
              go_roundw
              case rel => exact ⟨1, by omega, by go_num, Lib.hid ⟨fun _ => hfin, fun h => absurd h (by omega)⟩, HBW⟩
              case measure => simp [intOf]
            · have h1' : (ok != 1) = true := bne_iff_ne.2 h1
              by_cases h2 : ok = 2
              · subst h2
                have hfin : fiS ⟨true, oa, 2, os, oq, ov⟩ = true := by simp [fiS, htm]
                go_wp2_with (first
                  | (refine wpList_load_want 42 (.tmp 38) rfl g 0 (saL ⟨true, oa, 2, os, oq, ov⟩) HPS.out.range (by simp [Act.eval, Act.put]) (by kernel_rfl) _ Try.underlying42 rfl (by rw [size_sa]; rfl) ?_)
                  | (refine wpList_build_want 42 _ rfl (saL saN).toArray (by simpa [Act.eval, Act.put] using HBS.out) (by kernel_rfl) ?_))
                go_roundw
                case rel => exact ⟨1, by omega, by go_num, Lib.hid ⟨fun _ => hfin, fun h => absurd h (by omega)⟩, HBW⟩
                case measure => simp [intOf]
              · have h2' : (ok != 2) = true := bne_iff_ne.2 h2
                go_wp2_with (first
                  | (refine wpList_load_want 42 (.tmp 38) rfl g 0 (saL ⟨true, oa, ok, os, oq, ov⟩) HPS.out.range (by simp [Act.eval, Act.put]) (by kernel_rfl) _ Try.underlying42 rfl (by rw [size_sa]; rfl) ?_)
                  | (refine wpList_build_want 42 _ rfl (saL saN).toArray (by simpa [Act.eval, Act.put] using HBS.out) (by kernel_rfl) ?_))
                go_ret
                exact ⟨by rw [fiC_no1 (by simp [fiS, h1, h2])]; rfl, HB.out.trans (HBW.out.mono HB.out.size)⟩
    · have HPS : Hid (PIn wr g 6 42 (saL ⟨oi, oa, ok, os, oq, ov⟩) ([]) (saL ⟨ri, ra, rk, rs, rq, rv⟩)) := Lib.hid (by simpa using PIn.part (P := saL ⟨oi, oa, ok, os, oq, ov⟩) (M := saL ⟨ri, ra, rk, rs, rq, rv⟩) (S := []) (o := 6) (HYW.out.pin.cs (by simp)) rfl)
      have hix := fun W => idxSaids (g := g) (j := 1) (by omega) W
      have ci : wr.cell? ⟨g, 6, none⟩ = some (.bool ri) := by have := HPS.out.cell 0 (by simp [saL]); simpa [saL] using this
      have cA : wr.cell? ⟨g, 6 + 1, none⟩ = some (.int .i64 ra) := by have := HPS.out.cell 1 (by simp [saL]); simpa [saL] using this
      have ck : wr.cell? ⟨g, 6 + 2, none⟩ = some (.int .u8 rk) := by have := HPS.out.cell 2 (by simp [saL]); simpa [saL] using this
      have hne := fun W => said_neq ⟨ri, ra, rk, rs, rq, rv⟩ saN W
      simp only [Nat.reduceMul, Nat.reduceAdd] at hix ci cA ck
      by_cases ha : ra < 0
      · go_wp2_with (first
          | (refine wpList_load_want 42 (.tmp 38) rfl g 6 (saL ⟨ri, ra, rk, rs, rq, rv⟩) HPS.out.range (by simp [Act.eval, Act.put]) (by kernel_rfl) _ Try.underlying42 rfl (by rw [size_sa]; rfl) ?_)
          | (refine wpList_build_want 42 _ rfl (saL saN).toArray (by simpa [Act.eval, Act.put] using HBS.out) (by kernel_rfl) ?_))
        go_ret
        exact ⟨by rw [fiC_no2 (by simp [fiS, tmB]; intro h; omega)]; rfl, HB.out.trans (HBW.out.mono HB.out.size)⟩
      · have ha' : decide (ra < 0) = false := by simp; omega
        by_cases hb : 1099511627776 < ra
        · go_wp2_with (first
            | (refine wpList_load_want 42 (.tmp 38) rfl g 6 (saL ⟨ri, ra, rk, rs, rq, rv⟩) HPS.out.range (by simp [Act.eval, Act.put]) (by kernel_rfl) _ Try.underlying42 rfl (by rw [size_sa]; rfl) ?_)
            | (refine wpList_build_want 42 _ rfl (saL saN).toArray (by simpa [Act.eval, Act.put] using HBS.out) (by kernel_rfl) ?_))
          go_ret
          exact ⟨by rw [fiC_no2 (by simp [fiS, tmB]; intro h1 h2; omega)]; rfl, HB.out.trans (HBW.out.mono HB.out.size)⟩
        · have hb' : decide (1099511627776 < ra) = false := by simp; omega
          have htm : tmB ra = true := by simp [tmB]; omega
          cases ri
          · obtain ⟨t, ht⟩ : ∃ t, t = saE ⟨false, ra, rk, rs, rq, rv⟩ saN := ⟨_, rfl⟩
            rw [← ht] at hne
            have HTT := Lib.hid ht
            clear ht
            cases t
            · go_wp2_with (first
                | (refine wpList_load_want 42 (.tmp 38) rfl g 6 (saL ⟨false, ra, rk, rs, rq, rv⟩) HPS.out.range (by simp [Act.eval, Act.put]) (by kernel_rfl) _ Try.underlying42 rfl (by rw [size_sa]; rfl) ?_)
                | (refine wpList_build_want 42 _ rfl (saL saN).toArray (by simpa [Act.eval, Act.put] using HBS.out) (by kernel_rfl) ?_))
              go_ret
              exact ⟨by rw [fiC_no2 (by simp only [fiS, Bool.false_eq_true, if_false]; rw [← HTT.out]; simp)]; rfl, HB.out.trans (HBW.out.mono HB.out.size)⟩
            · have hfin : fiS ⟨false, ra, rk, rs, rq, rv⟩ = true := by simp only [fiS, Bool.false_eq_true, if_false]; rw [← HTT.out, htm]; rfl
              go_wp2_with (first
                | (refine wpList_load_want 42 (.tmp 38) rfl g 6 (saL ⟨false, ra, rk, rs, rq, rv⟩) HPS.out.range (by simp [Act.eval, Act.put]) (by kernel_rfl) _ Try.underlying42 rfl (by rw [size_sa]; rfl) ?_)
                | (refine wpList_build_want 42 _ rfl (saL saN).toArray (by simpa [Act.eval, Act.put] using HBS.out) (by kernel_rfl) ?_))
              go_roundw
              case rel => exact ⟨2, by omega, by go_num, Lib.hid ⟨fun _ => HF.out.1 (by omega), fun _ => hfin⟩, HBW⟩
              case measure => simp [intOf]
          · by_cases h1 : rk = 1
            · subst h1
              have hfin : fiS ⟨true, ra, 1, rs, rq, rv⟩ = true := by simp [fiS, htm]
              go_wp2_with (first
                | (refine wpList_load_want 42 (.tmp 38) rfl g 6 (saL ⟨true, ra, 1, rs, rq, rv⟩) HPS.out.range (by simp [Act.eval, Act.put]) (by kernel_rfl) _ Try.underlying42 rfl (by rw [size_sa]; rfl) ?_)
                | (refine wpList_build_want 42 _ rfl (saL saN).toArray (by simpa [Act.eval, Act.put] using HBS.out) (by kernel_rfl) ?_))
              go_roundw
              case rel => exact ⟨2, by omega, by go_num, Lib.hid ⟨fun _ => HF.out.1 (by omega), fun _ => hfin⟩, HBW⟩
              case measure => simp [intOf]
            · have h1' : (rk != 1) = true := bne_iff_ne.2 h1
              by_cases h2 : rk = 2
              · subst h2
                have hfin : fiS ⟨true, ra, 2, rs, rq, rv⟩ = true := by simp [fiS, htm]
                go_wp2_with (first
                  | (refine wpList_load_want 42 (.tmp 38) rfl g 6 (saL ⟨true, ra, 2, rs, rq, rv⟩) HPS.out.range (by simp [Act.eval, Act.put]) (by kernel_rfl) _ Try.underlying42 rfl (by rw [size_sa]; rfl) ?_)
                  | (refine wpList_build_want 42 _ rfl (saL saN).toArray (by simpa [Act.eval, Act.put] using HBS.out) (by kernel_rfl) ?_))
                go_roundw
                case rel => exact ⟨2, by omega, by go_num, Lib.hid ⟨fun _ => HF.out.1 (by omega), fun _ => hfin⟩, HBW⟩
                case measure => simp [intOf]
              · have h2' : (rk != 2) = true := bne_iff_ne.2 h2
                go_wp2_with (first
                  | (refine wpList_load_want 42 (.tmp 38) rfl g 6 (saL ⟨true, ra, rk, rs, rq, rv⟩) HPS.out.range (by simp [Act.eval, Act.put]) (by kernel_rfl) _ Try.underlying42 rfl (by rw [size_sa]; rfl) ?_)
                  | (refine wpList_build_want 42 _ rfl (saL saN).toArray (by simpa [Act.eval, Act.put] using HBS.out) (by kernel_rfl) ?_))
                go_ret
                exact ⟨by rw [fiC_no2 (by simp [fiS, h1, h2])]; rfl, HB.out.trans (HBW.out.mono HB.out.size)⟩
    · have HXW := Lib.hid (HX.out.on HBW.out)
      have ca : wr.cell? ⟨w.heap.size, 0, none⟩ = some (.int .i64 ao) := HXW.out.cell 0
      have cc : wr.cell? ⟨w.heap.size, 53, none⟩ = some (.int .i8 vv.c) := by rw [HXW.out.cell, List.getElem?_toArray]; exact ce_c _
      have cd : wr.cell? ⟨w.heap.size, 54, none⟩ = some (.int .u8 vv.d) := by rw [HXW.out.cell, List.getElem?_toArray]; exact ce_d _
      have lx := HXW.out.lt
      have HBZ := Lib.hid (HB.out.trans (HBW.out.mono HB.out.size))
      have f1 := HF.out.1 (by omega)
      have f2 := HF.out.2 (by omega)
      have HF1 := Lib.hid f1
      have HF2 := Lib.hid f2
      clear f1 f2
      by_cases h1 : -1 ≤ ao
      · have h1t : decide (-1 ≤ ao) = true := by simpa using h1
        by_cases h2 : ao ≤ 1099511627776
        · have h2t : decide (ao ≤ 1099511627776) = true := by simpa using h2
          by_cases h3 : -1 ≤ vv.c
          · have h3t : decide (-1 ≤ vv.c) = true := by simpa using h3
            by_cases h4 : vv.c < 8
            · have h4t : decide (vv.c < 8) = true := by simpa using h4
              by_cases h5 : vv.d < 8
              · have h5t : decide (vv.d < 8) = true := by simpa using h5
                go_wp2_with fail
                go_ret
                exact ⟨by simp [fiC, HF1.out, HF2.out, h1, h2, h3, h4, h5], HBZ.out⟩
              · have h5f : decide (vv.d < 8) = false := by simpa using h5
                go_wp2_with fail
                go_ret
                exact ⟨by first | (simp [fiC, h5]; done) | (simp [fiC]; intros; omega), HBZ.out⟩
            · have h4f : decide (vv.c < 8) = false := by simpa using h4
              go_wp2_with fail
              go_ret
              exact ⟨by first | (simp [fiC, h4]; done) | (simp [fiC]; intros; omega), HBZ.out⟩
          · have h3f : decide (-1 ≤ vv.c) = false := by simpa using h3
            go_wp2_with fail
            go_ret
            exact ⟨by first | (simp [fiC, h3]; done) | (simp [fiC]; intros; omega), HBZ.out⟩
        · have h2f : decide (ao ≤ 1099511627776) = false := by simpa using h2
          go_wp2_with fail
          go_ret
          exact ⟨by first | (simp [fiC, h2]; done) | (simp [fiC]; intros; omega), HBZ.out⟩
      · have h1f : decide (-1 ≤ ao) = false := by simpa using h1
        go_wp2_with fail
        go_ret
        exact ⟨by first | (simp [fiC, h1]; done) | (simp [fiC]; intros; omega), HBZ.out⟩
end Go.Proofs.Ytmmgbhdjjejacaa

