/-
  The law's words on words: the contracts of Great and fine. Conditions: the word's reading.
-/
import Derived.Test.YtcangipaoancnaaWdC1
namespace Go.Proofs.Ytcangipaoancnaa
open Go.RowKit
set_option linter.unusedVariables false
set_option linter.unusedSimpArgs false

def RetB (e : Ending) : Prop := ∃ g, e = .returned (.bool g)
set_option maxRecDepth 100000 in
set_option maxHeartbeats 2000000 in
theorem great_is (A : Option Addr) (m c : Nat) (R : Nat → Rw) (w : World) (hR : LiesR w w.heap.size A m R) (hm : m ≤ 9223372036854775807) :
    Calls Try.prog 49 #[.agg #[.slice A m c]] w fun e w' => RetB e ∧ Below w.heap.size w w' := by
  have HR := Lib.hid hR
  clear hR
  go_enter Try.func49, Try.ntmps49
  go_upto_region 1 with fail
  refine wp_at (fun U => Blk U w.heap.size 34 #[.slice A m c] ∧ Below w.heap.size w U) ⟨Blk.new w _ _, below_al (Below.refl _ w) _⟩ ?_
  rintro U ⟨h1, h2⟩
  have c0 : U.cell? ⟨w.heap.size, 0, none⟩ = some (.slice A m c) := h1.cell 0
  have l0 := h1.lt
  have HX := Lib.hid h1
  have HB := Lib.hid h2
  clear h1 h2
  go_wp2_with fail
  go_loopw [3, 4] (fun sv iv wr => ∃ (k : Nat) (s : Int), k ≤ m ∧ iv = .int .i64 (k : Int) ∧ sv = .int .i64 s ∧ Hid (Below U.heap.size U wr)) (fun _ iv _ => m - (intOf iv).toNat)
  case atStart => exact ⟨0, m, by omega, rfl, rfl, Lib.hid (Below.refl _ _)⟩
  case round =>
    clear c0 l0
    obtain ⟨k, s, hk, rfl, rfl, HBW⟩ := hrel
    have c0 : wr.cell? ⟨w.heap.size, 0, none⟩ = some (.slice A m c) := (HX.out.on HBW.out).cell 0
    have l0 := (HX.out.on HBW.out).lt
    by_cases hlt : k < m
    · by_cases hs : s < 900
      · obtain ⟨ba, oa, rfl, hba, hca⟩ := HR.out.f (by omega)
        have HL := Lib.hid (HB.out.trans (HBW.out.mono HB.out.size))
        have hix := fun W => idxRows (A := some ⟨ba, oa, none⟩) (n := m) c rfl hlt W
        have cn : wr.cell? ⟨ba, oa + k * 57 + 56, none⟩ = some (.slice (R k).A (R k).n (R k).p) := by
          have := hca k hlt 56 (.slice (R k).A (R k).n (R k).p) (ro_tab _ _ _ _ _)
          exact (HL.out.cell (p := ⟨ba, _, none⟩) hba).trans this
        have lb : ba < wr.heap.size := Nat.lt_of_lt_of_le hba HL.out.size
        clear hca hba
        go_wp2_with fail
        go_roundw
        case rel => exact ⟨k + 1, _, by omega, by go_num, rfl, HBW⟩
        case measure => simp [intOf]; omega
      · have hs' : decide (s < 900) = false := by simpa using hs
        go_wp2_with fail
        go_ret
        exact ⟨⟨_, rfl⟩, HB.out.trans (HBW.out.mono HB.out.size)⟩
    · have hk' : decide ((k : Int) < m) = false := by simp; omega
      go_wp2_with fail
      go_ret
      exact ⟨⟨_, rfl⟩, HB.out.trans (HBW.out.mono HB.out.size)⟩
def fiS (s : Sa) : Bool := tmB s.a && (if s.i = true then (s.k == 1 || s.k == 2) else saE s saN)
def fiC (c : Ce) : Bool := fiS c.o && (fiS c.r && (decide (-1 ≤ c.a) && (decide (c.a ≤ 1099511627776) && (decide (-1 ≤ c.v.c) && (decide (c.v.c < 8) && decide (c.v.d < 8))))))
theorem fiS_pl (s : Sa) : fiS (plS s) = true := by
  unfold plS
  by_cases h : okS s = true
  · rw [if_pos h]
    simp only [okS, Bool.and_eq_true] at h
    simp [fiS, h.1, h.2.1]
    simpa using h.2.2
  · rw [if_neg h]; rfl
theorem fiS_id {s : Sa} (h : fiS s = true) : plS s = s := by
  simp only [fiS, Bool.and_eq_true] at h
  by_cases hi : s.i = true
  · rw [if_pos hi] at h
    unfold plS
    rw [if_pos]
    simp only [okS, Bool.and_eq_true]
    exact ⟨hi, h.1, h.2⟩
  · rw [if_neg hi] at h
    rw [(saE_iff _ _).1 h.2]
    rfl
theorem fiC_pl (c : Ce) : fiC (plC c) = true := by
  unfold fiC plC plV
  simp only [fiS_pl, Bool.true_and, Bool.and_eq_true, decide_eq_true_eq]
  refine ⟨?_, ?_, ?_, ?_, ?_⟩
  · unfold plA1; split
    · rename_i h; simp [tmB] at h; omega
    · omega
  · unfold plA1; split
    · rename_i h; simp [tmB] at h; omega
    · omega
  · unfold plC1; split
    · omega
    · rename_i h; simp at h; omega
  · unfold plC1; split
    · omega
    · rename_i h; simp at h; omega
  · unfold plD1; split
    · omega
    · rename_i h; simp at h; omega
theorem fiC_id {c : Ce} (h : fiC c = true) : plC c = c := by
  simp only [fiC, Bool.and_eq_true, decide_eq_true_eq] at h
  obtain ⟨h1, h2, h3, h4, h5, h6, h7⟩ := h
  obtain ⟨a, o, r, v⟩ := c
  unfold plC plV
  simp only [Ce.mk.injEq] at *
  refine ⟨?_, fiS_id h1, fiS_id h2, ?_⟩
  · unfold plA1; split
    · rfl
    · rename_i h; simp [tmB] at h; omega
  · obtain ⟨n, mm, g, s, t, cc, d⟩ := v
    simp only [Vw.mk.injEq, true_and] at *
    refine ⟨?_, ?_⟩
    · unfold plC1; split
      · rename_i h; simp at h; omega
      · rfl
    · unfold plD1; split
      · rename_i h; simp at h; omega
      · rfl
set_option maxRecDepth 100000 in
theorem sizeSaids (w : World) : (sizeOf 42).run Try.prog w = .ok 6 w := by kernel_rfl
set_option maxRecDepth 100000 in
theorem infoSaid : (Try.prog.info? 42).map (fun i => (i.zero, i.size, i.bytes)) = some (some (.agg (saL saN).toArray), 6, 32) := by kernel_rfl
set_option maxRecDepth 100000 in
theorem built_said0 : (Try.prog).built 42 [] = some (saL saN).toArray := by kernel_rfl
theorem fiC_no1 {c : Ce} (h : fiS c.o = false) : fiC c = false := by simp [fiC, h]
theorem fiC_no2 {c : Ce} (h : fiS c.r = false) : fiC c = false := by simp [fiC, h]
end Go.Proofs.Ytcangipaoancnaa

