/-
  The law's words on rows: plain, at, same, Light. Conditions: the rows' readings.
-/
import Derived.Test.YtcangipaoancnaaRi4
import Derived.Test.YtcangipaoancnaaRi5
namespace Go.Proofs.Ytcangipaoancnaa
open Go.RowKit
set_option linter.unusedVariables false
set_option linter.unusedSimpArgs false

theorem TabS.kept {u v : World} {r : Rw} {ts : List TypeId} (h : TabS u r) (k : KeptBut u v ts) (ht : 102 ∉ ts) : TabS v r := by
  rcases h with h | ⟨g, h1, h2⟩
  · exact .inl h
  · exact .inr ⟨g, h1, k _ _ _ ht h2⟩
theorem TabS.below {u v : World} {r : Rw} (h : TabS u r) (b : Below u.heap.size u v) : TabS v r := by
  rcases h with h | ⟨g, h1, h2⟩
  · exact .inl h
  · exact .inr ⟨g, h1, h2.on b⟩
/-- A list of rows of its own, perhaps with room behind it. -/
structure OwR (u : World) (A : Option Addr) (m : Nat) (Q : Nat → Rw) : Prop where
  b : 0 < m → ∃ g Z, A = some ⟨g, 0, none⟩ ∧ Blk u g 54 (flL (fun i => (Q i).l) m ++ Z).toArray
  t : ∀ i, i < m → TabS u (Q i)
theorem OwR.kr {B : Nat} {u v : World} {A : Option Addr} {m : Nat} {Q : Nat → Rw} (h : OwR u A m Q) (k : KR B u v) : OwR v A m Q := ⟨fun h0 => by
  obtain ⟨g, Z, e, q⟩ := h.b h0
  exact ⟨g, Z, e, k.t _ _ _ (.inl rfl) q⟩, fun i hi => (h.t i hi).on k⟩
theorem OwR.lies {u : World} {A : Option Addr} {m : Nat} {Q : Nat → Rw} (h : OwR u A m Q) : LiesR u u.heap.size A m Q := by
  refine ⟨fun h0 => ?_, fun i hi => (h.t i hi).lies⟩
  obtain ⟨g, Z, e, q⟩ := h.b h0
  refine ⟨g, 0, e, q.lt, fun i hi j v hv => ?_⟩
  have hj : j < 57 := by have := (List.getElem?_eq_some_iff.1 hv).1; rwa [Rw.l_len] at this
  rw [Nat.zero_add, q.cell, List.getElem?_toArray, List.getElem?_append_left (by rw [flL_len (fun _ => Rw.l_len _)]; have : i * 57 + 57 ≤ m * 57 := by rw [← Nat.succ_mul]; exact Nat.mul_le_mul_right _ hi
                                                                                 omega), flL_get (f := fun j => (Q j).l) (fun _ => Rw.l_len _) hi j hj]
  exact hv
theorem OwR.sr {B : Nat} {u : World} {A : Option Addr} {m : Nat} {Q : Nat → Rw} (h : OwR u A m Q) : SR B u A m Q := fun v k => (h.kr k).lies
set_option maxRecDepth 100000 in
set_option maxHeartbeats 4000000 in
theorem plain14_is (N : Nat) (hN : N ≤ 16) (A : Option Addr) (m c : Nat) (hm : m ≤ 65536) (R : Nat → Rw) (w : World) (hR : LiesR w w.heap.size A m R) :
    Calls Try.prog 32 #[.int .i64 (N : Int), .slice A m c] w fun e v => ∃ (A' : Option Addr) (c' : Nat) (Q : Nat → Rw), e = .returned (.slice A' m c') ∧ OwR v A' m Q ∧ (∀ i, i < m → (Q i).ro = plR N (R i).ro) ∧ Below w.heap.size w v := by
  obtain ⟨i0, hi0, hz0, hz1, hz2⟩ := info_parts infoRow
  have HI := Lib.hid hi0
  have HZ0 := Lib.hid hz0
  have HZ1 := Lib.hid hz1
  have HZ2 := Lib.hid hz2
  have HR := Lib.hid hR
  have HM := Lib.hid hm
  have HN := Lib.hid hN
  have HBS := Lib.hid (fun (u : World) (X : Rw) => run_bsl_one (P := Try.prog) u 32 54 i0 (roL false ceN none 0 0) 57 elemRows HI.out HZ0.out HZ1.out (roL_len _ _ _ _ _) (by decide) (by decide) X.l X.l_len)
  clear hi0 hz0 hz1 hz2 hR
  go_enter Try.func32, Try.ntmps32
  go_wp2_with fail
  go_loopw [5, 6] (fun sv iv wr => ∃ k : Nat, k ≤ m ∧ iv = .int .i64 (k : Int) ∧ ∃ (A' : Option Addr) (c' : Nat) (Q : Nat → Rw), sv = .slice A' k c' ∧ Hid (wr.ownsRow w.heap.size 54 57 (.slice A' k c') k (flL (fun i => (Q i).l) k)) ∧ Hid (∀ i, i < k → TabS wr (Q i) ∧ (Q i).ro = plR N (R i).ro) ∧ Hid (Below w.heap.size w wr)) (fun _ iv _ => m - (intOf iv).toNat)
  case atStart => exact ⟨0, by omega, rfl, none, 0, fun _ => rwN, rfl, Lib.hid ownsF_nil, Lib.hid fun i hi => absurd hi (by omega), Lib.hid (Below.refl _ _)⟩
  case round =>
    obtain ⟨k, hk, rfl, A', c', Q, rfl, HO, HT, HB⟩ := hrel
    by_cases hlt : k < m
    · obtain ⟨tb, toff, rfl, htb, hct⟩ := (HR.out.on HB.out).f (by omega)
      have hix := fun W => idxRows (A := some ⟨tb, toff, none⟩) (n := m) c rfl hlt W
      have HRG := Lib.hid (hct k hlt)
      have HTR := Lib.hid ((HR.out.on HB.out).t k hlt)
      have HPL := Lib.hid (plain_any N HN.out (R k) wr HTR.out)
      have HMM := Lib.hid (show (k + 1 : Nat) ≤ maxLen by unfold maxLen; omega)
      have HMB := Lib.hid (show (k + 1) * 160 ≤ 140737488355328 by omega)
      have HSZ := Lib.hid HB.out.size
      clear hct htb
      go_wp2_with (first
        | (refine wpList_load_mid rfl 54 (.tmp 17) rfl tb (toff + k * 57) (by simp [Act.eval, Act.put]) (R k).l _ HRG.out Try.underlying54 rfl (by rw [size_row, Rw.l_len]) ?_)
        | (go_at_call 59; (with_reducible refine HPL.out.mono ?_); rintro e w1 ⟨Lx, rfl, x1, x2⟩; obtain ⟨X, rfl, x3, x4⟩ := x1.tab; have HX3 := Lib.hid x3; have HX4 := Lib.hid x4; have HX2 := Lib.hid x2; clear x1 x2 x3 x4)
        | (refine wpList_bsl rfl 32 1 _ rfl #[(0, .agg X.l.toArray)] (by simp [Act.eval, Act.put]) _ _ (HBS.out w1 X) ?_)
        | (at_builtin; refine wpList_append_G rfl (.tmp 13) (.tmp 20) 32 rfl w.heap.size 54 i0 _ 57 160 elemRows HI.out HZ0.out HZ1.out HZ2.out (by simp [Value.cells, roL_len]) (by decide) A' k c' _ (by simp [Act.eval, Act.put]) (ownsF_on (ownsF_on HO.out HX2.out) (below_al (Below.refl _ w1) _)) w1.heap.size 1 1 X.l (by simp [Act.eval, Act.put]) (Blk.new w1 54 X.l.toArray) X.l_len (roL_one _ _ _ _ _) (by decide) HMM.out HMB.out (by have h1 := HSZ.out; have h2 := HX2.out.size; simp; omega) ?_; intro A2 c2 w2 hO2 hb2 hk2; have HO2 := Lib.hid hO2; have HB2 := Lib.hid hb2; have HK2 := Lib.hid hk2; clear hO2 hb2 hk2))
      go_roundw
      case rel =>
        have hal := below_al (Below.refl w1.heap.size w1) (.cells X.l.toArray 54)
        refine ⟨k + 1, by omega, by go_num, A2, c2, fun i => if i = k then X else Q i, rfl, Lib.hid ?_, Lib.hid ?_, Lib.hid ?_⟩
        · have := HO2.out
          rw [show flL (fun i => (Q i).l) k ++ X.l = flL (fun i => ((if i = k then X else Q i : Rw)).l) (k + 1) by rw [flL_succ, if_pos rfl]; congr 1; exact flL_congr fun i hi => by rw [if_neg (by omega)]] at this
          exact this
        · intro i hi
          by_cases e : i = k
          · simp only [e, if_true]; exact ⟨(HX4.out.below hal).kept HK2.out (by decide), HX3.out⟩
          · simp only [e, if_false]; exact ⟨(((HT.out i (by omega)).1.below HX2.out).below hal).kept HK2.out (by decide), (HT.out i (by omega)).2⟩
        · exact (HB.out.trans (HX2.out.mono HB.out.size)).trans ((hal.mono (by have h1 := HB.out.size; have h2 := HX2.out.size; omega)).trans HB2.out)
      case measure => simp [intOf]; omega
    · obtain rfl : m = k := by omega
      go_wp2_with fail
      go_ret
      exact ⟨A', c', Q, rfl, ⟨fun h0 => by
        obtain ⟨g, Z, e, _, _, q⟩ := rows_of_ownsT HO.out h0
        exact ⟨g, Z, e, q⟩, fun i hi => (HT.out i hi).1⟩, fun i hi => (HT.out i hi).2, HB.out⟩
set_option maxRecDepth 100000 in
set_option maxHeartbeats 2000000 in
theorem same14_is (a b : Rw) (hn : a.n ≤ 65536) (hm : b.n ≤ 65536) (w : World) (hT : LiesH w w.heap.size a.A a.n a.T) (hU : LiesH w w.heap.size b.A b.n b.T) :
    Calls Try.prog 37 #[.agg a.l.toArray, .agg b.l.toArray] w fun e w' => e = .returned (.bool (eqR a.ro b.ro)) ∧ Below w.heap.size w w' := by
  have HS : Hid (∀ u, Below w.heap.size w u → Calls Try.prog 50 #[.agg a.l.toArray, .agg b.l.toArray] u fun e w' => e = .returned (.bool (eqR a.ro b.ro)) ∧ Below u.heap.size u w') := Lib.hid (fun u hu => same_rows a b hn hm u (hT.on hu) (hU.on hu))
  clear hT hU
  go_enter Try.func37, Try.ntmps37
  go_upto_region 1 with fail
  have hb := below_al (below_al (Below.refl w.heap.size w) (.cells a.l.toArray 54)) (.cells b.l.toArray 54)
  refine wp_at (fun U => Blk U w.heap.size 54 a.l.toArray ∧ Blk U (w.heap.size + 1) 54 b.l.toArray ∧ Below w.heap.size w U) ⟨(Blk.new w _ _).alloc _, (by have := Blk.new (w.alloc (.cells a.l.toArray 54)) 54 b.l.toArray; rwa [alloc_size] at this), hb⟩ ?_
  clear hb
  rintro U ⟨u1, u2, u3⟩
  have HRA := Lib.hid u1.pin.range
  have HRB := Lib.hid u2.pin.range
  have HU := Lib.hid u3
  clear u1 u2 u3
  go_wp2_with (first
    | (refine wpList_load_mid rfl 54 (.tmp 2) rfl w.heap.size 0 (by simp [Act.eval, Act.put]) a.l _ HRA.out Try.underlying54 rfl (by rw [size_row, Rw.l_len]) ?_)
    | (refine wpList_load_mid rfl 54 (.tmp 3) rfl (w.heap.size + 1) 0 (by simp [Act.eval, Act.put]) b.l _ HRB.out Try.underlying54 rfl (by rw [size_row, Rw.l_len]) ?_)
    | (go_at_call 50; (with_reducible refine (HS.out _ HU.out).mono ?_); rintro e w1 ⟨rfl, q1⟩; have HQ := Lib.hid q1; clear q1))
  go_ret
  exact ⟨rfl, below_then HU.out HQ.out⟩
def RetL (p : Bool → Prop) (e : Ending) : Prop := ∃ g, e = .returned (.bool g) ∧ p g
set_option maxRecDepth 100000 in
set_option maxHeartbeats 2000000 in
theorem light_is (A : Option Addr) (m c : Nat) (R : Nat → Rw) (w : World) (hR : LiesR w w.heap.size A m R) (hm : m ≤ 9223372036854775807) :
    Calls Try.prog 30 #[.slice A m c] w fun e w' => RetL (fun g => g = true → m ≤ 200) e ∧ Below w.heap.size w w' := by
  have HG := Lib.hid (great_is A m c R w hR hm)
  have HBW := Lib.hid (built_wordR A m c)
  clear hR
  by_cases h2 : m ≤ 200
  · have d1 : decide ((m : Int) ≤ 200) = true := decide_eq_true (by omega)
    go_enter Try.func30, Try.ntmps30
    go_wp2_with (first
      | (refine wpList_build_want 34 _ rfl #[.slice A m c] (by simpa [Act.eval, Act.put] using HBW.out) (by kernel_rfl) ?_)
      | (go_at_call 49; (with_reducible refine HG.out.mono ?_); rintro e w1 ⟨⟨g, rfl⟩, b1⟩; have HB1 := Lib.hid b1; clear b1))
    go_ret
    exact ⟨⟨_, rfl, fun _ => h2⟩, HB1.out⟩
  · have d1 : decide ((m : Int) ≤ 200) = false := decide_eq_false (by omega)
    go_enter Try.func30, Try.ntmps30
    go_wp2_with fail
    go_ret
    exact ⟨⟨_, rfl, fun h => by cases h⟩, Below.refl _ _⟩
end Go.Proofs.Ytcangipaoancnaa

