/-
  The walk of the law AgesPlay: it returns true, and nothing that was there has turned. Conditions: the ticks' reading.
-/
import Derived.Test.YtcangipaoancnaaAsP2
import Derived.Test.YtcangipaoancnaaAs10
import Derived.Test.YtcangipaoancnaaAsVd
import Derived.Deep.RegionWith
namespace Go.Proofs.Ytcangipaoancnaa
open Go.RowKit
set_option linter.unusedVariables false
set_option linter.unusedSimpArgs false

theorem but_drewN {w : World} (b q : Nat) : But b w (w.drewN q) := ⟨below_drewN (Below.refl _ _) q, fun _ _ _ => rfl⟩
theorem clk_neR {W : World} {r b : Nat} {cs ds : Array Value} (h : Blk W r 173 cs) (k : Blk W b 123 ds) : r ≠ b := fun e => by
  subst e
  have := h.symm.trans k
  injection this with this
  injection this with _ e2
  exact absurd e2 (by decide)
/-- The document's clock is told: the program's stays. -/
theorem clk_after {wr u v : World} {G b M r k c base : Nat} {A : Option Addr} {a : Nat → Int} {ds : Array Value} {xs : List Value} (hC : ClkG u G b M a) (h : ∀ j, j < u.drew.heap.size → j ≠ r → (Value.slice A k c).ownBlock ≠ some j → v.heap[j]? = u.drew.heap[j]?) (hB : Blk wr b 123 ds) (hO : wr.ownsRow base 2 1 (.slice A k c) k xs) (hG : wr.heap.size ≤ G) (hr : r < wr.heap.size) (hbr : b ≠ r) (hs : wr.heap.size ≤ u.heap.size) (hs2 : u.drew.heap.size ≤ v.heap.size) : ClkA v b M a := by
  obtain ⟨o, cG, g1, g2, g3, g4, g5⟩ := hC
  have hown : ∀ j, (j = b ∨ j = G) → (Value.slice A k c).ownBlock ≠ some j := fun j hj e => by
    rcases owns_shapeF hO with ⟨h1, _⟩ | ⟨g, o', h1⟩
    · subst h1; cases e
    · subst h1
      have e2 : g = j := by simpa [Value.ownBlock] using e
      obtain ⟨cs, hc⟩ := owns_row hO
      have hl := hc.lt
      rcases hj with rfl | rfl
      · exact blk_neC hc hB e2
      · omega
  have hGv : v.heap[G]? = u.heap[G]? := h G g3 (by omega) (hown G (.inr rfl))
  refine ⟨G, o, cG, (h b g1.lt hbr (hown b (.inl rfl))).trans g1, g2, Nat.lt_of_lt_of_le g3 hs2, g4, fun i hi => ?_⟩
  have h5 := g5 i hi
  simp only [World.cell?, hGv] at h5 ⊢
  exact h5
set_option maxRecDepth 100000 in
set_option maxHeartbeats 8000000 in
theorem agesPlay_walk (n0 : Int) (A : Option Addr) (m c : Nat) (Z : Nat → Int × Int) (w : World) (hL : LiesF w w.heap.size A m 2 (zzL Z)) (hm : m ≤ 9223372036854775807) :
    Calls Try.prog 9 #[.int .i64 n0, .slice A m c] w fun e w' => e = .returned (.bool true) ∧ Below w.heap.size w w' := by
  obtain ⟨i0, hi0, hz0, hz1, hz2⟩ := info_parts infoI64
  have HL := Lib.hid hL
  clear hL
  by_cases h300 : 300 < m
  · have d300 : decide ((300 : Int) < (m : Int)) = true := decide_eq_true (by omega)
    go_enter Try.func9, Try.ntmps9
    go_wp2_with (go_at_call 42; (with_reducible refine (lives16_is _).mono ?_); rintro e w7 ⟨rfl, b7⟩)
    go_ret
    exact ⟨rfl, b7⟩
  have d300 : decide ((300 : Int) < (m : Int)) = false := decide_eq_false (by omega)
  have hm300 : m ≤ 300 := by omega
  clear h300 hm
  cases hnr : nrB n0 with
  | false =>
    have HNR := Lib.hid hnr
    clear hnr
    go_enter Try.func9, Try.ntmps9
    go_wp2_with (first
      | (go_at_call 42; (with_reducible refine (lives16_is _).mono ?_); rintro e w7 ⟨rfl, b7⟩)
      | (go_at_call 45; (with_reducible refine (newClock_bad _ HNR.out _).mono ?_); rintro e w1 ⟨rfl, rfl⟩)
      | (go_at_call 46; (with_reducible refine (newRef_bad _ HNR.out _).mono ?_); rintro e w1 ⟨rfl, rfl⟩))
    go_ret
    exact ⟨rfl, b7⟩
  | true =>
  obtain ⟨N, rfl, lN⟩ : ∃ N : Nat, n0 = (N : Int) ∧ 4 ≤ N ∧ N ≤ 16 := by
    unfold nrB at hnr
    simp at hnr
    exact ⟨n0.toNat, by omega, by omega, by omega⟩
  clear hnr
  obtain ⟨M, hM⟩ : ∃ M, M = 2 * N := ⟨_, rfl⟩
  have lM : 8 ≤ M ∧ M ≤ 32 := by omega
  obtain ⟨h, hh⟩ : ∃ h : Nat → Int, h = fun t => ageC M (Z t).1 (Z t).2 := ⟨_, rfl⟩
  have HH : Hid (∀ t, -1 ≤ h t ∧ h t ≤ 1099511627776) := Lib.hid (fun t => by rw [hh]; exact ageC_in _ _ _)
  have HE : Hid (∀ t, h t = ageC M (Z t).1 (Z t).2) := Lib.hid (fun t => by rw [hh])
  have HNC := Lib.hid (fun u => newClock_is N lN u)
  rw [← hM] at HNC
  have HNR := Lib.hid (fun u => newRef_is N lN u)
  have HLN := Lib.hid lN
  have HMM := Lib.hid hM
  clear hh hM
  go_enter Try.func9, Try.ntmps9
  go_upto_region 9 with (first
    | (go_at_call 45; (with_reducible refine (HNC.out _).mono ?_); rintro e w1 ⟨b, rfl, q0, q1, q2⟩; have HQ0 := Lib.hid q0; have HQ1 := Lib.hid q1; have HQ2 := Lib.hid q2; clear q0 q1 q2)
    | (go_at_call 46; (with_reducible refine (HNR.out _).mono ?_); rintro e w2 ⟨rfl, q0, q1⟩; have HR0 := Lib.hid q0; have HR1 := Lib.hid q1; clear q0 q1))
  obtain ⟨r, hr⟩ : ∃ r, r = w1.heap.size := ⟨_, rfl⟩
  rw [← hr] at HR0 ⊢
  have HRR : Hid (w.heap.size ≤ r) := Lib.hid (by rw [hr]; exact HQ2.out.size)
  have HK0 : Hid (ClkA w2 b M (hA h M 0)) := Lib.hid ((HQ1.out.on HR1.out).congr fun i hi => by unfold hA; rw [if_pos (by omega)])
  have HB0 : Hid (Below w.heap.size w w2) := Lib.hid (below_then HQ2.out HR1.out)
  clear HNC HNR d300 hr HQ1 HQ2 HR1
  go_wp2_with fail
  go_loopw [9, 10, 11, 12, 13] (fun iv x1 x2 x3 x4 wr => ∃ k : Nat, k ≤ m ∧ iv = .int .i64 (k : Int) ∧ ∃ A1 c1, Hid (Blk wr r 173 #[.int .i64 (N : Int), .slice A1 k c1]) ∧ Hid (wr.ownsRow w.heap.size 2 1 (.slice A1 k c1) k (agsL h k)) ∧ Hid (ClkA wr b M (hA h M k)) ∧ Hid (Below w.heap.size w wr)) (fun iv _ _ _ _ _ => m - (intOf iv).toNat)
  case atStart => exact ⟨0, by omega, rfl, none, 0, HR0, Lib.hid ownsF_nil, HK0, HB0⟩
  case round =>
    clear HR0 HK0 HB0
    obtain ⟨k, hk, rfl, A1, c1, HR, HO, HK, HB⟩ := hrel
    by_cases hlt : k < m
    · have dk : decide ((k : Int) < (m : Int)) = true := decide_eq_true (by omega)
      obtain ⟨x, hx⟩ : ∃ x, x = (Z k).1 := ⟨_, rfl⟩
      obtain ⟨y, hy⟩ : ∃ y, y = (Z k).2 := ⟨_, rfl⟩
      obtain ⟨z, hz⟩ : ∃ z, z = h k := ⟨_, rfl⟩
      obtain ⟨S, hS⟩ : ∃ S, S = rfS (rfM h (k + 1) (min M (k + 1))) := ⟨_, rfl⟩
      have hzz : z = ageC M x y := by rw [hz, hx, hy]; exact HE.out k
      have HZ := Lib.hid hz
      have HS := Lib.hid hS
      have HST : Hid (Calls Try.prog 47 #[.pointer (some ⟨b, 0, none⟩), .int .i64 x, .int .i64 y] wr.drew fun e w' => e = .returned (.tuple #[.int .i64 z, .int .i64 S]) ∧ (∃ G, wr.heap.size ≤ G ∧ ClkG w' G b M (hA h M (k + 1))) ∧ But b wr w') := Lib.hid (by
        refine (step_is b M (by omega) (hA h M k) (fun i hi => ?_) x y wr.drew HK.out).mono ?_
        · unfold hA
          split
          · omega
          · exact HH.out _
        · rintro e w' ⟨rfl, ⟨G, hG, o, cG, g1, g2, g3, g4, g5⟩, q2⟩
          rw [← hzz] at g5 ⊢
          refine ⟨?_, ⟨G, hG, o, cG, g1, g2, g3, g4, fun i hi => ?_⟩, (show But b wr wr.drew from but_drewN b 1).trans q2⟩
          · rw [hz, step_shows (by omega) (fun i _ => (HH.out i).1), ← hS]
          · rw [g5 i hi, hz, hA_push (by omega) i hi])
      have HRF : Hid (∀ u, Blk u r 173 #[.int .i64 (N : Int), .slice A1 k c1] → u.ownsRow w.heap.size 2 1 (.slice A1 k c1) k (agsL h k) → Calls Try.prog 48 #[.pointer (some ⟨r, 0, none⟩), .int .i64 x, .int .i64 y] u fun e w' => e = .returned (.tuple #[.int .i64 z, .int .i64 S]) ∧ (∃ A' c', Blk w' r 173 #[.int .i64 (N : Int), .slice A' (k + 1) c'] ∧ w'.ownsRow w.heap.size 2 1 (.slice A' (k + 1) c') (k + 1) (agsL h (k + 1))) ∧ Below w.heap.size u w' ∧ ∀ j, j < u.heap.size → j ≠ r → (Value.slice A1 k c1).ownBlock ≠ some j → w'.heap[j]? = u.heap[j]?) := Lib.hid (fun u hB hO => by
        rw [hz, hS]
        exact refStep_is r N M k c1 w.heap.size HLN.out HMM.out (by omega) (k + 1) rfl A1 h x y (by rw [← hzz, hz]) (fun i _ => (HH.out i).2) u hB hO HRR.out)
      obtain ⟨ba, oa, rfl, hba, hca⟩ := HL.out (by omega)
      have HXC : Hid (∀ u, Below w.heap.size w u → u.cell? ⟨ba, oa + k * 2, none⟩ = some (.int .i64 x) ∧ u.cell? ⟨ba, oa + k * 2 + 1, none⟩ = some (.int .i64 y) ∧ ba < u.heap.size) := Lib.hid (fun u hu => ⟨(hu.cell (p := ⟨ba, _, none⟩) hba).trans (by rw [hx]; exact hca k hlt 0 _ rfl), (hu.cell (p := ⟨ba, _, none⟩) hba).trans (by rw [hy]; exact hca k hlt 1 _ rfl), Nat.lt_of_lt_of_le hba hu.size⟩)
      have hix := fun W => idxZZ (A := some ⟨ba, oa, none⟩) (n := m) c rfl hlt W
      have hj0 : ∀ W, (Instr.indexAt 119 (.pointer (some ⟨ba, oa + k * 2, none⟩)) (.int .i64 0)).run Try.prog W = .ok (.pointer (some ⟨ba, oa + k * 2, none⟩)) W := fun W => idxP2 ba (oa + k * 2) 0 (by decide) W
      have hj1 : ∀ W, (Instr.indexAt 119 (.pointer (some ⟨ba, oa + k * 2, none⟩)) (.int .i64 1)).run Try.prog W = .ok (.pointer (some ⟨ba, oa + k * 2 + 1, none⟩)) W := fun W => idxP2 ba (oa + k * 2) 1 (by decide) W
      clear hx hy hz hS hzz hca
      obtain ⟨ca, cb, lba⟩ := HXC.out wr HB.out
      go_upto_region 12 with fail
      go_cut [10, 11] from 44 to 58 (fun s10 s11 wx => s10 = .int .i64 z ∧ s11 = .int .i64 S ∧ Hid (∃ G, wr.heap.size ≤ G ∧ ClkG wx G b M (hA h M (k + 1))) ∧ Hid (But b wr wx))
      case first =>
        go_region_with (go_at_call 47; (with_reducible refine HST.out.mono ?_); rintro e u1 ⟨rfl, q1, q2⟩; have HQ1 := Lib.hid q1; have HE1 := Lib.hid q2; clear q1 q2)
        all_goals (simp only [Act.put, List.getElem_toArray, List.getElem_cons_zero, List.getElem_cons_succ, List.setIfInBounds_toArray, List.set_cons_zero, List.set_cons_succ, List.getElem?_toArray]; go_wp2_with fail; go_meet; exact ⟨rfl, rfl, HQ1, HE1⟩)
      obtain ⟨rfl, rfl, HG, HE1⟩ := hcut
      have HB1 : Hid (Below w.heap.size w wc) := Lib.hid (HB.out.trans (HE1.out.low HQ0.out))
      have HBC : Hid (∃ ds, Blk wr b 123 ds) := Lib.hid (by obtain ⟨gc, oc, cc, hBc, _⟩ := HK.out; exact ⟨_, hBc⟩)
      have HR1 : Hid (Blk wc r 173 #[.int .i64 (N : Int), .slice A1 k c1]) := Lib.hid (HE1.out.blk HR.out (by obtain ⟨ds, hB⟩ := HBC.out; exact clk_neR HR.out hB))
      have HO1 : Hid (wc.ownsRow w.heap.size 2 1 (.slice A1 k c1) k (agsL h k)) := Lib.hid (by obtain ⟨ds, hB⟩ := HBC.out; exact owns_butC HO.out hB HE1.out)
      have HST2 : Hid (Calls Try.prog 48 #[.pointer (some ⟨r, 0, none⟩), .int .i64 x, .int .i64 y] wc.drew fun e w' => e = .returned (.tuple #[.int .i64 z, .int .i64 S]) ∧ (∃ A' c', Hid (Blk w' r 173 #[.int .i64 (N : Int), .slice A' (k + 1) c']) ∧ Hid (w'.ownsRow w.heap.size 2 1 (.slice A' (k + 1) c') (k + 1) (agsL h (k + 1)))) ∧ Hid (ClkA w' b M (hA h M (k + 1))) ∧ Hid (Below w.heap.size w w')) := Lib.hid (by
        refine (HRF.out wc.drew HR1.out HO1.out).mono ?_
        rintro e w' ⟨rfl, ⟨A', c', q1, q2⟩, q3, q4⟩
        refine ⟨rfl, ⟨A', c', Lib.hid q1, Lib.hid q2⟩, Lib.hid ?_, Lib.hid (HB1.out.drew.trans q3)⟩
        obtain ⟨ds, hB⟩ := HBC.out
        obtain ⟨G, hG, hC⟩ := HG.out
        have hr1 : r ≠ b := clk_neR HR.out hB
        have hrl := HR.out.lt
        exact clk_after hC q4 hB HO.out hG (by omega) hr1.symm (by have := HE1.out.1.size; simp; omega) q3.size)
      obtain ⟨ca', cb', lba'⟩ := HXC.out wc HB1.out
      clear ca cb lba HRF HST HR HO HK HR1 HO1 HG HBC
      go_upto_region 13 with fail
      go_cut [12, 13] from 59 to 73 (fun s12 s13 wx => s12 = .int .i64 z ∧ s13 = .int .i64 S ∧ (∃ A' c', Hid (Blk wx r 173 #[.int .i64 (N : Int), .slice A' (k + 1) c']) ∧ Hid (wx.ownsRow w.heap.size 2 1 (.slice A' (k + 1) c') (k + 1) (agsL h (k + 1)))) ∧ Hid (ClkA wx b M (hA h M (k + 1))) ∧ Hid (Below w.heap.size w wx))
      case first =>
        go_region_with (go_at_call 48; (with_reducible refine HST2.out.mono ?_); rintro e u1 ⟨rfl, q1, q2, q3⟩)
        all_goals (simp only [Act.put, List.getElem_toArray, List.getElem_cons_zero, List.getElem_cons_succ, List.setIfInBounds_toArray, List.set_cons_zero, List.set_cons_succ, List.getElem?_toArray]; go_wp2_with fail; go_meet; exact ⟨rfl, rfl, q1, q2, q3⟩)
      obtain ⟨rfl, rfl, ⟨A', c', HR2, HO2⟩, HK2, HB2⟩ := hcut
      go_wp2_with fail
      go_roundw
      case rel => exact ⟨k + 1, by omega, by go_num, A', c', HR2, HO2, HK2, HB2⟩
      case measure => simp [intOf]; omega
    · obtain rfl : k = m := by omega
      have dk : decide ((k : Int) < (k : Int)) = false := decide_eq_false (by omega)
      go_wp2_with (go_at_call 42; (with_reducible refine (lives16_is _).mono ?_); rintro e w7 ⟨rfl, b7⟩)
      go_ret
      exact ⟨rfl, below_then HB.out b7⟩
end Go.Proofs.Ytcangipaoancnaa

