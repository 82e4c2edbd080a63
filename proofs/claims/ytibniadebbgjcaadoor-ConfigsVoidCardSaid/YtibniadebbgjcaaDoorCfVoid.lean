/-
  The law ConfigsVoid, walked: of no net, and of one that no call made, there is nothing: true; nothing that was there has turned. Condition: the table of directions is as the program's text lays it.
-/
import Derived.Test.YtibniadebbgjcaaDoorCfS
import Derived.Test.YtibniadebbgjcaaDoorCfLv
namespace Go.Proofs.YtibniadebbgjcaaDoor
open Go.RowKit Rg

theorem zero_at (x : Int) : atM [] x = -1 := by rw [atM, if_neg (by simp only [List.length_nil]; omega)]
theorem zero_part (x : Int) : partM 0 [] x = -1 := by
  have h : pairM 0 [] x = -1 := rfl
  rw [partM, h, zero_at]
  split
  · rename_i q; subst q; rfl
  · rfl
theorem zero_next (s p : Int) : nextM [] s p = -1 := by
  unfold nextM
  split
  · rfl
  · rfl
theorem zero_owner (x : Int) : atM zeroCf.S x = -1 := zero_at x
theorem zero_first (x : Int) : atM zeroCf.P x = -1 := zero_at x
theorem zero_pair (x : Int) : pairM zeroCf.N zeroCf.P x = -1 := rfl
theorem zero_partner (x : Int) : partM zeroCf.N zeroCf.P x = -1 := zero_part x
theorem zero_nexts (s p : Int) : nextM zeroCf.S s p = -1 := zero_next s p
theorem zero_round : (zeroCf.sn : Int) * zeroCf.L = 0 := rfl
theorem zero_long : 0 ≤ zeroCf.L := by decide
theorem zero_long' : zeroCf.L ≤ 4096 := by decide
theorem same_zero (A1 A2 A3 A4 : Option Addr) (w : World) (h : CfIn w (zeroCf.to A1 A2 A3 A4)) :
    Calls Tryd.prog 29 #[.agg #[.int .i64 zeroCf.N, .slice A1 zeroCf.pn zeroCf.pn, .slice A2 zeroCf.sn zeroCf.sn, .int .i64 zeroCf.L, .slice A3 zeroCf.bn zeroCf.bn, .slice A4 zeroCf.tn zeroCf.tn, .int .i64 zeroCf.M, .int .i64 zeroCf.G, .int .i64 zeroCf.F], .agg #[.int .i64 0, .slice none 0 0, .slice none 0 0, .int .i64 0, .slice none 0 0, .slice none 0 0, .int .i64 0, .int .i64 0, .int .i64 0]] w fun e w' => e = .returned (.bool true) ∧ Below w.heap.size w w' :=
  sameConfig_true (zeroCf.to A1 A2 A3 A4) zeroCf w ⟨rfl, rfl, rfl, rfl, rfl, rfl, rfl, rfl, rfl, rfl, rfl, rfl, rfl⟩ h (zero_in _)
theorem Blk.newAt {w : World} {t : TypeId} {cs : Array Value} {g : Nat} (hg : g = w.heap.size) : Blk (w.alloc (.cells cs t)) g t cs := by subst hg; exact Blk.new w t cs
/-- What lies in the law's list of nets. -/
def voidV (g k : Nat) : Value := if k = 0 then .pointer none else .pointer (some ⟨g, 0, none⟩)
theorem elemNets : Tryd.prog.underlying 55 = some (.slice (Tryd.prog.elem 55)) := by kernel_rfl
theorem sizeNets (w : World) : (sizeOf (Tryd.prog.elem 55)).run Tryd.prog w = .ok 1 w := by kernel_rfl
theorem idxNets {A : Option Addr} {n : Nat} (c : Nat) {k b off : Nat} (hA : A = some ⟨b, off, none⟩) (hk : k < n) (w : World) :
    (Instr.indexAt 55 (.slice A n c) (.int .i64 (k : Int))).run Tryd.prog w = .ok (.pointer (some ⟨b, off + k, none⟩)) w := by
  subst hA
  rw [run_indexAt_slice (h := elemNets), if_pos (by omega), sizeNets]
  simp [Result.andThen, Addr.add_lit]

set_option maxRecDepth 100000 in
theorem configsVoid_walk (x0 x1 slot : Int) (w : World) (hw : Ways w) (_ : (Lit.int .i64 x0).wf = true) (_ : (Lit.int .i64 x1).wf = true) (_ : (Lit.int .i64 slot).wf = true) :
    Calls Tryd.prog 5 #[.agg #[.int .i64 x0, .int .i64 x1], .int .i64 slot] w fun e w' => e = .returned (.bool true) ∧ Below w.heap.size w w' := by
  have HW := Lib.hid hw
  clear hw
  go_enter Tryd.func5, Tryd.ntmps5
  go_wp2_with fail
  go_loopw [7] (fun i wr => ∃ k : Nat, k ≤ 2 ∧ i = .int .i64 k ∧ Blk wr w.heap.size 35 #[.int .i64 x0, .int .i64 x1] ∧ Blk wr (w.heap.size + 1) 54 #[.int .i64 zeroCf.N, .slice zeroCf.pA zeroCf.pn zeroCf.pc, .slice zeroCf.sA zeroCf.sn zeroCf.sc, .int .i64 zeroCf.L, .slice zeroCf.bA zeroCf.bn zeroCf.bc, .slice zeroCf.tA zeroCf.tn zeroCf.tc, .int .i64 zeroCf.M, .int .i64 zeroCf.G, .int .i64 zeroCf.F, .int .i64 zeroCf.N, .slice zeroCf.pA zeroCf.pn zeroCf.pc, .slice zeroCf.sA zeroCf.sn zeroCf.sc, .int .i64 zeroCf.L, .slice zeroCf.bA zeroCf.bn zeroCf.bc, .slice zeroCf.tA zeroCf.tn zeroCf.tc, .int .i64 zeroCf.M, .int .i64 zeroCf.G, .int .i64 zeroCf.F] ∧ Blk wr (w.heap.size + 2) 29 #[.pointer none, .pointer (some ⟨w.heap.size + 1, 0, none⟩)] ∧ Below w.heap.size w wr) (fun i _ => 2 - (intOf i).toNat)
  case atStart => exact ⟨0, by omega, rfl, ((Blk.new w _ _).alloc _).alloc _, (Blk.newAt (by simp)).alloc _, Blk.newAt (by simp), below_al (below_al (below_al (Below.refl _ _) _) _) _⟩
  case round =>
    obtain ⟨k, hk, rfl, hX, hN, hV, hb⟩ := hrel
    by_cases hlt : k < 2
    · obtain ⟨v, hv, hn⟩ : ∃ v, wr.cell? ⟨w.heap.size + 2, k, none⟩ = some v ∧ NetIs wr v zeroCf := by
        rcases Nat.lt_succ_iff_lt_or_eq.1 hlt with q | q
        · obtain rfl : k = 0 := by omega
          exact ⟨_, hV.cell 0, .inl ⟨rfl, rfl⟩⟩
        · subst q
          exact ⟨_, hV.cell 1, .inr ⟨_, zeroCf, rfl, hN, zero_in wr⟩⟩
      have hix := fun W => idxNets (n := 2) 2 (b := w.heap.size + 2) (off := 0) rfl hlt W
      simp only [Nat.zero_add] at hix
      have hwr := HW.out.on hb
      go_wp2_with (first
        | (go_at_call 15; (with_reducible refine (round_is v zeroCf 0 zero_round wr hn zero_long zero_long').mono ?_); rintro e u1 ⟨rfl, a1⟩
           have B1 := a1
           clear a1
           have hc1 := (hX.on B1).cell 0
           simp only [List.getElem?_toArray, List.getElem?_cons_zero] at hc1)
        | (go_at_call 17; (with_reducible refine (owner_is v zeroCf x0 (-1) (zero_owner x0) u1 (hn.on B1)).mono ?_); rintro e u2 ⟨rfl, a2⟩
           have B2 := below_then B1 a2
           clear a2 B1
           have hc2 := (hX.on B2).cell 0
           simp only [List.getElem?_toArray, List.getElem?_cons_zero] at hc2)
        | (go_at_call 19; (with_reducible refine (first_is v zeroCf x0 (-1) (zero_first x0) u2 (hn.on B2)).mono ?_); rintro e u3 ⟨rfl, a3⟩
           have B3 := below_then B2 a3
           clear a3 B2
           have hc3 := (hX.on B3).cell 0
           simp only [List.getElem?_toArray, List.getElem?_cons_zero] at hc3)
        | (go_at_call 21; (with_reducible refine (pair_is v zeroCf x0 (-1) (zero_pair x0) u3 (hn.on B3) (hwr.on B3)).mono ?_); rintro e u4 ⟨rfl, a4⟩
           have B4 := below_then B3 a4
           clear a4 B3
           have hc4 := (hX.on B4).cell 0
           simp only [List.getElem?_toArray, List.getElem?_cons_zero] at hc4)
        | (go_at_call 23; (with_reducible refine (partner_is v zeroCf x0 (-1) (zero_partner x0) u4 (hn.on B4) (hwr.on B4)).mono ?_); rintro e u5 ⟨rfl, a5⟩
           have B5 := below_then B4 a5
           clear a5 B4
           have hc5 := (hX.on B5).cell 1
           simp only [List.getElem?_toArray, List.getElem?_cons_zero, List.getElem?_cons_succ] at hc5)
        | (go_at_call 25; (with_reducible refine (next_is v zeroCf slot x1 (-1) (zero_nexts slot x1) u5 (hn.on B5)).mono ?_); rintro e u6 ⟨rfl, a6⟩
           have B6 := below_then B5 a6
           clear a6 B5)
        | (go_at_call 27; (with_reducible refine (net_given v zeroCf u6 (hn.on B6)).mono ?_); rintro e u7 ⟨A1, A2, A3, A4, rfl, o7, a7⟩
           have B7 := below_then B6 a7
           clear a7 B6)
        | (go_at_call 29; (with_reducible refine (same_zero A1 A2 A3 A4 u7 o7.in_).mono ?_); rintro e u8 ⟨rfl, a8⟩
           have B8 := below_then B7 a8
           clear a8 B7 o7))
      go_roundw
      case rel => exact ⟨k + 1, by omega, by go_num, hX.on B8, hN.on B8, hV.on B8, below_then hb B8⟩
      case measure => simp [intOf]; omega
    · go_wp2_with (go_at_call 10; (with_reducible refine (lives_any wr (HW.out.on hb)).mono ?_); rintro e w9 ⟨rfl, b9⟩)
      go_ret
      exact ⟨rfl, below_then hb b9⟩
end Go.Proofs.YtibniadebbgjcaaDoor
