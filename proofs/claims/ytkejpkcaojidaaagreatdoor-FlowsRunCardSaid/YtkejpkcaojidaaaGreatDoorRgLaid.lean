/-
  What the rows' listed variable (the table of directions) gives the walks; the start-up's own heap meets the condition; how an array of three integers that came in is opened. No condition.
-/
import Derived.Test.YtkejpkcaojidaaaGreatDoorRg3
import Derived.Test.YtkejpkcaojidaaaGreatDoorKinds
import Derived.IntWalk
import Derived.Test.YtkejpkcaojidaaaGreatDoorOpenC
import Derived.LaidMore
import Derived.Stop.Joined
namespace Go.Proofs.YtkejpkcaojidaaaGreatDoor
set_option linter.unusedVariables false
set_option linter.unusedSimpArgs false
open Go.RowKit Rg

theorem refIs_any (n d : Int) (w : World) (hd : 0 ≤ d) (hd' : d ≤ 255) : Calls Tryz.prog 97 #[.int .i64 n, .int .u8 d] w fun e w' => e = .returned (.bool (isB n d)) ∧ w = w' := by
  by_cases h1 : 4 ≤ n
  · by_cases h2 : n ≤ 16
    · by_cases h3 : d < 2
      · have HF := Lib.hid (isB_iff.2 ⟨h1, h2, h3⟩)
        go_enter Tryz.func97, Tryz.ntmps97
        go_wp2
        go_ret
        exact ⟨ret_bool HF.out.symm, rfl⟩
      · have HF := Lib.hid (isB_not (n := n) (d := d) (by omega))
        have c : decide (d < 2) = false := by simpa using h3
        clear h3
        go_enter Tryz.func97, Tryz.ntmps97
        go_wp2
        go_ret
        exact ⟨ret_bool HF.out.symm, rfl⟩
    · have HF := Lib.hid (isB_not (n := n) (d := d) (by omega))
      have c : decide (n ≤ 16) = false := by simpa using h2
      clear h2
      go_enter Tryz.func97, Tryz.ntmps97
      go_wp2
      go_ret
      exact ⟨ret_bool HF.out.symm, rfl⟩
  · have HF := Lib.hid (isB_not (n := n) (d := d) (by omega))
    have c : decide (4 ≤ n) = false := by simpa using h1
    clear h1
    go_enter Tryz.func97, Tryz.ntmps97
    go_wp2
    go_ret
    exact ⟨ret_bool HF.out.symm, rfl⟩
theorem refIs_b (n d : Int) (b : Bool) (hb : isB n d = b) (w : World) (hd : 0 ≤ d) (hd' : d ≤ 255) : Calls Tryz.prog 97 #[.int .i64 n, .int .u8 d] w fun e w' => e = .returned (.bool b) ∧ w = w' := by
  subst hb; exact refIs_any n d w hd hd'

theorem other_any (d : Int) (w : World) (hd : d = 0 ∨ d = 1) : Calls Tryz.prog 98 #[.int .u8 d] w fun e w' => e = .returned (.int .u8 (1 - d)) ∧ w = w' := by
  rcases hd with rfl | rfl
  · go_enter Tryz.func98, Tryz.ntmps98
    go_wp2
    go_ret
    exact ⟨rfl, rfl⟩
  · go_enter Tryz.func98, Tryz.ntmps98
    go_wp2
    go_ret
    exact ⟨rfl, rfl⟩

theorem next_any (n d i : Int) (w : World) (h1 : 4 ≤ n) (h2 : n ≤ 16) (hd : d = 0 ∨ d = 1) (h3 : 0 ≤ i) (h4 : i < n) :
    Calls Tryz.prog 99 #[.int .i64 n, .int .u8 d, .int .i64 i] w fun e w' => e = .returned (.int .i64 ((i + sg d 1) % n)) ∧ w = w' := by
  rcases hd with rfl | rfl
  · have HM := Lib.hid (mod_near n (i + 1) (by omega) (by omega))
    have HS := Lib.hid (sg0 1)
    by_cases hi : i = n - 1
    · have c : (i == n - 1) = true := by simpa using hi
      have HI := Lib.hid hi
      clear hi
      go_enter Tryz.func99, Tryz.ntmps99
      go_wp2
      go_ret
      exact ⟨ret_int (by rw [HS.out]; have := HM.out; have := HI.out; omega), rfl⟩
    · have c : (i == n - 1) = false := by simpa using hi
      have HI := Lib.hid hi
      clear hi
      go_enter Tryz.func99, Tryz.ntmps99
      go_wp2
      go_ret
      exact ⟨ret_int (by rw [HS.out]; have := HM.out; have := HI.out; omega), rfl⟩
  · have HM := Lib.hid (mod_near n (i + -1) (by omega) (by omega))
    have HS := Lib.hid (sg1 1)
    by_cases hi : i = 0
    · have c : (i == 0) = true := by simpa using hi
      have HI := Lib.hid hi
      clear hi
      go_enter Tryz.func99, Tryz.ntmps99
      go_wp2
      go_ret
      exact ⟨ret_int (by rw [HS.out]; have := HM.out; have := HI.out; omega), rfl⟩
    · have c : (i == 0) = false := by simpa using hi
      have HI := Lib.hid hi
      clear hi
      go_enter Tryz.func99, Tryz.ntmps99
      go_wp2
      go_ret
      exact ⟨ret_int (by rw [HS.out]; have := HM.out; have := HI.out; omega), rfl⟩

theorem node_next (n d a : Int) (k : Nat) : (nodeAt n d a k + sg d 1) % n = nodeAt n d a (k + 1) := by
  rw [nodeAt, nodeAt, Int.emod_add_emod, show ((k + 1 : Nat) : Int) = (k : Int) + 1 by omega, sg_add, Int.add_assoc]
theorem nextN (n d a : Int) (k : Nat) (w : World) (h1 : 4 ≤ n) (h2 : n ≤ 16) (hd : d = 0 ∨ d = 1) :
    Calls Tryz.prog 99 #[.int .i64 n, .int .u8 d, .int .i64 (nodeAt n d a k)] w fun e w' => e = .returned (.int .i64 (nodeAt n d a (k + 1))) ∧ w = w' := by
  have hb := nodeAt_in n d a k (by omega)
  rw [← node_next]
  exact next_any n d _ w h1 h2 hd hb.1 hb.2

/-- No such node, ring or direction. -/
theorem ex1_cases {n d x : Int} (h : exB n d [x] = false) : isB n d = false ∨ (isB n d = true ∧ x < 0) ∨ (isB n d = true ∧ 0 ≤ x ∧ n ≤ x) := by
  by_cases hb : isB n d = true
  · have := isB_iff.1 hb
    by_cases h0 : x < 0
    · exact .inr (.inl ⟨hb, h0⟩)
    · by_cases h1 : n ≤ x
      · exact .inr (.inr ⟨hb, by omega, h1⟩)
      · rw [ex1.2 (by omega)] at h; cases h
  · exact .inl (bfalse hb)

set_option maxRecDepth 100000 in
theorem refStep_any (n d x s : Int) (w : World) (hd : 0 ≤ d) (hd' : d ≤ 255) :
    Calls Tryz.prog 56 #[.int .i64 n, .int .u8 d, .int .i64 x, .int .i64 s] w fun e w' => e = .returned (.int .i64 (stepM n d x s)) ∧ w = w' := by
  by_cases hex : exB n d [x] = true
  · obtain ⟨h1, h2, h3, h4, h5⟩ := ex1.1 hex
    have HI := Lib.hid (isB_iff.2 ⟨h1, h2, h3⟩)
    have HE := Lib.hid (step_of s ⟨h1, h2, h3, h4, h5⟩)
    have hr := tmod_bd s n (by omega)
    have HA := Lib.hid (add_tmod n x s)
    have HS := Lib.hid (sub_tmod n x s)
    obtain ⟨r, er⟩ : ∃ r, r = s.tmod n := ⟨_, rfl⟩
    rw [← er] at hr HA HS
    have hr1 : -n < r := hr.1
    have hr2 : r < n := hr.2
    have hrw := er.symm
    have HX := Lib.hid (fun d' => node0 n d' x ⟨h4, h5⟩)
    clear er hr hex
    have hdd : d = 0 ∨ d = 1 := by omega
    have c0 : decide (x < 0) = false := by simpa using h4
    have c1 : decide (n ≤ x) = false := by simpa using h5
    by_cases hneg : r < 0
    · have HO := Lib.hid (fun W => other_any d W hdd)
      go_enter Tryz.func56, Tryz.ntmps56
      go_wp2_with (first
        | (go_at_call 97; (with_reducible refine (refIs_b n d true HI.out _ hd hd').mono ?_); rintro e w' ⟨rfl, rfl⟩)
        | (go_at_call 98; (with_reducible refine (HO.out _).mono ?_); rintro e w' ⟨rfl, rfl⟩))
      clear hrw HO
      go_loop [2, 10] (fun s2 s10 => ∃ k : Nat, (k : Int) ≤ -r ∧ s10 = .int .i64 k ∧ s2 = .int .i64 (nodeAt n (1 - d) x k)) (fun _ s10 => (-r - intOf s10).toNat)
      case atStart => exact ⟨0, by omega, rfl, by rw [HX.out]⟩
      case round =>
        obtain ⟨k, hk, rfl, rfl⟩ := hrel
        by_cases hlt : (k : Int) < -r
        · have HNx := Lib.hid (fun W => nextN n (1 - d) x k W h1 h2 (by omega))
          obtain ⟨z, ez⟩ : ∃ z, z = nodeAt n (1 - d) x k := ⟨_, rfl⟩
          rw [← ez] at HNx ⊢
          clear ez
          go_wp2_with (go_at_call 99; (with_reducible refine (HNx.out _).mono ?_); rintro e w' ⟨rfl, rfl⟩)
          go_round
          case rel => exact ⟨k + 1, by omega, by go_num, rfl⟩
          case measure => simp [intOf]; omega
        · have HK := Lib.hid (show (k : Int) = -r by omega)
          have c2 : decide ((k : Int) < -r) = false := by simpa using hlt
          go_wp2_with fail
          go_ret
          refine ⟨ret_int ?_, rfl⟩
          rw [HE.out, nodeAt, HK.out]
          rcases hdd with rfl | rfl
          · rw [sg0, show (1 : Int) - 0 = 1 from rfl, sg1, Int.neg_neg]; exact HA.out
          · rw [sg1, show (1 : Int) - 1 = 0 from rfl, sg0, ← HS.out]; congr 1; omega
    · have c3 : decide (r < 0) = false := by simpa using hneg
      go_enter Tryz.func56, Tryz.ntmps56
      go_wp2_with (first
        | (go_at_call 97; (with_reducible refine (refIs_b n d true HI.out _ hd hd').mono ?_); rintro e w' ⟨rfl, rfl⟩))
      clear hrw
      go_loop [2, 10] (fun s2 s10 => ∃ k : Nat, (k : Int) ≤ r ∧ s10 = .int .i64 k ∧ s2 = .int .i64 (nodeAt n d x k)) (fun _ s10 => (r - intOf s10).toNat)
      case atStart => exact ⟨0, by omega, rfl, by rw [HX.out]⟩
      case round =>
        obtain ⟨k, hk, rfl, rfl⟩ := hrel
        by_cases hlt : (k : Int) < r
        · have HNx := Lib.hid (fun W => nextN n d x k W h1 h2 hdd)
          obtain ⟨z, ez⟩ : ∃ z, z = nodeAt n d x k := ⟨_, rfl⟩
          rw [← ez] at HNx ⊢
          clear ez
          go_wp2_with (go_at_call 99; (with_reducible refine (HNx.out _).mono ?_); rintro e w' ⟨rfl, rfl⟩)
          go_round
          case rel => exact ⟨k + 1, by omega, by go_num, rfl⟩
          case measure => simp [intOf]; omega
        · have HK := Lib.hid (show (k : Int) = r by omega)
          have c2 : decide ((k : Int) < r) = false := by simpa using hlt
          go_wp2_with fail
          go_ret
          refine ⟨ret_int ?_, rfl⟩
          rw [HE.out, nodeAt, HK.out]
          rcases hdd with rfl | rfl
          · rw [sg0, sg0]; exact HA.out
          · rw [sg1, sg1, ← HS.out]; congr 1; omega
  · have hex' : exB n d [x] = false := bfalse hex
    have HE := Lib.hid (step_no s hex')
    rcases ex1_cases hex' with h | ⟨h, h0⟩ | ⟨h, h0, h1⟩
    all_goals
      have HI := Lib.hid h
      clear h hex hex'
    · go_enter Tryz.func56, Tryz.ntmps56
      go_wp2_with (go_at_call 97; (with_reducible refine (refIs_b n d false HI.out _ hd hd').mono ?_); rintro e w' ⟨rfl, rfl⟩)
      go_ret
      exact ⟨ret_int HE.out.symm, rfl⟩
    · go_enter Tryz.func56, Tryz.ntmps56
      go_wp2_with (go_at_call 97; (with_reducible refine (refIs_b n d true HI.out _ hd hd').mono ?_); rintro e w' ⟨rfl, rfl⟩)
      go_ret
      exact ⟨ret_int HE.out.symm, rfl⟩
    · go_enter Tryz.func56, Tryz.ntmps56
      go_wp2_with (go_at_call 97; (with_reducible refine (refIs_b n d true HI.out _ hd hd').mono ?_); rintro e w' ⟨rfl, rfl⟩)
      go_ret
      exact ⟨ret_int HE.out.symm, rfl⟩
end Go.Proofs.YtkejpkcaojidaaaGreatDoor

namespace Go.Proofs.YtkejpkcaojidaaaGreatDoor
open Go.RowKit

/-- The cells of truths. -/
def cellsB (l : List Bool) : Array Value := (l.map Value.bool).toArray
theorem cellsB_at (l : List Bool) (j : Nat) (h : j < l.length) : (cellsB l)[j]? = some (.bool (l.getD j false)) := by
  simp [cellsB, h]
theorem cellsB_set (l : List Bool) (j : Nat) (b : Bool) : (cellsB l).setIfInBounds j (.bool b) = cellsB (l.set j b) := by
  simp [cellsB, List.map_set]
theorem cellsB_made (n : Nat) : madeCells #[.bool false] n = cellsB (List.replicate n false) := by
  apply Array.toList_inj.1
  rw [toList_madeCells_one]
  simp [cellsB]
theorem infoBools : (Tryz.prog.info? 4).map (fun i => (i.zero, i.size, i.bytes)) = some (some (.bool false), 1, 1) := by kernel_rfl
theorem makeBools (L : Int) (h0 : 0 ≤ L) (h1 : L ≤ 1073741824) (u : World) :
    (Instr.makeSlice 172 (.int .i64 L) (.int .i64 L)).run Tryz.prog u = .ok (.slice (some ⟨u.heap.size, 0, none⟩) L.toNat L.toNat) (u.alloc (.cells (cellsB (List.replicate L.toNat false)) 4)) := by
  obtain ⟨i0, hi0, hz0, hz1, hz2⟩ := info_parts infoBools
  have h := run_make (P := Tryz.prog) u 172 4 i0 (.bool false) Tryz.underlying172 hi0 hz0 .i64 .i64 L L h0 (Int.le_refl _) (by rw [hz2]; omega) (by omega)
  rw [← cellsB_made]
  simpa [hz1, Value.cells] using h
end Go.Proofs.YtkejpkcaojidaaaGreatDoor

namespace Go.Proofs.YtkejpkcaojidaaaGreatDoor
open Go.ChangeShapes Go.WideShapes Go.ChangeAt Go.WideMaps Go.WideElems Go.RowKit

theorem gWays : Tryz.prog.globalNamed "sennit/rings.ways" = some 0 := by kernel_rfl
theorem tWays : (Tryz.prog.globals[0]?).map (·.type) = some 194 := by kernel_rfl

/-- The start-up's own heap meets the condition. -/
theorem door_met (os : Os) (args : Array Value) : laidMetH Tryz.prog Rows.flowsRunRow.laid ((World.doorLaid Tryz.prog 400 os).forCall (fun _ _ => 0) ⟨#[], args, []⟩).memory :=
  laidMetH_of_parts3 (fuel := 8) (laidMet_of_run' 8 (by kernel_rfl) (by kernel_rfl)) (by kernel_rfl) (by kernel_rfl)

theorem len2 {α : Type} {l : List α} (h : l.length = 2) : ∃ a b, l = [a, b] := by
  match l, h with
  | [a, b], _ => exact ⟨a, b, rfl⟩
theorem len4 {α : Type} {l : List α} (h : l.length = 4) : ∃ a b c d, l = [a, b, c, d] := by
  match l, h with
  | [a, b, c, d], _ => exact ⟨a, b, c, d, rfl⟩
/-- One row of the table. -/
theorem open_way {H : Type} {enc : TypeId × Value → H} {W : World} {base : Nat} {sp : Nat → Bool} {held : Bool} {fuel : Nat} {cs : List Value} {x : DataW H × List MemPlace} {a b : Int}
    (h : DataW.trod enc Tryz.prog W base sp held fuel 193 cs = some x) (hx : x.1 = .agg [.lit (.int .i64 a), .lit (.int .i64 b)]) : cs = [.int .i64 a, .int .i64 b] := by
  obtain ⟨xs, m, _, hx1, hl, hn, hel⟩ := DataW.trod_struct Tryz.underlying193 h
  have c3 : Tryz.prog.cellsOf 3 = 1 := by kernel_rfl
  have c50 : Tryz.prog.cellsOf 193 = 2 := by kernel_rfl
  rw [c50] at hl
  obtain ⟨v0, v1, rfl⟩ := len2 hl
  obtain ⟨x0, x1, rfl⟩ := len2 (show xs.length = 2 from hn)
  have h0 := hel 0 _ rfl
  have h1 := hel 1 _ rfl
  subst hx1
  simp [c3] at h0 h1
  obtain ⟨k0, e0, f0, _⟩ := DataW.trod_int Tryz.underlying3 h0
  obtain ⟨k1, e1, f1, _⟩ := DataW.trod_int Tryz.underlying3 h1
  subst f0 f1
  simp at hx e0 e1
  obtain ⟨rfl, rfl⟩ := hx
  rw [e0, e1]

/-- WHAT THE CONDITION GIVES THE WALKS. -/
theorem of_laid {W : World} (h : laidMetH Tryz.prog Rows.flowsRunRow.laid W) : Ways W := by
  rw [MakeChecks.laidMetH_plain _ _ _ (by kernel_rfl)] at h
  obtain ⟨ps, ⟨g0, t0, cs0, f0, p0, q0, hg0, ht0, hv0, hd0, _, _⟩, _, _⟩ := h
  obtain rfl := Option.some.inj (gWays.symm.trans hg0)
  obtain rfl := Option.some.inj (tWays.symm.trans ht0)
  obtain ⟨xs, m1, rfl, hx1, hlen, hn, hel⟩ := DataW.trod_array Tryz.underlying194 hd0
  have c51 : Tryz.prog.cellsOf 193 = 2 := by kernel_rfl
  have c52 : Tryz.prog.cellsOf 194 = 4 := by kernel_rfl
  rw [c52] at hlen
  have hc0 := World.var?_cell hg0 hv0 0
  have hc1 := World.var?_cell hg0 hv0 1
  have hc2 := World.var?_cell hg0 hv0 2
  have hc3 := World.var?_cell hg0 hv0 3
  obtain ⟨l⟩ := cs0
  obtain ⟨v0, v1, v2, v3, rfl⟩ := len4 (show l.length = 4 from hlen)
  obtain ⟨x0, x1, rfl⟩ := len2 hn
  have h0 := hel 0 (by decide)
  have h1 := hel 1 (by decide)
  simp only [Prod.mk.injEq, Rows.laid_sennit_rings_ways, List.map_cons, List.map_nil, DataW.agg.injEq, List.cons.injEq, and_true] at hx1
  simp [c51] at h0 h1
  have e0 := open_way h0 hx1.1.1.symm
  have e1 := open_way h1 hx1.1.2.symm
  simp at e0 e1
  obtain ⟨rfl, rfl⟩ := e0
  obtain ⟨rfl, rfl⟩ := e1
  simp at hc0 hc1 hc2 hc3
  exact ⟨by simpa using block_lt_of_cell hc0, hc0, hc1, hc2, hc3⟩

section
variable {H : Type} {enc : TypeId × Value → H} {P : Program} {W : World} {base : Nat} {t e : TypeId} {k : IntKind} {v : Value} {d : DataW H} {p : List MemPlace}
end
end Go.Proofs.YtkejpkcaojidaaaGreatDoor

