/-
  The contract of the reference's Way. Conditions: the line's reading; fewer than 65536 ticks; the hop is 1 or 2.
-/
import Derived.Test.YtlbpplibngdncaaLn5
namespace Go.Proofs.Ytlbpplibngdncaa
open Go.RowKit
set_option linter.unusedVariables false

/-- What is on its way, by all that was sent. -/
def wayR (h : Int) (l : List (Option Int)) : Option Int := atL h l (l.length + 1)
theorem atL_far {h : Int} {l : List (Option Int)} (hh : h = 1 ∨ h = 2) : atL h l (l.length + 2) = none := by
  unfold atL
  rw [if_neg (by omega)]
theorem infoInt7 : (Try.prog.info? 3).map (fun i => (i.zero, i.size, i.bytes)) = some (some (.int .i64 0), 1, 8) := by kernel_rfl
set_option maxRecDepth 100000 in
set_option maxHeartbeats 4000000 in
theorem refWay_is (g base : Nat) (h : Int) (l : List (Option Int)) (A : Option Addr) (c : Nat) (o : Option Int) (ho : wayR h l = o) (w : World) (H : RefL w g base h l A c) (hh : h = 1 ∨ h = 2) (hl : l.length ≤ 65536) :
    Calls Try.prog 14 #[.pointer (some ⟨g, 0, none⟩)] w fun e w' => ∃ B n d, e = .returned (.slice B n d) ∧ Lies .i64 w' w'.heap.size B n o.toList ∧ Below w.heap.size w w' := by
  obtain ⟨i0, hi0, hz0, hz1, hz2⟩ := info_parts infoInt7
  have HI := Lib.hid (And.intro hi0 (And.intro hz0 (And.intro hz1 hz2)))
  have HR := Lib.hid H
  have HH := Lib.hid hh
  have HL := Lib.hid hl
  have HO := Lib.hid (show atL h l ((l.length : Int) + 1) = o from ho)
  have HF := Lib.hid (atL_far (l := l) hh)
  have HT1 := Lib.hid (show 0 ≤ (l.length : Int) + 1 ∧ (l.length : Int) + 1 ≤ 1000000 from ⟨by omega, by omega⟩)
  have HT2 := Lib.hid (show 0 ≤ (l.length : Int) + 2 ∧ (l.length : Int) + 2 ≤ 1000000 from ⟨by omega, by omega⟩)
  have hw1 : IntKind.i64.wrap ((l.length : Int) + 1) = (l.length : Int) + 1 := IntWalk.i64_in _ (by omega)
  have hw2 : IntKind.i64.wrap ((l.length : Int) + 2) = (l.length : Int) + 2 := IntWalk.i64_in _ (by omega)
  clear hi0 hz0 hz1 hz2 H hh hl ho
  go_enter Try.func14, Try.ntmps14
  go_wp2_with fail
  go_loopw [3, 4] (fun s3 s4 wr => ∃ k : Nat, s4 = .int .i64 k ∧ ((k = 1 ∧ s3 = .slice none 0 0 ∧ Below w.heap.size w wr) ∨ (2 ≤ k ∧ k ≤ 3 ∧ ∃ B n d, s3 = .slice B n d ∧ Lies .i64 wr wr.heap.size B n o.toList ∧ Below w.heap.size w wr))) (fun _ s4 _ => 3 - (intOf s4).toNat)
  case atStart => exact ⟨1, rfl, .inl ⟨rfl, rfl, Below.refl _ _⟩⟩
  case round =>
    obtain ⟨k, rfl, ⟨rfl, rfl, hb⟩ | ⟨hk2, hk3, B, n, d, rfl, hlie, hb⟩⟩ := hrel
    · have HB := Lib.hid hb
      have HR1 := Lib.hid (HR.out.on hb)
      have c1 := HR1.out.blk.cell 1
      have cl := HR1.out.blk.lt
      simp only [List.getElem?_toArray, List.getElem?_cons_zero, List.getElem?_cons_succ] at c1
      clear hb
      cases o with
      | none =>
        go_wp2_with (go_at_call 34; (with_reducible refine (refAt_is g base h l A c ((l.length : Int) + 1) none HO.out wr HR1.out HH.out HT1.out HL.out).mono ?_); rintro e u1 ⟨rfl, b1⟩)
        go_roundw
        case rel => exact ⟨2, by go_num, .inr ⟨by omega, by omega, none, 0, 0, rfl, Lies.nil_, below_then HB.out b1⟩⟩
        case measure => simp [intOf]
      | some x =>
        go_wp2_with (first
          | (go_at_call 34; (with_reducible refine (refAt_is g base h l A c ((l.length : Int) + 1) (some x) HO.out wr HR1.out HH.out HT1.out HL.out).mono ?_); rintro e u1 ⟨rfl, b1⟩; have HL1 := Lib.hid (Lies.new u1 3 .i64 [x] 1 rfl #[.int .i64 x] rfl); have HZ1 := Lib.hid (show w.heap.size ≤ (u1.alloc (.cells #[.int .i64 x] 3)).heap.size from Nat.le_trans (below_then HB.out b1).size (by simp)))
          | (at_builtin; with_reducible refine wpList_append_lies rfl (.tmp 24) (.tmp 26) 31 rfl w.heap.size 3 i0 _ 8 Try.underlying31 HI.out.1 HI.out.2.1 HI.out.2.2.1 HI.out.2.2.2 rfl .i64 (.slice none 0 0) 0 [] rfl owns_none (some ⟨u1.heap.size, 0, none⟩) 1 1 [x] rfl HL1.out 1 rfl (by unfold maxLen; omega) (by omega) HZ1.out ?_))
        intro A' c' w' hown hg _
        have HBW := Lib.hid ((below_al (below_then HB.out b1) (.cells #[.int .i64 x] 3)).grown hg HZ1.out (fun q hq => by cases hq))
        have HLW := Lib.hid (lies_of_owns (k := .i64) (xs := [x]) hown)
        clear hown hg
        go_wp2_with fail
        go_roundw
        case rel => exact ⟨2, by go_num, .inr ⟨by omega, by omega, A', 1, c', rfl, HLW.out, HBW.out⟩⟩
        case measure => simp [intOf]
    · rcases Nat.lt_or_ge k 3 with q | q
      · obtain rfl : k = 2 := by omega
        have HB := Lib.hid hb
        have HR1 := Lib.hid (HR.out.on hb)
        have c1 := HR1.out.blk.cell 1
        have cl := HR1.out.blk.lt
        simp only [List.getElem?_toArray, List.getElem?_cons_zero, List.getElem?_cons_succ] at c1
        have HLI := Lib.hid hlie
        clear hb hlie
        go_wp2_with (go_at_call 34; (with_reducible refine (refAt_is g base h l A c ((l.length : Int) + 2) none HF.out wr HR1.out HH.out HT2.out HL.out).mono ?_); rintro e u1 ⟨rfl, b1⟩)
        go_roundw
        case rel => exact ⟨3, by go_num, .inr ⟨by omega, by omega, B, n, d, rfl, HLI.out.on b1, below_then HB.out b1⟩⟩
        case measure => simp [intOf]
      · obtain rfl : k = 3 := by omega
        have HB := Lib.hid hb
        have HLI := Lib.hid hlie
        clear hb hlie
        go_wp2_with fail
        go_ret
        exact ⟨B, n, d, rfl, HLI.out, HB.out⟩
end Go.Proofs.Ytlbpplibngdncaa
