/-
  Wires that are not there, or that no call made: the contracts of package wires for them, and the law WiresVoid, walked: true; nothing that was there has turned. Condition: the table of directions is as the program's text lays it.
-/
import Derived.Test.YtgmoifbncijhdaaDoorWr5
import Derived.Test.YtgmoifbncijhdaaDoorOpenW
import Derived.Deep.CutRange
namespace Go.Proofs.YtgmoifbncijhdaaDoor
open Go.RowKit Rg
set_option linter.unusedVariables false

/-- No wires, or ones that no call made. -/
def NoW (w : World) (v : Value) : Prop := v = .pointer none ∨ ∃ g, v = .pointer (some ⟨g, 0, none⟩) ∧ Blk w g 52 #[.map none, .int .i64 0, .slice none 0 0]
theorem NoW.on {w w' : World} {v : Value} (h : NoW w v) (hb : Below w.heap.size w w') : NoW w' v := by
  rcases h with h | ⟨g, h, hB⟩
  · exact .inl h
  · exact .inr ⟨g, h, hB.on hb⟩
section
variable {w : World} {v : Value}
theorem made_no (h : NoW w v) : Calls Tryd.prog 28 #[v] w fun e w' => e = .returned (.bool false) ∧ w = w' := by
  rcases h with rfl | ⟨g, rfl, hB⟩
  · go_enter Tryd.func28, Tryd.ntmps28
    go_wp2_with fail
    go_ret
    exact ⟨rfl, rfl⟩
  · have c0 := hB.cell 0
    have cl := hB.lt
    simp only [List.getElem?_toArray, List.getElem?_cons_zero] at c0
    have hq := fun W => neq_map_no W
    clear hB
    go_enter Tryd.func28, Tryd.ntmps28
    go_wp2_with fail
    go_ret
    exact ⟨rfl, rfl⟩
theorem here_no (h : NoW w v) (d x p : Int) : Calls Tryd.prog 16 #[v, .int .u8 d, .int .i64 x, .int .i64 p] w fun e w' => e = .returned (.tuple #[.int .i64 0, .bool false]) ∧ w = w' := by
  have HM := Lib.hid (made_no h)
  clear h
  go_enter Tryd.func16, Tryd.ntmps16
  go_wp2_with (go_at_call 28; (with_reducible refine HM.out.mono ?_); rintro e w1 ⟨rfl, rfl⟩)
  go_ret2
  exact ⟨rfl, rfl⟩
theorem given_no (h : NoW w v) (k : Int) : Calls Tryd.prog 18 #[v, .int .i64 k] w fun e w' => e = .returned (.tuple #[.int .i64 0, .bool false]) ∧ w = w' := by
  have HM := Lib.hid (made_no h)
  clear h
  go_enter Tryd.func18, Tryd.ntmps18
  go_wp2_with (go_at_call 28; (with_reducible refine HM.out.mono ?_); rintro e w1 ⟨rfl, rfl⟩)
  go_ret2
  exact ⟨rfl, rfl⟩
theorem ticks_no (h : NoW w v) : Calls Tryd.prog 20 #[v] w fun e w' => e = .returned (.int .i64 0) ∧ w = w' := by
  have HM := Lib.hid (made_no h)
  clear h
  go_enter Tryd.func20, Tryd.ntmps20
  go_wp2_with (go_at_call 28; (with_reducible refine HM.out.mono ?_); rintro e w1 ⟨rfl, rfl⟩)
  go_ret
  exact ⟨rfl, rfl⟩
theorem end_no8 (h : NoW w v) : Calls Tryd.prog 14 #[v] w fun e w' => e = .returned (.int .i64 2) ∧ w = w' := by
  have HM := Lib.hid (made_no h)
  clear h
  go_enter Tryd.func14, Tryd.ntmps14
  go_wp2_with (go_at_call 28; (with_reducible refine HM.out.mono ?_); rintro e w1 ⟨rfl, rfl⟩)
  go_ret
  exact ⟨rfl, rfl⟩
theorem put_no (h : NoW w v) (k x : Int) (b : Bool) : Calls Tryd.prog 27 #[v, .int .i64 k, .agg #[.int .i64 x, .bool b]] w fun e w' => e = .returned (.int .i64 2) ∧ Below w.heap.size w w' := by
  have HM := Lib.hid (made_no (h.on ((Below.refl _ _).alloc (Nat.le_refl _) (.cells #[.int .i64 x, .bool b] 69))))
  have HB := Lib.hid (show Below w.heap.size w (w.alloc (.cells #[.int .i64 x, .bool b] 69)) from (Below.refl _ _).alloc (Nat.le_refl _) _)
  clear h
  go_enter Tryd.func27, Tryd.ntmps27
  go_wp2_with (go_at_call 28; (with_reducible refine HM.out.mono ?_); rintro e w1 ⟨rfl, rfl⟩)
  go_ret
  exact ⟨rfl, HB.out⟩
theorem give_no (h : NoW w v) (k x : Int) : Calls Tryd.prog 11 #[v, .int .i64 k, .int .i64 x] w fun e w' => e = .returned (.int .i64 2) ∧ Below w.heap.size w w' := by
  have HM := Lib.hid (put_no h k x true)
  clear h
  go_enter Tryd.func11, Tryd.ntmps11
  go_wp2_with (go_at_call 27; (with_reducible refine HM.out.mono ?_); rintro e w1 ⟨rfl, b1⟩)
  go_ret
  exact ⟨rfl, b1⟩
theorem take_no (h : NoW w v) (k : Int) : Calls Tryd.prog 13 #[v, .int .i64 k] w fun e w' => e = .returned (.int .i64 2) ∧ Below w.heap.size w w' := by
  have HM := Lib.hid (put_no h k 0 false)
  clear h
  go_enter Tryd.func13, Tryd.ntmps13
  go_wp2_with (go_at_call 27; (with_reducible refine HM.out.mono ?_); rintro e w1 ⟨rfl, b1⟩)
  go_ret
  exact ⟨rfl, b1⟩
end
theorem elemPW : Tryd.prog.underlying 53 = some (.slice (Tryd.prog.elem 53)) := by kernel_rfl
theorem sizePW (w : World) : (sizeOf (Tryd.prog.elem 53)).run Tryd.prog w = .ok 1 w := by kernel_rfl
theorem idxPW (b n c : Nat) {k : Nat} (hk : k < n) (w : World) :
    (Instr.indexAt 53 (.slice (some ⟨b, 0, none⟩) n c) (.int .i64 (k : Int))).run Tryd.prog w = .ok (.pointer (some ⟨b, k, none⟩)) w := by
  rw [run_indexAt_slice (h := elemPW), if_pos (by omega), sizePW]
  simp [Result.andThen, Addr.add_lit]
set_option maxRecDepth 100000 in
set_option maxHeartbeats 2000000 in
theorem wiresVoid_walk (a : Ac) (w : World) (hw : Ways w) (ok : a.Ok) :
    Calls Tryd.prog 4 #[.agg a.cs] w fun e w' => e = .returned (.bool true) ∧ Below w.heap.size w w' := by
  obtain ⟨ka, la, xa, da, na, ha⟩ := a
  obtain ⟨W3, hW3⟩ : ∃ W3, W3 = ((w.alloc (.cells #[.int .u8 ka, .int .i64 la, .int .i64 xa, .int .u8 da, .int .i64 na, .int .i64 ha] 32)).alloc (.cells #[.map none, .int .i64 0, .slice none 0 0] 52)).alloc (.cells #[.pointer none, .pointer (some ⟨w.heap.size + 1, 0, none⟩)] 24) := ⟨_, rfl⟩
  have hB1 : Blk W3 w.heap.size 32 #[.int .u8 ka, .int .i64 la, .int .i64 xa, .int .u8 da, .int .i64 na, .int .i64 ha] := by rw [hW3]; exact ((Blk.new w _ _).alloc _).alloc _
  have hB2 : Blk W3 (w.heap.size + 1) 52 #[.map none, .int .i64 0, .slice none 0 0] := by
    rw [hW3]
    have := (Blk.new (w.alloc (.cells #[.int .u8 ka, .int .i64 la, .int .i64 xa, .int .u8 da, .int .i64 na, .int .i64 ha] 32)) 52 #[.map none, .int .i64 0, .slice none 0 0]).alloc (.cells #[.pointer none, .pointer (some ⟨w.heap.size + 1, 0, none⟩)] 24)
    simpa only [alloc_size] using this
  have hB3 : Blk W3 (w.heap.size + 1 + 1) 24 #[.pointer none, .pointer (some ⟨w.heap.size + 1, 0, none⟩)] := by
    rw [hW3]
    have := Blk.new ((w.alloc (.cells #[.int .u8 ka, .int .i64 la, .int .i64 xa, .int .u8 da, .int .i64 na, .int .i64 ha] 32)).alloc (.cells #[.map none, .int .i64 0, .slice none 0 0] 52)) 24 #[.pointer none, .pointer (some ⟨w.heap.size + 1, 0, none⟩)]
    simpa only [alloc_size] using this
  have hbw : Below w.heap.size w W3 := by rw [hW3]; exact below_al (below_al (below_al (Below.refl _ _) _) _) _
  have HW := Lib.hid (fun (u : World) (h : Below W3.heap.size W3 u) => (hw.on hbw).on h)
  have HNo := Lib.hid (fun (u : World) (h : Below W3.heap.size W3 u) (k : Nat) (v : Value) (hk : (#[.pointer none, .pointer (some ⟨w.heap.size + 1, 0, none⟩)] : Array Value)[k]? = some v) => show NoW u v by
    have hk2 : k < 2 := by simpa using (Array.getElem?_eq_some_iff.1 hk).1
    have hk3 : k = 0 ∨ k = 1 := by omega
    rcases hk3 with rfl | rfl
    · left; simpa using hk.symm
    · right; exact ⟨w.heap.size + 1, by simpa using hk.symm, hB2.on h⟩)
  have HB1 := Lib.hid hB1
  have HB3 := Lib.hid hB3
  have HBW := Lib.hid hbw
  have HL1 := Lib.hid (fun (u : World) (h : Below W3.heap.size W3 u) => Nat.lt_of_lt_of_le hB1.lt h.size)
  have HL3 := Lib.hid (fun (u : World) (h : Below W3.heap.size W3 u) => Nat.lt_of_lt_of_le hB3.lt h.size)
  clear hw ok hB1 hB2 hB3 hbw
  have ecs : (Ac.mk ka la xa da na ha).cs = #[.int .u8 ka, .int .i64 la, .int .i64 xa, .int .u8 da, .int .i64 na, .int .i64 ha] := rfl
  rw [ecs]
  clear ecs
  go_enter Tryd.func4, Tryd.ntmps4
  go_upto_region 3 with fail
  rw [← hW3]
  clear hW3
  go_wp2_with fail
  go_loopw [5] (fun s5 wr => ∃ k : Nat, k ≤ 2 ∧ s5 = .int .i64 (k : Int) ∧ Hid (Below W3.heap.size W3 wr)) (fun s5 _ => 2 - (intOf s5).toNat)
  case atStart => exact ⟨0, by omega, rfl, Lib.hid (Below.refl _ _)⟩
  case round =>
    obtain ⟨k, hk, rfl, HI⟩ := hrel
    by_cases hlt : k < 2
    · have hd : decide ((k : Int) < 2) = true := decide_eq_true (by omega)
      have hd' : decide (k < 2) = true := decide_eq_true hlt
      have hwk : IntKind.i64.wrap ((k : Int) + 1) = ((k + 1 : Nat) : Int) := by rw [IntWalk.i64_in _ (by omega)]; omega
      have hix := fun W => idxPW (w.heap.size + 1 + 1) 2 2 hlt W
      have hcs : ∃ v, (#[.pointer none, .pointer (some ⟨w.heap.size + 1, 0, none⟩)] : Array Value)[k]? = some v := ⟨_, Array.getElem?_eq_getElem (by simpa using hlt)⟩
      obtain ⟨v, hv⟩ := hcs
      have HN := Lib.hid (fun (u : World) (h : Below W3.heap.size W3 u) => HNo.out u h k v hv)
      have cv : wr.cell? ⟨w.heap.size + 1 + 1, k, none⟩ = some v := ((HB3.out.on HI.out).cell k).trans hv
      have c1 := (HB1.out.on HI.out).cell 1
      have c3 := (HB1.out.on HI.out).cell 3
      have c4 := (HB1.out.on HI.out).cell 4
      have c5 := (HB1.out.on HI.out).cell 5
      have l1 := HL1.out _ HI.out
      have l3 := HL3.out _ HI.out
      simp only [List.getElem?_toArray, List.getElem?_cons_zero, List.getElem?_cons_succ] at c1 c3 c4 c5
      clear hv hk
      go_wp2_with (first
        | (go_at_call 16; (with_reducible refine (here_no (HN.out _ HI.out) da na ha).mono ?_); rintro e w' ⟨rfl, rfl⟩)
        | (go_at_call 18; (with_reducible refine (given_no (HN.out _ HI.out) la).mono ?_); rintro e w' ⟨rfl, rfl⟩; have c2 := (HB1.out.on HI.out).cell 2; simp only [List.getElem?_toArray, List.getElem?_cons_zero, List.getElem?_cons_succ] at c2)
        | (go_at_call 11; (with_reducible refine (give_no (HN.out _ HI.out) la xa).mono ?_); rintro e u1 ⟨rfl, b1⟩; have H1 := Lib.hid (below_then HI.out b1); have c1 := (HB1.out.on H1.out).cell 1; have l1 := HL1.out _ H1.out; simp only [List.getElem?_toArray, List.getElem?_cons_zero, List.getElem?_cons_succ] at c1)
        | (go_at_call 13; (with_reducible refine (take_no (HN.out _ H1.out) la).mono ?_); rintro e u2 ⟨rfl, b2⟩; have H2 := Lib.hid (below_then H1.out b2))
        | (go_at_call 14; (with_reducible refine (end_no8 (HN.out _ H2.out)).mono ?_); rintro e w' ⟨rfl, rfl⟩)
        | (go_at_call 20; (with_reducible refine (ticks_no (HN.out _ H2.out)).mono ?_); rintro e w' ⟨rfl, rfl⟩))
      go_roundw
      case rel => exact ⟨k + 1, by omega, rfl, H2⟩
      case measure => simp [intOf]; omega
    · obtain rfl : k = 2 := by omega
      have HV := Lib.hid (lives_wr wr (HW.out _ HI.out))
      clear hlt hk
      go_wp2_with (go_at_call 8; (with_reducible refine HV.out.mono ?_); rintro e v1 ⟨rfl, b1⟩)
      go_ret
      exact ⟨rfl, below_then HBW.out (below_then HI.out b1)⟩
end Go.Proofs.YtgmoifbncijhdaaDoor
