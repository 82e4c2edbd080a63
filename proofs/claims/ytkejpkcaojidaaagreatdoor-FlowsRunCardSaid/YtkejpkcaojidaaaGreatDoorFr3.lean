/-
  The contract of frames.Put: the frame's bytes, in new memory without room behind; ErrArg and nothing, if it may not be. Conditions: the frame's numbers are of their kinds.
-/
import Derived.Test.YtkejpkcaojidaaaGreatDoorSumRefC
import Derived.Test.YtkejpkcaojidaaaGreatDoorRefBytes
import Derived.Test.YtkejpkcaojidaaaGreatDoorSameB
import Derived.Test.YtkejpkcaojidaaaGreatDoorKeep
import Derived.Test.YtkejpkcaojidaaaGreatDoorReg2
import Derived.Test.YtkejpkcaojidaaaGreatDoorSumPart
namespace Go.Proofs.YtkejpkcaojidaaaGreatDoor
set_option linter.unusedVariables false
set_option linter.unusedSimpArgs false
open Go.RowKit Crc

/-- A frame: owner, kind, station, seq, value. -/
structure Fr where
  o : Int
  k : Int
  s : Int
  q : Int
  v : Int
def Fr.zero : Fr := ⟨0, 0, 0, 0, 0⟩
/-- Its numbers are of their kinds. -/
structure Fr.Fit (f : Fr) : Prop where
  k0 : 0 ≤ f.k
  k1 : f.k ≤ 255
  s0 : 0 ≤ f.s
  s1 : f.s ≤ 255
  q0 : 0 ≤ f.q
  q1 : f.q < 4294967296
  v0 : 0 ≤ f.v
  v1 : f.v < 4294967296
/-- May there be such a frame? -/
def mayB (o k : Int) : Bool := decide (0 ≤ o) && decide (o < 8) && (k == 1 || k == 2)
theorem mayB_iff (o k : Int) : mayB o k = true ↔ 0 ≤ o ∧ o < 8 ∧ (k = 1 ∨ k = 2) := by simp [mayB, and_assoc]
/-- A tail's symbol, symbols. -/
def tsy (b : Bool) : Int := if b then 2 else 1
def tailL (a b : Bool) : List Int := [tsy a, tsy b]
/-- A frame's ten bytes ahead of their sum. -/
def Fr.body (f : Fr) : List Int := [16 * f.k + f.o, f.s] ++ four f.q ++ four f.v
theorem mayBe_any (f : Fr) (w : World) :
    Calls Tryz.prog 135 #[.agg #[.int .i64 f.o, .int .u8 f.k, .int .u8 f.s, .int .u32 f.q, .int .u32 f.v]] w fun e w' => e = .returned (.bool (mayB f.o f.k)) ∧ Below w.heap.size w w' := by
  obtain ⟨o, k, s, q, v⟩ := f
  have hb := below_al (Below.refl w.heap.size w) (.cells #[.int .i64 o, .int .u8 k, .int .u8 s, .int .u32 q, .int .u32 v] 112)
  by_cases h0 : 0 ≤ o
  · by_cases h1 : o < 8
    · have h1' : o ≤ 7 := by omega
      by_cases h2 : k = 1
      · subst h2
        have HM := Lib.hid ((mayB_iff o 1).2 ⟨h0, h1, .inl rfl⟩)
        go_enter Tryz.func135, Tryz.ntmps135
        go_wp2_with fail
        go_ret
        exact ⟨ret_bool HM.out.symm, hb⟩
      · have h2' := beq_eq_false_iff_ne.2 h2
        have HM := Lib.hid (show (k == 2) = mayB o k by simp [mayB, h0, h1, h2])
        clear h2
        go_enter Tryz.func135, Tryz.ntmps135
        go_wp2_with fail
        go_ret
        exact ⟨ret_bool HM.out, hb⟩
    · have h1' : 8 ≤ o := by omega
      have HM := Lib.hid (show false = mayB o k by simp [mayB, h1])
      clear h1
      go_enter Tryz.func135, Tryz.ntmps135
      go_wp2_with fail
      go_ret
      exact ⟨ret_bool HM.out, hb⟩
  · have h0' : o < 0 := by omega
    have HM := Lib.hid (show false = mayB o k by simp [mayB, h0])
    clear h0
    go_enter Tryz.func135, Tryz.ntmps135
    go_wp2_with fail
    go_ret
    exact ⟨ret_bool HM.out, hb⟩

theorem refMay_any (f : Fr) (w : World) :
    Calls Tryz.prog 120 #[.agg #[.int .i64 f.o, .int .u8 f.k, .int .u8 f.s, .int .u32 f.q, .int .u32 f.v]] w fun e w' => e = .returned (.bool (mayB f.o f.k)) ∧ Below w.heap.size w w' := by
  obtain ⟨o, k, s, q, v⟩ := f
  have hb := below_al (Below.refl w.heap.size w) (.cells #[.int .i64 o, .int .u8 k, .int .u8 s, .int .u32 q, .int .u32 v] 123)
  by_cases h0 : 0 ≤ o
  · by_cases h1 : o < 8
    · have h1' : o ≤ 7 := by omega
      by_cases h2 : k = 1
      · subst h2
        have HM := Lib.hid ((mayB_iff o 1).2 ⟨h0, h1, .inl rfl⟩)
        go_enter Tryz.func120, Tryz.ntmps120
        go_wp2_with fail
        go_ret
        exact ⟨ret_bool HM.out.symm, hb⟩
      · have h2' := beq_eq_false_iff_ne.2 h2
        have HM := Lib.hid (show (k == 2) = mayB o k by simp [mayB, h0, h1, h2])
        clear h2
        go_enter Tryz.func120, Tryz.ntmps120
        go_wp2_with fail
        go_ret
        exact ⟨ret_bool HM.out, hb⟩
    · have h1' : 8 ≤ o := by omega
      have HM := Lib.hid (show false = mayB o k by simp [mayB, h1])
      clear h1
      go_enter Tryz.func120, Tryz.ntmps120
      go_wp2_with fail
      go_ret
      exact ⟨ret_bool HM.out, hb⟩
  · have h0' : o < 0 := by omega
    have HM := Lib.hid (show false = mayB o k by simp [mayB, h0])
    clear h0
    go_enter Tryz.func120, Tryz.ntmps120
    go_wp2_with fail
    go_ret
    exact ⟨ret_bool HM.out, hb⟩

theorem fourBytes_any (x : Int) (w : World) (h0 : 0 ≤ x) (h1 : x < 4294967296) :
    Calls Tryz.prog 137 #[.int .u32 x] w fun e w' => e = .returned (.slice (some ⟨w.heap.size, 0, none⟩) 4 4) ∧ w.alloc (.cells (cellsOf .u8 (four x)) 5) = w' := by
  have HC := Lib.hid (show cellsOf .u8 (four x) = #[.int .u8 (x / 16777216), .int .u8 (x / 65536 % 256), .int .u8 (x / 256 % 256), .int .u8 (x % 256)] from rfl)
  go_enter Tryz.func137, Tryz.ntmps137
  go_wp2_with fail
  go_ret
  exact ⟨rfl, by rw [HC.out]⟩

theorem tparts_any (a b : Bool) (w : World) :
    Calls Tryz.prog 104 #[.agg #[.bool a, .bool b]] w fun e w' => e = .returned (.agg #[.bool a, .bool b]) ∧ Below w.heap.size w w' := by
  go_enter Tryz.func104, Tryz.ntmps104
  go_wp2_with fail
  refine bodyPost_ret (v := .agg #[.bool a, .bool b]) (by simp [results, Tryz.results104, go_sem]) rfl ⟨rfl, ?_⟩
  exact below_al (below_al (Below.refl _ _) _) _

theorem arr2_eql (a b c d : Bool) (w : World) : (binOp .eql 57 (.agg #[.bool a, .bool b]) (.agg #[.bool c, .bool d])).run Tryz.prog w = .ok (.bool (a == c && b == d)) w := by
  cases a <;> cases b <;> cases c <;> cases d <;> kernel_rfl
theorem tgood_any (a b : Bool) (w : World) :
    Calls Tryz.prog 64 #[.agg #[.bool a, .bool b]] w fun e w' => e = .returned (.bool (a && !b)) ∧ Below w.heap.size w w' := by
  have hq := fun u => arr2_eql a b true false u
  go_enter Tryz.func64, Tryz.ntmps64
  go_wp2_with (go_at_call 104; (with_reducible refine (tparts_any a b _).mono ?_); rintro e w1 ⟨rfl, hb1⟩)
  go_ret
  exact ⟨ret_bool (by cases a <;> cases b <;> rfl), below_then (below_al (Below.refl _ _) _) hb1⟩

theorem refSym_any (a : Bool) (w : World) :
    Calls Tryz.prog 123 #[.bool a] w fun e w' => e = .returned (.int .u8 (tsy a)) ∧ w = w' := by
  cases a
  all_goals
    go_enter Tryz.func123, Tryz.ntmps123
    go_wp2_with fail
    go_ret
    exact ⟨rfl, rfl⟩
end Go.Proofs.YtkejpkcaojidaaaGreatDoor

namespace Go.Proofs.YtkejpkcaojidaaaGreatDoor
open Go.RowKit Crc

theorem frNumber_any (A : Option Addr) (c : Nat) (l : List Int) (w : World) (hx : Lies .u8 w w.heap.size A 4 l) (hbd : ∀ x ∈ l, 0 ≤ x ∧ x ≤ 255) :
    Calls Tryz.prog 149 #[.slice A 4 c] w fun e w' => e = .returned (.int .u32 (numB l)) ∧ w = w' := by
  have HL := Lib.hid hx.len
  have HB := Lib.hid hbd
  clear hbd
  go_enter Tryz.func149, Tryz.ntmps149
  go_wp2
  go_loop [3, 8] (fun a i => ∃ k : Nat, k ≤ 4 ∧ i = .int .i64 k ∧ a = .int .u32 (numB (l.take k))) (fun _ i => 4 - (intOf i).toNat)
  case atStart => exact ⟨0, Nat.zero_le _, rfl, rfl⟩
  case round =>
    obtain ⟨k, hk, rfl, rfl⟩ := hrel
    by_cases hlt : k < 4
    · obtain ⟨b, off, rfl, hb, hc⟩ := hx.at_ (by omega)
      have hcell := hc k hlt
      have hs := Lib.hid (numB_snoc l k (by rw [HL.out]; exact hlt))
      have hbd := numB_bd l HB.out k (by rw [HL.out]; exact hk)
      have hx2 := HB.out (l.getD k 0) (by rw [getD_at l k (by rw [HL.out]; exact hlt)]; exact List.getElem_mem _)
      have hp := pow256 k hlt
      obtain ⟨x, hx1⟩ : ∃ x, x = l.getD k 0 := ⟨_, rfl⟩
      obtain ⟨v, hv⟩ : ∃ v, v = numB (l.take k) := ⟨_, rfl⟩
      rw [← hx1] at hcell hs hx2
      rw [← hv] at hs hbd ⊢
      clear hx1 hv hc
      obtain ⟨h0, h1⟩ := hbd
      have h1' : v < 16777216 := by omega
      clear h1 hp
      obtain ⟨hx20, hx21⟩ := hx2
      have hor := or_low32 v x h0 h1' hx20 hx21
      go_wp2
      go_round
      case rel => exact ⟨k + 1, by omega, by go_num, by rw [hs.out]⟩
      case measure => simp [intOf]; omega
    · go_wp2
      go_ret
      exact ⟨ret_int (by rw [List.take_of_length_le (by rw [HL.out]; omega)]), rfl⟩

/-- A tail's symbols, as far as the first k are written. -/
def tailTo (a b : Bool) : Nat → List Int
  | 0 => [0, 0]
  | 1 => [tsy a, 0]
  | _ => [tsy a, tsy b]
theorem arr2_at0 (a b : Bool) (w : World) : (Instr.index 57 (.agg #[.bool a, .bool b]) (.int .i64 0)).run Tryz.prog w = .ok (.bool a) w := by kernel_rfl
theorem arr2_at1 (a b : Bool) (w : World) : (Instr.index 57 (.agg #[.bool a, .bool b]) (.int .i64 1)).run Tryz.prog w = .ok (.bool b) w := by kernel_rfl

theorem tsyms_any (a b : Bool) (w : World) :
    Calls Tryz.prog 130 #[.agg #[.bool a, .bool b]] w fun e w' => ∃ g, e = .returned (.slice (some ⟨g, 0, none⟩) 2 2) ∧ w.heap.size ≤ g ∧ Blk w' g 47 (cellsOf .u8 (tailL a b)) ∧ Below w.heap.size w w' := by
  have hmk := fun u => makeSyms 2 (by omega) (by omega) u
  rw [show (2 : Int).toNat = 2 from rfl, cellsOf_made, show List.replicate 2 (0 : Int) = tailTo a b 0 from rfl] at hmk
  go_enter Tryz.func130, Tryz.ntmps130
  go_wp2_with (go_at_call 104; (with_reducible refine (tparts_any a b _).mono ?_); rintro e w1 ⟨rfl, hb1⟩)
  go_loopw [9] (fun i wr => ∃ k : Nat, k ≤ 2 ∧ i = .int .i64 k ∧ Blk wr (w.heap.size + 1) 47 (cellsOf .u8 (tailTo a b k)) ∧ Below w.heap.size w wr) (fun i _ => 2 - (intOf i).toNat)
  case atStart =>
    have hB := Blk.new (w.alloc (.cells #[.bool a, .bool b] 114)) 47 (cellsOf .u8 (tailTo a b 0))
    rw [alloc_size] at hB
    exact ⟨0, by omega, rfl, hB.on hb1, below_then (below_al (below_al (Below.refl _ _) _) _) hb1⟩
  case round =>
    obtain ⟨k, hk, rfl, hB, hb⟩ := hrel
    have hlt := hB.lt
    have hz := hb.size
    obtain rfl | rfl | rfl : k = 0 ∨ k = 1 ∨ k = 2 := by omega
    · have hix := fun u => arr2_at0 a b u
      have hc := hB.cell 0
      have hf := hB.frozen 0
      rw [show (cellsOf .u8 (tailTo a b 0))[0]? = some (.int .u8 0) from rfl] at hc
      cases a
      · have HB1 := Lib.hid (show Blk (wr.setCell ⟨w.heap.size + 1, 0, none⟩ (.int .u8 1)) (w.heap.size + 1) 47 (cellsOf .u8 (tailTo false b 1)) from hB.set_ 0 (.int .u8 1))
        have HB2 := Lib.hid (hb.setCell (p := ⟨w.heap.size + 1, 0, none⟩) (by simp) (.int .u8 1))
        clear hB hb
        go_wp2_with fail
        go_roundw
        case rel => exact ⟨1, by omega, by go_num, HB1.out, HB2.out⟩
        case measure => simp [intOf]
      · have HB1 := Lib.hid (show Blk ((wr.setCell ⟨w.heap.size + 1, 0, none⟩ (.int .u8 1)).setCell ⟨w.heap.size + 1, 0, none⟩ (.int .u8 2)) (w.heap.size + 1) 47 (cellsOf .u8 (tailTo true b 1)) from (hB.set_ 0 (.int .u8 1)).set_ 0 (.int .u8 2))
        have HB2 := Lib.hid ((hb.setCell (p := ⟨w.heap.size + 1, 0, none⟩) (by simp) (.int .u8 1)).setCell (p := ⟨w.heap.size + 1, 0, none⟩) (by simp) (.int .u8 2))
        clear hB hb
        go_wp2_with fail
        go_roundw
        case rel => exact ⟨1, by omega, by go_num, HB1.out, HB2.out⟩
        case measure => simp [intOf]
    · have hix := fun u => arr2_at1 a b u
      have hc := hB.cell 1
      have hf := hB.frozen 1
      rw [show (cellsOf .u8 (tailTo a b 1))[1]? = some (.int .u8 0) from rfl] at hc
      cases b
      · have HB1 := Lib.hid (show Blk (wr.setCell ⟨w.heap.size + 1, 1, none⟩ (.int .u8 1)) (w.heap.size + 1) 47 (cellsOf .u8 (tailTo a false 2)) from hB.set_ 1 (.int .u8 1))
        have HB2 := Lib.hid (hb.setCell (p := ⟨w.heap.size + 1, 1, none⟩) (by simp) (.int .u8 1))
        clear hB hb
        go_wp2_with fail
        go_roundw
        case rel => exact ⟨2, by omega, by go_num, HB1.out, HB2.out⟩
        case measure => simp [intOf]
      · have HB1 := Lib.hid (show Blk ((wr.setCell ⟨w.heap.size + 1, 1, none⟩ (.int .u8 1)).setCell ⟨w.heap.size + 1, 1, none⟩ (.int .u8 2)) (w.heap.size + 1) 47 (cellsOf .u8 (tailTo a true 2)) from (hB.set_ 1 (.int .u8 1)).set_ 1 (.int .u8 2))
        have HB2 := Lib.hid ((hb.setCell (p := ⟨w.heap.size + 1, 1, none⟩) (by simp) (.int .u8 1)).setCell (p := ⟨w.heap.size + 1, 1, none⟩) (by simp) (.int .u8 2))
        clear hB hb
        go_wp2_with fail
        go_roundw
        case rel => exact ⟨2, by omega, by go_num, HB1.out, HB2.out⟩
        case measure => simp [intOf]
    · go_wp2_with fail
      go_ret
      exact ⟨_, rfl, by omega, hB, hb⟩

/-- A new list of one's own, known whole. -/
def Reg.Fact.blk (t : TypeId) (k : IntKind) (n : Nat) (xs : List Int) (base : Nat) : Reg.Fact := ⟨fun v w => ∃ g, v = .slice (some ⟨g, 0, none⟩) n n ∧ base ≤ g ∧ Blk w g t (cellsOf k xs), fun _ _ _ hb h => by
  obtain ⟨g, e, hg, hB⟩ := h
  exact ⟨g, e, hg, hB.on hb⟩⟩

set_option maxRecDepth 100000 in
theorem refTail_any (a b : Bool) (w : World) :
    Calls Tryz.prog 102 #[.agg #[.bool a, .bool b]] w fun e w' => ∃ g, e = .returned (.slice (some ⟨g, 0, none⟩) 2 2) ∧ w.heap.size ≤ g ∧ Blk w' g 47 (cellsOf .u8 (tailL a b)) ∧ Below w.heap.size w w' := by
  have hB := Blk.new w 153 #[.bool a, .bool b]
  have HB := Lib.hid hB
  clear hB
  have HS := Lib.hid (fun c u => refSym_any c u)
  go_enter Tryz.func102, Tryz.ntmps102
  go_wp2_with fail
  refine Reg.wp_slots (fun t => decide (2 ≤ t)) (by kernel_rfl) (by kernel_rfl) (by kernel_rfl) (fun zz => (Reg.tbl [
    (3, .is (.pointer (some ⟨w.heap.size, 0, none⟩))),
    (4, .is (.bool a)),
    (5, .is (.int .u8 (tsy a))),
    (6, .is (.pointer (some ⟨w.heap.size, 1, none⟩))),
    (7, .is (.bool b)),
    (8, .is (.int .u8 (tsy b))),
    (9, .blk 47 .u8 2 (tailL a b) w.heap.size),
    (2, .blk 47 .u8 2 (tailL a b) w.heap.size)] zz).P) (fun zz => (Reg.tbl _ zz).on) ?_ ?_
  · simp only [Reg.frame, Reg.over, Nat.reduceAdd, Nat.reduceLeDiff, decide_true, decide_false, if_true, Bool.false_eq_true, if_false]
    refine ⟨?_, ?_, ?_, ?_, ?_, ?_, ?_, ?_, trivial⟩
    · intro x u hbu hd
      refine wpOp_step rfl fun K hK => ?_
      go_simp
      exact hK _ _ ⟨_, rfl, Below.refl _ _, fun d hd => by cases hd; exact rfl⟩
    · intro x u hbu hd
      have h3 : x 3 = .pointer (some ⟨w.heap.size, 0, none⟩) := hd 0 (by decide)
      have c0 := (HB.out.on hbu).cell 0
      have hlt := (HB.out.on hbu).lt
      refine wpOp_step rfl fun K hK => ?_
      simp only [h3] at hK ⊢
      go_simp
      exact hK _ _ ⟨_, rfl, Below.refl _ _, fun d hd => by cases hd; exact rfl⟩
    · intro x u hbu hd
      have h4 : x 4 = .bool a := hd 1 (by decide)
      refine wpOp_step rfl fun K hK => ?_
      simp only [h4] at hK ⊢
      go_simp
      with_reducible refine (HS.out a _).mono ?_
      rintro e u' ⟨rfl, rfl⟩
      exact hK _ _ ⟨_, rfl, Below.refl _ _, fun d hd => by cases hd; exact rfl⟩
    · intro x u hbu hd
      refine wpOp_step rfl fun K hK => ?_
      go_simp
      exact hK _ _ ⟨_, rfl, Below.refl _ _, fun d hd => by cases hd; exact rfl⟩
    · intro x u hbu hd
      have h6 : x 6 = .pointer (some ⟨w.heap.size, 1, none⟩) := hd 3 (by decide)
      have c1 := (HB.out.on hbu).cell 1
      have hlt := (HB.out.on hbu).lt
      refine wpOp_step rfl fun K hK => ?_
      simp only [h6] at hK ⊢
      go_simp
      exact hK _ _ ⟨_, rfl, Below.refl _ _, fun d hd => by cases hd; exact rfl⟩
    · intro x u hbu hd
      have h7 : x 7 = .bool b := hd 4 (by decide)
      refine wpOp_step rfl fun K hK => ?_
      simp only [h7] at hK ⊢
      go_simp
      with_reducible refine (HS.out b _).mono ?_
      rintro e u' ⟨rfl, rfl⟩
      exact hK _ _ ⟨_, rfl, Below.refl _ _, fun d hd => by cases hd; exact rfl⟩
    · intro x u hbu hd
      have h5 : x 5 = .int .u8 (tsy a) := hd 2 (by decide)
      have h8 : x 8 = .int .u8 (tsy b) := hd 5 (by decide)
      refine wpOp_step rfl fun K hK => ?_
      simp only [h5, h8] at hK ⊢
      go_simp
      exact hK _ _ ⟨_, rfl, below_al (Below.refl _ _) _, fun d hd => by cases hd; exact ⟨_, rfl, Nat.le_trans (by simp) hbu.size, Blk.new _ _ _⟩⟩
    · intro x u hbu hd
      have k9 : (Reg.Fact.blk 47 .u8 2 (tailL a b) w.heap.size : Reg.Fact).P (x 9) u := hd 6 (by decide)
      obtain ⟨g9, h9, hg9, hB9⟩ := k9
      refine wpOp_step rfl fun K hK => ?_
      simp only [h9] at hK ⊢
      go_simp
      exact hK _ _ ⟨_, rfl, Below.refl _ _, fun d hd => by cases hd; exact ⟨g9, rfl, hg9, hB9⟩⟩
  · intro x u hbu hall
    have k2 : (Reg.Fact.blk 47 .u8 2 (tailL a b) w.heap.size).P (x 2) u := hall 7 (by decide)
    obtain ⟨g, h2, hg, hB⟩ := k2
    simp only [Reg.frame, Reg.over, Nat.reduceAdd, Nat.reduceLeDiff, decide_true, decide_false, if_true, Bool.false_eq_true, if_false, h2]
    go_wp2_with fail
    go_ret
    exact ⟨g, rfl, hg, hB, below_then (below_al (Below.refl _ _) _) hbu⟩

end Go.Proofs.YtkejpkcaojidaaaGreatDoor

namespace Go.Proofs.YtkejpkcaojidaaaGreatDoor
open Go.RowKit Crc

theorem three3 {α : Type} {P : α → Prop} {a b c : α} (ha : P a) (hb : P b) (hc : P c) : ∀ p ∈ [a, b, c], P p := by
  simp only [List.forall_mem_cons]
  exact ⟨ha, hb, hc, fun _ h => by cases h⟩
theorem Fr.head_bd {f : Fr} (h : f.Fit) (hm : mayB f.o f.k = true) : ∀ x ∈ [16 * f.k + f.o, f.s], 0 ≤ x ∧ x ≤ 255 := by
  have h1 := (mayB_iff _ _).1 hm
  have := h.s0
  have := h.s1
  simp only [List.forall_mem_cons]
  exact ⟨by omega, by omega, fun _ h => by cases h⟩
theorem Fr.body_bd {f : Fr} (h : f.Fit) (hm : mayB f.o f.k = true) : ∀ x ∈ f.body, 0 ≤ x ∧ x ≤ 255 := by
  intro x hx
  rcases List.mem_append.1 hx with h1 | h1
  · rcases List.mem_append.1 h1 with h2 | h2
    · exact Fr.head_bd h hm x h2
    · exact four_bd _ h.q0 h.q1 x h2
  · exact four_bd _ h.v0 h.v1 x h1

theorem frPut_no (f : Fr) (w : World) (hm : mayB f.o f.k = false) :
    Calls Tryz.prog 128 #[.agg #[.int .i64 f.o, .int .u8 f.k, .int .u8 f.s, .int .u32 f.q, .int .u32 f.v]] w fun e w' => e = .returned (.tuple #[.slice none 0 0, .int .i64 1]) ∧ Below w.heap.size w w' := by
  have HM := Lib.hid (fun u => mayBe_any f u)
  rw [hm] at HM
  clear hm
  go_enter Tryz.func128, Tryz.ntmps128
  go_wp2_with (go_at_call 135; (with_reducible refine (HM.out _).mono ?_); rintro e w1 ⟨rfl, hb1⟩)
  go_ret2
  exact ⟨rfl, below_then (below_al (Below.refl _ _) _) hb1⟩

set_option maxRecDepth 100000 in
theorem frPut_yes (f : Fr) (w : World) (hf : f.Fit) (hm : mayB f.o f.k = true) :
    Calls Tryz.prog 128 #[.agg #[.int .i64 f.o, .int .u8 f.k, .int .u8 f.s, .int .u32 f.q, .int .u32 f.v]] w fun e w' => ∃ g, e = .returned (.tuple #[.slice (some ⟨g, 0, none⟩) 14 14, .int .i64 0]) ∧ w.heap.size ≤ g ∧ Blk w' g 5 (cellsOf .u8 (putL f.body)) ∧ Below w.heap.size w w' := by
  have HM := Lib.hid (fun u => mayBe_any f u)
  rw [hm] at HM
  have HHB := Lib.hid (Fr.head_bd hf hm)
  have HQB := Lib.hid (four_bd _ hf.q0 hf.q1)
  have HVB := Lib.hid (four_bd _ hf.v0 hf.v1)
  have q0 := hf.q0
  have q1 := hf.q1
  have v0 := hf.v0
  have v1 := hf.v1
  obtain ⟨h0, h1, h2⟩ := (mayB_iff _ _).1 hm
  have HBL := Lib.hid (show f.body = [[16 * f.k + f.o, f.s], four f.q, four f.v].flatten by simp [Fr.body])
  obtain ⟨L, hL⟩ : ∃ L, L = f.body := ⟨_, rfl⟩
  rw [← hL] at HBL ⊢
  obtain ⟨o, k, s, q, v⟩ := f
  simp only at h0 h1 h2 q0 q1 v0 v1 HBL HHB HQB HVB
  have hk1 : 1 ≤ k := by omega
  have hk2 : k ≤ 2 := by omega
  clear hL hf hm h2
  go_enter Tryz.func128, Tryz.ntmps128
  have hF := Blk.new w 112 #[.int .i64 o, .int .u8 k, .int .u8 s, .int .u32 q, .int .u32 v]
  go_wp2_with (first
    | (go_at_call 135; (with_reducible refine (HM.out _).mono ?_); rintro e w1 ⟨rfl, hb1⟩; have hF1 := hF.on hb1; have c0 := hF1.cell 0; have c1 := hF1.cell 1; have c2 := hF1.cell 2; simp only [List.getElem?_toArray, List.getElem?_cons_zero, List.getElem?_cons_succ] at c0 c1 c2; have hlt := hF1.lt))
  have HF := Lib.hid (hF1.alloc (.cells #[.int .u8 (16 * k + o), .int .u8 s] 5))
  have HH := Lib.hid (show Blk (w1.alloc (.cells #[.int .u8 (16 * k + o), .int .u8 s] 5)) w1.heap.size 5 (cellsOf .u8 [16 * k + o, s]) from Blk.new _ _ _)
  have hbw := below_al (below_then (below_al (Below.refl _ _) _) hb1) (.cells #[.int .u8 (16 * k + o), .int .u8 s] 5)
  have HZ := Lib.hid hbw.size
  have HBW := Lib.hid hbw
  clear hF hF1 c0 c1 c2 hb1 hbw HM
  refine Reg.wp_slots (fun t => t == 2 || t == 3 || decide (20 ≤ t)) (by kernel_rfl) (by kernel_rfl) (by kernel_rfl) (fun zz => (Reg.tbl [
    (20, .is (.slice (some ⟨w1.heap.size, 0, none⟩) 2 2)),
    (21, .is (.pointer (some ⟨w.heap.size, 1, none⟩))),
    (22, .is (.pointer (some ⟨w.heap.size, 3, none⟩))),
    (23, .is (.int .u32 q)),
    (24, .blk 5 .u8 4 (four q) w.heap.size),
    (25, .is (.pointer (some ⟨w.heap.size, 1, none⟩))),
    (26, .is (.pointer (some ⟨w.heap.size, 4, none⟩))),
    (27, .is (.int .u32 v)),
    (28, .blk 5 .u8 4 (four v) w.heap.size),
    (29, .partsL 3 [[16 * k + o, s], four q, four v]),
    (30, .blk 5 .u8 14 (putL L) w.heap.size),
    (2, .blk 5 .u8 14 (putL L) w.heap.size),
    (3, .is (.int .i64 0))] zz).P) (fun zz => (Reg.tbl _ zz).on) ?_ ?_
  · simp only [Reg.frame, Reg.over, Nat.reduceAdd, Nat.reduceBEq, Nat.reduceLeDiff, decide_true, decide_false, Bool.or_true, Bool.or_false, if_true, Bool.false_eq_true, if_false]
    refine ⟨?_, ?_, ?_, ?_, ?_, ?_, ?_, ?_, ?_, ?_, ?_, ?_, ?_, trivial⟩
    · intro x u hbu hd
      refine wpOp_step rfl fun K hK => ?_
      go_simp
      exact hK _ _ ⟨_, rfl, Below.refl _ _, fun d hd => by cases hd; exact rfl⟩
    · intro x u hbu hd
      refine wpOp_step rfl fun K hK => ?_
      go_simp
      exact hK _ _ ⟨_, rfl, Below.refl _ _, fun d hd => by cases hd; exact rfl⟩
    · intro x u hbu hd
      have h21 : x 21 = .pointer (some ⟨w.heap.size, 1, none⟩) := hd 1 (by decide)
      refine wpOp_step rfl fun K hK => ?_
      simp only [h21] at hK ⊢
      go_simp
      exact hK _ _ ⟨_, rfl, Below.refl _ _, fun d hd => by cases hd; exact rfl⟩
    · intro x u hbu hd
      have h22 : x 22 = .pointer (some ⟨w.heap.size, 3, none⟩) := hd 2 (by decide)
      have c3 := (HF.out.on hbu).cell 3
      have hlt := (HF.out.on hbu).lt
      refine wpOp_step rfl fun K hK => ?_
      simp only [h22] at hK ⊢
      go_simp
      exact hK _ _ ⟨_, rfl, Below.refl _ _, fun d hd => by cases hd; exact rfl⟩
    · intro x u hbu hd
      have h23 : x 23 = .int .u32 q := hd 3 (by decide)
      refine wpOp_step rfl fun K hK => ?_
      simp only [h23] at hK ⊢
      go_simp
      with_reducible refine (fourBytes_any q _ q0 q1).mono ?_
      rintro e u' ⟨rfl, rfl⟩
      exact hK _ _ ⟨_, rfl, below_al (Below.refl _ _) _, fun d hd => by cases hd; exact ⟨_, rfl, Nat.le_trans HZ.out hbu.size, Blk.new _ _ _⟩⟩
    · intro x u hbu hd
      refine wpOp_step rfl fun K hK => ?_
      go_simp
      exact hK _ _ ⟨_, rfl, Below.refl _ _, fun d hd => by cases hd; exact rfl⟩
    · intro x u hbu hd
      have h25 : x 25 = .pointer (some ⟨w.heap.size, 1, none⟩) := hd 5 (by decide)
      refine wpOp_step rfl fun K hK => ?_
      simp only [h25] at hK ⊢
      go_simp
      exact hK _ _ ⟨_, rfl, Below.refl _ _, fun d hd => by cases hd; exact rfl⟩
    · intro x u hbu hd
      have h26 : x 26 = .pointer (some ⟨w.heap.size, 4, none⟩) := hd 6 (by decide)
      have c4 := (HF.out.on hbu).cell 4
      have hlt := (HF.out.on hbu).lt
      refine wpOp_step rfl fun K hK => ?_
      simp only [h26] at hK ⊢
      go_simp
      exact hK _ _ ⟨_, rfl, Below.refl _ _, fun d hd => by cases hd; exact rfl⟩
    · intro x u hbu hd
      have h27 : x 27 = .int .u32 v := hd 7 (by decide)
      refine wpOp_step rfl fun K hK => ?_
      simp only [h27] at hK ⊢
      go_simp
      with_reducible refine (fourBytes_any v _ v0 v1).mono ?_
      rintro e u' ⟨rfl, rfl⟩
      exact hK _ _ ⟨_, rfl, below_al (Below.refl _ _) _, fun d hd => by cases hd; exact ⟨_, rfl, Nat.le_trans HZ.out hbu.size, Blk.new _ _ _⟩⟩
    · intro x u hbu hd
      have h20 : x 20 = .slice (some ⟨w1.heap.size, 0, none⟩) 2 2 := hd 0 (by decide)
      have k24 : (Reg.Fact.blk 5 .u8 4 (four q) w.heap.size : Reg.Fact).P (x 24) u := hd 4 (by decide)
      obtain ⟨g24, h24, hg24, hB24⟩ := k24
      have k28 : (Reg.Fact.blk 5 .u8 4 (four v) w.heap.size : Reg.Fact).P (x 28) u := hd 8 (by decide)
      obtain ⟨g28, h28, hg28, hB28⟩ := k28
      refine wpOp_step rfl fun K hK => ?_
      simp only [h20, h24, h28] at hK ⊢
      go_simp
      exact hK _ _ ⟨_, rfl, below_al (Below.refl _ _) _, fun d hd => by cases hd; exact ⟨_, rfl, partsNew u [(some ⟨w1.heap.size, 0, none⟩, 2, 2, [16 * k + o, s]), (some ⟨g24, 0, none⟩, 4, 4, four q), (some ⟨g28, 0, none⟩, 4, 4, four v)] rfl (by omega) (three3 ⟨((HH.out.on hbu).lies rfl), (by decide : 2 ≤ 65536), HHB.out⟩ ⟨hB24.lies rfl, (by decide : 4 ≤ 65536), HQB.out⟩ ⟨hB28.lies rfl, (by decide : 4 ≤ 65536), HVB.out⟩)⟩⟩
    · intro x u hbu hd
      have k29 : (Reg.Fact.partsL 3 [[16 * k + o, s], four q, four v] : Reg.Fact).P (x 29) u := hd 9 (by decide)
      obtain ⟨g29, h29, hp29⟩ := k29
      refine wpOp_step rfl fun K hK => ?_
      simp only [h29] at hK ⊢
      go_simp
      with_reducible refine (sumPut_all _ _ _ _ hp29).mono ?_
      rintro e u' ⟨g, rfl, hg, hB, hb'⟩
      exact hK _ _ ⟨_, rfl, hb', fun d hd => by cases hd; exact ⟨g, rfl, Nat.le_trans (Nat.le_trans HZ.out hbu.size) hg, by rw [HBL.out]; exact hB⟩⟩
    · intro x u hbu hd
      have k30 : (Reg.Fact.blk 5 .u8 14 (putL L) w.heap.size : Reg.Fact).P (x 30) u := hd 10 (by decide)
      obtain ⟨g30, h30, hg30, hB30⟩ := k30
      refine wpOp_step rfl fun K hK => ?_
      simp only [h30] at hK ⊢
      go_simp
      exact hK _ _ ⟨_, rfl, Below.refl _ _, fun d hd => by cases hd; exact ⟨g30, rfl, hg30, hB30⟩⟩
    · intro x u hbu hd
      refine wpOp_step rfl fun K hK => ?_
      go_simp
      exact hK _ _ ⟨_, rfl, Below.refl _ _, fun d hd => by cases hd; exact rfl⟩
  · intro x u hbu hall
    have k2 : (Reg.Fact.blk 5 .u8 14 (putL L) w.heap.size).P (x 2) u := hall 11 (by decide)
    have h3 : x 3 = .int .i64 0 := hall 12 (by decide)
    obtain ⟨g, h2, hg, hB⟩ := k2
    simp only [Reg.frame, Reg.over, Nat.reduceAdd, Nat.reduceBEq, Nat.reduceLeDiff, decide_true, decide_false, Bool.or_true, Bool.or_false, if_true, Bool.false_eq_true, if_false, h2, h3]
    go_wp2_with fail
    go_ret2
    exact ⟨g, rfl, hg, hB, below_then HBW.out hbu⟩
end Go.Proofs.YtkejpkcaojidaaaGreatDoor

