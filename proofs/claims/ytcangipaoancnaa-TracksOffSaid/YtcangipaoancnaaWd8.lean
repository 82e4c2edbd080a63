/-
  Rows in a list, in memory; the contracts of package words' filled, of rows, and of Norm. Conditions: the rows' reading, their tables' lengths.
-/
import Derived.Test.YtcangipaoancnaaWd4
import Derived.Test.YtcangipaoancnaaRegM
import Derived.Test.YtcangipaoancnaaReg2
namespace Go.Proofs.Ytcangipaoancnaa
open Go.RowKit
set_option linter.unusedVariables false

theorem vec8 {α : Type} (v : Vector α 8) : ∃ a b c d e f g h, v = ⟨#[a, b, c, d, e, f, g, h], rfl⟩ := by
  obtain ⟨⟨l⟩, hl⟩ := v
  match l, hl with
  | [a, b, c, d, e, f, g, h], _ => exact ⟨a, b, c, d, e, f, g, h, rfl⟩
set_option maxRecDepth 100000 in
theorem built_row (b : Bool) (c : Ce) (A : Option Addr) (n p : Nat) : (Try.prog).built 54 [(0, .bool b), (1, .agg (ceL c).toArray), (2, .slice A n p)] = some (roL b c A n p).toArray := by
  obtain ⟨x, o, r, ⟨v1, v2, v3, v4, v5, y, z⟩⟩ := c
  obtain ⟨_, _, _, _, _, _, _, _, rfl⟩ := vec8 v1
  obtain ⟨_, _, _, _, _, _, _, _, rfl⟩ := vec8 v2
  obtain ⟨_, _, _, _, _, _, _, _, rfl⟩ := vec8 v3
  obtain ⟨_, _, _, _, _, _, _, _, rfl⟩ := vec8 v4
  obtain ⟨_, _, _, _, _, _, _, _, rfl⟩ := vec8 v5
  kernel_rfl
set_option maxRecDepth 100000 in
theorem built_rrow (b : Bool) (c : Ce) : (Try.prog).built 74 [(0, .bool b), (1, .agg (ceL c).toArray)] = some (roL b c none 0 0).toArray := by
  obtain ⟨x, o, r, ⟨v1, v2, v3, v4, v5, y, z⟩⟩ := c
  obtain ⟨_, _, _, _, _, _, _, _, rfl⟩ := vec8 v1
  obtain ⟨_, _, _, _, _, _, _, _, rfl⟩ := vec8 v2
  obtain ⟨_, _, _, _, _, _, _, _, rfl⟩ := vec8 v3
  obtain ⟨_, _, _, _, _, _, _, _, rfl⟩ := vec8 v4
  obtain ⟨_, _, _, _, _, _, _, _, rfl⟩ := vec8 v5
  kernel_rfl
set_option maxRecDepth 100000 in
theorem built_rheld (b : Bool) (c : Ce) : (Try.prog).built 106 [(0, .bool b), (1, .agg (ceL c).toArray)] = some (heL ⟨b, c⟩).toArray := by
  obtain ⟨x, o, r, ⟨v1, v2, v3, v4, v5, y, z⟩⟩ := c
  obtain ⟨_, _, _, _, _, _, _, _, rfl⟩ := vec8 v1
  obtain ⟨_, _, _, _, _, _, _, _, rfl⟩ := vec8 v2
  obtain ⟨_, _, _, _, _, _, _, _, rfl⟩ := vec8 v3
  obtain ⟨_, _, _, _, _, _, _, _, rfl⟩ := vec8 v4
  obtain ⟨_, _, _, _, _, _, _, _, rfl⟩ := vec8 v5
  kernel_rfl
set_option maxRecDepth 100000 in
theorem size_row : (Try.prog.info? 54).map (·.size) = some 57 := by kernel_rfl
set_option maxRecDepth 100000 in
theorem size_rrow : (Try.prog.info? 74).map (·.size) = some 57 := by kernel_rfl
set_option maxRecDepth 100000 in
theorem size_rhe : (Try.prog.info? 106).map (·.size) = some 56 := by kernel_rfl
/-- A row's cells in its parts. -/
theorem ro_cell (b : Bool) (c : Ce) (A : Option Addr) (n p : Nat) : roL b c A n p = [.bool b] ++ (ceL c ++ [.slice A n p]) := rfl
theorem ro_tab (b : Bool) (c : Ce) (A : Option Addr) (n p : Nat) : (roL b c A n p)[56]? = some (.slice A n p) := by
  unfold roL
  rw [List.getElem?_cons_succ, List.getElem?_append_right (by rw [ceL_len]; omega), ceL_len]; rfl
theorem Blk.pin {w : World} {g : Nat} {T : TypeId} {L : List Value} (h : Blk w g T L.toArray) : PIn w g 0 T [] [] L := ⟨by simpa using h, rfl⟩
theorem PIn.blk_ {w : World} {g : Nat} {T : TypeId} {L : List Value} (h : PIn w g 0 T [] [] L) : Blk w g T L.toArray := by simpa using h.blk
theorem PIn.var {w : World} {g O : Nat} {T : TypeId} {A Z L : List Value} (h : PIn w g O T A Z L) (ty : TypeId) (d : TypeDesc) (hu : Try.prog.underlying ty = some d) (hd : d.isRow = true) (n : Nat) (hi : (Try.prog.info? ty).map (·.size) = some n) (hn : L.length = n) :
    (loadVar ty ⟨g, O, none⟩).run Try.prog w = .ok (.agg L.toArray) w := run_loadVar_mid w g O ty L d h.range hu hd (hn ▸ hi)
/-- A box, and a result's variable behind it. -/
theorem box_two (w : World) (T1 T2 : TypeId) (X Z : Array Value) : Blk ((w.alloc (.cells X T1)).alloc (.cells Z T2)) w.heap.size T1 X ∧ Blk ((w.alloc (.cells X T1)).alloc (.cells Z T2)) (w.heap.size + 1) T2 Z ∧ Below w.heap.size w ((w.alloc (.cells X T1)).alloc (.cells Z T2)) := by
  refine ⟨(Blk.new w T1 X).alloc _, ?_, below_al (below_al (Below.refl _ w) _) _⟩
  have := Blk.new (w.alloc (.cells X T1)) T2 Z
  rwa [alloc_size] at this
/-- What is known behind both. -/
structure Boxed (w : World) (T1 T2 : TypeId) (L : List Value) (n : Nat) (U : World) : Prop where
  x : Blk U w.heap.size T1 L.toArray
  z : ∃ Z : Array Value, Z.size = n ∧ Blk U (w.heap.size + 1) T2 Z
  b : Below w.heap.size w U
theorem Boxed.mk_ (w : World) (T1 T2 : TypeId) (L : List Value) (Z : Array Value) (n : Nat) (hZ : Z.size = n) : Boxed w T1 T2 L n ((w.alloc (.cells L.toArray T1)).alloc (.cells Z T2)) :=
  ⟨(box_two w T1 T2 _ Z).1, ⟨Z, hZ, (box_two w T1 T2 _ Z).2.1⟩, (box_two w T1 T2 _ Z).2.2⟩
theorem Boxed.res {w U : World} {T1 T2 : TypeId} {L : List Value} {n : Nat} (h : Boxed w T1 T2 L n U) : ∃ Z : List Value, Z.length = n ∧ PIn U (w.heap.size + 1) 0 T2 [] [] Z := by
  obtain ⟨Z, h1, h2⟩ := h.z
  exact ⟨Z.toList, by simpa using h1, Blk.pin (by simpa using h2)⟩
theorem Boxed.lt {w U : World} {T1 T2 : TypeId} {L : List Value} {n : Nat} (h : Boxed w T1 T2 L n U) : w.heap.size + 1 < U.heap.size := by
  obtain ⟨Z, _, h2⟩ := h.z
  exact h2.lt

set_option maxRecDepth 100000 in
set_option maxHeartbeats 1000000 in
set_option maxRecDepth 100000 in
/-- A row that is not set, or of so many nodes that may not be. -/
theorem plain_no (N : Int) (b : Bool) (c : Ce) (A : Option Addr) (m p : Nat) (hno : (b && nmB N) = false) (w : World) :
    Calls Try.prog 59 #[.int .i64 N, .agg (roL b c A m p).toArray] w fun e w' => e = .returned (.agg (roL false ceN none 0 0).toArray) ∧ Below w.heap.size w w' := by
  obtain ⟨q, hq⟩ : ∃ q, q = nmB N := ⟨_, rfl⟩
  have HC : Hid (∀ W, Calls Try.prog 81 #[.int .i64 N] W fun e w' => e = .returned (.bool q) ∧ W = w') := Lib.hid (by rw [hq]; exact isNumber_is N)
  rw [← hq] at hno
  have HNO := Lib.hid hno
  clear hq hno
  go_enter Try.func59, Try.ntmps59
  go_upto_region 1 with fail
  refine wp_at (Boxed w 54 54 (roL b c A m p) 57) (Boxed.mk_ _ _ _ _ _ _ rfl) ?_
  intro U hU
  have c0 : U.cell? ⟨w.heap.size, 0, none⟩ = some (.bool b) := (hU.x.pin.cell0 (by simp [roL])).trans rfl
  obtain ⟨Z, hZl, hZ⟩ := hU.res
  have HZ := Lib.hid hZ
  have HZL := Lib.hid hZl
  have HB := Lib.hid hU.b
  have hlt := hU.lt
  have hlt' : w.heap.size < U.heap.size := by omega
  clear hZ hZl hU
  cases b
  · go_wp2_with (refine wpList_store_pin rfl 54 (.tmp 4) (.tmp 13) rfl HZ.out (roL false ceN none 0 0) (by simp [Act.eval]) (by kernel_rfl) 57 size_row HZL.out (roL_len _ _ _ _ _) (roL_one _ _ _ _ _) ?_; intro w1 p1 b1)
    have hld := p1.var 54 _ Try.underlying54 rfl 57 size_row (roL_len _ _ _ _ _)
    exact bodyPost_ret (v := .agg (roL false ceN none 0 0).toArray) (by simp [results, Try.results59, asAddr, Act.put, hld]) rfl ⟨rfl, HB.out.trans (b1.low (Nat.le_succ _))⟩
  · obtain rfl : q = false := by simpa using HNO.out
    go_wp2_with (first
      | (go_at_call 81; (with_reducible refine (HC.out _).mono ?_); rintro e w1 ⟨rfl, rfl⟩)
      | (refine wpList_store_pin rfl 54 (.tmp 4) (.tmp 13) rfl HZ.out (roL false ceN none 0 0) (by simp [Act.eval]) (by kernel_rfl) 57 size_row HZL.out (roL_len _ _ _ _ _) (roL_one _ _ _ _ _) ?_; intro w1 p1 b1))
    have hld := p1.var 54 _ Try.underlying54 rfl 57 size_row (roL_len _ _ _ _ _)
    exact bodyPost_ret (v := .agg (roL false ceN none 0 0).toArray) (by simp [results, Try.results59, asAddr, Act.put, hld]) rfl ⟨rfl, HB.out.trans (b1.low (Nat.le_succ _))⟩
/-- A table of one's own. -/
def TabIs (w : World) (base : Nat) (T : Nat → He) (n : Nat) (A : Option Addr) : Prop := ∃ g, A = some ⟨g, 0, none⟩ ∧ base ≤ g ∧ Blk w g 102 (hesL T n).toArray
theorem Reg.KJ.below {B : Nat} {S : List Nat} {Js : List (World → Prop)} {w w' : World} (h : Reg.KJ B S Js w w') : Below B w w' := h.1
def resJ (x : Nat) (c : Ce) (R : Nat → He) (n : Nat) (u : World) : Prop := ∃ g, x + 2 ≤ g ∧ Blk u (x + 1) 54 (roL true c (some ⟨g, 0, none⟩) n n).toArray ∧ Blk u g 102 (hesL R n).toArray
def resZ (x : Nat) (u : World) : Prop := ∃ Z : List Value, Z.length = 57 ∧ Blk u (x + 1) 54 Z.toArray
theorem resJ.z {x : Nat} {c : Ce} {R : Nat → He} {n : Nat} {u : World} (h : resJ x c R n u) : resZ x u := by
  obtain ⟨g, h1, h2, h3⟩ := h
  exact ⟨_, roL_len _ _ _ _ _, h2⟩
theorem resZ.on {x : Nat} {u u' : World} (h : resZ x u) (hb : Below u.heap.size u u') : resZ x u' := by
  obtain ⟨Z, h1, h2⟩ := h
  exact ⟨Z, h1, h2.on hb⟩
theorem Blk.rowTab {w : World} {g : Nat} {T : TypeId} {b : Bool} {c : Ce} {A : Option Addr} {n p : Nat} (h : Blk w g T (roL b c A n p).toArray) : w.cell? ⟨g, 56, none⟩ = some (.slice A n p) := by
  rw [h.cell, List.getElem?_toArray, ro_tab]
theorem resJ.on {x : Nat} {c : Ce} {R : Nat → He} {n : Nat} {u u' : World} (h : resJ x c R n u) (hb : Below u.heap.size u u') : resJ x c R n u' := by
  obtain ⟨g, h1, h2, h3⟩ := h
  exact ⟨g, h1, h2.on hb, h3.on hb⟩
theorem Blk.rowCell {w : World} {g : Nat} {T : TypeId} {b : Bool} {c : Ce} {A : Option Addr} {n p : Nat} (h : Blk w g T (roL b c A n p).toArray) : w.rangeAt g 1 (ceL c) :=
  range_of (ceL c) [.bool b] [.slice A n p] h rfl
def Reg.FactK.tab {B : Nat} {S : List Nat} {Js : List (World → Prop)} (R : Nat → He) (n base : Nat) (hS : ∀ s ∈ S, s < base) : Reg.FactK (Reg.KJ B S Js) := ⟨fun v w => ∃ g, v = .slice (some ⟨g, 0, none⟩) n n ∧ base ≤ g ∧ Blk w g 102 (hesL R n).toArray, fun _ _ _ hb h => by
  obtain ⟨g, e, hg, hB⟩ := h
  exact ⟨g, e, hg, hb.blk (fun hm => by have := hS g hm; omega) hB⟩⟩
def Reg.FactK.row {B : Nat} {S : List Nat} {Js : List (World → Prop)} (c : Ce) (R : Nat → He) (n base : Nat) (hS : ∀ s ∈ S, s < base) : Reg.FactK (Reg.KJ B S Js) := ⟨fun v w => ∃ g, v = .agg (roL true c (some ⟨g, 0, none⟩) n n).toArray ∧ base ≤ g ∧ Blk w g 102 (hesL R n).toArray, fun _ _ _ hb h => by
  obtain ⟨g, e, hg, hB⟩ := h
  exact ⟨g, e, hg, hb.blk (fun hm => by have := hS g hm; omega) hB⟩⟩
set_option maxRecDepth 100000 in
set_option maxHeartbeats 4000000 in
set_option maxRecDepth 100000 in
/-- A row that is set. -/
theorem plain_yes (n : Nat) (hn : n ≤ 16) (c : Ce) (A : Option Addr) (m p : Nat) (T : Nat → He) (w : World) (hT : LiesH w w.heap.size A m T) :
    Calls Try.prog 59 #[.int .i64 (n : Int), .agg (roL true c A m p).toArray] w fun e w' => ∃ g, e = .returned (.agg (roL true (plC c) (some ⟨g, 0, none⟩) n n).toArray) ∧ w.heap.size ≤ g ∧ Blk w' g 102 (hesL (fun i => plH (fitH T m i)) n).toArray ∧ Below w.heap.size w w' := by
  have HC : Hid (∀ W, Calls Try.prog 81 #[.int .i64 (n : Int)] W fun e w' => e = .returned (.bool true) ∧ W = w') := Lib.hid (by
    have : nmB (n : Int) = true := by unfold nmB; simp; omega
    rw [← this]; exact isNumber_is _)
  have HN := Lib.hid (show n ≤ 65536 by omega)
  have HT := Lib.hid hT
  obtain ⟨R, hR⟩ : ∃ R : Nat → He, R = fun i => plH (fitH T m i) := ⟨_, rfl⟩
  have HR := Lib.hid hR
  rw [← hR]
  clear hT hn hR
  go_enter Try.func59, Try.ntmps59
  go_upto_region 1 with fail
  refine wp_at (Boxed w 54 54 (roL true c A m p) 57) (Boxed.mk_ _ _ _ _ _ _ rfl) ?_
  intro U hU
  have c0 : U.cell? ⟨w.heap.size, 0, none⟩ = some (.bool true) := (hU.x.pin.cell0 (by simp [roL])).trans rfl
  obtain ⟨Z, hZl, hZ⟩ := hU.res
  have HZ := Lib.hid hZ
  have HZL := Lib.hid hZl
  have HU := Lib.hid hU
  have hlt := hU.lt
  have hlt' : w.heap.size < U.heap.size := by omega
  have HX := Lib.hid hU.x
  clear hZ hZl hU
  go_wp2_with (go_at_call 81; (with_reducible refine (HC.out _).mono ?_); rintro e w1 ⟨rfl, rfl⟩)
  have HB := Lib.hid HU.out.b
  have HRZ : Hid (resZ w.heap.size U) := Lib.hid (by obtain ⟨Z, h1, h2⟩ := HU.out.res; exact ⟨Z, h1, h2.blk_⟩)
  have HLZ := Lib.hid hlt
  have HLT := Lib.hid hlt'
  have HJ : Hid (∀ J ∈ [resZ w.heap.size, resJ w.heap.size (plC c) R n], ∀ u u', Below u.heap.size u u' → J u → J u') := Lib.hid (by simp only [List.forall_mem_cons]; exact ⟨fun _ _ hb h => h.on hb, fun _ _ hb h => h.on hb, fun _ h => by cases h⟩)
  have HBU := Lib.hid (fun A' => built_row true (plC c) A' n n)
  clear c0 HZ HZL
  refine Reg.wp_slots2 (fun t => decide (14 ≤ t)) (Reg.KJ w.heap.size [w.heap.size + 1] [resZ w.heap.size, resJ w.heap.size (plC c) R n]) (Reg.KJ.drew _ HJ.out) Reg.KJ.trans (by kernel_rfl) (by kernel_rfl) (by kernel_rfl) (fun zz => (Reg.tblK [
    (14, .is (.pointer (some ⟨w.heap.size, 1, none⟩))),
    (15, .is (.agg (ceL c).toArray)),
    (16, .is (.agg (ceL (plC c)).toArray)),
    (17, .is (.int .i64 (n : Int))),
    (18, .is (.pointer (some ⟨w.heap.size, 56, none⟩))),
    (19, .is (.slice A m p)),
    (20, .tab R n (w.heap.size + 2) (by simp)),
    (21, .row (plC c) R n (w.heap.size + 2) (by simp))] zz).P) (fun zz => (Reg.tblK _ zz).on) (fun zz => (Reg.memK [(8, .j (resJ w.heap.size (plC c) R n) (by simp))] zz).P) (fun zz => (Reg.memK _ zz).on) ?_ ?_
  · simp only [Reg.frame, Reg.over, Nat.reduceAdd, Nat.reduceLeDiff, decide_true, decide_false, if_true, Bool.false_eq_true, if_false]
    refine ⟨?_, ?_, ?_, ?_, ?_, ?_, ?_, ?_, ?_, trivial⟩
    · intro x u hku hd
      refine wpOp_step rfl fun KK hK => ?_
      go_simp
      exact hK _ _ ⟨_, rfl, Reg.KJ.refl _, fun d hd => by cases hd; exact rfl, fun h => by cases h⟩
    · intro x u hku hd
      have h14 : x 14 = .pointer (some ⟨w.heap.size, 1, none⟩) := hd 0 (by decide)
      refine wpOp_step rfl fun KK hK => ?_
      refine Reg.step_load_mid (by rfl) 51 (.tmp 14) (by rfl) w.heap.size 1 (by exact h14) (ceL c) (hku.blk (by simp) HX.out).rowCell _ Try.underlying51 rfl (by rw [size_ce, ceL_len]) ?_
      exact hK _ _ ⟨_, rfl, Reg.KJ.refl _, fun d hd => by cases hd; exact rfl, fun h => by cases h⟩
    · intro x u hku hd
      have h15 : x 15 = .agg (ceL c).toArray := hd 1 (by decide)
      refine wpOp_step rfl fun KK hK => ?_
      simp only [h15] at hK ⊢
      go_simp
      (with_reducible refine (cell_is c _).mono ?_)
      rintro e u' ⟨rfl, hb'⟩
      exact hK _ _ ⟨_, rfl, Reg.KJ.grow HJ.out (Nat.le_trans (Nat.le_of_lt HLT.out) hku.size) hb', fun d hd => by cases hd; exact rfl, fun h => by cases h⟩
    · intro x u hku hd
      refine wpOp_step rfl fun KK hK => ?_
      go_simp
      exact hK _ _ ⟨_, rfl, Reg.KJ.refl _, fun d hd => by cases hd; exact rfl, fun h => by cases h⟩
    · intro x u hku hd
      refine wpOp_step rfl fun KK hK => ?_
      go_simp
      exact hK _ _ ⟨_, rfl, Reg.KJ.refl _, fun d hd => by cases hd; exact rfl, fun h => by cases h⟩
    · intro x u hku hd
      have h18 : x 18 = .pointer (some ⟨w.heap.size, 56, none⟩) := hd 4 (by decide)
      refine wpOp_step rfl fun KK hK => ?_
      simp only [h18] at hK ⊢
      go_simp
      have c19 := (hku.blk (by simp) HX.out).rowTab
      go_simp
      exact hK _ _ ⟨_, rfl, Reg.KJ.refl _, fun d hd => by cases hd; exact rfl, fun h => by cases h⟩
    · intro x u hku hd
      have h17 : x 17 = .int .i64 (n : Int) := hd 3 (by decide)
      have h19 : x 19 = .slice A m p := hd 5 (by decide)
      refine wpOp_step rfl fun KK hK => ?_
      simp only [h17, h19] at hK ⊢
      go_simp
      (with_reducible refine (filledMend_is n HN.out A m p T _ ((HT.out.low (HB.out.trans (Reg.KJ.below hku))).up (Nat.le_trans (Nat.le_of_lt HLT.out) hku.size))).mono ?_)
      rintro e u' ⟨rfl, hB', hb'⟩
      exact hK _ _ ⟨_, rfl, Reg.KJ.grow HJ.out (Nat.le_trans (Nat.le_of_lt HLT.out) hku.size) hb', fun d hd => by cases hd; exact ⟨_, rfl, (by have := hku.size; have := HLZ.out; omega), by rw [HR.out]; exact hB'⟩, fun h => by cases h⟩
    · intro x u hku hd
      have h16 : x 16 = .agg (ceL (plC c)).toArray := hd 2 (by decide)
      have k20 : (Reg.FactK.tab R n (w.heap.size + 2) (by simp) : Reg.FactK (Reg.KJ w.heap.size [w.heap.size + 1] [resZ w.heap.size, resJ w.heap.size (plC c) R n])).P (x 20) u := hd 6 (by decide)
      obtain ⟨g20, h20, hg20, hB20⟩ := k20
      refine wpOp_step rfl fun KK hK => ?_
      refine Reg.step_build (by rfl) 54 _ (by rfl) _ (by simpa [Act.eval, h16, h20] using HBU.out (some ⟨g20, 0, none⟩)) ?_
      exact hK _ _ ⟨_, rfl, Reg.KJ.refl _, fun d hd => by cases hd; exact ⟨_, rfl, hg20, hB20⟩, fun h => by cases h⟩
    · intro x u hku hd
      have k21 : (Reg.FactK.row (plC c) R n (w.heap.size + 2) (by simp) : Reg.FactK (Reg.KJ w.heap.size [w.heap.size + 1] [resZ w.heap.size, resJ w.heap.size (plC c) R n])).P (x 21) u := hd 7 (by decide)
      obtain ⟨g21, h21, hg21, hB21⟩ := k21
      refine wpOp_step rfl fun KK hK => ?_
      obtain ⟨Z, hZ, hZB⟩ := hku.j (resZ w.heap.size) (by simp) HRZ.out
      have hZB' : Blk u (w.heap.size + 1) 54 ([] ++ (Z ++ [])).toArray := by simpa using hZB
      obtain ⟨q1, q2⟩ := setCells_heap (roL true (plC c) (some ⟨g21, 0, none⟩) n n) Z [] [] 0 (w.heap.size + 1) 54 u hZB' (by rw [roL_len, hZ]) rfl
      have hfin : resJ w.heap.size (plC c) R n (u.setCells (w.heap.size + 1) 0 (roL true (plC c) (some ⟨g21, 0, none⟩) n n)) := ⟨g21, hg21, by simpa using q1, q2.blk hB21 (by omega)⟩
      refine Reg.step_store_mid (by rfl) 54 (.tmp 4) (.tmp 21) (by rfl) (w.heap.size + 1) 0 (roL true (plC c) (some ⟨g21, 0, none⟩) n n) Z [] [] 54 (by rfl) (by exact h21) hZB' (by rw [roL_len, hZ]) rfl (by rw [size_row, roL_len]) (roL_one _ _ _ _ _) ?_
      exact hK _ _ ⟨undef, rfl, Reg.KJ.but q2 (Nat.le_succ _) (by simp only [List.forall_mem_cons]; exact ⟨fun _ => hfin.z, fun _ => hfin, fun _ h => by cases h⟩), (fun d hd => by cases hd), fun _ => hfin⟩
  · intro x u hku hd
    obtain ⟨g, h1, h2, h3⟩ : resJ w.heap.size (plC c) R n u := hd 8 (by decide)
    have hld := h2.pin.var 54 _ Try.underlying54 rfl 57 size_row (roL_len _ _ _ _ _)
    have HF := Lib.hid (HB.out.trans hku.1)
    have HG := Lib.hid (show w.heap.size ≤ g by omega)
    have H3 := Lib.hid h3
    clear h1 h2 h3
    simp only [Reg.frame, Reg.over, Nat.reduceAdd, Nat.reduceLeDiff, decide_true, decide_false, if_true, Bool.false_eq_true, if_false]
    go_wp2_with fail
    exact bodyPost_ret (v := .agg (roL true (plC c) (some ⟨g, 0, none⟩) n n).toArray) (by simp [results, Try.results59, asAddr, hld]) rfl ⟨g, rfl, HG.out, H3.out, HF.out⟩
end Go.Proofs.Ytcangipaoancnaa

namespace Go.Proofs.Ytcangipaoancnaa
open Go.RowKit
set_option linter.unusedVariables false

/-- A row as a value. -/
structure Ro where
  b : Bool
  c : Ce
  n : Nat
  T : Nat → He
/-- A row with its table's address. -/
structure Rw where
  b : Bool
  c : Ce
  A : Option Addr
  n : Nat
  p : Nat
  T : Nat → He
def Rw.ro (r : Rw) : Ro := ⟨r.b, r.c, r.n, r.T⟩
def Rw.l (r : Rw) : List Value := roL r.b r.c r.A r.n r.p
def roN : Ro := ⟨false, ceN, 0, fun _ => heN⟩
def rwN : Rw := ⟨false, ceN, none, 0, 0, fun _ => heN⟩
/-- The plain form, of n nodes. -/
def plR (n : Nat) (r : Ro) : Ro := if r.b = true then ⟨true, plC r.c, n, fun i => plH (fitH r.T r.n i)⟩ else roN
/-- The cells L are a row's, whose table lies in memory of its own, from block lo on, without room behind. -/
def RowO (w : World) (lo : Nat) (r : Ro) (L : List Value) : Prop :=
  ∃ A p, L = roL r.b r.c A r.n p ∧ ((A = none ∧ r.n = 0 ∧ p = 0) ∨ ∃ g, A = some ⟨g, 0, none⟩ ∧ p = r.n ∧ lo ≤ g ∧ Blk w g 102 (hesL r.T r.n).toArray)
section
variable {w w' : World} {lo lo' : Nat} {r : Ro} {L : List Value}
theorem RowO.len (h : RowO w lo r L) : L.length = 57 := by
  obtain ⟨A, p, rfl, _⟩ := h
  exact roL_len _ _ _ _ _
theorem RowO.one (h : RowO w lo r L) : ∀ v ∈ L, v.oneCell' = true := by
  obtain ⟨A, p, rfl, _⟩ := h
  exact roL_one _ _ _ _ _
theorem RowO.on (h : RowO w lo r L) (hb : Below w.heap.size w w') : RowO w' lo r L := by
  obtain ⟨A, p, e, h⟩ := h
  refine ⟨A, p, e, ?_⟩
  rcases h with h | ⟨g, h1, h2, h3, h4⟩
  · exact .inl h
  · exact .inr ⟨g, h1, h2, h3, h4.on hb⟩
theorem RowO.mono (h : RowO w lo r L) (hl : lo' ≤ lo) : RowO w lo' r L := by
  obtain ⟨A, p, e, h⟩ := h
  refine ⟨A, p, e, ?_⟩
  rcases h with h | ⟨g, h1, h2, h3, h4⟩
  · exact .inl h
  · exact .inr ⟨g, h1, h2, by omega, h4⟩
theorem RowO.but {x : Nat} (h : RowO w lo r L) (hb : But x w w') (hx : x < lo) : RowO w' lo r L := by
  obtain ⟨A, p, e, h⟩ := h
  refine ⟨A, p, e, ?_⟩
  rcases h with h | ⟨g, h1, h2, h3, h4⟩
  · exact .inl h
  · exact .inr ⟨g, h1, h2, h3, hb.blk h4 (by omega)⟩
/-- A row of one's own as one with an address. -/
theorem RowO.rw_ (h : RowO w lo r L) : ∃ A p, L = roL r.b r.c A r.n p ∧ LiesH w w.heap.size A r.n r.T := by
  obtain ⟨A, p, e, h⟩ := h
  refine ⟨A, p, e, ?_⟩
  rcases h with ⟨_, h, _⟩ | ⟨g, h1, h2, h3, h4⟩
  · rw [h]; exact LiesH.nil_
  · rw [h1]; exact h4.liesH_
end
/-- Plain, in one word. -/
theorem plain_any (n : Nat) (hn : n ≤ 16) (r : Rw) (w : World) (hT : LiesH w w.heap.size r.A r.n r.T) :
    Calls Try.prog 59 #[.int .i64 (n : Int), .agg r.l.toArray] w fun e w' => ∃ L : List Value, e = .returned (.agg L.toArray) ∧ RowO w' w.heap.size (plR n r.ro) L ∧ Below w.heap.size w w' := by
  obtain ⟨b, c, A, m, p, T⟩ := r
  cases b
  · exact (plain_no n false c A m p rfl w).mono fun e w' ⟨h1, h2⟩ => ⟨_, h1, ⟨none, 0, rfl, .inl ⟨rfl, rfl, rfl⟩⟩, h2⟩
  · exact (plain_yes n hn c A m p T w hT).mono fun e w' ⟨g, h1, h2, h3, h4⟩ => ⟨_, h1, ⟨some ⟨g, 0, none⟩, n, rfl, .inr ⟨g, rfl, rfl, h2, h3⟩⟩, h4⟩
theorem ro_setTab (b : Bool) (c : Ce) (A A' : Option Addr) (n n' p p' : Nat) : (roL b c A n p).set 56 (.slice A' n' p') = roL b c A' n' p' := by
  unfold roL
  rw [List.set_cons_succ, List.set_append_right _ _ (by rw [ceL_len]; omega), ceL_len]; rfl
set_option maxRecDepth 100000 in
set_option maxHeartbeats 1000000 in
theorem copy_nil (b : Bool) (c : Ce) (m p : Nat) (w : World) :
    Calls Try.prog 78 #[.agg (roL b c none m p).toArray] w fun e w' => e = .returned (.agg (roL b c none m p).toArray) ∧ Below w.heap.size w w' := by
  go_enter Try.func78, Try.ntmps78
  go_upto_region 1 with fail
  refine wp_at (Boxed w 54 54 (roL b c none m p) 57) (Boxed.mk_ _ _ _ _ _ _ rfl) ?_
  intro U hU
  have c56 := hU.x.rowTab
  have HX := Lib.hid hU.x.pin
  obtain ⟨Z, hZl, hZ⟩ := hU.res
  have HZ := Lib.hid hZ
  have HZL := Lib.hid hZl
  have HB := Lib.hid hU.b
  have hlt := hU.lt
  have hlt' : w.heap.size < U.heap.size := by omega
  clear hZ hZl hU
  go_wp2_with (first
    | (refine wpList_load_pin rfl 54 (.tmp 1) rfl HX.out (by simp [Act.eval]) _ Try.underlying54 rfl 57 size_row (roL_len _ _ _ _ _) ?_)
    | (refine wpList_store_pin rfl 54 (.tmp 2) (.tmp 13) rfl HZ.out (roL b c none m p) (by simp [Act.eval, Act.put]) (by simp [Act.eval, Act.put]) 57 size_row HZL.out (roL_len _ _ _ _ _) (roL_one _ _ _ _ _) ?_; intro w1 p1 b1))
  have hld := p1.var 54 _ Try.underlying54 rfl 57 size_row (roL_len _ _ _ _ _)
  exact bodyPost_ret (v := .agg (roL b c none m p).toArray) (by simp [results, Try.results78, asAddr, Act.put, hld]) rfl ⟨rfl, HB.out.trans (b1.low (Nat.le_succ _))⟩
set_option maxRecDepth 100000 in
set_option maxHeartbeats 1000000 in
theorem copy_some (b : Bool) (c : Ce) (ad : Addr) (m p : Nat) (hm : m ≤ 65536) (T : Nat → He) (w : World) (hT : LiesH w w.heap.size (some ad) m T) :
    Calls Try.prog 78 #[.agg (roL b c (some ad) m p).toArray] w fun e w' => ∃ L : List Value, e = .returned (.agg L.toArray) ∧ RowO w' w.heap.size ⟨b, c, m, T⟩ L ∧ Below w.heap.size w w' := by
  have HM := Lib.hid hm
  have HT := Lib.hid hT
  clear hT hm
  go_enter Try.func78, Try.ntmps78
  go_upto_region 1 with fail
  refine wp_at (Boxed w 54 54 (roL b c (some ad) m p) 57) (Boxed.mk_ _ _ _ _ _ _ rfl) ?_
  intro U hU
  have c56 := hU.x.rowTab
  have HX := Lib.hid hU.x
  obtain ⟨Z, hZl, hZ⟩ := hU.res
  have HZ := Lib.hid hZ
  have HZL := Lib.hid hZl
  have HB := Lib.hid hU.b
  have hlt := hU.lt
  have hlt' : w.heap.size < U.heap.size := by omega
  clear hZ hZl hU
  go_upto_region 3 with (go_at_call 82; (with_reducible refine (filledCopy_is m HM.out (some ad) m p T U (HT.out.on HB.out)).mono ?_); rintro e w1 ⟨rfl, hB1, hb1⟩; have HB1 := Lib.hid hB1; have Hb1 := Lib.hid hb1; have f56 := (HX.out.on hb1).frozen 56; have c56' := (HX.out.on hb1).rowTab; have hs1 := hb1.size; clear hB1 hb1)
  refine wp_at (fun V => Blk V w.heap.size 54 (roL b c (some ⟨U.heap.size, 0, none⟩) m m).toArray ∧ (∃ Z : List Value, Z.length = 57 ∧ PIn V (w.heap.size + 1) 0 54 [] [] Z) ∧ Blk V U.heap.size 102 (hesL T m).toArray ∧ Below w.heap.size w V) ?_ ?_
  · have q := But.one (u := w1) (g := w.heap.size) 56 (.slice (some ⟨U.heap.size, 0, none⟩) m m)
    refine ⟨?_, ⟨Z, HZL.out, ((HZ.out.on Hb1.out).but q (by omega))⟩, ?_, (HB.out.trans (Hb1.out.mono (by omega))).trans (q.low (Nat.le_refl _))⟩
    · have := (HX.out.on Hb1.out).pin.set_ 56 (.slice (some ⟨U.heap.size, 0, none⟩) m m) (by rw [roL_len]; omega)
      rw [ro_setTab] at this
      simpa using this.blk_
    · refine q.blk ?_ (by omega)
      have := HB1.out
      rw [hesL_congr (T' := T) (fun i hi => by simp [fitH, hi])] at this
      exact this
  · rintro V ⟨v1, ⟨Z', v2, v3⟩, v4, v5⟩
    have HX' := Lib.hid v1.pin
    have HZ' := Lib.hid v3
    have HZL' := Lib.hid v2
    have HV4 := Lib.hid v4
    have HV5 := Lib.hid v5
    have HUB := Lib.hid hlt
    have HU2 := Lib.hid HB.out.size
    clear v1 v2 v3 v4 v5 c56 c56' f56 hs1 hlt hlt'
    refine wp_region_lit ?_
    go_wp2_with (first
      | (refine wpList_load_pin rfl 54 (.tmp 1) rfl HX'.out (by simp [Act.eval]) _ Try.underlying54 rfl 57 size_row (roL_len _ _ _ _ _) ?_)
      | (refine wpList_store_pin rfl 54 (.tmp 2) (.tmp 13) rfl HZ'.out (roL b c (some ⟨U.heap.size, 0, none⟩) m m) (by simp [Act.eval, Act.put]) (by simp [Act.eval, Act.put]) 57 size_row HZL'.out (roL_len _ _ _ _ _) (roL_one _ _ _ _ _) ?_; intro w2 p1 b1))
    have hld := p1.var 54 _ Try.underlying54 rfl 57 size_row (roL_len _ _ _ _ _)
    exact bodyPost_ret (v := .agg (roL b c (some ⟨U.heap.size, 0, none⟩) m m).toArray) (by simp [results, Try.results78, asAddr, Act.put, hld]) rfl ⟨_, rfl, ⟨_, _, rfl, .inr ⟨_, rfl, rfl, HU2.out, b1.blk HV4.out (by have := HUB.out; omega)⟩⟩, HV5.out.trans (b1.low (Nat.le_succ _))⟩
end Go.Proofs.Ytcangipaoancnaa

namespace Go.Proofs.Ytcangipaoancnaa
open Go.RowKit

namespace Reg
/-- Operation s waits for each of pre, be it by way of others of them. -/
def early (ops : Array Oper) (s : Nat) (pre : List Nat) : Bool := pre.all fun i => i == s || pre.any fun j => decide (i < j) && (match ops[j]? with
  | some q => (deps q).contains i
  | none => false)
theorem early_done {ops : Array Oper} {s : Nat} {pre : List Nat} (h : early ops s pre = true) {l : Array Bool} (hcl : ∀ j q, l.getD j false = true → ops[j]? = some q → ∀ k ∈ deps q, l.getD k false = true) (hs : l.getD s false = true) :
    ∀ i ∈ pre, l.getD i false = true := by
  have key : ∀ n i, ops.size ≤ i + n → i ∈ pre → l.getD i false = true := by
    intro n
    induction n with
    | zero =>
      intro i hi hm
      have h1 := List.all_eq_true.1 h i hm
      simp only [Bool.or_eq_true, beq_iff_eq, List.any_eq_true, Bool.and_eq_true, decide_eq_true_eq] at h1
      rcases h1 with rfl | ⟨j, hj, hij, hd⟩
      · exact hs
      · have : ops[j]? = none := Array.getElem?_eq_none (by omega)
        rw [this] at hd; cases hd
    | succ n ih =>
      intro i hi hm
      have h1 := List.all_eq_true.1 h i hm
      simp only [Bool.or_eq_true, beq_iff_eq, List.any_eq_true, Bool.and_eq_true, decide_eq_true_eq] at h1
      rcases h1 with rfl | ⟨j, hj, hij, hd⟩
      · exact hs
      · cases hq : ops[j]? with
        | none => rw [hq] at hd; cases hd
        | some q =>
          rw [hq] at hd
          exact hcl j q (ih j (by omega) hj) hq i (by simpa using hd)
  exact fun i hm => key ops.size i (by omega) hm
section
variable {P : Program} {ops : Array Oper} {Q : Exit → Act → World → Prop} {w0 : World}

theorem any_inv8 (s : Nat) (pre : List Nat) (hpe : early ops s pre = true) (Pre : World → Prop) (K : World → World → Prop) (hKt : ∀ a b c, K a b → K b c → K a c) (hf : fine2 ops = true) (fr : (Nat → Value) → Act) (hput : ∀ o ∈ ops.toList, ∀ d, o.dst = some d → ∀ x v, (fr x).put (some d) v = fr (upd x d v))
    (G : Nat → Value → World → Prop) (hG : ∀ d v w w', K w w' → G d v w → G d v w') (H : Nat → World → Prop) (hH : ∀ j w w', K w w' → H j w → H j w')
    (hs : ∀ i o, ops[i]? = some o → ∀ x w, K w0 w → (∀ j ∈ deps o, Left2 ops G H x w j) → (i ∈ pre → Pre w) →
      wpOp P ops Q i (fun a' w' => ∃ v, a' = (fr x).put o.dst v ∧ K w w' ∧ (∀ d, o.dst = some d → G d v w') ∧ (o.dst = none → H i w') ∧ (i ≠ s → Pre w → Pre w')) (fr x) w)
    (hend : ∀ x w, K w0 w → (∀ j, j < ops.size → Left2 ops G H x w j) → Q .normal (fr x) w) :
    ∀ (fuel : Nat) (l : Array Bool) (x : Nat → Value) (w : World), l.size = ops.size → nots l.toList ≤ fuel → K w0 w → (∀ j, l.getD j false = true → Left2 ops G H x w j) → (∀ j q, l.getD j false = true → ops[j]? = some q → ∀ k ∈ deps q, l.getD k false = true) → (l.getD s false = false → Pre w) → wpAny P .any ops Q fuel l (fr x) w := by
  intro fuel
  induction fuel with
  | zero =>
    intro l x w hl hn hb hL hcl hpre
    have hall : ∀ i, i < ops.size → l.getD i false = true := fun i hi => by
      have := nots_zero l.toList (by omega) i (by simp; omega)
      have hil : i < l.size := by omega
      simp [hil] at this
      simp [Array.getD, hil, this]
    refine ⟨?_, hend x w hb fun j hj => hL j (hall j hj)⟩
    rw [List.eq_nil_iff_forall_not_mem]
    intro i hi
    obtain ⟨h1, o, ho, _⟩ := mem_ready.1 hi
    have hio : i < ops.size := (Array.getElem?_eq_some_iff.1 ho).1
    have := hall i hio
    have hil : i < l.size := by omega
    simp [Array.getD, hil] at h1 this
    rw [this] at h1
    cases h1
  | succ fuel ih =>
    intro l x w hl hn hb hL hcl hpre
    refine ⟨fun hr => hend x w hb fun j hj => hL j (all_listed2 hf l hl hr (j + 1) j (by omega) hj), fun i hi => ?_⟩
    obtain ⟨h1, o, ho, hdep⟩ := mem_ready.1 hi
    have hio : i < ops.size := (Array.getElem?_eq_some_iff.1 ho).1
    have hd1 : ∀ j ∈ deps o, Left2 ops G H x w j := fun j hj => by
      simp only [deps, List.mem_map, List.mem_filter] at hj
      obtain ⟨e, ⟨he, hbind⟩, rfl⟩ := hj
      exact hL _ (hdep e (by simpa using he) hbind)
    have hdl : ∀ j ∈ deps o, l.getD j false = true := fun j hj => by
      simp only [deps, List.mem_map, List.mem_filter] at hj
      obtain ⟨e, ⟨he, hbind⟩, rfl⟩ := hj
      exact hdep e (by simpa using he) hbind
    have hi0 : l.getD i false = false := by
      by_cases h : i < l.size
      · simp [Array.getD, h] at h1 ⊢
        exact h1
      · omega
    have hp1 : i ∈ pre → Pre w := by
      intro hm
      refine hpre ?_
      cases hls : l.getD s false with
      | false => rfl
      | true =>
        have := early_done hpe hcl hls i hm
        rw [hi0] at this
        cases this
    have hset' : ∀ j, j ≠ i → (l.setIfInBounds i true).getD j false = l.getD j false := fun j hj => getD_set_ne false (fun h => hj h.symm)
    have hmono : ∀ j, l.getD j false = true → (l.setIfInBounds i true).getD j false = true := fun j hj => by
      by_cases e : j = i
      · subst e; rw [hi0] at hj; cases hj
      · rw [hset' j e]; exact hj
    have hcl' : ∀ j q, (l.setIfInBounds i true).getD j false = true → ops[j]? = some q → ∀ k ∈ deps q, (l.setIfInBounds i true).getD k false = true := by
      intro j q hj hq k hk
      by_cases e : j = i
      · subst e
        obtain rfl : o = q := by rw [ho] at hq; exact Option.some.inj hq
        exact hmono k (hdl k hk)
      · rw [hset' j e] at hj
        exact hmono k (hcl j q hj hq k hk)
    refine wpOp_mono (fun a' w' h => ?_) (hs i o ho x w hb hd1 hp1)
    obtain ⟨v, rfl, hb', hg, hh, hpp⟩ := h
    have hpre' : (l.setIfInBounds i true).getD s false = false → Pre w' := by
      intro hf0
      by_cases e : s = i
      · subst e
        have hss : s < l.size := by omega
        simp [Array.getD, hss] at hf0
      · rw [hset' s e] at hf0
        exact hpp (fun h => e h.symm) (hpre hf0)
    have hset := nots_set l.toList i (getD_false h1)
    cases hd : o.dst with
    | none =>
      have e0 : (fr x).put none v = fr x := rfl
      rw [e0]
      refine ih _ _ w' (by simp [hl]) ?_ (hKt _ _ _ hb hb') (fun j hj => ?_) hcl' hpre'
      · simp only [Array.toList_setIfInBounds]
        omega
      · by_cases hji : j = i
        · subst hji
          unfold Left2
          rw [ho]
          simp only [Option.bind_some, hd]
          exact hh hd
        · have hjl : l.getD j false = true := by rw [getD_set_ne false (fun h => hji h.symm)] at hj; exact hj
          have := hL j hjl
          unfold Left2 at this ⊢
          cases hbind : (ops[j]?).bind (·.dst) with
          | none => rw [hbind] at this; exact hH _ _ _ hb' this
          | some d' => rw [hbind] at this; exact hG _ _ _ _ hb' this
    | some d =>
      have hp := hput o (by rw [Array.mem_toList_iff]; exact Array.mem_of_getElem? ho) d hd x v
      rw [hp]
      refine ih _ _ w' (by simp [hl]) ?_ (hKt _ _ _ hb hb') (fun j hj => ?_) hcl' hpre'
      · simp only [Array.toList_setIfInBounds]
        omega
      · unfold Left2
        cases hbind : (ops[j]?).bind (·.dst) with
        | none =>
          simp only
          have hji : j ≠ i := fun h => by
            subst h
            rw [ho] at hbind
            simp [hd] at hbind
          have hjl : l.getD j false = true := by rw [getD_set_ne false (fun h => hji h.symm)] at hj; exact hj
          have := hL j hjl
          unfold Left2 at this
          rw [hbind] at this
          exact hH _ _ _ hb' this
        | some d' =>
          simp only
          by_cases e : d' = d
          · subst e
            rw [upd_same]
            exact hg _ hd
          · rw [upd_other _ _ _ _ e]
            have hji : j ≠ i := fun h => by
              subst h
              rw [ho] at hbind
              simp [hd] at hbind
              exact e hbind.symm
            have hjl : l.getD j false = true := by rw [getD_set_ne false (fun h => hji h.symm)] at hj; exact hj
            have := hL j hjl
            unfold Left2 at this
            rw [hbind] at this
            exact hG _ _ _ _ hb' this

/-- The region, in whatever order: p names the slots that it writes, K what it keeps. -/
theorem wp_slots8 {id : Nat} {a : Act} (s : Nat) (pre : List Nat) (hpe : early ops s pre = true) (Pre : World → Prop) (hPre : Pre w0.drew) (p : Nat → Bool) (K : World → World → Prop) (hK0 : K w0 w0.drew) (hKt : ∀ a b c, K a b → K b c → K a c) (hm : P.follows .mixedOrders = true) (hf : fine2 ops = true) (hp : (ops.toList.all fun o => match o.dst with | some d => p d | none => true) = true)
    (G : Nat → Value → World → Prop) (hG : ∀ d v w w', K w w' → G d v w → G d v w') (H : Nat → World → Prop) (hH : ∀ j w w', K w w' → H j w → H j w')
    (hs : Each (fun i o => ∀ x w, K w0 w → (∀ j ∈ deps o, Left2 ops G H x w j) → (i ∈ pre → Pre w) →
      wpOp P ops Q i (fun a' w' => ∃ v, a' = (frame a p x).put o.dst v ∧ K w w' ∧ (∀ d, o.dst = some d → G d v w') ∧ (o.dst = none → H i w') ∧ (i ≠ s → Pre w → Pre w')) (frame a p x) w) 0 ops.toList)
    (hend : ∀ x w, K w0 w → (∀ j, j < ops.size → Left2 ops G H x w j) → Q .normal (frame a p x) w) : (Code.region id ops true).wp P Q a w0 := by
  have := wp_region_any (id := id) (P := P) (Q := Q) (ops := ops) hm (any_inv8 s pre hpe Pre (w0 := w0) K hKt hf (frame a p) (fun o ho d hd x v => frame_put a p x d v (by
    rw [List.all_eq_true] at hp
    have := hp o ho
    rw [hd] at this
    exact this)) G hG H hH (fun i o ho => by
      have := Each.spec ops.toList 0 hs i o (by simpa using ho)
      rw [Nat.zero_add] at this
      exact this) hend _ _ (fun t => a.tmps.toList.getD t undef) w0.drew (by simp) (by simp [nots]) hK0 (fun j hj => by
        exfalso
        by_cases h : j < ops.size
        · simp [Array.getD, h] at hj
        · simp [Array.getD, h] at hj) (fun j q hj => by
        exfalso
        by_cases h : j < ops.size
        · simp [Array.getD, h] at hj
        · simp [Array.getD, h] at hj) (fun _ => hPre))
  rw [frame_self] at this
  exact this
end
end Reg
end Go.Proofs.Ytcangipaoancnaa

namespace Go.Proofs.Ytcangipaoancnaa
open Go.RowKit
set_option linter.unusedVariables false

def Reg.FactK.plr {B : Nat} {S : List Nat} {Js : List (World → Prop)} (lo : Nat) (r : Ro) (hS : ∀ s ∈ S, s < lo) : Reg.FactK (Reg.KJ B S Js) := ⟨fun v w => ∃ L : List Value, v = .agg L.toArray ∧ RowO w lo r L, fun _ _ _ hb h => by
  obtain ⟨L, e, A, p, eL, h⟩ := h
  refine ⟨L, e, A, p, eL, ?_⟩
  rcases h with h | ⟨g, h1, h2, h3, h4⟩
  · exact .inl h
  · exact .inr ⟨g, h1, h2, h3, hb.blk (fun hm => by have := hS g hm; omega) h4⟩⟩
/-- 57 cells lie there; a row's do. -/
def rowJ (g O : Nat) (T : TypeId) (A Z : List Value) (u : World) : Prop := ∃ X : List Value, X.length = 57 ∧ PIn u g O T A Z X
def rowD (g O : Nat) (T : TypeId) (A Z : List Value) (lo : Nat) (r : Ro) (u : World) : Prop := ∃ L : List Value, RowO u lo r L ∧ PIn u g O T A Z L
theorem rowD.j {g O : Nat} {T : TypeId} {A Z : List Value} {lo : Nat} {r : Ro} {u : World} (h : rowD g O T A Z lo r u) : rowJ g O T A Z u := by
  obtain ⟨L, h1, h2⟩ := h
  exact ⟨L, h1.len, h2⟩
theorem rowJ.on {g O : Nat} {T : TypeId} {A Z : List Value} {u u' : World} (h : rowJ g O T A Z u) (hb : Below u.heap.size u u') : rowJ g O T A Z u' := by
  obtain ⟨X, h1, h2⟩ := h
  exact ⟨X, h1, h2.on hb⟩
theorem rowD.on {g O : Nat} {T : TypeId} {A Z : List Value} {lo : Nat} {r : Ro} {u u' : World} (h : rowD g O T A Z lo r u) (hb : Below u.heap.size u u') : rowD g O T A Z lo r u' := by
  obtain ⟨X, h1, h2⟩ := h
  exact ⟨X, h1.on hb, h2.on hb⟩
theorem LiesH.drew {w : World} {n : Nat} {A : Option Addr} {T : Nat → He} (h : LiesH w w.heap.size A n T) : LiesH w.drew w.drew.heap.size A n T := h
theorem PIn.store {w u : World} {g O : Nat} {T : TypeId} {A Z L : List Value} {b : Bool} {c : Ce} {B : Option Addr} {m p : Nat} (h : PIn w g O T A Z (roL b c B m p)) (hb : Below w.heap.size w u) (hL : L.length = 57) (h1 : ∀ v ∈ L, v.oneCell' = true) :
    (Instr.storeAt 54 (.pointer (some ⟨g, O, none⟩)) (.agg L.toArray)).run Try.prog u = .ok () (u.setCells g O L) := by
  have hu := h.on hb
  simp only [Instr.storeAt, Instr.sureAddr, Sem.run_bind, Sem.run_pure, Result.andThen]
  refine run_storeVar_mid u g O _ L.toArray (fun j hj => ?_) (by rw [size_row]; simp [hL]) (all_oneCell_toArray h1)
  have hj' : j < (roL b c B m p).length := by rw [roL_len]; simp at hj; omega
  exact ⟨by rw [hu.cell j hj', List.getElem?_eq_getElem hj']; rfl, hu.frozen _⟩
theorem PIn.drew {w : World} {g O : Nat} {T : TypeId} {A Z L : List Value} (h : PIn w g O T A Z L) : PIn w.drew g O T A Z L := ⟨h.blk, h.len⟩
def rowX (g O : Nat) (T : TypeId) (A Z L : List Value) (u : World) : Prop := PIn u g O T A Z L
set_option maxRecDepth 100000 in
set_option maxHeartbeats 4000000 in
theorem norm1_is (n : Nat) (hn : n ≤ 16) (r : Rw) (nb g O : Nat) (T : TypeId) (A Z : List Value) (w : World) (hp : PIn w g O T A Z r.l) (hnb : w.cell? ⟨nb, 0, none⟩ = some (.int .i64 (n : Int))) (hne : nb < g) (hT : LiesH w g r.A r.n r.T) :
    Calls Try.prog 96 #[.pointer (some ⟨g, O, none⟩), .pointer (some ⟨nb, 0, none⟩)] w fun e w' => e = .returned (.tuple #[]) ∧ rowD g O T A Z w.heap.size (plR n r.ro) w' ∧ But g w w' := by
  have HN := Lib.hid hn
  have HT := Lib.hid hT
  have HNB := Lib.hid hnb
  have HP := Lib.hid hp
  have HNE := Lib.hid hne
  have HLT := Lib.hid hp.lt
  have HJ0 : Hid (rowJ g O T A Z w) := Lib.hid ⟨_, roL_len _ _ _ _ _, hp⟩
  have HPL := Lib.hid (plain_any n hn r)
  have HJ : Hid (∀ J ∈ [rowJ g O T A Z, rowD g O T A Z w.heap.size (plR n r.ro)], ∀ u u', Below u.heap.size u u' → J u → J u') := Lib.hid (by simp only [List.forall_mem_cons]; exact ⟨fun _ _ hb h => h.on hb, fun _ _ hb h => h.on hb, fun _ h => by cases h⟩)
  clear hT hnb hn hne hp
  go_enter Try.func96, Try.ntmps96
  go_wp2_with fail
  have HNL := Lib.hid (show nb < w.heap.size by have := HNE.out; have := HLT.out; omega)
  refine Reg.wp_slots8 7 [0, 1, 2, 3, 4, 5, 6, 7] (by kernel_rfl) (fun u => PIn u g O T A Z r.l) HP.out.drew (fun t => decide (3 ≤ t)) (Reg.KJ g [g] [rowJ g O T A Z, rowD g O T A Z w.heap.size (plR n r.ro)]) (Reg.KJ.drew _ HJ.out) Reg.KJ.trans (by kernel_rfl) (by kernel_rfl) (by kernel_rfl) (fun zz => (Reg.tblK [
    (3, .is (.pointer (some ⟨g, O, none⟩))),
    (4, .is (.int .i64 (n : Int))),
    (5, .is (.pointer (some ⟨g, O, none⟩))),
    (6, .is (.pointer (some ⟨g, O, none⟩))),
    (7, .is (.agg r.l.toArray)),
    (8, .plr w.heap.size (plR n r.ro) (by simpa using HLT.out)),
    (9, .is (.pointer (some ⟨g, O, none⟩)))] zz).P) (fun zz => (Reg.tblK _ zz).on) (fun zz => (Reg.memK [(7, .j (rowD g O T A Z w.heap.size (plR n r.ro)) (by simp))] zz).P) (fun zz => (Reg.memK _ zz).on) ?_ ?_
  · simp only [Reg.frame, Reg.over, Nat.reduceAdd, Nat.reduceLeDiff, decide_true, decide_false, if_true, Bool.false_eq_true, if_false]
    refine ⟨?_, ?_, ?_, ?_, ?_, ?_, ?_, ?_, trivial⟩
    · intro x u hku hd hpr0
      have hpr : (fun u => PIn u g O T A Z r.l : World → Prop) u := hpr0 (by decide)
      refine wpOp_step rfl fun KK hK => ?_
      go_simp
      exact hK _ _ ⟨_, rfl, Reg.KJ.refl _, fun d hd => by cases hd; exact rfl, (fun h => by cases h), fun _ hp => hp⟩
    · intro x u hku hd hpr0
      have hpr : (fun u => PIn u g O T A Z r.l : World → Prop) u := hpr0 (by decide)
      refine wpOp_step rfl fun KK hK => ?_
      have hlt4 : nb < u.heap.size := Nat.lt_of_lt_of_le HNL.out hku.size
      have hc4 := (hku.below.cell (p := ⟨nb, 0, none⟩) HNE.out).trans HNB.out
      go_simp
      exact hK _ _ ⟨_, rfl, Reg.KJ.refl _, fun d hd => by cases hd; exact rfl, (fun h => by cases h), fun _ hp => hp⟩
    · intro x u hku hd hpr0
      have hpr : (fun u => PIn u g O T A Z r.l : World → Prop) u := hpr0 (by decide)
      refine wpOp_step rfl fun KK hK => ?_
      go_simp
      exact hK _ _ ⟨_, rfl, Reg.KJ.refl _, fun d hd => by cases hd; exact rfl, (fun h => by cases h), fun _ hp => hp⟩
    · intro x u hku hd hpr0
      have hpr : (fun u => PIn u g O T A Z r.l : World → Prop) u := hpr0 (by decide)
      have h5 : x 5 = .pointer (some ⟨g, O, none⟩) := hd 2 (by decide)
      refine wpOp_step rfl fun KK hK => ?_
      simp only [h5] at hK ⊢
      go_simp
      exact hK _ _ ⟨_, rfl, Reg.KJ.refl _, fun d hd => by cases hd; exact rfl, (fun h => by cases h), fun _ hp => hp⟩
    · intro x u hku hd hpr0
      have hpr : (fun u => PIn u g O T A Z r.l : World → Prop) u := hpr0 (by decide)
      have h6 : x 6 = .pointer (some ⟨g, O, none⟩) := hd 3 (by decide)
      refine wpOp_step rfl fun KK hK => ?_
      refine Reg.step_load_mid (by rfl) 54 (.tmp 6) (by rfl) g O (by exact h6) r.l (PIn.range hpr) _ Try.underlying54 rfl (by rw [size_row]; exact congrArg some (roL_len _ _ _ _ _).symm) ?_
      exact hK _ _ ⟨_, rfl, Reg.KJ.refl _, fun d hd => by cases hd; exact rfl, (fun h => by cases h), fun _ hp => hp⟩
    · intro x u hku hd hpr0
      have hpr : (fun u => PIn u g O T A Z r.l : World → Prop) u := hpr0 (by decide)
      have h4 : x 4 = .int .i64 (n : Int) := hd 1 (by decide)
      have h7 : x 7 = .agg r.l.toArray := hd 4 (by decide)
      refine wpOp_step rfl fun KK hK => ?_
      simp only [h4, h7] at hK ⊢
      go_simp
      (with_reducible refine (HPL.out _ ((HT.out.low hku.below).up (Nat.le_of_lt (Nat.lt_of_lt_of_le HLT.out hku.size)))).mono ?_)
      rintro e u' ⟨L, rfl, hR', hb'⟩
      exact hK _ _ ⟨_, rfl, Reg.KJ.grow HJ.out (Nat.le_trans (Nat.le_of_lt HLT.out) hku.size) hb', fun d hd => by cases hd; exact ⟨L, rfl, hR'.mono hku.size⟩, (fun h => by cases h), fun _ hp => PIn.on hp hb'⟩
    · intro x u hku hd hpr0
      have hpr : (fun u => PIn u g O T A Z r.l : World → Prop) u := hpr0 (by decide)
      have h3 : x 3 = .pointer (some ⟨g, O, none⟩) := hd 0 (by decide)
      refine wpOp_step rfl fun KK hK => ?_
      simp only [h3] at hK ⊢
      go_simp
      exact hK _ _ ⟨_, rfl, Reg.KJ.refl _, fun d hd => by cases hd; exact rfl, (fun h => by cases h), fun _ hp => hp⟩
    · intro x u hku hd hpr0
      have hpr : (fun u => PIn u g O T A Z r.l : World → Prop) u := hpr0 (by decide)
      have h9 : x 9 = .pointer (some ⟨g, O, none⟩) := hd 6 (by decide)
      have k8 : (Reg.FactK.plr w.heap.size (plR n r.ro) (by simpa using HLT.out) : Reg.FactK (Reg.KJ g [g] [rowJ g O T A Z, rowD g O T A Z w.heap.size (plR n r.ro)])).P (x 8) u := hd 5 (by decide)
      obtain ⟨L8, h8, hR8⟩ := k8
      refine wpOp_step rfl fun KK hK => ?_
      obtain ⟨X, hX, hXB⟩ := hku.j (rowJ g O T A Z) (by simp) HJ0.out
      obtain ⟨q1, q2⟩ := hXB.put L8 (by rw [hR8.len, hX])
      have hfin : rowD g O T A Z w.heap.size (plR n r.ro) (u.setCells g O L8) := ⟨L8, hR8.but q2 HLT.out, q1⟩
      refine Reg.step_store_mid (by rfl) 54 (.tmp 9) (.tmp 8) (by rfl) g O L8 X A Z T (by exact h9) (by exact h8) hXB.blk (by rw [hR8.len, hX]) hXB.len (by rw [size_row, hR8.len]) hR8.one ?_
      exact hK _ _ ⟨undef, rfl, Reg.KJ.but q2 (Nat.le_refl _) (by simp only [List.forall_mem_cons]; exact ⟨fun _ => hfin.j, fun _ => hfin, fun _ h => by cases h⟩), (fun d hd => by cases hd), (fun _ => hfin), fun h => absurd rfl h⟩
  · intro x u hku hd
    have hfin : rowD g O T A Z w.heap.size (plR n r.ro) u := hd 7 (by decide)
    simp only [Reg.frame, Reg.over, Nat.reduceAdd, Nat.reduceLeDiff, decide_true, decide_false, if_true, Bool.false_eq_true, if_false]
    go_end0
    exact ⟨rfl, hfin, hku.below, fun b hb hne => hku.2.1 b hb (by simpa using hne)⟩
end Go.Proofs.Ytcangipaoancnaa

namespace Go.Proofs.Ytcangipaoancnaa
open Go.RowKit
set_option linter.unusedVariables false

/-- Lists of m cells each, one behind the other. -/
def flL (f : Nat → List Value) (n : Nat) : List Value := (List.range n).flatMap f
section
variable {f h : Nat → List Value} {m n : Nat}
theorem flL_len (hf : ∀ i, (f i).length = m) (n : Nat) : (flL f n).length = n * m := by rw [flL, flat_len _ m hf, List.length_range]
theorem flL_one (hf : ∀ i, i < n → ∀ v ∈ f i, v.oneCell' = true) : ∀ x ∈ flL f n, x.oneCell' = true := by
  intro x hx; obtain ⟨i, hi, hi'⟩ := List.mem_flatMap.1 hx; exact hf i (by simpa using hi) x hi'
theorem flL_zero (f : Nat → List Value) : flL f 0 = [] := rfl
theorem flL_succ (f : Nat → List Value) (n : Nat) : flL f (n + 1) = flL f n ++ f n := by simp [flL, List.range_succ]
theorem flL_congr (hh : ∀ i, i < n → f i = h i) : flL f n = flL h n := by
  induction n with
  | zero => rfl
  | succ n ih => rw [flL_succ, flL_succ, ih fun i hi => hh i (by omega), hh n (by omega)]
theorem flL_add (f : Nat → List Value) (n k : Nat) : flL f (n + k) = flL f n ++ flL (fun i => f (n + i)) k := by
  induction k with
  | zero => simp [flL_zero]
  | succ k ih => rw [← Nat.add_assoc, flL_succ, ih, flL_succ, List.append_assoc]
theorem flL_at (f : Nat → List Value) {n i : Nat} (hi : i < n) : flL f n = flL f i ++ (f i ++ flL (fun j => f (i + 1 + j)) (n - (i + 1))) := by
  have e : n = i + 1 + (n - (i + 1)) := by omega
  conv => lhs; rw [e]
  rw [flL_add, flL_succ, List.append_assoc]
theorem flL_get (hf : ∀ i, (f i).length = m) {n i : Nat} (hi : i < n) (j : Nat) (hj : j < m) : (flL f n)[i * m + j]? = (f i)[j]? := by
  rw [flL_at f hi, List.getElem?_append_right (by rw [flL_len hf]; omega), flL_len hf, Nat.add_sub_cancel_left, List.getElem?_append_left (by rw [hf]; omega)]
theorem flL_upd (f : Nat → List Value) (k : Nat) (y : List Value) (hk : k < n) : flL f k ++ (y ++ flL (fun j => f (k + 1 + j)) (n - (k + 1))) = flL (fun i => if i = k then y else f i) n := by
  rw [flL_at (fun i => if i = k then y else f i) hk]
  congr 1
  · exact flL_congr fun i hi => by rw [if_neg (by omega)]
  · congr 1
    · rw [if_pos rfl]
    · exact flL_congr fun i hi => by rw [if_neg (by omega)]
theorem flL_split (hm : 0 < m) (hf : ∀ i, (f i).length = m) {n j : Nat} (hj : j < n * m) : (flL f n)[j]? = (f (j / m))[j % m]? := by
  have hq : j / m < n := (Nat.div_lt_iff_lt_mul hm).2 hj
  rw [← flL_get hf hq (j % m) (Nat.mod_lt _ hm), Nat.div_add_mod']
end
/-- The slice at A of n lists of m cells reads as f. -/
def LiesF (w : World) (B : Nat) (A : Option Addr) (n m : Nat) (f : Nat → List Value) : Prop :=
  0 < n → ∃ b off, A = some ⟨b, off, none⟩ ∧ b < B ∧ ∀ i, i < n → w.rangeAt b (off + i * m) (f i)
section
variable {w w' : World} {B B' n m : Nat} {A : Option Addr} {f : Nat → List Value}
theorem LiesF.keep (h : LiesF w B A n m f) (hB : B ≤ B') (hk : ∀ p : Addr, p.block < B → w'.cell? p = w.cell? p) : LiesF w' B' A n m f := fun hn => by
  obtain ⟨b, off, e, hb, hc⟩ := h hn
  exact ⟨b, off, e, by omega, fun i hi j v hv => (hk _ hb).trans (hc i hi j v hv)⟩
theorem LiesF.on (h : LiesF w w.heap.size A n m f) (hb : Below w.heap.size w w') : LiesF w' w'.heap.size A n m f := h.keep hb.size fun _ hp => hb.cell hp
theorem LiesF.low (h : LiesF w B A n m f) (hb : Below B w w') : LiesF w' B A n m f := h.keep (Nat.le_refl _) fun _ hp => hb.cell hp
theorem LiesF.up (h : LiesF w B A n m f) (hB : B ≤ B') : LiesF w B' A n m f := h.keep hB fun _ _ => rfl
theorem LiesF.less {k : Nat} (h : LiesF w B A n m f) (hk : k ≤ n) : LiesF w B A k m f := fun h0 => by
  obtain ⟨b, off, e, hb, hc⟩ := h (by omega)
  exact ⟨b, off, e, hb, fun i hi => hc i (by omega)⟩
theorem LiesF.src (hm : 0 < m) (hf : ∀ i, (f i).length = m) (h : LiesF w B A n m f) : 0 < (flL f n).length → ∃ ad, A = some ad ∧ ∀ j v, (flL f n)[j]? = some v → w.cell? (ad.add j) = some v := by
  intro h0
  rw [flL_len hf] at h0
  obtain ⟨b, off, e, hb, hc⟩ := h (by rcases Nat.eq_zero_or_pos n with h | h
                                      · rw [h, Nat.zero_mul] at h0; omega
                                      · exact h)
  refine ⟨_, e, fun j v hv => ?_⟩
  have hj : j < n * m := by have := (List.getElem?_eq_some_iff.1 hv).1; rwa [flL_len hf] at this
  rw [flL_split hm hf hj] at hv
  have := hc (j / m) ((Nat.div_lt_iff_lt_mul hm).2 hj) (j % m) v hv
  rw [Addr.add_lit, ← this, Nat.add_assoc, Nat.div_add_mod']
end
theorem Blk.liesF {w : World} {g n m : Nat} {t : TypeId} {f : Nat → List Value} (hm : 0 < m) (hf : ∀ i, (f i).length = m) (h : Blk w g t (flL f n).toArray) : LiesF w w.heap.size (some ⟨g, 0, none⟩) n m f := fun hn =>
  ⟨g, 0, rfl, h.lt, fun i hi j v hv => by
    have hj : j < m := by have := (List.getElem?_eq_some_iff.1 hv).1; rwa [hf] at this
    rw [h.cell, Nat.zero_add, List.getElem?_toArray, flL_get hf hi j hj]; exact hv⟩
/-- A list cut, or filled up. -/
def fitF {α : Type} (f : Nat → α) (m : Nat) (z : α) : Nat → α := fun i => if i < m then f i else z
theorem fitF_cells {f : Nat → List Value} {z : List Value} {s : Nat} (hf : ∀ i, (f i).length = s) (hz : z.length = s) (n m k : Nat) (hk : Nat.min m n = k) : flL f k ++ (flL (fun _ => z) n).drop (flL f k).length = flL (fitF f m z) n := by
  have hkn : k ≤ n := by rw [← hk]; exact Nat.min_le_right _ _
  have hkm : k ≤ m := by rw [← hk]; exact Nat.min_le_left _ _
  have e : n = k + (n - k) := by omega
  rw [flL_len hf]
  conv => lhs; rw [e]
  rw [flL_add, List.drop_append_of_le_length (by rw [flL_len fun _ => hz]; omega), List.drop_of_length_le (by rw [flL_len fun _ => hz]; omega), List.nil_append]
  conv => rhs; rw [e]
  rw [flL_add]
  congr 1
  · exact flL_congr fun i hi => by unfold fitF; rw [if_pos (by omega)]
  · refine flL_congr fun i hi => ?_
    unfold fitF
    rw [if_neg]
    have : k = m ∨ k = n := by rw [← hk]; rcases Nat.le_total m n with h | h
                               · left; exact Nat.min_eq_left h
                               · right; exact Nat.min_eq_right h
    omega
theorem fitF_le {f : Nat → List Value} {z : List Value} {s : Nat} (hf : ∀ i, (f i).length = s) (hz : z.length = s) {n m k : Nat} (hk : Nat.min m n = k) : (flL f k).length ≤ (flL (fun _ => z) n).toArray.size := by
  have : k ≤ n := by rw [← hk]; exact Nat.min_le_right _ _
  rw [List.size_toArray, flL_len hf, flL_len fun _ => hz]; exact Nat.mul_le_mul_right _ this

set_option maxRecDepth 100000 in
theorem elemRows : Try.prog.underlying 32 = some (.slice 54) := by kernel_rfl
set_option maxRecDepth 100000 in
theorem sizeRows (w : World) : (sizeOf 54).run Try.prog w = .ok 57 w := by kernel_rfl
set_option maxRecDepth 100000 in
theorem idxRows {A : Option Addr} {n : Nat} (c : Nat) {k b off : Nat} (hA : A = some ⟨b, off, none⟩) (hk : k < n) (w : World) :
    (Instr.indexAt 32 (.slice A n c) (.int .i64 (k : Int))).run Try.prog w = .ok (.pointer (some ⟨b, off + k * 57, none⟩)) w := by
  subst hA
  rw [run_indexAt_slice (h := elemRows), if_pos (by omega), show Try.prog.elem 32 = 54 by kernel_rfl, sizeRows]
  simp [Result.andThen, Addr.add_lit]
theorem Rw.l_len (r : Rw) : r.l.length = 57 := roL_len _ _ _ _ _
/-- Rows in memory: their cells, their tables. -/
structure LiesR (w : World) (B : Nat) (A : Option Addr) (m : Nat) (R : Nat → Rw) : Prop where
  f : LiesF w B A m 57 fun i => (R i).l
  t : ∀ i, i < m → LiesH w B (R i).A (R i).n (R i).T
theorem LiesR.on {w w' : World} {A : Option Addr} {m : Nat} {R : Nat → Rw} (h : LiesR w w.heap.size A m R) (hb : Below w.heap.size w w') : LiesR w' w'.heap.size A m R := ⟨h.f.on hb, fun i hi => (h.t i hi).on hb⟩
theorem LiesR.low {w w' : World} {B : Nat} {A : Option Addr} {m : Nat} {R : Nat → Rw} (h : LiesR w B A m R) (hb : Below B w w') : LiesR w' B A m R := ⟨h.f.low hb, fun i hi => (h.t i hi).low hb⟩
theorem LiesR.up {w : World} {B B' : Nat} {A : Option Addr} {m : Nat} {R : Nat → Rw} (h : LiesR w B A m R) (hb : B ≤ B') : LiesR w B' A m R := ⟨h.f.up hb, fun i hi => (h.t i hi).up hb⟩
/-- The cells Ls are rows of memory of their own. -/
def RowsO (w : World) (lo n : Nat) (P : Nat → Ro) (Ls : Nat → List Value) : Prop := ∀ i, i < n → RowO w lo (P i) (Ls i)
theorem fit_tab {w : World} {B m : Nat} {A : Option Addr} {R : Nat → Rw} (h : LiesR w B A m R) (k : Nat) : LiesH w B (fitF R m rwN k).A (fitF R m rwN k).n (fitF R m rwN k).T := by
  unfold fitF
  split
  · exact h.t k ‹_›
  · exact LiesH.nil_
theorem fit_l (R : Nat → Rw) (m : Nat) : (fun i => (fitF R m rwN i).l) = fitF (fun i => (R i).l) m (roL false ceN none 0 0) := by
  funext i; unfold fitF; split <;> rfl
set_option maxRecDepth 100000 in
set_option maxHeartbeats 1000000 in
theorem filledRow_is (n : Nat) (hn : n ≤ 16) (A : Option Addr) (m c nb : Nat) (R : Nat → Rw) (w : World) (hR : LiesR w w.heap.size A m R) (hnb : w.cell? ⟨nb, 0, none⟩ = some (.int .i64 (n : Int))) (hlt : nb < w.heap.size) :
    Calls Try.prog 95 #[.int .i64 (n : Int), .slice A m c, .func (.func 96) #[] #[.pointer (some ⟨nb, 0, none⟩)]] w
      fun e w' => ∃ Ls : Nat → List Value, e = .returned (.slice (some ⟨w.heap.size, 0, none⟩) n n) ∧ (∀ i, (Ls i).length = 57) ∧ Blk w' w.heap.size 54 (flL Ls n).toArray ∧ RowsO w' (w.heap.size + 1) n (fun i => plR n (fitF R m rwN i).ro) Ls ∧ Below w.heap.size w w' := by
  obtain ⟨i0, hi0, hz0, hz1, hz2⟩ := info_parts infoRow
  obtain ⟨k0, hk0⟩ : ∃ k0, Nat.min m n = k0 := ⟨_, rfl⟩
  have HK := Lib.hid hk0
  have hkm : k0 ≤ m := by rw [← hk0]; exact Nat.min_le_left _ _
  have HSRC := Lib.hid (fun (x : World) (h : LiesR x x.heap.size A m R) => LiesF.src (by decide) (fun i => (R i).l_len) (h.f.less hkm))
  have HR := Lib.hid hR
  have HI := Lib.hid hi0
  have HZ0 := Lib.hid hz0
  have HZ1 := Lib.hid hz1
  have HZ2 := Lib.hid hz2
  have HNB := Lib.hid hnb
  have HLT := Lib.hid hlt
  have HN16 := Lib.hid hn
  clear hR hk0 hi0 hz0 hz1 hz2 hnb hkm
  go_enter Try.func95, Try.ntmps95
  go_wp2_with (first
    | (refine wpList_make_flat rfl (.tmp 9) (.tmp 9) 32 rfl 54 i0 _ (roL false ceN none 0 0) 160 57 elemRows HI.out HZ0.out rfl HZ1.out HZ2.out (roL_len _ _ _ _ _) (by decide) n n (by simp [Act.eval]) (by simp [Act.eval]) (Nat.le_refl _) (by omega) (by omega) ?_; intro w1 hB1 hb1 hs1; have HB1 := Lib.hid hB1; have Hb1 := Lib.hid hb1; have hlt1 := hB1.lt; clear hB1 hb1 hs1)
    | (refine wpList_copy_part rfl (.tmp 11) (.tmp 12) 32 32 rfl 54 elemRows 57 size_row A n m k0 n c w.heap.size HK.out (by simp [Act.eval]) (by simp [Act.eval]) _ _ HB1.out (flL (fun i => (R i).l) k0) (flL_len (fun i => (R i).l_len) _) (fitF_le (fun i => (R i).l_len) (roL_len false ceN none 0 0) HK.out) (HSRC.out w1 (HR.out.on Hb1.out)) (flL_one fun i _ => roL_one _ _ _ _ _) ?_; intro w2 hB2 hb2; have HB2 : Hid (Blk w2 w.heap.size 54 (flL (fun i => (fitF R m rwN i).l) n).toArray) := Lib.hid (by rw [fit_l, ← fitF_cells (fun i => (R i).l_len) (roL_len false ceN none 0 0) n m k0 HK.out]; exact hB2); have Hb2 := Lib.hid (Hb1.out.trans (hb2.low (Nat.le_refl _))); have hlt2 := hB2.lt; clear hB2 hb2))
  obtain ⟨g, hg⟩ : ∃ g, g = w.heap.size := ⟨_, rfl⟩
  have HG := Lib.hid hg
  rw [← hg] at HB2 hlt2 ⊢
  clear hg HB1 hlt1
  go_loopw [16] (fun s wr => ∃ k : Nat, k ≤ n ∧ s = .int .i64 (k : Int) ∧ ∃ Ls : Nat → List Value, Hid (∀ i, (Ls i).length = 57) ∧ Hid (∀ i, k ≤ i → Ls i = (fitF R m rwN i).l) ∧ Hid (RowsO wr (g + 1) k (fun i => plR n (fitF R m rwN i).ro) Ls) ∧ Hid (Blk wr g 54 (flL Ls n).toArray) ∧ Hid (Below w.heap.size w wr)) (fun s _ => n - (intOf s).toNat)
  case atStart => exact ⟨0, by omega, rfl, _, Lib.hid fun i => Rw.l_len _, Lib.hid fun i _ => rfl, Lib.hid fun i hi => absurd hi (by omega), HB2, Hb2⟩
  case round =>
    clear HB2 Hb2 Hb1 hlt2
    obtain ⟨k, hk, rfl, Ls, HL, HE, HO, HB, HU⟩ := hrel
    have hlr := HB.out.lt
    by_cases hlt' : k < n
    · have HP : Hid (PIn wr g (k * 57) 54 (flL Ls k) (flL (fun j => Ls (k + 1 + j)) (n - (k + 1))) (fitF R m rwN k).l) := Lib.hid ⟨by have := HB.out; rw [flL_at _ hlt', HE.out k (Nat.le_refl _)] at this; exact this, flL_len HL.out _⟩
      have hix := fun W => idxRows (A := some ⟨g, 0, none⟩) (n := n) n rfl hlt' W
      simp only [Nat.zero_add] at hix
      have HC : Hid (wr.cell? ⟨nb, 0, none⟩ = some (.int .i64 (n : Int))) := Lib.hid ((HU.out.cell (p := ⟨nb, 0, none⟩) HLT.out).trans HNB.out)
      have HTB : Hid (LiesH wr g (fitF R m rwN k).A (fitF R m rwN k).n (fitF R m rwN k).T) := Lib.hid (by rw [HG.out]; exact fit_tab (HR.out.low HU.out) k)
      have hgb : g < wr.heap.size := hlr
      have HGN := Lib.hid (show nb < g by rw [HG.out]; exact HLT.out)
      go_wp2_with (go_at_call 96; (with_reducible refine (norm1_is n HN16.out _ nb g _ _ _ _ _ HP.out HC.out HGN.out HTB.out).mono ?_); rintro e w3 ⟨rfl, p1, b1⟩)
      obtain ⟨L, hLO, hLP⟩ := p1
      have HLO := Lib.hid hLO
      have HLP := Lib.hid hLP
      have HB1 := Lib.hid b1
      clear hLO hLP b1
      go_roundw
      case rel =>
        refine ⟨k + 1, by omega, by go_num, fun i => if i = k then L else Ls i, Lib.hid fun i => ?_, Lib.hid fun i hi => ?_, Lib.hid fun i hi => ?_, Lib.hid ?_, Lib.hid (HU.out.trans (HB1.out.low (by rw [HG.out]; exact Nat.le_refl _)))⟩
        · show (if i = k then L else Ls i).length = 57
          split
          · exact HLO.out.len
          · exact HL.out i
        · show (if i = k then L else Ls i) = _
          rw [if_neg (by omega)]; exact HE.out i (by omega)
        · by_cases e : i = k
          · simp only [e, if_true]
            exact HLO.out.mono (by omega)
          · simp only [e, if_false]
            exact (HO.out i (by omega)).but HB1.out (by omega)
        · rw [← flL_upd Ls k L hlt']; exact HLP.out.blk
      case measure => simp [intOf]; omega
    · go_wp2_with fail
      go_ret
      obtain rfl : k = n := by omega
      have h1 := HB.out
      have h2 := HU.out
      have h3 := HO.out
      rw [← HG.out] at h2 ⊢
      exact ⟨Ls, rfl, HL.out, h1, h3, h2⟩
set_option maxRecDepth 100000 in
theorem norm_bad (N : Int) (hN : nmB N = false) (A : Option Addr) (m c : Nat) (w : World) :
    Calls Try.prog 76 #[.int .i64 N, .agg #[.slice A m c]] w fun e w' => e = .returned (.agg #[.slice none 0 0]) ∧ Below w.heap.size w w' := by
  have HC : Hid (∀ W, Calls Try.prog 81 #[.int .i64 N] W fun e w' => e = .returned (.bool false) ∧ W = w') := Lib.hid (by rw [← hN]; exact isNumber_is N)
  clear hN
  go_enter Try.func76, Try.ntmps76
  go_wp2_with (go_at_call 81; (with_reducible refine (HC.out _).mono ?_); rintro e w1 ⟨rfl, rfl⟩)
  exact bodyPost_ret (v := .agg #[.slice none 0 0]) (by simp [results, Try.results76, go_sem]) rfl ⟨rfl, by simpa using below_al (below_al (below_al (Below.refl _ w) _) _) _⟩
set_option maxRecDepth 100000 in
set_option maxHeartbeats 1000000 in
theorem norm_is (n : Nat) (hn : n ≤ 16) (A : Option Addr) (m c : Nat) (R : Nat → Rw) (w : World) (hR : LiesR w w.heap.size A m R) :
    Calls Try.prog 76 #[.int .i64 (n : Int), .agg #[.slice A m c]] w fun e w' => ∃ (G : Nat) (Ls : Nat → List Value), e = .returned (.agg #[.slice (some ⟨G, 0, none⟩) n n]) ∧ w.heap.size ≤ G ∧ (∀ i, (Ls i).length = 57) ∧ Blk w' G 54 (flL Ls n).toArray ∧ RowsO w' (G + 1) n (fun i => plR n (fitF R m rwN i).ro) Ls ∧ Below w.heap.size w w' := by
  have HC : Hid (∀ W, Calls Try.prog 81 #[.int .i64 (n : Int)] W fun e w' => e = .returned (.bool true) ∧ W = w') := Lib.hid (by
    have : nmB (n : Int) = true := by unfold nmB; simp; omega
    rw [← this]; exact isNumber_is _)
  have HR := Lib.hid hR
  have HN := Lib.hid hn
  clear hR hn
  go_enter Try.func76, Try.ntmps76
  go_upto_region 1 with fail
  refine wp_at (fun U => Blk U w.heap.size 3 #[.int .i64 (n : Int)] ∧ Blk U (w.heap.size + 1) 34 #[.slice A m c] ∧ Blk U (w.heap.size + 1 + 1) 34 #[.slice none 0 0] ∧ Below w.heap.size w U) ?_ ?_
  · refine ⟨((Blk.new w 3 _).alloc _).alloc _, ?_, ?_, below_al (below_al (below_al (Below.refl _ w) _) _) _⟩
    · have := (Blk.new (w.alloc (.cells #[.int .i64 (n : Int)] 3)) 34 #[.slice A m c]).alloc (.cells #[.slice none 0 0] 34)
      rwa [alloc_size] at this
    · have := Blk.new ((w.alloc (.cells #[.int .i64 (n : Int)] 3)).alloc (.cells #[.slice A m c] 34)) 34 #[.slice none 0 0]
      rwa [alloc_size, alloc_size] at this
  · rintro U ⟨h0, h1, h2, h3⟩
    have c0 : U.cell? ⟨w.heap.size, 0, none⟩ = some (.int .i64 (n : Int)) := (h0.cell 0).trans rfl
    have c1 : U.cell? ⟨w.heap.size + 1, 0, none⟩ = some (.slice A m c) := (h1.cell 0).trans rfl
    have l0 := h0.lt
    have l1 := h1.lt
    have l2 := h2.lt
    have H2 := Lib.hid h2
    have HC0 := Lib.hid c0
    have HL0 := Lib.hid l0
    have HB := Lib.hid h3
    have HL := Lib.hid h3.size
    have HL2 := Lib.hid l2
    clear h0 h1 h2 h3
    go_wp2_with (first
      | (go_at_call 81; (with_reducible refine (HC.out _).mono ?_); rintro e w1 ⟨rfl, rfl⟩)
      | (go_at_call 95; (with_reducible refine (filledRow_is n HN.out A m c w.heap.size R U (HR.out.on HB.out) HC0.out HL0.out).mono ?_); rintro e w1 ⟨Ls, rfl, q1, q2, q3, q4⟩; have hL := Lib.hid q1; have hB := Lib.hid q2; have hO := Lib.hid q3; have hU := Lib.hid q4; have hz := H2.out.on q4; have z0 : w1.cell? ⟨w.heap.size + 1 + 1, 0, none⟩ = some (.slice none 0 0) := (hz.cell 0).trans rfl; have zf := hz.frozen 0; clear q1 q2 q3 q4 hz))
    have q := But.one (u := w1) (g := w.heap.size + 1 + 1) 0 (.slice (some ⟨U.heap.size, 0, none⟩) n n)
    exact bodyPost_ret (v := .agg #[.slice (some ⟨U.heap.size, 0, none⟩) n n]) (by simp [results, Try.results76, go_sem, z0]) rfl ⟨U.heap.size, Ls, rfl, HL.out, hL.out, q.blk hB.out (by have := HL2.out; omega), fun i hi => (hO.out i hi).but q (by have := HL2.out; omega), (HB.out.trans (hU.out.mono HL.out)).trans (q.low (by omega))⟩
end Go.Proofs.Ytcangipaoancnaa

