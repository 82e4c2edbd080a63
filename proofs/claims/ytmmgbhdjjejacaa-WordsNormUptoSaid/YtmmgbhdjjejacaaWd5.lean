/-
  Builds of what is held and of rows; the contracts of package words' Plain and Copy. Conditions: the row's reading; its table's length.
-/
import Derived.Test.YtmmgbhdjjejacaaWd4
import Derived.Test.YtmmgbhdjjejacaaRegM
namespace Go.Proofs.Ytmmgbhdjjejacaa
open Go.RowKit
set_option linter.unusedVariables false

theorem vec8 {α : Type} (v : Vector α 8) : ∃ a b c d e f g h, v = ⟨#[a, b, c, d, e, f, g, h], rfl⟩ := by
  obtain ⟨⟨l⟩, hl⟩ := v
  match l, hl with
  | [a, b, c, d, e, f, g, h], _ => exact ⟨a, b, c, d, e, f, g, h, rfl⟩
set_option maxRecDepth 100000 in
theorem built_row (b : Bool) (c : Ce) (A : Option Addr) (n p : Nat) : (Try.prog).built 54 [(0, .bool b), (1, .agg (ceL c).toArray), (2, .slice A n p)] = some (roL b c A n p).toArray := by
  obtain ⟨x, o, r, ⟨v1, v2, v3, v4, v5, y, z⟩⟩ := c
  obtain ⟨_, _, _, _, _, _, _, _, rfl⟩ := vec8 v1
  obtain ⟨_, _, _, _, _, _, _, _, rfl⟩ := vec8 v2
  obtain ⟨_, _, _, _, _, _, _, _, rfl⟩ := vec8 v3
  obtain ⟨_, _, _, _, _, _, _, _, rfl⟩ := vec8 v4
  obtain ⟨_, _, _, _, _, _, _, _, rfl⟩ := vec8 v5
  kernel_rfl
set_option maxRecDepth 100000 in
theorem built_rrow (b : Bool) (c : Ce) : (Try.prog).built 61 [(0, .bool b), (1, .agg (ceL c).toArray)] = some (roL b c none 0 0).toArray := by
  obtain ⟨x, o, r, ⟨v1, v2, v3, v4, v5, y, z⟩⟩ := c
  obtain ⟨_, _, _, _, _, _, _, _, rfl⟩ := vec8 v1
  obtain ⟨_, _, _, _, _, _, _, _, rfl⟩ := vec8 v2
  obtain ⟨_, _, _, _, _, _, _, _, rfl⟩ := vec8 v3
  obtain ⟨_, _, _, _, _, _, _, _, rfl⟩ := vec8 v4
  obtain ⟨_, _, _, _, _, _, _, _, rfl⟩ := vec8 v5
  kernel_rfl
set_option maxRecDepth 100000 in
theorem built_rheld (b : Bool) (c : Ce) : (Try.prog).built 133 [(0, .bool b), (1, .agg (ceL c).toArray)] = some (heL ⟨b, c⟩).toArray := by
  obtain ⟨x, o, r, ⟨v1, v2, v3, v4, v5, y, z⟩⟩ := c
  obtain ⟨_, _, _, _, _, _, _, _, rfl⟩ := vec8 v1
  obtain ⟨_, _, _, _, _, _, _, _, rfl⟩ := vec8 v2
  obtain ⟨_, _, _, _, _, _, _, _, rfl⟩ := vec8 v3
  obtain ⟨_, _, _, _, _, _, _, _, rfl⟩ := vec8 v4
  obtain ⟨_, _, _, _, _, _, _, _, rfl⟩ := vec8 v5
  kernel_rfl
set_option maxRecDepth 100000 in
theorem size_row : (Try.prog.info? 54).map (·.size) = some 57 := by kernel_rfl
set_option maxRecDepth 100000 in
theorem size_rrow : (Try.prog.info? 61).map (·.size) = some 57 := by kernel_rfl
set_option maxRecDepth 100000 in
theorem size_rhe : (Try.prog.info? 133).map (·.size) = some 56 := by kernel_rfl
/-- A row's cells in its parts. -/
theorem ro_cell (b : Bool) (c : Ce) (A : Option Addr) (n p : Nat) : roL b c A n p = [.bool b] ++ (ceL c ++ [.slice A n p]) := rfl
theorem ro_tab (b : Bool) (c : Ce) (A : Option Addr) (n p : Nat) : (roL b c A n p)[56]? = some (.slice A n p) := by
  unfold roL
  rw [List.getElem?_cons_succ, List.getElem?_append_right (by rw [ceL_len]; omega), ceL_len]; rfl
theorem Blk.pin {w : World} {g : Nat} {T : TypeId} {L : List Value} (h : Blk w g T L.toArray) : PIn w g 0 T [] [] L := ⟨by simpa using h, rfl⟩
theorem PIn.blk_ {w : World} {g : Nat} {T : TypeId} {L : List Value} (h : PIn w g 0 T [] [] L) : Blk w g T L.toArray := by simpa using h.blk
theorem PIn.var {w : World} {g O : Nat} {T : TypeId} {A Z L : List Value} (h : PIn w g O T A Z L) (ty : TypeId) (d : TypeDesc) (hu : Try.prog.underlying ty = some d) (hd : d.isRow = true) (n : Nat) (hi : (Try.prog.info? ty).map (·.size) = some n) (hn : L.length = n) :
    (loadVar ty ⟨g, O, none⟩).run Try.prog w = .ok (.agg L.toArray) w := run_loadVar_mid w g O ty L d h.range hu hd (hn ▸ hi)
/-- A box, and a result's variable behind it. -/
theorem box_two (w : World) (T1 T2 : TypeId) (X Z : Array Value) : Blk ((w.alloc (.cells X T1)).alloc (.cells Z T2)) w.heap.size T1 X ∧ Blk ((w.alloc (.cells X T1)).alloc (.cells Z T2)) (w.heap.size + 1) T2 Z ∧ Below w.heap.size w ((w.alloc (.cells X T1)).alloc (.cells Z T2)) := by
  refine ⟨(Blk.new w T1 X).alloc _, ?_, below_al (below_al (Below.refl _ w) _) _⟩
  have := Blk.new (w.alloc (.cells X T1)) T2 Z
  rwa [alloc_size] at this
/-- What is known behind both. -/
structure Boxed (w : World) (T1 T2 : TypeId) (L : List Value) (n : Nat) (U : World) : Prop where
  x : Blk U w.heap.size T1 L.toArray
  z : ∃ Z : Array Value, Z.size = n ∧ Blk U (w.heap.size + 1) T2 Z
  b : Below w.heap.size w U
theorem Boxed.mk_ (w : World) (T1 T2 : TypeId) (L : List Value) (Z : Array Value) (n : Nat) (hZ : Z.size = n) : Boxed w T1 T2 L n ((w.alloc (.cells L.toArray T1)).alloc (.cells Z T2)) :=
  ⟨(box_two w T1 T2 _ Z).1, ⟨Z, hZ, (box_two w T1 T2 _ Z).2.1⟩, (box_two w T1 T2 _ Z).2.2⟩
theorem Boxed.res {w U : World} {T1 T2 : TypeId} {L : List Value} {n : Nat} (h : Boxed w T1 T2 L n U) : ∃ Z : List Value, Z.length = n ∧ PIn U (w.heap.size + 1) 0 T2 [] [] Z := by
  obtain ⟨Z, h1, h2⟩ := h.z
  exact ⟨Z.toList, by simpa using h1, Blk.pin (by simpa using h2)⟩
theorem Boxed.lt {w U : World} {T1 T2 : TypeId} {L : List Value} {n : Nat} (h : Boxed w T1 T2 L n U) : w.heap.size + 1 < U.heap.size := by
  obtain ⟨Z, _, h2⟩ := h.z
  exact h2.lt

set_option maxRecDepth 100000 in
set_option maxHeartbeats 1000000 in
set_option maxRecDepth 100000 in
/-- A row that is not set, or of so many nodes that may not be. -/
theorem plain_no (N : Int) (b : Bool) (c : Ce) (A : Option Addr) (m p : Nat) (hno : (b && nmB N) = false) (w : World) :
    Calls Try.prog 22 #[.int .i64 N, .agg (roL b c A m p).toArray] w fun e w' => e = .returned (.agg (roL false ceN none 0 0).toArray) ∧ Below w.heap.size w w' := by
  obtain ⟨q, hq⟩ : ∃ q, q = nmB N := ⟨_, rfl⟩
  have HC : Hid (∀ W, Calls Try.prog 50 #[.int .i64 N] W fun e w' => e = .returned (.bool q) ∧ W = w') := Lib.hid (by rw [hq]; exact isNumber_is N)
  rw [← hq] at hno
  have HNO := Lib.hid hno
  clear hq hno
  go_enter Try.func22, Try.ntmps22
  go_upto_region 1 with fail
  refine wp_at (Boxed w 54 54 (roL b c A m p) 57) (Boxed.mk_ _ _ _ _ _ _ rfl) ?_
  intro U hU
  have c0 : U.cell? ⟨w.heap.size, 0, none⟩ = some (.bool b) := (hU.x.pin.cell0 (by simp [roL])).trans rfl
  obtain ⟨Z, hZl, hZ⟩ := hU.res
  have HZ := Lib.hid hZ
  have HZL := Lib.hid hZl
  have HB := Lib.hid hU.b
  have hlt := hU.lt
  have hlt' : w.heap.size < U.heap.size := by omega
  clear hZ hZl hU
  cases b
  · go_wp2_with (refine wpList_store_pin rfl 54 (.tmp 4) (.tmp 13) rfl HZ.out (roL false ceN none 0 0) (by simp [Act.eval]) (by kernel_rfl) 57 size_row HZL.out (roL_len _ _ _ _ _) (roL_one _ _ _ _ _) ?_; intro w1 p1 b1)
    have hld := p1.var 54 _ Try.underlying54 rfl 57 size_row (roL_len _ _ _ _ _)
    exact bodyPost_ret (v := .agg (roL false ceN none 0 0).toArray) (by simp [results, Try.results22, asAddr, Act.put, hld]) rfl ⟨rfl, HB.out.trans (b1.low (Nat.le_succ _))⟩
  · obtain rfl : q = false := by simpa using HNO.out
    go_wp2_with (first
      | (go_at_call 50; (with_reducible refine (HC.out _).mono ?_); rintro e w1 ⟨rfl, rfl⟩)
      | (refine wpList_store_pin rfl 54 (.tmp 4) (.tmp 13) rfl HZ.out (roL false ceN none 0 0) (by simp [Act.eval]) (by kernel_rfl) 57 size_row HZL.out (roL_len _ _ _ _ _) (roL_one _ _ _ _ _) ?_; intro w1 p1 b1))
    have hld := p1.var 54 _ Try.underlying54 rfl 57 size_row (roL_len _ _ _ _ _)
    exact bodyPost_ret (v := .agg (roL false ceN none 0 0).toArray) (by simp [results, Try.results22, asAddr, Act.put, hld]) rfl ⟨rfl, HB.out.trans (b1.low (Nat.le_succ _))⟩
/-- A table of one's own. -/
def TabIs (w : World) (base : Nat) (T : Nat → He) (n : Nat) (A : Option Addr) : Prop := ∃ g, A = some ⟨g, 0, none⟩ ∧ base ≤ g ∧ Blk w g 69 (hesL T n).toArray
theorem Reg.KJ.below {B : Nat} {S : List Nat} {Js : List (World → Prop)} {w w' : World} (h : Reg.KJ B S Js w w') : Below B w w' := h.1
def resJ (x : Nat) (c : Ce) (R : Nat → He) (n : Nat) (u : World) : Prop := ∃ g, x + 2 ≤ g ∧ Blk u (x + 1) 54 (roL true c (some ⟨g, 0, none⟩) n n).toArray ∧ Blk u g 69 (hesL R n).toArray
def resZ (x : Nat) (u : World) : Prop := ∃ Z : List Value, Z.length = 57 ∧ Blk u (x + 1) 54 Z.toArray
theorem resJ.z {x : Nat} {c : Ce} {R : Nat → He} {n : Nat} {u : World} (h : resJ x c R n u) : resZ x u := by
  obtain ⟨g, h1, h2, h3⟩ := h
  exact ⟨_, roL_len _ _ _ _ _, h2⟩
theorem resZ.on {x : Nat} {u u' : World} (h : resZ x u) (hb : Below u.heap.size u u') : resZ x u' := by
  obtain ⟨Z, h1, h2⟩ := h
  exact ⟨Z, h1, h2.on hb⟩
theorem Blk.rowTab {w : World} {g : Nat} {T : TypeId} {b : Bool} {c : Ce} {A : Option Addr} {n p : Nat} (h : Blk w g T (roL b c A n p).toArray) : w.cell? ⟨g, 56, none⟩ = some (.slice A n p) := by
  rw [h.cell, List.getElem?_toArray, ro_tab]
theorem resJ.on {x : Nat} {c : Ce} {R : Nat → He} {n : Nat} {u u' : World} (h : resJ x c R n u) (hb : Below u.heap.size u u') : resJ x c R n u' := by
  obtain ⟨g, h1, h2, h3⟩ := h
  exact ⟨g, h1, h2.on hb, h3.on hb⟩
theorem Blk.rowCell {w : World} {g : Nat} {T : TypeId} {b : Bool} {c : Ce} {A : Option Addr} {n p : Nat} (h : Blk w g T (roL b c A n p).toArray) : w.rangeAt g 1 (ceL c) :=
  range_of (ceL c) [.bool b] [.slice A n p] h rfl
def Reg.FactK.tab {B : Nat} {S : List Nat} {Js : List (World → Prop)} (R : Nat → He) (n base : Nat) (hS : ∀ s ∈ S, s < base) : Reg.FactK (Reg.KJ B S Js) := ⟨fun v w => ∃ g, v = .slice (some ⟨g, 0, none⟩) n n ∧ base ≤ g ∧ Blk w g 69 (hesL R n).toArray, fun _ _ _ hb h => by
  obtain ⟨g, e, hg, hB⟩ := h
  exact ⟨g, e, hg, hb.blk (fun hm => by have := hS g hm; omega) hB⟩⟩
def Reg.FactK.row {B : Nat} {S : List Nat} {Js : List (World → Prop)} (c : Ce) (R : Nat → He) (n base : Nat) (hS : ∀ s ∈ S, s < base) : Reg.FactK (Reg.KJ B S Js) := ⟨fun v w => ∃ g, v = .agg (roL true c (some ⟨g, 0, none⟩) n n).toArray ∧ base ≤ g ∧ Blk w g 69 (hesL R n).toArray, fun _ _ _ hb h => by
  obtain ⟨g, e, hg, hB⟩ := h
  exact ⟨g, e, hg, hb.blk (fun hm => by have := hS g hm; omega) hB⟩⟩
set_option maxRecDepth 100000 in
set_option maxHeartbeats 4000000 in
set_option maxRecDepth 100000 in
/-- A row that is set. -/
theorem plain_yes (n : Nat) (hn : n ≤ 16) (c : Ce) (A : Option Addr) (m p : Nat) (T : Nat → He) (w : World) (hT : LiesH w w.heap.size A m T) :
    Calls Try.prog 22 #[.int .i64 (n : Int), .agg (roL true c A m p).toArray] w fun e w' => ∃ g, e = .returned (.agg (roL true (plC c) (some ⟨g, 0, none⟩) n n).toArray) ∧ w.heap.size ≤ g ∧ Blk w' g 69 (hesL (fun i => plH (fitH T m i)) n).toArray ∧ Below w.heap.size w w' := by
  have HC : Hid (∀ W, Calls Try.prog 50 #[.int .i64 (n : Int)] W fun e w' => e = .returned (.bool true) ∧ W = w') := Lib.hid (by
    have : nmB (n : Int) = true := by unfold nmB; simp; omega
    rw [← this]; exact isNumber_is _)
  have HN := Lib.hid (show n ≤ 65536 by omega)
  have HT := Lib.hid hT
  obtain ⟨R, hR⟩ : ∃ R : Nat → He, R = fun i => plH (fitH T m i) := ⟨_, rfl⟩
  have HR := Lib.hid hR
  rw [← hR]
  clear hT hn hR
  go_enter Try.func22, Try.ntmps22
  go_upto_region 1 with fail
  refine wp_at (Boxed w 54 54 (roL true c A m p) 57) (Boxed.mk_ _ _ _ _ _ _ rfl) ?_
  intro U hU
  have c0 : U.cell? ⟨w.heap.size, 0, none⟩ = some (.bool true) := (hU.x.pin.cell0 (by simp [roL])).trans rfl
  obtain ⟨Z, hZl, hZ⟩ := hU.res
  have HZ := Lib.hid hZ
  have HZL := Lib.hid hZl
  have HU := Lib.hid hU
  have hlt := hU.lt
  have hlt' : w.heap.size < U.heap.size := by omega
  have HX := Lib.hid hU.x
  clear hZ hZl hU
  go_wp2_with (go_at_call 50; (with_reducible refine (HC.out _).mono ?_); rintro e w1 ⟨rfl, rfl⟩)
  have HB := Lib.hid HU.out.b
  have HRZ : Hid (resZ w.heap.size U) := Lib.hid (by obtain ⟨Z, h1, h2⟩ := HU.out.res; exact ⟨Z, h1, h2.blk_⟩)
  have HLZ := Lib.hid hlt
  have HLT := Lib.hid hlt'
  have HJ : Hid (∀ J ∈ [resZ w.heap.size, resJ w.heap.size (plC c) R n], ∀ u u', Below u.heap.size u u' → J u → J u') := Lib.hid (by simp only [List.forall_mem_cons]; exact ⟨fun _ _ hb h => h.on hb, fun _ _ hb h => h.on hb, fun _ h => by cases h⟩)
  have HBU := Lib.hid (fun A' => built_row true (plC c) A' n n)
  clear c0 HZ HZL
  refine Reg.wp_slots2 (fun t => decide (14 ≤ t)) (Reg.KJ w.heap.size [w.heap.size + 1] [resZ w.heap.size, resJ w.heap.size (plC c) R n]) (Reg.KJ.drew _ HJ.out) Reg.KJ.trans (by kernel_rfl) (by kernel_rfl) (by kernel_rfl) (fun zz => (Reg.tblK [
    (14, .is (.pointer (some ⟨w.heap.size, 1, none⟩))),
    (15, .is (.agg (ceL c).toArray)),
    (16, .is (.agg (ceL (plC c)).toArray)),
    (17, .is (.int .i64 (n : Int))),
    (18, .is (.pointer (some ⟨w.heap.size, 56, none⟩))),
    (19, .is (.slice A m p)),
    (20, .tab R n (w.heap.size + 2) (by simp)),
    (21, .row (plC c) R n (w.heap.size + 2) (by simp))] zz).P) (fun zz => (Reg.tblK _ zz).on) (fun zz => (Reg.memK [(8, .j (resJ w.heap.size (plC c) R n) (by simp))] zz).P) (fun zz => (Reg.memK _ zz).on) ?_ ?_
  · simp only [Reg.frame, Reg.over, Nat.reduceAdd, Nat.reduceLeDiff, decide_true, decide_false, if_true, Bool.false_eq_true, if_false]
    refine ⟨?_, ?_, ?_, ?_, ?_, ?_, ?_, ?_, ?_, trivial⟩
    · intro x u hku hd
      refine wpOp_step rfl fun KK hK => ?_
      go_simp
      exact hK _ _ ⟨_, rfl, Reg.KJ.refl _, fun d hd => by cases hd; exact rfl, fun h => by cases h⟩
    · intro x u hku hd
      have h14 : x 14 = .pointer (some ⟨w.heap.size, 1, none⟩) := hd 0 (by decide)
      refine wpOp_step rfl fun KK hK => ?_
      refine Reg.step_load_mid (by rfl) 51 (.tmp 14) (by rfl) w.heap.size 1 (by exact h14) (ceL c) (hku.blk (by simp) HX.out).rowCell _ Try.underlying51 rfl (by rw [size_ce, ceL_len]) ?_
      exact hK _ _ ⟨_, rfl, Reg.KJ.refl _, fun d hd => by cases hd; exact rfl, fun h => by cases h⟩
    · intro x u hku hd
      have h15 : x 15 = .agg (ceL c).toArray := hd 1 (by decide)
      refine wpOp_step rfl fun KK hK => ?_
      simp only [h15] at hK ⊢
      go_simp
      (with_reducible refine (cell_is c _).mono ?_)
      rintro e u' ⟨rfl, hb'⟩
      exact hK _ _ ⟨_, rfl, Reg.KJ.grow HJ.out (Nat.le_trans (Nat.le_of_lt HLT.out) hku.size) hb', fun d hd => by cases hd; exact rfl, fun h => by cases h⟩
    · intro x u hku hd
      refine wpOp_step rfl fun KK hK => ?_
      go_simp
      exact hK _ _ ⟨_, rfl, Reg.KJ.refl _, fun d hd => by cases hd; exact rfl, fun h => by cases h⟩
    · intro x u hku hd
      refine wpOp_step rfl fun KK hK => ?_
      go_simp
      exact hK _ _ ⟨_, rfl, Reg.KJ.refl _, fun d hd => by cases hd; exact rfl, fun h => by cases h⟩
    · intro x u hku hd
      have h18 : x 18 = .pointer (some ⟨w.heap.size, 56, none⟩) := hd 4 (by decide)
      refine wpOp_step rfl fun KK hK => ?_
      simp only [h18] at hK ⊢
      go_simp
      have c19 := (hku.blk (by simp) HX.out).rowTab
      go_simp
      exact hK _ _ ⟨_, rfl, Reg.KJ.refl _, fun d hd => by cases hd; exact rfl, fun h => by cases h⟩
    · intro x u hku hd
      have h17 : x 17 = .int .i64 (n : Int) := hd 3 (by decide)
      have h19 : x 19 = .slice A m p := hd 5 (by decide)
      refine wpOp_step rfl fun KK hK => ?_
      simp only [h17, h19] at hK ⊢
      go_simp
      (with_reducible refine (filledMend_is n HN.out A m p T _ ((HT.out.low (HB.out.trans (Reg.KJ.below hku))).up (Nat.le_trans (Nat.le_of_lt HLT.out) hku.size))).mono ?_)
      rintro e u' ⟨rfl, hB', hb'⟩
      exact hK _ _ ⟨_, rfl, Reg.KJ.grow HJ.out (Nat.le_trans (Nat.le_of_lt HLT.out) hku.size) hb', fun d hd => by cases hd; exact ⟨_, rfl, (by have := hku.size; have := HLZ.out; omega), by rw [HR.out]; exact hB'⟩, fun h => by cases h⟩
    · intro x u hku hd
      have h16 : x 16 = .agg (ceL (plC c)).toArray := hd 2 (by decide)
      have k20 : (Reg.FactK.tab R n (w.heap.size + 2) (by simp) : Reg.FactK (Reg.KJ w.heap.size [w.heap.size + 1] [resZ w.heap.size, resJ w.heap.size (plC c) R n])).P (x 20) u := hd 6 (by decide)
      obtain ⟨g20, h20, hg20, hB20⟩ := k20
      refine wpOp_step rfl fun KK hK => ?_
      refine Reg.step_build (by rfl) 54 _ (by rfl) _ (by simpa [Act.eval, h16, h20] using HBU.out (some ⟨g20, 0, none⟩)) ?_
      exact hK _ _ ⟨_, rfl, Reg.KJ.refl _, fun d hd => by cases hd; exact ⟨_, rfl, hg20, hB20⟩, fun h => by cases h⟩
    · intro x u hku hd
      have k21 : (Reg.FactK.row (plC c) R n (w.heap.size + 2) (by simp) : Reg.FactK (Reg.KJ w.heap.size [w.heap.size + 1] [resZ w.heap.size, resJ w.heap.size (plC c) R n])).P (x 21) u := hd 7 (by decide)
      obtain ⟨g21, h21, hg21, hB21⟩ := k21
      refine wpOp_step rfl fun KK hK => ?_
      obtain ⟨Z, hZ, hZB⟩ := hku.j (resZ w.heap.size) (by simp) HRZ.out
      have hZB' : Blk u (w.heap.size + 1) 54 ([] ++ (Z ++ [])).toArray := by simpa using hZB
      obtain ⟨q1, q2⟩ := setCells_heap (roL true (plC c) (some ⟨g21, 0, none⟩) n n) Z [] [] 0 (w.heap.size + 1) 54 u hZB' (by rw [roL_len, hZ]) rfl
      have hfin : resJ w.heap.size (plC c) R n (u.setCells (w.heap.size + 1) 0 (roL true (plC c) (some ⟨g21, 0, none⟩) n n)) := ⟨g21, hg21, by simpa using q1, q2.blk hB21 (by omega)⟩
      refine Reg.step_store_mid (by rfl) 54 (.tmp 4) (.tmp 21) (by rfl) (w.heap.size + 1) 0 (roL true (plC c) (some ⟨g21, 0, none⟩) n n) Z [] [] 54 (by rfl) (by exact h21) hZB' (by rw [roL_len, hZ]) rfl (by rw [size_row, roL_len]) (roL_one _ _ _ _ _) ?_
      exact hK _ _ ⟨undef, rfl, Reg.KJ.but q2 (Nat.le_succ _) (by simp only [List.forall_mem_cons]; exact ⟨fun _ => hfin.z, fun _ => hfin, fun _ h => by cases h⟩), (fun d hd => by cases hd), fun _ => hfin⟩
  · intro x u hku hd
    obtain ⟨g, h1, h2, h3⟩ : resJ w.heap.size (plC c) R n u := hd 8 (by decide)
    have hld := h2.pin.var 54 _ Try.underlying54 rfl 57 size_row (roL_len _ _ _ _ _)
    have HF := Lib.hid (HB.out.trans hku.1)
    have HG := Lib.hid (show w.heap.size ≤ g by omega)
    have H3 := Lib.hid h3
    clear h1 h2 h3
    simp only [Reg.frame, Reg.over, Nat.reduceAdd, Nat.reduceLeDiff, decide_true, decide_false, if_true, Bool.false_eq_true, if_false]
    go_wp2_with fail
    exact bodyPost_ret (v := .agg (roL true (plC c) (some ⟨g, 0, none⟩) n n).toArray) (by simp [results, Try.results22, asAddr, hld]) rfl ⟨g, rfl, HG.out, H3.out, HF.out⟩
end Go.Proofs.Ytmmgbhdjjejacaa

