/-
  The contracts of package catches' functions but Step: counted, allSame, count, New, Had, High, Unlike; read, body. Conditions: the catch's block; fewer than 65536 pairs; what each finds there.
-/
import Derived.Test.YtpjcbfapkjipjaaCaM
import Derived.Test.YtpjcbfapkjipjaaBut
import Derived.Deep.QuietTactic
import Derived.Deep.RegionLaw
namespace Go.Proofs.Ytpjcbfapkjipjaa
open Go.RowKit Crc
set_option linter.unusedVariables false

theorem counted_any (z : Int) (w : World) (r : Int) (hr : kn z = r) :
    Calls Try.prog 27 #[.int .u8 z] w fun e w' => e = .returned (.int .u8 r) ∧ Below w.heap.size w w' := by
  have hl : Lies .u8 (w.alloc (.cells #[.int .u8 z] 31)) (w.alloc (.cells #[.int .u8 z] 31)).heap.size (some ⟨w.heap.size, 0, none⟩) 1 [z] := Lies.new w _ .u8 [z] 1 rfl _ rfl
  have HW := Lib.hid (whole_any _ 1 1 [z] _ hl (by omega))
  have hb := below_al (Below.refl w.heap.size w) (.cells #[.int .u8 z] 31)
  have hz : wholeL [z] = wholeB z := by simp [wholeL]
  rw [hz] at HW
  cases hq : wholeB z with
  | false =>
    rw [kn_no hq] at hr
    subst hr
    rw [hq] at HW
    clear hq hz hl
    go_enter Try.func27, Try.ntmps27
    go_wp2_with (go_at_call 35; (with_reducible refine HW.out.mono ?_); rintro e w1 ⟨rfl, rfl⟩)
    go_ret
    exact ⟨rfl, hb⟩
  | true =>
    rw [kn_yes hq] at hr
    subst hr
    rw [hq] at HW
    clear hq hz hl
    go_enter Try.func27, Try.ntmps27
    go_wp2_with (go_at_call 35; (with_reducible refine HW.out.mono ?_); rintro e w1 ⟨rfl, rfl⟩)
    go_ret
    exact ⟨rfl, hb⟩

section
variable {g : Nat} {v : Value} {n s : Nat} {k : Bool} {b : List Int} {f : Fr} {p q : Bool} {w : World}
theorem Blk.ca (h : Blk w g 57 (catL v n s k b f p q).toArray) : w.cell? ⟨g, 0, none⟩ = some v ∧ w.cell? ⟨g, 1, none⟩ = some (.int .i64 n) ∧ w.cell? ⟨g, 2, none⟩ = some (.int .i64 s) ∧ w.cell? ⟨g, 3, none⟩ = some (.bool k) :=
  ⟨h.cell 0, h.cell 1, h.cell 2, h.cell 3⟩
theorem Blk.cb (h : Blk w g 57 (catL v n s k b f p q).toArray) (hb : b.length = 112) {i : Nat} (hi : i < 112) : w.cell? ⟨g, 4 + i, none⟩ = some (.int .u8 (b.getD i 0)) := by
  rw [h.cell, List.getElem?_toArray]; exact catL_body hb i hi
theorem Blk.cf_ (h : Blk w g 57 (catL v n s k b f p q).toArray) (hb : b.length = 112) :
    w.cell? ⟨g, 116, none⟩ = some (.int .i64 f.o) ∧ w.cell? ⟨g, 117, none⟩ = some (.int .u8 f.k) ∧ w.cell? ⟨g, 118, none⟩ = some (.int .u8 f.s) ∧ w.cell? ⟨g, 119, none⟩ = some (.int .u32 f.q) ∧ w.cell? ⟨g, 120, none⟩ = some (.int .u32 f.v) ∧ w.cell? ⟨g, 121, none⟩ = some (.bool p) ∧ w.cell? ⟨g, 122, none⟩ = some (.bool q) := by
  refine ⟨?_, ?_, ?_, ?_, ?_, ?_, ?_⟩
  all_goals rw [h.cell, List.getElem?_toArray]
  · exact catL_end hb 0
  · exact catL_end hb 1
  · exact catL_end hb 2
  · exact catL_end hb 3
  · exact catL_end hb 4
  · exact catL_end hb 5
  · exact catL_end hb 6

theorem allSame_is (h : Blk w g 57 (catL v n s k b f p q).toArray) (r : Bool) (hr : decide (s = n) = r) :
    Calls Try.prog 34 #[.pointer (some ⟨g, 0, none⟩)] w fun e w' => e = .returned (.bool r) ∧ Below w.heap.size w w' := by
  obtain ⟨c0, c1, c2, c3⟩ := h.ca
  have hlt := h.lt
  have he : ((s : Int) == (n : Int)) = r := by
    rw [← hr]
    by_cases e : s = n
    · subst e; simp
    · rw [decide_eq_false e]; exact beq_eq_false_iff_ne.2 (by omega)
  clear h c0 c3 hr
  go_enter Try.func34, Try.ntmps34
  go_wp2_with fail
  go_region
  all_goals (go_wp2_with fail)
  go_ret
  exact ⟨rfl, by first | exact Below.refl _ _ | exact below_same _ | exact (Below.refl _ _).drew⟩

set_option maxRecDepth 100000 in
theorem count_is {a d : Int} (h : Blk w g 57 (catL v n s k b f p q).toArray) (hn : n < 65536) (hs : s < 65536) (r1 r2 r3 : Bool) (h1 : decide (s = n) = r1) (h2 : (a == d) = r2) (h3 : (a != 0) = r3) :
    Calls Try.prog 28 #[.pointer (some ⟨g, 0, none⟩), .int .u8 a, .int .u8 d] w fun e w' => e = .returned (.tuple #[]) ∧ Blk w' g 57 (catL v (n + 1 : Nat) (if (r1 && r2 && r3) = true then s + 1 else s : Nat) k b f p q).toArray ∧ But g w w' := by
  have HR := Lib.hid h1
  clear h1
  have hw1 : IntKind.i64.wrap ((n : Int) + 1) = (n : Int) + 1 := IntWalk.i64_in _ (by omega)
  have hw2 : IntKind.i64.wrap ((s : Int) + 1) = (s : Int) + 1 := IntWalk.i64_in _ (by omega)
  have HX := Lib.hid h
  clear h hn hs
  cases r1 <;> cases r2 <;> cases r3
  all_goals
    go_enter Try.func28, Try.ntmps28
    go_wp2_with (go_at_call 34; (with_reducible refine (allSame_is HX.out _ HR.out).mono ?_); rintro e w1 ⟨rfl, b1⟩; have h1 := HX.out.on b1; obtain ⟨c0, c1, c2, c3⟩ := h1.ca; have f1 := h1.frozen 1; have f2 := h1.frozen 2; have hlt := h1.lt)
    go_end0
    have hB := h1.set_ 1 (.int .i64 ((n : Int) + 1))
    have hC := (h1.set_ 2 (.int .i64 ((s : Int) + 1))).set_ 1 (.int .i64 ((n : Int) + 1))
    have hT := But.grow (g := g) (Nat.le_of_lt HX.out.lt) b1
    simp only [List.setIfInBounds_toArray, catL_set2, catL_set1] at hB hC
    first
      | exact ⟨rfl, hB, hT.set 1 _⟩
      | exact ⟨rfl, hC, (hT.set 2 _).set 1 _⟩

theorem had_is (h : Blk w g 57 (catL v n s k b f p q).toArray) :
    Calls Try.prog 14 #[.pointer (some ⟨g, 0, none⟩)] w fun e w' => e = .returned (.int .i64 (n : Int)) ∧ w = w' := by
  obtain ⟨c0, c1, c2, c3⟩ := h.ca
  have hlt := h.lt
  clear h c0 c2 c3
  go_enter Try.func14, Try.ntmps14
  go_wp2_with fail
  go_ret
  exact ⟨rfl, rfl⟩
theorem unlike_is (h : Blk w g 57 (catL v n s k b f p q).toArray) (z : Int) (hz : (if s = n then -1 else (s : Int)) = z) :
    Calls Try.prog 18 #[.pointer (some ⟨g, 0, none⟩)] w fun e w' => e = .returned (.int .i64 z) ∧ Below w.heap.size w w' := by
  have hlt := h.lt
  have HX := Lib.hid h
  by_cases e : s = n
  · rw [if_pos e] at hz
    subst hz
    have HR := Lib.hid (decide_eq_true e)
    clear e h
    go_enter Try.func18, Try.ntmps18
    go_wp2_with (go_at_call 34; (with_reducible refine (allSame_is HX.out _ HR.out).mono ?_); rintro e w1 ⟨rfl, b1⟩)
    go_ret
    exact ⟨rfl, b1⟩
  · rw [if_neg e] at hz
    subst hz
    have HR := Lib.hid (decide_eq_false e)
    clear e h
    go_enter Try.func18, Try.ntmps18
    go_wp2_with (go_at_call 34; (with_reducible refine (allSame_is HX.out _ HR.out).mono ?_); rintro e w1 ⟨rfl, b1⟩; have h1 := HX.out.on b1; obtain ⟨c0, c1, c2, c3⟩ := h1.ca; have hlt := h1.lt)
    go_ret
    exact ⟨rfl, b1⟩
set_option maxRecDepth 100000 in
theorem high_is (h : Blk w g 57 (catL v n s k b f p q).toArray) (hb : b.length = 112) (r : Bool) (hr : (decide (114 ≤ n) && (p && !q)) = r) (F : Fr) (hF : (if r = true then f else Fr.zero) = F) :
    Calls Try.prog 15 #[.pointer (some ⟨g, 0, none⟩)] w fun e w' => e = .returned (.tuple #[.agg #[.int .i64 F.o, .int .u8 F.k, .int .u8 F.s, .int .u32 F.q, .int .u32 F.v], .bool r]) ∧ Below w.heap.size w w' := by
  have hq := h.alloc (.cells #[.int .i64 0, .int .u8 0, .int .u8 0, .int .u32 0, .int .u32 0] 42)
  have HX := Lib.hid hq
  have hN := Blk.new w 42 #[.int .i64 0, .int .u8 0, .int .u8 0, .int .u32 0, .int .u32 0]
  obtain ⟨c0, c1, c2, c3⟩ := hq.ca
  have hlt := hq.lt
  obtain ⟨d0, d1, d2, d3, d4, d5, d6⟩ := hq.cf_ hb
  have HB := Lib.hid hb
  have HBE := Lib.hid (below_al (Below.refl w.heap.size w) (.cells #[.int .i64 0, .int .u8 0, .int .u8 0, .int .u32 0, .int .u32 0] 42))
  have HZ := Lib.hid (show Ending.returned (.tuple #[.agg #[.int .i64 Fr.zero.o, .int .u8 Fr.zero.k, .int .u8 Fr.zero.s, .int .u32 Fr.zero.q, .int .u32 Fr.zero.v], .bool false]) = .returned (.tuple #[.agg #[.int .i64 0, .int .u8 0, .int .u8 0, .int .u32 0, .int .u32 0], .bool false]) from rfl)
  clear c0 c2 c3 hb
  by_cases e : 114 ≤ n
  · have hd : decide ((n : Int) < 114) = false := decide_eq_false (by omega)
    rw [decide_eq_true e, Bool.true_and] at hr
    have HT := Lib.hid (fun u => tgood_any p q u)
    rw [hr] at HT
    clear e h hq hr
    cases r with
    | false =>
      rw [if_neg (by decide)] at hF
      subst hF
      go_enter Try.func15, Try.ntmps15
      go_wp2_with (go_at_call 23; (with_reducible refine (HT.out _).mono ?_); rintro e w1 ⟨rfl, b1⟩; have hN1 := hN.on b1; have hlt1 := hN1.lt; have x0 := hN1.cell 0; have x1 := hN1.cell 1; have x2 := hN1.cell 2; have x3 := hN1.cell 3; have x4 := hN1.cell 4; have y0 := hN1.frozen 0; have y1 := hN1.frozen 1; have y2 := hN1.frozen 2; have y3 := hN1.frozen 3; have y4 := hN1.frozen 4; simp only [List.getElem?_toArray, List.getElem?_cons_zero, List.getElem?_cons_succ] at x0 x1 x2 x3 x4)
      refine bodyPost_ret (v := .tuple #[.agg #[.int .i64 0, .int .u8 0, .int .u8 0, .int .u32 0, .int .u32 0], .bool false]) (by simp [results, Try.results15, go_sem, x0, x1, x2, x3, x4]) rfl ⟨HZ.out.symm, ?_⟩
      exact below_five (below_then HBE.out b1) (Nat.le_refl _) _ _ _ _ _
    | true =>
      rw [if_pos rfl] at hF
      subst hF
      go_enter Try.func15, Try.ntmps15
      go_wp2_with (go_at_call 23; (with_reducible refine (HT.out _).mono ?_); rintro e w1 ⟨rfl, b1⟩; have hN1 := hN.on b1; have hlt1 := hN1.lt; have x0 := hN1.cell 0; have x1 := hN1.cell 1; have x2 := hN1.cell 2; have x3 := hN1.cell 3; have x4 := hN1.cell 4; have y0 := hN1.frozen 0; have y1 := hN1.frozen 1; have y2 := hN1.frozen 2; have y3 := hN1.frozen 3; have y4 := hN1.frozen 4; simp only [List.getElem?_toArray, List.getElem?_cons_zero, List.getElem?_cons_succ] at x0 x1 x2 x3 x4; have h1 := HX.out.on b1; obtain ⟨e0, e1, e2, e3, e4, e5, e6⟩ := h1.cf_ HB.out; have hlt2 := h1.lt)
      refine bodyPost_ret (v := .tuple #[.agg #[.int .i64 f.o, .int .u8 f.k, .int .u8 f.s, .int .u32 f.q, .int .u32 f.v], .bool true]) (by simp [results, Try.results15, go_sem, x0, x1, x2, x3, x4]) rfl ⟨rfl, ?_⟩
      exact below_five (below_then HBE.out b1) (Nat.le_refl _) _ _ _ _ _
  · have hd : decide ((n : Int) < 114) = true := decide_eq_true (by omega)
    rw [decide_eq_false e, Bool.false_and] at hr
    subst hr
    rw [if_neg (by decide)] at hF
    subst hF
    clear e h hq
    have hlt1 := hN.lt
    have x0 := hN.cell 0; have x1 := hN.cell 1; have x2 := hN.cell 2; have x3 := hN.cell 3; have x4 := hN.cell 4; have y0 := hN.frozen 0; have y1 := hN.frozen 1; have y2 := hN.frozen 2; have y3 := hN.frozen 3; have y4 := hN.frozen 4; simp only [List.getElem?_toArray, List.getElem?_cons_zero, List.getElem?_cons_succ] at x0 x1 x2 x3 x4
    go_enter Try.func15, Try.ntmps15
    go_wp2_with fail
    refine bodyPost_ret (v := .tuple #[.agg #[.int .i64 0, .int .u8 0, .int .u8 0, .int .u32 0, .int .u32 0], .bool false]) (by simp [results, Try.results15, go_sem, x0, x1, x2, x3, x4]) rfl ⟨HZ.out.symm, ?_⟩
    with_reducible exact HBE.out
end
theorem had_nil (w : World) : Calls Try.prog 14 #[.pointer none] w fun e w' => e = .returned (.int .i64 0) ∧ w = w' := by
  go_enter Try.func14, Try.ntmps14
  go_wp2_with fail
  go_ret
  exact ⟨rfl, rfl⟩
theorem unlike_nil (w : World) : Calls Try.prog 18 #[.pointer none] w fun e w' => e = .returned (.int .i64 (-1)) ∧ w = w' := by
  go_enter Try.func18, Try.ntmps18
  go_wp2_with fail
  go_ret
  exact ⟨rfl, rfl⟩
set_option maxRecDepth 100000 in
theorem high_nil (w : World) : Calls Try.prog 15 #[.pointer none] w fun e w' => e = .returned (.tuple #[.agg #[.int .i64 0, .int .u8 0, .int .u8 0, .int .u32 0, .int .u32 0], .bool false]) ∧ Below w.heap.size w w' := by
  have HBE := Lib.hid (below_al (Below.refl w.heap.size w) (.cells #[.int .i64 0, .int .u8 0, .int .u8 0, .int .u32 0, .int .u32 0] 42))
  go_enter Try.func15, Try.ntmps15
  go_wp2_with fail
  refine bodyPost_ret (v := .tuple #[.agg #[.int .i64 0, .int .u8 0, .int .u8 0, .int .u32 0, .int .u32 0], .bool false]) (by simp [results, Try.results15, go_sem]) rfl ⟨rfl, ?_⟩
  with_reducible exact HBE.out
set_option maxRecDepth 100000 in
theorem step_nil (a d : Int) (w : World) : Calls Try.prog 12 #[.pointer none, .int .u8 a, .int .u8 d] w fun e w' => e = .returned (.int .u8 0) ∧ w = w' := by
  go_enter Try.func12, Try.ntmps12
  go_wp2_with fail
  go_ret
  exact ⟨rfl, rfl⟩
theorem func_nil (w : World) : (binOp .eql 52 .nilFunc .nilFunc).run Try.prog w = .ok (.bool true) w := by kernel_rfl
theorem func_yes (F : FuncId) (a : Array Value) (w : World) : (binOp .eql 52 (.func (.func F) a #[]) .nilFunc).run Try.prog w = .ok (.bool false) w := by kernel_rfl
set_option maxRecDepth 100000 in
/-- A catch that has had all, or that no call made, takes nothing more. -/
theorem step_none {g : Nat} {n s : Nat} {k : Bool} {b : List Int} {f : Fr} {p q : Bool} {w : World} (a d : Int) (h : Blk w g 57 (catL .nilFunc n s k b f p q).toArray) :
    Calls Try.prog 12 #[.pointer (some ⟨g, 0, none⟩), .int .u8 a, .int .u8 d] w fun e w' => e = .returned (.int .u8 0) ∧ w = w' := by
  obtain ⟨c0, c1, c2, c3⟩ := h.ca
  have hlt := h.lt
  have hq := fun W => func_nil W
  clear h c1 c2 c3
  go_enter Try.func12, Try.ntmps12
  go_wp2_with fail
  go_ret
  exact ⟨rfl, rfl⟩
/-- The zero catch. -/
def catZ (v : Value) : List Value := catL v 0 0 false (List.replicate 112 0) Fr.zero false false
def firstV (o : Int) : Value := .func (.func 26) #[.int .i64 o] #[]
theorem zero_cat : Try.zeroCells57 = (catZ .nilFunc).toArray := by kernel_rfl
theorem zero_first (o : Int) : Try.zeroCells57.setIfInBounds 0 (.func (.func 26) #[.int .i64 o] #[]) = (catZ (firstV o)).toArray := by
  rw [zero_cat, List.setIfInBounds_toArray]
  rfl
theorem new_no (o : Int) (w : World) (h : o < 0 ∨ 8 ≤ o) : Calls Try.prog 9 #[.int .i64 o] w fun e w' => e = .returned (.tuple #[.pointer none, .int .i64 1]) ∧ w = w' := by
  rcases h with h | h
  all_goals
    go_enter Try.func9, Try.ntmps9
    go_wp2_with fail
    go_ret2
    exact ⟨rfl, rfl⟩
set_option maxRecDepth 100000 in
theorem new_yes (o : Int) (w : World) (h0 : 0 ≤ o) (h1 : o < 8) : Calls Try.prog 9 #[.int .i64 o] w fun e w' => e = .returned (.tuple #[.pointer (some ⟨w.heap.size, 0, none⟩), .int .i64 0]) ∧ Blk w' w.heap.size 57 (catZ (firstV o)).toArray ∧ Below w.heap.size w w' := by
  have HZ := Lib.hid (zero_first o)
  go_enter Try.func9, Try.ntmps9
  go_wp2_with fail
  go_ret2
  rw [HZ.out]
  exact ⟨rfl, Blk.new _ _ _, below_al (Below.refl _ _) _⟩

theorem bytesP_yes {xs : List Int} (h : bytesOk xs = true) : bytesP xs = bytesL xs := by simp [bytesP, h]
theorem bytesP_no {xs : List Int} (h : bytesOk xs = false) : bytesP xs = [] := by simp [bytesP, h]
theorem bytesOk_whole {xs : List Int} (h : bytesOk xs = true) : wholeL xs = true := by simp only [bytesOk, Bool.and_eq_true] at h; exact h.2
theorem bytesP_bd (xs : List Int) : ∀ x ∈ bytesP xs, 0 ≤ x ∧ x ≤ 255 := by
  cases h : bytesOk xs with
  | true => rw [bytesP_yes h]; exact bytesL_bd xs (bytesOk_whole h)
  | false => rw [bytesP_no h]; intro x hx; cases hx
theorem bytesP_len (xs : List Int) : (bytesP xs).length = if bytesOk xs = true then xs.length / 8 else 0 := by
  cases h : bytesOk xs with
  | true => rw [bytesP_yes h, bytesL_length]; rfl
  | false => rw [bytesP_no h]; rfl
theorem bytes_all (A : Option Addr) (n c : Nat) (xs : List Int) (w : World) (hx : Lies .u8 w w.heap.size A n xs) (hn : n ≤ 65536) (L : List Int) (hL : bytesP xs = L) (m : Nat) (hm : L.length = m) (r : Bool) (hr : bytesOk xs = r) :
    Calls Try.prog 36 #[.slice A n c] w fun e w' => ∃ A', e = .returned (.tuple #[.slice A' m m, .bool r]) ∧ Lies .u8 w' w'.heap.size A' m L ∧ Below w.heap.size w w' := by
  subst hL hm hr
  have hl := hx.len
  cases h : bytesOk xs with
  | true =>
    refine (bytes_yes A n c xs w hx hn h).mono fun e w' ⟨g, h1, h2, h3, h4⟩ => ?_
    have e1 : (bytesP xs).length = n / 8 := by rw [bytesP_yes h, bytesL_length, hl]
    rw [e1]
    refine ⟨_, h1, ?_, h4⟩
    rw [bytesP_yes h]
    exact h3.lies (by rw [bytesL_length, hl])
  | false =>
    refine (bytes_no A n c xs w hx hn h).mono fun e w' ⟨h1, h2⟩ => ?_
    subst h2
    rw [bytesP_no h]
    exact ⟨none, h1, Lies.nil_, Below.refl _ _⟩
set_option maxRecDepth 100000 in
set_option maxHeartbeats 4000000 in
theorem read_is (o : Int) (A : Option Addr) (c : Nat) (xs : List Int) (w : World) (hx : Lies .u8 w w.heap.size A 112 xs) (r : Bool) (hr : isB o xs = r) (F : Fr) (hF : (if r = true then getF (bytesP xs) else Fr.zero) = F) :
    Calls Try.prog 50 #[.int .i64 o, .slice A 112 c] w fun e w' => e = .returned (.tuple #[.agg #[.int .i64 F.o, .int .u8 F.k, .int .u8 F.s, .int .u32 F.q, .int .u32 F.v], .bool r]) ∧ Below w.heap.size w w' := by
  have hbd := bytesP_bd xs
  obtain ⟨L, hL⟩ : ∃ L, bytesP xs = L := ⟨_, rfl⟩
  obtain ⟨m, hm⟩ : ∃ m, L.length = m := ⟨_, rfl⟩
  rw [isB, hL] at hr
  rw [hL] at hbd hF
  have HBY := Lib.hid (bytes_all A 112 c xs _ (hx.al (.cells #[.int .i64 0, .int .u8 0, .int .u8 0, .int .u32 0, .int .u32 0] 42)) (by omega) L hL m hm _ rfl)
  obtain ⟨okb, hok⟩ : ∃ okb, bytesOk xs = okb := ⟨_, rfl⟩
  rw [hok] at HBY
  have HGT := Lib.hid (fun u B (hu : Lies .u8 u u.heap.size B m L) => frGet_any B m m L u hu hbd (Nat.le_refl _))
  obtain ⟨G, hG⟩ : ∃ G, getF L = G := ⟨_, rfl⟩
  obtain ⟨E, hE⟩ : ∃ E, getE L = E := ⟨_, rfl⟩
  rw [hG, hE] at HGT
  rw [hE, hG] at hr
  rw [hG] at hF
  have hN := Blk.new w 42 #[.int .i64 0, .int .u8 0, .int .u8 0, .int .u32 0, .int .u32 0]
  have HBE := Lib.hid (below_al (Below.refl w.heap.size w) (.cells #[.int .i64 0, .int .u8 0, .int .u8 0, .int .u32 0, .int .u32 0] 42))
  have HZ := Lib.hid (show Ending.returned (.tuple #[.agg #[.int .i64 Fr.zero.o, .int .u8 Fr.zero.k, .int .u8 Fr.zero.s, .int .u32 Fr.zero.q, .int .u32 Fr.zero.v], .bool false]) = .returned (.tuple #[.agg #[.int .i64 0, .int .u8 0, .int .u8 0, .int .u32 0, .int .u32 0], .bool false]) from rfl)
  clear hx hbd hL hm hG hE hok
  by_cases e0 : E = 0
  · subst e0
    by_cases e1 : G.o = o
    · have q1 : (G.o != o) = false := by simp [e1]
      have q2 : (G.o == o) = true := by simp [e1]
      rw [q2] at hr
      simp only [beq_self_eq_true, Bool.and_self] at hr
      subst hr
      rw [if_pos rfl] at hF
      subst hF
      clear e1 q2
      go_enter Try.func50, Try.ntmps50
      go_wp2_with (first
        | (go_at_call 36; with_reducible refine HBY.out.mono ?_; rintro e w1 ⟨A1, rfl, hl1, b1⟩)
        | (go_at_call 37; with_reducible refine (HGT.out _ _ hl1).mono ?_; rintro e w2 ⟨rfl, b2⟩; have hN1 := (hN.on b1).on b2; have hN2 := hN1.alloc (.cells #[.int .i64 G.o, .int .u8 G.k, .int .u8 G.s, .int .u32 G.q, .int .u32 G.v] 42); have hlt1 := hN1.lt; have x0 := hN1.cell 0; have x1 := hN1.cell 1; have x2 := hN1.cell 2; have x3 := hN1.cell 3; have x4 := hN1.cell 4; have y0 := hN1.frozen 0; have y1 := hN1.frozen 1; have y2 := hN1.frozen 2; have y3 := hN1.frozen 3; have y4 := hN1.frozen 4; simp only [List.getElem?_toArray, List.getElem?_cons_zero, List.getElem?_cons_succ] at x0 x1 x2 x3 x4; have b3 := below_then HBE.out (below_then b1 b2)))
      refine bodyPost_ret (v := .tuple #[.agg #[.int .i64 G.o, .int .u8 G.k, .int .u8 G.s, .int .u32 G.q, .int .u32 G.v], .bool true]) (by simp [results, Try.results50, go_sem, hlt1, x0, x1, x2, x3, x4]) rfl ⟨rfl, ?_⟩
      exact below_al (below_five b3 (Nat.le_refl _) _ _ _ _ _) _
    · have q1 : (G.o != o) = true := by simp [e1]
      have q2 : (G.o == o) = false := by simp [e1]
      rw [q2] at hr
      simp only [Bool.and_false] at hr
      subst hr
      rw [if_neg (by decide)] at hF
      subst hF
      clear e1 q2
      go_enter Try.func50, Try.ntmps50
      go_wp2_with (first
        | (go_at_call 36; with_reducible refine HBY.out.mono ?_; rintro e w1 ⟨A1, rfl, hl1, b1⟩)
        | (go_at_call 37; with_reducible refine (HGT.out _ _ hl1).mono ?_; rintro e w2 ⟨rfl, b2⟩; have hN1 := (hN.on b1).on b2; have hN2 := hN1.alloc (.cells #[.int .i64 G.o, .int .u8 G.k, .int .u8 G.s, .int .u32 G.q, .int .u32 G.v] 42); have hlt1 := hN1.lt; have x0 := hN1.cell 0; have x1 := hN1.cell 1; have x2 := hN1.cell 2; have x3 := hN1.cell 3; have x4 := hN1.cell 4; have y0 := hN1.frozen 0; have y1 := hN1.frozen 1; have y2 := hN1.frozen 2; have y3 := hN1.frozen 3; have y4 := hN1.frozen 4; simp only [List.getElem?_toArray, List.getElem?_cons_zero, List.getElem?_cons_succ] at x0 x1 x2 x3 x4; have b3 := below_then HBE.out (below_then b1 b2)))
      refine bodyPost_ret (v := .tuple #[.agg #[.int .i64 0, .int .u8 0, .int .u8 0, .int .u32 0, .int .u32 0], .bool false]) (by simp [results, Try.results50, go_sem, hlt1, x0, x1, x2, x3, x4]) rfl ⟨HZ.out.symm, ?_⟩
      exact below_al (below_five b3 (Nat.le_refl _) _ _ _ _ _) _
  · have q1 : (E != 0) = true := bne_iff_ne.2 e0
    have q2 : (E == 0) = false := beq_eq_false_iff_ne.2 e0
    rw [q2] at hr
    simp only [Bool.false_and] at hr
    subst hr
    rw [if_neg (by decide)] at hF
    subst hF
    clear e0 q2
    go_enter Try.func50, Try.ntmps50
    go_wp2_with (first
      | (go_at_call 36; with_reducible refine HBY.out.mono ?_; rintro e w1 ⟨A1, rfl, hl1, b1⟩)
      | (go_at_call 37; with_reducible refine (HGT.out _ _ hl1).mono ?_; rintro e w2 ⟨rfl, b2⟩; have hN1 := (hN.on b1).on b2; have hN2 := hN1.alloc (.cells #[.int .i64 G.o, .int .u8 G.k, .int .u8 G.s, .int .u32 G.q, .int .u32 G.v] 42); have hlt1 := hN1.lt; have x0 := hN1.cell 0; have x1 := hN1.cell 1; have x2 := hN1.cell 2; have x3 := hN1.cell 3; have x4 := hN1.cell 4; have y0 := hN1.frozen 0; have y1 := hN1.frozen 1; have y2 := hN1.frozen 2; have y3 := hN1.frozen 3; have y4 := hN1.frozen 4; simp only [List.getElem?_toArray, List.getElem?_cons_zero, List.getElem?_cons_succ] at x0 x1 x2 x3 x4; have b3 := below_then HBE.out (below_then b1 b2)))
    refine bodyPost_ret (v := .tuple #[.agg #[.int .i64 0, .int .u8 0, .int .u8 0, .int .u32 0, .int .u32 0], .bool false]) (by simp [results, Try.results50, go_sem, hlt1, x0, x1, x2, x3, x4]) rfl ⟨HZ.out.symm, ?_⟩
    exact below_al (below_five b3 (Nat.le_refl _) _ _ _ _ _) _
def secondV (o : Int) : Value := .func (.func 41) #[.int .i64 o] #[]
def thirdV (o : Int) : Value := .func (.func 51) #[.int .i64 o] #[]
theorem store_func (F : FuncId) (x : Array Value) (W : World) (a : Addr) : (store a (.func (.func F) x #[])).run Try.prog W = stored Try.prog W a (.func (.func F) x #[]) .plain := run_store Try.prog W a _ _ rfl
theorem store_nilf (W : World) (a : Addr) : (store a .nilFunc).run Try.prog W = stored Try.prog W a .nilFunc .plain := run_store Try.prog W a _ _ rfl
theorem idxBody {g m : Nat} (hm : m < 112) (w : World) : (Instr.indexAt 53 (.pointer (some ⟨g, 4, none⟩)) (.int .i64 (m : Int))).run Try.prog w = .ok (.pointer (some ⟨g, 4 + m, none⟩)) w := by
  rw [run_indexAt_array (h := by kernel_rfl), show Try.prog.arrayLen 53 = 112 by kernel_rfl, if_pos (by omega), show (sizeOf (Try.prog.elem 53)).run Try.prog w = .ok 1 w by kernel_rfl]
  simp [Result.andThen, Addr.add_lit]
section
variable {g : Nat} {v : Value} {m s : Nat} {k : Bool} {b : List Int} {f : Fr} {p q : Bool} {w : World}
set_option maxRecDepth 100000 in
set_option maxHeartbeats 4000000 in
theorem body_is (o a d : Int) (h : Blk w g 57 (catL v (m + 1 : Nat) s k b f p q).toArray) (hb : b.length = 112) (hm : m < 112) (z : Int) (hz : (if a = 0 then d else a) = z) (zz : Bool) (hzz : (z == 0) = zz) (kz : Bool) (hk : (k || zz) = kz) (v' : Value) (hv : (if m = 111 then secondV o else v) = v') (b' : List Int) (hb' : b.set m z = b') :
    Calls Try.prog 26 #[.int .i64 o, .pointer (some ⟨g, 0, none⟩), .int .u8 a, .int .u8 d] w fun e w' => e = .returned (.int .u8 z) ∧ Blk w' g 57 (catL v' (m + 1 : Nat) s kz b' f p q).toArray ∧ But g w w' := by
  obtain ⟨c0, c1, c2, c3⟩ := h.ca
  have cb := h.cb hb hm
  have hlt := h.lt
  have f0 := h.frozen 0
  have f3 := h.frozen 3
  have fb := h.frozen (4 + m)
  have hst := fun W A => store_func 41 #[.int .i64 o] W A
  have hix := fun W => idxBody (g := g) hm W
  have hw : IntKind.i64.wrap ((m : Int) + 1 - 1) = (m : Int) := by rw [show (m : Int) + 1 - 1 = m by omega]; exact IntWalk.i64_in _ (by omega)
  have hw' : IntKind.i64.wrap ((m : Int)) = (m : Int) := IntWalk.i64_in _ (by omega)
  rw [show ((m + 1 : Nat) : Int) = (m : Int) + 1 from rfl] at c1
  have HB := Lib.hid (fun kk => show Blk (((w.setCell ⟨g, 4 + m, none⟩ (.int .u8 z)).setCell ⟨g, 3, none⟩ (.bool kk))) g 57 (catL v (m + 1 : Nat) s kk b' f p q).toArray by
    have := (h.set_ (4 + m) (.int .u8 z)).set_ 3 (.bool kk)
    rw [← hb']
    simpa only [List.setIfInBounds_toArray, catL_setB hb m hm, catL_set3] using this)
  have HT := Lib.hid (fun kk => ((But.refl g w).set (4 + m) (.int .u8 z)).set 3 (.bool kk))
  by_cases h1 : m = 111
  · rw [if_pos h1] at hv
    subst hv
    have HB2 := Lib.hid (fun kk => show Blk ((((w.setCell ⟨g, 4 + m, none⟩ (.int .u8 z)).setCell ⟨g, 3, none⟩ (.bool kk))).setCell ⟨g, 0, none⟩ (secondV o)) g 57 (catL (secondV o) (m + 1 : Nat) s kk b' f p q).toArray by
      have := (HB.out kk).set_ 0 (secondV o)
      simpa only [List.setIfInBounds_toArray, catL_set0] using this)
    have HT2 := Lib.hid (fun kk => (HT.out kk).set 0 (secondV o))
    clear HB HT
    subst h1
    clear h c2 hm hb
    simp only [Nat.reduceAdd] at HB2 HT2
    simp only [Nat.reduceAdd] at cb hix fb
    rw [show ((111 : Nat) : Int) + 1 = 112 from rfl] at c1
    simp only [show ((111 : Nat) : Int) = 111 from rfl] at hix hw hw'
    by_cases h2 : a = 0
    · subst h2
      rw [if_pos rfl] at hz
      subst hz
      cases zz <;> cases k
      all_goals
        obtain rfl := hk
        go_enter Try.func26, Try.ntmps26
        go_wp2_with fail
        go_region
        all_goals (go_wp2_with fail)
        all_goals go_ret
        all_goals exact ⟨rfl, HB2.out _, (HT2.out _).drew⟩
    · rw [if_neg h2] at hz
      subst hz
      have hne2 : (a == 0) = false := beq_eq_false_iff_ne.2 h2
      rw [hne2] at hzz
      subst hzz
      cases k
      all_goals
        obtain rfl := hk
        go_enter Try.func26, Try.ntmps26
        go_wp2_with fail
        go_region
        all_goals (go_wp2_with fail)
        all_goals go_ret
        all_goals exact ⟨rfl, HB2.out _, (HT2.out _).drew⟩
  · rw [if_neg h1] at hv
    subst hv
    have hne : ((m : Int) + 1 == 112) = false := beq_eq_false_iff_ne.2 (by omega)
    clear h c0 c2 h1 hm hb
    by_cases h2 : a = 0
    · subst h2
      rw [if_pos rfl] at hz
      subst hz
      cases zz <;> cases k
      all_goals
        obtain rfl := hk
        go_enter Try.func26, Try.ntmps26
        go_wp2_with fail
        go_region
        all_goals (go_wp2_with fail)
        all_goals go_ret
        all_goals exact ⟨rfl, HB.out _, (HT.out _).drew⟩
    · rw [if_neg h2] at hz
      subst hz
      have hne2 : (a == 0) = false := beq_eq_false_iff_ne.2 h2
      rw [hne2] at hzz
      subst hzz
      cases k
      all_goals
        obtain rfl := hk
        go_enter Try.func26, Try.ntmps26
        go_wp2_with fail
        go_region
        all_goals (go_wp2_with fail)
        all_goals go_ret
        all_goals exact ⟨rfl, HB.out _, (HT.out _).drew⟩
end
end Go.Proofs.Ytpjcbfapkjipjaa

