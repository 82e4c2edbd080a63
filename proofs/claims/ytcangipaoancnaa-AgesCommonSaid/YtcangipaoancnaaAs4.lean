/-
  Package ages: the ages that a vector has, as an iterator. Conditions: the vector's reading.
-/
import Derived.Test.YtcangipaoancnaaAs3
import Derived.Test.YtcangipaoancnaaWd4
import Derived.Test.YtcangipaoancnaaTkP
namespace Go.Proofs.Ytcangipaoancnaa
open Go.RowKit
set_option linter.unusedVariables false
set_option linter.unusedSimpArgs false
attribute [local go_sem] Oper.semAt_some

section
variable {F : Fence} {n : Nat} {P : Program} {ops : Array Oper} {rest : List Oper} {op : Oper} {a : Act} {w : World} {Q : Exit → Act → World → Prop}
/-- A value of many cells is read, inside a fence. -/
theorem wpListIn_load_mid (hgd : op.guard = none) (ty : TypeId) (x : Operand) (ho : op.op = .load ty x) (b o : Nat) (hx : a.eval x = .pointer (some ⟨b, o, none⟩)) (cs : List Value) (d : TypeDesc) (hc : w.rangeAt b o cs)
    (hu : P.underlying ty = some d) (hd : d.isRow = true) (hi : (P.info? ty).map (·.size) = some cs.length) (h : wpListIn F n P ops Q rest (a.put op.dst (.agg cs.toArray)) w) : wpListIn F n P ops Q (op :: rest) a w := by
  refine wpListIn_plain hgd fun K hK' => ?_
  have hrun := run_loadAt_mid (P := P) w b o ty cs d hc hu hd hi
  unfold Oper.wpIn
  refine ⟨by simp [Oper.about, ho], ?_⟩
  rw [Oper.semAt_plain F _ _ (by rw [ho]; intro c hc'; cases hc')]
  simp [execOp, ho, hx, hrun, Result.andThen]
  exact hK' _ _ h
/-- A value of many cells is written, inside a fence. -/
theorem wpListIn_store_pin {g O : Nat} {T : TypeId} {A Z L : List Value} (hgd : op.guard = none) (ty : TypeId) (x y : Operand) (ho : op.op = .store ty x y) (h : PIn w g O T A Z L) (M : List Value) (hx : a.eval x = .pointer (some ⟨g, O, none⟩)) (hy : a.eval y = .agg M.toArray) (m : Nat) (hi : (P.info? ty).map (·.size) = some m) (hn : L.length = m) (hm : M.length = m) (h1 : ∀ v ∈ M, v.oneCell' = true)
    (k : ∀ w', PIn w' g O T A Z M → But g w w' → wpListIn F n P ops Q rest (a.put op.dst undef) w') : wpListIn F n P ops Q (op :: rest) a w := by
  refine wpListIn_plain hgd fun K hK' => ?_
  have hrun := run_storeAt_mid (P := P) w g O ty M.toArray (fun j hj => by
    have hj' : j < L.length := by simp at hj; omega
    exact ⟨by rw [h.cell j hj', List.getElem?_eq_getElem hj']; rfl, h.frozen _⟩) (by rw [hi]; simp [hm]) (all_oneCell_toArray h1)
  obtain ⟨p1, p2⟩ := h.put M (by omega)
  unfold Oper.wpIn
  refine ⟨by simp [Oper.about, ho], ?_⟩
  rw [Oper.semAt_plain F _ _ (by rw [ho]; intro c hc'; cases hc')]
  simp [execOp, ho, hx, hy, hrun, Result.andThen]
  exact hK' _ _ (k _ p1 p2)
end
theorem wpIn_atS {F : Fence} {n : Nat} {P : Program} {C : Code} {Q : Exit → Act → World → Prop} {a : Act} {W : World} (S : World → Prop) (h : S W) (k : ∀ U, S U → Code.wpIn F n P C Q a U) : Code.wpIn F n P C Q a W := k W h
/-- The ages that the first k entries have. -/
def agesOf (T : Nat → He) : Nat → List Int
  | 0 => []
  | k + 1 => agesOf T k ++ (if (T k).i = true ∧ agB (T k).c.a = true then [(T k).c.a] else [])
theorem agesOf_pre (T : Nat → He) (k : Nat) : ∀ d, agesOf T k <+: agesOf T (k + d)
  | 0 => List.prefix_refl _
  | d + 1 => (agesOf_pre T k d).trans (List.prefix_append _ _)
theorem agesOf_len (T : Nat → He) : ∀ k, (agesOf T k).length ≤ k
  | 0 => Nat.le_refl _
  | k + 1 => by
    have := agesOf_len T k
    unfold agesOf
    rw [List.length_append]
    split <;> simp <;> omega
set_option maxRecDepth 100000 in
theorem elemVec : Try.prog.underlying 170 = some (.slice 102) := by kernel_rfl
set_option maxRecDepth 100000 in
theorem idxVec {A : Option Addr} {n : Nat} (c : Nat) {k b off : Nat} (hA : A = some ⟨b, off, none⟩) (hk : k < n) (w : World) :
    (Instr.indexAt 170 (.slice A n c) (.int .i64 (k : Int))).run Try.prog w = .ok (.pointer (some ⟨b, off + k * 56, none⟩)) w := by
  subst hA
  rw [run_indexAt_slice (h := elemVec), if_pos (by omega), show Try.prog.elem 170 = 102 by kernel_rfl, show (sizeOf 102).run Try.prog w = .ok 56 w by kernel_rfl]
  simp [Result.andThen, Addr.add_lit]
set_option maxRecDepth 100000 in
set_option maxHeartbeats 4000000 in
theorem ages_seq (n : Nat) (hn : 2 ≤ n) (A : Option Addr) (m c : Nat) (hm : m ≤ 65536) (T : Nat → He) (w : World) (hT : LiesH w w.heap.size A m T) :
    Seq64 Fence.wide n 71 #[.slice A m c] (agesOf T m) w := by
  intro l J W hW hJ hY h0
  have h1n : 1 ≤ n := by omega
  refine callsIn_of_wp Try.func71 rfl trivial ?_ rfl
  simp only [Try.ntmps71, List.size_toArray, List.length_cons, List.length_nil, Nat.reduceAdd, Nat.reduceSub, Array.replicate_succ, Array.replicate_zero, List.push_toArray, List.append_toArray, List.nil_append, List.cons_append]
  gi_upto_region 1 with fail
  have HJ0 := Lib.hid h0
  have HW := Lib.hid hW
  have HT := Lib.hid hT
  have HJ := Lib.hid hJ
  have HY := Lib.hid hY
  have HZN : Hid (∀ (u : World) (Z : Array Value), Z.size = 56 → PIn (u.alloc (.cells Z 102)) u.heap.size 0 102 [] [] Z.toList ∧ Z.toList.length = 56) := Lib.hid (fun u Z hZ => ⟨Blk.pin (by simpa using Blk.new u 102 Z), by simpa using hZ⟩)
  clear h0 hW hT hJ hY
  gi_loopw [8, 5] (fun i p wr => ∃ k : Nat, k ≤ m ∧ i = .int .i64 (k : Int) ∧ Hid (J (agesOf T k) wr) ∧ Hid (Below w.heap.size w wr)) (fun i _ _ => m - (intOf i).toNat)
  case atStart => exact ⟨0, Nat.zero_le _, rfl, HJ0, HW⟩
  case round =>
    clear HJ0 HW
    obtain ⟨k, hk, rfl, HJK, HB⟩ := hrel
    by_cases hlt : k < m
    · have hkd : decide ((k : Int) < (m : Int)) = true := decide_eq_true (by omega)
      obtain ⟨g, o, rfl, lg, hc⟩ := HT.out (by omega)
      obtain ⟨Y, hYY⟩ : ∃ Y, Y = T k := ⟨_, rfl⟩
      have HRG : Hid (wr.rangeAt g (o + k * 56) (heL Y)) := Lib.hid (fun j v hv => (HB.out.cell (p := ⟨g, _, none⟩) lg).trans (hc k hlt j v (by rw [← hYY]; exact hv)))
      have hix := fun W => idxVec (A := some ⟨g, o, none⟩) (n := m) c rfl hlt W
      have HYE := Lib.hid hYY
      clear hc hYY
      gi_upto_region 3 with (first
        | (refine wpListIn_load_mid rfl 102 (.tmp 10) rfl g (o + k * 56) (by simp [Act.eval, Act.put]) (heL Y) _ HRG.out Try.underlying102 rfl (by rw [size_he, heL_len]) ?_)
        | (refine wpListIn_store_pin rfl 102 (.tmp 5) (.tmp 11) rfl (HZN.out wr _ rfl).1 (heL Y) (by simp [Act.eval, Act.put]) (by simp [Act.eval, Act.put]) 56 size_he (HZN.out wr _ rfl).2 (heL_len _) (heL_one _) ?_; intro w8 p8 b8; have HP8 := Lib.hid p8; have HB8 := Lib.hid (below_al (Below.refl wr.heap.size wr) (.cells _ 102) |>.trans (b8.low (Nat.le_refl _))); clear p8 b8))
      refine wpIn_atS (fun V => V.cell? ⟨wr.heap.size, 0, none⟩ = some (.bool Y.i) ∧ V.cell? ⟨wr.heap.size, 1, none⟩ = some (.int .i64 Y.c.a) ∧ wr.heap.size < V.heap.size ∧ Below wr.heap.size wr V) ⟨by have := HP8.out.cell 0 (by rw [heL_len]; decide); simpa [heL] using this, by have := HP8.out.cell 1 (by rw [heL_len]; decide); simpa [heL, ceL] using this, HP8.out.lt, HB8.out⟩ ?_
      clear HP8 HB8 HRG HZN hix
      obtain ⟨gH, hgH⟩ : ∃ g, g = wr.heap.size := ⟨_, rfl⟩
      have HGH := Lib.hid hgH
      rintro V ⟨v0, v1, v2, v3⟩
      rw [← hgH] at v0 v1 v2 ⊢
      clear hgH
      have HV3 := Lib.hid v3
      obtain ⟨y, hy⟩ : ∃ y, y = Y.i := ⟨_, rfl⟩
      obtain ⟨x, hx⟩ : ∃ x, x = Y.c.a := ⟨_, rfl⟩
      obtain ⟨b, hb⟩ : ∃ b, b = agB x := ⟨_, rfl⟩
      rw [← hy] at v0
      rw [← hx] at v1
      have HNX : Hid (agesOf T (k + 1) = agesOf T k ++ (if y = true ∧ b = true then [x] else [])) := Lib.hid (by rw [hy, hb, hx, HYE.out]; rfl)
      have HIA : Hid (∀ u, Calls Try.prog 92 #[.int .i64 x] u fun e w' => e = .returned (.bool b) ∧ u = w') := Lib.hid (fun u => by rw [hb]; exact isAge_is x u)
      have HJV := Lib.hid (HJ.out _ _ _ HJK.out v3)
      have HBV := Lib.hid (below_then HB.out v3)
      have HPX : Hid (agesOf T (k + 1) <+: agesOf T m) := Lib.hid (by have := agesOf_pre T (k + 1) (m - (k + 1)); rwa [show k + 1 + (m - (k + 1)) = m by omega] at this)
      clear v3 hy hx hb HYE HJK HB HGH HV3
      have hw1 : IntKind.i64.wrap ((k : Int) + 1) = ((k + 1 : Nat) : Int) := by rw [IntWalk.i64_in _ (by omega)]; omega
      cases y with
      | false =>
        gi_wp2
        refine ⟨trivial, ?_⟩
        gi_wp2
        refine ⟨fun _ h => (by cases h), ?_⟩
        gi_wp2
        go_roundw
        case rel => exact ⟨k + 1, by omega, by simp, Lib.hid (by rw [HNX.out]; simpa using HJV.out), HBV⟩
        case measure => simp [intOf]; omega
      | true =>
        cases b with
        | false =>
          gi_wp2_with (refine ⟨trivial, ?_⟩; gi_at_call 92; refine (callsIn_wide.2 (HIA.out _)).mono ?_; rintro e u2 ⟨rfl, rfl⟩)
          refine ⟨fun _ h => (by cases h), ?_⟩
          gi_wp2
          go_roundw
          case rel => exact ⟨k + 1, by omega, by simp, Lib.hid (by rw [HNX.out]; simpa using HJV.out), HBV⟩
          case measure => simp [intOf]; omega
        | true =>
          obtain ⟨fn, tmps, assign, body, hy, hR⟩ := HY.out (agesOf T k) x V HJV.out (by have := HPX.out; rw [HNX.out] at this; simpa using this)
          gi_wp2_with (refine ⟨trivial, ?_⟩; gi_at_call 92; refine (callsIn_wide.2 (HIA.out _)).mono ?_; rintro e u2 ⟨rfl, rfl⟩)
          refine hR.mono ?_
          rintro e W3 ⟨rfl, hJ3, hb3⟩
          gi_wp2
          go_roundw
          case rel => exact ⟨k + 1, by omega, by simp, Lib.hid (by rw [HNX.out]; simpa using hJ3), Lib.hid (HBV.out.trans hb3)⟩
          case measure => simp [intOf]; omega
    · obtain rfl : k = m := by omega
      gi_wp2
      go_end0
      exact ⟨⟨_, rfl⟩, HJK.out⟩
end Go.Proofs.Ytcangipaoancnaa

