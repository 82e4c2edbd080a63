/-
  The contracts of the reference's New, Set, Given, Here, End. Conditions: the reference's reading; fewer than 65536 ticks; numbers are of their kinds.
-/
import Derived.Test.YtgmoifbncijhdaaDoorWr8
namespace Go.Proofs.YtgmoifbncijhdaaDoor
open Go.RowKit Rg
set_option linter.unusedVariables false

theorem infoSt8 : (Tryd.prog.info? 36).map (fun i => (i.zero, i.size, i.bytes)) = some (some (.agg #[.int .i64 0, .bool false]), 2, 16) := by kernel_rfl
/-- make([]Sent, n). -/
theorem makeSt (k : Nat) (h1 : k ≤ 64) (u : World) :
    (Instr.makeSlice 66 (.int .i64 (k : Int)) (.int .i64 (k : Int))).run Tryd.prog u = .ok (.slice (some ⟨u.heap.size, 0, none⟩) k k) (u.alloc (.cells (gfC noneW k).toArray 36)) := by
  obtain ⟨i0, hi0, hz0, hz1, hz2⟩ := info_parts infoSt8
  have h := run_make (P := Tryd.prog) u 66 36 i0 _ Tryd.underlying66 hi0 hz0 .i64 .i64 (k : Int) (k : Int) (by omega) (Int.le_refl _) (by rw [hz2]; omega) (by omega)
  have e : madeCells (Value.agg #[.int .i64 0, .bool false]).cells (k * 2) = (gfC noneW k).toArray := by
    apply Array.toList_inj.1
    refine gfC_none (by simp [madeCells]) fun p hp => ?_
    simp only [madeCells, Value.cells, Array.toList_map, List.getElem?_map, Array.getElem?_toList, List.size_toArray, List.length_cons, List.length_nil, Nat.zero_add, Nat.reduceAdd]
    rw [Array.getElem?_range, if_pos hp, Option.map_some, two_at]
  rw [hz1] at h
  simpa [e] using h
theorem elemAll : Tryd.prog.underlying 44 = some (.slice (Tryd.prog.elem 44)) := by kernel_rfl
theorem sizeAll (w : World) : (sizeOf (Tryd.prog.elem 44)).run Tryd.prog w = .ok 1 w := by kernel_rfl
theorem idxAll (b n c : Nat) {k : Nat} (hk : k < n) (w : World) :
    (Instr.indexAt 44 (.slice (some ⟨b, 0, none⟩) n c) (.int .i64 (k : Int))).run Tryd.prog w = .ok (.pointer (some ⟨b, k, none⟩)) w := by
  rw [run_indexAt_slice (h := elemAll), if_pos (by omega), sizeAll]
  simp [Result.andThen, Addr.add_lit]
theorem elemSt : Tryd.prog.underlying 66 = some (.slice (Tryd.prog.elem 66)) := by kernel_rfl
theorem sizeSt (w : World) : (sizeOf (Tryd.prog.elem 66)).run Tryd.prog w = .ok 2 w := by kernel_rfl
theorem idxSt (b n c : Nat) {k : Nat} (hk : k < n) (w : World) :
    (Instr.indexAt 66 (.slice (some ⟨b, 0, none⟩) n c) (.int .i64 (k : Int))).run Tryd.prog w = .ok (.pointer (some ⟨b, k * 2, none⟩)) w := by
  rw [run_indexAt_slice (h := elemSt), if_pos (by omega), sizeSt]
  simp [Result.andThen, Addr.add_lit]
theorem refNew_no (n : Int) (hn : ¬ (4 ≤ n ∧ n ≤ 16)) (w : World) :
    Calls Tryd.prog 10 #[.int .i64 n] w fun e w' => e = .returned (.tuple #[.pointer none, .int .i64 1]) ∧ w = w' := by
  by_cases h1 : n < 4
  · clear hn
    go_enter Tryd.func10, Tryd.ntmps10
    go_wp2
    go_ret2
    exact ⟨rfl, rfl⟩
  · have h2 : 16 < n := by omega
    have h1' : 4 ≤ n := by omega
    clear hn h1
    go_enter Tryd.func10, Tryd.ntmps10
    go_wp2
    go_ret2
    exact ⟨rfl, rfl⟩
theorem refw_new (w : World) (n : Nat) (w' : World) (hw' : w' = ((w.alloc (.cells (gfC noneW (4 * n)).toArray 36)).alloc (.cells #[.slice (some ⟨w.heap.size, 0, none⟩) (4 * n) (4 * n)] 66)).alloc (.cells #[.int .i64 (n : Int), .slice (some ⟨w.heap.size + 1, 0, none⟩) 1 1] 46)) :
    RefW w' (w.heap.size + 1 + 1) w.heap.size n [w.heap.size] [noneW] (some ⟨w.heap.size + 1, 0, none⟩) 1 ∧ Below w.heap.size w w' := by
  subst hw'
  refine ⟨⟨by omega, ?_, rfl, ?_, fun i hi => ?_, fun i hi => ?_, fun i j h1 h2 => absurd h2 (by simp; omega)⟩, below_al (below_al (below_al (Below.refl _ _) _) _) _⟩
  · have := Blk.new ((w.alloc (.cells (gfC noneW (4 * n)).toArray 36)).alloc (.cells #[.slice (some ⟨w.heap.size, 0, none⟩) (4 * n) (4 * n)] 66)) 46 #[.int .i64 (n : Int), .slice (some ⟨w.heap.size + 1, 0, none⟩) 1 1]
    simp only [alloc_size] at this
    exact this
  · have := World.ownsRow_lit (base := w.heap.size) (e := 66) (size := 1) (w.alloc (.cells (gfC noneW (4 * n)).toArray 36)) #[.slice (some ⟨w.heap.size, 0, none⟩) (4 * n) (4 * n)] 1 (by simp) (by simp [maxLen]) rfl
    simp only [alloc_size] at this
    exact owns_on8 this fun g cs q => q.alloc _
  · have : i = 0 := by simp at hi; omega
    subst this
    exact Nat.le_refl _
  · have : i = 0 := by simp at hi; omega
    subst this
    exact ((Blk.new w 36 (gfC noneW (4 * n)).toArray).alloc _).alloc _
set_option maxRecDepth 100000 in
theorem refNew_is (n : Nat) (h1 : 4 ≤ n) (h2 : n ≤ 16) (w : World) :
    Calls Tryd.prog 10 #[.int .i64 (n : Int)] w fun e w' => ∃ g rb A c, e = .returned (.tuple #[.pointer (some ⟨g, 0, none⟩), .int .i64 0]) ∧ RefW w' g w.heap.size n rb [noneW] A c ∧ Below w.heap.size w w' := by
  have HQ := Lib.hid (refw_new w n)
  have HMK := Lib.hid (fun W => makeSt (4 * n) (by omega) W)
  obtain ⟨N, hN⟩ : ∃ N, N = 4 * n := ⟨_, rfl⟩
  have hw4 : IntKind.i64.wrap (4 * (n : Int)) = (N : Int) := by rw [IntWalk.i64_in _ (by omega)]; omega
  rw [← hN] at HQ HMK
  have hmk := HMK.out
  have hd1 : decide ((n : Int) < 4) = false := decide_eq_false (by omega)
  have hd2 : decide ((16 : Int) < (n : Int)) = false := decide_eq_false (by omega)
  have hd1' : decide (n < 4) = false := decide_eq_false (by omega)
  have hd2' : decide (16 < n) = false := decide_eq_false (by omega)
  clear HMK hN
  go_enter Tryd.func10, Tryd.ntmps10
  go_wp2_with fail
  go_ret2
  obtain ⟨q1, q2⟩ := HQ.out _ rfl
  exact ⟨_, _, _, _, rfl, q1, q2⟩
section
variable {w : World} {g base n : Nat} {rb : List Nat} {R : List (Nat → Option Int)} {A : Option Addr} {c : Nat}
set_option maxRecDepth 100000 in
theorem refSet_in (h : RefW w g base n rb R A c) (h1 : 4 ≤ n) (h2 : n ≤ 16) (hR0 : 0 < R.length) (hRl : R.length ≤ 65536) (k : Nat) (hk : k < 4 * n) (o : Option Int) :
    Calls Tryd.prog 12 #[.pointer (some ⟨g, 0, none⟩), .int .i64 (k : Int), .agg #[.int .i64 (o.getD 0), .bool o.isSome]] w fun e w' => e = .returned (.int .i64 0) ∧ RefW w' g base n rb (R.set (R.length - 1) (upd (R.getD (R.length - 1) noneW) k o)) A c ∧ Below base w w' ∧ KeptT 32 w w' := by
  have h1w := h.on ((Below.refl _ _).alloc (Nat.le_refl _) (.cells #[.int .i64 (o.getD 0), .bool o.isSome] 36))
  have hN := Blk.new w 36 #[.int .i64 (o.getD 0), .bool o.isSome]
  have e0 := hN.cell 0
  have e1 := hN.cell 1
  have hbu : Below w.heap.size w (w.alloc (.cells #[.int .i64 (o.getD 0), .bool o.isSome] 36)) := (Below.refl _ _).alloc (Nat.le_refl _) _
  have c0 := h1w.blk.cell 0
  have c1 := h1w.blk.cell 1
  have cl := h1w.blk.lt
  simp only [List.getElem?_toArray, List.getElem?_cons_zero, List.getElem?_cons_succ] at c0 c1 e0 e1
  obtain ⟨T, eT⟩ : ∃ T, T = R.length - 1 := ⟨_, rfl⟩
  have hT : R.length = T + 1 := by omega
  rw [← eT]
  obtain ⟨b, hA, hbl, hbc⟩ := h1w.at_ (j := T) (by omega)
  have hrow := h1w.rws T (by omega)
  obtain ⟨x0, x1⟩ := gfC_cellT hrow hk
  have f0 := hrow.frozen (k * 2)
  have f1 := hrow.frozen (k * 2 + 1)
  have rl := hrow.lt
  obtain ⟨N, hN4⟩ : ∃ N, N = 4 * n := ⟨_, rfl⟩
  have hw4 : IntKind.i64.wrap (4 * (n : Int)) = (N : Int) := by rw [IntWalk.i64_in _ (by omega)]; omega
  have hix1 := fun W => idxAll b (T + 1) c (k := T) (by omega) W
  have hix2 := fun W => idxSt (rb.getD T 0) N N (k := k) (by omega) W
  have hwT : IntKind.i64.wrap (((T + 1 : Nat) : Int) - 1) = (T : Int) := by rw [IntWalk.i64_in _ (by omega)]; omega
  have hwT2 : IntKind.i64.wrap ((T : Int) + 1 - 1) = (T : Int) := by rw [IntWalk.i64_in _ (by omega)]; omega
  have hwT3 : IntKind.i64.wrap (T : Int) = (T : Int) := IntWalk.i64_in _ (by omega)
  have hd1 : decide ((k : Int) < 0) = false := decide_eq_false (by omega)
  have hd2 : decide ((N : Int) ≤ (k : Int)) = false := decide_eq_false (by omega)
  have hd3 : decide (N ≤ k) = false := decide_eq_false (by omega)
  have HP := Lib.hid (fun u hu => h.put (j := T) (by omega) hk o u hu rfl)
  have HB := Lib.hid hbu
  subst hA
  rw [hT] at c1
  rw [← hN4] at hbc
  obtain ⟨r, er⟩ : ∃ r, r = rb.getD T 0 := ⟨_, rfl⟩
  rw [← er] at HP x0 x1 f0 f1 rl hix2 hbc
  clear h h1w hN hbu hrow er hN4 eT hR0 hRl hk h1 h2
  go_enter Tryd.func12, Tryd.ntmps12
  go_wp2_with fail
  go_region
  all_goals (go_wp2_with fail)
  all_goals go_ret
  all_goals (
    obtain ⟨q1, q2, q3⟩ := HP.out _ HB.out
    first | exact ⟨rfl, q1, q2, q3⟩ | exact ⟨rfl, q1.on (Below.refl _ _).drew, q2.drew, fun x cs q => q3 x cs q⟩)
set_option maxRecDepth 100000 in
theorem refSet_out (h : RefW w g base n rb R A c) (h1 : 4 ≤ n) (h2 : n ≤ 16) (k : Int) (hk : inB n k = false) (o : Option Int) :
    Calls Tryd.prog 12 #[.pointer (some ⟨g, 0, none⟩), .int .i64 k, .agg #[.int .i64 (o.getD 0), .bool o.isSome]] w fun e w' => e = .returned (.int .i64 1) ∧ Below w.heap.size w w' := by
  have h1w := h.on ((Below.refl _ _).alloc (Nat.le_refl _) (.cells #[.int .i64 (o.getD 0), .bool o.isSome] 36))
  have hbu : Below w.heap.size w (w.alloc (.cells #[.int .i64 (o.getD 0), .bool o.isSome] 36)) := (Below.refl _ _).alloc (Nat.le_refl _) _
  have c0 := h1w.blk.cell 0
  have cl := h1w.blk.lt
  simp only [List.getElem?_toArray, List.getElem?_cons_zero] at c0
  obtain ⟨N, hN4⟩ : ∃ N, N = 4 * n := ⟨_, rfl⟩
  have hw4 : IntKind.i64.wrap (4 * (n : Int)) = (N : Int) := by rw [IntWalk.i64_in _ (by omega)]; omega
  have HB := Lib.hid hbu
  have hkk := inB_no hk
  by_cases h0 : k < 0
  · have hd1 : decide (k < 0) = true := decide_eq_true h0
    clear h h1w hbu hk hN4 hkk h1 h2
    go_enter Tryd.func12, Tryd.ntmps12
    go_wp2_with fail
    go_ret
    exact ⟨rfl, HB.out⟩
  · have hd1 : decide (k < 0) = false := decide_eq_false h0
    have h3 : (N : Int) ≤ k := by omega
    have hd2 : decide ((N : Int) ≤ k) = true := decide_eq_true h3
    clear h h1w hbu hk hN4 hkk h0 h1 h2
    go_enter Tryd.func12, Tryd.ntmps12
    go_wp2_with fail
    go_ret
    exact ⟨rfl, HB.out⟩
theorem refSet_is (h : RefW w g base n rb R A c) (h1 : 4 ≤ n) (h2 : n ≤ 16) (hR0 : 0 < R.length) (hRl : R.length ≤ 65536) (k : Int) (o : Option Int) (r : Int) (hr : errW n k = r) (R' : List (Nat → Option Int)) (hR' : setR n R k o = R') :
    Calls Tryd.prog 12 #[.pointer (some ⟨g, 0, none⟩), .int .i64 k, .agg #[.int .i64 (o.getD 0), .bool o.isSome]] w fun e w' => e = .returned (.int .i64 r) ∧ RefW w' g base n rb R' A c ∧ Below base w w' ∧ KeptT 32 w w' := by
  subst hr hR'
  cases hk : inB n k with
  | true =>
    obtain ⟨j, rfl, hj⟩ := inB_nat hk
    have := refSet_in h h1 h2 hR0 hRl j hj o
    simpa only [errW, setR, gR, hk, if_true, Int.toNat_natCast] using this
  | false =>
    refine (refSet_out h h1 h2 k hk o).mono fun e w' ⟨q1, q2⟩ => ?_
    simp only [errW, setR, hk, Bool.false_eq_true, if_false]
    exact ⟨q1, h.on q2, q2.mono (Nat.le_trans h.lo (Nat.le_of_lt h.blk.lt)), KeptT.below q2⟩
set_option maxRecDepth 100000 in
theorem refGiven_is (h : RefW w g base n rb R A c) (h1 : 4 ≤ n) (h2 : n ≤ 16) (hR0 : 0 < R.length) (hRl : R.length ≤ 65536) (k : Int) (o : Option Int) (ho : givW n (gR R) k = o) :
    Calls Tryd.prog 19 #[.pointer (some ⟨g, 0, none⟩), .int .i64 k] w fun e w' => e = .returned (.tuple #[.int .i64 (o.getD 0), .bool o.isSome]) ∧ Below w.heap.size w w' := by
  have c0 := h.blk.cell 0
  have c1 := h.blk.cell 1
  have cl := h.blk.lt
  simp only [List.getElem?_toArray, List.getElem?_cons_zero, List.getElem?_cons_succ] at c0 c1
  obtain ⟨N, hN4⟩ : ∃ N, N = 4 * n := ⟨_, rfl⟩
  have hw4 : IntKind.i64.wrap (4 * (n : Int)) = (N : Int) := by rw [IntWalk.i64_in _ (by omega)]; omega
  cases hk : inB n k with
  | true =>
    obtain ⟨j, rfl, hj⟩ := inB_nat hk
    obtain ⟨T, eT⟩ : ∃ T, T = R.length - 1 := ⟨_, rfl⟩
    have hT : R.length = T + 1 := by omega
    obtain ⟨b, hA, hbl, hbc⟩ := h.at_ (j := T) (by omega)
    have hrow := h.rws T (by omega)
    obtain ⟨x0, x1⟩ := gfC_cellT hrow hj
    have rl := hrow.lt
    have eo : R.getD T noneW j = o := by rw [← ho, givW, hk, if_pos rfl, Int.toNat_natCast, gR, eT]
    rw [eo] at x0 x1
    have hix1 := fun W => idxAll b (T + 1) c (k := T) (by omega) W
    have hix2 := fun W => idxSt (rb.getD T 0) N N (k := j) (by omega) W
    have hwT : IntKind.i64.wrap (((T + 1 : Nat) : Int) - 1) = (T : Int) := by rw [IntWalk.i64_in _ (by omega)]; omega
    have hwT2 : IntKind.i64.wrap ((T : Int) + 1 - 1) = (T : Int) := by rw [IntWalk.i64_in _ (by omega)]; omega
    have hwT3 : IntKind.i64.wrap (T : Int) = (T : Int) := IntWalk.i64_in _ (by omega)
    have hd1 : decide ((j : Int) < 0) = false := decide_eq_false (by omega)
    have hd2 : decide ((N : Int) ≤ (j : Int)) = false := decide_eq_false (by omega)
    have hd3 : decide (N ≤ j) = false := decide_eq_false (by omega)
    have HB := Lib.hid (show Below w.heap.size w w from Below.refl _ _)
    subst hA
    rw [hT] at c1
    rw [← hN4] at hbc
    obtain ⟨r, er⟩ : ∃ r, r = rb.getD T 0 := ⟨_, rfl⟩
    rw [← er] at x0 x1 rl hix2 hbc
    clear h hrow er hN4 eT hR0 hRl hk hj ho eo h1 h2
    go_enter Tryd.func19, Tryd.ntmps19
    go_wp2_with fail
    go_region
    all_goals (go_wp2_with fail)
    all_goals go_region
    all_goals (go_wp2_with fail)
    all_goals (go_ret2; exact ⟨rfl, by first | exact below_al (Below.refl _ _) _ | exact (below_al (Below.refl _ _).drew _) | exact (below_al (Below.refl _ _).drew _).drew | exact (below_al (Below.refl _ _) _).drew | exact (below_al (Below.refl _ _) _).drew.drew⟩)
  | false =>
    have eo : o = none := by rw [← ho, givW, hk]; rfl
    subst eo
    have hkk := inB_no hk
    by_cases h0 : k < 0
    · have hd1 : decide (k < 0) = true := decide_eq_true h0
      clear h hk hN4 hkk ho h1 h2
      go_enter Tryd.func19, Tryd.ntmps19
      go_wp2_with fail
      go_ret2
      exact ⟨rfl, Below.refl _ _⟩
    · have hd1 : decide (k < 0) = false := decide_eq_false h0
      have h3 : (N : Int) ≤ k := by omega
      have hd2 : decide ((N : Int) ≤ k) = true := decide_eq_true h3
      clear h hk hN4 hkk h0 ho h1 h2
      go_enter Tryd.func19, Tryd.ntmps19
      go_wp2_with fail
      go_ret2
      exact ⟨rfl, Below.refl _ _⟩
end
end Go.Proofs.YtgmoifbncijhdaaDoor
