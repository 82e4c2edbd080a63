/-
  copy and append of lists of stations (three cells each), and what a list in memory of its own is. No condition but those that are named.
-/
import Derived.Test.YtkejpkcaojidaaaGreatDoorCf4
import Derived.Laws.CopyOwn
namespace Go.Proofs.YtkejpkcaojidaaaGreatDoor
set_option linter.unusedVariables false
set_option linter.unusedSimpArgs false
open Go.RowKit Rg

set_option maxHeartbeats 2000000 in
theorem rule6_any (c : Cf) (w : World) (h1 : 4 ≤ c.N) (h2 : c.N ≤ 16) :
    Calls Tryz.prog 72 #[.agg #[.int .i64 c.N, .slice c.pA c.pn c.pc, .slice c.sA c.sn c.sc, .int .i64 c.L, .slice c.bA c.bn c.bc, .slice c.tA c.tn c.tc, .int .i64 c.M, .int .i64 c.G, .int .i64 c.F]] w fun e w' => e = .returned (.int .i64 (wit (c.N + 116) 4096 c.L)) ∧ Below w.heap.size w w' := by
  go_enter Tryz.func72, Tryz.ntmps72
  go_wp2_with fail
  go_region_with (first
    | (go_at_call 73; (with_reducible refine (leastLong_any c.N _ h1 h2).mono ?_); rintro e w' ⟨rfl, rfl⟩)
    | (go_at_call 67; (with_reducible refine (within1d _ 4096 c.L _ _ _ (by simp)).mono ?_); rintro e w' ⟨rfl, rfl⟩))
  all_goals (go_wp2_with fail; go_ret; exact ⟨rfl, (below_al (below_al (Below.refl _ _) _) _).drew⟩)
end Go.Proofs.YtkejpkcaojidaaaGreatDoor

namespace Go.Proofs.YtkejpkcaojidaaaGreatDoor
open Go.RowKit Rg

/-- copy of a whole list, of elements of whatever size, into a row that was made for it. -/
theorem wpList_copy_whole {P : Program} {w : World} {ops : Array Oper} {rest : List Oper} {o : Oper} {a : Act} {Q : Exit → Act → World → Prop} (hgd : o.guard = none) (d s : Operand) (dT sT : TypeId)
    (ho : o.op = .call { callee := .builtin .copy, args := #[d, s], argTypes := #[dT, sT] }) (elem : TypeId) (hu : P.underlying dT = some (.slice elem)) (size : Nat) (hsz : (P.info? elem).map (·.size) = some size)
    (sp : Option Addr) (n dCap sCap g : Nat) (hd : a.eval d = .slice (some ⟨g, 0, none⟩) n dCap) (hs : a.eval s = .slice sp n sCap)
    (cur : Array Value) (t : TypeId) (hg : w.heap[g]? = some (.cells cur t (0, 0))) (cs : List Value) (hn : cs.length = n * size) (hcur : cur.size = n * size)
    (hsrc : 0 < cs.length → ∃ ad, sp = some ad ∧ ∀ j v, cs[j]? = some v → w.cell? (ad.add j) = some v) (h1 : ∀ v ∈ cs, v.oneCell' = true) (B : Nat) (w0 : World) (hb : Below B w0 w) (hBg : B ≤ g)
    (h : ∀ w', Hid (w'.heap[g]? = some (.cells cs.toArray t (0, 0))) → Below B w0 w' → wpList P ops Q rest (a.put o.dst (goInt n)) w') :
    wpList P ops Q (o :: rest) a w := by
  have hst := run_storeCells_at P g 0 t cs 0 cur w hg (by simp; omega) h1
  have hfull : (cur.toList.take (0 + 0) ++ cs ++ cur.toList.drop (0 + 0 + cs.length)).toArray = cs.toArray := by
    rw [List.drop_of_length_le (by simp; omega)]; simp
  rw [hfull] at hst
  refine wpList_plain hgd fun K hK => ?_
  cases hq : P.info? elem with
  | none => simp [hq] at hsz
  | some i =>
    have hi : i.size = size := by simpa [hq] using hsz
    by_cases h0 : cs.length = 0
    · obtain rfl : cs = [] := List.eq_nil_of_length_eq_zero h0
      have hz : n * i.size = 0 := by rw [hi]; simpa using hn.symm
      have hl : ∀ (x : Addr), (loadCells x 0).run P w = .ok #[] w := fun x => by simpa using run_loadCells_list (P := P) w x [] (by simp)
      unfold Oper.wp
      have hcur0 : cur = #[] := Array.eq_empty_of_size_eq_zero (by rw [hcur, ← hn]; rfl)
      cases sp with
      | none =>
        simp [execOp, ho, resolve, invoke, builtin, hd, hs, Builtin.copy_, run_underlying hu, Builtin.lenOf, Builtin.firstCells, sizeOf, typeInfo, hq, storeCells, Result.andThen]
        exact hK _ _ (h w (show _ = _ by rw [hg, hcur0]) hb)
      | some ad =>
        simp [execOp, ho, resolve, invoke, builtin, hd, hs, Builtin.copy_, run_underlying hu, Builtin.lenOf, Builtin.firstCells, sizeOf, typeInfo, hq, hz, hl, storeCells, Result.andThen]
        exact hK _ _ (h w (show _ = _ by rw [hg, hcur0]) hb)
    · obtain ⟨ad, rfl, hc⟩ := hsrc (by omega)
      have hl := run_loadCells_list (P := P) w ad cs hc
      rw [hn] at hl
      unfold Oper.wp
      simp [execOp, ho, resolve, invoke, builtin, hd, hs, Builtin.copy_, run_underlying hu, Builtin.lenOf, Builtin.firstCells, sizeOf, typeInfo, hq, hi, hl, hst, Result.andThen]
      exact hK _ _ (h _ (show _ = _ from setRow_heap w g _ _ t _ hg) (below_setRow hb hBg _))

/-- The cells of stations. -/
def stCells (ts : List (Int × Int × Int)) : List Value := ts.flatMap fun s => [.int .i64 s.1, .int .u32 s.2.1, .int .i64 s.2.2]
theorem stCells_len : ∀ ts : List (Int × Int × Int), (stCells ts).length = ts.length * 3 := by
  intro ts
  induction ts with
  | nil => rfl
  | cons s r ih => simp only [stCells, List.flatMap_cons, List.length_append, List.length_cons, List.length_nil] at ih ⊢; omega
theorem stCells_one : ∀ ts : List (Int × Int × Int), ∀ v ∈ stCells ts, v.oneCell' = true := by
  intro ts v hv
  obtain ⟨s, _, h⟩ := List.mem_flatMap.1 hv
  simp at h
  rcases h with rfl | rfl | rfl <;> rfl
theorem stCells_at : ∀ (ts : List (Int × Int × Int)) (j : Nat), j < ts.length → (stCells ts)[j * 3]? = some (.int .i64 (ts.getD j (0, 0, 0)).1) ∧ (stCells ts)[j * 3 + 1]? = some (.int .u32 (ts.getD j (0, 0, 0)).2.1) ∧ (stCells ts)[j * 3 + 2]? = some (.int .i64 (ts.getD j (0, 0, 0)).2.2) := by
  intro ts
  induction ts with
  | nil => intro j h; simp at h
  | cons s r ih =>
    intro j h
    cases j with
    | zero => simp [stCells]
    | succ j =>
      have := ih j (by simpa using h)
      have e : ∀ q, (stCells (s :: r))[(j + 1) * 3 + q]? = (stCells r)[j * 3 + q]? := fun q => by
        rw [show (j + 1) * 3 + q = j * 3 + q + 3 by omega]
        simp [stCells]
      refine ⟨?_, ?_, ?_⟩
      · have := e 0; simp only [Nat.add_zero] at this; rw [this]; simpa using (ih j (by simpa using h)).1
      · rw [e 1]; simpa using (ih j (by simpa using h)).2.1
      · rw [e 2]; simpa using (ih j (by simpa using h)).2.2
theorem LiesT.src {w : World} {B n : Nat} {A : Option Addr} {ts : List (Int × Int × Int)} (h : LiesT w B A n ts) :
    0 < (stCells ts).length → ∃ ad, A = some ad ∧ ∀ j v, (stCells ts)[j]? = some v → w.cell? (ad.add j) = some v := by
  intro h0
  have hl := h.len
  have hsl := stCells_len ts
  obtain ⟨b, off, e, _, hc⟩ := h.2 (by omega)
  refine ⟨_, e, fun j v hv => ?_⟩
  have hj : j < (stCells ts).length := (List.getElem?_eq_some_iff.1 hv).1
  have hq : j / 3 < ts.length := by omega
  obtain ⟨c0, c1, c2⟩ := hc (j / 3) (by omega)
  obtain ⟨s0, s1, s2⟩ := stCells_at ts (j / 3) hq
  rw [Addr.add_lit, ← hv]
  have hr : j % 3 = 0 ∨ j % 3 = 1 ∨ j % 3 = 2 := by omega
  rcases hr with hr | hr | hr
  · rw [show j = j / 3 * 3 by omega, c0.trans s0.symm]
  · rw [show j = j / 3 * 3 + 1 by omega, ← Nat.add_assoc, c1.trans s1.symm]
  · rw [show j = j / 3 * 3 + 2 by omega, ← Nat.add_assoc, c2.trans s2.symm]
theorem Blk.liesT {w : World} {g n : Nat} {t : TypeId} {ts : List (Int × Int × Int)} {cs : Array Value} (h : Blk w g t cs) (hcs : ∀ j, j < n * 3 → cs[j]? = (stCells ts)[j]?) (hn : ts.length = n) : LiesT w w.heap.size (some ⟨g, 0, none⟩) n ts :=
  ⟨hn, fun _ => ⟨g, 0, rfl, h.lt, fun j hj => by
    obtain ⟨s0, s1, s2⟩ := stCells_at ts j (by omega)
    refine ⟨?_, ?_, ?_⟩
    · rw [h.cell, Nat.zero_add, hcs _ (by omega), s0]
    · rw [h.cell, Nat.zero_add, hcs _ (by omega), s1]
    · rw [h.cell, Nat.zero_add, hcs _ (by omega), s2]⟩⟩

/-- A list in memory of its own, from block base on, without room behind. -/
def OwnN (w : World) (base : Nat) (A : Option Addr) (n : Nat) (xs : List Int) : Prop := xs.length = n ∧ (0 < n → ∃ g, A = some ⟨g, 0, none⟩ ∧ base ≤ g ∧ Blk w g 3 (cellsOf .i64 xs))
def OwnT (w : World) (base : Nat) (A : Option Addr) (n : Nat) (ts : List (Int × Int × Int)) : Prop := ts.length = n ∧ (0 < n → ∃ g, A = some ⟨g, 0, none⟩ ∧ base ≤ g ∧ Blk w g 131 (stCells ts).toArray)
section
variable {w w' : World} {base base' n : Nat} {A : Option Addr} {xs : List Int} {ts : List (Int × Int × Int)}
theorem OwnN.on (h : OwnN w base A n xs) (hb : Below w.heap.size w w') : OwnN w' base A n xs := ⟨h.1, fun hn => by
  obtain ⟨g, e, hg, hB⟩ := h.2 hn
  exact ⟨g, e, hg, hB.on hb⟩⟩
theorem OwnN.mono (h : OwnN w base A n xs) (hb : base' ≤ base) : OwnN w base' A n xs := ⟨h.1, fun hn => by
  obtain ⟨g, e, hg, hB⟩ := h.2 hn
  exact ⟨g, e, by omega, hB⟩⟩
theorem OwnN.lies (h : OwnN w base A n xs) : Lies .i64 w w.heap.size A n xs := ⟨h.1, fun hn => by
  obtain ⟨g, e, hg, hB⟩ := h.2 hn
  obtain ⟨b, off, e', hl⟩ := (hB.lies h.1).2 hn
  exact ⟨b, off, e.trans e', hl⟩⟩
theorem OwnT.on (h : OwnT w base A n ts) (hb : Below w.heap.size w w') : OwnT w' base A n ts := ⟨h.1, fun hn => by
  obtain ⟨g, e, hg, hB⟩ := h.2 hn
  exact ⟨g, e, hg, hB.on hb⟩⟩
theorem OwnT.mono (h : OwnT w base A n ts) (hb : base' ≤ base) : OwnT w base' A n ts := ⟨h.1, fun hn => by
  obtain ⟨g, e, hg, hB⟩ := h.2 hn
  exact ⟨g, e, by omega, hB⟩⟩
theorem OwnT.lies (h : OwnT w base A n ts) : LiesT w w.heap.size A n ts := ⟨h.1, fun hn => by
  obtain ⟨g, e, hg, hB⟩ := h.2 hn
  obtain ⟨b, off, e', hl⟩ := (hB.liesT (ts := ts) (n := n) (fun j _ => by simp) h.1).2 hn
  exact ⟨b, off, e.trans e', hl⟩⟩
end
theorem infoSts : (Tryz.prog.info? 131).map (fun i => (i.zero, i.size, i.bytes)) = some (some (.agg #[.int .i64 0, .int .u32 0, .int .i64 0]), 3, 24) := by kernel_rfl
theorem szSts : (Tryz.prog.info? 131).map (·.size) = some 3 := by kernel_rfl
theorem makeSts (n : Nat) (h1 : n ≤ 1073741824) (u : World) :
    (Instr.makeSlice 23 (.int .i64 (n : Int)) (.int .i64 (n : Int))).run Tryz.prog u = .ok (.slice (some ⟨u.heap.size, 0, none⟩) n n) (u.alloc (.cells (madeCells #[.int .i64 0, .int .u32 0, .int .i64 0] (n * 3)) 131)) := by
  obtain ⟨i0, hi0, hz0, hz1, hz2⟩ := info_parts infoSts
  have h := run_make (P := Tryz.prog) u 23 131 i0 (.agg #[.int .i64 0, .int .u32 0, .int .i64 0]) Tryz.underlying23 hi0 hz0 .i64 .i64 (n : Int) (n : Int) (by omega) (Int.le_refl _) (by rw [hz2]; omega) (by omega)
  simpa [hz1, Value.cells] using h
end Go.Proofs.YtkejpkcaojidaaaGreatDoor

