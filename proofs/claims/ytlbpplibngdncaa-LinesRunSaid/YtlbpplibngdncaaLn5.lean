/-
  The contracts of the reference's Way and Send. Conditions: the line's reading; fewer than 65536 ticks; the hop is 1 or 2; of a list that is sent: its reading.
-/
import Derived.Test.YtlbpplibngdncaaLn4
namespace Go.Proofs.Ytlbpplibngdncaa
open Go.RowKit
set_option linter.unusedVariables false

theorem infoSn : (Try.prog.info? 88).map (fun i => (i.zero, i.size, i.bytes)) = some (some (.agg #[.int .i64 0, .bool false]), 2, 16) := by kernel_rfl
theorem snCells_one : ∀ l : List (Option Int), ∀ v ∈ snCells l, v.oneCell' = true := by
  intro l v hv
  simp only [snCells, List.mem_flatMap] at hv
  obtain ⟨o, _, ho⟩ := hv
  simp only [List.mem_cons, List.not_mem_nil, or_false] at ho
  rcases ho with rfl | rfl <;> rfl
/-- append of one thing more onto all that was sent: what comes of it. -/
theorem run_append_sn (w : World) (base : Nat) (ty : TypeId) (A : Option Addr) (c : Nat) (l : List (Option Int)) (o : Option Int) (hown : w.ownsRow base 88 2 (.slice A l.length c) l.length (snCells l)) (b : Nat)
    (hB : Blk w b 88 #[.int .i64 (o.getD 0), .bool o.isSome]) (hl : l.length ≤ 65536) (hbase : base ≤ w.heap.size) :
    ∃ A' c' w', (Builtin.append_ #[45, 45] ty #[.slice A l.length c, .slice (some ⟨b, 0, none⟩) 1 1]).run Try.prog w = .ok (.slice A' (l.length + 1) c') w' ∧
      w'.ownsRow base 88 2 (.slice A' (l.length + 1) c') (l.length + 1) (snCells (l ++ [o])) ∧ w.grownBy w' (A.map (·.block)) := by
  obtain ⟨i, hi, hz, hs, hby⟩ := info_parts infoSn
  have hcells : ∀ j u, (snCells [o])[j]? = some u → w.cell? ((⟨b, 0, none⟩ : Addr).add j) = some u := by
    intro j u hu
    rw [Addr.add_lit, hB.cell, ← hu]
    simp [snCells]
  obtain ⟨v', w', hrun, h2, h3, _, h5⟩ := run_append_own_at (P := Try.prog) w base 45 ty 88 i _ 2 16 Try.underlying45 hi hz hs hby rfl (by decide) (.slice A l.length c) l.length _ hown ⟨b, 0, none⟩ 1 1 (snCells [o]) rfl hcells (snCells_one _) (by unfold maxLen; omega) (by omega) hbase
  rw [← snCells_append] at h2
  have h3' : w.grownBy w' (A.map (·.block)) := by
    have e : (Value.slice A l.length c).ownBlock = A.map (·.block) := by cases A <;> rfl
    rw [← e]; exact h3
  rcases h2.2 with ⟨_, h0⟩ | ⟨g, cap, cur, hv, _⟩
  · omega
  · subst hv
    exact ⟨_, _, w', hrun, h2, h3'⟩
/-- What a list that is sent makes of all that was sent. -/
def sendR (l : List (Option Int)) (n : Nat) (o : Option Int) : List (Option Int) := l ++ [o]
theorem refSend_many (g : Nat) (B : Option Addr) (n d : Nat) (w : World) (hn : 1 < n) :
    Calls Try.prog 19 #[.pointer (some ⟨g, 0, none⟩), .slice B n d] w fun e w' => e = .returned (.int .i64 1) ∧ Below w.heap.size w w' := by
  have hd : decide ((1 : Int) < (n : Int)) = true := decide_eq_true (by omega)
  go_enter Try.func19, Try.ntmps19
  go_wp2_with fail
  go_ret
  exact ⟨rfl, Below.refl _ _⟩
/-- Behind an append the line's own cell is written. -/
theorem refl_push {w u w' : World} {g base : Nat} {h : Int} {l : List (Option Int)} {A A' : Option Addr} {c c' : Nat} {o : Option Int} (H : RefL w g base h l A c) (hb : Below w.heap.size w u) (hr : w'.ownsRow base 88 2 (.slice A' (l.length + 1) c') (l.length + 1) (snCells (l ++ [o])))
    (hg : u.grownBy w' (A.map (·.block))) : RefL (w'.setCell ⟨g, 1, none⟩ (.slice A' (l.length + 1) c')) g base h (l ++ [o]) A' c' ∧ Blk w' g 47 #[.int .i64 h, .slice A l.length c] ∧ Below base w (w'.setCell ⟨g, 1, none⟩ (.slice A' (l.length + 1) c')) ∧ KeptBut w (w'.setCell ⟨g, 1, none⟩ (.slice A' (l.length + 1) c')) [47, 88] := by
  have H1 := H.on hb
  have hbl : Blk w' g 47 #[.int .i64 h, .slice A l.length c] := by
    refine (hg.block g H1.blk.lt fun e => ?_).trans H1.blk
    rcases H1.row.2 with ⟨hv, _⟩ | ⟨g', cap, cur, hv, _, hh, _⟩
    · injection hv with hA; subst hA; cases e
    · injection hv with hA
      subst hA
      have hB' : Blk u g' 88 cur := hh
      have : g' = g := by simpa using e.symm
      exact H1.blk.ne hB' (by decide) this.symm
  have hlo : ∀ x, A.map (·.block) = some x → base ≤ x := by
    intro x hx
    rcases H1.row.2 with ⟨hv, _⟩ | ⟨g', cap, cur, hv, hg', _⟩
    · injection hv with hA; subst hA; cases hx
    · injection hv with hA
      subst hA
      have : g' = x := by simpa using hx
      omega
  have hbase : base ≤ w.heap.size := Nat.le_trans H.lo (Nat.le_of_lt H.blk.lt)
  have hset := hbl.set_ 1 (.slice A' (l.length + 1) c')
  refine ⟨⟨H.lo, ?_, ?_⟩, hbl, ?_, ?_⟩
  · simpa using hset
  · rw [List.length_append]
    exact owns_on hr fun x cs q => q.far (p := ⟨g, 1, none⟩) (q.ne hbl (by decide)) _
  · have h1 : Below base w u := hb.mono hbase
    exact (h1.grown hg (Nat.le_trans hbase hb.size) hlo).setCell H.lo _
  · intro x t cs ht hB
    have hB1 := hB.on hb
    have hB2 : Blk w' x t cs := by
      refine (hg.block x hB1.lt fun e => ?_).trans hB1
      rcases H1.row.2 with ⟨hv, _⟩ | ⟨g', cap, cur, hv, _, hh, _⟩
      · injection hv with hA; subst hA; cases e
      · injection hv with hA
        subst hA
        have hB' : Blk u g' 88 cur := hh
        have : g' = x := by simpa using e.symm
        exact hB1.ne hB' (fun e => ht (by simp [e])) this.symm
    exact hB2.far (p := ⟨g, 1, none⟩) (hB2.ne hbl (fun e => ht (by simp [e]))) _
theorem wpList_append_sn {w : World} {ops : Array Oper} {rest : List Oper} {o : Oper} {a : Act} {Q : Exit → Act → World → Prop} (hgd : o.guard = none) (s x : Operand)
    (ho : o.op = .call { callee := .builtin .append, args := #[s, x], argTypes := #[45, 45] })
    (base : Nat) (A : Option Addr) (c : Nat) (l : List (Option Int)) (p : Option Int) (hs : a.eval s = .slice A l.length c) (hown : w.ownsRow base 88 2 (.slice A l.length c) l.length (snCells l)) (b : Nat)
    (hx : a.eval x = .slice (some ⟨b, 0, none⟩) 1 1) (hB : Blk w b 88 #[.int .i64 (p.getD 0), .bool p.isSome]) (hl : l.length ≤ 65536) (hbase : base ≤ w.heap.size)
    (h : ∀ A' c' w', w'.ownsRow base 88 2 (.slice A' (l.length + 1) c') (l.length + 1) (snCells (l ++ [p])) → w.grownBy w' (A.map (·.block)) → wpList Try.prog ops Q rest (a.put o.dst (.slice A' (l.length + 1) c')) w') : wpList Try.prog ops Q (o :: rest) a w := by
  obtain ⟨A', c', w', hrun, h2, h3⟩ := run_append_sn w base o.type A c l p hown b hB hl hbase
  refine wpList_plain hgd fun K hK => ?_
  unfold Oper.wp
  simp only [execOp, ho, resolve, invoke, builtin, Sem.run_bind, Sem.run_pure, Result.andThen_ok, List.map_toArray, List.map_cons, List.map_nil, hs, hx, hrun]
  exact hK _ _ (h A' c' w' h2 h3)
theorem step_append_sn {w : World} {ops : Array Oper} {o : Oper} {a : Act} {K : Act → World → Prop} {Q : Exit → Act → World → Prop} {E : Prop} (hgd : o.guard = none) (s x : Operand)
    (ho : o.op = .call { callee := .builtin .append, args := #[s, x], argTypes := #[45, 45] })
    (base : Nat) (A : Option Addr) (c : Nat) (l : List (Option Int)) (p : Option Int) (hs : a.eval s = .slice A l.length c) (hown : w.ownsRow base 88 2 (.slice A l.length c) l.length (snCells l)) (b : Nat)
    (hx : a.eval x = .slice (some ⟨b, 0, none⟩) 1 1) (hB : Blk w b 88 #[.int .i64 (p.getD 0), .bool p.isSome]) (hl : l.length ≤ 65536) (hbase : base ≤ w.heap.size)
    (h : ∀ A' c' w', w'.ownsRow base 88 2 (.slice A' (l.length + 1) c') (l.length + 1) (snCells (l ++ [p])) → w.grownBy w' (A.map (·.block)) → K (a.put o.dst (.slice A' (l.length + 1) c')) w') :
    if Region.wanted o (yielded ops a.tmps) = true then Oper.wp Try.prog o a w K Q else E := by
  have hw : Region.wanted o (yielded ops a.tmps) = true := by simp [Region.wanted, hgd]
  rw [if_pos hw]
  obtain ⟨A', c', w', hrun, h2, h3⟩ := run_append_sn w base o.type A c l p hown b hB hl hbase
  unfold Oper.wp
  simp only [execOp, ho, resolve, invoke, builtin, Sem.run_bind, Sem.run_pure, Result.andThen_ok, List.map_toArray, List.map_cons, List.map_nil, hs, hx, hrun]
  exact h A' c' w' h2 h3
theorem sn_new {w : World} {g base : Nat} {h : Int} {l : List (Option Int)} {A : Option Addr} {c : Nat} (H : RefL w g base h l A c) (o : Obj) : (w.alloc o).ownsRow base 88 2 (.slice A l.length c) l.length (snCells l) := owns_on H.row fun _ _ q => q.alloc o
set_option maxRecDepth 100000 in
theorem refSend_none (g base : Nat) (h : Int) (l : List (Option Int)) (A : Option Addr) (c : Nat) (B : Option Addr) (d : Nat) (w : World) (H : RefL w g base h l A c) (hl : l.length ≤ 65535) :
    Calls Try.prog 19 #[.pointer (some ⟨g, 0, none⟩), .slice B 0 d] w fun e w' => e = .returned (.int .i64 0) ∧ (∃ A' c', RefL w' g base h (l ++ [none]) A' c') ∧ Below base w w' ∧ KeptBut w w' [47, 88] := by
  have c0 := H.blk.cell 0
  have c1 := H.blk.cell 1
  have cl := H.blk.lt
  simp only [List.getElem?_toArray, List.getElem?_cons_zero, List.getElem?_cons_succ] at c0 c1
  have HR := Lib.hid H
  have HL := Lib.hid hl
  have HBS := Lib.hid (Nat.le_trans H.lo (Nat.le_of_lt H.blk.lt))
  have HOW := Lib.hid (sn_new H (.cells #[.int .i64 0, .bool false] 88))
  have HNB := Lib.hid (show Blk (w.alloc (.cells #[.int .i64 0, .bool false] 88)) w.heap.size 88 #[.int .i64 ((none : Option Int).getD 0), .bool (none : Option Int).isSome] from Blk.new w 88 #[.int .i64 0, .bool false])
  have HBS1 := Lib.hid (Nat.le_trans HBS.out (show w.heap.size ≤ (w.alloc (.cells #[.int .i64 0, .bool false] 88)).heap.size by simp))
  have HL1 := Lib.hid (show l.length ≤ 65536 by omega)
  clear H hl
  go_enter Try.func19, Try.ntmps19
  go_wp2_with (at_builtin; with_reducible refine wpList_append_sn rfl (.tmp 15) (.tmp 17) rfl base A c l none rfl HOW.out w.heap.size rfl HNB.out HL1.out HBS1.out ?_)
  intro A' c' w' hr hg
  obtain ⟨q1, q2, q3, q4⟩ := refl_push HR.out (below_al (Below.refl _ w) (.cells #[.int .i64 0, .bool false] 88)) hr hg
  have f1 := q2.frozen 1
  have x1 := q2.cell 1
  have xl := q2.lt
  simp only [List.getElem?_toArray, List.getElem?_cons_zero, List.getElem?_cons_succ] at x1
  have HQ := Lib.hid (And.intro q1 (And.intro q3 q4))
  clear q1 q2 q3 q4 hr hg
  go_wp2_with fail
  go_ret
  exact ⟨rfl, ⟨A', c', HQ.out.1⟩, HQ.out.2.1, HQ.out.2.2⟩
set_option maxRecDepth 100000 in
theorem refSend_one (g base : Nat) (h : Int) (l : List (Option Int)) (A : Option Addr) (c : Nat) (b o d : Nat) (x : Int) (w : World) (H : RefL w g base h l A c) (hl : l.length ≤ 65535) (hx : w.cell? ⟨b, o, none⟩ = some (.int .i64 x)) (hb : b < w.heap.size) :
    Calls Try.prog 19 #[.pointer (some ⟨g, 0, none⟩), .slice (some ⟨b, o, none⟩) 1 d] w fun e w' => e = .returned (.int .i64 0) ∧ (∃ A' c', RefL w' g base h (l ++ [some x]) A' c') ∧ Below base w w' ∧ KeptBut w w' [47, 88] := by
  have c0 := H.blk.cell 0
  have c1 := H.blk.cell 1
  have cl := H.blk.lt
  simp only [List.getElem?_toArray, List.getElem?_cons_zero, List.getElem?_cons_succ] at c0 c1
  have HR := Lib.hid H
  have HL := Lib.hid hl
  have HBS := Lib.hid (Nat.le_trans H.lo (Nat.le_of_lt H.blk.lt))
  have HOW := Lib.hid (show ((w.drew).alloc (.cells #[.int .i64 x, .bool true] 88)).ownsRow base 88 2 (.slice A l.length c) l.length (snCells l) from owns_on H.row fun _ _ q => Blk.alloc (w := w.drew) q _)
  have HNB := Lib.hid (show Blk ((w.drew).alloc (.cells #[.int .i64 x, .bool true] 88)) w.heap.size 88 #[.int .i64 ((some x).getD 0), .bool (some x).isSome] from Blk.new w.drew 88 #[.int .i64 x, .bool true])
  have HBS1 := Lib.hid (Nat.le_trans HBS.out (show w.heap.size ≤ ((w.drew).alloc (.cells #[.int .i64 x, .bool true] 88)).heap.size by simp))
  have HL1 := Lib.hid (show l.length ≤ 65536 by omega)
  have HD := Lib.hid (show Below w.heap.size w ((w.drew).alloc (.cells #[.int .i64 x, .bool true] 88)) from below_al (Below.refl _ _).drew _)
  clear H hl
  go_enter Try.func19, Try.ntmps19
  go_wp2_with fail
  go_region_law (refine step_append_sn rfl (.tmp 25) (.tmp 30) rfl base A c l (some x) (by simp [Act.eval]) HOW.out w.heap.size (by simp [Act.eval]) HNB.out HL1.out HBS1.out ?_; intro A' c' w' hr hg; obtain ⟨q1, q2, q3, q4⟩ := refl_push HR.out HD.out hr hg; have f1 := q2.frozen 1; have x1 := q2.cell 1; have xl := q2.lt; simp only [List.getElem?_toArray, List.getElem?_cons_zero, List.getElem?_cons_succ] at x1; have HQ := Lib.hid (And.intro q1 (And.intro q3 q4)); clear q1 q2 q3 q4 hr hg)
  all_goals (
    go_wp2_with fail
    go_ret
    exact ⟨rfl, ⟨A', c', HQ.out.1⟩, HQ.out.2.1, HQ.out.2.2⟩)
end Go.Proofs.Ytlbpplibngdncaa
