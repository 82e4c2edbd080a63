/-
  The contracts of the law's TwinConfig and LeftConfig: a twin is the same config in new memory with marks behind its lists; LeftConfig returns true of a twin that is as it was. Conditions: the config's reading.
-/
import Derived.Test.YtibniadebbgjcaaDoorCfS
namespace Go.Proofs.YtibniadebbgjcaaDoor
open Go.RowKit Rg

/-- append of stations onto a row of the call's own. -/
theorem wpList_append_sts {P : Program} {w : World} {ops : Array Oper} {rest : List Oper} {o : Oper} {a : Act} {Q : Exit → Act → World → Prop} (hgd : o.guard = none) (s x : Operand) (t : TypeId)
    (ho : o.op = .call { callee := .builtin .append, args := #[s, x], argTypes := #[t, t] })
    (base : Nat) (e : TypeId) (i : TypeInfo) (z : Value) (bytes : Nat) (ht : P.underlying t = some (.slice e)) (hi : P.info? e = some i) (hz : i.zero = some z)
    (hsize : i.size = 3) (hby : i.bytes = bytes) (hzs : z.cells.size = 3)
    (v : Value) (n : Nat) (xs : List (Int × Int × Int)) (hs : a.eval s = v) (hown : w.ownsRow base e 3 v n (stCells xs))
    (A : Option Addr) (m c : Nat) (ys : List (Int × Int × Int)) (hx : a.eval x = .slice A m c) (hr : LiesT w w.heap.size A m ys) (N : Nat) (hN : n + m = N) (h63 : N ≤ maxLen) (hbytes : N * bytes ≤ 140737488355328) (hbase : base ≤ w.heap.size)
    (h : ∀ A' c' w', w'.ownsRow base e 3 (.slice A' N c') N (stCells (xs ++ ys)) → w.grownBy w' v.ownBlock →
      ((Value.slice A' N c').ownBlock = v.ownBlock ∨ (Value.slice A' N c').ownBlock = some w.heap.size) → wpList P ops Q rest (a.put o.dst (.slice A' N c')) w') : wpList P ops Q (o :: rest) a w := by
  subst hN
  have hl := hr.len
  have key : ∃ A' c' w', (Builtin.append_ #[t, t] o.type #[v, .slice A m c]).run P w = .ok (.slice A' (n + m) c') w' ∧ w'.ownsRow base e 3 (.slice A' (n + m) c') (n + m) (stCells (xs ++ ys)) ∧ w.grownBy w' v.ownBlock ∧
      ((Value.slice A' (n + m) c').ownBlock = v.ownBlock ∨ (Value.slice A' (n + m) c').ownBlock = some w.heap.size) := by
    cases A with
    | none =>
      obtain ⟨rfl, rfl⟩ := hr.none0
      have hrun : (Builtin.append_ #[t, t] o.type #[v, .slice none 0 c]).run P w = .ok v w := by
        rcases hown.2 with ⟨rfl, rfl⟩ | ⟨g, cap, cur, rfl, _, _, hnc, _⟩
        · simp [Builtin.append_, run_underlying ht, sizeOf, typeInfo, hi, Builtin.lenOf, Builtin.firstCells]
        · simp [Builtin.append_, run_underlying ht, sizeOf, typeInfo, hi, Builtin.lenOf, Builtin.firstCells, hnc, storeCells]
      rcases hown.2 with ⟨hv, h0⟩ | ⟨g, cap, cur, hv, _⟩
      · subst h0
        subst hv
        exact ⟨none, 0, w, hrun, by simpa using hown, World.grownBy.refl _ _, .inl rfl⟩
      · subst hv
        exact ⟨some ⟨g, 0, none⟩, cap, w, hrun, by simpa using hown, World.grownBy.refl _ _, .inl rfl⟩
    | some ad =>
      have hcells : ∀ j u, (stCells ys)[j]? = some u → w.cell? (ad.add j) = some u := by
        intro j u hu
        have h0 : 0 < (stCells ys).length := by
          have := (List.getElem?_eq_some_iff.1 hu).1
          omega
        obtain ⟨ad', e', hc⟩ := hr.src h0
        injection e' with e'
        subst e'
        exact hc j u hu
      obtain ⟨v', w', hrun, h2, h3, _, h5⟩ := run_append_own_at (P := P) w base t o.type e i z 3 bytes ht hi hz hsize hby hzs (by decide) v n _ hown ad m c (stCells ys) (by rw [stCells_len, hl]) hcells (stCells_one _) h63 hbytes hbase
      rw [← stCells_append] at h2
      rcases h2.2 with ⟨hv, h0⟩ | ⟨g, cap, cur, hv, _⟩
      · subst hv
        rw [h0] at h2 ⊢
        exact ⟨none, 0, w', hrun, h2, h3, h5⟩
      · subst hv
        exact ⟨some ⟨g, 0, none⟩, cap, w', hrun, h2, h3, h5⟩
  obtain ⟨A', c', w', hrun, h2, h3, h4⟩ := key
  refine wpList_plain hgd fun K hK => ?_
  unfold Oper.wp
  simp only [execOp, ho, resolve, invoke, builtin, Sem.run_bind, Sem.run_pure, Result.andThen_ok, List.map_toArray, List.map_cons, List.map_nil, hs, hx, hrun]
  exact hK _ _ (h A' c' w' h2 h3 h4)

theorem ownsT_none {w : World} {base : Nat} {e : TypeId} : w.ownsRow base e 3 (.slice none 0 0) 0 (stCells []) := ⟨rfl, .inl ⟨rfl, rfl⟩⟩
/-- A twin of stations: one mark behind them, in a block of their own. -/
def TwinT (w : World) (g n c : Nat) (ts : List (Int × Int × Int)) : Prop :=
  ts.length = n ∧ n + 1 ≤ c ∧ c ≤ maxLen ∧ ∃ cs : Array Value, Blk w g 51 cs ∧ cs.size = c * 3 ∧ ∀ j, j < (n + 1) * 3 → cs[j]? = (stCells (ts ++ [(77, 0, 0)]))[j]?
section
variable {w w' : World} {g n c : Nat} {ts : List (Int × Int × Int)}
theorem TwinT.on (h : TwinT w g n c ts) (hb : Below w.heap.size w w') : TwinT w' g n c ts := by
  obtain ⟨h1, h2, h3, cs, h4, h5⟩ := h
  exact ⟨h1, h2, h3, cs, h4.on hb, h5⟩
theorem TwinT.far (h : TwinT w g n c ts) {p : Addr} (hp : p.block < g) (u : Value) : TwinT (w.setCell p u) g n c ts := by
  obtain ⟨h1, h2, h3, cs, h4, h5⟩ := h
  exact ⟨h1, h2, h3, cs, h4.far_ (by omega) u, h5⟩
theorem TwinT.lies (h : TwinT w g n c ts) : LiesT w w.heap.size (some ⟨g, 0, none⟩) n ts := by
  obtain ⟨h1, h2, h3, cs, h4, h5, h6⟩ := h
  refine h4.liesT (fun j hj => ?_) h1
  rw [h6 j (by omega), stCells_append, List.getElem?_append_left (by rw [stCells_len]; omega)]
theorem TwinT.mark (h : TwinT w g n c ts) : w.cell? ⟨g, n * 3, none⟩ = some (.int .i64 77) ∧ w.cell? ⟨g, n * 3 + 1, none⟩ = some (.int .u32 0) ∧ w.cell? ⟨g, n * 3 + 2, none⟩ = some (.int .i64 0) := by
  obtain ⟨h1, h2, h3, cs, h4, h5, h6⟩ := h
  obtain ⟨s0, s1, s2⟩ := stCells_at (ts ++ [(77, 0, 0)]) n (by simp; omega)
  have e : (ts ++ [((77 : Int), (0 : Int), (0 : Int))]).getD n (0, 0, 0) = (77, 0, 0) := by simp [List.getD, ← h1]
  rw [e] at s0 s1 s2
  exact ⟨by rw [h4.cell, h6 _ (by omega), s0], by rw [h4.cell, h6 _ (by omega), s1], by rw [h4.cell, h6 _ (by omega), s2]⟩
theorem twinT_of_owns {base : Nat} {A : Option Addr} (h : w.ownsRow base 51 3 (.slice A (n + 1) c) (n + 1) (stCells (ts ++ [(77, 0, 0)]))) : ∃ g, A = some ⟨g, 0, none⟩ ∧ base ≤ g ∧ TwinT w g n c ts := by
  obtain ⟨hl, h2⟩ := h
  have hl' : ts.length = n := by rw [stCells_len] at hl; simp at hl; omega
  rcases h2 with ⟨_, h0⟩ | ⟨g, cap, cur, hv, hb, hh, hnc, hm, hcs, htk⟩
  · omega
  · injection hv with hA _ hc
    subst hc
    refine ⟨g, hA, hb, hl', hnc, hm, cur, hh, hcs, fun j hj => ?_⟩
    have h1 : (cur.toList.take ((n + 1) * 3))[j]? = cur[j]? := by
      rw [List.getElem?_take_of_lt (by omega)]; simp
    rw [← h1, htk]
end
theorem TwinOf.far {k : IntKind} {w : World} {t : TypeId} {g n c : Nat} {xs : List Int} (h : TwinOf k w t g n c xs) {p : Addr} (hp : p.block < g) (u : Value) : TwinOf k (w.setCell p u) t g n c xs := by
  obtain ⟨h1, h2, h3, cs, h4, h5⟩ := h
  exact ⟨h1, h2, h3, cs, h4.far_ (by omega) u, h5⟩
theorem headSts (g n c : Nat) (h : Int) (h0 : 0 ≤ h) (h2 : h ≤ c) (w : World) :
    (Instr.sliceAt 23 (.slice (some ⟨g, 0, none⟩) n c) none (some (.int .i64 h)) none).run Tryd.prog w = .ok (.slice (some ⟨g, 0, none⟩) h.toNat c) w := by
  rw [run_sliceAt_slice w _ _ _ _ _ elemSts, run_slice_h w 23 _ n c elemSts .i64 h h0 h2, sizeSts]
  simp only [Result.andThen, sliced]
  simp [Addr.add]
/-- A config's twin. -/
structure TwinCf (w : World) (base : Nat) (c : Cf) (g1 c1 g2 c2 g3 c3 g4 c4 : Nat) : Prop where
  p : TwinOf .i64 w 3 g1 c.pn c1 c.P
  s : TwinOf .i64 w 3 g2 c.sn c2 c.S
  b : TwinOf .i64 w 3 g3 c.bn c3 c.B
  t : TwinT w g4 c.tn c4 c.T
  lo : base ≤ g1 ∧ g1 < g2 ∧ g2 < g3 ∧ g3 < g4
theorem TwinCf.on {w w' : World} {base : Nat} {c : Cf} {g1 c1 g2 c2 g3 c3 g4 c4 : Nat} (h : TwinCf w base c g1 c1 g2 c2 g3 c3 g4 c4) (hb : Below w.heap.size w w') : TwinCf w' base c g1 c1 g2 c2 g3 c3 g4 c4 := ⟨h.p.on hb, h.s.on hb, h.b.on hb, h.t.on hb, h.lo⟩
theorem TwinCf.al {w : World} {base : Nat} {c : Cf} {g1 c1 g2 c2 g3 c3 g4 c4 : Nat} (h : TwinCf w base c g1 c1 g2 c2 g3 c3 g4 c4) (o : Obj) : TwinCf (w.alloc o) base c g1 c1 g2 c2 g3 c3 g4 c4 := h.on (below_al (Below.refl _ w) o)
/-- .. as a config. -/
abbrev Cf.tw (c : Cf) (g1 c1 g2 c2 g3 c3 g4 c4 : Nat) : Cf := { c with pA := some ⟨g1, 0, none⟩, pc := c1, sA := some ⟨g2, 0, none⟩, sc := c2, bA := some ⟨g3, 0, none⟩, bc := c3, tA := some ⟨g4, 0, none⟩, tc := c4 }
theorem TwinCf.in_ {w : World} {base : Nat} {c : Cf} {g1 c1 g2 c2 g3 c3 g4 c4 : Nat} (h : TwinCf w base c g1 c1 g2 c2 g3 c3 g4 c4) (hf : c.pn ≤ 65536 ∧ c.sn ≤ 65536 ∧ c.bn ≤ 65536 ∧ c.tn ≤ 65536) : CfIn w (c.tw g1 c1 g2 c2 g3 c3 g4 c4) :=
  ⟨h.p.lies, h.s.lies, h.b.lies, h.t.lies, hf⟩

set_option maxRecDepth 100000 in
set_option maxHeartbeats 1000000 in
theorem twinConfig_any (c : Cf) (w : World) (hc : CfIn w c) :
    Calls Tryd.prog 11 #[.agg #[.int .i64 c.N, .slice c.pA c.pn c.pc, .slice c.sA c.sn c.sc, .int .i64 c.L, .slice c.bA c.bn c.bc, .slice c.tA c.tn c.tc, .int .i64 c.M, .int .i64 c.G, .int .i64 c.F]] w fun e w' => ∃ g1 c1 g2 c2 g3 c3 g4 c4, e = .returned (.agg #[.int .i64 c.N, .slice (some ⟨g1, 0, none⟩) c.pn c1, .slice (some ⟨g2, 0, none⟩) c.sn c2, .int .i64 c.L, .slice (some ⟨g3, 0, none⟩) c.bn c3, .slice (some ⟨g4, 0, none⟩) c.tn c4, .int .i64 c.M, .int .i64 c.G, .int .i64 c.F]) ∧ TwinCf w' w.heap.size c g1 c1 g2 c2 g3 c3 g4 c4 ∧ Below w.heap.size w w' := by
  obtain ⟨f1, f2, f3, f4⟩ := hc.few
  obtain ⟨i0, hi0, hz0, hz1, hz2⟩ := info_parts infoSts
  have HC := Lib.hid hc
  clear hc
  go_enter Tryd.func11, Tryd.ntmps11
  go_wp2_with (first
    | (go_at_call 34; (with_reducible refine (twinNums_any c.pA c.pn c.pc c.P _ ((HC.out.al _).al _).p f1).mono ?_)
       rintro e w1 ⟨g1, c1, rfl, m1, o1, b1⟩
       have hB1 : Blk w1 w.heap.size 25 #[.int .i64 c.N, .slice c.pA c.pn c.pc, .slice c.sA c.sn c.sc, .int .i64 c.L, .slice c.bA c.bn c.bc, .slice c.tA c.tn c.tc, .int .i64 c.M, .int .i64 c.G, .int .i64 c.F] := ((Blk.new w _ _).alloc _).on b1
       have hb1 := below_then (below_al (below_al (Below.refl _ w) _) _) b1
       have hfr1 := hB1.frozen
       have hZ1 : Blk w1 (w.heap.size + 1) 25 #[.int .i64 0, .slice none 0 0, .slice none 0 0, .int .i64 0, .slice none 0 0, .slice none 0 0, .int .i64 0, .int .i64 0, .int .i64 0] := by
         have h := Blk.new (w.alloc (.cells #[.int .i64 c.N, .slice c.pA c.pn c.pc, .slice c.sA c.sn c.sc, .int .i64 c.L, .slice c.bA c.bn c.bc, .slice c.tA c.tn c.tc, .int .i64 c.M, .int .i64 c.G, .int .i64 c.F] 25)) 25 #[.int .i64 0, .slice none 0 0, .slice none 0 0, .int .i64 0, .slice none 0 0, .slice none 0 0, .int .i64 0, .int .i64 0, .int .i64 0]
         rw [alloc_size] at h
         exact h.on b1
       have m1 : w.heap.size + 1 < g1 := by simp at m1; omega
       have n1 := o1.lt
       clear b1
       obtain ⟨k0, k1, k2, k3, k4, k5, k6, k7, k8⟩ := hB1.cf)
    | (go_at_call 34; (with_reducible refine (twinNums_any c.sA c.sn c.sc c.S _ (HC.out.on (hb1.setCell (Nat.le_refl _) _)).s f2).mono ?_)
       rintro e w2 ⟨g2, c2, rfl, m2, o2, b2⟩
       have hB2 : Blk w2 w.heap.size 25 #[.int .i64 c.N, .slice (some ⟨g1, 0, none⟩) c.pn c1, .slice c.sA c.sn c.sc, .int .i64 c.L, .slice c.bA c.bn c.bc, .slice c.tA c.tn c.tc, .int .i64 c.M, .int .i64 c.G, .int .i64 c.F] := (hB1.set_ 1 _).on b2
       have hZ2 := (hZ1.far_ (p := ⟨w.heap.size, 1, none⟩) (by simp) (.slice (some ⟨g1, 0, none⟩) c.pn c1)).on b2
       have hb2 := below_then (hb1.setCell (Nat.le_refl _) _) b2
       have o1 := (o1.far (p := ⟨w.heap.size, 1, none⟩) (by simp only; omega) (.slice (some ⟨g1, 0, none⟩) c.pn c1)).on b2
       have m2 : g1 < g2 := Nat.lt_of_lt_of_le n1 (by simpa [World.setCell] using m2)
       have n2 := o2.lt
       have hfr2 := hB2.frozen
       clear b2 hB1 hZ1 hb1 hfr1 n1 k0 k1 k2 k3 k4 k5 k6 k7 k8
       have hsz2 : w2.heap.size ≤ (w2.setCell ⟨w.heap.size, 4, none⟩ (.slice (some ⟨g2, 0, none⟩) c.bn c2)).heap.size := by simp [World.setCell]
       obtain ⟨k0, k1, k2, k3, k4, k5, k6, k7, k8⟩ := Blk.cf (c := { c with pA := some ⟨g1, 0, none⟩, pc := c1 }) hB2)
    | (go_at_call 34; (with_reducible refine (twinNums_any c.bA c.bn c.bc c.B _ (HC.out.on (hb2.setCell (Nat.le_refl _) _)).b f3).mono ?_)
       rintro e w3 ⟨g3, c3, rfl, m3, o3, b3⟩
       have hB3 : Blk w3 w.heap.size 25 #[.int .i64 c.N, .slice (some ⟨g1, 0, none⟩) c.pn c1, .slice (some ⟨g2, 0, none⟩) c.sn c2, .int .i64 c.L, .slice c.bA c.bn c.bc, .slice c.tA c.tn c.tc, .int .i64 c.M, .int .i64 c.G, .int .i64 c.F] := (hB2.set_ 2 _).on b3
       have hZ3 := (hZ2.far_ (p := ⟨w.heap.size, 2, none⟩) (by simp) (.slice (some ⟨g2, 0, none⟩) c.sn c2)).on b3
       have hb3 := below_then (hb2.setCell (Nat.le_refl _) _) b3
       have o1 := (o1.far (p := ⟨w.heap.size, 2, none⟩) (by simp only; omega) (.slice (some ⟨g2, 0, none⟩) c.sn c2)).on b3
       have o2 := (o2.far (p := ⟨w.heap.size, 2, none⟩) (by simp only; omega) (.slice (some ⟨g2, 0, none⟩) c.sn c2)).on b3
       have m3 : g2 < g3 := Nat.lt_of_lt_of_le n2 (by simpa [World.setCell] using m3)
       have n3 := o3.lt
       have hfr3 := hB3.frozen
       clear b3 hB2 hZ2 hb2 hfr2 n2 k0 k1 k2 k3 k4 k5 k6 k7 k8
       have hsz3 : w3.heap.size ≤ (w3.setCell ⟨w.heap.size, 4, none⟩ (.slice (some ⟨g3, 0, none⟩) c.bn c3)).heap.size := by simp [World.setCell]
       obtain ⟨k0, k1, k2, k3, k4, k5, k6, k7, k8⟩ := Blk.cf (c := { c with pA := some ⟨g1, 0, none⟩, pc := c1, sA := some ⟨g2, 0, none⟩, sc := c2 }) hB3)
    | (at_builtin; with_reducible refine wpList_append_sts rfl (.const (.slice none 0 0)) (.tmp 17) 23 rfl (w3.setCell ⟨w.heap.size, 4, none⟩ (.slice (some ⟨g3, 0, none⟩) c.bn c3)).heap.size 51 i0 _ 24 Tryd.underlying23 hi0 hz0 hz1 hz2 rfl (.slice none 0 0) 0 [] rfl ownsT_none c.tA c.tn c.tc c.T rfl (HC.out.on (hb3.setCell (Nat.le_refl _) _)).t c.tn (Nat.zero_add _) (by unfold maxLen; omega) (by omega) (Nat.le_refl _) ?_))
  intro A5 c5 w5 hown5 hg5 _
  have hbw5 := (Below.refl (w3.setCell ⟨w.heap.size, 4, none⟩ (.slice (some ⟨g3, 0, none⟩) c.bn c3)).heap.size (w3.setCell ⟨w.heap.size, 4, none⟩ (.slice (some ⟨g3, 0, none⟩) c.bn c3))).grown hg5 (Nat.le_refl _) (by simp [Value.ownBlock])
  have hB5 : Blk w5 w.heap.size 25 #[.int .i64 c.N, .slice (some ⟨g1, 0, none⟩) c.pn c1, .slice (some ⟨g2, 0, none⟩) c.sn c2, .int .i64 c.L, .slice (some ⟨g3, 0, none⟩) c.bn c3, .slice c.tA c.tn c.tc, .int .i64 c.M, .int .i64 c.G, .int .i64 c.F] := (hB3.set_ 4 _).on hbw5
  have hz5 : w.heap.size < w5.heap.size := hB5.lt
  have hl7 : LiesT (w5.alloc (.cells #[.int .i64 77, .int .u32 0, .int .i64 0] 51)) (w5.alloc (.cells #[.int .i64 77, .int .u32 0, .int .i64 0] 51)).heap.size (some ⟨w5.heap.size, 0, none⟩) 1 [(77, 0, 0)] :=
    (Blk.new w5 51 #[.int .i64 77, .int .u32 0, .int .i64 0]).liesT (fun j _ => by simp [stCells]) rfl
  have hown5' := hown5.alloc (.cells #[.int .i64 77, .int .u32 0, .int .i64 0] 51)
  have hSE : (w3.setCell ⟨w.heap.size, 4, none⟩ (.slice (some ⟨g3, 0, none⟩) c.bn c3)).heap.size = w3.heap.size := by simp [World.setCell]
  have hszl := Nat.le_trans hbw5.size (show w5.heap.size ≤ (w5.alloc (.cells #[.int .i64 77, .int .u32 0, .int .i64 0] 51)).heap.size by simp)
  have hszl3 := hszl
  rw [hSE] at hszl3
  have HSE := Lib.hid hSE
  clear hSE
  go_wp2_with (first
    | (at_builtin; with_reducible refine wpList_append_sts rfl (.tmp 19) (.tmp 21) 23 rfl w3.heap.size 51 i0 _ 24 Tryd.underlying23 hi0 hz0 hz1 hz2 rfl (.slice A5 c.tn c5) c.tn c.T rfl hown5' (some ⟨w5.heap.size, 0, none⟩) 1 1 [(77, 0, 0)] rfl hl7 (c.tn + 1) rfl (by unfold maxLen; omega) (by omega) hszl3 ?_))
  intro A6 c6 w6 hown6 hg6 _
  have hbw6 := (below_al hbw5 (.cells #[.int .i64 77, .int .u32 0, .int .i64 0] 51)).grown hg6 hszl (fun q hq => by rw [HSE.out]; exact (hown5.lt q hq).1)
  obtain ⟨g4, rfl, hg4, ht4⟩ := twinT_of_owns (ts := c.T) (n := c.tn) hown6
  have hB6 : Blk w6 w.heap.size 25 #[.int .i64 c.N, .slice (some ⟨g1, 0, none⟩) c.pn c1, .slice (some ⟨g2, 0, none⟩) c.sn c2, .int .i64 c.L, .slice (some ⟨g3, 0, none⟩) c.bn c3, .slice c.tA c.tn c.tc, .int .i64 c.M, .int .i64 c.G, .int .i64 c.F] := (hB3.set_ 4 _).on hbw6
  have hZ6 := (hZ3.far_ (p := ⟨w.heap.size, 4, none⟩) (by simp) (.slice (some ⟨g3, 0, none⟩) c.bn c3)).on hbw6
  have hb6 := below_then (hb3.setCell (Nat.le_refl _) _) hbw6
  have o1 := (o1.far (p := ⟨w.heap.size, 4, none⟩) (by simp only; omega) (.slice (some ⟨g3, 0, none⟩) c.bn c3)).on hbw6
  have o2 := (o2.far (p := ⟨w.heap.size, 4, none⟩) (by simp only; omega) (.slice (some ⟨g3, 0, none⟩) c.bn c3)).on hbw6
  have o3 := (o3.far (p := ⟨w.heap.size, 4, none⟩) (by simp only; omega) (.slice (some ⟨g3, 0, none⟩) c.bn c3)).on hbw6
  have m4 : g3 < g4 := Nat.lt_of_lt_of_le n3 (by simpa [World.setCell] using hg4)
  have hc4 := ht4.2.1
  have hsl := fun W : World => headSts g4 (c.tn + 1) c6 (c.tn : Int) (by omega) (by omega) W
  rw [Int.toNat_natCast] at hsl
  clear k0 k1 k2 k3 k4 k5 k6 k7 k8 hB5 hl7 hown5 hown5' hown6 hg5 hg6 hszl hszl3 hbw5 hbw6 hi0 hz0 hz1 hz2 hg4
  obtain ⟨k0, k1, k2, k3, k4, k5, k6, k7, k8⟩ := Blk.cf (c := { c with pA := some ⟨g1, 0, none⟩, pc := c1, sA := some ⟨g2, 0, none⟩, sc := c2, bA := some ⟨g3, 0, none⟩, bc := c3 }) hB6
  have hfr6 := hB6.frozen
  have hfz := hZ6.frozen
  have z0 := hZ6.cell 0
  have z1 := hZ6.cell 1
  have z2 := hZ6.cell 2
  have z3 := hZ6.cell 3
  have z4 := hZ6.cell 4
  have z5 := hZ6.cell 5
  have z6 := hZ6.cell 6
  have z7 := hZ6.cell 7
  have z8 := hZ6.cell 8
  simp at z0 z1 z2 z3 z4 z5 z6 z7 z8
  go_wp2_with fail
  refine bodyPost_ret (v := .agg #[.int .i64 c.N, .slice (some ⟨g1, 0, none⟩) c.pn c1, .slice (some ⟨g2, 0, none⟩) c.sn c2, .int .i64 c.L, .slice (some ⟨g3, 0, none⟩) c.bn c3, .slice (some ⟨g4, 0, none⟩) c.tn c6, .int .i64 c.M, .int .i64 c.G, .int .i64 c.F]) (by simp [results, Tryd.results11, go_sem, z0, z1, z2, z3, z4, z5, z6, z7, z8]) rfl ⟨g1, c1, g2, c2, g3, c3, g4, c6, rfl, ⟨((((((((((o1.far (by simp only; omega) _).far (by simp only; omega) _).far (by simp only; omega) _).far (by simp only; omega) _).far (by simp only; omega) _).far (by simp only; omega) _).far (by simp only; omega) _).far (by simp only; omega) _).far (by simp only; omega) _).far (by simp only; omega) _), ((((((((((o2.far (by simp only; omega) _).far (by simp only; omega) _).far (by simp only; omega) _).far (by simp only; omega) _).far (by simp only; omega) _).far (by simp only; omega) _).far (by simp only; omega) _).far (by simp only; omega) _).far (by simp only; omega) _).far (by simp only; omega) _), ((((((((((o3.far (by simp only; omega) _).far (by simp only; omega) _).far (by simp only; omega) _).far (by simp only; omega) _).far (by simp only; omega) _).far (by simp only; omega) _).far (by simp only; omega) _).far (by simp only; omega) _).far (by simp only; omega) _).far (by simp only; omega) _), ((((((((((ht4.far (by simp only; omega) _).far (by simp only; omega) _).far (by simp only; omega) _).far (by simp only; omega) _).far (by simp only; omega) _).far (by simp only; omega) _).far (by simp only; omega) _).far (by simp only; omega) _).far (by simp only; omega) _).far (by simp only; omega) _), by omega⟩, ?_⟩
  exact ((((((((((hb6.setCell (by simp) _).setCell (by simp) _).setCell (by simp) _).setCell (by simp) _).setCell (by simp) _).setCell (by simp) _).setCell (by simp) _).setCell (by simp) _).setCell (by simp) _).setCell (by simp) _)
end Go.Proofs.YtibniadebbgjcaaDoor
