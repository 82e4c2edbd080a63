/-
  The law ConfigsEdges, walked: with one number that is too great, or too small, a config may not be, by the error that is told: true; nothing that was there has turned. Conditions: the table of directions is as the program's text lays it; the numbers are of their kinds.
-/
import Derived.Test.YtibniadebbgjcaaDoorCfE
import Derived.Test.YtibniadebbgjcaaDoorCfT
namespace Go.Proofs.YtibniadebbgjcaaDoor
open Go.RowKit Rg

/-- The law's config, wherever its lists lie now. -/
theorem edge_in {w1 U : World} {A1 A2 A3 : Option Addr} (d : Cf) (h : CfIn w1 (smallCf A1 A2 A3)) (hb : Below w1.heap.size w1 U) (hP : d.pA = A1 ∧ d.pn = 2 ∧ d.P = [0, 2]) (hS : Lies .i64 U U.heap.size d.sA d.sn d.S) (hB : Lies .i64 U U.heap.size d.bA d.bn d.B) (hT : LiesT U U.heap.size d.tA d.tn d.T)
    (hf : d.sn ≤ 65536 ∧ d.bn ≤ 65536 ∧ d.tn ≤ 65536) : CfIn U d := by
  obtain ⟨e1, e2, e3⟩ := hP
  refine ⟨?_, hS, hB, hT, by omega⟩
  rw [e1, e2, e3]
  exact (h.on hb).p

theorem wrong_d (c : Cf) (r : Int) (hr : newD c.N c.L c.M c.G c.F c.pn c.P c.sn c.S c.bn c.B c.tn c.T = r) (w : World) (hc : CfIn w c) (hw : Ways w) :
    Calls Tryd.prog 32 #[.agg #[.int .i64 c.N, .slice c.pA c.pn c.pc, .slice c.sA c.sn c.sc, .int .i64 c.L, .slice c.bA c.bn c.bc, .slice c.tA c.tn c.tc, .int .i64 c.M, .int .i64 c.G, .int .i64 c.F]] w fun e w' => e = .returned (.int .i64 r) ∧ Below w.heap.size w w' := wrong_is c r ((newD_eq c).trans hr) w hc hw

theorem owns_on {w w' : World} {base sz n : Nat} {e : TypeId} {v : Value} {xs : List Value} (h : w.ownsRow base e sz v n xs) (hb : Below w.heap.size w w') : w'.ownsRow base e sz v n xs := by
  obtain ⟨h1, h2⟩ := h
  refine ⟨h1, ?_⟩
  rcases h2 with h2 | ⟨g, cap, cur, hv, hg, hh, hr⟩
  · exact .inl h2
  · exact .inr ⟨g, cap, cur, hv, hg, (show Blk w g e cur from hh).on hb, hr⟩
theorem owns_far {w : World} {base sz n : Nat} {e : TypeId} {v : Value} {xs : List Value} (h : w.ownsRow base e sz v n xs) {p : Addr} (hp : p.block < base) (u : Value) : (w.setCell p u).ownsRow base e sz v n xs := by
  obtain ⟨h1, h2⟩ := h
  refine ⟨h1, ?_⟩
  rcases h2 with h2 | ⟨g, cap, cur, hv, hg, hh, hr⟩
  · exact .inl h2
  · exact .inr ⟨g, cap, cur, hv, hg, (show Blk w g e cur from hh).far_ (by omega) u, hr⟩
theorem owns_some {w : World} {base sz n c : Nat} {e : TypeId} {A : Option Addr} {xs : List Value} (h : w.ownsRow base e sz (.slice A n c) n xs) (hn : 0 < n) : ∃ g, A = some ⟨g, 0, none⟩ ∧ base ≤ g := by
  rcases h.2 with ⟨_, h0⟩ | ⟨g, cap, cur, hv, hg, _⟩
  · omega
  · injection hv with hA
    exact ⟨g, hA, hg⟩
theorem owns_liesT {w : World} {base g n c : Nat} {ts : List (Int × Int × Int)} {e : TypeId} (h : w.ownsRow base e 3 (.slice (some ⟨g, 0, none⟩) n c) n (stCells ts)) (hn : ts.length = n) (h0 : 0 < n) : LiesT w w.heap.size (some ⟨g, 0, none⟩) n ts := by
  rcases h.2 with ⟨_, hz⟩ | ⟨g', cap, cur, hv, hg, hh, hnc, hm, hcs, htk⟩
  · omega
  · injection hv with hA
    injection hA with hA
    injection hA with hA
    subst hA
    refine (show Blk w g e cur from hh).liesT (fun j hj => ?_) hn
    rw [← htk, List.getElem?_take_of_lt hj]
    simp
theorem step_append_sts {P : Program} {ops : Array Oper} {o : Oper} {a : Act} {w : World} {K : Act → World → Prop} {Q : Exit → Act → World → Prop} {E : Prop} (hgd : o.guard = none) (s x : Operand) (t : TypeId)
    (ho : o.op = .call { callee := .builtin .append, args := #[s, x], argTypes := #[t, t] })
    (base : Nat) (e : TypeId) (i : TypeInfo) (z : Value) (bytes : Nat) (ht : P.underlying t = some (.slice e)) (hi : P.info? e = some i) (hz : i.zero = some z)
    (hsize : i.size = 3) (hby : i.bytes = bytes) (hzs : z.cells.size = 3)
    (v : Value) (n : Nat) (xs : List (Int × Int × Int)) (hs : a.eval s = v) (hown : w.ownsRow base e 3 v n (stCells xs))
    (ad : Addr) (m c : Nat) (ys : List (Int × Int × Int)) (hx : a.eval x = .slice (some ad) m c) (hr : LiesT w w.heap.size (some ad) m ys) (N : Nat) (hN : n + m = N) (h0 : 0 < N) (h63 : N ≤ maxLen) (hbytes : N * bytes ≤ 140737488355328) (hbase : base ≤ w.heap.size)
    (h : ∀ g c' w', w'.ownsRow base e 3 (.slice (some ⟨g, 0, none⟩) N c') N (stCells (xs ++ ys)) → w.grownBy w' v.ownBlock → K (a.put o.dst (.slice (some ⟨g, 0, none⟩) N c')) w') :
    if Region.wanted o (yielded ops a.tmps) = true then Oper.wp P o a w K Q else E := by
  have hw : Region.wanted o (yielded ops a.tmps) = true := by simp [Region.wanted, hgd]
  rw [if_pos hw]
  subst hN
  have hl := hr.len
  have hcells : ∀ j u, (stCells ys)[j]? = some u → w.cell? (ad.add j) = some u := by
    intro j u hu
    have h0 : 0 < (stCells ys).length := by
      have := (List.getElem?_eq_some_iff.1 hu).1
      omega
    obtain ⟨ad', e', hc⟩ := hr.src h0
    injection e' with e'
    subst e'
    exact hc j u hu
  obtain ⟨v', w', hrun, h2, h3, _, _⟩ := run_append_own_at (P := P) w base t o.type e i z 3 bytes ht hi hz hsize hby hzs (by decide) v n _ hown ad m c (stCells ys) (by rw [stCells_len, hl]) hcells (stCells_one _) h63 hbytes hbase
  rw [← stCells_append] at h2
  have h2' := h2
  rcases h2.2 with ⟨_, hz0⟩ | ⟨g, cap, cur, hv, _⟩
  · omega
  · subst hv
    unfold Oper.wp
    simp only [execOp, ho, resolve, invoke, builtin, Sem.run_bind, Sem.run_pure, Result.andThen_ok, List.map_toArray, List.map_cons, List.map_nil, hs, hx, hrun]
    exact h g cap w' h2' h3
/-- How many stations a cell of a config has. -/
def stLen : Option Value → Nat
  | some (.slice _ n _) => n
  | _ => 0

set_option maxRecDepth 100000 in
set_option maxHeartbeats 8000000 in
theorem edges_any (a b : Int) (w : World) (hw : Ways w) (ha0 : 0 ≤ a) (hb0 : 0 ≤ b) (hb1 : b ≤ 255) (hk13 : a % 14 ≠ 13) :
    Calls Tryd.prog 8 #[.int .u8 a, .int .u8 b] w fun e w' => e = .returned (.bool true) ∧ Below w.heap.size w w' := by
  obtain ⟨n, hn⟩ : ∃ n : Nat, (n : Int) = 4 + b % 13 := ⟨(4 + b % 13).toNat, by omega⟩
  have h1 : 4 ≤ n := by omega
  have h2 : n ≤ 16 := by omega
  obtain ⟨k, hk⟩ : ∃ k : Int, k = a % 14 := ⟨_, rfl⟩
  have hk0 : 0 ≤ k := by omega
  have hk14 : k < 13 := by omega
  have hmk := fun u => makeNums (n : Int) (by omega) (by omega) u
  simp only [Int.toNat_natCast] at hmk
  have hs4 : 4 + b % 13 = (n : Int) := hn.symm
  have hwk : a % 14 = k := hk.symm
  have hwk' : a.tmod 14 = k := by rw [Int.tmod_eq_emod_of_nonneg ha0]; exact hk.symm
  clear hn hk hk13
  go_enter Tryd.func8, Tryd.ntmps8
  go_wp2_with (first
    | (go_at_call 33; (with_reducible refine (small_any w).mono ?_); rintro e w1 ⟨A1, A2, A3, rfl, h1c, b1⟩))
  have hV := ((Blk.new w1 25 #[.int .i64 (n : Int), .slice A1 2 2, .slice A2 3 3, .int .i64 ((n : Int) + 116), .slice (some ⟨w1.heap.size + 1, 0, none⟩) n n, .slice (some ⟨w1.heap.size + 1 + 1, 0, none⟩) 1 1, .int .i64 3, .int .i64 3, .int .i64 3]).alloc (.cells (madeCells #[.int .i64 0] n) 3)).alloc (.cells #[.int .i64 ((n : Int) - 1), .int .u32 0, .int .i64 100] 51)
  have hO := (Blk.new (w1.alloc (.cells #[.int .i64 (n : Int), .slice A1 2 2, .slice A2 3 3, .int .i64 ((n : Int) + 116), .slice (some ⟨w1.heap.size + 1, 0, none⟩) n n, .slice (some ⟨w1.heap.size + 1 + 1, 0, none⟩) 1 1, .int .i64 3, .int .i64 3, .int .i64 3] 25)) 3 (madeCells #[.int .i64 0] n)).alloc (.cells #[.int .i64 ((n : Int) - 1), .int .u32 0, .int .i64 100] 51)
  have hT := Blk.new ((w1.alloc (.cells #[.int .i64 (n : Int), .slice A1 2 2, .slice A2 3 3, .int .i64 ((n : Int) + 116), .slice (some ⟨w1.heap.size + 1, 0, none⟩) n n, .slice (some ⟨w1.heap.size + 1 + 1, 0, none⟩) 1 1, .int .i64 3, .int .i64 3, .int .i64 3] 25)).alloc (.cells (madeCells #[.int .i64 0] n) 3)) 51 #[.int .i64 ((n : Int) - 1), .int .u32 0, .int .i64 100]
  rw [alloc_size] at hO
  rw [alloc_size, alloc_size] at hT
  have eO : madeCells #[.int .i64 0] n = cellsOf .i64 (List.replicate n 0) := by
    apply Array.toList_inj.1
    rw [toList_madeCells_one]
    simp [cellsOf]
  have hO2 := hO
  rw [show Blk _ _ _ (madeCells #[Value.int .i64 0] n) = Blk _ _ _ (cellsOf .i64 (List.replicate n 0)) by rw [← eO]] at hO2
  have hbW := below_al (below_al (below_al (Below.refl w1.heap.size w1) (.cells #[.int .i64 (n : Int), .slice A1 2 2, .slice A2 3 3, .int .i64 ((n : Int) + 116), .slice (some ⟨w1.heap.size + 1, 0, none⟩) n n, .slice (some ⟨w1.heap.size + 1 + 1, 0, none⟩) 1 1, .int .i64 3, .int .i64 3, .int .i64 3] 25)) (.cells (madeCells #[.int .i64 0] n) 3)) (.cells #[.int .i64 ((n : Int) - 1), .int .u32 0, .int .i64 100] 51)
  have hLT : ∀ U, Blk U (w1.heap.size + 1 + 1) 51 #[.int .i64 ((n : Int) - 1), .int .u32 0, .int .i64 100] → LiesT U U.heap.size (some ⟨w1.heap.size + 1 + 1, 0, none⟩) 1 [((n : Int) - 1, 0, 100)] := fun U h => h.liesT (fun j _ => by simp [stCells]) rfl
  have HLT := Lib.hid hLT
  have hw1 := hw.on b1
  (with_reducible refine (wrong_d (edge n A1 A2 (some ⟨w1.heap.size + 1, 0, none⟩) (some ⟨w1.heap.size + 1 + 1, 0, none⟩)) 0 (e_ok h1 h2) _ (edge_in (edge n A1 A2 (some ⟨w1.heap.size + 1, 0, none⟩) (some ⟨w1.heap.size + 1 + 1, 0, none⟩)) h1c hbW ⟨rfl, rfl, rfl⟩ (h1c.on hbW).s (hO2.lies (by simp)) (hLT _ hT) (by simp only; omega)) (hw1.on hbW)).mono ?_)
  rintro e w2 ⟨rfl, b2⟩
  have hV2 := hV.on b2
  have hO3 := hO2.on b2
  have hT2 := hT.on b2
  have hb12 := below_then hbW b2
  obtain ⟨k0, k1, k2, k3, k4, k5, k6, k7, k8⟩ := Blk.cf (c := edge n A1 A2 (some ⟨w1.heap.size + 1, 0, none⟩) (some ⟨w1.heap.size + 1 + 1, 0, none⟩)) hV2
  have hfr := hV2.frozen
  have H1C := Lib.hid h1c
  clear hmk hV hO hO2 hT hbW b2 hLT eO h1c
  have hcases : k = 0 ∨ k = 1 ∨ k = 2 ∨ k = 3 ∨ k = 4 ∨ k = 5 ∨ k = 6 ∨ k = 7 ∨ k = 8 ∨ k = 9 ∨ k = 10 ∨ k = 11 ∨ k = 12 := by omega
  rcases hcases with rfl | rfl | rfl | rfl | rfl | rfl | rfl | rfl | rfl | rfl | rfl | rfl | rfl
  · -- 0
    have HE := Lib.hid (e_0 h1 h2)
    rw [show (n : Int) + 115 = (n : Int) + 116 - 1 by omega] at HE
    go_wp2_with fail
    (with_reducible refine (wrong_d (Cf.mk (n : Int) ((n : Int) + 116 - 1) 3 3 3 A1 2 2 A2 3 3 (some ⟨w1.heap.size + 1, 0, none⟩) n n (some ⟨w1.heap.size + 1 + 1, 0, none⟩) 1 1 [0, 2] [0, 1, 1] (List.replicate n 0) [((n : Int) - 1, 0, 100)]) 1 HE.out _ (edge_in (Cf.mk (n : Int) ((n : Int) + 116 - 1) 3 3 3 A1 2 2 A2 3 3 (some ⟨w1.heap.size + 1, 0, none⟩) n n (some ⟨w1.heap.size + 1 + 1, 0, none⟩) 1 1 [0, 2] [0, 1, 1] (List.replicate n 0) [((n : Int) - 1, 0, 100)]) H1C.out (hb12.setCell (p := ⟨w1.heap.size, 3, none⟩) (Nat.le_refl _) (.int .i64 ((n : Int) + 116 - 1))) ⟨rfl, rfl, rfl⟩ (H1C.out.on (hb12.setCell (p := ⟨w1.heap.size, 3, none⟩) (Nat.le_refl _) (.int .i64 ((n : Int) + 116 - 1)))).s ((hO3.far_ (p := ⟨w1.heap.size, 3, none⟩) (by simp) (.int .i64 ((n : Int) + 116 - 1))).lies (by simp)) (HLT.out _ (hT2.far_ (p := ⟨w1.heap.size, 3, none⟩) (by simp; omega) (.int .i64 ((n : Int) + 116 - 1)))) (by simp only; omega)) (hw1.on (hb12.setCell (p := ⟨w1.heap.size, 3, none⟩) (Nat.le_refl _) (.int .i64 ((n : Int) + 116 - 1))))).mono ?_)
    rintro e u1 ⟨rfl, a1⟩
    go_wp2_with (go_at_call 10; (with_reducible refine (lives_any u1 (hw1.on (below_then (hb12.setCell (p := ⟨w1.heap.size, 3, none⟩) (Nat.le_refl _) (.int .i64 ((n : Int) + 116 - 1))) a1))).mono ?_); rintro e u2 ⟨rfl, a2⟩)
    go_ret
    exact ⟨rfl, below_then (below_then b1 (below_then (hb12.setCell (p := ⟨w1.heap.size, 3, none⟩) (Nat.le_refl _) (.int .i64 ((n : Int) + 116 - 1))) a1)) a2⟩
  · -- 1
    go_wp2_with fail
    (with_reducible refine (wrong_d (Cf.mk (n : Int) 4096 3 3 3 A1 2 2 A2 3 3 (some ⟨w1.heap.size + 1, 0, none⟩) n n (some ⟨w1.heap.size + 1 + 1, 0, none⟩) 1 1 [0, 2] [0, 1, 1] (List.replicate n 0) [((n : Int) - 1, 0, 100)]) 0 (e_1a h1 h2) _ (edge_in (Cf.mk (n : Int) 4096 3 3 3 A1 2 2 A2 3 3 (some ⟨w1.heap.size + 1, 0, none⟩) n n (some ⟨w1.heap.size + 1 + 1, 0, none⟩) 1 1 [0, 2] [0, 1, 1] (List.replicate n 0) [((n : Int) - 1, 0, 100)]) H1C.out (hb12.setCell (p := ⟨w1.heap.size, 3, none⟩) (Nat.le_refl _) (.int .i64 4096)) ⟨rfl, rfl, rfl⟩ (H1C.out.on (hb12.setCell (p := ⟨w1.heap.size, 3, none⟩) (Nat.le_refl _) (.int .i64 4096))).s ((hO3.far_ (p := ⟨w1.heap.size, 3, none⟩) (by simp) (.int .i64 4096)).lies (by simp)) (HLT.out _ (hT2.far_ (p := ⟨w1.heap.size, 3, none⟩) (by simp; omega) (.int .i64 4096))) (by simp only; omega)) (hw1.on (hb12.setCell (p := ⟨w1.heap.size, 3, none⟩) (Nat.le_refl _) (.int .i64 4096)))).mono ?_)
    rintro e u1 ⟨rfl, a1⟩
    have hV4 : Blk u1 w1.heap.size 25 #[.int .i64 (n : Int), .slice A1 2 2, .slice A2 3 3, .int .i64 4096, .slice (some ⟨w1.heap.size + 1, 0, none⟩) n n, .slice (some ⟨w1.heap.size + 1 + 1, 0, none⟩) 1 1, .int .i64 3, .int .i64 3, .int .i64 3] := (hV2.set_ 3 _).on a1
    have hO4 := (hO3.far_ (p := ⟨w1.heap.size, 3, none⟩) (by simp) (.int .i64 4096)).on a1
    have hT4 := (hT2.far_ (p := ⟨w1.heap.size, 3, none⟩) (by simp; omega) (.int .i64 4096)).on a1
    have hb14 := below_then (hb12.setCell (p := ⟨w1.heap.size, 3, none⟩) (Nat.le_refl _) (.int .i64 4096)) a1
    clear k0 k1 k2 k3 k4 k5 k6 k7 k8 hfr
    have hfr := hV4.frozen
    obtain ⟨k0, k1, k2, k3, k4, k5, k6, k7, k8⟩ := Blk.cf (c := Cf.mk (n : Int) 4096 3 3 3 A1 2 2 A2 3 3 (some ⟨w1.heap.size + 1, 0, none⟩) n n (some ⟨w1.heap.size + 1 + 1, 0, none⟩) 1 1 [0, 2] [0, 1, 1] (List.replicate n 0) [((n : Int) - 1, 0, 100)]) hV4
    go_wp2_with fail
    (with_reducible refine (wrong_d (Cf.mk (n : Int) 4097 3 3 3 A1 2 2 A2 3 3 (some ⟨w1.heap.size + 1, 0, none⟩) n n (some ⟨w1.heap.size + 1 + 1, 0, none⟩) 1 1 [0, 2] [0, 1, 1] (List.replicate n 0) [((n : Int) - 1, 0, 100)]) 3 (e_1 h1 h2) _ (edge_in (Cf.mk (n : Int) 4097 3 3 3 A1 2 2 A2 3 3 (some ⟨w1.heap.size + 1, 0, none⟩) n n (some ⟨w1.heap.size + 1 + 1, 0, none⟩) 1 1 [0, 2] [0, 1, 1] (List.replicate n 0) [((n : Int) - 1, 0, 100)]) H1C.out (hb14.setCell (p := ⟨w1.heap.size, 3, none⟩) (Nat.le_refl _) (.int .i64 4097)) ⟨rfl, rfl, rfl⟩ (H1C.out.on (hb14.setCell (p := ⟨w1.heap.size, 3, none⟩) (Nat.le_refl _) (.int .i64 4097))).s ((hO4.far_ (p := ⟨w1.heap.size, 3, none⟩) (by simp) (.int .i64 4097)).lies (by simp)) (HLT.out _ (hT4.far_ (p := ⟨w1.heap.size, 3, none⟩) (by simp; omega) (.int .i64 4097))) (by simp only; omega)) (hw1.on (hb14.setCell (p := ⟨w1.heap.size, 3, none⟩) (Nat.le_refl _) (.int .i64 4097)))).mono ?_)
    rintro e u3 ⟨rfl, a3⟩
    go_wp2_with (go_at_call 10; (with_reducible refine (lives_any u3 (hw1.on (below_then (hb14.setCell (p := ⟨w1.heap.size, 3, none⟩) (Nat.le_refl _) (.int .i64 4097)) a3))).mono ?_); rintro e u2 ⟨rfl, a2⟩)
    go_ret
    exact ⟨rfl, below_then (below_then b1 (below_then (hb14.setCell (p := ⟨w1.heap.size, 3, none⟩) (Nat.le_refl _) (.int .i64 4097)) a3)) a2⟩
  · -- 2
    have hix : ∀ W, (Instr.indexAt 22 (.slice (some ⟨w1.heap.size + 1, 0, none⟩) n n) (.int .i64 ((n : Int) - 1))).run Tryd.prog W = .ok (.pointer (some ⟨w1.heap.size + 1, n - 1, none⟩)) W := fun W => by
      have h := idxNums (n := n) n (k := n - 1) (b := w1.heap.size + 1) (off := 0) rfl (by omega) W
      rwa [show (((n - 1 : Nat)) : Int) = (n : Int) - 1 by omega, Nat.zero_add] at h
    have hcO := (hO3.cell (n - 1)).trans (cellsOf_at _ _ (n - 1) (by simp; omega))
    have hfO := hO3.frozen
    have hS5 := hO3.set_ (n - 1) (.int .i64 4097)
    rw [cellsOf_set] at hS5
    go_wp2_with fail
    (with_reducible refine (wrong_d (Cf.mk (n : Int) ((n : Int) + 116) 3 3 3 A1 2 2 A2 3 3 (some ⟨w1.heap.size + 1, 0, none⟩) n n (some ⟨w1.heap.size + 1 + 1, 0, none⟩) 1 1 [0, 2] [0, 1, 1] ((List.replicate n 0).set (n - 1) 4097) [((n : Int) - 1, 0, 100)]) 3 (e_2 h1 h2) _ (edge_in (Cf.mk (n : Int) ((n : Int) + 116) 3 3 3 A1 2 2 A2 3 3 (some ⟨w1.heap.size + 1, 0, none⟩) n n (some ⟨w1.heap.size + 1 + 1, 0, none⟩) 1 1 [0, 2] [0, 1, 1] ((List.replicate n 0).set (n - 1) 4097) [((n : Int) - 1, 0, 100)]) H1C.out (hb12.setCell (p := ⟨w1.heap.size + 1, n - 1, none⟩) (by simp only; omega) (.int .i64 4097)) ⟨rfl, rfl, rfl⟩ (H1C.out.on (hb12.setCell (p := ⟨w1.heap.size + 1, n - 1, none⟩) (by simp only; omega) (.int .i64 4097))).s (hS5.lies (by simp)) (HLT.out _ (hT2.far_ (p := ⟨w1.heap.size + 1, n - 1, none⟩) (by simp) (.int .i64 4097))) (by simp only; omega)) (hw1.on (hb12.setCell (p := ⟨w1.heap.size + 1, n - 1, none⟩) (by simp only; omega) (.int .i64 4097)))).mono ?_)
    rintro e u1 ⟨rfl, a1⟩
    go_wp2_with (go_at_call 10; (with_reducible refine (lives_any u1 (hw1.on (below_then (hb12.setCell (p := ⟨w1.heap.size + 1, n - 1, none⟩) (by simp only; omega) (.int .i64 4097)) a1))).mono ?_); rintro e u2 ⟨rfl, a2⟩)
    go_ret
    exact ⟨rfl, below_then (below_then b1 (below_then (hb12.setCell (p := ⟨w1.heap.size + 1, n - 1, none⟩) (by simp only; omega) (.int .i64 4097)) a1)) a2⟩
  · -- 3
    have hn0 : 0 < n := by omega
    have hcO := (hO3.cell 0).trans (cellsOf_at _ _ 0 (by simp; omega))
    have hfO := hO3.frozen
    have hS5 := hO3.set_ 0 (.int .i64 (-1))
    rw [cellsOf_set] at hS5
    go_wp2_with fail
    (with_reducible refine (wrong_d (Cf.mk (n : Int) ((n : Int) + 116) 3 3 3 A1 2 2 A2 3 3 (some ⟨w1.heap.size + 1, 0, none⟩) n n (some ⟨w1.heap.size + 1 + 1, 0, none⟩) 1 1 [0, 2] [0, 1, 1] ((List.replicate n 0).set 0 (-1)) [((n : Int) - 1, 0, 100)]) 1 (e_3 h1 h2) _ (edge_in (Cf.mk (n : Int) ((n : Int) + 116) 3 3 3 A1 2 2 A2 3 3 (some ⟨w1.heap.size + 1, 0, none⟩) n n (some ⟨w1.heap.size + 1 + 1, 0, none⟩) 1 1 [0, 2] [0, 1, 1] ((List.replicate n 0).set 0 (-1)) [((n : Int) - 1, 0, 100)]) H1C.out (hb12.setCell (p := ⟨w1.heap.size + 1, 0, none⟩) (by simp only; omega) (.int .i64 (-1))) ⟨rfl, rfl, rfl⟩ (H1C.out.on (hb12.setCell (p := ⟨w1.heap.size + 1, 0, none⟩) (by simp only; omega) (.int .i64 (-1)))).s (hS5.lies (by simp)) (HLT.out _ (hT2.far_ (p := ⟨w1.heap.size + 1, 0, none⟩) (by simp) (.int .i64 (-1)))) (by simp only; omega)) (hw1.on (hb12.setCell (p := ⟨w1.heap.size + 1, 0, none⟩) (by simp only; omega) (.int .i64 (-1))))).mono ?_)
    rintro e u1 ⟨rfl, a1⟩
    go_wp2_with (go_at_call 10; (with_reducible refine (lives_any u1 (hw1.on (below_then (hb12.setCell (p := ⟨w1.heap.size + 1, 0, none⟩) (by simp only; omega) (.int .i64 (-1))) a1))).mono ?_); rintro e u2 ⟨rfl, a2⟩)
    go_ret
    exact ⟨rfl, below_then (below_then b1 (below_then (hb12.setCell (p := ⟨w1.heap.size + 1, 0, none⟩) (by simp only; omega) (.int .i64 (-1))) a1)) a2⟩
  · -- 4
    have hcut : cutA (some ⟨w1.heap.size + 1, 0, none⟩) n 1 = some ⟨w1.heap.size + 1, 1, none⟩ := by
      rw [cutA, if_neg (by omega)]; simp [Addr.add]
    have hfrom : ∀ W, (Instr.sliceAt 22 (.slice (some ⟨w1.heap.size + 1, 0, none⟩) n n) (some (.int .i64 1)) none none).run Tryd.prog W = .ok (.slice (some ⟨w1.heap.size + 1, 1, none⟩) (n - 1) (n - 1)) W := fun W => by
      have h := fromNums (some ⟨w1.heap.size + 1, 0, none⟩) n n 1 (by omega) (by omega) W
      rw [Int.toNat_one, hcut] at h
      exact h
    have hL5 := fun U (h : Blk U (w1.heap.size + 1) 3 (cellsOf .i64 (List.replicate n 0))) => (h.lies (n := n) (by simp)).tail (c := n) (l := 1) (by omega) (Nat.le_refl _)
    rw [hcut] at hL5
    have HL5 := Lib.hid hL5
    clear hL5 hcut
    go_wp2_with fail
    (with_reducible refine (wrong_d (Cf.mk (n : Int) ((n : Int) + 116) 3 3 3 A1 2 2 A2 3 3 (some ⟨w1.heap.size + 1, 1, none⟩) (n - 1) (n - 1) (some ⟨w1.heap.size + 1 + 1, 0, none⟩) 1 1 [0, 2] [0, 1, 1] ((List.replicate n 0).drop 1) [((n : Int) - 1, 0, 100)]) 1 (e_4 h1 h2) _ (edge_in (Cf.mk (n : Int) ((n : Int) + 116) 3 3 3 A1 2 2 A2 3 3 (some ⟨w1.heap.size + 1, 1, none⟩) (n - 1) (n - 1) (some ⟨w1.heap.size + 1 + 1, 0, none⟩) 1 1 [0, 2] [0, 1, 1] ((List.replicate n 0).drop 1) [((n : Int) - 1, 0, 100)]) H1C.out (hb12.setCell (p := ⟨w1.heap.size, 4, none⟩) (Nat.le_refl _) (.slice (some ⟨w1.heap.size + 1, 1, none⟩) (n - 1) (n - 1))) ⟨rfl, rfl, rfl⟩ (H1C.out.on (hb12.setCell (p := ⟨w1.heap.size, 4, none⟩) (Nat.le_refl _) (.slice (some ⟨w1.heap.size + 1, 1, none⟩) (n - 1) (n - 1)))).s (HL5.out _ (hO3.far_ (p := ⟨w1.heap.size, 4, none⟩) (by simp) (.slice (some ⟨w1.heap.size + 1, 1, none⟩) (n - 1) (n - 1)))) (HLT.out _ (hT2.far_ (p := ⟨w1.heap.size, 4, none⟩) (by simp; omega) (.slice (some ⟨w1.heap.size + 1, 1, none⟩) (n - 1) (n - 1)))) (by simp only; omega)) (hw1.on (hb12.setCell (p := ⟨w1.heap.size, 4, none⟩) (Nat.le_refl _) (.slice (some ⟨w1.heap.size + 1, 1, none⟩) (n - 1) (n - 1))))).mono ?_)
    rintro e u1 ⟨rfl, a1⟩
    go_wp2_with (go_at_call 10; (with_reducible refine (lives_any u1 (hw1.on (below_then (hb12.setCell (p := ⟨w1.heap.size, 4, none⟩) (Nat.le_refl _) (.slice (some ⟨w1.heap.size + 1, 1, none⟩) (n - 1) (n - 1))) a1))).mono ?_); rintro e u2 ⟨rfl, a2⟩)
    go_ret
    exact ⟨rfl, below_then (below_then b1 (below_then (hb12.setCell (p := ⟨w1.heap.size, 4, none⟩) (Nat.le_refl _) (.slice (some ⟨w1.heap.size + 1, 1, none⟩) (n - 1) (n - 1))) a1)) a2⟩
  · -- 5
    have c0 := hT2.cell 0
    have c1 := hT2.cell 1
    have c2 := hT2.cell 2
    simp only [List.getElem?_toArray, List.getElem?_cons_zero, List.getElem?_cons_succ] at c0 c1 c2
    have hfT := hT2.frozen
    have hS5 := hT2.set_ 0 (.int .i64 (n : Int))
    go_wp2_with fail
    (with_reducible refine (wrong_d (Cf.mk (n : Int) ((n : Int) + 116) 3 3 3 A1 2 2 A2 3 3 (some ⟨w1.heap.size + 1, 0, none⟩) n n (some ⟨w1.heap.size + 1 + 1, 0, none⟩) 1 1 [0, 2] [0, 1, 1] (List.replicate n 0) [((n : Int), 0, 100)]) 1 (e_5 h1 h2) _ (edge_in (Cf.mk (n : Int) ((n : Int) + 116) 3 3 3 A1 2 2 A2 3 3 (some ⟨w1.heap.size + 1, 0, none⟩) n n (some ⟨w1.heap.size + 1 + 1, 0, none⟩) 1 1 [0, 2] [0, 1, 1] (List.replicate n 0) [((n : Int), 0, 100)]) H1C.out (hb12.setCell (p := ⟨w1.heap.size + 1 + 1, 0, none⟩) (by simp only; omega) (.int .i64 (n : Int))) ⟨rfl, rfl, rfl⟩ (H1C.out.on (hb12.setCell (p := ⟨w1.heap.size + 1 + 1, 0, none⟩) (by simp only; omega) (.int .i64 (n : Int)))).s ((hO3.far_ (p := ⟨w1.heap.size + 1 + 1, 0, none⟩) (by simp) (.int .i64 (n : Int))).lies (by simp)) (hS5.liesT (fun j hj => by simp [stCells]) rfl) (by simp only; omega)) (hw1.on (hb12.setCell (p := ⟨w1.heap.size + 1 + 1, 0, none⟩) (by simp only; omega) (.int .i64 (n : Int))))).mono ?_)
    rintro e u1 ⟨rfl, a1⟩
    go_wp2_with (go_at_call 10; (with_reducible refine (lives_any u1 (hw1.on (below_then (hb12.setCell (p := ⟨w1.heap.size + 1 + 1, 0, none⟩) (by simp only; omega) (.int .i64 (n : Int))) a1))).mono ?_); rintro e u2 ⟨rfl, a2⟩)
    go_ret
    exact ⟨rfl, below_then (below_then b1 (below_then (hb12.setCell (p := ⟨w1.heap.size + 1 + 1, 0, none⟩) (by simp only; omega) (.int .i64 (n : Int))) a1)) a2⟩
  · -- 6
    have c0 := hT2.cell 0
    have c1 := hT2.cell 1
    have c2 := hT2.cell 2
    simp only [List.getElem?_toArray, List.getElem?_cons_zero, List.getElem?_cons_succ] at c0 c1 c2
    have hfT := hT2.frozen
    have hS5 := hT2.set_ 2 (.int .i64 101)
    go_wp2_with fail
    (with_reducible refine (wrong_d (Cf.mk (n : Int) ((n : Int) + 116) 3 3 3 A1 2 2 A2 3 3 (some ⟨w1.heap.size + 1, 0, none⟩) n n (some ⟨w1.heap.size + 1 + 1, 0, none⟩) 1 1 [0, 2] [0, 1, 1] (List.replicate n 0) [((n : Int) - 1, 0, 101)]) 3 (e_6 h1 h2) _ (edge_in (Cf.mk (n : Int) ((n : Int) + 116) 3 3 3 A1 2 2 A2 3 3 (some ⟨w1.heap.size + 1, 0, none⟩) n n (some ⟨w1.heap.size + 1 + 1, 0, none⟩) 1 1 [0, 2] [0, 1, 1] (List.replicate n 0) [((n : Int) - 1, 0, 101)]) H1C.out (hb12.setCell (p := ⟨w1.heap.size + 1 + 1, 2, none⟩) (by simp only; omega) (.int .i64 101)) ⟨rfl, rfl, rfl⟩ (H1C.out.on (hb12.setCell (p := ⟨w1.heap.size + 1 + 1, 2, none⟩) (by simp only; omega) (.int .i64 101))).s ((hO3.far_ (p := ⟨w1.heap.size + 1 + 1, 2, none⟩) (by simp) (.int .i64 101)).lies (by simp)) (hS5.liesT (fun j hj => by simp [stCells]) rfl) (by simp only; omega)) (hw1.on (hb12.setCell (p := ⟨w1.heap.size + 1 + 1, 2, none⟩) (by simp only; omega) (.int .i64 101)))).mono ?_)
    rintro e u1 ⟨rfl, a1⟩
    go_wp2_with (go_at_call 10; (with_reducible refine (lives_any u1 (hw1.on (below_then (hb12.setCell (p := ⟨w1.heap.size + 1 + 1, 2, none⟩) (by simp only; omega) (.int .i64 101)) a1))).mono ?_); rintro e u2 ⟨rfl, a2⟩)
    go_ret
    exact ⟨rfl, below_then (below_then b1 (below_then (hb12.setCell (p := ⟨w1.heap.size + 1 + 1, 2, none⟩) (by simp only; omega) (.int .i64 101)) a1)) a2⟩
  · -- 7
    have c0 := hT2.cell 0
    have c1 := hT2.cell 1
    have c2 := hT2.cell 2
    simp only [List.getElem?_toArray, List.getElem?_cons_zero, List.getElem?_cons_succ] at c0 c1 c2
    have hfT := hT2.frozen
    have hS5 := hT2.set_ 2 (.int .i64 0)
    go_wp2_with fail
    (with_reducible refine (wrong_d (Cf.mk (n : Int) ((n : Int) + 116) 3 3 3 A1 2 2 A2 3 3 (some ⟨w1.heap.size + 1, 0, none⟩) n n (some ⟨w1.heap.size + 1 + 1, 0, none⟩) 1 1 [0, 2] [0, 1, 1] (List.replicate n 0) [((n : Int) - 1, 0, 0)]) 1 (e_7 h1 h2) _ (edge_in (Cf.mk (n : Int) ((n : Int) + 116) 3 3 3 A1 2 2 A2 3 3 (some ⟨w1.heap.size + 1, 0, none⟩) n n (some ⟨w1.heap.size + 1 + 1, 0, none⟩) 1 1 [0, 2] [0, 1, 1] (List.replicate n 0) [((n : Int) - 1, 0, 0)]) H1C.out (hb12.setCell (p := ⟨w1.heap.size + 1 + 1, 2, none⟩) (by simp only; omega) (.int .i64 0)) ⟨rfl, rfl, rfl⟩ (H1C.out.on (hb12.setCell (p := ⟨w1.heap.size + 1 + 1, 2, none⟩) (by simp only; omega) (.int .i64 0))).s ((hO3.far_ (p := ⟨w1.heap.size + 1 + 1, 2, none⟩) (by simp) (.int .i64 0)).lies (by simp)) (hS5.liesT (fun j hj => by simp [stCells]) rfl) (by simp only; omega)) (hw1.on (hb12.setCell (p := ⟨w1.heap.size + 1 + 1, 2, none⟩) (by simp only; omega) (.int .i64 0)))).mono ?_)
    rintro e u1 ⟨rfl, a1⟩
    go_wp2_with (go_at_call 10; (with_reducible refine (lives_any u1 (hw1.on (below_then (hb12.setCell (p := ⟨w1.heap.size + 1 + 1, 2, none⟩) (by simp only; omega) (.int .i64 0)) a1))).mono ?_); rintro e u2 ⟨rfl, a2⟩)
    go_ret
    exact ⟨rfl, below_then (below_then b1 (below_then (hb12.setCell (p := ⟨w1.heap.size + 1 + 1, 2, none⟩) (by simp only; omega) (.int .i64 0)) a1)) a2⟩
  · -- 8
    go_wp2_with fail
    (with_reducible refine (wrong_d (Cf.mk (n : Int) ((n : Int) + 116) 0 3 3 A1 2 2 A2 3 3 (some ⟨w1.heap.size + 1, 0, none⟩) n n (some ⟨w1.heap.size + 1 + 1, 0, none⟩) 1 1 [0, 2] [0, 1, 1] (List.replicate n 0) [((n : Int) - 1, 0, 100)]) 1 (e_8 h1 h2) _ (edge_in (Cf.mk (n : Int) ((n : Int) + 116) 0 3 3 A1 2 2 A2 3 3 (some ⟨w1.heap.size + 1, 0, none⟩) n n (some ⟨w1.heap.size + 1 + 1, 0, none⟩) 1 1 [0, 2] [0, 1, 1] (List.replicate n 0) [((n : Int) - 1, 0, 100)]) H1C.out (hb12.setCell (p := ⟨w1.heap.size, 6, none⟩) (Nat.le_refl _) (.int .i64 0)) ⟨rfl, rfl, rfl⟩ (H1C.out.on (hb12.setCell (p := ⟨w1.heap.size, 6, none⟩) (Nat.le_refl _) (.int .i64 0))).s ((hO3.far_ (p := ⟨w1.heap.size, 6, none⟩) (by simp) (.int .i64 0)).lies (by simp)) (HLT.out _ (hT2.far_ (p := ⟨w1.heap.size, 6, none⟩) (by simp; omega) (.int .i64 0))) (by simp only; omega)) (hw1.on (hb12.setCell (p := ⟨w1.heap.size, 6, none⟩) (Nat.le_refl _) (.int .i64 0)))).mono ?_)
    rintro e u1 ⟨rfl, a1⟩
    go_wp2_with (go_at_call 10; (with_reducible refine (lives_any u1 (hw1.on (below_then (hb12.setCell (p := ⟨w1.heap.size, 6, none⟩) (Nat.le_refl _) (.int .i64 0)) a1))).mono ?_); rintro e u2 ⟨rfl, a2⟩)
    go_ret
    exact ⟨rfl, below_then (below_then b1 (below_then (hb12.setCell (p := ⟨w1.heap.size, 6, none⟩) (Nat.le_refl _) (.int .i64 0)) a1)) a2⟩
  · -- 9
    go_wp2_with fail
    (with_reducible refine (wrong_d (Cf.mk (n : Int) ((n : Int) + 116) 3 101 3 A1 2 2 A2 3 3 (some ⟨w1.heap.size + 1, 0, none⟩) n n (some ⟨w1.heap.size + 1 + 1, 0, none⟩) 1 1 [0, 2] [0, 1, 1] (List.replicate n 0) [((n : Int) - 1, 0, 100)]) 3 (e_9 h1 h2) _ (edge_in (Cf.mk (n : Int) ((n : Int) + 116) 3 101 3 A1 2 2 A2 3 3 (some ⟨w1.heap.size + 1, 0, none⟩) n n (some ⟨w1.heap.size + 1 + 1, 0, none⟩) 1 1 [0, 2] [0, 1, 1] (List.replicate n 0) [((n : Int) - 1, 0, 100)]) H1C.out (hb12.setCell (p := ⟨w1.heap.size, 7, none⟩) (Nat.le_refl _) (.int .i64 101)) ⟨rfl, rfl, rfl⟩ (H1C.out.on (hb12.setCell (p := ⟨w1.heap.size, 7, none⟩) (Nat.le_refl _) (.int .i64 101))).s ((hO3.far_ (p := ⟨w1.heap.size, 7, none⟩) (by simp) (.int .i64 101)).lies (by simp)) (HLT.out _ (hT2.far_ (p := ⟨w1.heap.size, 7, none⟩) (by simp; omega) (.int .i64 101))) (by simp only; omega)) (hw1.on (hb12.setCell (p := ⟨w1.heap.size, 7, none⟩) (Nat.le_refl _) (.int .i64 101)))).mono ?_)
    rintro e u1 ⟨rfl, a1⟩
    go_wp2_with (go_at_call 10; (with_reducible refine (lives_any u1 (hw1.on (below_then (hb12.setCell (p := ⟨w1.heap.size, 7, none⟩) (Nat.le_refl _) (.int .i64 101)) a1))).mono ?_); rintro e u2 ⟨rfl, a2⟩)
    go_ret
    exact ⟨rfl, below_then (below_then b1 (below_then (hb12.setCell (p := ⟨w1.heap.size, 7, none⟩) (Nat.le_refl _) (.int .i64 101)) a1)) a2⟩
  · -- 10
    go_wp2_with fail
    (with_reducible refine (wrong_d (Cf.mk (n : Int) ((n : Int) + 116) 3 3 0 A1 2 2 A2 3 3 (some ⟨w1.heap.size + 1, 0, none⟩) n n (some ⟨w1.heap.size + 1 + 1, 0, none⟩) 1 1 [0, 2] [0, 1, 1] (List.replicate n 0) [((n : Int) - 1, 0, 100)]) 1 (e_10 h1 h2) _ (edge_in (Cf.mk (n : Int) ((n : Int) + 116) 3 3 0 A1 2 2 A2 3 3 (some ⟨w1.heap.size + 1, 0, none⟩) n n (some ⟨w1.heap.size + 1 + 1, 0, none⟩) 1 1 [0, 2] [0, 1, 1] (List.replicate n 0) [((n : Int) - 1, 0, 100)]) H1C.out (hb12.setCell (p := ⟨w1.heap.size, 8, none⟩) (Nat.le_refl _) (.int .i64 0)) ⟨rfl, rfl, rfl⟩ (H1C.out.on (hb12.setCell (p := ⟨w1.heap.size, 8, none⟩) (Nat.le_refl _) (.int .i64 0))).s ((hO3.far_ (p := ⟨w1.heap.size, 8, none⟩) (by simp) (.int .i64 0)).lies (by simp)) (HLT.out _ (hT2.far_ (p := ⟨w1.heap.size, 8, none⟩) (by simp; omega) (.int .i64 0))) (by simp only; omega)) (hw1.on (hb12.setCell (p := ⟨w1.heap.size, 8, none⟩) (Nat.le_refl _) (.int .i64 0)))).mono ?_)
    rintro e u1 ⟨rfl, a1⟩
    go_wp2_with (go_at_call 10; (with_reducible refine (lives_any u1 (hw1.on (below_then (hb12.setCell (p := ⟨w1.heap.size, 8, none⟩) (Nat.le_refl _) (.int .i64 0)) a1))).mono ?_); rintro e u2 ⟨rfl, a2⟩)
    go_ret
    exact ⟨rfl, below_then (below_then b1 (below_then (hb12.setCell (p := ⟨w1.heap.size, 8, none⟩) (Nat.le_refl _) (.int .i64 0)) a1)) a2⟩
  · -- 11
    have hlt2 := hV2.lt
    have hS5 : Blk ((w2.setCell ⟨w1.heap.size, 2, none⟩ (.slice (some ⟨w2.heap.size, 0, none⟩) 3 3)).alloc (.cells #[.int .i64 0, .int .i64 0, .int .i64 0] 3)) w2.heap.size 3 (cellsOf .i64 [0, 0, 0]) := by
      have h := Blk.new (w2.setCell ⟨w1.heap.size, 2, none⟩ (.slice (some ⟨w2.heap.size, 0, none⟩) 3 3)) 3 #[.int .i64 0, .int .i64 0, .int .i64 0]
      rw [show (w2.setCell ⟨w1.heap.size, 2, none⟩ (.slice (some ⟨w2.heap.size, 0, none⟩) 3 3)).heap.size = w2.heap.size by simp [World.setCell]] at h
      exact h
    go_wp2_with fail
    (with_reducible refine (wrong_d (Cf.mk (n : Int) ((n : Int) + 116) 3 3 3 A1 2 2 (some ⟨w2.heap.size, 0, none⟩) 3 3 (some ⟨w1.heap.size + 1, 0, none⟩) n n (some ⟨w1.heap.size + 1 + 1, 0, none⟩) 1 1 [0, 2] [0, 0, 0] (List.replicate n 0) [((n : Int) - 1, 0, 100)]) 1 (e_11 h1 h2) _ (edge_in (Cf.mk (n : Int) ((n : Int) + 116) 3 3 3 A1 2 2 (some ⟨w2.heap.size, 0, none⟩) 3 3 (some ⟨w1.heap.size + 1, 0, none⟩) n n (some ⟨w1.heap.size + 1 + 1, 0, none⟩) 1 1 [0, 2] [0, 0, 0] (List.replicate n 0) [((n : Int) - 1, 0, 100)]) H1C.out (below_al (hb12.setCell (p := ⟨w1.heap.size, 2, none⟩) (Nat.le_refl _) (.slice (some ⟨w2.heap.size, 0, none⟩) 3 3)) (.cells #[.int .i64 0, .int .i64 0, .int .i64 0] 3)) ⟨rfl, rfl, rfl⟩ (hS5.lies rfl) (((hO3.far_ (p := ⟨w1.heap.size, 2, none⟩) (by simp) (.slice (some ⟨w2.heap.size, 0, none⟩) 3 3)).alloc (.cells #[.int .i64 0, .int .i64 0, .int .i64 0] 3)).lies (by simp)) (HLT.out _ ((hT2.far_ (p := ⟨w1.heap.size, 2, none⟩) (by simp; omega) (.slice (some ⟨w2.heap.size, 0, none⟩) 3 3)).alloc (.cells #[.int .i64 0, .int .i64 0, .int .i64 0] 3))) (by simp only; omega)) (hw1.on (below_al (hb12.setCell (p := ⟨w1.heap.size, 2, none⟩) (Nat.le_refl _) (.slice (some ⟨w2.heap.size, 0, none⟩) 3 3)) (.cells #[.int .i64 0, .int .i64 0, .int .i64 0] 3)))).mono ?_)
    rintro e u1 ⟨rfl, a1⟩
    go_wp2_with (go_at_call 10; (with_reducible refine (lives_any u1 (hw1.on (below_then (below_al (hb12.setCell (p := ⟨w1.heap.size, 2, none⟩) (Nat.le_refl _) (.slice (some ⟨w2.heap.size, 0, none⟩) 3 3)) (.cells #[.int .i64 0, .int .i64 0, .int .i64 0] 3)) a1))).mono ?_); rintro e u2 ⟨rfl, a2⟩)
    go_ret
    exact ⟨rfl, below_then (below_then b1 (below_then (below_al (hb12.setCell (p := ⟨w1.heap.size, 2, none⟩) (Nat.le_refl _) (.slice (some ⟨w2.heap.size, 0, none⟩) 3 3)) (.cells #[.int .i64 0, .int .i64 0, .int .i64 0] 3)) a1)) a2⟩
  · -- 12
    have hlt2 := hV2.lt
    obtain ⟨Z, hZ⟩ : ∃ Z : List Int, Z = List.replicate 17 0 := ⟨_, rfl⟩
    have HE := Lib.hid (e_12 h1 h2)
    rw [← hZ] at HE
    have HZL := Lib.hid (show Z.length = 17 by rw [hZ]; rfl)
    have hmk : ∀ u, (Instr.makeSlice 22 (.int .i64 17) (.int .i64 17)).run Tryd.prog u = .ok (.slice (some ⟨u.heap.size, 0, none⟩) 17 17) (u.alloc (.cells (cellsOf .i64 Z) 3)) := fun u => by
      have h := makeNums 17 (by omega) (by omega) u
      have e17 : madeCells #[.int .i64 0] 17 = cellsOf .i64 (List.replicate 17 0) := by
        apply Array.toList_inj.1
        rw [toList_madeCells_one]
        simp only [cellsOf, List.map_replicate]
      rw [show Int.toNat 17 = 17 from rfl, e17, ← hZ] at h
      exact h
    clear hZ
    have hS5 : Blk ((w2.setCell ⟨w1.heap.size, 2, none⟩ (.slice (some ⟨w2.heap.size, 0, none⟩) 17 17)).alloc (.cells (cellsOf .i64 Z) 3)) w2.heap.size 3 (cellsOf .i64 Z) := by
      have h := Blk.new (w2.setCell ⟨w1.heap.size, 2, none⟩ (.slice (some ⟨w2.heap.size, 0, none⟩) 17 17)) 3 (cellsOf .i64 Z)
      rw [show (w2.setCell ⟨w1.heap.size, 2, none⟩ (.slice (some ⟨w2.heap.size, 0, none⟩) 17 17)).heap.size = w2.heap.size by simp [World.setCell]] at h
      exact h
    go_wp2_with fail
    (with_reducible refine (wrong_d (Cf.mk (n : Int) ((n : Int) + 116) 3 3 3 A1 2 2 (some ⟨w2.heap.size, 0, none⟩) 17 17 (some ⟨w1.heap.size + 1, 0, none⟩) n n (some ⟨w1.heap.size + 1 + 1, 0, none⟩) 1 1 [0, 2] Z (List.replicate n 0) [((n : Int) - 1, 0, 100)]) 3 HE.out _ (edge_in (Cf.mk (n : Int) ((n : Int) + 116) 3 3 3 A1 2 2 (some ⟨w2.heap.size, 0, none⟩) 17 17 (some ⟨w1.heap.size + 1, 0, none⟩) n n (some ⟨w1.heap.size + 1 + 1, 0, none⟩) 1 1 [0, 2] Z (List.replicate n 0) [((n : Int) - 1, 0, 100)]) H1C.out (below_al (hb12.setCell (p := ⟨w1.heap.size, 2, none⟩) (Nat.le_refl _) (.slice (some ⟨w2.heap.size, 0, none⟩) 17 17)) (.cells (cellsOf .i64 Z) 3)) ⟨rfl, rfl, rfl⟩ (hS5.lies HZL.out) (((hO3.far_ (p := ⟨w1.heap.size, 2, none⟩) (by simp) (.slice (some ⟨w2.heap.size, 0, none⟩) 17 17)).alloc (.cells (cellsOf .i64 Z) 3)).lies (by simp)) (HLT.out _ ((hT2.far_ (p := ⟨w1.heap.size, 2, none⟩) (by simp; omega) (.slice (some ⟨w2.heap.size, 0, none⟩) 17 17)).alloc (.cells (cellsOf .i64 Z) 3))) (by simp only; omega)) (hw1.on (below_al (hb12.setCell (p := ⟨w1.heap.size, 2, none⟩) (Nat.le_refl _) (.slice (some ⟨w2.heap.size, 0, none⟩) 17 17)) (.cells (cellsOf .i64 Z) 3)))).mono ?_)
    rintro e u1 ⟨rfl, a1⟩
    go_wp2_with (go_at_call 10; (with_reducible refine (lives_any u1 (hw1.on (below_then (below_al (hb12.setCell (p := ⟨w1.heap.size, 2, none⟩) (Nat.le_refl _) (.slice (some ⟨w2.heap.size, 0, none⟩) 17 17)) (.cells (cellsOf .i64 Z) 3)) a1))).mono ?_); rintro e u2 ⟨rfl, a2⟩)
    go_ret
    exact ⟨rfl, below_then (below_then b1 (below_then (below_al (hb12.setCell (p := ⟨w1.heap.size, 2, none⟩) (Nat.le_refl _) (.slice (some ⟨w2.heap.size, 0, none⟩) 17 17)) (.cells (cellsOf .i64 Z) 3)) a1)) a2⟩
end Go.Proofs.YtibniadebbgjcaaDoor
