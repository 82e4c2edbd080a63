/-
  The contract of the reference's Syms of frames: a frame's symbols with a tail, in new memory; ErrArg and nothing, if it may not be. Conditions: the frame's numbers are of their kinds.
-/
import Derived.Test.YtkjdlcobidglcaaFr7
import Derived.Deep.RegionLaw
namespace Go.Proofs.Ytkjdlcobidglcaa
open Go.RowKit Crc

/-- append of a list onto a row of the call's own, as one step of a region that draws its order. -/
theorem step_append_lies {P : Program} {ops : Array Oper} {o : Oper} {a : Act} {w : World} {K : Act → World → Prop} {Q : Exit → Act → World → Prop} {E : Prop} (hgd : o.guard = none) (s x : Operand) (t : TypeId)
    (ho : o.op = .call { callee := .builtin .append, args := #[s, x], argTypes := #[t, t] })
    (base : Nat) (e : TypeId) (i : TypeInfo) (z : Value) (bytes : Nat) (ht : P.underlying t = some (.slice e)) (hi : P.info? e = some i) (hz : i.zero = some z)
    (hsize : i.size = 1) (hby : i.bytes = bytes) (hzs : z.cells.size = 1) (k : IntKind)
    (A : Option Addr) (n c : Nat) (xs : List Int) (hs : a.eval s = .slice A n c) (hown : w.ownsRow base e 1 (.slice A n c) n (xs.map (Value.int k)))
    (B : Option Addr) (m d : Nat) (ys : List Int) (hx : a.eval x = .slice B m d) (hr : Lies k w w.heap.size B m ys) (N : Nat) (hN : n + m = N) (h63 : N ≤ maxLen) (hbytes : N * bytes ≤ 140737488355328) (hbase : base ≤ w.heap.size)
    (h : ∀ A' c' w', w'.ownsRow base e 1 (.slice A' N c') N ((xs ++ ys).map (Value.int k)) → w.grownBy w' (Value.slice A n c).ownBlock → K (a.put o.dst (.slice A' N c')) w') :
    if Region.wanted o (yielded ops a.tmps) = true then Oper.wp P o a w K Q else E := by
  have hw : Region.wanted o (yielded ops a.tmps) = true := by simp [Region.wanted, hgd]
  rw [if_pos hw]
  subst hN
  obtain ⟨A', c', w', hrun, h2, h3, h4⟩ := run_append_lies (P := P) w base t o.type e i z bytes ht hi hz hsize hby hzs k (.slice A n c) n xs hown B m d ys hr h63 hbytes hbase
  unfold Oper.wp
  simp only [execOp, ho, resolve, invoke, builtin, Sem.run_bind, Sem.run_pure, Result.andThen_ok, List.map_toArray, List.map_cons, List.map_nil, hs, hx, hrun]
  exact h A' c' w' h2 h3

theorem Blk.onD {w w' : World} {g : Nat} {t : TypeId} {cs : Array Value} (h : Blk w g t cs) (hb : Below w.drew.heap.size w.drew w') : Blk w' g t cs := Blk.on (w := w.drew) h hb
theorem refFrSyms_no (f : Fr) (a b : Bool) (w : World) (hm : mayB f.o f.k = false) :
    Calls Try.prog 13 #[.agg #[.int .i64 f.o, .int .u8 f.k, .int .u8 f.s, .int .u32 f.q, .int .u32 f.v], .agg #[.bool a, .bool b]] w fun e w' => e = .returned (.tuple #[.slice none 0 0, .int .i64 1]) ∧ Below w.heap.size w w' := by
  have HP := Lib.hid (fun u => refFrPut_no f u hm)
  clear hm
  go_enter Try.func13, Try.ntmps13
  go_wp2_with (go_at_call 11; (with_reducible refine (HP.out _).mono ?_); rintro e w1 ⟨rfl, hb1⟩)
  go_ret2
  exact ⟨rfl, below_then (below_al (below_al (Below.refl _ _) _) _) hb1⟩

set_option maxRecDepth 100000 in
set_option maxHeartbeats 4000000 in
theorem refFrSyms_yes (f : Fr) (a b : Bool) (w : World) (hf : f.Fit) (hm : mayB f.o f.k = true) :
    Calls Try.prog 13 #[.agg #[.int .i64 f.o, .int .u8 f.k, .int .u8 f.s, .int .u32 f.q, .int .u32 f.v], .agg #[.bool a, .bool b]] w fun e w' => ∃ A' c', e = .returned (.tuple #[.slice A' 114 c', .int .i64 0]) ∧ Lies .u8 w' w'.heap.size A' 114 (ofL (putL f.body) ++ tailL a b) ∧ Below w.heap.size w w' := by
  obtain ⟨i0, hi0, hz0, hz1, hz2⟩ := info_parts info_sym
  have HP := Lib.hid (fun u => refFrPut_yes f u hf hm)
  have HPB := Lib.hid (putL_bd _ (Fr.body_bd hf hm))
  obtain ⟨L, hL⟩ : ∃ L, L = putL f.body := ⟨_, rfl⟩
  rw [← hL] at HP HPB ⊢
  have HO := Lib.hid (fun u A c (h : Lies .u8 u u.heap.size A 14 L) => refSyms_owns A 14 c L u h HPB.out (by omega))
  simp only [show 8 * 14 = 112 from rfl] at HO
  obtain ⟨X, hX⟩ : ∃ X, X = ofL L := ⟨_, rfl⟩
  rw [← hX] at HO ⊢
  have hT := Blk.new (w.alloc (.cells #[.int .i64 f.o, .int .u8 f.k, .int .u8 f.s, .int .u32 f.q, .int .u32 f.v] 28)) 39 #[.bool a, .bool b]
  rw [alloc_size] at hT
  clear hf hm hL hX
  go_enter Try.func13, Try.ntmps13
  go_wp2_with (go_at_call 11; (with_reducible refine (HP.out _).mono ?_); rintro e w1 ⟨A1, c1, rfl, hl1, hb1⟩; have hT1 := hT.on hb1; have t0 := hT1.cell 0; have t1 := hT1.cell 1; have hlt := hT1.lt)
  have hbw := below_then (below_al (below_al (Below.refl _ _) _) _) hb1
  simp only [List.getElem?_toArray, List.getElem?_cons_zero, List.getElem?_cons_succ] at t0 t1
  clear hT hb1 HP
  go_region_law (first
    | (go_simp; go_at_call 40; with_reducible refine (HO.out _ A1 c1 hl1.drew).mono ?_; rintro e w2 ⟨A2, c2, rfl, hown, hb2⟩; have hT2 := hT1.onD hb2; have u0 := hT2.cell 0; have u1 := hT2.cell 1; have hlt2 := hT2.lt; simp only [List.getElem?_toArray, List.getElem?_cons_zero, List.getElem?_cons_succ] at u0 u1)
    | (go_simp; go_at_call 19; with_reducible refine (refTail_any a b _).mono ?_; rintro e w3 ⟨g3, rfl, hg3, hB3, hb3⟩; have hown3 := owns_kept hown (KeptBut.below hb3 []) (by simp); have hl3 := hB3.lies (n := 2) rfl; have hsz3 := Nat.le_trans hb2.size hb3.size)
    | (refine step_append_lies rfl (.tmp 17) (.tmp 19) 40 rfl w1.drew.heap.size 77 i0 _ 1 Try.underlying40 hi0 hz0 hz1 hz2 rfl .u8 A2 112 c2 X (by simp [Act.eval]) hown3 (some ⟨g3, 0, none⟩) 2 2 (tailL a b) (by simp [Act.eval]) hl3 114 rfl (by unfold maxLen; omega) (by omega) hsz3 ?_; intro A4 c4 w4 hown4 hg4))
  all_goals
    have hb4 := (below_then (hbw.drew) (below_then hb2 hb3)).grown hg4 (Nat.le_trans hbw.size hsz3) (fun g hg => Nat.le_trans hbw.size ((hown3.lt g hg).1))
    go_wp2_with fail
    go_ret2
    exact ⟨A4, c4, rfl, lies_of_owns hown4, hb4⟩
end Go.Proofs.Ytkjdlcobidglcaa
