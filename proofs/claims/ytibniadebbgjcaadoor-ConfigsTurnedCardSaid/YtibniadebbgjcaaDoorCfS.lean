/-
  The contracts of the law's SameStations, SameConfig, TwinConfig and LeftConfig: two configs that read as one are told so; a twin is the same config in new memory with marks behind its lists, and is told to be as it was. Conditions: the configs' readings.
-/
import Derived.Test.YtibniadebbgjcaaDoorCf5
import Derived.Test.YtibniadebbgjcaaDoorCf3
import Derived.Test.YtibniadebbgjcaaDoorTwin
import Derived.Laws.StructEq
namespace Go.Proofs.YtibniadebbgjcaaDoor
open Go.RowKit Rg

set_option maxRecDepth 100000 in
theorem sameSts_true (A B : Option Addr) (n c d : Nat) (ts : List (Int × Int × Int)) (w : World) (hx : LiesT w w.heap.size A n ts) (hy : LiesT w w.heap.size B n ts) (hn : n ≤ 65536) :
    Calls Tryd.prog 46 #[.slice A n c, .slice B n d] w fun e w' => e = .returned (.bool true) ∧ Below w.heap.size w w' := by
  go_enter Tryd.func46, Tryd.ntmps46
  go_wp2_with fail
  go_loopw [5] (fun i wr => ∃ k q : Nat, k ≤ n ∧ i = .int .i64 k ∧ wr = w.drewN q) (fun i _ => n - (intOf i).toNat)
  case atStart => exact ⟨0, 0, Nat.zero_le _, rfl, rfl⟩
  case round =>
    obtain ⟨k, q, hk, rfl, rfl⟩ := hrel
    by_cases hlt : k < n
    · obtain ⟨b, off, rfl, hb, hc⟩ := hx.at_ (by omega)
      obtain ⟨b', off', rfl, hb', hc'⟩ := hy.at_ (by omega)
      obtain ⟨q0, q1, q2⟩ := hc k hlt
      obtain ⟨p0, p1, p2⟩ := hc' k hlt
      clear hc hc'
      obtain ⟨⟨x, y, z⟩, hs⟩ : ∃ s, s = ts.getD k (0, 0, 0) := ⟨_, rfl⟩
      rw [← hs] at q0 q1 q2 p0 p1 p2
      clear hs
      simp only at q0 q1 q2 p0 p1 p2
      have hi0 : (0 : Int) ≤ (k : Int) := by omega
      have hi1 : (k : Int) < (n : Int) := by omega
      go_wp2_with fail
      go_quiet (fail)
      go_wp2_with fail
      go_roundw
      case rel => exact ⟨k + 1, _, by omega, by go_num, rfl⟩
      case measure => simp [intOf]; omega
    · go_wp2_with fail
      go_ret
      exact ⟨rfl, below_same q⟩
/-- Two configs that have the same numbers and lists, wherever these lie. -/
structure SameCf (d c : Cf) : Prop where
  N : d.N = c.N
  L : d.L = c.L
  M : d.M = c.M
  G : d.G = c.G
  F : d.F = c.F
  pn : d.pn = c.pn
  sn : d.sn = c.sn
  bn : d.bn = c.bn
  tn : d.tn = c.tn
  P : d.P = c.P
  S : d.S = c.S
  B : d.B = c.B
  T : d.T = c.T
theorem SameCf.refl_ (c : Cf) : SameCf c c := ⟨rfl, rfl, rfl, rfl, rfl, rfl, rfl, rfl, rfl, rfl, rfl, rfl, rfl⟩
theorem SameCf.newE {d c : Cf} (h : SameCf d c) : newE d = newE c := by
  obtain ⟨h1, h2, h3, h4, h5, h6, h7, h8, h9, h10, h11, h12, h13⟩ := h
  simp only [Go.Proofs.YtibniadebbgjcaaDoor.newE, errs, h1, h2, h3, h4, h5, h6, h7, h8, h9, h10, h11, h12, h13]
set_option maxRecDepth 100000 in
theorem sameConfig_true (d c : Cf) (w : World) (hs : SameCf d c) (hd : CfIn w d) (hc : CfIn w c) :
    Calls Tryd.prog 29 #[.agg #[.int .i64 d.N, .slice d.pA d.pn d.pc, .slice d.sA d.sn d.sc, .int .i64 d.L, .slice d.bA d.bn d.bc, .slice d.tA d.tn d.tc, .int .i64 d.M, .int .i64 d.G, .int .i64 d.F], .agg #[.int .i64 c.N, .slice c.pA c.pn c.pc, .slice c.sA c.sn c.sc, .int .i64 c.L, .slice c.bA c.bn c.bc, .slice c.tA c.tn c.tc, .int .i64 c.M, .int .i64 c.G, .int .i64 c.F]] w fun e w' => e = .returned (.bool true) ∧ Below w.heap.size w w' := by
  obtain ⟨N, L, M, G, F, pA, pn, pc, sA, sn, sc, bA, bn, bc, tA, tn, tc, P, S, B, T⟩ := d
  obtain ⟨h1, h2, h3, h4, h5, h6, h7, h8, h9, h10, h11, h12, h13⟩ := hs
  simp only at h1 h2 h3 h4 h5 h6 h7 h8 h9 h10 h11 h12 h13
  subst h1 h2 h3 h4 h5 h6 h7 h8 h9 h10 h11 h12 h13
  obtain ⟨f1, f2, f3, f4⟩ := hc.few
  have hB := fun o1 o2 => below_al (below_al (Below.refl _ w) o1) o2
  have HB := Lib.hid hB
  have HD := Lib.hid (fun o1 o2 => hd.on (hB o1 o2))
  have HC := Lib.hid (fun o1 o2 => hc.on (hB o1 o2))
  clear hB hd hc
  go_enter Tryd.func29, Tryd.ntmps29
  go_wp2_with (first
    | (go_at_call 45; (with_reducible refine (sameNums_true pA c.pA c.pn c.pn pc c.pc c.P c.P _ (HD.out _ _).p (HC.out _ _).p f1 f1 rfl).mono ?_); rintro e w1 ⟨rfl, b1⟩
       have hD := (HD.out _ _).on b1
       have hC := (HC.out _ _).on b1
       have hb := below_then (HB.out _ _) b1
       have k1 := ((Blk.new w 25 #[.int .i64 c.N, .slice pA c.pn pc, .slice sA c.sn sc, .int .i64 c.L, .slice bA c.bn bc, .slice tA c.tn tc, .int .i64 c.M, .int .i64 c.G, .int .i64 c.F]).alloc (.cells #[.int .i64 c.N, .slice c.pA c.pn c.pc, .slice c.sA c.sn c.sc, .int .i64 c.L, .slice c.bA c.bn c.bc, .slice c.tA c.tn c.tc, .int .i64 c.M, .int .i64 c.G, .int .i64 c.F] 25)).on b1
       have k2 := Blk.new (w.alloc (.cells #[.int .i64 c.N, .slice pA c.pn pc, .slice sA c.sn sc, .int .i64 c.L, .slice bA c.bn bc, .slice tA c.tn tc, .int .i64 c.M, .int .i64 c.G, .int .i64 c.F] 25)) 25 #[.int .i64 c.N, .slice c.pA c.pn c.pc, .slice c.sA c.sn c.sc, .int .i64 c.L, .slice c.bA c.bn c.bc, .slice c.tA c.tn c.tc, .int .i64 c.M, .int .i64 c.G, .int .i64 c.F]
       rw [alloc_size] at k2
       replace k2 := k2.on b1
       have p2 := k1.cell 2
       have q2 := k2.cell 2
       simp only [List.getElem?_toArray, List.getElem?_cons_zero, List.getElem?_cons_succ] at p2 q2
       clear HD HC HB b1)
    | (go_at_call 45; (with_reducible refine (sameNums_true sA c.sA c.sn c.sn sc c.sc c.S c.S w1 hD.s hC.s f2 f2 rfl).mono ?_); rintro e w2 ⟨rfl, b2⟩
       replace hD := hD.on b2
       replace hC := hC.on b2
       replace hb := below_then hb b2
       replace k1 := k1.on b2
       replace k2 := k2.on b2
       clear p2 q2
       have p4 := k1.cell 4
       have q4 := k2.cell 4
       simp only [List.getElem?_toArray, List.getElem?_cons_zero, List.getElem?_cons_succ] at p4 q4
       clear b2)
    | (go_at_call 45; (with_reducible refine (sameNums_true bA c.bA c.bn c.bn bc c.bc c.B c.B w2 hD.b hC.b f3 f3 rfl).mono ?_); rintro e w3 ⟨rfl, b3⟩
       replace hD := hD.on b3
       replace hC := hC.on b3
       replace hb := below_then hb b3
       replace k1 := k1.on b3
       replace k2 := k2.on b3
       clear p4 q4
       have p5 := k1.cell 5
       have q5 := k2.cell 5
       simp only [List.getElem?_toArray, List.getElem?_cons_zero, List.getElem?_cons_succ] at p5 q5
       clear b3)
    | (go_at_call 46; (with_reducible refine (sameSts_true tA c.tA c.tn tc c.tc c.T w3 hD.t hC.t f4).mono ?_); rintro e w4 ⟨rfl, b4⟩))
  go_ret
  exact ⟨rfl, below_then hb b4⟩
end Go.Proofs.YtibniadebbgjcaaDoor
