/-
  The contracts of package configs' rules and New: what is wrong first, or a net of the config, whose lists have memory of their own; nothing that was there has turned. Conditions: the config's reading; the table of directions is as the program's text lays it.
-/
import Derived.Test.YtkejpkcaojidaaaGreatDoorCpy
import Derived.Test.YtkejpkcaojidaaaGreatDoorCf4
import Derived.Test.YtkejpkcaojidaaaGreatDoorReg2
namespace Go.Proofs.YtkejpkcaojidaaaGreatDoor
set_option linter.unusedVariables false
set_option linter.unusedSimpArgs false
open Go.RowKit Rg

theorem Lies.none0 {k : IntKind} {w : World} {B n : Nat} {xs : List Int} (h : Lies k w B none n xs) : n = 0 ∧ xs = [] := by
  have h0 : n = 0 := by
    rcases Nat.eq_zero_or_pos n with q | q
    · exact q
    · obtain ⟨b, off, e, _⟩ := h.2 q; cases e
  exact ⟨h0, List.eq_nil_of_length_eq_zero (h.1.trans h0)⟩
theorem LiesT.none0 {w : World} {B n : Nat} {ts : List (Int × Int × Int)} (h : LiesT w B none n ts) : n = 0 ∧ ts = [] := by
  have h0 : n = 0 := by
    rcases Nat.eq_zero_or_pos n with q | q
    · exact q
    · obtain ⟨b, off, e, _⟩ := h.2 q; cases e
  exact ⟨h0, List.eq_nil_of_length_eq_zero (h.1.trans h0)⟩

set_option maxRecDepth 100000 in
theorem own_any (A : Option Addr) (n c : Nat) (xs : List Int) (w : World) (hx : Lies .i64 w w.heap.size A n xs) (hn : n ≤ 65536) :
    Calls Tryz.prog 78 #[.slice A n c] w fun e w' => ∃ A', e = .returned (.slice A' n n) ∧ OwnN w' w.heap.size A' n xs ∧ Below w.heap.size w w' := by
  cases A with
  | none =>
    obtain ⟨rfl, rfl⟩ := hx.none0
    have hnil : ∀ w : World, (binOp .eql 22 (.slice none 0 c) (.slice none 0 0)).run Tryz.prog w = .ok (.bool true) w := fun _ => rfl
    go_enter Tryz.func78, Tryz.ntmps78
    go_wp2_with fail
    go_ret
    exact ⟨none, rfl, ⟨rfl, fun h => absurd h (by omega)⟩, Below.refl _ _⟩
  | some ad =>
    have hmk := fun u => makeNums (n : Int) (by omega) (by omega) u
    simp only [Int.toNat_natCast] at hmk
    obtain ⟨cs, hcs⟩ : ∃ cs, cs = xs.map (Value.int .i64) := ⟨_, rfl⟩
    have HCS := Lib.hid hcs
    have HL := Lib.hid hx.len
    clear hcs
    have hnil : ∀ w : World, (binOp .eql 22 (.slice (some ad) n c) (.slice none 0 0)).run Tryz.prog w = .ok (.bool false) w := fun _ => rfl
    go_enter Tryz.func78, Tryz.ntmps78
    go_wp2_with (with_reducible refine wpList_copy_whole rfl (.tmp 9) (.tmp 10) 22 22 rfl 3 Tryz.underlying22 1 szNums (some ad) n n c w.heap.size rfl rfl (madeCells #[.int .i64 0] n) 3 ?h1 cs ?h2 ?h3 ?h4 ?h5 w.heap.size w ?h6 (Nat.le_refl _) ?_)
    case h1 => exact Blk.new w _ _
    case h2 => rw [HCS.out, List.length_map, HL.out]; omega
    case h3 => rw [made_size]; omega
    case h4 => rw [HCS.out]; intro h0; exact ((hx.al _).src h0)
    case h5 => rw [HCS.out]; exact ints_oneCell _ _
    case h6 => exact (Below.refl _ _).alloc (Nat.le_refl _) _
    intro w2 hrow hb2
    have hblk : Blk w2 w.heap.size 3 (cellsOf .i64 xs) := by
      have h := hrow.out
      rw [HCS.out] at h
      exact h
    clear hrow hmk HCS
    go_wp2_with fail
    go_ret
    exact ⟨_, rfl, ⟨HL.out, fun _ => ⟨_, rfl, Nat.le_refl _, hblk⟩⟩, hb2⟩
set_option maxRecDepth 100000 in
theorem ownT_any (A : Option Addr) (n c : Nat) (ts : List (Int × Int × Int)) (w : World) (hx : LiesT w w.heap.size A n ts) (hn : n ≤ 65536) :
    Calls Tryz.prog 79 #[.slice A n c] w fun e w' => ∃ A', e = .returned (.slice A' n n) ∧ OwnT w' w.heap.size A' n ts ∧ Below w.heap.size w w' := by
  cases A with
  | none =>
    obtain ⟨rfl, rfl⟩ := hx.none0
    have hnil : ∀ w : World, (binOp .eql 23 (.slice none 0 c) (.slice none 0 0)).run Tryz.prog w = .ok (.bool true) w := fun _ => rfl
    go_enter Tryz.func79, Tryz.ntmps79
    go_wp2_with fail
    go_ret
    exact ⟨none, rfl, ⟨rfl, fun h => absurd h (by omega)⟩, Below.refl _ _⟩
  | some ad =>
    have hmk := fun u => makeSts n (by omega) u
    obtain ⟨cs, hcs⟩ : ∃ cs, cs = stCells ts := ⟨_, rfl⟩
    have HCS := Lib.hid hcs
    have HL := Lib.hid hx.len
    have HX := Lib.hid (fun o => (hx.on ((Below.refl _ _).alloc (Nat.le_refl _) o)).src)
    clear hcs hx
    have hnil : ∀ w : World, (binOp .eql 23 (.slice (some ad) n c) (.slice none 0 0)).run Tryz.prog w = .ok (.bool false) w := fun _ => rfl
    go_enter Tryz.func79, Tryz.ntmps79
    go_wp2_with (with_reducible refine wpList_copy_whole rfl (.tmp 9) (.tmp 10) 23 23 rfl 131 Tryz.underlying23 3 szSts (some ad) n n c w.heap.size rfl rfl (madeCells #[.int .i64 0, .int .u32 0, .int .i64 0] (n * 3)) 131 ?h1 cs ?h2 ?h3 ?h4 ?h5 w.heap.size w ?h6 (Nat.le_refl _) ?_)
    case h1 => exact Blk.new w _ _
    case h2 => rw [HCS.out, stCells_len, HL.out]
    case h3 => simp [madeCells]
    case h4 => rw [HCS.out]; intro h0; exact HX.out _ h0
    case h5 => rw [HCS.out]; exact stCells_one _
    case h6 => exact (Below.refl _ _).alloc (Nat.le_refl _) _
    intro w2 hrow hb2
    have hblk : Blk w2 w.heap.size 131 (stCells ts).toArray := by
      have h := hrow.out
      rw [HCS.out] at h
      exact h
    clear hrow hmk HCS
    go_wp2_with fail
    go_ret
    exact ⟨_, rfl, ⟨HL.out, fun _ => ⟨_, rfl, Nat.le_refl _, hblk⟩⟩, hb2⟩
section
variable {w : World} {base n : Nat} {A : Option Addr} {xs : List Int} {ts : List (Int × Int × Int)}
theorem OwnN.far (h : OwnN w base A n xs) {p : Addr} (hp : p.block < base) (u : Value) : OwnN (w.setCell p u) base A n xs := ⟨h.1, fun hn => by
  obtain ⟨g, e, hg, hB⟩ := h.2 hn
  exact ⟨g, e, hg, (Below.heap_setCell w p u g (by omega)).trans hB⟩⟩
theorem OwnT.far (h : OwnT w base A n ts) {p : Addr} (hp : p.block < base) (u : Value) : OwnT (w.setCell p u) base A n ts := ⟨h.1, fun hn => by
  obtain ⟨g, e, hg, hB⟩ := h.2 hn
  exact ⟨g, e, hg, (Below.heap_setCell w p u g (by omega)).trans hB⟩⟩
end
/-- The same config, its lists elsewhere, without room behind. -/
abbrev Cf.to (c : Cf) (A1 A2 A3 A4 : Option Addr) : Cf := { c with pA := A1, pc := c.pn, sA := A2, sc := c.sn, bA := A3, bc := c.bn, tA := A4, tc := c.tn }
/-- A config's lists of numbers lie apart. -/
def CfAp (c : Cf) : Prop := (0 < c.pn → 0 < c.sn → c.pA ≠ c.sA) ∧ (0 < c.pn → 0 < c.bn → c.pA ≠ c.bA) ∧ (0 < c.sn → 0 < c.bn → c.sA ≠ c.bA)
theorem own_apart {w w' : World} {b1 b2 n m : Nat} {A A' : Option Addr} {xs ys : List Int} (h1 : OwnN w b1 A n xs) (h2 : OwnN w' b2 A' m ys) (hb : w.heap.size ≤ b2) : 0 < n → 0 < m → A ≠ A' := fun hn hm e => by
  obtain ⟨g, e1, _, hB⟩ := h1.2 hn
  obtain ⟨g', e2, hg', _⟩ := h2.2 hm
  rw [e1, e2] at e
  injection e with e
  injection e with e
  have := hB.lt
  omega
/-- A config whose lists have memory of their own. -/
structure CfOwn (w : World) (base : Nat) (c : Cf) : Prop where
  p : OwnN w base c.pA c.pn c.P
  s : OwnN w base c.sA c.sn c.S
  b : OwnN w base c.bA c.bn c.B
  t : OwnT w base c.tA c.tn c.T
  few : c.pn ≤ 65536 ∧ c.sn ≤ 65536 ∧ c.bn ≤ 65536 ∧ c.tn ≤ 65536
  ap : CfAp c
theorem CfOwn.on {w w' : World} {base : Nat} {c : Cf} (h : CfOwn w base c) (hb : Below w.heap.size w w') : CfOwn w' base c := ⟨h.p.on hb, h.s.on hb, h.b.on hb, h.t.on hb, h.few, h.ap⟩
theorem CfOwn.mono {w : World} {base base' : Nat} {c : Cf} (h : CfOwn w base c) (hb : base' ≤ base) : CfOwn w base' c := ⟨h.p.mono hb, h.s.mono hb, h.b.mono hb, h.t.mono hb, h.few, h.ap⟩
theorem CfOwn.far {w : World} {base : Nat} {c : Cf} (h : CfOwn w base c) {p : Addr} (hp : p.block < base) (u : Value) : CfOwn (w.setCell p u) base c := ⟨h.p.far hp u, h.s.far hp u, h.b.far hp u, h.t.far hp u, h.few, h.ap⟩
theorem CfOwn.in_ {w : World} {base : Nat} {c : Cf} (h : CfOwn w base c) : CfIn w c := ⟨h.p.lies, h.s.lies, h.b.lies, h.t.lies, h.few⟩
end Go.Proofs.YtkejpkcaojidaaaGreatDoor

namespace Go.Proofs.YtkejpkcaojidaaaGreatDoor
open Go.RowKit Rg

set_option maxRecDepth 100000 in
theorem copied_any (c : Cf) (w : World) (hc : CfIn w c) :
    Calls Tryz.prog 42 #[.agg #[.int .i64 c.N, .slice c.pA c.pn c.pc, .slice c.sA c.sn c.sc, .int .i64 c.L, .slice c.bA c.bn c.bc, .slice c.tA c.tn c.tc, .int .i64 c.M, .int .i64 c.G, .int .i64 c.F]] w fun e w' => ∃ A1 A2 A3 A4, e = .returned (.agg #[.int .i64 c.N, .slice A1 c.pn c.pn, .slice A2 c.sn c.sn, .int .i64 c.L, .slice A3 c.bn c.bn, .slice A4 c.tn c.tn, .int .i64 c.M, .int .i64 c.G, .int .i64 c.F]) ∧ CfOwn w' w.heap.size (c.to A1 A2 A3 A4) ∧ Below w.heap.size w w' := by
  obtain ⟨f1, f2, f3, f4⟩ := hc.few
  have HC := Lib.hid hc
  clear hc
  go_enter Tryz.func42, Tryz.ntmps42
  go_wp2_with (first
    | (go_at_call 78; (with_reducible refine (own_any c.pA c.pn c.pc c.P _ ((HC.out.al _).al _).p f1).mono ?_)
       rintro e w1 ⟨A1, rfl, o1, b1⟩
       have hB1 : Blk w1 w.heap.size 25 #[.int .i64 c.N, .slice c.pA c.pn c.pc, .slice c.sA c.sn c.sc, .int .i64 c.L, .slice c.bA c.bn c.bc, .slice c.tA c.tn c.tc, .int .i64 c.M, .int .i64 c.G, .int .i64 c.F] := ((Blk.new w _ _).alloc _).on b1
       have hb1 := below_then (below_al (below_al (Below.refl _ w) _) _) b1
       have hfr1 := hB1.frozen
       have hZ1 : Blk w1 (w.heap.size + 1) 25 #[.int .i64 0, .slice none 0 0, .slice none 0 0, .int .i64 0, .slice none 0 0, .slice none 0 0, .int .i64 0, .int .i64 0, .int .i64 0] := by
         have h := Blk.new (w.alloc (.cells #[.int .i64 c.N, .slice c.pA c.pn c.pc, .slice c.sA c.sn c.sc, .int .i64 c.L, .slice c.bA c.bn c.bc, .slice c.tA c.tn c.tc, .int .i64 c.M, .int .i64 c.G, .int .i64 c.F] 25)) 25 #[.int .i64 0, .slice none 0 0, .slice none 0 0, .int .i64 0, .slice none 0 0, .slice none 0 0, .int .i64 0, .int .i64 0, .int .i64 0]
         rw [alloc_size] at h
         exact h.on b1
       have o1 := o1.mono (base' := w.heap.size + 2) (by simp)
       clear b1
       obtain ⟨k0, k1, k2, k3, k4, k5, k6, k7, k8⟩ := hB1.cf)
    | (go_at_call 78; (with_reducible refine (own_any c.sA c.sn c.sc c.S _ (HC.out.on (hb1.setCell (Nat.le_refl _) _)).s f2).mono ?_)
       rintro e w2 ⟨A2, rfl, o2, b2⟩
       have d12 := own_apart o1 o2 (by simp [World.setCell])
       have hB2 : Blk w2 w.heap.size 25 #[.int .i64 c.N, .slice A1 c.pn c.pn, .slice c.sA c.sn c.sc, .int .i64 c.L, .slice c.bA c.bn c.bc, .slice c.tA c.tn c.tc, .int .i64 c.M, .int .i64 c.G, .int .i64 c.F] := (hB1.set_ 1 _).on b2
       have hZ2 := (hZ1.far_ (p := ⟨w.heap.size, 1, none⟩) (by simp) (.slice A1 c.pn c.pn)).on b2
       have hb2 := below_then (hb1.setCell (Nat.le_refl _) _) b2
       have o1 := (o1.far (p := ⟨w.heap.size, 1, none⟩) (by simp) (.slice A1 c.pn c.pn)).on b2
       have o2 := o2.mono (base' := w.heap.size + 2) (by have := hB1.lt; have := hZ1.lt; simpa [World.setCell] using (by omega))
       have hfr2 := hB2.frozen
       clear b2 hB1 hZ1 hb1 hfr1 k0 k1 k2 k3 k4 k5 k6 k7 k8
       obtain ⟨k0, k1, k2, k3, k4, k5, k6, k7, k8⟩ := Blk.cf (c := { c with pA := A1, pc := c.pn }) hB2)
    | (go_at_call 78; (with_reducible refine (own_any c.bA c.bn c.bc c.B _ (HC.out.on (hb2.setCell (Nat.le_refl _) _)).b f3).mono ?_)
       rintro e w3 ⟨A3, rfl, o3, b3⟩
       have d13 := own_apart o1 o3 (by simp [World.setCell])
       have d23 := own_apart o2 o3 (by simp [World.setCell])
       have hB3 : Blk w3 w.heap.size 25 #[.int .i64 c.N, .slice A1 c.pn c.pn, .slice A2 c.sn c.sn, .int .i64 c.L, .slice c.bA c.bn c.bc, .slice c.tA c.tn c.tc, .int .i64 c.M, .int .i64 c.G, .int .i64 c.F] := (hB2.set_ 2 _).on b3
       have hZ3 := (hZ2.far_ (p := ⟨w.heap.size, 2, none⟩) (by simp) (.slice A2 c.sn c.sn)).on b3
       have hb3 := below_then (hb2.setCell (Nat.le_refl _) _) b3
       have o1 := (o1.far (p := ⟨w.heap.size, 2, none⟩) (by simp) (.slice A2 c.sn c.sn)).on b3
       have o2 := (o2.far (p := ⟨w.heap.size, 2, none⟩) (by simp) (.slice A2 c.sn c.sn)).on b3
       have o3 := o3.mono (base' := w.heap.size + 2) (by have := hB2.lt; have := hZ2.lt; simpa [World.setCell] using (by omega))
       have hfr3 := hB3.frozen
       clear b3 hB2 hZ2 hb2 hfr2 k0 k1 k2 k3 k4 k5 k6 k7 k8
       obtain ⟨k0, k1, k2, k3, k4, k5, k6, k7, k8⟩ := Blk.cf (c := { c with pA := A1, pc := c.pn, sA := A2, sc := c.sn }) hB3)
    | (go_at_call 79; (with_reducible refine (ownT_any c.tA c.tn c.tc c.T _ (HC.out.on (hb3.setCell (Nat.le_refl _) _)).t f4).mono ?_)
       rintro e w4 ⟨A4, rfl, o4, b4⟩
       have hB4 : Blk w4 w.heap.size 25 #[.int .i64 c.N, .slice A1 c.pn c.pn, .slice A2 c.sn c.sn, .int .i64 c.L, .slice A3 c.bn c.bn, .slice c.tA c.tn c.tc, .int .i64 c.M, .int .i64 c.G, .int .i64 c.F] := (hB3.set_ 4 _).on b4
       have hZ4 := (hZ3.far_ (p := ⟨w.heap.size, 4, none⟩) (by simp) (.slice A3 c.bn c.bn)).on b4
       have hb4 := below_then (hb3.setCell (Nat.le_refl _) _) b4
       have o1 := (o1.far (p := ⟨w.heap.size, 4, none⟩) (by simp) (.slice A3 c.bn c.bn)).on b4
       have o2 := (o2.far (p := ⟨w.heap.size, 4, none⟩) (by simp) (.slice A3 c.bn c.bn)).on b4
       have o3 := (o3.far (p := ⟨w.heap.size, 4, none⟩) (by simp) (.slice A3 c.bn c.bn)).on b4
       have o4 := o4.mono (base' := w.heap.size + 2) (by have := hB3.lt; have := hZ3.lt; simpa [World.setCell] using (by omega))
       have hfr4 := hB4.frozen
       clear b4 hB3 hZ3 hb3 hfr3 k0 k1 k2 k3 k4 k5 k6 k7 k8
       have hfz := hZ4.frozen
       have z0 := hZ4.cell 0
       have z1 := hZ4.cell 1
       have z2 := hZ4.cell 2
       have z3 := hZ4.cell 3
       have z4 := hZ4.cell 4
       have z5 := hZ4.cell 5
       have z6 := hZ4.cell 6
       have z7 := hZ4.cell 7
       have z8 := hZ4.cell 8
       simp at z0 z1 z2 z3 z4 z5 z6 z7 z8
       obtain ⟨k0, k1, k2, k3, k4, k5, k6, k7, k8⟩ := Blk.cf (c := { c with pA := A1, pc := c.pn, sA := A2, sc := c.sn, bA := A3, bc := c.bn }) hB4))
  refine bodyPost_ret (v := .agg #[.int .i64 c.N, .slice A1 c.pn c.pn, .slice A2 c.sn c.sn, .int .i64 c.L, .slice A3 c.bn c.bn, .slice A4 c.tn c.tn, .int .i64 c.M, .int .i64 c.G, .int .i64 c.F]) (by simp [results, Tryz.results42, go_sem, z0, z1, z2, z3, z4, z5, z6, z7, z8]) rfl ⟨A1, A2, A3, A4, rfl, CfOwn.mono ⟨((((((((((o1.far (by simp) _).far (by simp) _).far (by simp) _).far (by simp) _).far (by simp) _).far (by simp) _).far (by simp) _).far (by simp) _).far (by simp) _).far (by simp) _), ((((((((((o2.far (by simp) _).far (by simp) _).far (by simp) _).far (by simp) _).far (by simp) _).far (by simp) _).far (by simp) _).far (by simp) _).far (by simp) _).far (by simp) _), ((((((((((o3.far (by simp) _).far (by simp) _).far (by simp) _).far (by simp) _).far (by simp) _).far (by simp) _).far (by simp) _).far (by simp) _).far (by simp) _).far (by simp) _), ((((((((((o4.far (by simp) _).far (by simp) _).far (by simp) _).far (by simp) _).far (by simp) _).far (by simp) _).far (by simp) _).far (by simp) _).far (by simp) _).far (by simp) _), ⟨f1, f2, f3, f4⟩, ⟨d12, d13, d23⟩⟩ (by omega), ?_⟩
  exact ((((((((((hb4.setCell (by simp) _).setCell (by simp) _).setCell (by simp) _).setCell (by simp) _).setCell (by simp) _).setCell (by simp) _).setCell (by simp) _).setCell (by simp) _).setCell (by simp) _).setCell (by simp) _)
end Go.Proofs.YtkejpkcaojidaaaGreatDoor

namespace Go.Proofs.YtkejpkcaojidaaaGreatDoor
open Go.RowKit Rg

/-- The rules' functions, in their order. -/
def ruleF (k : Nat) : FuncId := [66, 68, 69, 70, 71, 72, 74, 75, 76, 77].getD k 0
def ruleCells : Array Value := #[.func (.func 66) #[] #[], .func (.func 68) #[] #[], .func (.func 69) #[] #[], .func (.func 70) #[] #[], .func (.func 71) #[] #[], .func (.func 72) #[] #[], .func (.func 74) #[] #[], .func (.func 75) #[] #[], .func (.func 76) #[] #[], .func (.func 77) #[] #[]]
theorem ruleCells_at : ∀ k, k < 10 → ruleCells[k]? = some (.func (.func (ruleF k)) #[] #[])
  | 0, _ => rfl
  | 1, _ => rfl
  | 2, _ => rfl
  | 3, _ => rfl
  | 4, _ => rfl
  | 5, _ => rfl
  | 6, _ => rfl
  | 7, _ => rfl
  | 8, _ => rfl
  | 9, _ => rfl
  | _ + 10, h => absurd h (by omega)
theorem rules_any (w : World) :
    Calls Tryz.prog 41 #[] w fun e w' => e = .returned (.slice (some ⟨w.heap.size, 0, none⟩) 10 10) ∧ w.alloc (.cells ruleCells 135) = w' := by
  go_enter Tryz.func41, Tryz.ntmps41
  go_wp2_with fail
  go_ret
  exact ⟨rfl, rfl⟩
/-- Each rule says what the mathematics says, where those ahead of it are kept. -/
theorem rule_any (k : Nat) (hk : k < 10) (c : Cf) (w : World) (hc : CfIn w c) (hw : Ways w) (hp : ∀ j, j < k → (errs c).getD j 0 = 0) :
    Calls Tryz.prog (ruleF k) #[.agg #[.int .i64 c.N, .slice c.pA c.pn c.pc, .slice c.sA c.sn c.sc, .int .i64 c.L, .slice c.bA c.bn c.bc, .slice c.tA c.tn c.tc, .int .i64 c.M, .int .i64 c.G, .int .i64 c.F]] w fun e w' => e = .returned (.int .i64 ((errs c).getD k 0)) ∧ Below w.heap.size w w' := by
  have hN : 0 < k → 4 ≤ c.N ∧ c.N ≤ 16 := fun h => wit_ok.1 (hp 0 h)
  match k, hk with
  | 0, _ => exact rule1_any c w
  | 1, _ => exact rule2_any c w
  | 2, _ => exact rule3_any c w hc hw (hN (by omega)).1 (hN (by omega)).2
  | 3, _ => exact rule4_any c w
  | 4, _ => exact rule5_any c w hc
  | 5, _ => exact rule6_any c w (hN (by omega)).1 (hN (by omega)).2
  | 6, _ => exact rule7_any c w hc
  | 7, _ => exact rule8_any c w
  | 8, _ => exact rule9_any c w hc
  | 9, _ => exact rule10_any c w

set_option maxRecDepth 100000 in
theorem ruleF_enter (k : Nat) (hk : k < 10) (args : Array Value) (w : World) : (callFunc (ruleF k) args).run Tryz.prog w = .ok (.enter (ruleF k) args) w := by
  match k, hk with
  | 0, _ => rfl
  | 1, _ => rfl
  | 2, _ => rfl
  | 3, _ => rfl
  | 4, _ => rfl
  | 5, _ => rfl
  | 6, _ => rfl
  | 7, _ => rfl
  | 8, _ => rfl
  | 9, _ => rfl
theorem elemRule : Tryz.prog.underlying 132 = some (.slice (Tryz.prog.elem 132)) := by kernel_rfl
theorem sizeRule (w : World) : (sizeOf (Tryz.prog.elem 132)).run Tryz.prog w = .ok 1 w := by kernel_rfl
theorem idxRule {A : Option Addr} {n : Nat} (c : Nat) {k b off : Nat} (hA : A = some ⟨b, off, none⟩) (hk : k < n) (w : World) :
    (Instr.indexAt 132 (.slice A n c) (.int .i64 (k : Int))).run Tryz.prog w = .ok (.pointer (some ⟨b, off + k, none⟩)) w := by
  subst hA
  rw [run_indexAt_slice (h := elemRule), if_pos (by omega), sizeRule]
  simp [Result.andThen, Addr.add_lit]

def NewPost (c : Cf) (w : World) (e : Ending) (w' : World) : Prop := Below w.heap.size w w' ∧ ((newE c ≠ 0 ∧ e = .returned (.tuple #[.pointer none, .int .i64 (newE c)])) ∨
  (newE c = 0 ∧ ∃ (g : Nat) (b : Cf) (A1 A2 A3 A4 : Option Addr), e = .returned (.tuple #[.pointer (some ⟨g, 0, none⟩), .int .i64 0]) ∧ w.heap.size ≤ g ∧
    Blk w' g 78 #[.int .i64 b.N, .slice b.pA b.pn b.pc, .slice b.sA b.sn b.sc, .int .i64 b.L, .slice b.bA b.bn b.bc, .slice b.tA b.tn b.tc, .int .i64 b.M, .int .i64 b.G, .int .i64 b.F, .int .i64 c.N, .slice A1 c.pn c.pn, .slice A2 c.sn c.sn, .int .i64 c.L, .slice A3 c.bn c.bn, .slice A4 c.tn c.tn, .int .i64 c.M, .int .i64 c.G, .int .i64 c.F] ∧ CfOwn w' w.heap.size (c.to A1 A2 A3 A4)))

/-- What is known of a copy, of a net that is built, of a net in its block. -/
def Reg.Fact.cpy (c : Cf) (base : Nat) : Reg.Fact := ⟨fun v w => ∃ A1 A2 A3 A4, v = .agg #[.int .i64 c.N, .slice A1 c.pn c.pn, .slice A2 c.sn c.sn, .int .i64 c.L, .slice A3 c.bn c.bn, .slice A4 c.tn c.tn, .int .i64 c.M, .int .i64 c.G, .int .i64 c.F] ∧ CfOwn w base (c.to A1 A2 A3 A4), fun _ _ _ hb h => by
  obtain ⟨A1, A2, A3, A4, e, ho⟩ := h
  exact ⟨A1, A2, A3, A4, e, ho.on hb⟩⟩
def Reg.Fact.net (c : Cf) (base : Nat) : Reg.Fact := ⟨fun v w => ∃ (b : Cf) (A1 A2 A3 A4 : Option Addr), v = .agg #[.int .i64 b.N, .slice b.pA b.pn b.pc, .slice b.sA b.sn b.sc, .int .i64 b.L, .slice b.bA b.bn b.bc, .slice b.tA b.tn b.tc, .int .i64 b.M, .int .i64 b.G, .int .i64 b.F, .int .i64 c.N, .slice A1 c.pn c.pn, .slice A2 c.sn c.sn, .int .i64 c.L, .slice A3 c.bn c.bn, .slice A4 c.tn c.tn, .int .i64 c.M, .int .i64 c.G, .int .i64 c.F] ∧ CfOwn w base (c.to A1 A2 A3 A4), fun _ _ _ hb h => by
  obtain ⟨b, A1, A2, A3, A4, e, ho⟩ := h
  exact ⟨b, A1, A2, A3, A4, e, ho.on hb⟩⟩
def Reg.Fact.netp (c : Cf) (base : Nat) : Reg.Fact := ⟨fun v w => ∃ (g : Nat) (b : Cf) (A1 A2 A3 A4 : Option Addr), v = .pointer (some ⟨g, 0, none⟩) ∧ base ≤ g ∧ Blk w g 78 #[.int .i64 b.N, .slice b.pA b.pn b.pc, .slice b.sA b.sn b.sc, .int .i64 b.L, .slice b.bA b.bn b.bc, .slice b.tA b.tn b.tc, .int .i64 b.M, .int .i64 b.G, .int .i64 b.F, .int .i64 c.N, .slice A1 c.pn c.pn, .slice A2 c.sn c.sn, .int .i64 c.L, .slice A3 c.bn c.bn, .slice A4 c.tn c.tn, .int .i64 c.M, .int .i64 c.G, .int .i64 c.F] ∧ CfOwn w base (c.to A1 A2 A3 A4), fun _ _ _ hb h => by
  obtain ⟨g, b, A1, A2, A3, A4, e, hg, hB, ho⟩ := h
  exact ⟨g, b, A1, A2, A3, A4, e, hg, hB.on hb, ho.on hb⟩⟩

set_option maxRecDepth 100000 in
theorem new_any (c : Cf) (w : World) (hc : CfIn w c) (hw : Ways w) :
    Calls Tryz.prog 21 #[.agg #[.int .i64 c.N, .slice c.pA c.pn c.pc, .slice c.sA c.sn c.sc, .int .i64 c.L, .slice c.bA c.bn c.bc, .slice c.tA c.tn c.tc, .int .i64 c.M, .int .i64 c.G, .int .i64 c.F]] w (NewPost c w) := by
  have HC := Lib.hid hc
  have HW := Lib.hid hw
  have HLE := Lib.hid (show (errs c).length = 10 from rfl)
  clear hc hw
  go_enter Tryz.func21, Tryz.ntmps21
  go_wp2_with (go_at_call 41; (with_reducible refine (rules_any _).mono ?_); rintro e w1 ⟨rfl, rfl⟩)
  go_loopw [9] (fun i wr => ∃ k : Nat, k ≤ 10 ∧ i = .int .i64 k ∧ Hid (newE c = firstE ((errs c).drop k)) ∧ Hid (∀ j, j < k → (errs c).getD j 0 = 0) ∧ Blk wr w.heap.size 25 #[.int .i64 c.N, .slice c.pA c.pn c.pc, .slice c.sA c.sn c.sc, .int .i64 c.L, .slice c.bA c.bn c.bc, .slice c.tA c.tn c.tc, .int .i64 c.M, .int .i64 c.G, .int .i64 c.F] ∧ Blk wr (w.heap.size + 1) 135 ruleCells ∧ Below w.heap.size w wr) (fun i _ => 10 - (intOf i).toNat)
  case atStart =>
    refine ⟨0, Nat.zero_le _, rfl, Lib.hid rfl, Lib.hid fun j hj => absurd hj (by omega), (Blk.new w _ _).alloc _, ?_, below_al (below_al (Below.refl _ _) _) _⟩
    have := Blk.new (w.alloc (.cells #[.int .i64 c.N, .slice c.pA c.pn c.pc, .slice c.sA c.sn c.sc, .int .i64 c.L, .slice c.bA c.bn c.bc, .slice c.tA c.tn c.tc, .int .i64 c.M, .int .i64 c.G, .int .i64 c.F] 25)) 135 ruleCells
    rw [alloc_size] at this
    exact this
  case round =>
    obtain ⟨k, hk, rfl, ht, hp, hB1, hB2, hb⟩ := hrel
    have hz := hb.size
    obtain ⟨k0, k1, k2, k3, k4, k5, k6, k7, k8⟩ := hB1.cf
    have hbk : w.heap.size < wr.heap.size := hB1.lt
    have hbk2 : w.heap.size + 1 < wr.heap.size := hB2.lt
    by_cases hlt : k < 10
    · have hcell := (hB2.cell k).trans (ruleCells_at k hlt)
      have hix := fun W => idxRule (n := 10) 10 (b := w.heap.size + 1) (off := 0) rfl hlt W
      have HD := Lib.hid (firstE_drop (errs c) k (by have := HLE.out; omega))
      have HS := Lib.hid (firstE_stop (errs c) k (by have := HLE.out; omega))
      have HN := Lib.hid (show (errs c).getD k 0 = 0 → ∀ j, j < k + 1 → (errs c).getD j 0 = 0 from fun h j hj => by
        rcases Nat.lt_succ_iff_lt_or_eq.1 hj with q | q
        · exact hp.out j q
        · rw [q]; exact h)
      have HR := Lib.hid (fun W hW hw => rule_any k hlt c W hW hw hp.out)
      obtain ⟨v, hv⟩ : ∃ v, v = (errs c).getD k 0 := ⟨_, rfl⟩
      obtain ⟨f, hf⟩ : ∃ f, f = ruleF k := ⟨_, rfl⟩
      rw [← hv] at HD HS HN HR
      have hcf := fun args W => ruleF_enter k hlt args W
      rw [← hf] at HR hcell hcf
      clear hv hf
      simp only [Nat.zero_add] at hix
      have hst : ∀ (W : World) (a : Addr), (store a (.func (.func f) #[] #[])).run Tryz.prog W = stored Tryz.prog W a (.func (.func f) #[] #[]) .plain := fun W a => run_store Tryz.prog W a _ _ rfl
      by_cases hv0 : v = 0
      · subst hv0
        have HD0 := Lib.hid (ht.out.trans (HD.out rfl))
        have HN0 := Lib.hid (HN.out rfl)
        clear HD HN HS
        go_wp2_with ((with_reducible refine (HR.out _ ((HC.out.on hb).al _) ((HW.out.on hb).al _)).mono ?_); rintro e w1 ⟨rfl, hb1⟩)
        go_roundw
        case rel => exact ⟨k + 1, by omega, by go_num, HD0, HN0, (hB1.alloc _).on hb1, (hB2.alloc _).on hb1, below_then (hb.alloc hz _) hb1⟩
        case measure => simp [intOf]; omega
      · have hvb := beq_eq_false_iff_ne.2 hv0
        have HV := Lib.hid hv0
        have HE := Lib.hid (ht.out.trans (HS.out hv0))
        clear hv0
        go_wp2_with ((with_reducible refine (HR.out _ ((HC.out.on hb).al _) ((HW.out.on hb).al _)).mono ?_); rintro e w1 ⟨rfl, hb1⟩)
        go_ret2
        exact ⟨below_then (hb.alloc hz _) hb1, .inl ⟨by rw [HE.out]; exact HV.out, by rw [HE.out]; rfl⟩⟩
    · have HX := Lib.hid (show newE c = 0 by rw [ht.out, List.drop_of_length_le (by have := HLE.out; omega)]; rfl)
      clear ht hp
      go_wp2_with fail
      refine Reg.wp_slots (fun t => t == 2 || t == 3 || decide (21 ≤ t)) (by kernel_rfl) (by kernel_rfl) (by kernel_rfl) (fun zz => (Reg.tbl [
        (21, .is (.agg #[.int .i64 c.N, .slice c.pA c.pn c.pc, .slice c.sA c.sn c.sc, .int .i64 c.L, .slice c.bA c.bn c.bc, .slice c.tA c.tn c.tc, .int .i64 c.M, .int .i64 c.G, .int .i64 c.F])),
        (22, .cpy c w.heap.size),
        (23, .is (.agg #[.int .i64 c.N, .slice c.pA c.pn c.pc, .slice c.sA c.sn c.sc, .int .i64 c.L, .slice c.bA c.bn c.bc, .slice c.tA c.tn c.tc, .int .i64 c.M, .int .i64 c.G, .int .i64 c.F])),
        (24, .cpy c w.heap.size),
        (25, .net c w.heap.size),
        (26, .netp c w.heap.size),
        (2, .netp c w.heap.size),
        (3, .is (.int .i64 0))] zz).P) (fun zz => (Reg.tbl _ zz).on) ?_ ?_
      · simp only [Reg.frame, Reg.over, Nat.reduceAdd, Nat.reduceBEq, Nat.reduceLeDiff, decide_true, decide_false, Bool.or_true, Bool.or_false, if_true, Bool.false_eq_true, if_false]
        refine ⟨?_, ?_, ?_, ?_, ?_, ?_, ?_, ?_, trivial⟩
        · intro x u hbu hd
          obtain ⟨q0, q1, q2, q3, q4, q5, q6, q7, q8⟩ := (hB1.on hbu).cf
          refine wpOp_step rfl fun K hK => ?_
          go_simp
          exact hK _ _ ⟨_, rfl, Below.refl _ _, fun d hd => by cases hd; exact rfl⟩
        · intro x u hbu hd
          have h21 : x 21 = .agg #[.int .i64 c.N, .slice c.pA c.pn c.pc, .slice c.sA c.sn c.sc, .int .i64 c.L, .slice c.bA c.bn c.bc, .slice c.tA c.tn c.tc, .int .i64 c.M, .int .i64 c.G, .int .i64 c.F] := hd 0 (by decide)
          refine wpOp_step rfl fun K hK => ?_
          simp only [h21] at hK ⊢
          go_simp
          refine (copied_any c u (HC.out.on (below_then hb hbu))).mono ?_
          rintro e w2 ⟨A1, A2, A3, A4, rfl, o1, b1⟩
          exact hK _ _ ⟨_, rfl, b1, fun d hd => by cases hd; exact ⟨A1, A2, A3, A4, rfl, o1.mono (Nat.le_trans hz hbu.size)⟩⟩
        · intro x u hbu hd
          obtain ⟨q0, q1, q2, q3, q4, q5, q6, q7, q8⟩ := (hB1.on hbu).cf
          refine wpOp_step rfl fun K hK => ?_
          go_simp
          exact hK _ _ ⟨_, rfl, Below.refl _ _, fun d hd => by cases hd; exact rfl⟩
        · intro x u hbu hd
          have h23 : x 23 = .agg #[.int .i64 c.N, .slice c.pA c.pn c.pc, .slice c.sA c.sn c.sc, .int .i64 c.L, .slice c.bA c.bn c.bc, .slice c.tA c.tn c.tc, .int .i64 c.M, .int .i64 c.G, .int .i64 c.F] := hd 2 (by decide)
          refine wpOp_step rfl fun K hK => ?_
          simp only [h23] at hK ⊢
          go_simp
          refine (copied_any c u (HC.out.on (below_then hb hbu))).mono ?_
          rintro e w2 ⟨A1, A2, A3, A4, rfl, o1, b1⟩
          exact hK _ _ ⟨_, rfl, b1, fun d hd => by cases hd; exact ⟨A1, A2, A3, A4, rfl, o1.mono (Nat.le_trans hz hbu.size)⟩⟩
        · intro x u hbu hd
          have k22 : (Reg.Fact.cpy c w.heap.size).P (x 22) u := hd 1 (by decide)
          have k24 : (Reg.Fact.cpy c w.heap.size).P (x 24) u := hd 3 (by decide)
          obtain ⟨A1, A2, A3, A4, h22, o1⟩ := k22
          obtain ⟨B1, B2, B3, B4, h24, o2⟩ := k24
          refine wpOp_step rfl fun K hK => ?_
          simp only [h22, h24] at hK ⊢
          go_simp
          exact hK _ _ ⟨_, rfl, Below.refl _ _, fun d hd => by cases hd; exact ⟨c.to A1 A2 A3 A4, B1, B2, B3, B4, rfl, o2⟩⟩
        · intro x u hbu hd
          have k25 : (Reg.Fact.net c w.heap.size).P (x 25) u := hd 4 (by decide)
          obtain ⟨b, A1, A2, A3, A4, h25, o1⟩ := k25
          refine wpOp_step rfl fun K hK => ?_
          simp only [h25] at hK ⊢
          go_simp
          exact hK _ _ ⟨_, rfl, below_al (Below.refl _ _) _, fun d hd => by cases hd; exact ⟨u.heap.size, b, A1, A2, A3, A4, rfl, Nat.le_trans hz hbu.size, Blk.new _ _ _, o1.on (below_al (Below.refl _ _) _)⟩⟩
        · intro x u hbu hd
          have k26 : (Reg.Fact.netp c w.heap.size).P (x 26) u := hd 5 (by decide)
          obtain ⟨g, b, A1, A2, A3, A4, h26, hg, hN, o1⟩ := k26
          refine wpOp_step rfl fun K hK => ?_
          simp only [h26] at hK ⊢
          go_simp
          exact hK _ _ ⟨_, rfl, Below.refl _ _, fun d hd => by cases hd; exact ⟨g, b, A1, A2, A3, A4, rfl, hg, hN, o1⟩⟩
        · intro x u hbu hd
          refine wpOp_step rfl fun K hK => ?_
          go_simp
          exact hK _ _ ⟨_, rfl, Below.refl _ _, fun d hd => by cases hd; exact rfl⟩
      · intro x u hbu hd
        have k2 : (Reg.Fact.netp c w.heap.size).P (x 2) u := hd 6 (by decide)
        have h3 : x 3 = .int .i64 0 := hd 7 (by decide)
        obtain ⟨g, b, A1, A2, A3, A4, h2, hg, hN, o1⟩ := k2
        simp only [Reg.frame, Reg.over, Nat.reduceAdd, Nat.reduceBEq, Nat.reduceLeDiff, decide_true, decide_false, Bool.or_true, Bool.or_false, if_true, Bool.false_eq_true, if_false, h2, h3]
        go_wp2_with fail
        go_ret2
        exact ⟨below_then hb hbu, .inr ⟨HX.out, g, b, A1, A2, A3, A4, rfl, hg, hN, o1⟩⟩
end Go.Proofs.YtkejpkcaojidaaaGreatDoor

