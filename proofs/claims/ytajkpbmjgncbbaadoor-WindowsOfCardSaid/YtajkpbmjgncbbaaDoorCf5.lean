/-
  The contracts of package configs' own and copied: the same lists, in memory of their own, without room behind; nothing that was there has turned. Conditions: the config's reading, lists of at most 65536.
-/
import Derived.Test.YtajkpbmjgncbbaaDoorCpy
namespace Go.Proofs.YtajkpbmjgncbbaaDoor
open Go.RowKit Rg

theorem Lies.none0 {k : IntKind} {w : World} {B n : Nat} {xs : List Int} (h : Lies k w B none n xs) : n = 0 ∧ xs = [] := by
  have h0 : n = 0 := by
    rcases Nat.eq_zero_or_pos n with q | q
    · exact q
    · obtain ⟨b, off, e, _⟩ := h.2 q; cases e
  exact ⟨h0, List.eq_nil_of_length_eq_zero (h.1.trans h0)⟩
theorem LiesT.none0 {w : World} {B n : Nat} {ts : List (Int × Int × Int)} (h : LiesT w B none n ts) : n = 0 ∧ ts = [] := by
  have h0 : n = 0 := by
    rcases Nat.eq_zero_or_pos n with q | q
    · exact q
    · obtain ⟨b, off, e, _⟩ := h.2 q; cases e
  exact ⟨h0, List.eq_nil_of_length_eq_zero (h.1.trans h0)⟩

set_option maxRecDepth 100000 in
theorem own_any (A : Option Addr) (n c : Nat) (xs : List Int) (w : World) (hx : Lies .i64 w w.heap.size A n xs) (hn : n ≤ 65536) :
    Calls Tryd.prog 60 #[.slice A n c] w fun e w' => ∃ A', e = .returned (.slice A' n n) ∧ OwnN w' w.heap.size A' n xs ∧ Below w.heap.size w w' := by
  cases A with
  | none =>
    obtain ⟨rfl, rfl⟩ := hx.none0
    have hnil : ∀ w : World, (binOp .eql 22 (.slice none 0 c) (.slice none 0 0)).run Tryd.prog w = .ok (.bool true) w := fun _ => rfl
    go_enter Tryd.func60, Tryd.ntmps60
    go_wp2_with fail
    go_ret
    exact ⟨none, rfl, ⟨rfl, fun h => absurd h (by omega)⟩, Below.refl _ _⟩
  | some ad =>
    have hmk := fun u => makeNums (n : Int) (by omega) (by omega) u
    simp only [Int.toNat_natCast] at hmk
    obtain ⟨cs, hcs⟩ : ∃ cs, cs = xs.map (Value.int .i64) := ⟨_, rfl⟩
    have HCS := Lib.hid hcs
    have HL := Lib.hid hx.len
    clear hcs
    have hnil : ∀ w : World, (binOp .eql 22 (.slice (some ad) n c) (.slice none 0 0)).run Tryd.prog w = .ok (.bool false) w := fun _ => rfl
    go_enter Tryd.func60, Tryd.ntmps60
    go_wp2_with (with_reducible refine wpList_copy_whole rfl (.tmp 9) (.tmp 10) 22 22 rfl 3 Tryd.underlying22 1 szNums (some ad) n n c w.heap.size rfl rfl (madeCells #[.int .i64 0] n) 3 ?h1 cs ?h2 ?h3 ?h4 ?h5 w.heap.size w ?h6 (Nat.le_refl _) ?_)
    case h1 => exact Blk.new w _ _
    case h2 => rw [HCS.out, List.length_map, HL.out]; omega
    case h3 => rw [made_size]; omega
    case h4 => rw [HCS.out]; intro h0; exact ((hx.al _).src h0)
    case h5 => rw [HCS.out]; exact ints_oneCell _ _
    case h6 => exact (Below.refl _ _).alloc (Nat.le_refl _) _
    intro w2 hrow hb2
    have hblk : Blk w2 w.heap.size 3 (cellsOf .i64 xs) := by
      have h := hrow.out
      rw [HCS.out] at h
      exact h
    clear hrow hmk HCS
    go_wp2_with fail
    go_ret
    exact ⟨_, rfl, ⟨HL.out, fun _ => ⟨_, rfl, Nat.le_refl _, hblk⟩⟩, hb2⟩
set_option maxRecDepth 100000 in
theorem ownT_any (A : Option Addr) (n c : Nat) (ts : List (Int × Int × Int)) (w : World) (hx : LiesT w w.heap.size A n ts) (hn : n ≤ 65536) :
    Calls Tryd.prog 61 #[.slice A n c] w fun e w' => ∃ A', e = .returned (.slice A' n n) ∧ OwnT w' w.heap.size A' n ts ∧ Below w.heap.size w w' := by
  cases A with
  | none =>
    obtain ⟨rfl, rfl⟩ := hx.none0
    have hnil : ∀ w : World, (binOp .eql 23 (.slice none 0 c) (.slice none 0 0)).run Tryd.prog w = .ok (.bool true) w := fun _ => rfl
    go_enter Tryd.func61, Tryd.ntmps61
    go_wp2_with fail
    go_ret
    exact ⟨none, rfl, ⟨rfl, fun h => absurd h (by omega)⟩, Below.refl _ _⟩
  | some ad =>
    have hmk := fun u => makeSts n (by omega) u
    obtain ⟨cs, hcs⟩ : ∃ cs, cs = stCells ts := ⟨_, rfl⟩
    have HCS := Lib.hid hcs
    have HL := Lib.hid hx.len
    have HX := Lib.hid (fun o => (hx.on ((Below.refl _ _).alloc (Nat.le_refl _) o)).src)
    clear hcs hx
    have hnil : ∀ w : World, (binOp .eql 23 (.slice (some ad) n c) (.slice none 0 0)).run Tryd.prog w = .ok (.bool false) w := fun _ => rfl
    go_enter Tryd.func61, Tryd.ntmps61
    go_wp2_with (with_reducible refine wpList_copy_whole rfl (.tmp 9) (.tmp 10) 23 23 rfl 76 Tryd.underlying23 3 szSts (some ad) n n c w.heap.size rfl rfl (madeCells #[.int .i64 0, .int .u32 0, .int .i64 0] (n * 3)) 76 ?h1 cs ?h2 ?h3 ?h4 ?h5 w.heap.size w ?h6 (Nat.le_refl _) ?_)
    case h1 => exact Blk.new w _ _
    case h2 => rw [HCS.out, stCells_len, HL.out]
    case h3 => simp [madeCells]
    case h4 => rw [HCS.out]; intro h0; exact HX.out _ h0
    case h5 => rw [HCS.out]; exact stCells_one _
    case h6 => exact (Below.refl _ _).alloc (Nat.le_refl _) _
    intro w2 hrow hb2
    have hblk : Blk w2 w.heap.size 76 (stCells ts).toArray := by
      have h := hrow.out
      rw [HCS.out] at h
      exact h
    clear hrow hmk HCS
    go_wp2_with fail
    go_ret
    exact ⟨_, rfl, ⟨HL.out, fun _ => ⟨_, rfl, Nat.le_refl _, hblk⟩⟩, hb2⟩
section
variable {w : World} {base n : Nat} {A : Option Addr} {xs : List Int} {ts : List (Int × Int × Int)}
theorem OwnN.far (h : OwnN w base A n xs) {p : Addr} (hp : p.block < base) (u : Value) : OwnN (w.setCell p u) base A n xs := ⟨h.1, fun hn => by
  obtain ⟨g, e, hg, hB⟩ := h.2 hn
  exact ⟨g, e, hg, (Below.heap_setCell w p u g (by omega)).trans hB⟩⟩
theorem OwnT.far (h : OwnT w base A n ts) {p : Addr} (hp : p.block < base) (u : Value) : OwnT (w.setCell p u) base A n ts := ⟨h.1, fun hn => by
  obtain ⟨g, e, hg, hB⟩ := h.2 hn
  exact ⟨g, e, hg, (Below.heap_setCell w p u g (by omega)).trans hB⟩⟩
end
/-- The same config, its lists elsewhere, without room behind. -/
abbrev Cf.to (c : Cf) (A1 A2 A3 A4 : Option Addr) : Cf := { c with pA := A1, pc := c.pn, sA := A2, sc := c.sn, bA := A3, bc := c.bn, tA := A4, tc := c.tn }
/-- A config's lists of numbers lie apart. -/
def CfAp (c : Cf) : Prop := (0 < c.pn → 0 < c.sn → c.pA ≠ c.sA) ∧ (0 < c.pn → 0 < c.bn → c.pA ≠ c.bA) ∧ (0 < c.sn → 0 < c.bn → c.sA ≠ c.bA)
theorem own_apart {w w' : World} {b1 b2 n m : Nat} {A A' : Option Addr} {xs ys : List Int} (h1 : OwnN w b1 A n xs) (h2 : OwnN w' b2 A' m ys) (hb : w.heap.size ≤ b2) : 0 < n → 0 < m → A ≠ A' := fun hn hm e => by
  obtain ⟨g, e1, _, hB⟩ := h1.2 hn
  obtain ⟨g', e2, hg', _⟩ := h2.2 hm
  rw [e1, e2] at e
  injection e with e
  injection e with e
  have := hB.lt
  omega
/-- A config whose lists have memory of their own. -/
structure CfOwn (w : World) (base : Nat) (c : Cf) : Prop where
  p : OwnN w base c.pA c.pn c.P
  s : OwnN w base c.sA c.sn c.S
  b : OwnN w base c.bA c.bn c.B
  t : OwnT w base c.tA c.tn c.T
  few : c.pn ≤ 65536 ∧ c.sn ≤ 65536 ∧ c.bn ≤ 65536 ∧ c.tn ≤ 65536
  ap : CfAp c
theorem CfOwn.on {w w' : World} {base : Nat} {c : Cf} (h : CfOwn w base c) (hb : Below w.heap.size w w') : CfOwn w' base c := ⟨h.p.on hb, h.s.on hb, h.b.on hb, h.t.on hb, h.few, h.ap⟩
theorem CfOwn.mono {w : World} {base base' : Nat} {c : Cf} (h : CfOwn w base c) (hb : base' ≤ base) : CfOwn w base' c := ⟨h.p.mono hb, h.s.mono hb, h.b.mono hb, h.t.mono hb, h.few, h.ap⟩
theorem CfOwn.far {w : World} {base : Nat} {c : Cf} (h : CfOwn w base c) {p : Addr} (hp : p.block < base) (u : Value) : CfOwn (w.setCell p u) base c := ⟨h.p.far hp u, h.s.far hp u, h.b.far hp u, h.t.far hp u, h.few, h.ap⟩
theorem CfOwn.in_ {w : World} {base : Nat} {c : Cf} (h : CfOwn w base c) : CfIn w c := ⟨h.p.lies, h.s.lies, h.b.lies, h.t.lies, h.few⟩
end Go.Proofs.YtajkpbmjgncbbaaDoor

