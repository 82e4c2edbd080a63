/-
  The contract of senders.New. Conditions: the net's reading; both tables are as the program's text lays them; the offers' numbers are of their kinds.
-/
import Derived.Test.YtkejpkcaojidaaaGreatDoorFr9
import Derived.Test.YtkejpkcaojidaaaGreatDoorFrEq
import Derived.Test.YtkejpkcaojidaaaGreatDoorWn4
namespace Go.Proofs.YtkejpkcaojidaaaGreatDoor
set_option linter.unusedVariables false
set_option linter.unusedSimpArgs false
open Go.RowKit Rg
set_option linter.unusedVariables false

theorem Blk.newIn {w : World} {t : TypeId} {cs : Array Value} {g : Nat} (hg : g = w.heap.size) : Blk (w.alloc (.cells cs t)) g t cs := by subst hg; exact Blk.new w t cs
/-- An offer: is there one, in which tick, its payload. -/
structure Sd where
  i : Bool
  a : Int
  k : Int
  s : Int
  q : Int
  v : Int
def Sd.fr (d : Sd) (o : Int) : Fr := ⟨o, d.k, d.s, d.q, d.v⟩
/-- Its numbers are of their kinds. -/
structure Sd.Fit (d : Sd) : Prop where
  k0 : 0 ≤ d.k
  k1 : d.k ≤ 255
  s0 : 0 ≤ d.s
  s1 : d.s ≤ 255
  q0 : 0 ≤ d.q
  q1 : d.q < 4294967296
  v0 : 0 ≤ d.v
  v1 : d.v < 4294967296
theorem Sd.Fit.fr {d : Sd} (h : d.Fit) (o : Int) : (d.fr o).Fit := ⟨h.k0, h.k1, h.s0, h.s1, h.q0, h.q1, h.v0, h.v1⟩
/-- Are both there, and their payloads the same? -/
def sameB (x y : Sd) : Bool := x.i && y.i && (x.k == y.k && x.s == y.s && x.q == y.q && x.v == y.v)
/-- The symbols of a frame with a good tail. -/
def symF (f : Fr) : List Int := ofL (putL f.body) ++ tailL true false
theorem symF_len (f : Fr) : (symF f).length = 114 := by rw [symF, List.length_append, ofL_length, putL_length]; rfl
/-- What is handed out of a row at a place. -/
def outM (L : List Int) (X : Wn) (q : Int) : Int := if opB X q = true then L.getD (opI X q).toNat 0 else 0
/-- The window of a pair's half: of the later one (s), of the other one. -/
def wb (s : Bool) : Wn := if s then ⟨1, 1, 2, 116⟩ else ⟨1, 0, 1, 115⟩
theorem wb_fit (s : Bool) : WnFit (wb s) := by cases s <;> exact ⟨by decide, by decide, by decide, by decide⟩
theorem wb_len (s : Bool) : (wb s).e = (wb s).b + 114 := by cases s <;> rfl

/-- A sender's cells: a silent one's; one's that sends. -/
def senZ : Array Value := #[.int .u8 0, .int .i64 0, .int .i64 0, .int .i64 0, .int .u8 0, .int .i64 0, .int .i64 0, .int .i64 0, .nilFunc, .int .u8 0, .int .u8 0, .int .u32 0, .int .u32 0]
def handV (h : Nat) : Value := .func (.func 131) #[] #[.pointer (some ⟨h, 0, none⟩)]
def senY (s : Bool) (h : Nat) (f : Fr) : Array Value := #[.int .u8 (wb s).r, .int .i64 (wb s).p, .int .i64 (wb s).b, .int .i64 (wb s).e, .int .u8 (wb (!s)).r, .int .i64 (wb (!s)).p, .int .i64 (wb (!s)).b, .int .i64 (wb (!s)).e, handV h, .int .u8 f.k, .int .u8 f.s, .int .u32 f.q, .int .u32 f.v]
def Mute (w : World) (v : Value) : Prop := v = .pointer none ∨ ∃ g, v = .pointer (some ⟨g, 0, none⟩) ∧ Blk w g 171 senZ
def Says (s : Bool) (f : Fr) (w : World) (v : Value) : Prop := ∃ (g h : Nat) (A : Option Addr), v = .pointer (some ⟨g, 0, none⟩) ∧ Blk w g 171 (senY s h f) ∧ Blk w h 126 #[.slice A 114 114] ∧ Lies .u8 w w.heap.size A 114 (symF f)
/-- The same, with its row's block. -/
def SaysG (s : Bool) (f : Fr) (w : World) (v : Value) : Prop := ∃ (g h gs : Nat), v = .pointer (some ⟨g, 0, none⟩) ∧ Blk w g 171 (senY s h f) ∧ Blk w h 126 #[.slice (some ⟨gs, 0, none⟩) 114 114] ∧ Blk w gs 47 (cellsOf .u8 (symF f))
theorem SaysG.on {w w' : World} {s : Bool} {f : Fr} {v : Value} (h : SaysG s f w v) (hb : Below w.heap.size w w') : SaysG s f w' v := by
  obtain ⟨g, k, gs, rfl, h1, h2, h3⟩ := h
  exact ⟨g, k, gs, rfl, h1.on hb, h2.on hb, h3.on hb⟩
theorem Mute.on {w w' : World} {v : Value} (h : Mute w v) (hb : Below w.heap.size w w') : Mute w' v := by
  rcases h with rfl | ⟨g, rfl, h⟩
  · exact .inl rfl
  · exact .inr ⟨g, rfl, h.on hb⟩
theorem Says.on {s : Bool} {f : Fr} {w w' : World} {v : Value} (h : Says s f w v) (hb : Below w.heap.size w w') : Says s f w' v := by
  obtain ⟨g, k, A, rfl, h1, h2, h3⟩ := h
  exact ⟨g, k, A, rfl, h1.on hb, h2.on hb, h3.on hb⟩

theorem same_is (x y : Sd) (r : Bool) (hr : sameB x y = r) (w : World) :
    Calls Tryz.prog 116 #[.agg #[.bool x.i, .int .i64 x.a, .int .u8 x.k, .int .u8 x.s, .int .u32 x.q, .int .u32 x.v], .agg #[.bool y.i, .int .i64 y.a, .int .u8 y.k, .int .u8 y.s, .int .u32 y.q, .int .u32 y.v]] w fun e w' => e = .returned (.bool r) ∧ Below w.heap.size w w' := by
  have hb0 := below_al (below_al (Below.refl w.heap.size w) (.cells #[.bool x.i, .int .i64 x.a, .int .u8 x.k, .int .u8 x.s, .int .u32 x.q, .int .u32 x.v] 42)) (.cells #[.bool y.i, .int .i64 y.a, .int .u8 y.k, .int .u8 y.s, .int .u32 y.q, .int .u32 y.v] 42)
  obtain ⟨xi, xa, xk, xs, xq, xv⟩ := x
  obtain ⟨yi, ya, yk, ys, yq, yv⟩ := y
  have he := fun W => pay_eql xk xs xq xv yk ys yq yv W
  obtain ⟨b, hb⟩ : ∃ b, b = (xk == yk && xs == ys && xq == yq && xv == yv) := ⟨_, rfl⟩
  simp only [← hb] at he
  have HR := Lib.hid (show r = (xi && yi && b) by rw [← hr, hb]; rfl)
  clear hr hb
  cases xi
  · go_enter Tryz.func116, Tryz.ntmps116
    go_wp2_with fail
    go_ret
    exact ⟨ret_bool HR.out.symm, hb0⟩
  · cases yi
    · go_enter Tryz.func116, Tryz.ntmps116
      go_wp2_with fail
      go_ret
      exact ⟨ret_bool HR.out.symm, hb0⟩
    · go_enter Tryz.func116, Tryz.ntmps116
      go_wp2_with fail
      go_ret
      exact ⟨ret_bool (by rw [HR.out]; rfl), hb0⟩

theorem handed_is (A : Option Addr) (n : Nat) (w : World) :
    Calls Tryz.prog 118 #[.slice A n n] w fun e w' => e = .returned (handV w.heap.size) ∧ Blk w' w.heap.size 126 #[.slice A n n] ∧ Below w.heap.size w w' := by
  have hb0 := below_al (Below.refl w.heap.size w) (.cells #[.slice A n n] 126)
  have hB := Blk.new w 126 #[.slice A n n]
  go_enter Tryz.func118, Tryz.ntmps118
  go_wp2_with fail
  go_ret
  exact ⟨rfl, hB, hb0⟩

theorem idxSyms {A : Option Addr} {n : Nat} (c : Nat) {k b off : Nat} (hA : A = some ⟨b, off, none⟩) (hk : k < n) (w : World) :
    (Instr.indexAt 126 (.slice A n c) (.int .i64 (k : Int))).run Tryz.prog w = .ok (.pointer (some ⟨b, off + k, none⟩)) w := by
  subst hA
  rw [run_indexAt_slice (h := elemSyms), if_pos (by omega), sizeSyms]
  simp [Result.andThen, Addr.add_lit]
theorem hand_is (X : Wn) (hX : WnFit X) (hl : X.e = X.b + 114) (q : Int) (h : Nat) (A : Option Addr) (L : List Int) (r : Int) (hr : outM L X q = r) (w : World) (hB : Blk w h 126 #[.slice A 114 114]) (hL : Lies .u8 w w.heap.size A 114 L) :
    Calls Tryz.prog 131 #[.agg #[.int .u8 X.r, .int .i64 X.p, .int .i64 X.b, .int .i64 X.e], .int .i64 q, .pointer (some ⟨h, 0, none⟩)] w fun e w' => e = .returned (.int .u8 r) ∧ Below w.heap.size w w' := by
  have hb0 := below_al (Below.refl w.heap.size w) (.cells #[.int .u8 X.r, .int .i64 X.p, .int .i64 X.b, .int .i64 X.e] 73)
  have HB0 := Lib.hid hb0
  have HX := Lib.hid hX
  obtain ⟨i, hi⟩ : ∃ i, opI X q = i := ⟨_, rfl⟩
  obtain ⟨b, hb⟩ : ∃ b, opB X q = b := ⟨_, rfl⟩
  have HI := Lib.hid hi
  have HB := Lib.hid hb
  have HR := Lib.hid (show r = if b = true then L.getD i.toNat 0 else 0 by rw [← hr, outM, hb, hi])
  have hi1 : b = true → 0 ≤ i ∧ i < 114 := fun h => by
    rw [opI, hb, if_pos h] at hi
    have := hb.trans h
    simp only [opB, decide_eq_true_eq] at this
    omega
  have hs := hB.on hb0
  clear hi hb hX hr hl
  rcases b with _ | _
  · clear hi1 hs
    go_enter Tryz.func131, Tryz.ntmps131
    go_wp2_with (go_at_call 132; (with_reducible refine (winAt_is X q i HI.out false HB.out _ HX.out).mono ?_); rintro e w1 ⟨rfl, b1⟩)
    go_ret
    exact ⟨ret_int (by rw [HR.out]; rfl), below_then HB0.out b1⟩
  · obtain ⟨n, rfl⟩ : ∃ n : Nat, i = n := ⟨i.toNat, by have := (hi1 rfl).1; omega⟩
    have hn : n < 114 := by have := (hi1 rfl).2; omega
    obtain ⟨gb, off, hA, hbl, hc⟩ := hL.at_ (by omega)
    have hix := fun W => idxSyms (n := 114) 114 hA hn W
    have HCC := Lib.hid (hc n hn)
    have HBL := Lib.hid hbl
    have HRR := Lib.hid (show L.getD n 0 = r by rw [HR.out]; rfl)
    clear hi1 hc hbl hL hA
    go_enter Tryz.func131, Tryz.ntmps131
    go_wp2_with (go_at_call 132; (with_reducible refine (winAt_is X q n HI.out true HB.out _ HX.out).mono ?_); rintro e w1 ⟨rfl, b1⟩; have B1 := below_then HB0.out b1; have s0 := (hs.on b1).cell 0; have sl := (hs.on b1).lt; simp only [List.getElem?_toArray, List.getElem?_cons_zero] at s0; have c0 := (B1.cell (p := ⟨gb, off + n, none⟩) HBL.out).trans HCC.out; have cl := Nat.lt_of_lt_of_le HBL.out B1.size)
    go_ret
    exact ⟨ret_int HRR.out, B1⟩

/-- Two windows each way held against none. -/
theorem ways_no (s : Bool) (w : World) : (binOp .eql 168 (.agg #[.int .u8 (wb s).r, .int .i64 (wb s).p, .int .i64 (wb s).b, .int .i64 (wb s).e, .int .u8 (wb (!s)).r, .int .i64 (wb (!s)).p, .int .i64 (wb (!s)).b, .int .i64 (wb (!s)).e]) (.agg #[.int .u8 0, .int .i64 0, .int .i64 0, .int .i64 0, .int .u8 0, .int .i64 0, .int .i64 0, .int .i64 0])).run Tryz.prog w = .ok (.bool false) w := by
  cases s <;> kernel_rfl
theorem ways_nil (w : World) : (binOp .eql 168 (.agg #[.int .u8 0, .int .i64 0, .int .i64 0, .int .i64 0, .int .u8 0, .int .i64 0, .int .i64 0, .int .i64 0]) (.agg #[.int .u8 0, .int .i64 0, .int .i64 0, .int .i64 0, .int .u8 0, .int .i64 0, .int .i64 0, .int .i64 0])).run Tryz.prog w = .ok (.bool true) w := by
  kernel_rfl
end Go.Proofs.YtkejpkcaojidaaaGreatDoor

namespace Go.Proofs.YtkejpkcaojidaaaGreatDoor
open Go.RowKit Rg
set_option linter.unusedVariables false

theorem Blk.sen {w : World} {g : Nat} {X Y : Wn} {F : Value} {f : Fr} (h : Blk w g 171 #[.int .u8 X.r, .int .i64 X.p, .int .i64 X.b, .int .i64 X.e, .int .u8 Y.r, .int .i64 Y.p, .int .i64 Y.b, .int .i64 Y.e, F, .int .u8 f.k, .int .u8 f.s, .int .u32 f.q, .int .u32 f.v]) :
    w.cell? ⟨g, 0, none⟩ = some (.int .u8 X.r) ∧ w.cell? ⟨g, 1, none⟩ = some (.int .i64 X.p) ∧ w.cell? ⟨g, 2, none⟩ = some (.int .i64 X.b) ∧ w.cell? ⟨g, 3, none⟩ = some (.int .i64 X.e) ∧ w.cell? ⟨g, 4, none⟩ = some (.int .u8 Y.r) ∧ w.cell? ⟨g, 5, none⟩ = some (.int .i64 Y.p) ∧ w.cell? ⟨g, 6, none⟩ = some (.int .i64 Y.b) ∧ w.cell? ⟨g, 7, none⟩ = some (.int .i64 Y.e) ∧ w.cell? ⟨g, 8, none⟩ = some F ∧ w.cell? ⟨g, 9, none⟩ = some (.int .u8 f.k) ∧ w.cell? ⟨g, 10, none⟩ = some (.int .u8 f.s) ∧ w.cell? ⟨g, 11, none⟩ = some (.int .u32 f.q) ∧ w.cell? ⟨g, 12, none⟩ = some (.int .u32 f.v) ∧ g < w.heap.size :=
  ⟨(h.cell 0).trans rfl, (h.cell 1).trans rfl, (h.cell 2).trans rfl, (h.cell 3).trans rfl, (h.cell 4).trans rfl, (h.cell 5).trans rfl, (h.cell 6).trans rfl, (h.cell 7).trans rfl, (h.cell 8).trans rfl, (h.cell 9).trans rfl, (h.cell 10).trans rfl, (h.cell 11).trans rfl, (h.cell 12).trans rfl, h.lt⟩

theorem sends_mute (v : Value) (w : World) (h : Mute w v) :
    Calls Tryz.prog 37 #[v] w fun e w' => e = .returned (.tuple #[.agg #[.int .u8 0, .int .u8 0, .int .u32 0, .int .u32 0], .bool false]) ∧ Below w.heap.size w w' := by
  have hb0 := below_al (Below.refl w.heap.size w) (.cells #[.int .u8 0, .int .u8 0, .int .u32 0, .int .u32 0] 40)
  have hZ := Blk.new w 40 #[.int .u8 0, .int .u8 0, .int .u32 0, .int .u32 0]
  have z0 := hZ.cell 0
  have z1 := hZ.cell 1
  have z2 := hZ.cell 2
  have z3 := hZ.cell 3
  have zl := hZ.lt
  simp only [List.getElem?_toArray, List.getElem?_cons_zero, List.getElem?_cons_succ] at z0 z1 z2 z3
  have zf := hZ.frozen
  rcases h with rfl | ⟨g, rfl, hB⟩
  · go_enter Tryz.func37, Tryz.ntmps37
    go_wp2_with fail
    exact bodyPost_ret (v := .tuple #[.agg #[.int .u8 0, .int .u8 0, .int .u32 0, .int .u32 0], .bool false]) (by simp [results, Tryz.results37, go_sem]) rfl ⟨rfl, hb0⟩
  · obtain ⟨c0, c1, c2, c3, c4, c5, c6, c7, c8, c9, ca, cb, cc, cl⟩ := (hB.on hb0).sen (X := ⟨0, 0, 0, 0⟩) (Y := ⟨0, 0, 0, 0⟩) (F := .nilFunc) (f := ⟨0, 0, 0, 0, 0⟩)
    have hq := ways_nil
    go_enter Tryz.func37, Tryz.ntmps37
    go_wp2_with fail
    exact bodyPost_ret (v := .tuple #[.agg #[.int .u8 0, .int .u8 0, .int .u32 0, .int .u32 0], .bool false]) (by simp [results, Tryz.results37, go_sem]) rfl ⟨rfl, hb0⟩
theorem sends_says (s : Bool) (f : Fr) (v : Value) (w : World) (h : Says s f w v) :
    Calls Tryz.prog 37 #[v] w fun e w' => e = .returned (.tuple #[.agg #[.int .u8 f.k, .int .u8 f.s, .int .u32 f.q, .int .u32 f.v], .bool true]) ∧ Below w.heap.size w w' := by
  have hb0 := below_al (Below.refl w.heap.size w) (.cells #[.int .u8 0, .int .u8 0, .int .u32 0, .int .u32 0] 40)
  have hZ := Blk.new w 40 #[.int .u8 0, .int .u8 0, .int .u32 0, .int .u32 0]
  have hb1 := below_al (Below.refl w.heap.size w) (.cells #[.int .u8 f.k, .int .u8 f.s, .int .u32 f.q, .int .u32 f.v] 40)
  have z0 := hZ.cell 0
  have z1 := hZ.cell 1
  have z2 := hZ.cell 2
  have z3 := hZ.cell 3
  have zl := hZ.lt
  simp only [List.getElem?_toArray, List.getElem?_cons_zero, List.getElem?_cons_succ] at z0 z1 z2 z3
  have zf := hZ.frozen
  obtain ⟨g, h, A, rfl, hB, -, -⟩ := h
  have hq := fun W => ways_no s W
  obtain ⟨c0, c1, c2, c3, c4, c5, c6, c7, c8, c9, ca, cb, cc, cl⟩ := (hB.on hb0).sen
  obtain ⟨X, hX⟩ : ∃ X, X = wb s := ⟨_, rfl⟩
  obtain ⟨Y, hY⟩ : ∃ Y, Y = wb (!s) := ⟨_, rfl⟩
  simp only [← hX, ← hY] at hq c0 c1 c2 c3 c4 c5 c6 c7
  clear hX hY hB
  go_enter Tryz.func37, Tryz.ntmps37
  go_wp2_with fail
  exact bodyPost_ret (v := .tuple #[.agg #[.int .u8 f.k, .int .u8 f.s, .int .u32 f.q, .int .u32 f.v], .bool true]) (by simp [results, Tryz.results37, go_sem]) rfl ⟨rfl, hb1⟩

theorem out_mute (v : Value) (q : Int) (w : World) (h : Mute w v) :
    Calls Tryz.prog 171 #[v, .int .i64 q] w fun e w' => e = .returned (.tuple #[.int .u8 0, .int .u8 0]) ∧ Below w.heap.size w w' := by
  have HM := Lib.hid h
  clear h
  go_enter Tryz.func171, Tryz.ntmps171
  go_wp2_with (go_at_call 37; (with_reducible refine (sends_mute v _ HM.out).mono ?_); rintro e w1 ⟨rfl, b1⟩)
  exact bodyPost_ret (v := .tuple #[.int .u8 0, .int .u8 0]) (by simp [results, Tryz.results171, go_sem]) rfl ⟨rfl, below_al b1 _⟩
set_option maxRecDepth 100000 in
set_option maxHeartbeats 4000000 in
theorem out_says (s : Bool) (f : Fr) (v : Value) (q ra rb : Int) (hra : outM (symF f) (wb s) q = ra) (hrb : outM (symF f) (wb (!s)) q = rb) (w : World) (h : Says s f w v) :
    Calls Tryz.prog 171 #[v, .int .i64 q] w fun e w' => e = .returned (.tuple #[.int .u8 ra, .int .u8 rb]) ∧ Below w.heap.size w w' := by
  have HM := Lib.hid h
  obtain ⟨g, h, A, rfl, hB, hh, hl⟩ := h
  have hfx := wb_fit s
  have hlx := wb_len s
  have hfy := wb_fit (!s)
  have hly := wb_len (!s)
  unfold senY at hB
  obtain ⟨X, hX⟩ : ∃ X, X = wb s := ⟨_, rfl⟩
  obtain ⟨Y, hY⟩ : ∃ Y, Y = wb (!s) := ⟨_, rfl⟩
  obtain ⟨L, hL⟩ : ∃ L, L = symF f := ⟨_, rfl⟩
  rw [← hX] at hB hfx hlx hra
  rw [← hY] at hB hfy hly hrb
  rw [← hL] at hl hra hrb
  have HFX := Lib.hid hfx
  have HLX := Lib.hid hlx
  have HFY := Lib.hid hfy
  have HLY := Lib.hid hly
  have HRA := Lib.hid hra
  have HRB := Lib.hid hrb
  clear hX hY hL hfx hlx hfy hly hra hrb
  go_enter Tryz.func171, Tryz.ntmps171
  go_upto_region 4 with (go_at_call 37; (with_reducible refine (sends_says s f _ _ HM.out).mono ?_); rintro e w1 ⟨rfl, b1⟩)
  have hb1 := below_al b1 (.cells #[.int .u8 f.k, .int .u8 f.s, .int .u32 f.q, .int .u32 f.v] 40)
  obtain ⟨W, hW⟩ : ∃ W, W = w1.alloc (.cells #[.int .u8 f.k, .int .u8 f.s, .int .u32 f.q, .int .u32 f.v] 40) := ⟨_, rfl⟩
  rw [← hW] at hb1 ⊢
  have HB1 := Lib.hid hb1
  have HG := Lib.hid (hB.on hb1)
  have HH := Lib.hid (hh.on hb1)
  have HL := Lib.hid (hl.on hb1)
  clear hW hb1 b1 hB hh hl HM
  refine Reg.wp_slots (fun t => t == 4 || t == 5 || decide (15 ≤ t)) (by kernel_rfl) (by kernel_rfl) (by kernel_rfl) (fun zz => (Reg.tbl [
    (15, .is (.pointer (some ⟨g, 0, none⟩))),
    (16, .is (.pointer (some ⟨g, 0, none⟩))),
    (17, .is (.pointer (some ⟨g, 8, none⟩))),
    (18, .is (.func (.func 131) #[] #[.pointer (some ⟨h, 0, none⟩)])),
    (19, .is (.pointer (some ⟨g, 0, none⟩))),
    (20, .is (.pointer (some ⟨g, 0, none⟩))),
    (21, .is (.pointer (some ⟨g, 0, none⟩))),
    (22, .is (.pointer (some ⟨g, 0, none⟩))),
    (23, .is (.agg #[.int .u8 X.r, .int .i64 X.p, .int .i64 X.b, .int .i64 X.e])),
    (24, .is (.int .i64 q)),
    (25, .is (.int .u8 ra)),
    (26, .is (.pointer (some ⟨g, 0, none⟩))),
    (27, .is (.pointer (some ⟨g, 0, none⟩))),
    (28, .is (.pointer (some ⟨g, 8, none⟩))),
    (29, .is (.func (.func 131) #[] #[.pointer (some ⟨h, 0, none⟩)])),
    (30, .is (.pointer (some ⟨g, 0, none⟩))),
    (31, .is (.pointer (some ⟨g, 0, none⟩))),
    (32, .is (.pointer (some ⟨g, 0, none⟩))),
    (33, .is (.pointer (some ⟨g, 4, none⟩))),
    (34, .is (.agg #[.int .u8 Y.r, .int .i64 Y.p, .int .i64 Y.b, .int .i64 Y.e])),
    (35, .is (.int .i64 q)),
    (36, .is (.int .u8 rb)),
    (4, .is (.int .u8 ra)),
    (5, .is (.int .u8 rb))] zz).P) (fun zz => (Reg.tbl _ zz).on) ?_ ?_
  · simp only [Reg.frame, Reg.over, Nat.reduceAdd, Nat.reduceBEq, Nat.reduceLeDiff, decide_true, decide_false, Bool.or_true, Bool.or_false, if_true, Bool.false_eq_true, if_false]
    refine ⟨?_, ?_, ?_, ?_, ?_, ?_, ?_, ?_, ?_, ?_, ?_, ?_, ?_, ?_, ?_, ?_, ?_, ?_, ?_, ?_, ?_, ?_, ?_, ?_, trivial⟩
    · intro x u hbu hd
      refine wpOp_step rfl fun K hK => ?_
      go_simp
      exact hK _ _ ⟨_, rfl, Below.refl _ _, fun d hd => by cases hd; exact rfl⟩
    · intro x u hbu hd
      have h15 : x 15 = .pointer (some ⟨g, 0, none⟩) := hd 0 (by decide)
      obtain ⟨c0, c1, c2, c3, c4, c5, c6, c7, c8, c9, ca, cb, cc, cl⟩ := (HG.out.on hbu).sen
      refine wpOp_step rfl fun K hK => ?_
      simp only [h15] at hK ⊢
      go_simp
      exact hK _ _ ⟨_, rfl, Below.refl _ _, fun d hd => by cases hd; exact rfl⟩
    · intro x u hbu hd
      have h16 : x 16 = .pointer (some ⟨g, 0, none⟩) := hd 1 (by decide)
      refine wpOp_step rfl fun K hK => ?_
      simp only [h16] at hK ⊢
      go_simp
      exact hK _ _ ⟨_, rfl, Below.refl _ _, fun d hd => by cases hd; exact rfl⟩
    · intro x u hbu hd
      have h17 : x 17 = .pointer (some ⟨g, 8, none⟩) := hd 2 (by decide)
      obtain ⟨c0, c1, c2, c3, c4, c5, c6, c7, c8, c9, ca, cb, cc, cl⟩ := (HG.out.on hbu).sen
      refine wpOp_step rfl fun K hK => ?_
      simp only [h17] at hK ⊢
      go_simp
      exact hK _ _ ⟨_, rfl, Below.refl _ _, fun d hd => by cases hd; exact rfl⟩
    · intro x u hbu hd
      refine wpOp_step rfl fun K hK => ?_
      go_simp
      exact hK _ _ ⟨_, rfl, Below.refl _ _, fun d hd => by cases hd; exact rfl⟩
    · intro x u hbu hd
      have h19 : x 19 = .pointer (some ⟨g, 0, none⟩) := hd 4 (by decide)
      obtain ⟨c0, c1, c2, c3, c4, c5, c6, c7, c8, c9, ca, cb, cc, cl⟩ := (HG.out.on hbu).sen
      refine wpOp_step rfl fun K hK => ?_
      simp only [h19] at hK ⊢
      go_simp
      exact hK _ _ ⟨_, rfl, Below.refl _ _, fun d hd => by cases hd; exact rfl⟩
    · intro x u hbu hd
      have h20 : x 20 = .pointer (some ⟨g, 0, none⟩) := hd 5 (by decide)
      refine wpOp_step rfl fun K hK => ?_
      simp only [h20] at hK ⊢
      go_simp
      exact hK _ _ ⟨_, rfl, Below.refl _ _, fun d hd => by cases hd; exact rfl⟩
    · intro x u hbu hd
      have h21 : x 21 = .pointer (some ⟨g, 0, none⟩) := hd 6 (by decide)
      refine wpOp_step rfl fun K hK => ?_
      simp only [h21] at hK ⊢
      go_simp
      exact hK _ _ ⟨_, rfl, Below.refl _ _, fun d hd => by cases hd; exact rfl⟩
    · intro x u hbu hd
      have h22 : x 22 = .pointer (some ⟨g, 0, none⟩) := hd 7 (by decide)
      obtain ⟨c0, c1, c2, c3, c4, c5, c6, c7, c8, c9, ca, cb, cc, cl⟩ := (HG.out.on hbu).sen
      refine wpOp_step rfl fun K hK => ?_
      simp only [h22] at hK ⊢
      go_simp
      exact hK _ _ ⟨_, rfl, Below.refl _ _, fun d hd => by cases hd; exact rfl⟩
    · intro x u hbu hd
      refine wpOp_step rfl fun K hK => ?_
      go_simp
      exact hK _ _ ⟨_, rfl, Below.refl _ _, fun d hd => by cases hd; exact rfl⟩
    · intro x u hbu hd
      have h18 : x 18 = .func (.func 131) #[] #[.pointer (some ⟨h, 0, none⟩)] := hd 3 (by decide)
      have h23 : x 23 = .agg #[.int .u8 X.r, .int .i64 X.p, .int .i64 X.b, .int .i64 X.e] := hd 8 (by decide)
      have h24 : x 24 = .int .i64 q := hd 9 (by decide)
      refine wpOp_step rfl fun K hK => ?_
      simp only [h18, h23, h24] at hK ⊢
      go_simp
      with_reducible refine (hand_is X HFX.out HLX.out q h A L ra HRA.out _ (HH.out.on hbu) (HL.out.on hbu)).mono ?_
      rintro e u' ⟨rfl, hb'⟩
      exact hK _ _ ⟨_, rfl, hb', fun d hd => by cases hd; exact rfl⟩
    · intro x u hbu hd
      refine wpOp_step rfl fun K hK => ?_
      go_simp
      exact hK _ _ ⟨_, rfl, Below.refl _ _, fun d hd => by cases hd; exact rfl⟩
    · intro x u hbu hd
      have h26 : x 26 = .pointer (some ⟨g, 0, none⟩) := hd 11 (by decide)
      obtain ⟨c0, c1, c2, c3, c4, c5, c6, c7, c8, c9, ca, cb, cc, cl⟩ := (HG.out.on hbu).sen
      refine wpOp_step rfl fun K hK => ?_
      simp only [h26] at hK ⊢
      go_simp
      exact hK _ _ ⟨_, rfl, Below.refl _ _, fun d hd => by cases hd; exact rfl⟩
    · intro x u hbu hd
      have h27 : x 27 = .pointer (some ⟨g, 0, none⟩) := hd 12 (by decide)
      refine wpOp_step rfl fun K hK => ?_
      simp only [h27] at hK ⊢
      go_simp
      exact hK _ _ ⟨_, rfl, Below.refl _ _, fun d hd => by cases hd; exact rfl⟩
    · intro x u hbu hd
      have h28 : x 28 = .pointer (some ⟨g, 8, none⟩) := hd 13 (by decide)
      obtain ⟨c0, c1, c2, c3, c4, c5, c6, c7, c8, c9, ca, cb, cc, cl⟩ := (HG.out.on hbu).sen
      refine wpOp_step rfl fun K hK => ?_
      simp only [h28] at hK ⊢
      go_simp
      exact hK _ _ ⟨_, rfl, Below.refl _ _, fun d hd => by cases hd; exact rfl⟩
    · intro x u hbu hd
      refine wpOp_step rfl fun K hK => ?_
      go_simp
      exact hK _ _ ⟨_, rfl, Below.refl _ _, fun d hd => by cases hd; exact rfl⟩
    · intro x u hbu hd
      have h30 : x 30 = .pointer (some ⟨g, 0, none⟩) := hd 15 (by decide)
      obtain ⟨c0, c1, c2, c3, c4, c5, c6, c7, c8, c9, ca, cb, cc, cl⟩ := (HG.out.on hbu).sen
      refine wpOp_step rfl fun K hK => ?_
      simp only [h30] at hK ⊢
      go_simp
      exact hK _ _ ⟨_, rfl, Below.refl _ _, fun d hd => by cases hd; exact rfl⟩
    · intro x u hbu hd
      have h31 : x 31 = .pointer (some ⟨g, 0, none⟩) := hd 16 (by decide)
      refine wpOp_step rfl fun K hK => ?_
      simp only [h31] at hK ⊢
      go_simp
      exact hK _ _ ⟨_, rfl, Below.refl _ _, fun d hd => by cases hd; exact rfl⟩
    · intro x u hbu hd
      have h32 : x 32 = .pointer (some ⟨g, 0, none⟩) := hd 17 (by decide)
      refine wpOp_step rfl fun K hK => ?_
      simp only [h32] at hK ⊢
      go_simp
      exact hK _ _ ⟨_, rfl, Below.refl _ _, fun d hd => by cases hd; exact rfl⟩
    · intro x u hbu hd
      have h33 : x 33 = .pointer (some ⟨g, 4, none⟩) := hd 18 (by decide)
      obtain ⟨c0, c1, c2, c3, c4, c5, c6, c7, c8, c9, ca, cb, cc, cl⟩ := (HG.out.on hbu).sen
      refine wpOp_step rfl fun K hK => ?_
      simp only [h33] at hK ⊢
      go_simp
      exact hK _ _ ⟨_, rfl, Below.refl _ _, fun d hd => by cases hd; exact rfl⟩
    · intro x u hbu hd
      refine wpOp_step rfl fun K hK => ?_
      go_simp
      exact hK _ _ ⟨_, rfl, Below.refl _ _, fun d hd => by cases hd; exact rfl⟩
    · intro x u hbu hd
      have h29 : x 29 = .func (.func 131) #[] #[.pointer (some ⟨h, 0, none⟩)] := hd 14 (by decide)
      have h34 : x 34 = .agg #[.int .u8 Y.r, .int .i64 Y.p, .int .i64 Y.b, .int .i64 Y.e] := hd 19 (by decide)
      have h35 : x 35 = .int .i64 q := hd 20 (by decide)
      refine wpOp_step rfl fun K hK => ?_
      simp only [h29, h34, h35] at hK ⊢
      go_simp
      with_reducible refine (hand_is Y HFY.out HLY.out q h A L rb HRB.out _ (HH.out.on hbu) (HL.out.on hbu)).mono ?_
      rintro e u' ⟨rfl, hb'⟩
      exact hK _ _ ⟨_, rfl, hb', fun d hd => by cases hd; exact rfl⟩
    · intro x u hbu hd
      have h25 : x 25 = .int .u8 ra := hd 10 (by decide)
      refine wpOp_step rfl fun K hK => ?_
      simp only [h25] at hK ⊢
      go_simp
      exact hK _ _ ⟨_, rfl, Below.refl _ _, fun d hd => by cases hd; exact rfl⟩
    · intro x u hbu hd
      have h36 : x 36 = .int .u8 rb := hd 21 (by decide)
      refine wpOp_step rfl fun K hK => ?_
      simp only [h36] at hK ⊢
      go_simp
      exact hK _ _ ⟨_, rfl, Below.refl _ _, fun d hd => by cases hd; exact rfl⟩
  · intro y u2 hbu hall
    have h4 : y 4 = .int .u8 ra := hall 22 (by decide)
    have h5 : y 5 = .int .u8 rb := hall 23 (by decide)
    simp only [Reg.frame, Reg.over, Nat.reduceAdd, Nat.reduceBEq, Nat.reduceLeDiff, decide_true, decide_false, Bool.or_true, Bool.or_false, if_true, Bool.false_eq_true, if_false, h4, h5]
    have hb6 := below_then HB1.out hbu
    clear hbu hall
    go_wp2_with fail
    exact bodyPost_ret (v := .tuple #[.int .u8 ra, .int .u8 rb]) (by simp [results, Tryz.results171, go_sem]) rfl ⟨rfl, hb6⟩
end Go.Proofs.YtkejpkcaojidaaaGreatDoor

namespace Go.Proofs.YtkejpkcaojidaaaGreatDoor
open Go.RowKit Rg
set_option linter.unusedVariables false

theorem Blk.farC {w : World} {h g : Nat} {t : TypeId} {cs : Array Value} (hB : Blk w h t cs) (hg : h ≠ g) (i : Nat) (v : Value) : Blk (w.setCell ⟨g, i, none⟩ v) h t cs := by
  unfold Blk at hB ⊢
  rw [Below.heap_setCell _ _ _ _ hg]
  exact hB
section
variable {u w : World} {g : Nat} {t : TypeId} {a0 a1 a2 a3 a4 a5 a6 a7 b0 b1 b2 b3 b4 b5 b6 b7 : Value}
theorem below_eight {B : Nat} (h : Below B w u) (hg : B ≤ g) (b0 b1 b2 b3 b4 b5 b6 b7 : Value) : Below B w (((((((((u).setCell ⟨g, 0, none⟩ b0).setCell ⟨g, 1, none⟩ b1).setCell ⟨g, 2, none⟩ b2).setCell ⟨g, 3, none⟩ b3).setCell ⟨g, 4, none⟩ b4).setCell ⟨g, 5, none⟩ b5).setCell ⟨g, 6, none⟩ b6).setCell ⟨g, 7, none⟩ b7) :=
  (((((((h.setCell (p := ⟨g, 0, none⟩) hg b0).setCell (p := ⟨g, 1, none⟩) hg b1).setCell (p := ⟨g, 2, none⟩) hg b2).setCell (p := ⟨g, 3, none⟩) hg b3).setCell (p := ⟨g, 4, none⟩) hg b4).setCell (p := ⟨g, 5, none⟩) hg b5).setCell (p := ⟨g, 6, none⟩) hg b6).setCell (p := ⟨g, 7, none⟩) hg b7
theorem Blk.c8 (h : Blk u g t #[a0, a1, a2, a3, a4, a5, a6, a7]) : u.cell? ⟨g, 0, none⟩ = some a0 ∧ u.cell? ⟨g, 1, none⟩ = some a1 ∧ u.cell? ⟨g, 2, none⟩ = some a2 ∧ u.cell? ⟨g, 3, none⟩ = some a3 ∧ u.cell? ⟨g, 4, none⟩ = some a4 ∧ u.cell? ⟨g, 5, none⟩ = some a5 ∧ u.cell? ⟨g, 6, none⟩ = some a6 ∧ u.cell? ⟨g, 7, none⟩ = some a7 ∧ g < u.heap.size :=
  ⟨(h.cell 0).trans rfl, (h.cell 1).trans rfl, (h.cell 2).trans rfl, (h.cell 3).trans rfl, (h.cell 4).trans rfl, (h.cell 5).trans rfl, (h.cell 6).trans rfl, (h.cell 7).trans rfl, h.lt⟩
theorem Blk.low4 (h : Blk u g t #[a0, a1, a2, a3, a4, a5, a6, a7]) (b0 b1 b2 b3 : Value) : Blk (((((u).setCell ⟨g, 0, none⟩ b0).setCell ⟨g, 1, none⟩ b1).setCell ⟨g, 2, none⟩ b2).setCell ⟨g, 3, none⟩ b3) g t #[b0, b1, b2, b3, a4, a5, a6, a7] := (((h.set_ 0 b0).set_ 1 b1).set_ 2 b2).set_ 3 b3
theorem Blk.high4 (h : Blk u g t #[a0, a1, a2, a3, a4, a5, a6, a7]) (b4 b5 b6 b7 : Value) : Blk (((((u).setCell ⟨g, 4, none⟩ b4).setCell ⟨g, 5, none⟩ b5).setCell ⟨g, 6, none⟩ b6).setCell ⟨g, 7, none⟩ b7) g t #[a0, a1, a2, a3, b4, b5, b6, b7] := (((h.set_ 4 b4).set_ 5 b5).set_ 6 b6).set_ 7 b7
/-- A block of eight cells, written one by one. -/
theorem blk_eight (h : Blk u g t #[a0, a1, a2, a3, a4, a5, a6, a7]) (b0 b1 b2 b3 b4 b5 b6 b7 : Value) : Blk (((((((((u).setCell ⟨g, 0, none⟩ b0).setCell ⟨g, 1, none⟩ b1).setCell ⟨g, 2, none⟩ b2).setCell ⟨g, 3, none⟩ b3).setCell ⟨g, 4, none⟩ b4).setCell ⟨g, 5, none⟩ b5).setCell ⟨g, 6, none⟩ b6).setCell ⟨g, 7, none⟩ b7) g t #[b0, b1, b2, b3, b4, b5, b6, b7] :=
  (h.low4 b0 b1 b2 b3).high4 b4 b5 b6 b7
theorem below_high4 {B : Nat} (h : Below B w u) (hg : B ≤ g) (b4 b5 b6 b7 : Value) : Below B w (((((u).setCell ⟨g, 4, none⟩ b4).setCell ⟨g, 5, none⟩ b5).setCell ⟨g, 6, none⟩ b6).setCell ⟨g, 7, none⟩ b7) :=
  (((h.setCell (p := ⟨g, 4, none⟩) hg b4).setCell (p := ⟨g, 5, none⟩) hg b5).setCell (p := ⟨g, 6, none⟩) hg b6).setCell (p := ⟨g, 7, none⟩) hg b7
theorem Blk.far4 {h : Nat} {cs : Array Value} (hB : Blk u h t cs) (hg : h ≠ g) (i0 i1 i2 i3 : Nat) (b0 b1 b2 b3 : Value) : Blk ((((u.setCell ⟨g, i0, none⟩ b0).setCell ⟨g, i1, none⟩ b1).setCell ⟨g, i2, none⟩ b2).setCell ⟨g, i3, none⟩ b3) h t cs :=
  Blk.farC (Blk.farC (Blk.farC (Blk.farC hB hg i0 b0) hg i1 b1) hg i2 b2) hg i3 b3
end

/-- Is a node a half of a pair, or what is wrong. -/
def halfE (N : Int) (P : List Int) (o x : Int) : Int := if N = 0 then 2 else if plM N P 0 o x = 0 ∨ plM N P 0 o x = 1 then 0 else 1
def halfI (s : Bool) : Int := if s then 1 else 0
theorem half_other {N : Int} {P : List Int} {o x : Int} {s : Bool} (h : plM N P 0 o x = halfI s) : plM N P 1 o x = halfI (!s) := by
  by_cases hb : 4 ≤ N ∧ N ≤ 16 ∧ (0 : Int) < 2 ∧ 0 ≤ atM P o ∧ atM P o < N ∧ 0 ≤ x ∧ x < N
  · rw [plM, place_of (by omega), sg0] at h
    rw [plM, place_of (by omega), sg1]
    have e1 := mod_near N (x - atM P o + 0) (by omega) (by omega)
    have e2 := mod_near N (-(x - atM P o) + 1) (by omega) (by omega)
    cases s <;> simp only [halfI, Bool.not_true, Bool.not_false, if_true, if_false, Bool.false_eq_true] at h ⊢ <;> omega
  · rw [pl_none hb] at h
    cases s <;> simp [halfI] at h
theorem half_ofW {N : Int} {P : List Int} {d o x : Int} {s : Bool} (h0 : N ≠ 0) (h : plM N P d o x = halfI s) : ofW N P d o x = wb s ∧ ofWE N P d o x = 0 := by
  obtain ⟨e1, e2⟩ := of_yes h0 h (by cases s <;> decide)
  refine ⟨?_, e2⟩
  rw [e1]; cases s <;> rfl
theorem half_ok {N : Int} {P : List Int} {o x : Int} (h : halfE N P o x = 0) : N ≠ 0 ∧ ∃ s, plM N P 0 o x = halfI s := by
  unfold halfE at h
  split at h
  · omega
  · rename_i h0
    refine ⟨h0, ?_⟩
    split at h
    · rename_i h1
      rcases h1 with h1 | h1
      · exact ⟨false, h1⟩
      · exact ⟨true, h1⟩
    · omega

/-- What has been filled in behind k rounds. -/
def waysK (X Y : Wn) (k : Nat) : Array Value := #[if 0 < k then .int .u8 X.r else .int .u8 0, if 0 < k then .int .i64 X.p else .int .i64 0, if 0 < k then .int .i64 X.b else .int .i64 0, if 0 < k then .int .i64 X.e else .int .i64 0, if 1 < k then .int .u8 Y.r else .int .u8 0, if 1 < k then .int .i64 Y.p else .int .i64 0, if 1 < k then .int .i64 Y.b else .int .i64 0, if 1 < k then .int .i64 Y.e else .int .i64 0]
set_option maxRecDepth 100000 in
theorem half_yes (v : Value) (N : Int) (P : List Int) (o x : Int) (s : Bool) (h0 : N ≠ 0) (hs : plM N P 0 o x = halfI s) (w : World) (hn : NetP w v N P) (hw : Laid2 w) :
    Calls Tryz.prog 115 #[v, .int .i64 x, .int .i64 o] w fun e w' => e = .returned (.tuple #[.agg #[.int .u8 (wb s).r, .int .i64 (wb s).p, .int .i64 (wb s).b, .int .i64 (wb s).e, .int .u8 (wb (!s)).r, .int .i64 (wb (!s)).p, .int .i64 (wb (!s)).b, .int .i64 (wb (!s)).e], .int .i64 0]) ∧ Below w.heap.size w w' := by
  have hb0 : Below w.heap.size w ((w.alloc (.cells #[.int .u8 0, .int .i64 0, .int .i64 0, .int .i64 0, .int .u8 0, .int .i64 0, .int .i64 0, .int .i64 0] 168)).alloc (.cells #[.int .u8 0, .int .i64 0, .int .i64 0, .int .i64 0, .int .u8 0, .int .i64 0, .int .i64 0, .int .i64 0] 168)) := below_al (below_al (Below.refl w.heap.size w) _) _
  have hZ : Blk ((w.alloc (.cells #[.int .u8 0, .int .i64 0, .int .i64 0, .int .i64 0, .int .u8 0, .int .i64 0, .int .i64 0, .int .i64 0] 168)).alloc (.cells #[.int .u8 0, .int .i64 0, .int .i64 0, .int .i64 0, .int .u8 0, .int .i64 0, .int .i64 0, .int .i64 0] 168)) w.heap.size 168 #[.int .u8 0, .int .i64 0, .int .i64 0, .int .i64 0, .int .u8 0, .int .i64 0, .int .i64 0, .int .i64 0] := (Blk.new w _ _).alloc _
  have hO : Blk ((w.alloc (.cells #[.int .u8 0, .int .i64 0, .int .i64 0, .int .i64 0, .int .u8 0, .int .i64 0, .int .i64 0, .int .i64 0] 168)).alloc (.cells #[.int .u8 0, .int .i64 0, .int .i64 0, .int .i64 0, .int .u8 0, .int .i64 0, .int .i64 0, .int .i64 0] 168)) (w.heap.size + 1) 168 #[.int .u8 0, .int .i64 0, .int .i64 0, .int .i64 0, .int .u8 0, .int .i64 0, .int .i64 0, .int .i64 0] := by
    have h := Blk.new (w.alloc (.cells #[.int .u8 0, .int .i64 0, .int .i64 0, .int .i64 0, .int .u8 0, .int .i64 0, .int .i64 0, .int .i64 0] 168)) 168 #[.int .u8 0, .int .i64 0, .int .i64 0, .int .i64 0, .int .u8 0, .int .i64 0, .int .i64 0, .int .i64 0]
    rwa [alloc_size] at h
  have HN := Lib.hid hn
  have HW := Lib.hid hw
  obtain ⟨X, hX⟩ : ∃ X, X = wb s := ⟨_, rfl⟩
  obtain ⟨Y, hY⟩ : ∃ Y, Y = wb (!s) := ⟨_, rfl⟩
  have e1 := half_ofW h0 hs
  have e2 := half_ofW h0 (half_other hs)
  rw [← hX] at e1
  rw [← hY] at e2
  have HX := Lib.hid e1.1
  have HEX := Lib.hid e1.2
  have HY := Lib.hid e2.1
  have HEY := Lib.hid e2.2
  have xr : X.r = 1 := by rw [hX]; cases s <;> rfl
  have yr : Y.r = 1 := by rw [hY]; cases s <;> rfl
  have xn : (X.r != 1) = false := by simp [xr]
  have yn : (Y.r != 1) = false := by simp [yr]
  rw [← hX, ← hY]
  clear hX hY hs e1 e2 hn hw h0 xr yr
  go_enter Tryz.func115, Tryz.ntmps115
  go_wp2_with fail
  go_loopw [12] (fun i wr => ∃ k : Nat, k ≤ 2 ∧ i = .int .i64 k ∧ Blk wr w.heap.size 168 #[.int .u8 0, .int .i64 0, .int .i64 0, .int .i64 0, .int .u8 0, .int .i64 0, .int .i64 0, .int .i64 0] ∧ Blk wr (w.heap.size + 1) 168 (waysK X Y k) ∧ Below w.heap.size w wr) (fun i _ => 2 - (intOf i).toNat)
  case atStart => exact ⟨0, by omega, rfl, hZ, hO, hb0⟩
  case round =>
    clear hZ hb0 hO
    obtain ⟨k, hk, rfl, hZ, hO, hb⟩ := hrel
    have key : k = 0 ∨ k = 1 ∨ k = 2 := by omega
    rcases key with rfl | rfl | rfl
    · simp only [waysK, Nat.lt_irrefl, Nat.not_lt_zero, if_false] at hO
      go_wp2_with (go_at_call 24; (with_reducible refine (winOf_is v N P 0 o x X HX.out 0 HEX.out wr (HN.out.on hb) (HW.out.on hb) (by decide) (by decide)).mono ?_); rintro e w1 ⟨rfl, b1⟩; have b1' := below_al b1 (.cells #[.int .u8 X.r, .int .i64 X.p, .int .i64 X.b, .int .i64 X.e] 73); have hO1 := hO.on b1'; have hZ1 := hZ.on b1'; have hb1 := below_then hb b1'; obtain ⟨z0, z1, z2, z3, z4, z5, z6, z7, zl⟩ := hO1.c8; have zf := hO1.frozen)
      go_roundw
      case rel => exact ⟨1, by omega, rfl, hZ1.far4 (by omega) _ _ _ _ _ _ _ _, hO1.low4 _ _ _ _, below_four hb1 (by omega) _ _ _ _⟩
      case measure => decide
    · simp only [waysK, Nat.lt_irrefl, Nat.lt_add_one, if_false, if_true] at hO
      go_wp2_with (go_at_call 24; (with_reducible refine (winOf_is v N P 1 o x Y HY.out 0 HEY.out wr (HN.out.on hb) (HW.out.on hb) (by decide) (by decide)).mono ?_); rintro e w1 ⟨rfl, b1⟩; have b1' := below_al b1 (.cells #[.int .u8 Y.r, .int .i64 Y.p, .int .i64 Y.b, .int .i64 Y.e] 73); have hO1 := hO.on b1'; have hZ1 := hZ.on b1'; have hb1 := below_then hb b1'; obtain ⟨z0, z1, z2, z3, z4, z5, z6, z7, zl⟩ := hO1.c8; have zf := hO1.frozen)
      go_roundw
      case rel => exact ⟨2, by omega, rfl, hZ1.far4 (by omega) _ _ _ _ _ _ _ _, hO1.high4 _ _ _ _, below_high4 hb1 (by omega) _ _ _ _⟩
      case measure => decide
    · have hO2 : Blk wr (w.heap.size + 1) 168 #[.int .u8 X.r, .int .i64 X.p, .int .i64 X.b, .int .i64 X.e, .int .u8 Y.r, .int .i64 Y.p, .int .i64 Y.b, .int .i64 Y.e] := hO
      obtain ⟨z0, z1, z2, z3, z4, z5, z6, z7, zl⟩ := hO2.c8
      have zf := hO2.frozen
      obtain ⟨y0, y1, y2, y3, y4, y5, y6, y7, yl⟩ := hZ.c8
      have yf := hZ.frozen
      go_wp2_with fail
      have hR := blk_eight hZ (.int .u8 X.r) (.int .i64 X.p) (.int .i64 X.b) (.int .i64 X.e) (.int .u8 Y.r) (.int .i64 Y.p) (.int .i64 Y.b) (.int .i64 Y.e)
      obtain ⟨x0, x1, x2, x3, x4, x5, x6, x7, -⟩ := hR.c8
      exact bodyPost_ret (v := .tuple #[.agg #[.int .u8 X.r, .int .i64 X.p, .int .i64 X.b, .int .i64 X.e, .int .u8 Y.r, .int .i64 Y.p, .int .i64 Y.b, .int .i64 Y.e], .int .i64 0]) (by simp [results, Tryz.results115, go_sem, x0, x1, x2, x3, x4, x5, x6, x7]) rfl ⟨rfl, below_eight hb (Nat.le_refl _) _ _ _ _ _ _ _ _⟩
end Go.Proofs.YtkejpkcaojidaaaGreatDoor

namespace Go.Proofs.YtkejpkcaojidaaaGreatDoor
open Go.RowKit Rg
set_option linter.unusedVariables false

theorem Blk.sd {w : World} {g : Nat} {a : Sd} (h : Blk w g 42 #[.bool a.i, .int .i64 a.a, .int .u8 a.k, .int .u8 a.s, .int .u32 a.q, .int .u32 a.v]) : w.cell? ⟨g, 0, none⟩ = some (.bool a.i) ∧ w.cell? ⟨g, 1, none⟩ = some (.int .i64 a.a) ∧ w.cell? ⟨g, 2, none⟩ = some (.int .u8 a.k) ∧ w.cell? ⟨g, 3, none⟩ = some (.int .u8 a.s) ∧ w.cell? ⟨g, 4, none⟩ = some (.int .u32 a.q) ∧ w.cell? ⟨g, 5, none⟩ = some (.int .u32 a.v) ∧ g < w.heap.size :=
  ⟨(h.cell 0).trans rfl, (h.cell 1).trans rfl, (h.cell 2).trans rfl, (h.cell 3).trans rfl, (h.cell 4).trans rfl, (h.cell 5).trans rfl, h.lt⟩
/-- What is known of the closure, of a sender that is built, of a sender in its block. -/
def Reg.Fact.hand (gs : Nat) : Reg.Fact := ⟨fun v w => ∃ h, v = handV h ∧ Blk w h 126 #[.slice (some ⟨gs, 0, none⟩) 114 114], fun _ _ _ hb h => by
  obtain ⟨g, e, hB⟩ := h
  exact ⟨g, e, hB.on hb⟩⟩
def Reg.Fact.sen (X Y : Wn) (a : Sd) (gs : Nat) : Reg.Fact := ⟨fun v w => ∃ h, v = .agg #[.int .u8 X.r, .int .i64 X.p, .int .i64 X.b, .int .i64 X.e, .int .u8 Y.r, .int .i64 Y.p, .int .i64 Y.b, .int .i64 Y.e, handV h, .int .u8 a.k, .int .u8 a.s, .int .u32 a.q, .int .u32 a.v] ∧ Blk w h 126 #[.slice (some ⟨gs, 0, none⟩) 114 114], fun _ _ _ hb h => by
  obtain ⟨g, e, hB⟩ := h
  exact ⟨g, e, hB.on hb⟩⟩
def Reg.Fact.senp (X Y : Wn) (a : Sd) (gs : Nat) : Reg.Fact := ⟨fun v w => ∃ g h, v = .pointer (some ⟨g, 0, none⟩) ∧ Blk w g 171 #[.int .u8 X.r, .int .i64 X.p, .int .i64 X.b, .int .i64 X.e, .int .u8 Y.r, .int .i64 Y.p, .int .i64 Y.b, .int .i64 Y.e, handV h, .int .u8 a.k, .int .u8 a.s, .int .u32 a.q, .int .u32 a.v] ∧ Blk w h 126 #[.slice (some ⟨gs, 0, none⟩) 114 114], fun _ _ _ hb h => by
  obtain ⟨g, k, e, hB, hH⟩ := h
  exact ⟨g, k, e, hB.on hb, hH.on hb⟩⟩

set_option maxRecDepth 100000 in
/-- Without an offer of both, the same: silent. -/
theorem new_mute (v : Value) (N : Int) (P : List Int) (x o : Int) (a b : Sd) (hE : halfE N P o x = 0) (hs : sameB a b = false) (w : World) (hn : NetP w v N P) (hw : Laid2 w) :
    Calls Tryz.prog 95 #[v, .int .i64 x, .int .i64 o, .agg #[.bool a.i, .int .i64 a.a, .int .u8 a.k, .int .u8 a.s, .int .u32 a.q, .int .u32 a.v], .agg #[.bool b.i, .int .i64 b.a, .int .u8 b.k, .int .u8 b.s, .int .u32 b.q, .int .u32 b.v]] w fun e w' => ∃ g, e = .returned (.tuple #[.pointer (some ⟨g, 0, none⟩), .int .i64 0]) ∧ Blk w' g 171 senZ ∧ Below w.heap.size w w' := by
  have hb0 : Below w.heap.size w ((w.alloc (.cells #[.bool a.i, .int .i64 a.a, .int .u8 a.k, .int .u8 a.s, .int .u32 a.q, .int .u32 a.v] 42)).alloc (.cells #[.bool b.i, .int .i64 b.a, .int .u8 b.k, .int .u8 b.s, .int .u32 b.q, .int .u32 b.v] 42)) := below_al (below_al (Below.refl w.heap.size w) (.cells #[.bool a.i, .int .i64 a.a, .int .u8 a.k, .int .u8 a.s, .int .u32 a.q, .int .u32 a.v] 42)) (.cells #[.bool b.i, .int .i64 b.a, .int .u8 b.k, .int .u8 b.s, .int .u32 b.q, .int .u32 b.v] 42)
  have HB0 := Lib.hid hb0
  have HA0 := Lib.hid ((Blk.new w 42 #[.bool a.i, .int .i64 a.a, .int .u8 a.k, .int .u8 a.s, .int .u32 a.q, .int .u32 a.v]).alloc (.cells #[.bool b.i, .int .i64 b.a, .int .u8 b.k, .int .u8 b.s, .int .u32 b.q, .int .u32 b.v] 42))
  have HB1 : Hid (Blk ((w.alloc (.cells #[.bool a.i, .int .i64 a.a, .int .u8 a.k, .int .u8 a.s, .int .u32 a.q, .int .u32 a.v] 42)).alloc (.cells #[.bool b.i, .int .i64 b.a, .int .u8 b.k, .int .u8 b.s, .int .u32 b.q, .int .u32 b.v] 42)) (w.heap.size + 1) 42 #[.bool b.i, .int .i64 b.a, .int .u8 b.k, .int .u8 b.s, .int .u32 b.q, .int .u32 b.v]) := Lib.hid (by
    have h := Blk.new (w.alloc (.cells #[.bool a.i, .int .i64 a.a, .int .u8 a.k, .int .u8 a.s, .int .u32 a.q, .int .u32 a.v] 42)) 42 #[.bool b.i, .int .i64 b.a, .int .u8 b.k, .int .u8 b.s, .int .u32 b.q, .int .u32 b.v]
    rwa [alloc_size] at h)
  have HN := Lib.hid (hn.on hb0)
  have HW := Lib.hid (hw.on hb0)
  obtain ⟨hN0, s, hpl⟩ := half_ok hE
  obtain ⟨X, hX⟩ : ∃ X, X = wb s := ⟨_, rfl⟩
  obtain ⟨Y, hY⟩ : ∃ Y, Y = wb (!s) := ⟨_, rfl⟩
  have hhf := fun u (hu : NetP u v N P) (hw : Laid2 u) => half_yes v N P o x s hN0 hpl u hu hw
  rw [← hX, ← hY] at hhf
  have HHF := Lib.hid hhf
  have HS := Lib.hid hs
  clear hb0 hn hw hE hs hpl hhf hX hY
  go_enter Tryz.func95, Tryz.ntmps95
  go_wp2_with (first
    | (go_at_call 115; (with_reducible refine (HHF.out _ HN.out HW.out).mono ?_); rintro e w1 ⟨rfl, b1⟩; have b1' := below_al b1 (.cells #[.int .u8 X.r, .int .i64 X.p, .int .i64 X.b, .int .i64 X.e, .int .u8 Y.r, .int .i64 Y.p, .int .i64 Y.b, .int .i64 Y.e] 168); have hA1 := HA0.out.on b1'; have hB1 := HB1.out.on b1'; have hV1 := Blk.new w1 168 #[.int .u8 X.r, .int .i64 X.p, .int .i64 X.b, .int .i64 X.e, .int .u8 Y.r, .int .i64 Y.p, .int .i64 Y.b, .int .i64 Y.e]; have hb1 := below_then HB0.out b1'; obtain ⟨a0, a1, a2, a3, a4, a5, al⟩ := hA1.sd; obtain ⟨c0, c1, c2, c3, c4, c5, cl⟩ := hB1.sd; clear b1 b1')
    | (go_at_call 116; (with_reducible refine (same_is a b false HS.out _).mono ?_); rintro e w2 ⟨rfl, b2⟩; clear a0 a1 a2 a3 a4 a5 al c0 c1 c2 c3 c4 c5 cl; have hA2 := hA1.on b2; have hV2 := hV1.on b2; have hb2 := below_then hb1 b2; obtain ⟨a0, a1, a2, a3, a4, a5, al⟩ := hA2.sd; clear b2 hB1 hA1 hV1 hb1))
  go_ret2
  exact ⟨_, rfl, Blk.new _ _ _, below_al hb2 _⟩
/-- A payload of another kind. -/
theorem new_kind (v : Value) (N : Int) (P : List Int) (x o : Int) (a b : Sd) (hE : halfE N P o x = 0) (hs : sameB a b = true) (hm : mayB o a.k = false) (w : World) (hn : NetP w v N P) (hw : Laid2 w) :
    Calls Tryz.prog 95 #[v, .int .i64 x, .int .i64 o, .agg #[.bool a.i, .int .i64 a.a, .int .u8 a.k, .int .u8 a.s, .int .u32 a.q, .int .u32 a.v], .agg #[.bool b.i, .int .i64 b.a, .int .u8 b.k, .int .u8 b.s, .int .u32 b.q, .int .u32 b.v]] w fun e w' => e = .returned (.tuple #[.pointer none, .int .i64 1]) ∧ Below w.heap.size w w' := by
  have hb0 : Below w.heap.size w ((w.alloc (.cells #[.bool a.i, .int .i64 a.a, .int .u8 a.k, .int .u8 a.s, .int .u32 a.q, .int .u32 a.v] 42)).alloc (.cells #[.bool b.i, .int .i64 b.a, .int .u8 b.k, .int .u8 b.s, .int .u32 b.q, .int .u32 b.v] 42)) := below_al (below_al (Below.refl w.heap.size w) (.cells #[.bool a.i, .int .i64 a.a, .int .u8 a.k, .int .u8 a.s, .int .u32 a.q, .int .u32 a.v] 42)) (.cells #[.bool b.i, .int .i64 b.a, .int .u8 b.k, .int .u8 b.s, .int .u32 b.q, .int .u32 b.v] 42)
  have HB0 := Lib.hid hb0
  have HA0 := Lib.hid ((Blk.new w 42 #[.bool a.i, .int .i64 a.a, .int .u8 a.k, .int .u8 a.s, .int .u32 a.q, .int .u32 a.v]).alloc (.cells #[.bool b.i, .int .i64 b.a, .int .u8 b.k, .int .u8 b.s, .int .u32 b.q, .int .u32 b.v] 42))
  have HB1 : Hid (Blk ((w.alloc (.cells #[.bool a.i, .int .i64 a.a, .int .u8 a.k, .int .u8 a.s, .int .u32 a.q, .int .u32 a.v] 42)).alloc (.cells #[.bool b.i, .int .i64 b.a, .int .u8 b.k, .int .u8 b.s, .int .u32 b.q, .int .u32 b.v] 42)) (w.heap.size + 1) 42 #[.bool b.i, .int .i64 b.a, .int .u8 b.k, .int .u8 b.s, .int .u32 b.q, .int .u32 b.v]) := Lib.hid (by
    have h := Blk.new (w.alloc (.cells #[.bool a.i, .int .i64 a.a, .int .u8 a.k, .int .u8 a.s, .int .u32 a.q, .int .u32 a.v] 42)) 42 #[.bool b.i, .int .i64 b.a, .int .u8 b.k, .int .u8 b.s, .int .u32 b.q, .int .u32 b.v]
    rwa [alloc_size] at h)
  have HN := Lib.hid (hn.on hb0)
  have HW := Lib.hid (hw.on hb0)
  obtain ⟨hN0, s, hpl⟩ := half_ok hE
  obtain ⟨X, hX⟩ : ∃ X, X = wb s := ⟨_, rfl⟩
  obtain ⟨Y, hY⟩ : ∃ Y, Y = wb (!s) := ⟨_, rfl⟩
  have hhf := fun u (hu : NetP u v N P) (hw : Laid2 u) => half_yes v N P o x s hN0 hpl u hu hw
  rw [← hX, ← hY] at hhf
  have HHF := Lib.hid hhf
  have HS := Lib.hid hs
  have HF := Lib.hid (fun u => frSyms_no (a.fr o) true false u hm)
  simp only [Sd.fr] at HF
  clear hb0 hn hw hE hs hpl hhf hX hY hm
  go_enter Tryz.func95, Tryz.ntmps95
  go_wp2_with (first
    | (go_at_call 115; (with_reducible refine (HHF.out _ HN.out HW.out).mono ?_); rintro e w1 ⟨rfl, b1⟩; have b1' := below_al b1 (.cells #[.int .u8 X.r, .int .i64 X.p, .int .i64 X.b, .int .i64 X.e, .int .u8 Y.r, .int .i64 Y.p, .int .i64 Y.b, .int .i64 Y.e] 168); have hA1 := HA0.out.on b1'; have hB1 := HB1.out.on b1'; have hV1 := Blk.new w1 168 #[.int .u8 X.r, .int .i64 X.p, .int .i64 X.b, .int .i64 X.e, .int .u8 Y.r, .int .i64 Y.p, .int .i64 Y.b, .int .i64 Y.e]; have hb1 := below_then HB0.out b1'; obtain ⟨a0, a1, a2, a3, a4, a5, al⟩ := hA1.sd; obtain ⟨c0, c1, c2, c3, c4, c5, cl⟩ := hB1.sd; clear b1 b1')
    | (go_at_call 116; (with_reducible refine (same_is a b true HS.out _).mono ?_); rintro e w2 ⟨rfl, b2⟩; clear a0 a1 a2 a3 a4 a5 al c0 c1 c2 c3 c4 c5 cl; have hA2 := hA1.on b2; have hV2 := hV1.on b2; have hb2 := below_then hb1 b2; obtain ⟨a0, a1, a2, a3, a4, a5, al⟩ := hA2.sd; clear b2 hB1 hA1 hV1 hb1)
    | (go_at_call 117; (with_reducible refine (HF.out _).mono ?_); rintro e w3 ⟨rfl, b3⟩))
  exact bodyPost_ret (v := .tuple #[.pointer none, .int .i64 1]) (by simp [results, Tryz.results95, go_sem]) rfl ⟨rfl, below_then hb2 b3⟩
set_option maxRecDepth 100000 in
/-- Both offers the same: it sends. -/
theorem new_saysG (v : Value) (N : Int) (P : List Int) (x o : Int) (a b : Sd) (s : Bool) (hN0 : N ≠ 0) (hpl : plM N P 0 o x = halfI s) (hs : sameB a b = true) (ha : a.Fit) (hm : mayB o a.k = true) (w : World) (hn : NetP w v N P) (hw : Laid2 w) :
    Calls Tryz.prog 95 #[v, .int .i64 x, .int .i64 o, .agg #[.bool a.i, .int .i64 a.a, .int .u8 a.k, .int .u8 a.s, .int .u32 a.q, .int .u32 a.v], .agg #[.bool b.i, .int .i64 b.a, .int .u8 b.k, .int .u8 b.s, .int .u32 b.q, .int .u32 b.v]] w fun e w' => ∃ v', e = .returned (.tuple #[v', .int .i64 0]) ∧ SaysG s (a.fr o) w' v' ∧ Below w.heap.size w w' := by
  have hb0 : Below w.heap.size w ((w.alloc (.cells #[.bool a.i, .int .i64 a.a, .int .u8 a.k, .int .u8 a.s, .int .u32 a.q, .int .u32 a.v] 42)).alloc (.cells #[.bool b.i, .int .i64 b.a, .int .u8 b.k, .int .u8 b.s, .int .u32 b.q, .int .u32 b.v] 42)) := below_al (below_al (Below.refl w.heap.size w) (.cells #[.bool a.i, .int .i64 a.a, .int .u8 a.k, .int .u8 a.s, .int .u32 a.q, .int .u32 a.v] 42)) (.cells #[.bool b.i, .int .i64 b.a, .int .u8 b.k, .int .u8 b.s, .int .u32 b.q, .int .u32 b.v] 42)
  have HB0 := Lib.hid hb0
  have HA0 := Lib.hid ((Blk.new w 42 #[.bool a.i, .int .i64 a.a, .int .u8 a.k, .int .u8 a.s, .int .u32 a.q, .int .u32 a.v]).alloc (.cells #[.bool b.i, .int .i64 b.a, .int .u8 b.k, .int .u8 b.s, .int .u32 b.q, .int .u32 b.v] 42))
  have HB1 : Hid (Blk ((w.alloc (.cells #[.bool a.i, .int .i64 a.a, .int .u8 a.k, .int .u8 a.s, .int .u32 a.q, .int .u32 a.v] 42)).alloc (.cells #[.bool b.i, .int .i64 b.a, .int .u8 b.k, .int .u8 b.s, .int .u32 b.q, .int .u32 b.v] 42)) (w.heap.size + 1) 42 #[.bool b.i, .int .i64 b.a, .int .u8 b.k, .int .u8 b.s, .int .u32 b.q, .int .u32 b.v]) := Lib.hid (by
    have h := Blk.new (w.alloc (.cells #[.bool a.i, .int .i64 a.a, .int .u8 a.k, .int .u8 a.s, .int .u32 a.q, .int .u32 a.v] 42)) 42 #[.bool b.i, .int .i64 b.a, .int .u8 b.k, .int .u8 b.s, .int .u32 b.q, .int .u32 b.v]
    rwa [alloc_size] at h)
  have HN := Lib.hid (hn.on hb0)
  have HW := Lib.hid (hw.on hb0)
  obtain ⟨X, hX⟩ : ∃ X, X = wb s := ⟨_, rfl⟩
  obtain ⟨Y, hY⟩ : ∃ Y, Y = wb (!s) := ⟨_, rfl⟩
  have hhf := fun u (hu : NetP u v N P) (hw : Laid2 u) => half_yes v N P o x s hN0 hpl u hu hw
  rw [← hX, ← hY] at hhf
  have HHF := Lib.hid hhf
  have HS := Lib.hid hs
  have HF := Lib.hid (fun u => frSyms_yes (a.fr o) true false u (ha.fr o) hm)
  have HFL := Lib.hid (symF_len (a.fr o))
  rw [show ofL (putL (a.fr o).body) ++ tailL true false = symF (a.fr o) from rfl] at HF
  obtain ⟨L, hL⟩ : ∃ L, L = symF (a.fr o) := ⟨_, rfl⟩
  rw [← hL] at HF HFL
  simp only [Sd.fr] at HF
  have HXE := Lib.hid hX
  have HYE := Lib.hid hY
  have HLE := Lib.hid hL
  clear hb0 hn hw hs hpl hhf hm ha hX hY hL
  go_enter Tryz.func95, Tryz.ntmps95
  go_upto_region 9 with (first
    | (go_at_call 115; (with_reducible refine (HHF.out _ HN.out HW.out).mono ?_); rintro e w1 ⟨rfl, b1⟩; have b1' := below_al b1 (.cells #[.int .u8 X.r, .int .i64 X.p, .int .i64 X.b, .int .i64 X.e, .int .u8 Y.r, .int .i64 Y.p, .int .i64 Y.b, .int .i64 Y.e] 168); have hA1 := HA0.out.on b1'; have hB1 := HB1.out.on b1'; have hV1 := Blk.new w1 168 #[.int .u8 X.r, .int .i64 X.p, .int .i64 X.b, .int .i64 X.e, .int .u8 Y.r, .int .i64 Y.p, .int .i64 Y.b, .int .i64 Y.e]; have hb1 := below_then HB0.out b1'; obtain ⟨a0, a1, a2, a3, a4, a5, al⟩ := hA1.sd; obtain ⟨c0, c1, c2, c3, c4, c5, cl⟩ := hB1.sd; clear b1 b1')
    | (go_at_call 116; (with_reducible refine (same_is a b true HS.out _).mono ?_); rintro e w2 ⟨rfl, b2⟩; clear a0 a1 a2 a3 a4 a5 al c0 c1 c2 c3 c4 c5 cl; have hA2 := hA1.on b2; have hV2 := hV1.on b2; have hb2 := below_then hb1 b2; obtain ⟨a0, a1, a2, a3, a4, a5, al⟩ := hA2.sd; clear b2 hB1 hA1 hV1 hb1)
    | (go_at_call 117; (with_reducible refine (HF.out _).mono ?_); rintro e w3 ⟨gs, rfl, hgs, hS3, b3⟩; have HB3 := Lib.hid (below_then hb2 b3); have HA3 := Lib.hid (hA2.on b3); have HV3 := Lib.hid (hV2.on b3); have HL3 := Lib.hid hS3; clear b3 hb2 hA2 hV2 hS3 hgs a0 a1 a2 a3 a4 a5 al))
  obtain ⟨gA, hgA⟩ : ∃ gA, gA = w.heap.size := ⟨_, rfl⟩
  rw [← hgA] at HA3 ⊢
  have HGA := Lib.hid hgA
  clear hgA
  refine Reg.wp_slots (fun t => t == 10 || t == 11 || decide (43 ≤ t)) (by kernel_rfl) (by kernel_rfl) (by kernel_rfl) (fun zz => (Reg.tbl [
    (43, .is (.agg #[.int .u8 X.r, .int .i64 X.p, .int .i64 X.b, .int .i64 X.e, .int .u8 Y.r, .int .i64 Y.p, .int .i64 Y.b, .int .i64 Y.e])),
    (44, .is (.slice (some ⟨gs, 0, none⟩) 114 114)),
    (45, .hand gs),
    (46, .is (.pointer (some ⟨gA, 2, none⟩))),
    (47, .is (.agg #[.int .u8 a.k, .int .u8 a.s, .int .u32 a.q, .int .u32 a.v])),
    (48, .sen X Y a gs),
    (49, .senp X Y a gs),
    (10, .senp X Y a gs),
    (11, .is (.int .i64 0))] zz).P) (fun zz => (Reg.tbl _ zz).on) ?_ ?_
  · simp only [Reg.frame, Reg.over, Nat.reduceAdd, Nat.reduceBEq, Nat.reduceLeDiff, decide_true, decide_false, Bool.or_true, Bool.or_false, if_true, Bool.false_eq_true, if_false]
    refine ⟨?_, ?_, ?_, ?_, ?_, ?_, ?_, ?_, ?_, trivial⟩
    · intro x u hbu hd
      obtain ⟨v0, v1, v2, v3, v4, v5, v6, v7, vl⟩ := (HV3.out.on hbu).c8
      refine wpOp_step rfl fun K hK => ?_
      go_simp
      exact hK _ _ ⟨_, rfl, Below.refl _ _, fun d hd => by cases hd; exact rfl⟩
    · intro x u hbu hd
      refine wpOp_step rfl fun K hK => ?_
      go_simp
      exact hK _ _ ⟨_, rfl, Below.refl _ _, fun d hd => by cases hd; exact rfl⟩
    · intro x u hbu hd
      have h44 : x 44 = .slice (some ⟨gs, 0, none⟩) 114 114 := hd 1 (by decide)
      refine wpOp_step rfl fun K hK => ?_
      simp only [h44] at hK ⊢
      go_simp
      with_reducible refine (handed_is (some ⟨gs, 0, none⟩) 114 _).mono ?_
      rintro e u' ⟨rfl, hB', hb'⟩
      exact hK _ _ ⟨_, rfl, hb', fun d hd => by cases hd; exact ⟨_, rfl, hB'⟩⟩
    · intro x u hbu hd
      refine wpOp_step rfl fun K hK => ?_
      go_simp
      exact hK _ _ ⟨_, rfl, Below.refl _ _, fun d hd => by cases hd; exact rfl⟩
    · intro x u hbu hd
      have h46 : x 46 = .pointer (some ⟨gA, 2, none⟩) := hd 3 (by decide)
      obtain ⟨a0, a1, a2, a3, a4, a5, al⟩ := (HA3.out.on hbu).sd
      refine wpOp_step rfl fun K hK => ?_
      simp only [h46] at hK ⊢
      go_simp
      exact hK _ _ ⟨_, rfl, Below.refl _ _, fun d hd => by cases hd; exact rfl⟩
    · intro x u hbu hd
      have h43 : x 43 = .agg #[.int .u8 X.r, .int .i64 X.p, .int .i64 X.b, .int .i64 X.e, .int .u8 Y.r, .int .i64 Y.p, .int .i64 Y.b, .int .i64 Y.e] := hd 0 (by decide)
      have k45 : (Reg.Fact.hand gs : Reg.Fact).P (x 45) u := hd 2 (by decide)
      obtain ⟨h45x, h45, hB45⟩ := k45
      have h47 : x 47 = .agg #[.int .u8 a.k, .int .u8 a.s, .int .u32 a.q, .int .u32 a.v] := hd 4 (by decide)
      refine wpOp_step rfl fun K hK => ?_
      simp only [h43, h45, h47] at hK ⊢
      go_simp
      exact hK _ _ ⟨_, rfl, Below.refl _ _, fun d hd => by cases hd; exact ⟨_, rfl, hB45⟩⟩
    · intro x u hbu hd
      have k48 : (Reg.Fact.sen X Y a gs : Reg.Fact).P (x 48) u := hd 5 (by decide)
      obtain ⟨h48x, h48, hB48⟩ := k48
      refine wpOp_step rfl fun K hK => ?_
      simp only [h48] at hK ⊢
      go_simp
      exact hK _ _ ⟨_, rfl, below_al (Below.refl _ _) _, fun d hd => by cases hd; exact ⟨_, _, rfl, Blk.new _ _ _, hB48.alloc _⟩⟩
    · intro x u hbu hd
      have k49 : (Reg.Fact.senp X Y a gs : Reg.Fact).P (x 49) u := hd 6 (by decide)
      obtain ⟨g49, h49x, h49, hB49, hH49⟩ := k49
      refine wpOp_step rfl fun K hK => ?_
      simp only [h49] at hK ⊢
      go_simp
      exact hK _ _ ⟨_, rfl, Below.refl _ _, fun d hd => by cases hd; exact ⟨_, _, rfl, hB49, hH49⟩⟩
    · intro x u hbu hd
      refine wpOp_step rfl fun K hK => ?_
      go_simp
      exact hK _ _ ⟨_, rfl, Below.refl _ _, fun d hd => by cases hd; exact rfl⟩
  · intro y u2 hbu hall
    have k10 : (Reg.Fact.senp X Y a gs : Reg.Fact).P (y 10) u2 := hall 7 (by decide)
    obtain ⟨g, h, h10, hB, hH⟩ := k10
    have h11 : y 11 = .int .i64 0 := hall 8 (by decide)
    simp only [Reg.frame, Reg.over, Nat.reduceAdd, Nat.reduceBEq, Nat.reduceLeDiff, decide_true, decide_false, Bool.or_true, Bool.or_false, if_true, Bool.false_eq_true, if_false, h10, h11]
    have hb6 := below_then HB3.out hbu
    have HF := Lib.hid (And.intro hB (And.intro hH (HL3.out.on hbu)))
    clear hbu hall hB hH
    go_wp2_with fail
    exact bodyPost_ret (v := .tuple #[.pointer (some ⟨g, 0, none⟩), .int .i64 0]) (by simp [results, Tryz.results95, go_sem]) rfl ⟨_, rfl, ⟨g, h, gs, rfl, by have := HF.out.1; rw [HXE.out, HYE.out] at this; exact this, HF.out.2.1, by rw [← HLE.out]; exact HF.out.2.2⟩, hb6⟩
theorem SaysG.says {s : Bool} {f : Fr} {w : World} {v : Value} (h : SaysG s f w v) : Says s f w v := by
  obtain ⟨g, k, gs, rfl, h1, h2, h3⟩ := h
  exact ⟨g, k, _, rfl, h1, h2, h3.lies (symF_len f)⟩
theorem new_says (v : Value) (N : Int) (P : List Int) (x o : Int) (a b : Sd) (s : Bool) (hN0 : N ≠ 0) (hpl : plM N P 0 o x = halfI s) (hs : sameB a b = true) (ha : a.Fit) (hm : mayB o a.k = true) (w : World) (hn : NetP w v N P) (hw : Laid2 w) :
    Calls Tryz.prog 95 #[v, .int .i64 x, .int .i64 o, .agg #[.bool a.i, .int .i64 a.a, .int .u8 a.k, .int .u8 a.s, .int .u32 a.q, .int .u32 a.v], .agg #[.bool b.i, .int .i64 b.a, .int .u8 b.k, .int .u8 b.s, .int .u32 b.q, .int .u32 b.v]] w fun e w' => ∃ v', e = .returned (.tuple #[v', .int .i64 0]) ∧ Says s (a.fr o) w' v' ∧ Below w.heap.size w w' :=
  (new_saysG v N P x o a b s hN0 hpl hs ha hm w hn hw).mono fun e w' ⟨v', h1, h2, h3⟩ => ⟨v', h1, h2.says, h3⟩
end Go.Proofs.YtkejpkcaojidaaaGreatDoor

