/-
  The walk of the law WordsRows: it returns true, and nothing that was there has turned. Conditions: the rows' readings.
-/
import Derived.Test.YtmmgbhdjjejacaaWdT2
namespace Go.Proofs.Ytmmgbhdjjejacaa
open Go.RowKit
set_option linter.unusedVariables false
set_option linter.unusedSimpArgs false

theorem Reg.step_load_wantT {P : Program} {ops : Array Oper} {o : Oper} {a : Act} {w : World} {K : Act → World → Prop} {Q : Exit → Act → World → Prop} {E : Prop} (hw : Region.wanted o (yielded ops a.tmps) = true) (T : TypeId) (x : Operand) (ho : o.op = .load T x) (g off : Nat) (hx : a.eval x = .pointer (some ⟨g, off, none⟩)) (cs : List Value) (hc : w.rangeAt g off cs) (d : TypeDesc)
    (hu : P.underlying T = some d) (hd : d.isRow = true) (hi : (P.info? T).map (·.size) = some cs.length) (h : K (a.put o.dst (.agg cs.toArray)) w) :
    if Region.wanted o (yielded ops a.tmps) = true then Oper.wp P o a w K Q else E := by
  rw [if_pos hw]
  exact wp_load_mid T x ho g off hx cs d hc hu hd hi h
def plain_of (N : Int) (r : Rw) : Ro := plRI N r.ro
/-- Both rows in their boxes. -/
structure WR (w : World) (a b : Rw) (U : World) : Prop where
  x : Blk U w.heap.size 54 a.l.toArray
  y : Blk U (w.heap.size + 1) 54 b.l.toArray
  b : Below w.heap.size w U
def tw (a : Rw) (g : Nat) : List Value := roL a.b a.c (some ⟨g, 0, none⟩) a.n (a.n + 2)
theorem tw_len (a : Rw) (g : Nat) : (tw a g).length = 57 := roL_len _ _ _ _ _
theorem tw_one (a : Rw) (g : Nat) : ∀ v ∈ tw a g, v.oneCell' = true := roL_one _ _ _ _ _
theorem Rw.l_one (r : Rw) : ∀ v ∈ r.l, v.oneCell' = true := roL_one _ _ _ _ _
def twR (a : Rw) (g : Nat) : Rw := ⟨a.b, a.c, some ⟨g, 0, none⟩, a.n, a.n + 2, a.T⟩
/-- .. and a twin of each. -/
structure S3 (w : World) (a b : Rw) (g7 gt g8 gu : Nat) (U : World) : Prop where
  r : WR w a b U
  x7 : Blk U g7 54 (tw a gt).toArray
  t7 : TwH U gt a.n a.T
  x8 : Blk U g8 54 (tw b gu).toArray
  t8 : TwH U gu b.n b.T
  lo : w.heap.size + 1 < gt ∧ w.heap.size + 1 < gu ∧ w.heap.size + 1 < g7 ∧ w.heap.size + 1 < g8
/-- .. and the copy, the plain form: their boxes, their tables' blocks. -/
structure S5 (w : World) (a b c d : Rw) (g7 gt g8 gu g9 gc g10 gd : Nat) (U : World) : Prop where
  s : S3 w a b g7 gt g8 gu U
  x9 : Blk U g9 54 c.l.toArray
  l9 : LiesH U U.heap.size c.A c.n c.T
  p9 : SpO U gc c.A c.n c.p
  x10 : Blk U g10 54 d.l.toArray
  l10 : LiesH U U.heap.size d.A d.n d.T
  p10 : SpO U gd d.A d.n d.p
  lo : g7 < gc ∧ gt < gc ∧ g8 < gc ∧ gu < gc ∧ gc < gd ∧ gc < g10 ∧ g7 < gd ∧ gt < gd ∧ g8 < gd ∧ gu < gd ∧ gc ≤ U.heap.size ∧ gd ≤ U.heap.size
section
variable {w U V : World} {a b c d : Rw} {g7 gt g8 gu g9 gc g10 gd : Nat}
theorem WR.on (h : WR w a b U) (k : Below U.heap.size U V) : WR w a b V := ⟨h.x.on k, h.y.on k, h.b.trans (k.mono h.b.size)⟩
theorem WR.lt (h : WR w a b U) : w.heap.size + 1 < U.heap.size := h.y.lt
theorem WR.but {x : Nat} (h : WR w a b U) (k : But x U V) (hx : w.heap.size + 1 < x) : WR w a b V := ⟨k.blk h.x (by omega), k.blk h.y (by omega), h.b.trans (k.low (by omega))⟩
theorem WR.lies (h : WR w a b U) {A : Option Addr} {n : Nat} {T : Nat → He} (hl : LiesH w w.heap.size A n T) : LiesH U U.heap.size A n T := hl.on h.b
theorem S3.on (h : S3 w a b g7 gt g8 gu U) (k : Below U.heap.size U V) : S3 w a b g7 gt g8 gu V := ⟨h.r.on k, h.x7.on k, h.t7.on k, h.x8.on k, h.t8.on k, h.lo⟩
theorem S3.but {x : Nat} (h : S3 w a b g7 gt g8 gu U) (k : But x U V) (hx : g7 < x ∧ gt < x ∧ g8 < x ∧ gu < x) : S3 w a b g7 gt g8 gu V :=
  ⟨h.r.but k (by have := h.lo; omega), k.blk h.x7 (by omega), h.t7.but k (by omega), k.blk h.x8 (by omega), h.t8.but k (by omega), h.lo⟩
theorem S5.on (h : S5 w a b c d g7 gt g8 gu g9 gc g10 gd U) (k : Below U.heap.size U V) : S5 w a b c d g7 gt g8 gu g9 gc g10 gd V :=
  ⟨h.s.on k, h.x9.on k, h.l9.on k, h.p9.on k, h.x10.on k, h.l10.on k, h.p10.on k, by have := h.lo; have := k.size; omega⟩
end
/-- A value of a row put into a box made just now. -/
theorem box_row (u : World) : ∀ Z : Array Value, Z.size = 57 → PIn (u.alloc (.cells Z 54)) u.heap.size 0 54 [] [] Z.toList ∧ Z.toList.length = 57 := fun Z hZ => ⟨Blk.pin (by simpa using Blk.new u 54 Z), by simpa using hZ⟩
set_option maxRecDepth 100000 in
set_option maxHeartbeats 8000000 in
theorem rows_main (N : Int) (a b : Rw) (hna : a.n ≤ 400) (hnb : b.n ≤ 400) (w : World) (hA : LiesH w w.heap.size a.A a.n a.T) (hB : LiesH w w.heap.size b.A b.n b.T) :
    Calls Try.prog 4 #[.int .i64 N, .agg a.l.toArray, .agg b.l.toArray] w fun e w' => e = .returned (.bool true) ∧ Below w.heap.size w w' := by
  have HA := Lib.hid hA
  have HB := Lib.hid hB
  have h400a : ¬ (400 : Int) < (a.n : Int) := by omega
  have h400b : ¬ (400 : Int) < (b.n : Int) := by omega
  have HTW : Hid (∀ (u : World) (r : Rw), r.n ≤ 400 → LiesH u u.heap.size r.A r.n r.T → Calls Try.prog 20 #[.agg r.l.toArray] u fun e w' => ∃ g : Nat, e = .returned (.agg (tw r g).toArray) ∧ u.heap.size ≤ g ∧ TwH w' g r.n r.T ∧ Below u.heap.size u w') := Lib.hid (fun u r hr h => twin_is r (by omega) u h)
  clear hA hB
  go_enter Try.func4, Try.ntmps4
  go_upto_region 1 with fail
  refine wp_at (WR w a b) (by
    have hb := box_two w 54 54 a.l.toArray b.l.toArray
    exact ⟨hb.1, hb.2.1, hb.2.2⟩) ?_
  intro U hU
  have c1 : U.cell? ⟨w.heap.size, 56, none⟩ = some (.slice a.A a.n a.p) := hU.x.rowTab
  have c2 : U.cell? ⟨w.heap.size + 1, 56, none⟩ = some (.slice b.A b.n b.p) := hU.y.rowTab
  have l1 := hU.x.lt
  have l2 := hU.y.lt
  have HU := Lib.hid hU
  clear hU
  have HZN := Lib.hid box_row
  go_upto_region 4 with (first
    | (refine wpList_load_pin rfl 54 (.tmp 4) rfl HU.out.x.pin (by simp [Act.eval, Act.put]) _ Try.underlying54 rfl 57 size_row a.l_len ?_)
    | (go_at_call 20; (with_reducible refine (HTW.out _ a hna (HU.out.lies HA.out)).mono ?_); rintro e w1 ⟨gt, rfl, q1, q2, q3⟩; have HQ1 := Lib.hid q1; have HQ2 := Lib.hid q2; have HQ3 := Lib.hid q3; clear q1 q2 q3)
    | (refine wpList_store_pin rfl 54 (.tmp 7) (.tmp 23) rfl (HZN.out w1 _ rfl).1 (tw a gt) (by simp [Act.eval, Act.put]) (by simp [Act.eval, Act.put]) 57 size_row (HZN.out w1 _ rfl).2 (tw_len _ _) (tw_one _ _) ?_; intro w2 p2 b2; have HP2 := Lib.hid p2; have HB2 := Lib.hid b2; clear p2 b2))
  refine wp_at (fun X => WR w a b X ∧ Blk X w1.heap.size 54 (tw a gt).toArray ∧ TwH X gt a.n a.T ∧ w.heap.size + 1 < gt ∧ w.heap.size + 1 < w1.heap.size ∧ gt < X.heap.size) ⟨((HU.out.on HQ3.out).on (below_al (Below.refl _ w1) _)).but HB2.out (by have := HU.out.lt; have := HQ3.out.size; omega), HP2.out.blk_, (HQ2.out.on (below_al (Below.refl _ w1) _)).but HB2.out (by have := HQ2.out.lt; omega), by have := HU.out.lt; have := HQ1.out; omega, by have := HU.out.lt; have := HQ3.out.size; omega, by have := HQ2.out.lt; have := HP2.out.lt; omega⟩ ?_
  rintro X ⟨x1, x2, x3, x4, x5, x6⟩
  obtain ⟨g7, hg7⟩ : ∃ g7, g7 = w1.heap.size := ⟨_, rfl⟩
  rw [← hg7] at x2 x5 ⊢
  have HX1 := Lib.hid x1
  have HX2 := Lib.hid x2
  have HX3 := Lib.hid x3
  have HL4 := Lib.hid x4
  have HL5 := Lib.hid x5
  have HL6 := Lib.hid x6
  clear x1 x2 x3 x4 x5 x6 hg7 HU HQ1 HQ2 HQ3 HP2 HB2 c1 c2 l1 l2
  go_upto_region 5 with (first
    | (refine wpList_load_pin rfl 54 (.tmp 5) rfl HX1.out.y.pin (by simp [Act.eval, Act.put]) _ Try.underlying54 rfl 57 size_row b.l_len ?_)
    | (go_at_call 20; (with_reducible refine (HTW.out _ b hnb (HX1.out.lies HB.out)).mono ?_); rintro e w3 ⟨gu, rfl, q1, q2, q3⟩; have HQ1 := Lib.hid q1; have HQ2 := Lib.hid q2; have HQ3 := Lib.hid q3; clear q1 q2 q3)
    | (refine wpList_store_pin rfl 54 (.tmp 8) (.tmp 25) rfl (HZN.out w3 _ rfl).1 (tw b gu) (by simp [Act.eval, Act.put]) (by simp [Act.eval, Act.put]) 57 size_row (HZN.out w3 _ rfl).2 (tw_len _ _) (tw_one _ _) ?_; intro w4 p4 b4; have HP4 := Lib.hid p4; have HB4 := Lib.hid b4; clear p4 b4))
  have hX := HX1.out.lt
  have h3 := HQ3.out.size
  have h7 := HX2.out.lt
  refine wp_at (fun Y => S3 w a b g7 gt w3.heap.size gu Y) ⟨((HX1.out.on HQ3.out).on (below_al (Below.refl _ w3) _)).but HB4.out (by omega), HB4.out.blk ((HX2.out.on HQ3.out).alloc _) (by omega), ((HX3.out.on HQ3.out).on (below_al (Below.refl _ w3) _)).but HB4.out (by have := HL6.out; omega), HP4.out.blk_, (HQ2.out.on (below_al (Below.refl _ w3) _)).but HB4.out (by have := HQ2.out.lt; omega), HL4.out, by have := HQ1.out; omega, HL5.out, by omega⟩ ?_
  intro Y hY
  obtain ⟨g8, hg8⟩ : ∃ g8, g8 = w3.heap.size := ⟨_, rfl⟩
  rw [← hg8] at hY ⊢
  have HY := Lib.hid hY
  clear hY hg8 hX h3 h7 HX1 HX2 HX3 HL4 HL5 HL6 HQ1 HQ2 HQ3 HP4 HB4 HTW
  have HCP : Hid (Calls Try.prog 21 #[.agg (tw a gt).toArray] Y fun e w' => ∃ L : List Value, e = .returned (.agg L.toArray) ∧ RowO w' Y.heap.size a.ro L ∧ Below Y.heap.size Y w') := Lib.hid (copy_some a.b a.c ⟨gt, 0, none⟩ a.n (a.n + 2) (by omega) a.T Y HY.out.t7.lies)
  go_upto_region 6 with (first
    | (refine wpList_load_pin rfl 54 (.tmp 7) rfl HY.out.x7.pin (by simp [Act.eval, Act.put]) _ Try.underlying54 rfl 57 size_row (tw_len _ _) ?_)
    | (go_at_call 21; (with_reducible refine HCP.out.mono ?_); rintro e w5 ⟨L9, rfl, q1, q2⟩; have HQ1 := Lib.hid q1; have HQ2 := Lib.hid q2; clear q1 q2)
    | (refine wpList_store_pin rfl 54 (.tmp 9) (.tmp 27) rfl (HZN.out w5 _ rfl).1 L9 (by simp [Act.eval, Act.put]) (by simp [Act.eval, Act.put]) 57 size_row (HZN.out w5 _ rfl).2 HQ1.out.len HQ1.out.one ?_; intro w6 p6 b6; have HP6 := Lib.hid p6; have HB6 := Lib.hid b6; clear p6 b6))
  obtain ⟨A9, p9, gc, e9, l9, s9, lc1, lc2⟩ := row_sp HQ1.out HQ2.out.size
  have h5 := HQ2.out.size
  have y1 := HY.out.r.lt
  have y2 := HY.out.x7.lt
  have y3 := HY.out.t7.lt
  have y4 := HY.out.x8.lt
  have y5 := HY.out.t8.lt
  have h6 := HP6.out.lt
  refine wp_at (fun D => S3 w a b g7 gt g8 gu D ∧ Blk D w5.heap.size 54 L9.toArray ∧ LiesH D D.heap.size A9 a.n a.T ∧ SpO D gc A9 a.n p9 ∧ (g7 < gc ∧ gt < gc ∧ g8 < gc ∧ gu < gc ∧ gc < D.heap.size)) ⟨((HY.out.on HQ2.out).on (below_al (Below.refl _ w5) _)).but HB6.out (by omega), HP6.out.blk_, ((l9.low (B := w5.heap.size) ((below_al (Below.refl _ w5) _).trans (HB6.out.low (Nat.le_refl _)))).up (by omega)), (by
    rcases s9 with h | ⟨h1, h2, L, h3, h4⟩
    · exact .inl h
    · exact .inr ⟨h1, h2, L, h3, HB6.out.blk (h4.alloc _) (by have := h4.lt; omega)⟩), by omega⟩ ?_
  rintro D ⟨d1, d2, d3, d4, d5⟩
  obtain ⟨g9, hg9⟩ : ∃ g9, g9 = w5.heap.size := ⟨_, rfl⟩
  rw [← hg9] at d2 ⊢
  have H9 := Lib.hid e9
  have HD1 := Lib.hid d1
  have HD2 := Lib.hid d2
  have HD3 := Lib.hid d3
  have HD4 := Lib.hid d4
  have HD5 := Lib.hid d5
  clear d1 d2 d3 d4 d5 hg9 h5 y1 y2 y3 y4 y5 h6 e9 l9 s9 lc1 lc2 HQ1 HQ2 HP6 HB6 HCP HY
  have HPL : Hid (Calls Try.prog 22 #[.int .i64 N, .agg (tw a gt).toArray] D fun e w' => ∃ L : List Value, e = .returned (.agg L.toArray) ∧ RowO w' D.heap.size (plRI N a.ro) L ∧ Below D.heap.size D w') := Lib.hid (plain_all N (twR a gt) D HD1.out.t7.lies)
  go_upto_region 7 with (first
    | (refine wpList_load_pin rfl 54 (.tmp 7) rfl HD1.out.x7.pin (by simp [Act.eval, Act.put]) _ Try.underlying54 rfl 57 size_row (tw_len _ _) ?_)
    | (go_at_call 22; (with_reducible refine HPL.out.mono ?_); rintro e w7 ⟨L10, rfl, q1, q2⟩; have HQ1 := Lib.hid q1; have HQ2 := Lib.hid q2; clear q1 q2)
    | (refine wpList_store_pin rfl 54 (.tmp 10) (.tmp 30) rfl (HZN.out w7 _ rfl).1 L10 (by simp [Act.eval, Act.put]) (by simp [Act.eval, Act.put]) 57 size_row (HZN.out w7 _ rfl).2 HQ1.out.len HQ1.out.one ?_; intro w8 p8 b8; have HP8 := Lib.hid p8; have HB8 := Lib.hid b8; clear p8 b8))
  obtain ⟨A10, p10, gd, e10, l10, s10, ld1, ld2⟩ := row_sp HQ1.out HQ2.out.size
  have h5 := HQ2.out.size
  have y0 := HD5.out
  have y1 := HD1.out.r.lt
  have y2 := HD1.out.x7.lt
  have y3 := HD1.out.t7.lt
  have y4 := HD1.out.x8.lt
  have y5 := HD1.out.t8.lt
  have y6 := HD2.out.lt
  have h6 := HP8.out.lt
  have e9 := H9.out
  refine wp_at (S5 w a b ⟨a.b, a.c, A9, a.n, p9, a.T⟩ ⟨(plRI N a.ro).b, (plRI N a.ro).c, A10, (plRI N a.ro).n, p10, (plRI N a.ro).T⟩ g7 gt g8 gu g9 gc w7.heap.size gd) ⟨((HD1.out.on HQ2.out).on (below_al (Below.refl _ w7) _)).but HB8.out (by omega), HB8.out.blk (by have := (HD2.out.on HQ2.out).alloc (.cells (roL false ceN none 0 0).toArray 54); rw [e9] at this; first | exact this | exact (by rw [e9] at *; exact (HD2.out.on HQ2.out).alloc _)) (by omega), ((HD3.out.on HQ2.out).low (B := w7.heap.size) ((below_al (Below.refl _ w7) _).trans (HB8.out.low (Nat.le_refl _)))).up (by omega), ((HD4.out.on HQ2.out).on (below_al (Below.refl _ w7) _)).but HB8.out (by omega), (by have := HP8.out.blk_; rw [e10] at this; exact this), ((l10.low (B := w7.heap.size) ((below_al (Below.refl _ w7) _).trans (HB8.out.low (Nat.le_refl _)))).up (by omega)), (by
    rcases s10 with h | ⟨h1, h2, L, h3, h4⟩
    · exact .inl h
    · exact .inr ⟨h1, h2, L, h3, HB8.out.blk (h4.alloc _) (by have := h4.lt; omega)⟩), by omega⟩ ?_
  intro E hE
  obtain ⟨g10, hg10⟩ : ∃ g10, g10 = w7.heap.size := ⟨_, rfl⟩
  obtain ⟨c, hc⟩ : ∃ c : Rw, c = ⟨a.b, a.c, A9, a.n, p9, a.T⟩ := ⟨_, rfl⟩
  obtain ⟨d, hd'⟩ : ∃ d : Rw, d = ⟨(plRI N a.ro).b, (plRI N a.ro).c, A10, (plRI N a.ro).n, p10, (plRI N a.ro).T⟩ := ⟨_, rfl⟩
  rw [← hg10, ← hc, ← hd'] at hE
  rw [← hg10]
  have HE := Lib.hid hE
  have HCR : Hid (c.ro = a.ro) := Lib.hid (by rw [hc]; rfl)
  have HDR : Hid (d.ro = plRI N a.ro) := Lib.hid (by rw [hd']; rfl)
  clear hE hg10 hc hd' h5 y0 y1 y2 y3 y4 y5 y6 h6 e9 e10 l10 s10 ld1 ld2 HQ1 HQ2 HP8 HB8 HPL HD1 HD2 HD3 HD4 HD5 H9 HZN
  obtain ⟨q, hq⟩ : ∃ q, q = eqR a.ro b.ro := ⟨_, rfl⟩
  have HQ := Lib.hid hq
  clear hq
  have hqq : (q != q) = false := by cases q <;> rfl
  have hcn := fun W => cell_neq (plC a.c) (plC a.c) W
  rw [ceE_refl] at hcn
  have HOT : Hid (∀ (u : World) (r : Rw) (R : Ro), r.ro = R → R.n ≤ 65536 → LiesH u u.heap.size r.A r.n r.T → Calls Try.prog 24 #[.agg r.l.toArray] u fun e w' => ∃ Q : Rw, e = .returned (.agg Q.l.toArray) ∧ Q.ro = R ∧ OwnT w' Q ∧ Below u.heap.size u w') := Lib.hid (fun u r R h1 h2 h3 => by subst h1; exact other_is r h2 u h3)
  have HRS : Hid (∀ (u : World) (Q R : Rw) (x y : Ro) (z : Bool), Q.ro = x → R.ro = y → x.n ≤ 65536 → y.n ≤ 65536 → eqR x y = z → OwnT u Q → OwnT u R → Calls Try.prog 23 #[.agg Q.l.toArray, .agg R.l.toArray] u fun e w' => e = .returned (.bool z) ∧ Below u.heap.size u w') := Lib.hid (fun u Q R x y z h1 h2 h3 h4 h5 h6 h7 => by subst h5; exact rsame_oth Q R x y h1 h2 h3 h4 u h6 h7)
  have HRP : Hid (∀ (u : World) (Q : Rw), Q.ro = a.ro → OwnT u Q → Calls Try.prog 25 #[.int .i64 N, .agg Q.l.toArray] u fun e w' => ∃ R : Rw, e = .returned (.agg R.l.toArray) ∧ R.ro = plRI N a.ro ∧ OwnT w' R ∧ Below u.heap.size u w') := Lib.hid (fun u Q h1 h2 => by
    have := rplain_all N Q (by rw [show Q.n = a.n from congrArg Ro.n h1]; omega) u h2.lies
    rwa [h1] at this)
  have HS1 : Hid (∀ u, TwH u gt a.n a.T → TwH u gu b.n b.T → Calls Try.prog 26 #[.agg (tw a gt).toArray, .agg (tw b gu).toArray] u fun e w' => e = .returned (.bool q) ∧ Below u.heap.size u w') := Lib.hid (fun u h1 h2 => by
    rw [HQ.out]
    exact same_rows (twR a gt) (twR b gu) (show a.n ≤ 65536 by omega) (show b.n ≤ 65536 by omega) u h1.lies h2.lies)
  have HS2 : Hid (∀ u, TwH u gt a.n a.T → LiesH u u.heap.size c.A c.n c.T → Calls Try.prog 26 #[.agg (tw a gt).toArray, .agg c.l.toArray] u fun e w' => e = .returned (.bool true) ∧ Below u.heap.size u w') := Lib.hid (fun u h1 h2 => by
    have := same_rows (twR a gt) c (show a.n ≤ 65536 by omega) (by rw [show c.n = a.n from congrArg Ro.n HCR.out]; omega) u h1.lies h2
    rw [HCR.out, show (twR a gt).ro = a.ro from rfl, eqR_self] at this
    exact this)
  have hn1 : a.ro.n ≤ 65536 := show a.n ≤ 65536 by omega
  have hn2 : b.ro.n ≤ 65536 := show b.n ≤ 65536 by omega
  have HN3 := Lib.hid (plRI_n N a.ro hn1)
  have HN1 := Lib.hid hn1
  have HN2 := Lib.hid hn2
  clear hn1 hn2
  simp only [Act.put]
  refine Reg.wp_slots2 (fun t => decide (31 ≤ t) && decide (t ≤ 72)) (Reg.KJ E.heap.size [] []) (Reg.KJ.drew _ (by simp)) Reg.KJ.trans (by kernel_rfl) (by kernel_rfl) (by kernel_rfl) (fun zz => (Reg.tblK [
    (31, .is (.agg (c.l).toArray)),
    (32, .oth a.ro),
    (33, .is (.agg (a.l).toArray)),
    (34, .oth a.ro),
    (35, .is (.bool true)),
    (36, .is (.bool false)),
    (37, .is (.bool false)),
    (38, .is (.agg (d.l).toArray)),
    (39, .oth (plRI N a.ro)),
    (40, .is (.int .i64 N)),
    (41, .is (.agg (a.l).toArray)),
    (42, .oth a.ro),
    (43, .oth (plRI N a.ro)),
    (44, .is (.bool true)),
    (45, .is (.bool false)),
    (46, .is (.bool false)),
    (47, .is (.bool false)),
    (48, .is (.agg (tw a gt).toArray)),
    (49, .is (.agg (tw b gu).toArray)),
    (50, .is (.bool q)),
    (51, .is (.agg (a.l).toArray)),
    (52, .oth a.ro),
    (53, .is (.agg (b.l).toArray)),
    (54, .oth b.ro),
    (55, .is (.bool q)),
    (56, .is (.bool false)),
    (57, .is (.bool false)),
    (58, .is (.bool false)),
    (59, .is (.agg (tw a gt).toArray)),
    (60, .is (.agg (c.l).toArray)),
    (61, .is (.bool true)),
    (62, .is (.bool false)),
    (63, .is (.bool false)),
    (64, .is (.bool false)),
    (65, .is (.pointer (some ⟨w.heap.size, 1, none⟩))),
    (66, .is (.agg (ceL a.c).toArray)),
    (67, .is (.agg (ceL (plC a.c)).toArray)),
    (68, .is (.pointer (some ⟨w.heap.size, 1, none⟩))),
    (69, .is (.agg (ceL a.c).toArray)),
    (70, .is (.agg (ceL (plC a.c)).toArray)),
    (71, .is (.bool false)),
    (72, .is (.bool false))] zz).P) (fun zz => (Reg.tblK _ zz).on) (fun zz => (Reg.memK [] zz).P) (fun zz => (Reg.memK _ zz).on) ?_ ?_
  · simp only [Reg.frame, Reg.over, Nat.reduceAdd, Nat.reduceLeDiff, decide_true, decide_false, if_true, Bool.false_eq_true, if_false, Bool.and_true, Bool.and_false]
    refine ⟨?_, ?_, ?_, ?_, ?_, ?_, ?_, ?_, ?_, ?_, ?_, ?_, ?_, ?_, ?_, ?_, ?_, ?_, ?_, ?_, ?_, ?_, ?_, ?_, ?_, ?_, ?_, ?_, ?_, ?_, ?_, ?_, ?_, ?_, ?_, ?_, ?_, ?_, ?_, ?_, ?_, ?_, trivial⟩
    · intro x u hku hd
      refine wpOp_step rfl fun KK hK => ?_
      refine Reg.step_load_mid (by rfl) 54 (.tmp 9) (by rfl) g9 0 (by rfl) (c.l) (HE.out.on hku.top).x9.pin.range _ Try.underlying54 rfl (by rw [size_row, c.l_len]) ?_
      exact hK _ _ ⟨_, rfl, Reg.KJ.refl _, fun d hd => by cases hd; exact rfl, fun h => by cases h⟩
    · intro x u hku hd
      have h31 : x 31 = .agg (c.l).toArray := hd 0 (by decide)
      refine wpOp_step rfl fun KK hK => ?_
      simp only [h31] at hK ⊢
      go_simp
      (with_reducible refine (HOT.out _ c _ HCR.out HN1.out (HE.out.on hku.top).l9).mono ?_)
      rintro e u' ⟨Q, rfl, q1, q2, hb'⟩
      exact hK _ _ ⟨_, rfl, Reg.KJ.grow (by simp) hku.size hb', fun d hd => by cases hd; exact ⟨Q, rfl, q1, q2⟩, fun h => by cases h⟩
    · intro x u hku hd
      refine wpOp_step rfl fun KK hK => ?_
      refine Reg.step_load_mid (by rfl) 54 (.tmp 4) (by rfl) w.heap.size 0 (by rfl) (a.l) (HE.out.on hku.top).s.r.x.pin.range _ Try.underlying54 rfl (by rw [size_row, a.l_len]) ?_
      exact hK _ _ ⟨_, rfl, Reg.KJ.refl _, fun d hd => by cases hd; exact rfl, fun h => by cases h⟩
    · intro x u hku hd
      have h33 : x 33 = .agg (a.l).toArray := hd 2 (by decide)
      refine wpOp_step rfl fun KK hK => ?_
      simp only [h33] at hK ⊢
      go_simp
      (with_reducible refine (HOT.out _ a _ rfl HN1.out ((HE.out.on hku.top).s.r.lies HA.out)).mono ?_)
      rintro e u' ⟨Q, rfl, q1, q2, hb'⟩
      exact hK _ _ ⟨_, rfl, Reg.KJ.grow (by simp) hku.size hb', fun d hd => by cases hd; exact ⟨Q, rfl, q1, q2⟩, fun h => by cases h⟩
    · intro x u hku hd
      have k32 : (Reg.FactK.oth a.ro : Reg.FactK (Reg.KJ E.heap.size [] [])).P (x 32) u := hd 1 (by decide)
      obtain ⟨Q32, h32, hq32, ho32⟩ := k32
      have k34 : (Reg.FactK.oth a.ro : Reg.FactK (Reg.KJ E.heap.size [] [])).P (x 34) u := hd 3 (by decide)
      obtain ⟨Q34, h34, hq34, ho34⟩ := k34
      refine wpOp_step rfl fun KK hK => ?_
      simp only [h32, h34] at hK ⊢
      go_simp
      (with_reducible refine (HRS.out _ _ _ _ _ _ hq32 hq34 HN1.out HN1.out (eqR_self _) ho32 ho34).mono ?_)
      rintro e u' ⟨rfl, hb'⟩
      exact hK _ _ ⟨_, rfl, Reg.KJ.grow (by simp) hku.size hb', fun d hd => by cases hd; exact rfl, fun h => by cases h⟩
    · intro x u hku hd
      have h35 : x 35 = .bool true := hd 4 (by decide)
      refine wpOp_step rfl fun KK hK => ?_
      simp only [h35] at hK ⊢
      go_simp
      exact hK _ _ ⟨_, rfl, Reg.KJ.refl _, fun d hd => by cases hd; exact rfl, fun h => by cases h⟩
    · intro x u hku hd
      have h36 : x 36 = .bool false := hd 5 (by decide)
      refine wpOp_step rfl fun KK hK => ?_
      simp only [h36] at hK ⊢
      go_simp
      exact hK _ _ ⟨_, rfl, Reg.KJ.refl _, fun d hd => by cases hd; exact rfl, fun h => by cases h⟩
    · intro x u hku hd
      have h37 : x 37 = .bool false := hd 6 (by decide)
      refine wpOp_step rfl fun KK hK => ?_
      refine Reg.step_load_wantT (by simp only [h37]; kernel_rfl) 54 (.tmp 10) (by rfl) g10 0 (by rfl) (d.l) (HE.out.on hku.top).x10.pin.range _ Try.underlying54 rfl (by rw [size_row, d.l_len]) ?_
      exact hK _ _ ⟨_, rfl, Reg.KJ.refl _, fun d hd => by cases hd; exact rfl, fun h => by cases h⟩
    · intro x u hku hd
      have h38 : x 38 = .agg (d.l).toArray := hd 7 (by decide)
      have h37 : x 37 = .bool false := hd 6 (by decide)
      refine wpOp_step rfl fun KK hK => ?_
      simp only [h38, h37] at hK ⊢
      go_simp
      (with_reducible refine (HOT.out _ d _ HDR.out HN3.out (HE.out.on hku.top).l10).mono ?_)
      rintro e u' ⟨Q, rfl, q1, q2, hb'⟩
      exact hK _ _ ⟨_, rfl, Reg.KJ.grow (by simp) hku.size hb', fun d hd => by cases hd; exact ⟨Q, rfl, q1, q2⟩, fun h => by cases h⟩
    · intro x u hku hd
      have h37 : x 37 = .bool false := hd 6 (by decide)
      refine wpOp_step rfl fun KK hK => ?_
      simp only [h37] at hK ⊢
      go_simp
      exact hK _ _ ⟨_, rfl, Reg.KJ.refl _, fun d hd => by cases hd; exact rfl, fun h => by cases h⟩
    · intro x u hku hd
      have h37 : x 37 = .bool false := hd 6 (by decide)
      refine wpOp_step rfl fun KK hK => ?_
      refine Reg.step_load_wantT (by simp only [h37]; kernel_rfl) 54 (.tmp 4) (by rfl) w.heap.size 0 (by rfl) (a.l) (HE.out.on hku.top).s.r.x.pin.range _ Try.underlying54 rfl (by rw [size_row, a.l_len]) ?_
      exact hK _ _ ⟨_, rfl, Reg.KJ.refl _, fun d hd => by cases hd; exact rfl, fun h => by cases h⟩
    · intro x u hku hd
      have h41 : x 41 = .agg (a.l).toArray := hd 10 (by decide)
      have h37 : x 37 = .bool false := hd 6 (by decide)
      refine wpOp_step rfl fun KK hK => ?_
      simp only [h41, h37] at hK ⊢
      go_simp
      (with_reducible refine (HOT.out _ a _ rfl HN1.out ((HE.out.on hku.top).s.r.lies HA.out)).mono ?_)
      rintro e u' ⟨Q, rfl, q1, q2, hb'⟩
      exact hK _ _ ⟨_, rfl, Reg.KJ.grow (by simp) hku.size hb', fun d hd => by cases hd; exact ⟨Q, rfl, q1, q2⟩, fun h => by cases h⟩
    · intro x u hku hd
      have h40 : x 40 = .int .i64 N := hd 9 (by decide)
      have k42 : (Reg.FactK.oth a.ro : Reg.FactK (Reg.KJ E.heap.size [] [])).P (x 42) u := hd 11 (by decide)
      obtain ⟨Q42, h42, hq42, ho42⟩ := k42
      have h37 : x 37 = .bool false := hd 6 (by decide)
      refine wpOp_step rfl fun KK hK => ?_
      simp only [h40, h42, h37] at hK ⊢
      go_simp
      (with_reducible refine (HRP.out _ _ hq42 ho42).mono ?_)
      rintro e u' ⟨R, rfl, q1, q2, hb'⟩
      exact hK _ _ ⟨_, rfl, Reg.KJ.grow (by simp) hku.size hb', fun d hd => by cases hd; exact ⟨R, rfl, q1, q2⟩, fun h => by cases h⟩
    · intro x u hku hd
      have k39 : (Reg.FactK.oth (plRI N a.ro) : Reg.FactK (Reg.KJ E.heap.size [] [])).P (x 39) u := hd 8 (by decide)
      obtain ⟨Q39, h39, hq39, ho39⟩ := k39
      have k43 : (Reg.FactK.oth (plRI N a.ro) : Reg.FactK (Reg.KJ E.heap.size [] [])).P (x 43) u := hd 12 (by decide)
      obtain ⟨Q43, h43, hq43, ho43⟩ := k43
      have h37 : x 37 = .bool false := hd 6 (by decide)
      refine wpOp_step rfl fun KK hK => ?_
      simp only [h39, h43, h37] at hK ⊢
      go_simp
      (with_reducible refine (HRS.out _ _ _ _ _ _ hq39 hq43 HN3.out HN3.out (eqR_self _) ho39 ho43).mono ?_)
      rintro e u' ⟨rfl, hb'⟩
      exact hK _ _ ⟨_, rfl, Reg.KJ.grow (by simp) hku.size hb', fun d hd => by cases hd; exact rfl, fun h => by cases h⟩
    · intro x u hku hd
      have h44 : x 44 = .bool true := hd 13 (by decide)
      have h37 : x 37 = .bool false := hd 6 (by decide)
      refine wpOp_step rfl fun KK hK => ?_
      simp only [h44, h37] at hK ⊢
      go_simp
      exact hK _ _ ⟨_, rfl, Reg.KJ.refl _, fun d hd => by cases hd; exact rfl, fun h => by cases h⟩
    · intro x u hku hd
      have h37 : x 37 = .bool false := hd 6 (by decide)
      have h45 : x 45 = .bool false := hd 14 (by decide)
      refine wpOp_step rfl fun KK hK => ?_
      simp only [h37, h45] at hK ⊢
      go_simp
      exact hK _ _ ⟨_, rfl, Reg.KJ.refl _, fun d hd => by cases hd; exact rfl, fun h => by cases h⟩
    · intro x u hku hd
      have h46 : x 46 = .bool false := hd 15 (by decide)
      refine wpOp_step rfl fun KK hK => ?_
      simp only [h46] at hK ⊢
      go_simp
      exact hK _ _ ⟨_, rfl, Reg.KJ.refl _, fun d hd => by cases hd; exact rfl, fun h => by cases h⟩
    · intro x u hku hd
      have h47 : x 47 = .bool false := hd 16 (by decide)
      refine wpOp_step rfl fun KK hK => ?_
      refine Reg.step_load_wantT (by simp only [h47]; kernel_rfl) 54 (.tmp 7) (by rfl) g7 0 (by rfl) (tw a gt) (HE.out.on hku.top).s.x7.pin.range _ Try.underlying54 rfl (by rw [size_row, tw_len]) ?_
      exact hK _ _ ⟨_, rfl, Reg.KJ.refl _, fun d hd => by cases hd; exact rfl, fun h => by cases h⟩
    · intro x u hku hd
      have h47 : x 47 = .bool false := hd 16 (by decide)
      refine wpOp_step rfl fun KK hK => ?_
      refine Reg.step_load_wantT (by simp only [h47]; kernel_rfl) 54 (.tmp 8) (by rfl) g8 0 (by rfl) (tw b gu) (HE.out.on hku.top).s.x8.pin.range _ Try.underlying54 rfl (by rw [size_row, tw_len]) ?_
      exact hK _ _ ⟨_, rfl, Reg.KJ.refl _, fun d hd => by cases hd; exact rfl, fun h => by cases h⟩
    · intro x u hku hd
      have h48 : x 48 = .agg (tw a gt).toArray := hd 17 (by decide)
      have h49 : x 49 = .agg (tw b gu).toArray := hd 18 (by decide)
      have h47 : x 47 = .bool false := hd 16 (by decide)
      refine wpOp_step rfl fun KK hK => ?_
      simp only [h48, h49, h47] at hK ⊢
      go_simp
      (with_reducible refine (HS1.out _ (HE.out.on hku.top).s.t7 (HE.out.on hku.top).s.t8).mono ?_)
      rintro e u' ⟨rfl, hb'⟩
      exact hK _ _ ⟨_, rfl, Reg.KJ.grow (by simp) hku.size hb', fun d hd => by cases hd; exact rfl, fun h => by cases h⟩
    · intro x u hku hd
      have h47 : x 47 = .bool false := hd 16 (by decide)
      refine wpOp_step rfl fun KK hK => ?_
      refine Reg.step_load_wantT (by simp only [h47]; kernel_rfl) 54 (.tmp 4) (by rfl) w.heap.size 0 (by rfl) (a.l) (HE.out.on hku.top).s.r.x.pin.range _ Try.underlying54 rfl (by rw [size_row, a.l_len]) ?_
      exact hK _ _ ⟨_, rfl, Reg.KJ.refl _, fun d hd => by cases hd; exact rfl, fun h => by cases h⟩
    · intro x u hku hd
      have h51 : x 51 = .agg (a.l).toArray := hd 20 (by decide)
      have h47 : x 47 = .bool false := hd 16 (by decide)
      refine wpOp_step rfl fun KK hK => ?_
      simp only [h51, h47] at hK ⊢
      go_simp
      (with_reducible refine (HOT.out _ a _ rfl HN1.out ((HE.out.on hku.top).s.r.lies HA.out)).mono ?_)
      rintro e u' ⟨Q, rfl, q1, q2, hb'⟩
      exact hK _ _ ⟨_, rfl, Reg.KJ.grow (by simp) hku.size hb', fun d hd => by cases hd; exact ⟨Q, rfl, q1, q2⟩, fun h => by cases h⟩
    · intro x u hku hd
      have h47 : x 47 = .bool false := hd 16 (by decide)
      refine wpOp_step rfl fun KK hK => ?_
      refine Reg.step_load_wantT (by simp only [h47]; kernel_rfl) 54 (.tmp 5) (by rfl) (w.heap.size + 1) 0 (by rfl) (b.l) (HE.out.on hku.top).s.r.y.pin.range _ Try.underlying54 rfl (by rw [size_row, b.l_len]) ?_
      exact hK _ _ ⟨_, rfl, Reg.KJ.refl _, fun d hd => by cases hd; exact rfl, fun h => by cases h⟩
    · intro x u hku hd
      have h53 : x 53 = .agg (b.l).toArray := hd 22 (by decide)
      have h47 : x 47 = .bool false := hd 16 (by decide)
      refine wpOp_step rfl fun KK hK => ?_
      simp only [h53, h47] at hK ⊢
      go_simp
      (with_reducible refine (HOT.out _ b _ rfl HN2.out ((HE.out.on hku.top).s.r.lies HB.out)).mono ?_)
      rintro e u' ⟨Q, rfl, q1, q2, hb'⟩
      exact hK _ _ ⟨_, rfl, Reg.KJ.grow (by simp) hku.size hb', fun d hd => by cases hd; exact ⟨Q, rfl, q1, q2⟩, fun h => by cases h⟩
    · intro x u hku hd
      have k52 : (Reg.FactK.oth a.ro : Reg.FactK (Reg.KJ E.heap.size [] [])).P (x 52) u := hd 21 (by decide)
      obtain ⟨Q52, h52, hq52, ho52⟩ := k52
      have k54 : (Reg.FactK.oth b.ro : Reg.FactK (Reg.KJ E.heap.size [] [])).P (x 54) u := hd 23 (by decide)
      obtain ⟨Q54, h54, hq54, ho54⟩ := k54
      have h47 : x 47 = .bool false := hd 16 (by decide)
      refine wpOp_step rfl fun KK hK => ?_
      simp only [h52, h54, h47] at hK ⊢
      go_simp
      (with_reducible refine (HRS.out _ _ _ _ _ _ hq52 hq54 HN1.out HN2.out HQ.out.symm ho52 ho54).mono ?_)
      rintro e u' ⟨rfl, hb'⟩
      exact hK _ _ ⟨_, rfl, Reg.KJ.grow (by simp) hku.size hb', fun d hd => by cases hd; exact rfl, fun h => by cases h⟩
    · intro x u hku hd
      have h50 : x 50 = .bool q := hd 19 (by decide)
      have h55 : x 55 = .bool q := hd 24 (by decide)
      have h47 : x 47 = .bool false := hd 16 (by decide)
      refine wpOp_step rfl fun KK hK => ?_
      simp only [h50, h55, h47] at hK ⊢
      go_simp
      exact hK _ _ ⟨_, rfl, Reg.KJ.refl _, fun d hd => by cases hd; exact rfl, fun h => by cases h⟩
    · intro x u hku hd
      have h47 : x 47 = .bool false := hd 16 (by decide)
      have h56 : x 56 = .bool false := hd 25 (by decide)
      refine wpOp_step rfl fun KK hK => ?_
      simp only [h47, h56] at hK ⊢
      go_simp
      exact hK _ _ ⟨_, rfl, Reg.KJ.refl _, fun d hd => by cases hd; exact rfl, fun h => by cases h⟩
    · intro x u hku hd
      have h57 : x 57 = .bool false := hd 26 (by decide)
      refine wpOp_step rfl fun KK hK => ?_
      simp only [h57] at hK ⊢
      go_simp
      exact hK _ _ ⟨_, rfl, Reg.KJ.refl _, fun d hd => by cases hd; exact rfl, fun h => by cases h⟩
    · intro x u hku hd
      have h58 : x 58 = .bool false := hd 27 (by decide)
      refine wpOp_step rfl fun KK hK => ?_
      refine Reg.step_load_wantT (by simp only [h58]; kernel_rfl) 54 (.tmp 7) (by rfl) g7 0 (by rfl) (tw a gt) (HE.out.on hku.top).s.x7.pin.range _ Try.underlying54 rfl (by rw [size_row, tw_len]) ?_
      exact hK _ _ ⟨_, rfl, Reg.KJ.refl _, fun d hd => by cases hd; exact rfl, fun h => by cases h⟩
    · intro x u hku hd
      have h58 : x 58 = .bool false := hd 27 (by decide)
      refine wpOp_step rfl fun KK hK => ?_
      refine Reg.step_load_wantT (by simp only [h58]; kernel_rfl) 54 (.tmp 9) (by rfl) g9 0 (by rfl) (c.l) (HE.out.on hku.top).x9.pin.range _ Try.underlying54 rfl (by rw [size_row, c.l_len]) ?_
      exact hK _ _ ⟨_, rfl, Reg.KJ.refl _, fun d hd => by cases hd; exact rfl, fun h => by cases h⟩
    · intro x u hku hd
      have h59 : x 59 = .agg (tw a gt).toArray := hd 28 (by decide)
      have h60 : x 60 = .agg (c.l).toArray := hd 29 (by decide)
      have h58 : x 58 = .bool false := hd 27 (by decide)
      refine wpOp_step rfl fun KK hK => ?_
      simp only [h59, h60, h58] at hK ⊢
      go_simp
      (with_reducible refine (HS2.out _ (HE.out.on hku.top).s.t7 (HE.out.on hku.top).l9).mono ?_)
      rintro e u' ⟨rfl, hb'⟩
      exact hK _ _ ⟨_, rfl, Reg.KJ.grow (by simp) hku.size hb', fun d hd => by cases hd; exact rfl, fun h => by cases h⟩
    · intro x u hku hd
      have h61 : x 61 = .bool true := hd 30 (by decide)
      have h58 : x 58 = .bool false := hd 27 (by decide)
      refine wpOp_step rfl fun KK hK => ?_
      simp only [h61, h58] at hK ⊢
      go_simp
      exact hK _ _ ⟨_, rfl, Reg.KJ.refl _, fun d hd => by cases hd; exact rfl, fun h => by cases h⟩
    · intro x u hku hd
      have h58 : x 58 = .bool false := hd 27 (by decide)
      have h62 : x 62 = .bool false := hd 31 (by decide)
      refine wpOp_step rfl fun KK hK => ?_
      simp only [h58, h62] at hK ⊢
      go_simp
      exact hK _ _ ⟨_, rfl, Reg.KJ.refl _, fun d hd => by cases hd; exact rfl, fun h => by cases h⟩
    · intro x u hku hd
      have h63 : x 63 = .bool false := hd 32 (by decide)
      refine wpOp_step rfl fun KK hK => ?_
      simp only [h63] at hK ⊢
      go_simp
      exact hK _ _ ⟨_, rfl, Reg.KJ.refl _, fun d hd => by cases hd; exact rfl, fun h => by cases h⟩
    · intro x u hku hd
      have h64 : x 64 = .bool false := hd 33 (by decide)
      refine wpOp_step rfl fun KK hK => ?_
      simp only [h64] at hK ⊢
      go_simp
      exact hK _ _ ⟨_, rfl, Reg.KJ.refl _, fun d hd => by cases hd; exact rfl, fun h => by cases h⟩
    · intro x u hku hd
      have h65 : x 65 = .pointer (some ⟨w.heap.size, 1, none⟩) := hd 34 (by decide)
      have h64 : x 64 = .bool false := hd 33 (by decide)
      refine wpOp_step rfl fun KK hK => ?_
      refine Reg.step_load_wantT (by simp only [h64]; kernel_rfl) 51 (.tmp 65) (by rfl) w.heap.size 1 (by exact h65) (ceL a.c) (HE.out.on hku.top).s.r.x.rowCell _ Try.underlying51 rfl (by rw [size_ce, ceL_len]) ?_
      exact hK _ _ ⟨_, rfl, Reg.KJ.refl _, fun d hd => by cases hd; exact rfl, fun h => by cases h⟩
    · intro x u hku hd
      have h66 : x 66 = .agg (ceL a.c).toArray := hd 35 (by decide)
      have h64 : x 64 = .bool false := hd 33 (by decide)
      refine wpOp_step rfl fun KK hK => ?_
      simp only [h66, h64] at hK ⊢
      go_simp
      (with_reducible refine (cell_is _ _).mono ?_)
      rintro e u' ⟨rfl, hb'⟩
      exact hK _ _ ⟨_, rfl, Reg.KJ.grow (by simp) hku.size hb', fun d hd => by cases hd; exact rfl, fun h => by cases h⟩
    · intro x u hku hd
      have h64 : x 64 = .bool false := hd 33 (by decide)
      refine wpOp_step rfl fun KK hK => ?_
      simp only [h64] at hK ⊢
      go_simp
      exact hK _ _ ⟨_, rfl, Reg.KJ.refl _, fun d hd => by cases hd; exact rfl, fun h => by cases h⟩
    · intro x u hku hd
      have h68 : x 68 = .pointer (some ⟨w.heap.size, 1, none⟩) := hd 37 (by decide)
      have h64 : x 64 = .bool false := hd 33 (by decide)
      refine wpOp_step rfl fun KK hK => ?_
      refine Reg.step_load_wantT (by simp only [h64]; kernel_rfl) 51 (.tmp 68) (by rfl) w.heap.size 1 (by exact h68) (ceL a.c) (HE.out.on hku.top).s.r.x.rowCell _ Try.underlying51 rfl (by rw [size_ce, ceL_len]) ?_
      exact hK _ _ ⟨_, rfl, Reg.KJ.refl _, fun d hd => by cases hd; exact rfl, fun h => by cases h⟩
    · intro x u hku hd
      have h69 : x 69 = .agg (ceL a.c).toArray := hd 38 (by decide)
      have h64 : x 64 = .bool false := hd 33 (by decide)
      refine wpOp_step rfl fun KK hK => ?_
      simp only [h69, h64] at hK ⊢
      go_simp
      (with_reducible refine (rcell_is _ _).mono ?_)
      rintro e u' ⟨rfl, hb'⟩
      exact hK _ _ ⟨_, rfl, Reg.KJ.grow (by simp) hku.size hb', fun d hd => by cases hd; exact rfl, fun h => by cases h⟩
    · intro x u hku hd
      have h67 : x 67 = .agg (ceL (plC a.c)).toArray := hd 36 (by decide)
      have h70 : x 70 = .agg (ceL (plC a.c)).toArray := hd 39 (by decide)
      have h64 : x 64 = .bool false := hd 33 (by decide)
      refine wpOp_step rfl fun KK hK => ?_
      simp only [h67, h70, h64] at hK ⊢
      go_simp
      exact hK _ _ ⟨_, rfl, Reg.KJ.refl _, fun d hd => by cases hd; exact rfl, fun h => by cases h⟩
    · intro x u hku hd
      have h64 : x 64 = .bool false := hd 33 (by decide)
      have h71 : x 71 = .bool false := hd 40 (by decide)
      refine wpOp_step rfl fun KK hK => ?_
      simp only [h64, h71] at hK ⊢
      go_simp
      exact hK _ _ ⟨_, rfl, Reg.KJ.refl _, fun d hd => by cases hd; exact rfl, fun h => by cases h⟩
  · intro x u hku hd
    have e72 : x 72 = .bool false := hd 41 (by decide)
    have HS := Lib.hid (HE.out.on hku.top)
    simp only [Reg.frame, Reg.over, Nat.reduceAdd, Nat.reduceLeDiff, decide_true, decide_false, if_true, Bool.false_eq_true, if_false, Bool.and_true, Bool.and_false, e72]
    clear HOT HRS HRP HS1 HS2 hcn hqq HQ
    have HSPC : Hid (Calls Try.prog 19 #[.agg c.l.toArray] u fun e w' => e = .returned (.tuple #[]) ∧ But gc u w') := Lib.hid (spoil_any c.b c.c c.A c.n c.p gc (by have := congrArg Ro.n HCR.out; have h : c.n = a.n := this; omega) u HS.out.p9 (by have := HS.out.lo; omega))
    go_upto_region 10 with (first
      | (refine wpList_load_pin rfl 54 (.tmp 9) rfl HS.out.x9.pin (by simp [Act.eval, Act.put]) _ Try.underlying54 rfl 57 size_row c.l_len ?_)
      | (go_at_call 19; (with_reducible refine HSPC.out.mono ?_); rintro e v1 ⟨rfl, q1⟩; have HQ1 := Lib.hid q1; clear q1))
    refine wp_at (fun F => S3 w a b g7 gt g8 gu F ∧ Blk F g10 54 d.l.toArray ∧ SpO F gd d.A d.n d.p ∧ gd ≤ F.heap.size ∧ (g7 < gd ∧ gt < gd ∧ g8 < gd ∧ gu < gd)) (by
      have h := HS.out.lo
      have hz := HQ1.out.1.size
      exact ⟨HS.out.s.but HQ1.out ⟨h.1, h.2.1, h.2.2.1, h.2.2.2.1⟩, HQ1.out.blk HS.out.x10 (by omega), HS.out.p10.but HQ1.out (by omega), by omega, by omega⟩) ?_
    rintro F ⟨f1, f2, f3, f4, f5⟩
    have HF1 := Lib.hid f1
    have HF2 := Lib.hid f2
    have HF5 := Lib.hid f5
    have HSPD : Hid (Calls Try.prog 19 #[.agg d.l.toArray] F fun e w' => e = .returned (.tuple #[]) ∧ But gd F w') := Lib.hid (spoil_any d.b d.c d.A d.n d.p gd (by have := congrArg Ro.n HDR.out; have h : d.n = (plRI N a.ro).n := this; rw [h]; exact HN3.out) F f3 f4)
    clear f1 f2 f3 f4 f5 HS HSPC HQ1
    go_upto_region 11 with (first
      | (refine wpList_load_pin rfl 54 (.tmp 10) rfl HF2.out.pin (by simp [Act.eval, Act.put]) _ Try.underlying54 rfl 57 size_row d.l_len ?_)
      | (go_at_call 19; (with_reducible refine HSPD.out.mono ?_); rintro e v2 ⟨rfl, q2⟩; have HQ2 := Lib.hid q2; clear q2))
    refine wp_at (S3 w a b g7 gt g8 gu) (HF1.out.but HQ2.out HF5.out) ?_
    intro G hG
    have HG := Lib.hid hG
    have HLA : Hid (∀ u, S3 w a b g7 gt g8 gu u → Calls Try.prog 29 #[.agg (tw a gt).toArray, .agg a.l.toArray] u fun e w' => e = .returned (.bool true) ∧ Below u.heap.size u w') := Lib.hid (fun u h => left_is a (by omega) gt u (h.r.lies HA.out) h.t7)
    have HLB : Hid (∀ u, S3 w a b g7 gt g8 gu u → Calls Try.prog 29 #[.agg (tw b gu).toArray, .agg b.l.toArray] u fun e w' => e = .returned (.bool true) ∧ Below u.heap.size u w') := Lib.hid (fun u h => left_is b (by omega) gu u (h.r.lies HB.out) h.t8)
    clear hG HF1 HF2 HF5 HSPD HQ2
    go_wp2_with (first
      | (refine wpList_load_pin rfl 54 (.tmp 7) rfl HG.out.x7.pin (by simp [Act.eval, Act.put]) _ Try.underlying54 rfl 57 size_row (tw_len _ _) ?_)
      | (refine wpList_load_pin rfl 54 (.tmp 4) rfl HG.out.r.x.pin (by simp [Act.eval, Act.put]) _ Try.underlying54 rfl 57 size_row a.l_len ?_)
      | (go_at_call 29; (with_reducible refine (HLA.out _ HG.out).mono ?_); rintro e v3 ⟨rfl, q3⟩; have HK3 := Lib.hid (HG.out.on q3); clear q3)
      | (go_at_call 29; (with_reducible refine (HLB.out _ HK3.out).mono ?_); rintro e v4 ⟨rfl, q4⟩; have HK4 := Lib.hid (HK3.out.on q4); clear q4)
      | (refine wpList_load_want 54 (.tmp 8) rfl g8 0 (tw b gu) HK3.out.x8.pin.range (by simp [Act.eval, Act.put]) (by kernel_rfl) _ Try.underlying54 rfl (by rw [size_row, tw_len]) ?_)
      | (refine wpList_load_want 54 (.tmp 5) rfl (w.heap.size + 1) 0 b.l HK3.out.r.y.pin.range (by simp [Act.eval, Act.put]) (by kernel_rfl) _ Try.underlying54 rfl (by rw [size_row, b.l_len]) ?_)
      | (go_at_call 12; (with_reducible refine (lives_wd _).mono ?_); rintro e v5 ⟨rfl, q5⟩; have HQ5 := Lib.hid q5; clear q5))
    go_ret
    exact ⟨rfl, HK4.out.r.b.trans (HQ5.out.mono HK4.out.r.b.size)⟩
set_option maxRecDepth 100000 in
set_option maxHeartbeats 4000000 in
theorem wordsRows_walk (N : Int) (a b : Rw) (w : World) (hna : a.n ≤ 9223372036854775807) (hnb : b.n ≤ 9223372036854775807) (hA : LiesH w w.heap.size a.A a.n a.T) (hB : LiesH w w.heap.size b.A b.n b.T) :
    Calls Try.prog 4 #[.int .i64 N, .agg a.l.toArray, .agg b.l.toArray] w fun e w' => e = .returned (.bool true) ∧ Below w.heap.size w w' := by
  by_cases h1 : a.n ≤ 400
  · by_cases h2 : b.n ≤ 400
    · exact rows_main N a b h1 h2 w hA hB
    · have g1 : ¬ (400 : Int) < (a.n : Int) := by omega
      have g2 : (400 : Int) < (b.n : Int) := by omega
      clear hA hB
      go_enter Try.func4, Try.ntmps4
      go_upto_region 1 with fail
      refine wp_at (WR w a b) (by
        have hb := box_two w 54 54 a.l.toArray b.l.toArray
        exact ⟨hb.1, hb.2.1, hb.2.2⟩) ?_
      intro U hU
      have c1 : U.cell? ⟨w.heap.size, 56, none⟩ = some (.slice a.A a.n a.p) := hU.x.rowTab
      have c2 : U.cell? ⟨w.heap.size + 1, 56, none⟩ = some (.slice b.A b.n b.p) := hU.y.rowTab
      have l1 := hU.x.lt
      have l2 := hU.y.lt
      have HB := Lib.hid hU.b
      clear hU
      go_wp2_with (go_at_call 12; (with_reducible refine (lives_wd _).mono ?_); rintro e v5 ⟨rfl, q5⟩; have HQ5 := Lib.hid q5; clear q5)
      go_ret
      exact ⟨rfl, HB.out.trans (HQ5.out.mono HB.out.size)⟩
  · have g1 : (400 : Int) < (a.n : Int) := by omega
    clear hA hB
    go_enter Try.func4, Try.ntmps4
    go_upto_region 1 with fail
    refine wp_at (WR w a b) (by
      have hb := box_two w 54 54 a.l.toArray b.l.toArray
      exact ⟨hb.1, hb.2.1, hb.2.2⟩) ?_
    intro U hU
    have c1 : U.cell? ⟨w.heap.size, 56, none⟩ = some (.slice a.A a.n a.p) := hU.x.rowTab
    have c2 : U.cell? ⟨w.heap.size + 1, 56, none⟩ = some (.slice b.A b.n b.p) := hU.y.rowTab
    have l1 := hU.x.lt
    have l2 := hU.y.lt
    have HB := Lib.hid hU.b
    clear hU
    go_wp2_with (go_at_call 12; (with_reducible refine (lives_wd _).mono ?_); rintro e v5 ⟨rfl, q5⟩; have HQ5 := Lib.hid q5; clear q5)
    go_ret
    exact ⟨rfl, HB.out.trans (HQ5.out.mono HB.out.size)⟩
end Go.Proofs.Ytmmgbhdjjejacaa

