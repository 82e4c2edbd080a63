/-
  Wires with what a law carries of them, in one word ('Hold'), and the contracts of package wires in that word; the chapter's example, as the laws' lives has it. Conditions: the table of directions is as the program's text lays it.
-/
import Derived.Test.YtgmoifbncijhdaaDoorWr4
namespace Go.Proofs.YtgmoifbncijhdaaDoor
open Go.RowKit Rg
set_option linter.unusedVariables false

/-- What a law that began in w0 has of its wires. -/
structure Hold (w0 : World) (L : Lay) (u : World) (t : Int) (H X G : Nat → Option Int) : Prop where
  wir : Wir L u t H X G
  low : Below w0.heap.size w0 u
  ok : L.Ok
  b0 : w0.heap.size ≤ L.b0
  ways : Ways w0
def nowW (X G : Nat → Option Int) : Nat → Option Int := fun i => nowL (hopN i) (X i) (G i)
def nextW (X G : Nat → Option Int) : Nat → Option Int := fun i => nextL (hopN i) (X i) (G i)
section
variable {w0 u u' : World} {L : Lay} {t : Int} {H X G : Nat → Option Int} {n : Nat}
theorem Hold.on (h : Hold w0 L u t H X G) (hb : Below u.heap.size u u') : Hold w0 L u' t H X G := ⟨h.wir.on hb, below_then h.low hb, h.ok, h.b0, h.ways⟩
theorem Hold.way (h : Hold w0 L u t H X G) : Ways u := h.ways.on h.low
theorem Hold.span (h : Hold w0 L u t H X G) {t' : Int} {H' X' G' : Nat → Option Int} (hW : Wir L u' t' H' X' G') (hs : Span L.b0 L.b1 u u') : Hold w0 L u' t' H' X' G' :=
  ⟨hW, h.low.trans (hs.low h.b0), h.ok, h.b0, h.ways⟩
theorem hNew (n : Nat) (h1 : 4 ≤ n) (h2 : n ≤ 16) (w0 w : World) (hw : Ways w0) (hb : Below w0.heap.size w0 w) :
    Calls Tryd.prog 9 #[.int .i64 (n : Int)] w fun e w' => ∃ L : Lay, e = .returned (.tuple #[.pointer (some ⟨L.g, 0, none⟩), .int .i64 0]) ∧ L.n = n ∧ L.b1 = w'.heap.size ∧ Hold w0 L w' 0 noneW noneW noneW ∧ Below w.heap.size w w' := by
  refine (new_is n h1 h2 w (hw.on hb)).mono fun e w' q => ?_
  obtain ⟨L, q1, q2, q3, q4, q5, q6, q7⟩ := q
  exact ⟨L, q1, q3, q5, ⟨q6, below_then hb q7, q2, by rw [q4]; exact hb.size, hw⟩, q7⟩
theorem hGive (h : Hold w0 L u t H X G) (hn : L.n = n) (k : Int) (hb : -9223372036854775808 ≤ k ∧ k ≤ 9223372036854775807) (x : Int) (r : Int) (hr : errW n k = r) (G' : Nat → Option Int) (hG : updW n G k (some x) = G') :
    Calls Tryd.prog 11 #[.pointer (some ⟨L.g, 0, none⟩), .int .i64 k, .int .i64 x] u fun e w' => e = .returned (.int .i64 r) ∧ Hold w0 L w' t H X G' ∧ Span L.b0 L.b1 u w' := by
  subst hn
  exact (give_is h.wir h.ok k hb x r hr G' hG).mono fun e w' ⟨q1, q2, q3⟩ => ⟨q1, h.span q2 q3, q3⟩
theorem hTake (h : Hold w0 L u t H X G) (hn : L.n = n) (k : Int) (hb : -9223372036854775808 ≤ k ∧ k ≤ 9223372036854775807) (r : Int) (hr : errW n k = r) (G' : Nat → Option Int) (hG : updW n G k none = G') :
    Calls Tryd.prog 13 #[.pointer (some ⟨L.g, 0, none⟩), .int .i64 k] u fun e w' => e = .returned (.int .i64 r) ∧ Hold w0 L w' t H X G' ∧ Span L.b0 L.b1 u w' := by
  subst hn
  exact (take_is h.wir h.ok k hb r hr G' hG).mono fun e w' ⟨q1, q2, q3⟩ => ⟨q1, h.span q2 q3, q3⟩
theorem hGiven (h : Hold w0 L u t H X G) (hn : L.n = n) (k : Int) (hb : -9223372036854775808 ≤ k ∧ k ≤ 9223372036854775807) (o : Option Int) (ho : givW n G k = o) :
    Calls Tryd.prog 18 #[.pointer (some ⟨L.g, 0, none⟩), .int .i64 k] u fun e w' => e = .returned (.tuple #[.int .i64 (o.getD 0), .bool o.isSome]) ∧ Hold w0 L w' t H X G ∧ Below u.heap.size u w' := by
  subst hn
  exact (given_is h.wir h.ok k hb o ho).mono fun e w' ⟨q1, q2⟩ => ⟨q1, h.on q2, q2⟩
theorem hHere (h : Hold w0 L u t H X G) (hn : L.n = n) (d x p : Int) (hd : 0 ≤ d) (hd' : d ≤ 255) (o : Option Int) (ho : hereW n H d x p = o) :
    Calls Tryd.prog 16 #[.pointer (some ⟨L.g, 0, none⟩), .int .u8 d, .int .i64 x, .int .i64 p] u fun e w' => e = .returned (.tuple #[.int .i64 (o.getD 0), .bool o.isSome]) ∧ Hold w0 L w' t H X G ∧ Below u.heap.size u w' := by
  subst hn
  exact (here_is h.wir h.ok h.way d x p hd hd' o ho).mono fun e w' ⟨q1, q2⟩ => ⟨q1, h.on q2, q2⟩
theorem hTicks (h : Hold w0 L u t H X G) :
    Calls Tryd.prog 20 #[.pointer (some ⟨L.g, 0, none⟩)] u fun e w' => e = .returned (.int .i64 t) ∧ Hold w0 L w' t H X G ∧ Below u.heap.size u w' :=
  (ticksW_is h.wir h.ok).mono fun e w' ⟨q1, q2⟩ => ⟨q1, h.on q2, q2⟩
theorem hEnd (h : Hold w0 L u t H X G) (ht : 0 ≤ t ∧ t < 4611686018427387904) (t' : Int) (htt : t + 1 = t') (H' X' : Nat → Option Int) (hH : nowW X G = H') (hX : nextW X G = X') :
    Calls Tryd.prog 14 #[.pointer (some ⟨L.g, 0, none⟩)] u fun e w' => e = .returned (.int .i64 0) ∧ Hold w0 L w' t' H' X' noneW ∧ Span L.b0 L.b1 u w' := by
  subst htt hH hX
  exact (endW_is h.wir h.ok ht.1 ht.2).mono fun e w' ⟨q1, q2, q3⟩ => ⟨q1, h.span q2 q3, q3⟩
end
theorem nodes_any (x : Int) (w : World) (h0 : 0 ≤ x) (h1 : x ≤ 255) : Calls Tryd.prog 21 #[.int .u8 x] w fun e w' => e = .returned (.int .i64 (4 + x % 13)) ∧ w = w' := by
  go_enter Tryd.func21, Tryd.ntmps21
  go_wp2
  go_ret
  exact ⟨rfl, rfl⟩
set_option maxRecDepth 100000 in
theorem lives_wr (w : World) (hw : Ways w) : Calls Tryd.prog 8 #[] w fun e w' => e = .returned (.bool true) ∧ Below w.heap.size w w' := by
  obtain ⟨G1, e1⟩ : ∃ G, updW 4 noneW 0 (some 7) = G := ⟨_, rfl⟩
  obtain ⟨H2, e2⟩ : ∃ G, nowW noneW G1 = G := ⟨_, rfl⟩
  obtain ⟨X2, e3⟩ : ∃ G, nextW noneW G1 = G := ⟨_, rfl⟩
  obtain ⟨G3, e4⟩ : ∃ G, updW 4 noneW 1 (some 8) = G := ⟨_, rfl⟩
  obtain ⟨H4, e5⟩ : ∃ G, nowW X2 G3 = G := ⟨_, rfl⟩
  obtain ⟨X4, e6⟩ : ∃ G, nextW X2 G3 = G := ⟨_, rfl⟩
  obtain ⟨H5, e7⟩ : ∃ G, nowW X4 noneW = G := ⟨_, rfl⟩
  obtain ⟨X5, e8⟩ : ∃ G, nextW X4 noneW = G := ⟨_, rfl⟩
  have P1 := Lib.hid (show hereW 4 H2 0 1 1 = some 7 by subst e1 e2; decide)
  have P2 := Lib.hid (show hereW 4 H5 0 2 2 = some 8 by subst e1 e3 e4 e6 e7; decide)
  have E1 := Lib.hid e1; have E2 := Lib.hid e2; have E3 := Lib.hid e3; have E4 := Lib.hid e4; have E5 := Lib.hid e5; have E6 := Lib.hid e6; have E7 := Lib.hid e7; have E8 := Lib.hid e8
  have R0 := Lib.hid (show errW 4 0 = 0 by decide)
  have R1 := Lib.hid (show errW 4 1 = 0 by decide)
  have T0 := Lib.hid (show (0 : Int) ≤ 0 ∧ (0 : Int) < 4611686018427387904 by decide)
  have T1 := Lib.hid (show (0 : Int) ≤ 1 ∧ (1 : Int) < 4611686018427387904 by decide)
  have T2 := Lib.hid (show (0 : Int) ≤ 2 ∧ (2 : Int) < 4611686018427387904 by decide)
  have B0 := Lib.hid (show -9223372036854775808 ≤ (0 : Int) ∧ (0 : Int) ≤ 9223372036854775807 by decide)
  have B1 := Lib.hid (show -9223372036854775808 ≤ (1 : Int) ∧ (1 : Int) ≤ 9223372036854775807 by decide)
  have HN := Lib.hid (hNew 4 (by omega) (by omega) w w hw (Below.refl _ _))
  have HN' := Lib.hid (show Calls Tryd.prog 9 #[.int .i64 4] w _ from HN.out)
  clear e1 e2 e3 e4 e5 e6 e7 e8 HN
  go_enter Tryd.func8, Tryd.ntmps8
  go_wp2_with (first
    | (go_at_call 9; (with_reducible refine HN'.out.mono ?_); rintro e u0 ⟨L, rfl, hn, -, h0, -⟩; have HL := Lib.hid hn; clear hn)
    | (go_at_call 11; (with_reducible refine (hGive h0 HL.out 0 B0.out 7 0 R0.out G1 E1.out).mono ?_); rintro e u1 ⟨rfl, h1, -⟩; clear h0)
    | (go_at_call 14; (with_reducible refine (hEnd h1 T0.out 1 rfl H2 X2 E2.out E3.out).mono ?_); rintro e u2 ⟨rfl, h2, -⟩; clear h1)
    | (go_at_call 16; (with_reducible refine (hHere h2 HL.out 0 1 1 (by omega) (by omega) (some 7) P1.out).mono ?_); rintro e u3 ⟨rfl, h3, -⟩; clear h2)
    | (go_at_call 11; (with_reducible refine (hGive h3 HL.out 1 B1.out 8 0 R1.out G3 E4.out).mono ?_); rintro e u4 ⟨rfl, h4, -⟩; clear h3)
    | (go_at_call 14; (with_reducible refine (hEnd h4 T1.out 2 rfl H4 X4 E5.out E6.out).mono ?_); rintro e u5 ⟨rfl, h5, -⟩; clear h4)
    | (go_at_call 14; (with_reducible refine (hEnd h5 T2.out 3 rfl H5 X5 E7.out E8.out).mono ?_); rintro e u6 ⟨rfl, h6, -⟩; clear h5)
    | (go_at_call 16; (with_reducible refine (hHere h6 HL.out 0 2 2 (by omega) (by omega) (some 8) P2.out).mono ?_); rintro e u7 ⟨rfl, h7, -⟩; clear h6))
  go_ret
  exact ⟨rfl, h7.low⟩
end Go.Proofs.YtgmoifbncijhdaaDoor
