/-
  Both wires, the program's and the reference's, behind the same acts, in one word; their contracts in that word. Conditions: the word; numbers are of their kinds.
-/
import Derived.Test.YtgmoifbncijhdaaDoorWr11
namespace Go.Proofs.YtgmoifbncijhdaaDoor
open Go.RowKit Rg
set_option linter.unusedVariables false

/-- The program's wires behind the rows R, the reference's behind the rows Q; a block of an act's cells. -/
structure JJ (w0 : World) (L : Lay) (g n xb : Nat) (cs : Array Value) (u : World) (R Q : List (Nat → Option Int)) : Prop where
  hold : Hold w0 L u ((R.length : Int) - 1) (hR R) (xR R) (gR R)
  ref : ∃ rb A c, RefW u g L.b1 n rb Q A c
  blk : Blk u xb 32 cs
/-- What holds of them throughout. -/
structure JOk (L : Lay) (n xb : Nat) : Prop where
  n4 : 4 ≤ n
  n16 : n ≤ 16
  ln : L.n = n
  xb : L.b1 ≤ xb
section
variable {w0 u u' : World} {L : Lay} {g n xb : Nat} {cs : Array Value} {R Q : List (Nat → Option Int)}
theorem JJ.on (h : JJ w0 L g n xb cs u R Q) (hb : Below u.heap.size u u') : JJ w0 L g n xb cs u' R Q := by
  obtain ⟨rb, A, c, hr⟩ := h.ref
  exact ⟨h.hold.on hb, ⟨rb, A, c, hr.on hb⟩, h.blk.on hb⟩
theorem JJ.drew (h : JJ w0 L g n xb cs u R Q) : JJ w0 L g n xb cs u.drew R Q := h.on (Below.refl _ _).drew
theorem jPut {w : World} (h : JJ w0 L g n xb cs u R Q) (ok : JOk L n xb) (hR0 : 0 < R.length) (k : Int) (o : Option Int) {R' : List (Nat → Option Int)} (hR' : setR n R k o = R') (hH : Hold w0 L w ((R.length : Int) - 1) (hR R) (xR R) (updW n (gR R) k o)) (hs : Span L.b0 L.b1 u w) : JJ w0 L g n xb cs w R' Q := by
  subst hR'
  obtain ⟨rb, A, c, hr⟩ := h.ref
  refine ⟨?_, ⟨rb, A, c, hr.span hs (Nat.le_refl _)⟩, hs.blk h.blk (.inr ok.xb)⟩
  rw [setR_len, hR_set, xR_set, gR_set _ _ _ _ hR0]
  exact hH
theorem jGive (h : JJ w0 L g n xb cs u R Q) (ok : JOk L n xb) (hR0 : 0 < R.length) (k x : Int) (hb : -9223372036854775808 ≤ k ∧ k ≤ 9223372036854775807) (r : Int) (hr : errW n k = r) (R' : List (Nat → Option Int)) (hR' : setR n R k (some x) = R') :
    Calls Tryd.prog 11 #[.pointer (some ⟨L.g, 0, none⟩), .int .i64 k, .int .i64 x] u fun e w' => e = .returned (.int .i64 r) ∧ JJ w0 L g n xb cs w' R' Q :=
  (hGive h.hold ok.ln k hb x r hr _ rfl).mono fun e w' ⟨q1, q2, q3⟩ => ⟨q1, jPut h ok hR0 k (some x) hR' q2 q3⟩
theorem jTake (h : JJ w0 L g n xb cs u R Q) (ok : JOk L n xb) (hR0 : 0 < R.length) (k : Int) (hb : -9223372036854775808 ≤ k ∧ k ≤ 9223372036854775807) (r : Int) (hr : errW n k = r) (R' : List (Nat → Option Int)) (hR' : setR n R k none = R') :
    Calls Tryd.prog 13 #[.pointer (some ⟨L.g, 0, none⟩), .int .i64 k] u fun e w' => e = .returned (.int .i64 r) ∧ JJ w0 L g n xb cs w' R' Q :=
  (hTake h.hold ok.ln k hb r hr _ rfl).mono fun e w' ⟨q1, q2, q3⟩ => ⟨q1, jPut h ok hR0 k none hR' q2 q3⟩
theorem JJ.refd {w : World} (h : JJ w0 L g n xb cs u R Q) (hb : Below L.b1 u w) (hk : KeptT 32 u w) {Q' : List (Nat → Option Int)} (hr : ∃ rb A c, RefW w g L.b1 n rb Q' A c) : JJ w0 L g n xb cs w R Q' := by
  have hg := h.hold.ok.gin
  refine ⟨⟨h.hold.wir.far h.hold.ok hb, h.hold.low.trans (hb.mono ?_), h.hold.ok, h.hold.b0, h.hold.ways⟩, hr, hk _ _ h.blk⟩
  have := h.hold.b0
  omega
theorem jSet (h : JJ w0 L g n xb cs u R Q) (ok : JOk L n xb) (hQ0 : 0 < Q.length) (hQl : Q.length ≤ 65536) (k : Int) (o : Option Int) (r : Int) (hr : errW n k = r) (Q' : List (Nat → Option Int)) (hQ' : setR n Q k o = Q') :
    Calls Tryd.prog 12 #[.pointer (some ⟨g, 0, none⟩), .int .i64 k, .agg #[.int .i64 (o.getD 0), .bool o.isSome]] u fun e w' => e = .returned (.int .i64 r) ∧ JJ w0 L g n xb cs w' R Q' := by
  obtain ⟨rb, A, c, hrf⟩ := h.ref
  exact (refSet_is hrf ok.n4 ok.n16 hQ0 hQl k o r hr Q' hQ').mono fun e w' ⟨q1, q2, q3, q4⟩ => ⟨q1, h.refd q3 q4 ⟨rb, A, c, q2⟩⟩
theorem jSetS (h : JJ w0 L g n xb cs u R Q) (ok : JOk L n xb) (hQ0 : 0 < Q.length) (hQl : Q.length ≤ 65536) (k x : Int) (r : Int) (hr : errW n k = r) (Q' : List (Nat → Option Int)) (hQ' : setR n Q k (some x) = Q') :
    Calls Tryd.prog 12 #[.pointer (some ⟨g, 0, none⟩), .int .i64 k, .agg #[.int .i64 x, .bool true]] u fun e w' => e = .returned (.int .i64 r) ∧ JJ w0 L g n xb cs w' R Q' :=
  jSet h ok hQ0 hQl k (some x) r hr Q' hQ'
theorem jSetN (h : JJ w0 L g n xb cs u R Q) (ok : JOk L n xb) (hQ0 : 0 < Q.length) (hQl : Q.length ≤ 65536) (k : Int) (r : Int) (hr : errW n k = r) (Q' : List (Nat → Option Int)) (hQ' : setR n Q k none = Q') :
    Calls Tryd.prog 12 #[.pointer (some ⟨g, 0, none⟩), .int .i64 k, .agg #[.int .i64 0, .bool false]] u fun e w' => e = .returned (.int .i64 r) ∧ JJ w0 L g n xb cs w' R Q' :=
  jSet h ok hQ0 hQl k none r hr Q' hQ'
theorem jEnd (h : JJ w0 L g n xb cs u R Q) (ok : JOk L n xb) (hR0 : 0 < R.length) (hRl : R.length ≤ 65535) :
    Calls Tryd.prog 14 #[.pointer (some ⟨L.g, 0, none⟩)] u fun e w' => e = .returned (.int .i64 0) ∧ JJ w0 L g n xb cs w' (R ++ [noneW]) Q := by
  obtain ⟨rb, A, c, hrf⟩ := h.ref
  refine (hEnd h.hold (by omega) (((R ++ [noneW]).length : Int) - 1) (by simp) _ _ (now_R R hR0) (next_R R hR0)).mono fun e w' ⟨q1, q2, q3⟩ => ⟨q1, ?_, ⟨rb, A, c, hrf.span q3 (Nat.le_refl _)⟩, q3.blk h.blk (.inr ok.xb)⟩
  rw [gR_app]
  exact q2
theorem jRefEnd (h : JJ w0 L g n xb cs u R Q) (ok : JOk L n xb) (hQl : Q.length ≤ 65535) (Q' : List (Nat → Option Int)) (hQ' : Q ++ [noneW] = Q') :
    Calls Tryd.prog 15 #[.pointer (some ⟨g, 0, none⟩)] u fun e w' => e = .returned (.tuple #[]) ∧ JJ w0 L g n xb cs w' R Q' := by
  subst hQ'
  obtain ⟨rb, A, c, hrf⟩ := h.ref
  exact (refEnd_is hrf ok.n16 hQl).mono fun e w' ⟨q1, q2, q3, q4⟩ => ⟨q1, h.refd q3 q4 q2⟩
theorem jHere (h : JJ w0 L g n xb cs u R Q) (ok : JOk L n xb) (d x p : Int) (hd : 0 ≤ d ∧ d ≤ 255) (y : Int) (b : Bool) (hy : (hereW n (hR R) d x p).getD 0 = y) (hb : (hereW n (hR R) d x p).isSome = b) :
    Calls Tryd.prog 16 #[.pointer (some ⟨L.g, 0, none⟩), .int .u8 d, .int .i64 x, .int .i64 p] u fun e w' => e = .returned (.tuple #[.int .i64 y, .bool b]) ∧ JJ w0 L g n xb cs w' R Q := by
  subst hy hb
  exact (hHere h.hold ok.ln d x p hd.1 hd.2 _ rfl).mono fun e w' ⟨q1, _, q3⟩ => ⟨q1, h.on q3⟩
theorem jRefHere (h : JJ w0 L g n xb cs u R Q) (hQ0 : 0 < Q.length) (hQl : Q.length ≤ 65536) (d x p : Int) (hd : 0 ≤ d ∧ d ≤ 255) (y : Int) (b : Bool) (hy : (hereW n (hR Q) d x p).getD 0 = y) (hb : (hereW n (hR Q) d x p).isSome = b) :
    Calls Tryd.prog 17 #[.pointer (some ⟨g, 0, none⟩), .int .u8 d, .int .i64 x, .int .i64 p] u fun e w' => e = .returned (.tuple #[.int .i64 y, .bool b]) ∧ JJ w0 L g n xb cs w' R Q := by
  subst hy hb
  obtain ⟨rb, A, c, hrf⟩ := h.ref
  exact (refHere_is hrf hQ0 hQl d x p hd.1 _ rfl).mono fun e w' ⟨q1, q2⟩ => ⟨q1, h.on q2⟩
theorem jGiven (h : JJ w0 L g n xb cs u R Q) (ok : JOk L n xb) (k : Int) (hk : -9223372036854775808 ≤ k ∧ k ≤ 9223372036854775807) (y : Int) (b : Bool) (hy : (givW n (gR R) k).getD 0 = y) (hb : (givW n (gR R) k).isSome = b) :
    Calls Tryd.prog 18 #[.pointer (some ⟨L.g, 0, none⟩), .int .i64 k] u fun e w' => e = .returned (.tuple #[.int .i64 y, .bool b]) ∧ JJ w0 L g n xb cs w' R Q := by
  subst hy hb
  exact (hGiven h.hold ok.ln k hk _ rfl).mono fun e w' ⟨q1, _, q3⟩ => ⟨q1, h.on q3⟩
theorem jRefGiven (h : JJ w0 L g n xb cs u R Q) (ok : JOk L n xb) (hQ0 : 0 < Q.length) (hQl : Q.length ≤ 65536) (k : Int) (y : Int) (b : Bool) (hy : (givW n (gR Q) k).getD 0 = y) (hb : (givW n (gR Q) k).isSome = b) :
    Calls Tryd.prog 19 #[.pointer (some ⟨g, 0, none⟩), .int .i64 k] u fun e w' => e = .returned (.tuple #[.int .i64 y, .bool b]) ∧ JJ w0 L g n xb cs w' R Q := by
  subst hy hb
  obtain ⟨rb, A, c, hrf⟩ := h.ref
  exact (refGiven_is hrf ok.n4 ok.n16 hQ0 hQl k _ rfl).mono fun e w' ⟨q1, q2⟩ => ⟨q1, h.on q2⟩
theorem ticksI_same (q : Nat) (h k : Int) (a b : Option Int) (w : World) (hL : OnI w q h k a b) :
    Calls Tryd.prog 34 #[.pointer (some ⟨q, 0, none⟩)] w fun e w' => e = .returned (.int .i64 k) ∧ w' = w := by
  have hB : Blk w q 85 #[.int .i64 h, .int .i64 k, .int .i64 (a.getD 0), .bool a.isSome, .int .i64 (b.getD 0), .bool b.isSome] := hL
  have c1 := hB.cell 1
  have cl := hB.lt
  simp only [List.getElem?_toArray, List.getElem?_cons_zero, List.getElem?_cons_succ] at c1
  clear hL hB
  go_enter Tryd.func34, Tryd.ntmps34
  go_wp2_with fail
  go_ret
  exact ⟨rfl, rfl⟩
set_option maxRecDepth 100000 in
theorem jTicks (h : JJ w0 L g n xb cs u R Q) (t : Int) (ht : (R.length : Int) - 1 = t) :
    Calls Tryd.prog 20 #[.pointer (some ⟨L.g, 0, none⟩)] u fun e w' => e = .returned (.int .i64 t) ∧ w' = u := by
  subst ht
  have hw := h.hold.wir
  have ok := h.hold.ok
  have c0 := hw.blk.cell 0
  have cl := hw.blk.lt
  simp only [List.getElem?_toArray, List.getElem?_cons_zero] at c0
  have HM := Lib.hid (made_yes hw)
  have hl : L.ps.length ≤ 64 := by have := ok.len; have := ok.n16; omega
  have hlk := look_in hw.map hl (i := 0) (by have := ok.len; have := ok.n4; omega)
  have HT := Lib.hid (ticksI_same _ _ _ _ _ u (hw.lns 0 (by have := ok.n4; omega)))
  obtain ⟨p, ep⟩ : ∃ p, p = L.ps.getD 0 0 := ⟨_, rfl⟩
  rw [← ep] at hlk HT
  have hlk' : (Instr.lookup 49 (.map (some L.m)) (.int .i64 0) false).run Tryd.prog u = .ok (.pointer (some ⟨p, 0, none⟩)) u := hlk
  obtain ⟨t, et⟩ : ∃ t, t = (R.length : Int) - 1 := ⟨_, rfl⟩
  rw [← et] at HT ⊢
  clear h hw ok hl ep hlk et
  go_enter Tryd.func20, Tryd.ntmps20
  go_wp2_with (first
    | (go_at_call 28; (with_reducible refine HM.out.mono ?_); rintro e w1 ⟨rfl, rfl⟩)
    | (go_at_call 34; (with_reducible refine HT.out.mono ?_); rintro e w1 ⟨rfl, rfl⟩))
  go_ret
  exact ⟨rfl, rfl⟩
end
/-- Which of two. -/
def pk {α : Type} (a b : α) (f : Bool) : α := if f = true then b else a
end Go.Proofs.YtgmoifbncijhdaaDoor
