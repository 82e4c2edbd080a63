/-
  Where wires lie, and what they hold (their ticks; what is here, what is next, what was given, of each link); the contracts of package wires' made, has, put, Give, Take, Given, Ticks. Conditions: the wires' reading; a link's number is an int.
-/
import Derived.Test.YtgmoifbncijhdaaDoorWr1
import Derived.Deep.QuietTactic
import Derived.Deep.RegionLaw
namespace Go.Proofs.YtgmoifbncijhdaaDoor
open Go.RowKit Rg
set_option linter.unusedVariables false

/-- Where wires lie: their block, their map's, that of what is given, their lines', all from b0 up to b1; and how many nodes they have. -/
structure Lay where
  g : Nat
  m : Nat
  a : Nat
  ps : List Nat
  n : Nat
  b0 : Nat
  b1 : Nat
structure Lay.Ok (L : Lay) : Prop where
  n4 : 4 ≤ L.n
  n16 : L.n ≤ 16
  len : L.ps.length = 4 * L.n
  gin : L.b0 ≤ L.g ∧ L.g < L.b1
  min : L.b0 ≤ L.m ∧ L.m < L.b1
  ain : L.b0 ≤ L.a ∧ L.a < L.b1
  pin : ∀ i, i < 4 * L.n → L.b0 ≤ L.ps.getD i 0 ∧ L.ps.getD i 0 < L.b1
  inj : ∀ i j, i < 4 * L.n → j < 4 * L.n → L.ps.getD i 0 = L.ps.getD j 0 → i = j
/-- The hop of a link. -/
def hopN (i : Nat) : Int := (i : Int) % 2 + 1
theorem hopN_ok (i : Nat) : hopN i = 1 ∨ hopN i = 2 := by unfold hopN; omega
/-- Wires that lie so hold this. -/
structure Wir (L : Lay) (w : World) (t : Int) (H X G : Nat → Option Int) : Prop where
  blk : Blk w L.g 52 #[.map (some L.m), .int .i64 (L.n : Int), .slice (some ⟨L.a, 0, none⟩) (4 * L.n) (4 * L.n)]
  map : MapW w L.m L.ps
  gfs : Blk w L.a 69 (gfC G (4 * L.n)).toArray
  lns : ∀ i, i < 4 * L.n → OnI w (L.ps.getD i 0) (hopN i) t (H i) (X i)
section
variable {L : Lay} {w w' : World} {t : Int} {H X G : Nat → Option Int}
theorem Wir.on (h : Wir L w t H X G) (hb : Below w.heap.size w w') : Wir L w' t H X G := ⟨h.blk.on hb, h.map.on hb, h.gfs.on hb, fun i hi => (h.lns i hi).on hb⟩
theorem Wir.al (h : Wir L w t H X G) (o : Obj) : Wir L (w.alloc o) t H X G := h.on ((Below.refl _ _).alloc (Nat.le_refl _) o)
theorem Wir.drew (h : Wir L w t H X G) : Wir L w.drew t H X G := ⟨h.blk, h.map, h.gfs, h.lns⟩
theorem Span.drew {b0 b1 : Nat} {w w' : World} (h : Span b0 b1 w w') : Span b0 b1 w w'.drew := ⟨h.1.drew, h.2⟩
theorem Wir.lt (h : Wir L w t H X G) : L.g < w.heap.size := h.blk.lt
/-- Blocks beyond the wires' own alone were written. -/
theorem Wir.far (h : Wir L w t H X G) (ok : L.Ok) (hb : Below L.b1 w w') : Wir L w' t H X G :=
  ⟨h.blk.below hb ok.gin.2, h.map.below hb ok.min.2, h.gfs.below hb ok.ain.2, fun i hi => (hb.block _ (ok.pin i hi).2).trans (h.lns i hi)⟩
theorem Wir.cong {t' : Int} {H' X' G' : Nat → Option Int} (h : Wir L w t H X G) (ht : t = t') (hH : ∀ i, i < 4 * L.n → H i = H' i) (hX : ∀ i, i < 4 * L.n → X i = X' i) (hG : ∀ i, i < 4 * L.n → G i = G' i) : Wir L w t' H' X' G' := by
  subst ht
  refine ⟨h.blk, h.map, ?_, fun i hi => by rw [← hH i hi, ← hX i hi]; exact h.lns i hi⟩
  have e : gfC G' (4 * L.n) = gfC G (4 * L.n) := by
    refine two_ext (k := 4 * L.n) (gfC_len _ _) (gfC_len _ _) fun j hj => ?_
    obtain ⟨a1, a2⟩ := gfC_at G (4 * L.n) hj
    obtain ⟨c1, c2⟩ := gfC_at G' (4 * L.n) hj
    rw [a1, a2, c1, c2, hG j hj]
    exact ⟨rfl, rfl⟩
  rw [e]
  exact h.gfs
/-- What a link is given is put into its place. -/
theorem Wir.put (h : Wir L w t H X G) (ok : L.Ok) {k : Nat} (hk : k < 4 * L.n) (o : Option Int) (u : World) (hu : Below w.heap.size w u) :
    Wir L ((u.setCell ⟨L.a, k * 2, none⟩ (.int .i64 (o.getD 0))).setCell ⟨L.a, k * 2 + 1, none⟩ (.bool o.isSome)) t H X (upd G k o) ∧ Span L.b0 L.b1 w ((u.setCell ⟨L.a, k * 2, none⟩ (.int .i64 (o.getD 0))).setCell ⟨L.a, k * 2 + 1, none⟩ (.bool o.isSome)) := by
  have h' := h.on hu
  have hA := (h'.gfs.set_ (k * 2) (.int .i64 (o.getD 0))).set_ (k * 2 + 1) (.bool o.isSome)
  rw [gfC_set G o hk] at hA
  have hb : But L.a u ((u.setCell ⟨L.a, k * 2, none⟩ (.int .i64 (o.getD 0))).setCell ⟨L.a, k * 2 + 1, none⟩ (.bool o.isSome)) := (But.one _ _).set _ _
  have hg : L.g ≠ L.a := by
    intro e
    have h1 := h'.blk; have h2 := h'.gfs
    rw [e] at h1
    unfold Blk at h1 h2
    rw [h1] at h2
    injection h2 with h2
    injection h2 with _ h2
    exact absurd h2 (by decide)
  have hm := h'.map.ne h'.gfs
  refine ⟨⟨hb.blk h'.blk hg, h'.map.but hb hm, hA, fun i hi => (h'.lns i hi).but hb fun e => ?_⟩, (Span.grow (Nat.le_trans ok.gin.1 (Nat.le_of_lt h.lt)) hu).trans (Span.but hb ok.ain.1 ok.ain.2)⟩
  have h1 := h'.lns i hi; have h2 := h'.gfs
  obtain ⟨cs, h1⟩ := h1.blk
  rw [e] at h1
  unfold Blk at h1 h2
  rw [h1] at h2
  injection h2 with h2
  injection h2 with _ h2
  exact absurd h2 (by decide)
end
theorem elemGf : Tryd.prog.underlying 50 = some (.slice (Tryd.prog.elem 50)) := by kernel_rfl
theorem sizeGf (w : World) : (sizeOf (Tryd.prog.elem 50)).run Tryd.prog w = .ok 2 w := by kernel_rfl
theorem idxGf {n : Nat} (a c : Nat) {k : Nat} (hk : k < n) (w : World) :
    (Instr.indexAt 50 (.slice (some ⟨a, 0, none⟩) n c) (.int .i64 (k : Int))).run Tryd.prog w = .ok (.pointer (some ⟨a, k * 2, none⟩)) w := by
  rw [run_indexAt_slice (h := elemGf), if_pos (by omega), sizeGf]
  simp [Result.andThen, Addr.add_lit]
/-- Is there such a link? -/
def inB (n : Nat) (k : Int) : Bool := decide (0 ≤ k ∧ k < 4 * (n : Int))
theorem inB_nat {n : Nat} {k : Int} (h : inB n k = true) : ∃ j : Nat, k = j ∧ j < 4 * n := by
  simp only [inB, decide_eq_true_eq] at h
  exact ⟨k.toNat, by omega, by omega⟩
theorem inB_no {n : Nat} {k : Int} (h : inB n k = false) : k < 0 ∨ 4 * (n : Int) ≤ k := by
  simp only [inB, decide_eq_false_iff_not] at h
  omega
theorem inB_of {n j : Nat} (h : j < 4 * n) : inB n (j : Int) = true := by simp only [inB, decide_eq_true_eq]; omega

section
variable {L : Lay} {w : World} {t : Int} {H X G : Nat → Option Int}
theorem made_yes (h : Wir L w t H X G) :
    Calls Tryd.prog 28 #[.pointer (some ⟨L.g, 0, none⟩)] w fun e w' => e = .returned (.bool true) ∧ w = w' := by
  have c0 := h.blk.cell 0
  have cl := h.blk.lt
  simp only [List.getElem?_toArray, List.getElem?_cons_zero] at c0
  have hq := fun W => neq_map_yes L.m W
  clear h
  go_enter Tryd.func28, Tryd.ntmps28
  go_wp2_with fail
  go_ret
  exact ⟨rfl, rfl⟩
theorem has_is (hm : MapW w L.m L.ps) (ok : L.Ok) (k : Int) (hb : -9223372036854775808 ≤ k ∧ k ≤ 9223372036854775807) (b : Bool) (hk : inB L.n k = b) :
    Calls Tryd.prog 33 #[.map (some L.m), .int .i64 k] w fun e w' => e = .returned (.bool b) ∧ w = w' := by
  have hl : L.ps.length ≤ 64 := by have := ok.len; have := ok.n16; omega
  cases b with
  | true =>
    obtain ⟨j, rfl, hj⟩ := inB_nat hk
    have hlk := look_in hm hl (i := j) (by have := ok.len; omega)
    clear hm ok hb hk hl hj
    go_enter Tryd.func33, Tryd.ntmps33
    go_wp2_with fail
    go_ret
    exact ⟨rfl, rfl⟩
  | false =>
    have hlk := look_out hm hl hb (by have := inB_no hk; have := ok.len; omega)
    clear hm ok hb hk hl
    go_enter Tryd.func33, Tryd.ntmps33
    go_wp2_with fail
    go_ret
    exact ⟨rfl, rfl⟩
/-- What was given, with one link given that. -/
def updW (n : Nat) (G : Nat → Option Int) (k : Int) (o : Option Int) : Nat → Option Int := if inB n k = true then upd G k.toNat o else G
set_option maxRecDepth 100000 in
theorem put_in (h : Wir L w t H X G) (ok : L.Ok) (k : Nat) (hk : k < 4 * L.n) (o : Option Int) :
    Calls Tryd.prog 27 #[.pointer (some ⟨L.g, 0, none⟩), .int .i64 (k : Int), .agg #[.int .i64 (o.getD 0), .bool o.isSome]] w fun e w' => e = .returned (.int .i64 0) ∧ Wir L w' t H X (upd G k o) ∧ Span L.b0 L.b1 w w' := by
  have h1 := h.al (.cells #[.int .i64 (o.getD 0), .bool o.isSome] 69)
  have hN := Blk.new w 69 #[.int .i64 (o.getD 0), .bool o.isSome]
  have e0 := hN.cell 0
  have e1 := hN.cell 1
  have hbu : Below w.heap.size w (w.alloc (.cells #[.int .i64 (o.getD 0), .bool o.isSome] 69)) := (Below.refl _ _).alloc (Nat.le_refl _) _
  have c0 := h1.blk.cell 0
  have c2 := h1.blk.cell 2
  simp only [List.getElem?_toArray, List.getElem?_cons_zero, List.getElem?_cons_succ] at c0 c2 e0 e1
  obtain ⟨x0, x1⟩ := gfC_cell h1.gfs hk
  have f0 := h1.gfs.frozen (k * 2)
  have f1 := h1.gfs.frozen (k * 2 + 1)
  have hlt : L.a < (w.alloc (.cells #[.int .i64 (o.getD 0), .bool o.isSome] 69)).heap.size := h1.gfs.lt
  have hix := fun W => idxGf (n := 4 * L.n) L.a (4 * L.n) hk W
  have HP := Lib.hid (fun u hu => h.put ok hk o u hu)
  have HM := Lib.hid (made_yes h1)
  have HH := Lib.hid (has_is h1.map ok (k : Int) (by have := ok.n16; omega) true (inB_of hk))
  have HB := Lib.hid hbu
  clear h h1 hN hbu ok hk
  go_enter Tryd.func27, Tryd.ntmps27
  go_wp2_with (first
    | (go_at_call 28; (with_reducible refine HM.out.mono ?_); rintro e w1 ⟨rfl, rfl⟩)
    | (go_at_call 33; (with_reducible refine HH.out.mono ?_); rintro e w1 ⟨rfl, rfl⟩))
  go_region
  all_goals (go_wp2_with fail)
  all_goals go_ret
  all_goals (
    obtain ⟨q1, q2⟩ := HP.out _ HB.out
    exact ⟨rfl, q1.drew, q2.drew⟩)
set_option maxRecDepth 100000 in
theorem put_out (h : Wir L w t H X G) (ok : L.Ok) (k : Int) (hb : -9223372036854775808 ≤ k ∧ k ≤ 9223372036854775807) (hk : inB L.n k = false) (o : Option Int) :
    Calls Tryd.prog 27 #[.pointer (some ⟨L.g, 0, none⟩), .int .i64 k, .agg #[.int .i64 (o.getD 0), .bool o.isSome]] w fun e w' => e = .returned (.int .i64 1) ∧ Below w.heap.size w w' := by
  have h1 := h.al (.cells #[.int .i64 (o.getD 0), .bool o.isSome] 69)
  have hbu : Below w.heap.size w (w.alloc (.cells #[.int .i64 (o.getD 0), .bool o.isSome] 69)) := (Below.refl _ _).alloc (Nat.le_refl _) _
  have c0 := h1.blk.cell 0
  have cl := h1.blk.lt
  simp only [List.getElem?_toArray, List.getElem?_cons_zero] at c0
  have HM := Lib.hid (made_yes h1)
  have HH := Lib.hid (has_is h1.map ok k hb false hk)
  have HB := Lib.hid hbu
  clear h h1 hbu ok hk hb
  go_enter Tryd.func27, Tryd.ntmps27
  go_wp2_with (first
    | (go_at_call 28; (with_reducible refine HM.out.mono ?_); rintro e w1 ⟨rfl, rfl⟩)
    | (go_at_call 33; (with_reducible refine HH.out.mono ?_); rintro e w1 ⟨rfl, rfl⟩))
  go_ret
  exact ⟨rfl, HB.out⟩
/-- What Give and Take answer. -/
def errW (n : Nat) (k : Int) : Int := if inB n k = true then 0 else 1
theorem put_is (h : Wir L w t H X G) (ok : L.Ok) (k : Int) (hb : -9223372036854775808 ≤ k ∧ k ≤ 9223372036854775807) (o : Option Int) (r : Int) (hr : errW L.n k = r) (G' : Nat → Option Int) (hG : updW L.n G k o = G') :
    Calls Tryd.prog 27 #[.pointer (some ⟨L.g, 0, none⟩), .int .i64 k, .agg #[.int .i64 (o.getD 0), .bool o.isSome]] w fun e w' => e = .returned (.int .i64 r) ∧ Wir L w' t H X G' ∧ Span L.b0 L.b1 w w' := by
  subst hr hG
  cases hk : inB L.n k with
  | true =>
    obtain ⟨j, rfl, hj⟩ := inB_nat hk
    have := put_in h ok j hj o
    simpa only [errW, updW, hk, if_true, Int.toNat_natCast] using this
  | false =>
    refine (put_out h ok k hb hk o).mono fun e w' ⟨h1, h2⟩ => ?_
    simp only [errW, updW, hk, Bool.false_eq_true, if_false]
    exact ⟨h1, h.on h2, Span.grow (Nat.le_trans ok.gin.1 (Nat.le_of_lt h.lt)) h2⟩
theorem give_is (h : Wir L w t H X G) (ok : L.Ok) (k : Int) (hb : -9223372036854775808 ≤ k ∧ k ≤ 9223372036854775807) (x : Int) (r : Int) (hr : errW L.n k = r) (G' : Nat → Option Int) (hG : updW L.n G k (some x) = G') :
    Calls Tryd.prog 11 #[.pointer (some ⟨L.g, 0, none⟩), .int .i64 k, .int .i64 x] w fun e w' => e = .returned (.int .i64 r) ∧ Wir L w' t H X G' ∧ Span L.b0 L.b1 w w' := by
  have HP := Lib.hid (put_is h ok k hb (some x) r hr G' hG)
  clear h ok hb hr hG
  simp only [Option.getD_some, Option.isSome_some] at HP
  go_enter Tryd.func11, Tryd.ntmps11
  go_wp2_with (go_at_call 27; (with_reducible refine HP.out.mono ?_); rintro e w1 ⟨rfl, h1, h2⟩)
  go_ret
  exact ⟨rfl, h1, h2⟩
theorem take_is (h : Wir L w t H X G) (ok : L.Ok) (k : Int) (hb : -9223372036854775808 ≤ k ∧ k ≤ 9223372036854775807) (r : Int) (hr : errW L.n k = r) (G' : Nat → Option Int) (hG : updW L.n G k none = G') :
    Calls Tryd.prog 13 #[.pointer (some ⟨L.g, 0, none⟩), .int .i64 k] w fun e w' => e = .returned (.int .i64 r) ∧ Wir L w' t H X G' ∧ Span L.b0 L.b1 w w' := by
  have HP := Lib.hid (put_is h ok k hb none r hr G' hG)
  clear h ok hb hr hG
  simp only [Option.getD_none, Option.isSome_none] at HP
  go_enter Tryd.func13, Tryd.ntmps13
  go_wp2_with (go_at_call 27; (with_reducible refine HP.out.mono ?_); rintro e w1 ⟨rfl, h1, h2⟩)
  go_ret
  exact ⟨rfl, h1, h2⟩
/-- What a link was given. -/
def givW (n : Nat) (G : Nat → Option Int) (k : Int) : Option Int := if inB n k = true then G k.toNat else none
set_option maxRecDepth 100000 in
theorem given_is (h : Wir L w t H X G) (ok : L.Ok) (k : Int) (hb : -9223372036854775808 ≤ k ∧ k ≤ 9223372036854775807) (o : Option Int) (ho : givW L.n G k = o) :
    Calls Tryd.prog 18 #[.pointer (some ⟨L.g, 0, none⟩), .int .i64 k] w fun e w' => e = .returned (.tuple #[.int .i64 (o.getD 0), .bool o.isSome]) ∧ Below w.heap.size w w' := by
  have c0 := h.blk.cell 0
  have c2 := h.blk.cell 2
  have cl := h.blk.lt
  simp only [List.getElem?_toArray, List.getElem?_cons_zero, List.getElem?_cons_succ] at c0 c2
  have HM := Lib.hid (made_yes h)
  cases hk : inB L.n k with
  | true =>
    obtain ⟨j, rfl, hj⟩ := inB_nat hk
    obtain ⟨x0, x1⟩ := gfC_cell h.gfs hj
    have eo : G j = o := by rw [← ho, givW, hk, if_pos rfl, Int.toNat_natCast]
    rw [eo] at x0 x1
    have hlt : L.a < w.heap.size := h.gfs.lt
    have hix := fun W => idxGf (n := 4 * L.n) L.a (4 * L.n) hj W
    have HH := Lib.hid (has_is h.map ok (j : Int) hb true hk)
    clear h ok hb hk hj ho eo
    go_enter Tryd.func18, Tryd.ntmps18
    go_wp2_with (first
      | (go_at_call 28; (with_reducible refine HM.out.mono ?_); rintro e w1 ⟨rfl, rfl⟩)
      | (go_at_call 33; (with_reducible refine HH.out.mono ?_); rintro e w1 ⟨rfl, rfl⟩))
    go_region
    all_goals (go_wp2_with fail)
    all_goals (go_ret2; exact ⟨rfl, by first | exact Below.refl _ _ | exact (Below.refl _ _).drew⟩)
  | false =>
    have eo : o = none := by rw [← ho, givW, hk]; rfl
    subst eo
    have HH := Lib.hid (has_is h.map ok k hb false hk)
    clear h ok hb hk ho
    go_enter Tryd.func18, Tryd.ntmps18
    go_wp2_with (first
      | (go_at_call 28; (with_reducible refine HM.out.mono ?_); rintro e w1 ⟨rfl, rfl⟩)
      | (go_at_call 33; (with_reducible refine HH.out.mono ?_); rintro e w1 ⟨rfl, rfl⟩))
    go_ret2
    exact ⟨rfl, Below.refl _ _⟩
set_option maxRecDepth 100000 in
theorem ticksW_is (h : Wir L w t H X G) (ok : L.Ok) :
    Calls Tryd.prog 20 #[.pointer (some ⟨L.g, 0, none⟩)] w fun e w' => e = .returned (.int .i64 t) ∧ Below w.heap.size w w' := by
  have c0 := h.blk.cell 0
  have cl := h.blk.lt
  simp only [List.getElem?_toArray, List.getElem?_cons_zero] at c0
  have HM := Lib.hid (made_yes h)
  have hl : L.ps.length ≤ 64 := by have := ok.len; have := ok.n16; omega
  have hlk := look_in h.map hl (i := 0) (by have := ok.len; have := ok.n4; omega)
  have HT := Lib.hid (ticksI_is _ _ _ _ _ w (h.lns 0 (by have := ok.n4; omega)))
  obtain ⟨p, ep⟩ : ∃ p, p = L.ps.getD 0 0 := ⟨_, rfl⟩
  rw [← ep] at hlk HT
  have hlk' : (Instr.lookup 49 (.map (some L.m)) (.int .i64 0) false).run Tryd.prog w = .ok (.pointer (some ⟨p, 0, none⟩)) w := hlk
  clear h ok hl ep hlk
  go_enter Tryd.func20, Tryd.ntmps20
  go_wp2_with (first
    | (go_at_call 28; (with_reducible refine HM.out.mono ?_); rintro e w1 ⟨rfl, rfl⟩)
    | (go_at_call 34; (with_reducible refine HT.out.mono ?_); rintro e w1 ⟨rfl, b1⟩))
  go_ret
  exact ⟨rfl, b1⟩
/-- The link that leads to a node, by what is asked for. -/
def toLink (n : Nat) (d x h : Int) : Int := linkM n d (sourceM n d x h) h
/-- What is here, at a node. -/
def hereW (n : Nat) (H : Nat → Option Int) (d x h : Int) : Option Int := if 0 ≤ toLink n d x h then H (toLink n d x h).toNat else none
theorem linkM_in {n d x h : Int} (hd : 0 ≤ d) : linkM n d x h = -1 ∨ (0 ≤ linkM n d x h ∧ linkM n d x h < 4 * n) := by
  unfold linkM
  split
  · rename_i q
    simp only [Bool.and_eq_true] at q
    have q1 := ex1.1 q.1
    have q2 := hop_iff.1 q.2
    right; omega
  · exact .inl rfl
set_option maxRecDepth 100000 in
theorem here_is (h : Wir L w t H X G) (ok : L.Ok) (hw : Ways w) (d x p : Int) (hd : 0 ≤ d) (hd' : d ≤ 255) (o : Option Int) (ho : hereW L.n H d x p = o) :
    Calls Tryd.prog 16 #[.pointer (some ⟨L.g, 0, none⟩), .int .u8 d, .int .i64 x, .int .i64 p] w fun e w' => e = .returned (.tuple #[.int .i64 (o.getD 0), .bool o.isSome]) ∧ Below w.heap.size w w' := by
  have hl : L.ps.length ≤ 64 := by have := ok.len; have := ok.n16; omega
  have HM := Lib.hid (made_yes h)
  have HS := Lib.hid (source_is L.n d x p _ rfl w hw hd hd')
  have HK := Lib.hid (fun W => link_is L.n d (sourceM L.n d x p) p (toLink L.n d x p) rfl W hd hd')
  obtain ⟨s, es⟩ : ∃ s, s = sourceM L.n d x p := ⟨_, rfl⟩
  rw [← es] at HS HK
  have c0 := h.blk.cell 0
  have c1 := h.blk.cell 1
  have cl := h.blk.lt
  simp only [List.getElem?_toArray, List.getElem?_cons_zero, List.getElem?_cons_succ] at c0 c1
  have HW := Lib.hid h
  have hin : toLink L.n d x p = -1 ∨ (0 ≤ toLink L.n d x p ∧ toLink L.n d x p < 4 * (L.n : Int)) := linkM_in hd
  rw [hereW] at ho
  obtain ⟨k, ek⟩ : ∃ k, k = toLink L.n d x p := ⟨_, rfl⟩
  rw [← ek] at ho hin HK
  by_cases h0 : 0 ≤ k
  · obtain ⟨j, rfl⟩ : ∃ j : Nat, k = j := ⟨k.toNat, by omega⟩
    rw [if_pos h0, Int.toNat_natCast] at ho
    have hj : j < 4 * L.n := by omega
    have HLK := Lib.hid (fun (W : World) (hm : MapW W L.m L.ps) => look_in hm hl (i := j) (by have := ok.len; omega))
    have HE := Lib.hid (fun (W : World) (hW : Wir L W t H X G) => hereI_is (L.ps.getD j 0) (hopN j) t (H j) (X j) _ rfl _ rfl W (hW.lns j hj))
    rw [ho] at HE
    obtain ⟨q, eq⟩ : ∃ q, q = L.ps.getD j 0 := ⟨_, rfl⟩
    rw [← eq] at HLK HE
    clear h ok hl hw hd hd' ho hin h0 hj eq es ek
    go_enter Tryd.func16, Tryd.ntmps16
    go_wp2_with (first
      | (go_at_call 28; (with_reducible refine HM.out.mono ?_); rintro e w1 ⟨rfl, rfl⟩)
      | (go_at_call 23; (with_reducible refine HS.out.mono ?_); rintro e w1 ⟨rfl, b1⟩; have HW1 := Lib.hid (HW.out.on b1); have c0 := HW1.out.blk.cell 0; have c1 := HW1.out.blk.cell 1; have cl := HW1.out.blk.lt; simp only [List.getElem?_toArray, List.getElem?_cons_zero, List.getElem?_cons_succ] at c0 c1)
      | (go_at_call 24; (with_reducible refine (HK.out _).mono ?_); rintro e w2 ⟨rfl, b2⟩; have HW2 := Lib.hid (HW1.out.on b2); have c0 := HW2.out.blk.cell 0; have cl := HW2.out.blk.lt; have hlk := HLK.out _ HW2.out.map; simp only [List.getElem?_toArray, List.getElem?_cons_zero] at c0)
      | (go_at_call 30; (with_reducible refine (HE.out _ HW2.out).mono ?_); rintro e w3 ⟨rfl, b3⟩))
    go_ret2
    exact ⟨rfl, below_then (below_then b1 b2) b3⟩
  · obtain rfl : k = -1 := by omega
    rw [if_neg (by decide)] at ho
    subst ho
    have HLK := Lib.hid (fun (W : World) (hm : MapW W L.m L.ps) => look_out hm hl (k := -1) (by omega) (.inl (by omega)))
    clear h ok hl hw hd hd' hin h0 es ek
    go_enter Tryd.func16, Tryd.ntmps16
    go_wp2_with (first
      | (go_at_call 28; (with_reducible refine HM.out.mono ?_); rintro e w1 ⟨rfl, rfl⟩)
      | (go_at_call 23; (with_reducible refine HS.out.mono ?_); rintro e w1 ⟨rfl, b1⟩; have HW1 := Lib.hid (HW.out.on b1); have c0 := HW1.out.blk.cell 0; have c1 := HW1.out.blk.cell 1; have cl := HW1.out.blk.lt; simp only [List.getElem?_toArray, List.getElem?_cons_zero, List.getElem?_cons_succ] at c0 c1)
      | (go_at_call 24; (with_reducible refine (HK.out _).mono ?_); rintro e w2 ⟨rfl, b2⟩; have HW2 := Lib.hid (HW1.out.on b2); have c0 := HW2.out.blk.cell 0; have cl := HW2.out.blk.lt; have hlk := HLK.out _ HW2.out.map; simp only [List.getElem?_toArray, List.getElem?_cons_zero] at c0)
      | (go_at_call 30; (with_reducible refine (hereI_nil w2).mono ?_); rintro e w3 ⟨rfl, b3⟩))
    go_ret2
    exact ⟨rfl, below_then (below_then b1 b2) b3⟩
end
end Go.Proofs.YtgmoifbncijhdaaDoor
