/-
  The contracts of package lines, with a line as its hop, its ticks, what is here (or nothing) and what is next (or nothing). Conditions: the line's reading; ticks are fewer than 2^62; of a list that is sent: the reading of its one thing.
-/
import Derived.Test.YtlbpplibngdncaaLn1
namespace Go.Proofs.Ytlbpplibngdncaa
open Go.RowKit
set_option linter.unusedVariables false

/-- What is here, and what is next, behind a tick's end. -/
def nowL {α : Type} (h : Int) (b o : Option α) : Option α := if h = 1 then o else b
def nextL {α : Type} (h : Int) (b o : Option α) : Option α := if h = 1 then b else o
theorem LnI.on {w w' : World} {g : Nat} {h k : Int} {x : Int} {p : Bool} {y : Int} {q : Bool} (H : LnI w g h k x p y q) (hb : Below w.heap.size w w') : LnI w' g h k x p y q := Blk.on H hb
theorem sendI_nil (A : Option Addr) (n c : Nat) (w : World) :
    Calls Try.prog 18 #[.pointer none, .slice A n c] w fun e w' => e = .returned (.int .i64 2) ∧ Below w.heap.size w w' := by
  go_enter Try.func18, Try.ntmps18
  go_wp2_with fail
  go_ret
  exact ⟨rfl, Below.refl _ _⟩
theorem sendI_void (g : Nat) (k : Int) (x : Int) (p : Bool) (y : Int) (q : Bool) (A : Option Addr) (n c : Nat) (w : World) (hL : LnI w g 0 k x p y q) :
    Calls Try.prog 18 #[.pointer (some ⟨g, 0, none⟩), .slice A n c] w fun e w' => e = .returned (.int .i64 2) ∧ Below w.heap.size w w' := by
  have hB : Blk w g 52 _ := hL
  have c0 := hB.cell 0
  have c1 := hB.cell 1
  have c2 := hB.cell 2
  have c3 := hB.cell 3
  have c4 := hB.cell 4
  have c5 := hB.cell 5
  have cl := hB.lt
  simp only [List.getElem?_toArray, List.getElem?_cons_zero, List.getElem?_cons_succ] at c0 c1 c2 c3 c4 c5
  clear hL hB
  go_enter Try.func18, Try.ntmps18
  go_wp2_with fail
  go_ret
  exact ⟨rfl, Below.refl _ _⟩
theorem sendI_many (g : Nat) (h k : Int) (x : Int) (p : Bool) (y : Int) (q : Bool) (A : Option Addr) (n c : Nat) (w : World) (hL : LnI w g h k x p y q) (hh : h = 1 ∨ h = 2) (hn : 1 < n) :
    Calls Try.prog 18 #[.pointer (some ⟨g, 0, none⟩), .slice A n c] w fun e w' => e = .returned (.int .i64 1) ∧ Below w.heap.size w w' := by
  have hB : Blk w g 52 _ := hL
  have c0 := hB.cell 0
  have c1 := hB.cell 1
  have c2 := hB.cell 2
  have c3 := hB.cell 3
  have c4 := hB.cell 4
  have c5 := hB.cell 5
  have cl := hB.lt
  simp only [List.getElem?_toArray, List.getElem?_cons_zero, List.getElem?_cons_succ] at c0 c1 c2 c3 c4 c5
  have h0 : (h == 0) = false := beq_eq_false_iff_ne.2 (by omega)
  have hd : decide ((1 : Int) < (n : Int)) = true := decide_eq_true (by omega)
  clear hL hB hh
  go_enter Try.func18, Try.ntmps18
  go_wp2_with fail
  go_ret
  exact ⟨rfl, Below.refl _ _⟩
theorem sendI_near (g : Nat) (k : Int) (x : Int) (p : Bool) (y : Int) (q : Bool) (A : Option Addr) (n c : Nat) (w : World) (hL : LnI w g 1 k x p y q) (hk : 0 ≤ k) (hk' : k < 4611686018427387904) (hn : (n : Int) ≤ 1)
    (z : Int) (r : Bool) (hs : ∀ u, Below w.heap.size w u → Calls Try.prog 38 #[.slice A n c] u fun e w' => e = .returned (.agg #[.int .i64 z, .bool r]) ∧ Below u.heap.size u w') :
    Calls Try.prog 18 #[.pointer (some ⟨g, 0, none⟩), .slice A n c] w fun e w' => e = .returned (.int .i64 0) ∧ LnI w' g 1 (k + 1) z r y q ∧ But g w w' := by
  have hB : Blk w g 52 _ := hL
  have c0 := hB.cell 0
  have c1 := hB.cell 1
  have c2 := hB.cell 2
  have c3 := hB.cell 3
  have c4 := hB.cell 4
  have c5 := hB.cell 5
  have cl := hB.lt
  simp only [List.getElem?_toArray, List.getElem?_cons_zero, List.getElem?_cons_succ] at c0 c1 c2 c3 c4 c5
  have hd : decide ((1 : Int) < (n : Int)) = false := decide_eq_false (by omega)
  have HL := Lib.hid hL
  have HK := Lib.hid hk
  have HK' := Lib.hid hk'
  have HS := Lib.hid hs
  have HG := Lib.hid (Nat.le_of_lt hB.lt)
  clear hL hB hs hk hk' hn
  go_enter Try.func18, Try.ntmps18
  go_wp2_with (first
    | (go_at_call 38; (with_reducible refine (HS.out _ (Below.refl _ _)).mono ?_); rintro e u1 ⟨rfl, b1⟩; have HL1 := Lib.hid (LnI.on HL.out b1))
    | (go_at_call 37; (with_reducible refine (endI_near g k x p y q z r _ HL1.out HK.out HK'.out).mono ?_); rintro e u2 ⟨rfl, hL2, b2⟩))
  go_ret
  exact ⟨rfl, hL2, (But.grow HG.out b1).trans b2⟩
theorem sendI_far (g : Nat) (k : Int) (x : Int) (p : Bool) (y : Int) (q : Bool) (A : Option Addr) (n c : Nat) (w : World) (hL : LnI w g 2 k x p y q) (hk : 0 ≤ k) (hk' : k < 4611686018427387904) (hn : (n : Int) ≤ 1)
    (z : Int) (r : Bool) (hs : ∀ u, Below w.heap.size w u → Calls Try.prog 38 #[.slice A n c] u fun e w' => e = .returned (.agg #[.int .i64 z, .bool r]) ∧ Below u.heap.size u w') :
    Calls Try.prog 18 #[.pointer (some ⟨g, 0, none⟩), .slice A n c] w fun e w' => e = .returned (.int .i64 0) ∧ LnI w' g 2 (k + 1) y q z r ∧ But g w w' := by
  have hB : Blk w g 52 _ := hL
  have c0 := hB.cell 0
  have c1 := hB.cell 1
  have c2 := hB.cell 2
  have c3 := hB.cell 3
  have c4 := hB.cell 4
  have c5 := hB.cell 5
  have cl := hB.lt
  simp only [List.getElem?_toArray, List.getElem?_cons_zero, List.getElem?_cons_succ] at c0 c1 c2 c3 c4 c5
  have hd : decide ((1 : Int) < (n : Int)) = false := decide_eq_false (by omega)
  have HL := Lib.hid hL
  have HK := Lib.hid hk
  have HK' := Lib.hid hk'
  have HS := Lib.hid hs
  have HG := Lib.hid (Nat.le_of_lt hB.lt)
  clear hL hB hs hk hk' hn
  go_enter Try.func18, Try.ntmps18
  go_wp2_with (first
    | (go_at_call 38; (with_reducible refine (HS.out _ (Below.refl _ _)).mono ?_); rintro e u1 ⟨rfl, b1⟩; have HL1 := Lib.hid (LnI.on HL.out b1))
    | (go_at_call 37; (with_reducible refine (endI_far g k x p y q z r _ HL1.out HK.out HK'.out).mono ?_); rintro e u2 ⟨rfl, hL2, b2⟩))
  go_ret
  exact ⟨rfl, hL2, (But.grow HG.out b1).trans b2⟩
/-- A line by what is here, and what is next. -/
def OnI (w : World) (g : Nat) (h k : Int) (a b : Option Int) : Prop := LnI w g h k (a.getD 0) a.isSome (b.getD 0) b.isSome
theorem OnI.blk {w : World} {g : Nat} {h k : Int} {a b : Option Int} (H : OnI w g h k a b) : ∃ cs, Blk w g 52 cs := ⟨_, H⟩
theorem OnI.on {w w' : World} {g : Nat} {h k : Int} {a b : Option Int} (H : OnI w g h k a b) (hb : Below w.heap.size w w') : OnI w' g h k a b := Blk.on H hb
theorem OnI.al {w : World} {g : Nat} {h k : Int} {a b : Option Int} (H : OnI w g h k a b) (o : Obj) : OnI (w.alloc o) g h k a b := Blk.alloc H o
theorem OnI.lt {w : World} {g : Nat} {h k : Int} {a b : Option Int} (H : OnI w g h k a b) : g < w.heap.size := Blk.lt H
theorem OnI.but {w w' : World} {g g' : Nat} {h k : Int} {a b : Option Int} (H : OnI w g h k a b) (hb : But g' w w') (hg : g ≠ g') : OnI w' g h k a b := hb.blk H hg
/-- The one thing of a list, or none. -/
def OneI (w : World) (A : Option Addr) (n : Nat) : Option Int → Prop
  | none => n = 0
  | some x => n = 1 ∧ ∃ b o, A = some ⟨b, o, none⟩ ∧ b < w.heap.size ∧ w.cell? ⟨b, o, none⟩ = some (.int .i64 x)
theorem OneI.le {w : World} {A : Option Addr} {n : Nat} {o : Option Int} (H : OneI w A n o) : (n : Int) ≤ 1 := by
  cases o with
  | none => have : n = 0 := H; omega
  | some x => have := H.1; omega
theorem sentI_is (A : Option Addr) (n c : Nat) (o : Option Int) (w : World) (H : OneI w A n o) (u : World) (hb : Below w.heap.size w u) :
    Calls Try.prog 38 #[.slice A n c] u fun e w' => e = .returned (.agg #[.int .i64 (o.getD 0), .bool o.isSome]) ∧ Below u.heap.size u w' := by
  cases o with
  | none =>
    have h0 : n = 0 := H
    subst h0
    exact sentI_none A c u
  | some x =>
    obtain ⟨h1, b, o, rfl, hlt, hc⟩ := H
    subst h1
    exact sentI_one b o c x u ((hb.cell hlt).trans hc) (Nat.lt_of_lt_of_le hlt hb.size)
theorem sendI_is (g : Nat) (h k : Int) (a b o a' b' : Option Int) (A : Option Addr) (n c : Nat) (ha : nowL h b o = a') (hb : nextL h b o = b') (K : Int) (hK : k + 1 = K) (w : World) (hL : OnI w g h k a b) (hh : h = 1 ∨ h = 2) (hk : 0 ≤ k) (hk' : k < 4611686018427387904) (H : OneI w A n o) :
    Calls Try.prog 18 #[.pointer (some ⟨g, 0, none⟩), .slice A n c] w fun e w' => e = .returned (.int .i64 0) ∧ OnI w' g h K a' b' ∧ But g w w' := by
  subst ha hb hK
  rcases hh with rfl | rfl
  · exact sendI_near g k _ _ _ _ A n c w hL hk hk' H.le _ _ (sentI_is A n c o w H)
  · exact sendI_far g k _ _ _ _ A n c w hL hk hk' H.le _ _ (sentI_is A n c o w H)
theorem newI_is (h : Int) (w : World) (hh : h = 1 ∨ h = 2) :
    Calls Try.prog 8 #[.int .i64 h] w fun e w' => e = .returned (.tuple #[.pointer (some ⟨w.heap.size, 0, none⟩), .int .i64 0]) ∧ OnI w' w.heap.size h 0 none none ∧ Below w.heap.size w w' := by
  rcases hh with rfl | rfl
  · exact newI_one w
  · exact newI_two w
theorem hereI_is (g : Nat) (h k : Int) (a b : Option Int) (x : Int) (hx : a.getD 0 = x) (p : Bool) (hp : a.isSome = p) (w : World) (hL : OnI w g h k a b) :
    Calls Try.prog 10 #[.pointer (some ⟨g, 0, none⟩)] w fun e w' => e = .returned (.tuple #[.int .i64 x, .bool p]) ∧ Below w.heap.size w w' := by
  subst hx hp; exact hereI_any g h k _ _ _ _ w hL
theorem ticksI_is (g : Nat) (h k : Int) (a b : Option Int) (w : World) (hL : OnI w g h k a b) :
    Calls Try.prog 20 #[.pointer (some ⟨g, 0, none⟩)] w fun e w' => e = .returned (.int .i64 k) ∧ Below w.heap.size w w' := ticksI_any g h k _ _ _ _ w hL
/-- What Way answers. -/
def WayI (w w' : World) (A : Option Addr) (n : Nat) : Option Int → Prop
  | none => A = none ∧ n = 0
  | some x => A = some ⟨w.heap.size, 0, none⟩ ∧ n = 1 ∧ Blk w' w.heap.size 3 #[.int .i64 x]
theorem wayI_is (g : Nat) (h k : Int) (a b : Option Int) (w : World) (hL : OnI w g h k a b) :
    Calls Try.prog 13 #[.pointer (some ⟨g, 0, none⟩)] w fun e w' => ∃ A n, e = .returned (.slice A n n) ∧ WayI w w' A n b ∧ Below w.heap.size w w' := by
  cases b with
  | none => exact (wayI_none g h k _ _ _ w hL).mono fun e w' ⟨h1, h2⟩ => ⟨none, 0, h1, ⟨rfl, rfl⟩, h2⟩
  | some y => exact (wayI_some g h k _ _ _ w hL).mono fun e w' ⟨h1, h2, h3⟩ => ⟨_, 1, h1, ⟨rfl, rfl, h2⟩, h3⟩
theorem LnU.on {w w' : World} {g : Nat} {h k : Int} {x : Int} {p : Bool} {y : Int} {q : Bool} (H : LnU w g h k x p y q) (hb : Below w.heap.size w w') : LnU w' g h k x p y q := Blk.on H hb
theorem sendU_nil (A : Option Addr) (n c : Nat) (w : World) :
    Calls Try.prog 25 #[.pointer none, .slice A n c] w fun e w' => e = .returned (.int .i64 2) ∧ Below w.heap.size w w' := by
  go_enter Try.func25, Try.ntmps25
  go_wp2_with fail
  go_ret
  exact ⟨rfl, Below.refl _ _⟩
theorem sendU_void (g : Nat) (k : Int) (x : Int) (p : Bool) (y : Int) (q : Bool) (A : Option Addr) (n c : Nat) (w : World) (hL : LnU w g 0 k x p y q) :
    Calls Try.prog 25 #[.pointer (some ⟨g, 0, none⟩), .slice A n c] w fun e w' => e = .returned (.int .i64 2) ∧ Below w.heap.size w w' := by
  have hB : Blk w g 92 _ := hL
  have c0 := hB.cell 0
  have c1 := hB.cell 1
  have c2 := hB.cell 2
  have c3 := hB.cell 3
  have c4 := hB.cell 4
  have c5 := hB.cell 5
  have cl := hB.lt
  simp only [List.getElem?_toArray, List.getElem?_cons_zero, List.getElem?_cons_succ] at c0 c1 c2 c3 c4 c5
  clear hL hB
  go_enter Try.func25, Try.ntmps25
  go_wp2_with fail
  go_ret
  exact ⟨rfl, Below.refl _ _⟩
theorem sendU_many (g : Nat) (h k : Int) (x : Int) (p : Bool) (y : Int) (q : Bool) (A : Option Addr) (n c : Nat) (w : World) (hL : LnU w g h k x p y q) (hh : h = 1 ∨ h = 2) (hn : 1 < n) :
    Calls Try.prog 25 #[.pointer (some ⟨g, 0, none⟩), .slice A n c] w fun e w' => e = .returned (.int .i64 1) ∧ Below w.heap.size w w' := by
  have hB : Blk w g 92 _ := hL
  have c0 := hB.cell 0
  have c1 := hB.cell 1
  have c2 := hB.cell 2
  have c3 := hB.cell 3
  have c4 := hB.cell 4
  have c5 := hB.cell 5
  have cl := hB.lt
  simp only [List.getElem?_toArray, List.getElem?_cons_zero, List.getElem?_cons_succ] at c0 c1 c2 c3 c4 c5
  have h0 : (h == 0) = false := beq_eq_false_iff_ne.2 (by omega)
  have hd : decide ((1 : Int) < (n : Int)) = true := decide_eq_true (by omega)
  clear hL hB hh
  go_enter Try.func25, Try.ntmps25
  go_wp2_with fail
  go_ret
  exact ⟨rfl, Below.refl _ _⟩
theorem sendU_near (g : Nat) (k : Int) (x : Int) (p : Bool) (y : Int) (q : Bool) (A : Option Addr) (n c : Nat) (w : World) (hL : LnU w g 1 k x p y q) (hk : 0 ≤ k) (hk' : k < 4611686018427387904) (hn : (n : Int) ≤ 1)
    (z : Int) (r : Bool) (hs : ∀ u, Below w.heap.size w u → Calls Try.prog 40 #[.slice A n c] u fun e w' => e = .returned (.agg #[.int .u8 z, .bool r]) ∧ Below u.heap.size u w') :
    Calls Try.prog 25 #[.pointer (some ⟨g, 0, none⟩), .slice A n c] w fun e w' => e = .returned (.int .i64 0) ∧ LnU w' g 1 (k + 1) z r y q ∧ But g w w' := by
  have hB : Blk w g 92 _ := hL
  have c0 := hB.cell 0
  have c1 := hB.cell 1
  have c2 := hB.cell 2
  have c3 := hB.cell 3
  have c4 := hB.cell 4
  have c5 := hB.cell 5
  have cl := hB.lt
  simp only [List.getElem?_toArray, List.getElem?_cons_zero, List.getElem?_cons_succ] at c0 c1 c2 c3 c4 c5
  have hd : decide ((1 : Int) < (n : Int)) = false := decide_eq_false (by omega)
  have HL := Lib.hid hL
  have HK := Lib.hid hk
  have HK' := Lib.hid hk'
  have HS := Lib.hid hs
  have HG := Lib.hid (Nat.le_of_lt hB.lt)
  clear hL hB hs hk hk' hn
  go_enter Try.func25, Try.ntmps25
  go_wp2_with (first
    | (go_at_call 40; (with_reducible refine (HS.out _ (Below.refl _ _)).mono ?_); rintro e u1 ⟨rfl, b1⟩; have HL1 := Lib.hid (LnU.on HL.out b1))
    | (go_at_call 39; (with_reducible refine (endU_near g k x p y q z r _ HL1.out HK.out HK'.out).mono ?_); rintro e u2 ⟨rfl, hL2, b2⟩))
  go_ret
  exact ⟨rfl, hL2, (But.grow HG.out b1).trans b2⟩
theorem sendU_far (g : Nat) (k : Int) (x : Int) (p : Bool) (y : Int) (q : Bool) (A : Option Addr) (n c : Nat) (w : World) (hL : LnU w g 2 k x p y q) (hk : 0 ≤ k) (hk' : k < 4611686018427387904) (hn : (n : Int) ≤ 1)
    (z : Int) (r : Bool) (hs : ∀ u, Below w.heap.size w u → Calls Try.prog 40 #[.slice A n c] u fun e w' => e = .returned (.agg #[.int .u8 z, .bool r]) ∧ Below u.heap.size u w') :
    Calls Try.prog 25 #[.pointer (some ⟨g, 0, none⟩), .slice A n c] w fun e w' => e = .returned (.int .i64 0) ∧ LnU w' g 2 (k + 1) y q z r ∧ But g w w' := by
  have hB : Blk w g 92 _ := hL
  have c0 := hB.cell 0
  have c1 := hB.cell 1
  have c2 := hB.cell 2
  have c3 := hB.cell 3
  have c4 := hB.cell 4
  have c5 := hB.cell 5
  have cl := hB.lt
  simp only [List.getElem?_toArray, List.getElem?_cons_zero, List.getElem?_cons_succ] at c0 c1 c2 c3 c4 c5
  have hd : decide ((1 : Int) < (n : Int)) = false := decide_eq_false (by omega)
  have HL := Lib.hid hL
  have HK := Lib.hid hk
  have HK' := Lib.hid hk'
  have HS := Lib.hid hs
  have HG := Lib.hid (Nat.le_of_lt hB.lt)
  clear hL hB hs hk hk' hn
  go_enter Try.func25, Try.ntmps25
  go_wp2_with (first
    | (go_at_call 40; (with_reducible refine (HS.out _ (Below.refl _ _)).mono ?_); rintro e u1 ⟨rfl, b1⟩; have HL1 := Lib.hid (LnU.on HL.out b1))
    | (go_at_call 39; (with_reducible refine (endU_far g k x p y q z r _ HL1.out HK.out HK'.out).mono ?_); rintro e u2 ⟨rfl, hL2, b2⟩))
  go_ret
  exact ⟨rfl, hL2, (But.grow HG.out b1).trans b2⟩
/-- A line by what is here, and what is next. -/
def OnU (w : World) (g : Nat) (h k : Int) (a b : Option Int) : Prop := LnU w g h k (a.getD 0) a.isSome (b.getD 0) b.isSome
theorem OnU.blk {w : World} {g : Nat} {h k : Int} {a b : Option Int} (H : OnU w g h k a b) : ∃ cs, Blk w g 92 cs := ⟨_, H⟩
theorem OnU.on {w w' : World} {g : Nat} {h k : Int} {a b : Option Int} (H : OnU w g h k a b) (hb : Below w.heap.size w w') : OnU w' g h k a b := Blk.on H hb
theorem OnU.al {w : World} {g : Nat} {h k : Int} {a b : Option Int} (H : OnU w g h k a b) (o : Obj) : OnU (w.alloc o) g h k a b := Blk.alloc H o
theorem OnU.lt {w : World} {g : Nat} {h k : Int} {a b : Option Int} (H : OnU w g h k a b) : g < w.heap.size := Blk.lt H
theorem OnU.but {w w' : World} {g g' : Nat} {h k : Int} {a b : Option Int} (H : OnU w g h k a b) (hb : But g' w w') (hg : g ≠ g') : OnU w' g h k a b := hb.blk H hg
/-- The one thing of a list, or none. -/
def OneU (w : World) (A : Option Addr) (n : Nat) : Option Int → Prop
  | none => n = 0
  | some x => n = 1 ∧ ∃ b o, A = some ⟨b, o, none⟩ ∧ b < w.heap.size ∧ w.cell? ⟨b, o, none⟩ = some (.int .u8 x)
theorem OneU.le {w : World} {A : Option Addr} {n : Nat} {o : Option Int} (H : OneU w A n o) : (n : Int) ≤ 1 := by
  cases o with
  | none => have : n = 0 := H; omega
  | some x => have := H.1; omega
theorem sentU_is (A : Option Addr) (n c : Nat) (o : Option Int) (w : World) (H : OneU w A n o) (u : World) (hb : Below w.heap.size w u) :
    Calls Try.prog 40 #[.slice A n c] u fun e w' => e = .returned (.agg #[.int .u8 (o.getD 0), .bool o.isSome]) ∧ Below u.heap.size u w' := by
  cases o with
  | none =>
    have h0 : n = 0 := H
    subst h0
    exact sentU_none A c u
  | some x =>
    obtain ⟨h1, b, o, rfl, hlt, hc⟩ := H
    subst h1
    exact sentU_one b o c x u ((hb.cell hlt).trans hc) (Nat.lt_of_lt_of_le hlt hb.size)
theorem sendU_is (g : Nat) (h k : Int) (a b o a' b' : Option Int) (A : Option Addr) (n c : Nat) (ha : nowL h b o = a') (hb : nextL h b o = b') (K : Int) (hK : k + 1 = K) (w : World) (hL : OnU w g h k a b) (hh : h = 1 ∨ h = 2) (hk : 0 ≤ k) (hk' : k < 4611686018427387904) (H : OneU w A n o) :
    Calls Try.prog 25 #[.pointer (some ⟨g, 0, none⟩), .slice A n c] w fun e w' => e = .returned (.int .i64 0) ∧ OnU w' g h K a' b' ∧ But g w w' := by
  subst ha hb hK
  rcases hh with rfl | rfl
  · exact sendU_near g k _ _ _ _ A n c w hL hk hk' H.le _ _ (sentU_is A n c o w H)
  · exact sendU_far g k _ _ _ _ A n c w hL hk hk' H.le _ _ (sentU_is A n c o w H)
theorem newU_is (h : Int) (w : World) (hh : h = 1 ∨ h = 2) :
    Calls Try.prog 22 #[.int .i64 h] w fun e w' => e = .returned (.tuple #[.pointer (some ⟨w.heap.size, 0, none⟩), .int .i64 0]) ∧ OnU w' w.heap.size h 0 none none ∧ Below w.heap.size w w' := by
  rcases hh with rfl | rfl
  · exact newU_one w
  · exact newU_two w
theorem hereU_is (g : Nat) (h k : Int) (a b : Option Int) (x : Int) (hx : a.getD 0 = x) (p : Bool) (hp : a.isSome = p) (w : World) (hL : OnU w g h k a b) :
    Calls Try.prog 23 #[.pointer (some ⟨g, 0, none⟩)] w fun e w' => e = .returned (.tuple #[.int .u8 x, .bool p]) ∧ Below w.heap.size w w' := by
  subst hx hp; exact hereU_any g h k _ _ _ _ w hL
theorem ticksU_is (g : Nat) (h k : Int) (a b : Option Int) (w : World) (hL : OnU w g h k a b) :
    Calls Try.prog 24 #[.pointer (some ⟨g, 0, none⟩)] w fun e w' => e = .returned (.int .i64 k) ∧ Below w.heap.size w w' := ticksU_any g h k _ _ _ _ w hL
/-- What Way answers. -/
def WayU (w w' : World) (A : Option Addr) (n : Nat) : Option Int → Prop
  | none => A = none ∧ n = 0
  | some x => A = some ⟨w.heap.size, 0, none⟩ ∧ n = 1 ∧ Blk w' w.heap.size 5 #[.int .u8 x]
theorem LnS.on {w w' : World} {g : Nat} {h k : Int} {x : ByteArray} {p : Bool} {y : ByteArray} {q : Bool} (H : LnS w g h k x p y q) (hb : Below w.heap.size w w') : LnS w' g h k x p y q := Blk.on H hb
theorem sendS_nil (A : Option Addr) (n c : Nat) (w : World) :
    Calls Try.prog 31 #[.pointer none, .slice A n c] w fun e w' => e = .returned (.int .i64 2) ∧ Below w.heap.size w w' := by
  go_enter Try.func31, Try.ntmps31
  go_wp2_with fail
  go_ret
  exact ⟨rfl, Below.refl _ _⟩
theorem sendS_void (g : Nat) (k : Int) (x : ByteArray) (p : Bool) (y : ByteArray) (q : Bool) (A : Option Addr) (n c : Nat) (w : World) (hL : LnS w g 0 k x p y q) :
    Calls Try.prog 31 #[.pointer (some ⟨g, 0, none⟩), .slice A n c] w fun e w' => e = .returned (.int .i64 2) ∧ Below w.heap.size w w' := by
  have hB : Blk w g 98 _ := hL
  have c0 := hB.cell 0
  have c1 := hB.cell 1
  have c2 := hB.cell 2
  have c3 := hB.cell 3
  have c4 := hB.cell 4
  have c5 := hB.cell 5
  have cl := hB.lt
  simp only [List.getElem?_toArray, List.getElem?_cons_zero, List.getElem?_cons_succ] at c0 c1 c2 c3 c4 c5
  clear hL hB
  go_enter Try.func31, Try.ntmps31
  go_wp2_with fail
  go_ret
  exact ⟨rfl, Below.refl _ _⟩
theorem sendS_many (g : Nat) (h k : Int) (x : ByteArray) (p : Bool) (y : ByteArray) (q : Bool) (A : Option Addr) (n c : Nat) (w : World) (hL : LnS w g h k x p y q) (hh : h = 1 ∨ h = 2) (hn : 1 < n) :
    Calls Try.prog 31 #[.pointer (some ⟨g, 0, none⟩), .slice A n c] w fun e w' => e = .returned (.int .i64 1) ∧ Below w.heap.size w w' := by
  have hB : Blk w g 98 _ := hL
  have c0 := hB.cell 0
  have c1 := hB.cell 1
  have c2 := hB.cell 2
  have c3 := hB.cell 3
  have c4 := hB.cell 4
  have c5 := hB.cell 5
  have cl := hB.lt
  simp only [List.getElem?_toArray, List.getElem?_cons_zero, List.getElem?_cons_succ] at c0 c1 c2 c3 c4 c5
  have h0 : (h == 0) = false := beq_eq_false_iff_ne.2 (by omega)
  have hd : decide ((1 : Int) < (n : Int)) = true := decide_eq_true (by omega)
  clear hL hB hh
  go_enter Try.func31, Try.ntmps31
  go_wp2_with fail
  go_ret
  exact ⟨rfl, Below.refl _ _⟩
theorem sendS_near (g : Nat) (k : Int) (x : ByteArray) (p : Bool) (y : ByteArray) (q : Bool) (A : Option Addr) (n c : Nat) (w : World) (hL : LnS w g 1 k x p y q) (hk : 0 ≤ k) (hk' : k < 4611686018427387904) (hn : (n : Int) ≤ 1)
    (z : ByteArray) (r : Bool) (hs : ∀ u, Below w.heap.size w u → Calls Try.prog 42 #[.slice A n c] u fun e w' => e = .returned (.agg #[.string z, .bool r]) ∧ Below u.heap.size u w') :
    Calls Try.prog 31 #[.pointer (some ⟨g, 0, none⟩), .slice A n c] w fun e w' => e = .returned (.int .i64 0) ∧ LnS w' g 1 (k + 1) z r y q ∧ But g w w' := by
  have hB : Blk w g 98 _ := hL
  have c0 := hB.cell 0
  have c1 := hB.cell 1
  have c2 := hB.cell 2
  have c3 := hB.cell 3
  have c4 := hB.cell 4
  have c5 := hB.cell 5
  have cl := hB.lt
  simp only [List.getElem?_toArray, List.getElem?_cons_zero, List.getElem?_cons_succ] at c0 c1 c2 c3 c4 c5
  have hd : decide ((1 : Int) < (n : Int)) = false := decide_eq_false (by omega)
  have HL := Lib.hid hL
  have HK := Lib.hid hk
  have HK' := Lib.hid hk'
  have HS := Lib.hid hs
  have HG := Lib.hid (Nat.le_of_lt hB.lt)
  clear hL hB hs hk hk' hn
  go_enter Try.func31, Try.ntmps31
  go_wp2_with (first
    | (go_at_call 42; (with_reducible refine (HS.out _ (Below.refl _ _)).mono ?_); rintro e u1 ⟨rfl, b1⟩; have HL1 := Lib.hid (LnS.on HL.out b1))
    | (go_at_call 41; (with_reducible refine (endS_near g k x p y q z r _ HL1.out HK.out HK'.out).mono ?_); rintro e u2 ⟨rfl, hL2, b2⟩))
  go_ret
  exact ⟨rfl, hL2, (But.grow HG.out b1).trans b2⟩
theorem sendS_far (g : Nat) (k : Int) (x : ByteArray) (p : Bool) (y : ByteArray) (q : Bool) (A : Option Addr) (n c : Nat) (w : World) (hL : LnS w g 2 k x p y q) (hk : 0 ≤ k) (hk' : k < 4611686018427387904) (hn : (n : Int) ≤ 1)
    (z : ByteArray) (r : Bool) (hs : ∀ u, Below w.heap.size w u → Calls Try.prog 42 #[.slice A n c] u fun e w' => e = .returned (.agg #[.string z, .bool r]) ∧ Below u.heap.size u w') :
    Calls Try.prog 31 #[.pointer (some ⟨g, 0, none⟩), .slice A n c] w fun e w' => e = .returned (.int .i64 0) ∧ LnS w' g 2 (k + 1) y q z r ∧ But g w w' := by
  have hB : Blk w g 98 _ := hL
  have c0 := hB.cell 0
  have c1 := hB.cell 1
  have c2 := hB.cell 2
  have c3 := hB.cell 3
  have c4 := hB.cell 4
  have c5 := hB.cell 5
  have cl := hB.lt
  simp only [List.getElem?_toArray, List.getElem?_cons_zero, List.getElem?_cons_succ] at c0 c1 c2 c3 c4 c5
  have hd : decide ((1 : Int) < (n : Int)) = false := decide_eq_false (by omega)
  have HL := Lib.hid hL
  have HK := Lib.hid hk
  have HK' := Lib.hid hk'
  have HS := Lib.hid hs
  have HG := Lib.hid (Nat.le_of_lt hB.lt)
  clear hL hB hs hk hk' hn
  go_enter Try.func31, Try.ntmps31
  go_wp2_with (first
    | (go_at_call 42; (with_reducible refine (HS.out _ (Below.refl _ _)).mono ?_); rintro e u1 ⟨rfl, b1⟩; have HL1 := Lib.hid (LnS.on HL.out b1))
    | (go_at_call 41; (with_reducible refine (endS_far g k x p y q z r _ HL1.out HK.out HK'.out).mono ?_); rintro e u2 ⟨rfl, hL2, b2⟩))
  go_ret
  exact ⟨rfl, hL2, (But.grow HG.out b1).trans b2⟩
/-- A line by what is here, and what is next. -/
def OnS (w : World) (g : Nat) (h k : Int) (a b : Option ByteArray) : Prop := LnS w g h k (a.getD ByteArray.empty) a.isSome (b.getD ByteArray.empty) b.isSome
theorem OnS.blk {w : World} {g : Nat} {h k : Int} {a b : Option ByteArray} (H : OnS w g h k a b) : ∃ cs, Blk w g 98 cs := ⟨_, H⟩
theorem OnS.on {w w' : World} {g : Nat} {h k : Int} {a b : Option ByteArray} (H : OnS w g h k a b) (hb : Below w.heap.size w w') : OnS w' g h k a b := Blk.on H hb
theorem OnS.al {w : World} {g : Nat} {h k : Int} {a b : Option ByteArray} (H : OnS w g h k a b) (o : Obj) : OnS (w.alloc o) g h k a b := Blk.alloc H o
theorem OnS.lt {w : World} {g : Nat} {h k : Int} {a b : Option ByteArray} (H : OnS w g h k a b) : g < w.heap.size := Blk.lt H
theorem OnS.but {w w' : World} {g g' : Nat} {h k : Int} {a b : Option ByteArray} (H : OnS w g h k a b) (hb : But g' w w') (hg : g ≠ g') : OnS w' g h k a b := hb.blk H hg
/-- The one thing of a list, or none. -/
def OneS (w : World) (A : Option Addr) (n : Nat) : Option ByteArray → Prop
  | none => n = 0
  | some x => n = 1 ∧ ∃ b o, A = some ⟨b, o, none⟩ ∧ b < w.heap.size ∧ w.cell? ⟨b, o, none⟩ = some (.string x)
theorem OneS.le {w : World} {A : Option Addr} {n : Nat} {o : Option ByteArray} (H : OneS w A n o) : (n : Int) ≤ 1 := by
  cases o with
  | none => have : n = 0 := H; omega
  | some x => have := H.1; omega
theorem sentS_is (A : Option Addr) (n c : Nat) (o : Option ByteArray) (w : World) (H : OneS w A n o) (u : World) (hb : Below w.heap.size w u) :
    Calls Try.prog 42 #[.slice A n c] u fun e w' => e = .returned (.agg #[.string (o.getD ByteArray.empty), .bool o.isSome]) ∧ Below u.heap.size u w' := by
  cases o with
  | none =>
    have h0 : n = 0 := H
    subst h0
    exact sentS_none A c u
  | some x =>
    obtain ⟨h1, b, o, rfl, hlt, hc⟩ := H
    subst h1
    exact sentS_one b o c x u ((hb.cell hlt).trans hc) (Nat.lt_of_lt_of_le hlt hb.size)
theorem sendS_is (g : Nat) (h k : Int) (a b o a' b' : Option ByteArray) (A : Option Addr) (n c : Nat) (ha : nowL h b o = a') (hb : nextL h b o = b') (K : Int) (hK : k + 1 = K) (w : World) (hL : OnS w g h k a b) (hh : h = 1 ∨ h = 2) (hk : 0 ≤ k) (hk' : k < 4611686018427387904) (H : OneS w A n o) :
    Calls Try.prog 31 #[.pointer (some ⟨g, 0, none⟩), .slice A n c] w fun e w' => e = .returned (.int .i64 0) ∧ OnS w' g h K a' b' ∧ But g w w' := by
  subst ha hb hK
  rcases hh with rfl | rfl
  · exact sendS_near g k _ _ _ _ A n c w hL hk hk' H.le _ _ (sentS_is A n c o w H)
  · exact sendS_far g k _ _ _ _ A n c w hL hk hk' H.le _ _ (sentS_is A n c o w H)
theorem newS_is (h : Int) (w : World) (hh : h = 1 ∨ h = 2) :
    Calls Try.prog 26 #[.int .i64 h] w fun e w' => e = .returned (.tuple #[.pointer (some ⟨w.heap.size, 0, none⟩), .int .i64 0]) ∧ OnS w' w.heap.size h 0 none none ∧ Below w.heap.size w w' := by
  rcases hh with rfl | rfl
  · exact newS_one w
  · exact newS_two w
theorem hereS_is (g : Nat) (h k : Int) (a b : Option ByteArray) (x : ByteArray) (hx : a.getD ByteArray.empty = x) (p : Bool) (hp : a.isSome = p) (w : World) (hL : OnS w g h k a b) :
    Calls Try.prog 28 #[.pointer (some ⟨g, 0, none⟩)] w fun e w' => e = .returned (.tuple #[.string x, .bool p]) ∧ Below w.heap.size w w' := by
  subst hx hp; exact hereS_any g h k _ _ _ _ w hL
theorem ticksS_is (g : Nat) (h k : Int) (a b : Option ByteArray) (w : World) (hL : OnS w g h k a b) :
    Calls Try.prog 33 #[.pointer (some ⟨g, 0, none⟩)] w fun e w' => e = .returned (.int .i64 k) ∧ Below w.heap.size w w' := ticksS_any g h k _ _ _ _ w hL
/-- What Way answers. -/
def WayS (w w' : World) (A : Option Addr) (n : Nat) : Option ByteArray → Prop
  | none => A = none ∧ n = 0
  | some x => A = some ⟨w.heap.size, 0, none⟩ ∧ n = 1 ∧ Blk w' w.heap.size 9 #[.string x]
theorem wayS_is (g : Nat) (h k : Int) (a b : Option ByteArray) (w : World) (hL : OnS w g h k a b) :
    Calls Try.prog 30 #[.pointer (some ⟨g, 0, none⟩)] w fun e w' => ∃ A n, e = .returned (.slice A n n) ∧ WayS w w' A n b ∧ Below w.heap.size w w' := by
  cases b with
  | none => exact (wayS_none g h k _ _ _ w hL).mono fun e w' ⟨h1, h2⟩ => ⟨none, 0, h1, ⟨rfl, rfl⟩, h2⟩
  | some y => exact (wayS_some g h k _ _ _ w hL).mono fun e w' ⟨h1, h2, h3⟩ => ⟨_, 1, h1, ⟨rfl, rfl, h2⟩, h3⟩
theorem LnL.on {w w' : World} {g : Nat} {h k : Int} {x : (Option Addr × Nat × Nat)} {p : Bool} {y : (Option Addr × Nat × Nat)} {q : Bool} (H : LnL w g h k x p y q) (hb : Below w.heap.size w w') : LnL w' g h k x p y q := Blk.on H hb
theorem sendL_nil (A : Option Addr) (n c : Nat) (w : World) :
    Calls Try.prog 32 #[.pointer none, .slice A n c] w fun e w' => e = .returned (.int .i64 2) ∧ Below w.heap.size w w' := by
  go_enter Try.func32, Try.ntmps32
  go_wp2_with fail
  go_ret
  exact ⟨rfl, Below.refl _ _⟩
theorem sendL_void (g : Nat) (k : Int) (x : (Option Addr × Nat × Nat)) (p : Bool) (y : (Option Addr × Nat × Nat)) (q : Bool) (A : Option Addr) (n c : Nat) (w : World) (hL : LnL w g 0 k x p y q) :
    Calls Try.prog 32 #[.pointer (some ⟨g, 0, none⟩), .slice A n c] w fun e w' => e = .returned (.int .i64 2) ∧ Below w.heap.size w w' := by
  have hB : Blk w g 102 _ := hL
  have c0 := hB.cell 0
  have c1 := hB.cell 1
  have c2 := hB.cell 2
  have c3 := hB.cell 3
  have c4 := hB.cell 4
  have c5 := hB.cell 5
  have cl := hB.lt
  simp only [List.getElem?_toArray, List.getElem?_cons_zero, List.getElem?_cons_succ] at c0 c1 c2 c3 c4 c5
  clear hL hB
  go_enter Try.func32, Try.ntmps32
  go_wp2_with fail
  go_ret
  exact ⟨rfl, Below.refl _ _⟩
theorem sendL_many (g : Nat) (h k : Int) (x : (Option Addr × Nat × Nat)) (p : Bool) (y : (Option Addr × Nat × Nat)) (q : Bool) (A : Option Addr) (n c : Nat) (w : World) (hL : LnL w g h k x p y q) (hh : h = 1 ∨ h = 2) (hn : 1 < n) :
    Calls Try.prog 32 #[.pointer (some ⟨g, 0, none⟩), .slice A n c] w fun e w' => e = .returned (.int .i64 1) ∧ Below w.heap.size w w' := by
  have hB : Blk w g 102 _ := hL
  have c0 := hB.cell 0
  have c1 := hB.cell 1
  have c2 := hB.cell 2
  have c3 := hB.cell 3
  have c4 := hB.cell 4
  have c5 := hB.cell 5
  have cl := hB.lt
  simp only [List.getElem?_toArray, List.getElem?_cons_zero, List.getElem?_cons_succ] at c0 c1 c2 c3 c4 c5
  have h0 : (h == 0) = false := beq_eq_false_iff_ne.2 (by omega)
  have hd : decide ((1 : Int) < (n : Int)) = true := decide_eq_true (by omega)
  clear hL hB hh
  go_enter Try.func32, Try.ntmps32
  go_wp2_with fail
  go_ret
  exact ⟨rfl, Below.refl _ _⟩
theorem sendL_near (g : Nat) (k : Int) (x : (Option Addr × Nat × Nat)) (p : Bool) (y : (Option Addr × Nat × Nat)) (q : Bool) (A : Option Addr) (n c : Nat) (w : World) (hL : LnL w g 1 k x p y q) (hk : 0 ≤ k) (hk' : k < 4611686018427387904) (hn : (n : Int) ≤ 1)
    (z : (Option Addr × Nat × Nat)) (r : Bool) (hs : ∀ u, Below w.heap.size w u → Calls Try.prog 44 #[.slice A n c] u fun e w' => e = .returned (.agg #[.slice z.1 z.2.1 z.2.2, .bool r]) ∧ Below u.heap.size u w') :
    Calls Try.prog 32 #[.pointer (some ⟨g, 0, none⟩), .slice A n c] w fun e w' => e = .returned (.int .i64 0) ∧ LnL w' g 1 (k + 1) z r y q ∧ But g w w' := by
  have hB : Blk w g 102 _ := hL
  have c0 := hB.cell 0
  have c1 := hB.cell 1
  have c2 := hB.cell 2
  have c3 := hB.cell 3
  have c4 := hB.cell 4
  have c5 := hB.cell 5
  have cl := hB.lt
  simp only [List.getElem?_toArray, List.getElem?_cons_zero, List.getElem?_cons_succ] at c0 c1 c2 c3 c4 c5
  have hd : decide ((1 : Int) < (n : Int)) = false := decide_eq_false (by omega)
  have HL := Lib.hid hL
  have HK := Lib.hid hk
  have HK' := Lib.hid hk'
  have HS := Lib.hid hs
  have HG := Lib.hid (Nat.le_of_lt hB.lt)
  clear hL hB hs hk hk' hn
  go_enter Try.func32, Try.ntmps32
  go_wp2_with (first
    | (go_at_call 44; (with_reducible refine (HS.out _ (Below.refl _ _)).mono ?_); rintro e u1 ⟨rfl, b1⟩; have HL1 := Lib.hid (LnL.on HL.out b1))
    | (go_at_call 43; (with_reducible refine (endL_near g k x p y q z r _ HL1.out HK.out HK'.out).mono ?_); rintro e u2 ⟨rfl, hL2, b2⟩))
  go_ret
  exact ⟨rfl, hL2, (But.grow HG.out b1).trans b2⟩
theorem sendL_far (g : Nat) (k : Int) (x : (Option Addr × Nat × Nat)) (p : Bool) (y : (Option Addr × Nat × Nat)) (q : Bool) (A : Option Addr) (n c : Nat) (w : World) (hL : LnL w g 2 k x p y q) (hk : 0 ≤ k) (hk' : k < 4611686018427387904) (hn : (n : Int) ≤ 1)
    (z : (Option Addr × Nat × Nat)) (r : Bool) (hs : ∀ u, Below w.heap.size w u → Calls Try.prog 44 #[.slice A n c] u fun e w' => e = .returned (.agg #[.slice z.1 z.2.1 z.2.2, .bool r]) ∧ Below u.heap.size u w') :
    Calls Try.prog 32 #[.pointer (some ⟨g, 0, none⟩), .slice A n c] w fun e w' => e = .returned (.int .i64 0) ∧ LnL w' g 2 (k + 1) y q z r ∧ But g w w' := by
  have hB : Blk w g 102 _ := hL
  have c0 := hB.cell 0
  have c1 := hB.cell 1
  have c2 := hB.cell 2
  have c3 := hB.cell 3
  have c4 := hB.cell 4
  have c5 := hB.cell 5
  have cl := hB.lt
  simp only [List.getElem?_toArray, List.getElem?_cons_zero, List.getElem?_cons_succ] at c0 c1 c2 c3 c4 c5
  have hd : decide ((1 : Int) < (n : Int)) = false := decide_eq_false (by omega)
  have HL := Lib.hid hL
  have HK := Lib.hid hk
  have HK' := Lib.hid hk'
  have HS := Lib.hid hs
  have HG := Lib.hid (Nat.le_of_lt hB.lt)
  clear hL hB hs hk hk' hn
  go_enter Try.func32, Try.ntmps32
  go_wp2_with (first
    | (go_at_call 44; (with_reducible refine (HS.out _ (Below.refl _ _)).mono ?_); rintro e u1 ⟨rfl, b1⟩; have HL1 := Lib.hid (LnL.on HL.out b1))
    | (go_at_call 43; (with_reducible refine (endL_far g k x p y q z r _ HL1.out HK.out HK'.out).mono ?_); rintro e u2 ⟨rfl, hL2, b2⟩))
  go_ret
  exact ⟨rfl, hL2, (But.grow HG.out b1).trans b2⟩
/-- A line by what is here, and what is next. -/
def OnL (w : World) (g : Nat) (h k : Int) (a b : Option (Option Addr × Nat × Nat)) : Prop := LnL w g h k (a.getD (none, 0, 0)) a.isSome (b.getD (none, 0, 0)) b.isSome
theorem OnL.blk {w : World} {g : Nat} {h k : Int} {a b : Option (Option Addr × Nat × Nat)} (H : OnL w g h k a b) : ∃ cs, Blk w g 102 cs := ⟨_, H⟩
theorem OnL.on {w w' : World} {g : Nat} {h k : Int} {a b : Option (Option Addr × Nat × Nat)} (H : OnL w g h k a b) (hb : Below w.heap.size w w') : OnL w' g h k a b := Blk.on H hb
theorem OnL.al {w : World} {g : Nat} {h k : Int} {a b : Option (Option Addr × Nat × Nat)} (H : OnL w g h k a b) (o : Obj) : OnL (w.alloc o) g h k a b := Blk.alloc H o
theorem OnL.lt {w : World} {g : Nat} {h k : Int} {a b : Option (Option Addr × Nat × Nat)} (H : OnL w g h k a b) : g < w.heap.size := Blk.lt H
theorem OnL.but {w w' : World} {g g' : Nat} {h k : Int} {a b : Option (Option Addr × Nat × Nat)} (H : OnL w g h k a b) (hb : But g' w w') (hg : g ≠ g') : OnL w' g h k a b := hb.blk H hg
/-- The one thing of a list, or none. -/
def OneL (w : World) (A : Option Addr) (n : Nat) : Option (Option Addr × Nat × Nat) → Prop
  | none => n = 0
  | some x => n = 1 ∧ ∃ b o, A = some ⟨b, o, none⟩ ∧ b < w.heap.size ∧ w.cell? ⟨b, o, none⟩ = some (.slice x.1 x.2.1 x.2.2)
theorem OneL.le {w : World} {A : Option Addr} {n : Nat} {o : Option (Option Addr × Nat × Nat)} (H : OneL w A n o) : (n : Int) ≤ 1 := by
  cases o with
  | none => have : n = 0 := H; omega
  | some x => have := H.1; omega
theorem sentL_is (A : Option Addr) (n c : Nat) (o : Option (Option Addr × Nat × Nat)) (w : World) (H : OneL w A n o) (u : World) (hb : Below w.heap.size w u) :
    Calls Try.prog 44 #[.slice A n c] u fun e w' => e = .returned (.agg #[.slice (o.getD (none, 0, 0)).1 (o.getD (none, 0, 0)).2.1 (o.getD (none, 0, 0)).2.2, .bool o.isSome]) ∧ Below u.heap.size u w' := by
  cases o with
  | none =>
    have h0 : n = 0 := H
    subst h0
    exact sentL_none A c u
  | some x =>
    obtain ⟨h1, b, o, rfl, hlt, hc⟩ := H
    subst h1
    exact sentL_one b o c x u ((hb.cell hlt).trans hc) (Nat.lt_of_lt_of_le hlt hb.size)
theorem sendL_is (g : Nat) (h k : Int) (a b o a' b' : Option (Option Addr × Nat × Nat)) (A : Option Addr) (n c : Nat) (ha : nowL h b o = a') (hb : nextL h b o = b') (K : Int) (hK : k + 1 = K) (w : World) (hL : OnL w g h k a b) (hh : h = 1 ∨ h = 2) (hk : 0 ≤ k) (hk' : k < 4611686018427387904) (H : OneL w A n o) :
    Calls Try.prog 32 #[.pointer (some ⟨g, 0, none⟩), .slice A n c] w fun e w' => e = .returned (.int .i64 0) ∧ OnL w' g h K a' b' ∧ But g w w' := by
  subst ha hb hK
  rcases hh with rfl | rfl
  · exact sendL_near g k _ _ _ _ A n c w hL hk hk' H.le _ _ (sentL_is A n c o w H)
  · exact sendL_far g k _ _ _ _ A n c w hL hk hk' H.le _ _ (sentL_is A n c o w H)
theorem newL_is (h : Int) (w : World) (hh : h = 1 ∨ h = 2) :
    Calls Try.prog 27 #[.int .i64 h] w fun e w' => e = .returned (.tuple #[.pointer (some ⟨w.heap.size, 0, none⟩), .int .i64 0]) ∧ OnL w' w.heap.size h 0 none none ∧ Below w.heap.size w w' := by
  rcases hh with rfl | rfl
  · exact newL_one w
  · exact newL_two w
theorem hereL_is (g : Nat) (h k : Int) (a b : Option (Option Addr × Nat × Nat)) (x : (Option Addr × Nat × Nat)) (hx : a.getD (none, 0, 0) = x) (p : Bool) (hp : a.isSome = p) (w : World) (hL : OnL w g h k a b) :
    Calls Try.prog 29 #[.pointer (some ⟨g, 0, none⟩)] w fun e w' => e = .returned (.tuple #[.slice x.1 x.2.1 x.2.2, .bool p]) ∧ Below w.heap.size w w' := by
  subst hx hp; exact hereL_any g h k _ _ _ _ w hL
/-- What Way answers. -/
def WayL (w w' : World) (A : Option Addr) (n : Nat) : Option (Option Addr × Nat × Nat) → Prop
  | none => A = none ∧ n = 0
  | some x => A = some ⟨w.heap.size, 0, none⟩ ∧ n = 1 ∧ Blk w' w.heap.size 64 #[.slice x.1 x.2.1 x.2.2]
end Go.Proofs.Ytlbpplibngdncaa
