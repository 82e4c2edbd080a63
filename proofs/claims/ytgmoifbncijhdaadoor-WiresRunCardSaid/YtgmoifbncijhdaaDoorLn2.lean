/-
  The contracts of package lines, with a line as its hop, its ticks, what is here (or nothing) and what is next (or nothing). Conditions: the line's reading; ticks are fewer than 2^62; of a list that is sent: the reading of its one thing.
-/
import Derived.Test.YtgmoifbncijhdaaDoorLn1
namespace Go.Proofs.YtgmoifbncijhdaaDoor
open Go.RowKit
set_option linter.unusedVariables false

/-- What is here, and what is next, behind a tick's end. -/
def nowL {α : Type} (h : Int) (b o : Option α) : Option α := if h = 1 then o else b
def nextL {α : Type} (h : Int) (b o : Option α) : Option α := if h = 1 then b else o
theorem LnI.on {w w' : World} {g : Nat} {h k : Int} {x : Int} {p : Bool} {y : Int} {q : Bool} (H : LnI w g h k x p y q) (hb : Below w.heap.size w w') : LnI w' g h k x p y q := Blk.on H hb
theorem sendI_nil (A : Option Addr) (n c : Nat) (w : World) :
    Calls Tryd.prog 29 #[.pointer none, .slice A n c] w fun e w' => e = .returned (.int .i64 2) ∧ Below w.heap.size w w' := by
  go_enter Tryd.func29, Tryd.ntmps29
  go_wp2_with fail
  go_ret
  exact ⟨rfl, Below.refl _ _⟩
theorem sendI_void (g : Nat) (k : Int) (x : Int) (p : Bool) (y : Int) (q : Bool) (A : Option Addr) (n c : Nat) (w : World) (hL : LnI w g 0 k x p y q) :
    Calls Tryd.prog 29 #[.pointer (some ⟨g, 0, none⟩), .slice A n c] w fun e w' => e = .returned (.int .i64 2) ∧ Below w.heap.size w w' := by
  have hB : Blk w g 85 _ := hL
  have c0 := hB.cell 0
  have c1 := hB.cell 1
  have c2 := hB.cell 2
  have c3 := hB.cell 3
  have c4 := hB.cell 4
  have c5 := hB.cell 5
  have cl := hB.lt
  simp only [List.getElem?_toArray, List.getElem?_cons_zero, List.getElem?_cons_succ] at c0 c1 c2 c3 c4 c5
  clear hL hB
  go_enter Tryd.func29, Tryd.ntmps29
  go_wp2_with fail
  go_ret
  exact ⟨rfl, Below.refl _ _⟩
theorem sendI_many (g : Nat) (h k : Int) (x : Int) (p : Bool) (y : Int) (q : Bool) (A : Option Addr) (n c : Nat) (w : World) (hL : LnI w g h k x p y q) (hh : h = 1 ∨ h = 2) (hn : 1 < n) :
    Calls Tryd.prog 29 #[.pointer (some ⟨g, 0, none⟩), .slice A n c] w fun e w' => e = .returned (.int .i64 1) ∧ Below w.heap.size w w' := by
  have hB : Blk w g 85 _ := hL
  have c0 := hB.cell 0
  have c1 := hB.cell 1
  have c2 := hB.cell 2
  have c3 := hB.cell 3
  have c4 := hB.cell 4
  have c5 := hB.cell 5
  have cl := hB.lt
  simp only [List.getElem?_toArray, List.getElem?_cons_zero, List.getElem?_cons_succ] at c0 c1 c2 c3 c4 c5
  have h0 : (h == 0) = false := beq_eq_false_iff_ne.2 (by omega)
  have hd : decide ((1 : Int) < (n : Int)) = true := decide_eq_true (by omega)
  clear hL hB hh
  go_enter Tryd.func29, Tryd.ntmps29
  go_wp2_with fail
  go_ret
  exact ⟨rfl, Below.refl _ _⟩
theorem sendI_near (g : Nat) (k : Int) (x : Int) (p : Bool) (y : Int) (q : Bool) (A : Option Addr) (n c : Nat) (w : World) (hL : LnI w g 1 k x p y q) (hk : 0 ≤ k) (hk' : k < 4611686018427387904) (hn : (n : Int) ≤ 1)
    (z : Int) (r : Bool) (hs : ∀ u, Below w.heap.size w u → Calls Tryd.prog 40 #[.slice A n c] u fun e w' => e = .returned (.agg #[.int .i64 z, .bool r]) ∧ Below u.heap.size u w') :
    Calls Tryd.prog 29 #[.pointer (some ⟨g, 0, none⟩), .slice A n c] w fun e w' => e = .returned (.int .i64 0) ∧ LnI w' g 1 (k + 1) z r y q ∧ But g w w' := by
  have hB : Blk w g 85 _ := hL
  have c0 := hB.cell 0
  have c1 := hB.cell 1
  have c2 := hB.cell 2
  have c3 := hB.cell 3
  have c4 := hB.cell 4
  have c5 := hB.cell 5
  have cl := hB.lt
  simp only [List.getElem?_toArray, List.getElem?_cons_zero, List.getElem?_cons_succ] at c0 c1 c2 c3 c4 c5
  have hd : decide ((1 : Int) < (n : Int)) = false := decide_eq_false (by omega)
  have HL := Lib.hid hL
  have HK := Lib.hid hk
  have HK' := Lib.hid hk'
  have HS := Lib.hid hs
  have HG := Lib.hid (Nat.le_of_lt hB.lt)
  clear hL hB hs hk hk' hn
  go_enter Tryd.func29, Tryd.ntmps29
  go_wp2_with (first
    | (go_at_call 40; (with_reducible refine (HS.out _ (Below.refl _ _)).mono ?_); rintro e u1 ⟨rfl, b1⟩; have HL1 := Lib.hid (LnI.on HL.out b1))
    | (go_at_call 39; (with_reducible refine (endI_near g k x p y q z r _ HL1.out HK.out HK'.out).mono ?_); rintro e u2 ⟨rfl, hL2, b2⟩))
  go_ret
  exact ⟨rfl, hL2, (But.grow HG.out b1).trans b2⟩
theorem sendI_far (g : Nat) (k : Int) (x : Int) (p : Bool) (y : Int) (q : Bool) (A : Option Addr) (n c : Nat) (w : World) (hL : LnI w g 2 k x p y q) (hk : 0 ≤ k) (hk' : k < 4611686018427387904) (hn : (n : Int) ≤ 1)
    (z : Int) (r : Bool) (hs : ∀ u, Below w.heap.size w u → Calls Tryd.prog 40 #[.slice A n c] u fun e w' => e = .returned (.agg #[.int .i64 z, .bool r]) ∧ Below u.heap.size u w') :
    Calls Tryd.prog 29 #[.pointer (some ⟨g, 0, none⟩), .slice A n c] w fun e w' => e = .returned (.int .i64 0) ∧ LnI w' g 2 (k + 1) y q z r ∧ But g w w' := by
  have hB : Blk w g 85 _ := hL
  have c0 := hB.cell 0
  have c1 := hB.cell 1
  have c2 := hB.cell 2
  have c3 := hB.cell 3
  have c4 := hB.cell 4
  have c5 := hB.cell 5
  have cl := hB.lt
  simp only [List.getElem?_toArray, List.getElem?_cons_zero, List.getElem?_cons_succ] at c0 c1 c2 c3 c4 c5
  have hd : decide ((1 : Int) < (n : Int)) = false := decide_eq_false (by omega)
  have HL := Lib.hid hL
  have HK := Lib.hid hk
  have HK' := Lib.hid hk'
  have HS := Lib.hid hs
  have HG := Lib.hid (Nat.le_of_lt hB.lt)
  clear hL hB hs hk hk' hn
  go_enter Tryd.func29, Tryd.ntmps29
  go_wp2_with (first
    | (go_at_call 40; (with_reducible refine (HS.out _ (Below.refl _ _)).mono ?_); rintro e u1 ⟨rfl, b1⟩; have HL1 := Lib.hid (LnI.on HL.out b1))
    | (go_at_call 39; (with_reducible refine (endI_far g k x p y q z r _ HL1.out HK.out HK'.out).mono ?_); rintro e u2 ⟨rfl, hL2, b2⟩))
  go_ret
  exact ⟨rfl, hL2, (But.grow HG.out b1).trans b2⟩
/-- A line by what is here, and what is next. -/
def OnI (w : World) (g : Nat) (h k : Int) (a b : Option Int) : Prop := LnI w g h k (a.getD 0) a.isSome (b.getD 0) b.isSome
theorem OnI.blk {w : World} {g : Nat} {h k : Int} {a b : Option Int} (H : OnI w g h k a b) : ∃ cs, Blk w g 85 cs := ⟨_, H⟩
theorem OnI.on {w w' : World} {g : Nat} {h k : Int} {a b : Option Int} (H : OnI w g h k a b) (hb : Below w.heap.size w w') : OnI w' g h k a b := Blk.on H hb
theorem OnI.al {w : World} {g : Nat} {h k : Int} {a b : Option Int} (H : OnI w g h k a b) (o : Obj) : OnI (w.alloc o) g h k a b := Blk.alloc H o
theorem OnI.lt {w : World} {g : Nat} {h k : Int} {a b : Option Int} (H : OnI w g h k a b) : g < w.heap.size := Blk.lt H
theorem OnI.but {w w' : World} {g g' : Nat} {h k : Int} {a b : Option Int} (H : OnI w g h k a b) (hb : But g' w w') (hg : g ≠ g') : OnI w' g h k a b := hb.blk H hg
/-- The one thing of a list, or none. -/
def OneI (w : World) (A : Option Addr) (n : Nat) : Option Int → Prop
  | none => n = 0
  | some x => n = 1 ∧ ∃ b o, A = some ⟨b, o, none⟩ ∧ b < w.heap.size ∧ w.cell? ⟨b, o, none⟩ = some (.int .i64 x)
theorem OneI.le {w : World} {A : Option Addr} {n : Nat} {o : Option Int} (H : OneI w A n o) : (n : Int) ≤ 1 := by
  cases o with
  | none => have : n = 0 := H; omega
  | some x => have := H.1; omega
theorem sentI_is (A : Option Addr) (n c : Nat) (o : Option Int) (w : World) (H : OneI w A n o) (u : World) (hb : Below w.heap.size w u) :
    Calls Tryd.prog 40 #[.slice A n c] u fun e w' => e = .returned (.agg #[.int .i64 (o.getD 0), .bool o.isSome]) ∧ Below u.heap.size u w' := by
  cases o with
  | none =>
    have h0 : n = 0 := H
    subst h0
    exact sentI_none A c u
  | some x =>
    obtain ⟨h1, b, o, rfl, hlt, hc⟩ := H
    subst h1
    exact sentI_one b o c x u ((hb.cell hlt).trans hc) (Nat.lt_of_lt_of_le hlt hb.size)
theorem sendI_is (g : Nat) (h k : Int) (a b o a' b' : Option Int) (A : Option Addr) (n c : Nat) (ha : nowL h b o = a') (hb : nextL h b o = b') (K : Int) (hK : k + 1 = K) (w : World) (hL : OnI w g h k a b) (hh : h = 1 ∨ h = 2) (hk : 0 ≤ k) (hk' : k < 4611686018427387904) (H : OneI w A n o) :
    Calls Tryd.prog 29 #[.pointer (some ⟨g, 0, none⟩), .slice A n c] w fun e w' => e = .returned (.int .i64 0) ∧ OnI w' g h K a' b' ∧ But g w w' := by
  subst ha hb hK
  rcases hh with rfl | rfl
  · exact sendI_near g k _ _ _ _ A n c w hL hk hk' H.le _ _ (sentI_is A n c o w H)
  · exact sendI_far g k _ _ _ _ A n c w hL hk hk' H.le _ _ (sentI_is A n c o w H)
theorem newI_is (h : Int) (w : World) (hh : h = 1 ∨ h = 2) :
    Calls Tryd.prog 38 #[.int .i64 h] w fun e w' => e = .returned (.tuple #[.pointer (some ⟨w.heap.size, 0, none⟩), .int .i64 0]) ∧ OnI w' w.heap.size h 0 none none ∧ Below w.heap.size w w' := by
  rcases hh with rfl | rfl
  · exact newI_one w
  · exact newI_two w
theorem hereI_is (g : Nat) (h k : Int) (a b : Option Int) (x : Int) (hx : a.getD 0 = x) (p : Bool) (hp : a.isSome = p) (w : World) (hL : OnI w g h k a b) :
    Calls Tryd.prog 30 #[.pointer (some ⟨g, 0, none⟩)] w fun e w' => e = .returned (.tuple #[.int .i64 x, .bool p]) ∧ Below w.heap.size w w' := by
  subst hx hp; exact hereI_any g h k _ _ _ _ w hL
theorem ticksI_is (g : Nat) (h k : Int) (a b : Option Int) (w : World) (hL : OnI w g h k a b) :
    Calls Tryd.prog 34 #[.pointer (some ⟨g, 0, none⟩)] w fun e w' => e = .returned (.int .i64 k) ∧ Below w.heap.size w w' := ticksI_any g h k _ _ _ _ w hL
/-- What Way answers. -/
def WayI (w w' : World) (A : Option Addr) (n : Nat) : Option Int → Prop
  | none => A = none ∧ n = 0
  | some x => A = some ⟨w.heap.size, 0, none⟩ ∧ n = 1 ∧ Blk w' w.heap.size 3 #[.int .i64 x]
end Go.Proofs.YtgmoifbncijhdaaDoor
