/-
  The mathematics of wires: what is here and next, tick by tick, of what all links were given in one tick; which link leads where. No condition but those that are named; nothing of the program is named here.
-/
import Derived.Test.YtkejpkcaojidaaaGreatDoorRg3
import Derived.Test.YtkejpkcaojidaaaGreatDoorTwin
import Derived.Test.YtkejpkcaojidaaaGreatDoorReg3
import Derived.Test.YtkejpkcaojidaaaGreatDoorKinds
import Derived.Deep.QuietTactic
import Derived.Maps.Keyed
import Derived.Carry
import Derived.WalkArith
import Derived.Laws.CopyRow
import Derived.Laws.MakeOwn
import Derived.Deep.RegionLaw
namespace Go.Proofs.YtkejpkcaojidaaaGreatDoor
set_option linter.unusedVariables false
set_option linter.unusedSimpArgs false
open Go.RowKit Rg

end Go.Proofs.YtkejpkcaojidaaaGreatDoor

namespace Go.Proofs.YtkejpkcaojidaaaGreatDoor
open Go.RowKit Rg

theorem ends_is (n l p q r s : Int) (hp : endFrom n l = p) (hq : endTo n l = q) (hr : endDir n l = r) (hs : endHop n l = s) (w : World) (hw : Ways w) (hl : -9223372036854775808 ≤ l) (hl' : l ≤ 9223372036854775807) :
    Calls Tryz.prog 109 #[.int .i64 n, .int .i64 l] w fun e w' => e = .returned (.tuple #[.int .i64 p, .int .i64 q, .int .u8 r, .int .i64 s]) ∧ Below w.heap.size w w' := by
  subst hp hq hr hs; exact ends_any n l w hw hl hl'
theorem source_is (n d x h p : Int) (hp : sourceM n d x h = p) (w : World) (hw : Ways w) (hd : 0 ≤ d) (hd' : d ≤ 255) :
    Calls Tryz.prog 86 #[.int .i64 n, .int .u8 d, .int .i64 x, .int .i64 h] w fun e w' => e = .returned (.int .i64 p) ∧ Below w.heap.size w w' := by
  subst hp; exact source_any n d x h w hw hd hd'
theorem link_is (n d x h p : Int) (hp : linkM n d x h = p) (w : World) (hd : 0 ≤ d) (hd' : d ≤ 255) :
    Calls Tryz.prog 47 #[.int .i64 n, .int .u8 d, .int .i64 x, .int .i64 h] w fun e w' => e = .returned (.int .i64 p) ∧ Below w.heap.size w w' := by
  subst hp; exact link_any n d x h w hd hd'
end Go.Proofs.YtkejpkcaojidaaaGreatDoor

namespace Go.Proofs.YtkejpkcaojidaaaGreatDoor
open Go.RowKit
set_option linter.unusedVariables false

/-- A line of sennit/api.Sym, as it lies in its block. -/
def LnY (w : World) (g : Nat) (h k : Int) (x : Int) (p : Bool) (y : Int) (q : Bool) : Prop := Blk w g 220 #[.int .i64 h, .int .i64 k, .int .u8 x, .bool p, .int .u8 y, .bool q]
theorem newY_no (h : Int) (w : World) (h1 : h ≠ 1) (h2 : h ≠ 2) :
    Calls Tryz.prog 110 #[.int .i64 h] w fun e w' => e = .returned (.tuple #[.pointer none, .int .i64 1]) ∧ Below w.heap.size w w' := by
  have q1 : (h != 1) = true := bne_iff_ne.2 h1
  have q2 : (h != 2) = true := bne_iff_ne.2 h2
  go_enter Tryz.func110, Tryz.ntmps110
  go_wp2_with fail
  go_ret2
  exact ⟨rfl, Below.refl _ _⟩
theorem newY_one (w : World) :
    Calls Tryz.prog 110 #[.int .i64 1] w fun e w' => e = .returned (.tuple #[.pointer (some ⟨w.heap.size, 0, none⟩), .int .i64 0]) ∧ Blk w' w.heap.size 220 #[.int .i64 1, .int .i64 0, .int .u8 0, .bool false, .int .u8 0, .bool false] ∧ Below w.heap.size w w' := by
  go_enter Tryz.func110, Tryz.ntmps110
  go_wp2_with fail
  go_ret2
  exact ⟨rfl, Blk.new _ _ _, below_al (Below.refl _ _) _⟩
theorem newY_two (w : World) :
    Calls Tryz.prog 110 #[.int .i64 2] w fun e w' => e = .returned (.tuple #[.pointer (some ⟨w.heap.size, 0, none⟩), .int .i64 0]) ∧ Blk w' w.heap.size 220 #[.int .i64 2, .int .i64 0, .int .u8 0, .bool false, .int .u8 0, .bool false] ∧ Below w.heap.size w w' := by
  go_enter Tryz.func110, Tryz.ntmps110
  go_wp2_with fail
  go_ret2
  exact ⟨rfl, Blk.new _ _ _, below_al (Below.refl _ _) _⟩
theorem hereY_nil (w : World) :
    Calls Tryz.prog 87 #[.pointer none] w fun e w' => e = .returned (.tuple #[.int .u8 0, .bool false]) ∧ Below w.heap.size w w' := by
  go_enter Tryz.func87, Tryz.ntmps87
  go_wp2_with fail
  go_ret2
  exact ⟨rfl, Below.refl _ _⟩
theorem hereY_any (g : Nat) (h k : Int) (x : Int) (p : Bool) (y : Int) (q : Bool) (w : World) (hL : LnY w g h k x p y q) :
    Calls Tryz.prog 87 #[.pointer (some ⟨g, 0, none⟩)] w fun e w' => e = .returned (.tuple #[.int .u8 x, .bool p]) ∧ Below w.heap.size w w' := by
  have hB : Blk w g 220 _ := hL
  have c0 := hB.cell 0
  have c1 := hB.cell 1
  have c2 := hB.cell 2
  have c3 := hB.cell 3
  have c4 := hB.cell 4
  have c5 := hB.cell 5
  have cl := hB.lt
  simp only [List.getElem?_toArray, List.getElem?_cons_zero, List.getElem?_cons_succ] at c0 c1 c2 c3 c4 c5
  clear hL hB
  go_enter Tryz.func87, Tryz.ntmps87
  go_wp2_with fail
  go_region
  all_goals (go_wp2_with fail)
  all_goals (go_ret2; exact ⟨rfl, by first | exact Below.refl _ _ | exact (Below.refl _ _).drew⟩)
theorem sentY_none (A : Option Addr) (c : Nat) (w : World) :
    Calls Tryz.prog 113 #[.slice A 0 c] w fun e w' => e = .returned (.agg #[.int .u8 0, .bool false]) ∧ Below w.heap.size w w' := by
  go_enter Tryz.func113, Tryz.ntmps113
  go_wp2_with fail
  refine bodyPost_ret (v := .agg #[.int .u8 0, .bool false]) (by simp [results, Tryz.results113, go_sem] <;> rfl) rfl ⟨rfl, ?_⟩
  first | exact below_al (Below.refl _ _) _ | exact (Below.refl _ _).alloc (Nat.le_refl _) _
theorem sentY_one (b o c : Nat) (x : Int) (w : World) (hx : w.cell? ⟨b, o, none⟩ = some (.int .u8 x)) (hb : b < w.heap.size) :
    Calls Tryz.prog 113 #[.slice (some ⟨b, o, none⟩) 1 c] w fun e w' => e = .returned (.agg #[.int .u8 x, .bool true]) ∧ Below w.heap.size w w' := by
  go_enter Tryz.func113, Tryz.ntmps113
  go_wp2_with fail
  refine bodyPost_ret (v := .agg #[.int .u8 x, .bool true]) (by simp [results, Tryz.results113, go_sem] <;> rfl) rfl ⟨rfl, ?_⟩
  first | exact below_al (Below.refl _ _) _ | exact (Below.refl _ _).alloc (Nat.le_refl _) _
theorem endY_near (g : Nat) (k : Int) (x : Int) (p : Bool) (y : Int) (q : Bool) (z : Int) (r : Bool) (w : World) (hL : LnY w g 1 k x p y q) (hk : 0 ≤ k) (hk' : k < 4611686018427387904) :
    Calls Tryz.prog 112 #[.pointer (some ⟨g, 0, none⟩), .agg #[.int .u8 z, .bool r]] w fun e w' => e = .returned (.tuple #[]) ∧ LnY w' g 1 (k + 1) z r y q ∧ But g w w' := by
  have hB : Blk w g 220 _ := hL
  have hA := hB.alloc (.cells #[.int .u8 z, .bool r] 218)
  have hN := Blk.new w 218 #[.int .u8 z, .bool r]
  have hg := hB.lt
  have hne : g ≠ w.heap.size := Nat.ne_of_lt hg
  have hw : IntKind.i64.wrap (k + 1) = k + 1 := IntWalk.i64_in _ (by omega)
  have c0 := hB.cell 0
  have c1 := hB.cell 1
  have c2 := hB.cell 2
  have c3 := hB.cell 3
  have c4 := hB.cell 4
  have c5 := hB.cell 5
  have cl := hB.lt
  simp only [List.getElem?_toArray, List.getElem?_cons_zero, List.getElem?_cons_succ] at c0 c1 c2 c3 c4 c5
  have f0 := hB.frozen 0
  have f1 := hB.frozen 1
  have f2 := hB.frozen 2
  have f3 := hB.frozen 3
  have f4 := hB.frozen 4
  have f5 := hB.frozen 5
  clear hk hk' hL
  go_enter Tryz.func112, Tryz.ntmps112
  go_wp2_with fail
  go_end0
  refine ⟨rfl, ?_, ?_⟩
  · exact ((((hB.set_ 2 _).set_ 3 _).set_ 1 _).alloc _)
  · exact But.al hg (((But.one 2 _).set 3 _).set 1 _) _
theorem endY_far (g : Nat) (k : Int) (x : Int) (p : Bool) (y : Int) (q : Bool) (z : Int) (r : Bool) (w : World) (hL : LnY w g 2 k x p y q) (hk : 0 ≤ k) (hk' : k < 4611686018427387904) :
    Calls Tryz.prog 112 #[.pointer (some ⟨g, 0, none⟩), .agg #[.int .u8 z, .bool r]] w fun e w' => e = .returned (.tuple #[]) ∧ LnY w' g 2 (k + 1) y q z r ∧ But g w w' := by
  have hB : Blk w g 220 _ := hL
  have hA := hB.alloc (.cells #[.int .u8 z, .bool r] 218)
  have hN := Blk.new w 218 #[.int .u8 z, .bool r]
  have hg := hB.lt
  have hne : g ≠ w.heap.size := Nat.ne_of_lt hg
  have hw : IntKind.i64.wrap (k + 1) = k + 1 := IntWalk.i64_in _ (by omega)
  have c0 := hB.cell 0
  have c1 := hB.cell 1
  have c2 := hB.cell 2
  have c3 := hB.cell 3
  have c4 := hB.cell 4
  have c5 := hB.cell 5
  have cl := hB.lt
  simp only [List.getElem?_toArray, List.getElem?_cons_zero, List.getElem?_cons_succ] at c0 c1 c2 c3 c4 c5
  have f0 := hB.frozen 0
  have f1 := hB.frozen 1
  have f2 := hB.frozen 2
  have f3 := hB.frozen 3
  have f4 := hB.frozen 4
  have f5 := hB.frozen 5
  clear hk hk' hL
  go_enter Tryz.func112, Tryz.ntmps112
  go_wp2_with fail
  go_region
  all_goals (go_wp2_with fail)
  all_goals go_end0
  all_goals refine ⟨rfl, ?_, ?_⟩
  · exact (((((hB.set_ 2 _).set_ 3 _).set_ 4 _).set_ 5 _).set_ 1 _).alloc _
  · exact (But.al hg (((((But.one 2 _).set 3 _).set 4 _).set 5 _).set 1 _) _).drew
end Go.Proofs.YtkejpkcaojidaaaGreatDoor

namespace Go.Proofs.YtkejpkcaojidaaaGreatDoor
open Go.RowKit
set_option linter.unusedVariables false

/-- What is here, and what is next, behind a tick's end. -/
def nowL {α : Type} (h : Int) (b o : Option α) : Option α := if h = 1 then o else b
def nextL {α : Type} (h : Int) (b o : Option α) : Option α := if h = 1 then b else o
theorem LnY.on {w w' : World} {g : Nat} {h k : Int} {x : Int} {p : Bool} {y : Int} {q : Bool} (H : LnY w g h k x p y q) (hb : Below w.heap.size w w') : LnY w' g h k x p y q := Blk.on H hb
theorem sendY_near (g : Nat) (k : Int) (x : Int) (p : Bool) (y : Int) (q : Bool) (A : Option Addr) (n c : Nat) (w : World) (hL : LnY w g 1 k x p y q) (hk : 0 ≤ k) (hk' : k < 4611686018427387904) (hn : (n : Int) ≤ 1)
    (z : Int) (r : Bool) (hs : ∀ u, Below w.heap.size w u → Calls Tryz.prog 113 #[.slice A n c] u fun e w' => e = .returned (.agg #[.int .u8 z, .bool r]) ∧ Below u.heap.size u w') :
    Calls Tryz.prog 91 #[.pointer (some ⟨g, 0, none⟩), .slice A n c] w fun e w' => e = .returned (.int .i64 0) ∧ LnY w' g 1 (k + 1) z r y q ∧ But g w w' := by
  have hB : Blk w g 220 _ := hL
  have c0 := hB.cell 0
  have c1 := hB.cell 1
  have c2 := hB.cell 2
  have c3 := hB.cell 3
  have c4 := hB.cell 4
  have c5 := hB.cell 5
  have cl := hB.lt
  simp only [List.getElem?_toArray, List.getElem?_cons_zero, List.getElem?_cons_succ] at c0 c1 c2 c3 c4 c5
  have hd : decide ((1 : Int) < (n : Int)) = false := decide_eq_false (by omega)
  have HL := Lib.hid hL
  have HK := Lib.hid hk
  have HK' := Lib.hid hk'
  have HS := Lib.hid hs
  have HG := Lib.hid (Nat.le_of_lt hB.lt)
  clear hL hB hs hk hk' hn
  go_enter Tryz.func91, Tryz.ntmps91
  go_wp2_with (first
    | (go_at_call 113; (with_reducible refine (HS.out _ (Below.refl _ _)).mono ?_); rintro e u1 ⟨rfl, b1⟩; have HL1 := Lib.hid (LnY.on HL.out b1))
    | (go_at_call 112; (with_reducible refine (endY_near g k x p y q z r _ HL1.out HK.out HK'.out).mono ?_); rintro e u2 ⟨rfl, hL2, b2⟩))
  go_ret
  exact ⟨rfl, hL2, (But.grow HG.out b1).trans b2⟩
theorem sendY_far (g : Nat) (k : Int) (x : Int) (p : Bool) (y : Int) (q : Bool) (A : Option Addr) (n c : Nat) (w : World) (hL : LnY w g 2 k x p y q) (hk : 0 ≤ k) (hk' : k < 4611686018427387904) (hn : (n : Int) ≤ 1)
    (z : Int) (r : Bool) (hs : ∀ u, Below w.heap.size w u → Calls Tryz.prog 113 #[.slice A n c] u fun e w' => e = .returned (.agg #[.int .u8 z, .bool r]) ∧ Below u.heap.size u w') :
    Calls Tryz.prog 91 #[.pointer (some ⟨g, 0, none⟩), .slice A n c] w fun e w' => e = .returned (.int .i64 0) ∧ LnY w' g 2 (k + 1) y q z r ∧ But g w w' := by
  have hB : Blk w g 220 _ := hL
  have c0 := hB.cell 0
  have c1 := hB.cell 1
  have c2 := hB.cell 2
  have c3 := hB.cell 3
  have c4 := hB.cell 4
  have c5 := hB.cell 5
  have cl := hB.lt
  simp only [List.getElem?_toArray, List.getElem?_cons_zero, List.getElem?_cons_succ] at c0 c1 c2 c3 c4 c5
  have hd : decide ((1 : Int) < (n : Int)) = false := decide_eq_false (by omega)
  have HL := Lib.hid hL
  have HK := Lib.hid hk
  have HK' := Lib.hid hk'
  have HS := Lib.hid hs
  have HG := Lib.hid (Nat.le_of_lt hB.lt)
  clear hL hB hs hk hk' hn
  go_enter Tryz.func91, Tryz.ntmps91
  go_wp2_with (first
    | (go_at_call 113; (with_reducible refine (HS.out _ (Below.refl _ _)).mono ?_); rintro e u1 ⟨rfl, b1⟩; have HL1 := Lib.hid (LnY.on HL.out b1))
    | (go_at_call 112; (with_reducible refine (endY_far g k x p y q z r _ HL1.out HK.out HK'.out).mono ?_); rintro e u2 ⟨rfl, hL2, b2⟩))
  go_ret
  exact ⟨rfl, hL2, (But.grow HG.out b1).trans b2⟩
/-- A line by what is here, and what is next. -/
def OnY (w : World) (g : Nat) (h k : Int) (a b : Option Int) : Prop := LnY w g h k (a.getD 0) a.isSome (b.getD 0) b.isSome
theorem OnY.blk {w : World} {g : Nat} {h k : Int} {a b : Option Int} (H : OnY w g h k a b) : ∃ cs, Blk w g 220 cs := ⟨_, H⟩
theorem OnY.on {w w' : World} {g : Nat} {h k : Int} {a b : Option Int} (H : OnY w g h k a b) (hb : Below w.heap.size w w') : OnY w' g h k a b := Blk.on H hb
theorem OnY.al {w : World} {g : Nat} {h k : Int} {a b : Option Int} (H : OnY w g h k a b) (o : Obj) : OnY (w.alloc o) g h k a b := Blk.alloc H o
theorem OnY.lt {w : World} {g : Nat} {h k : Int} {a b : Option Int} (H : OnY w g h k a b) : g < w.heap.size := Blk.lt H
theorem OnY.but {w w' : World} {g g' : Nat} {h k : Int} {a b : Option Int} (H : OnY w g h k a b) (hb : But g' w w') (hg : g ≠ g') : OnY w' g h k a b := hb.blk H hg
/-- The one thing of a list, or none. -/
def OneY (w : World) (A : Option Addr) (n : Nat) : Option Int → Prop
  | none => n = 0
  | some x => n = 1 ∧ ∃ b o, A = some ⟨b, o, none⟩ ∧ b < w.heap.size ∧ w.cell? ⟨b, o, none⟩ = some (.int .u8 x)
theorem OneY.le {w : World} {A : Option Addr} {n : Nat} {o : Option Int} (H : OneY w A n o) : (n : Int) ≤ 1 := by
  cases o with
  | none => have : n = 0 := H; omega
  | some x => have := H.1; omega
theorem sentY_is (A : Option Addr) (n c : Nat) (o : Option Int) (w : World) (H : OneY w A n o) (u : World) (hb : Below w.heap.size w u) :
    Calls Tryz.prog 113 #[.slice A n c] u fun e w' => e = .returned (.agg #[.int .u8 (o.getD 0), .bool o.isSome]) ∧ Below u.heap.size u w' := by
  cases o with
  | none =>
    have h0 : n = 0 := H
    subst h0
    exact sentY_none A c u
  | some x =>
    obtain ⟨h1, b, o, rfl, hlt, hc⟩ := H
    subst h1
    exact sentY_one b o c x u ((hb.cell hlt).trans hc) (Nat.lt_of_lt_of_le hlt hb.size)
theorem sendY_is (g : Nat) (h k : Int) (a b o a' b' : Option Int) (A : Option Addr) (n c : Nat) (ha : nowL h b o = a') (hb : nextL h b o = b') (K : Int) (hK : k + 1 = K) (w : World) (hL : OnY w g h k a b) (hh : h = 1 ∨ h = 2) (hk : 0 ≤ k) (hk' : k < 4611686018427387904) (H : OneY w A n o) :
    Calls Tryz.prog 91 #[.pointer (some ⟨g, 0, none⟩), .slice A n c] w fun e w' => e = .returned (.int .i64 0) ∧ OnY w' g h K a' b' ∧ But g w w' := by
  subst ha hb hK
  rcases hh with rfl | rfl
  · exact sendY_near g k _ _ _ _ A n c w hL hk hk' H.le _ _ (sentY_is A n c o w H)
  · exact sendY_far g k _ _ _ _ A n c w hL hk hk' H.le _ _ (sentY_is A n c o w H)
theorem newY_is (h : Int) (w : World) (hh : h = 1 ∨ h = 2) :
    Calls Tryz.prog 110 #[.int .i64 h] w fun e w' => e = .returned (.tuple #[.pointer (some ⟨w.heap.size, 0, none⟩), .int .i64 0]) ∧ OnY w' w.heap.size h 0 none none ∧ Below w.heap.size w w' := by
  rcases hh with rfl | rfl
  · exact newY_one w
  · exact newY_two w
theorem hereY_is (g : Nat) (h k : Int) (a b : Option Int) (x : Int) (hx : a.getD 0 = x) (p : Bool) (hp : a.isSome = p) (w : World) (hL : OnY w g h k a b) :
    Calls Tryz.prog 87 #[.pointer (some ⟨g, 0, none⟩)] w fun e w' => e = .returned (.tuple #[.int .u8 x, .bool p]) ∧ Below w.heap.size w w' := by
  subst hx hp; exact hereY_any g h k _ _ _ _ w hL
end Go.Proofs.YtkejpkcaojidaaaGreatDoor

namespace Go.Proofs.YtkejpkcaojidaaaGreatDoor
open Go.RowKit
set_option linter.unusedVariables false

/-- From w on: all but the blocks from b0 up to b1 of what was there in w stays. -/
def Span (b0 b1 : Nat) (w w' : World) : Prop := Below b0 w w' ∧ ∀ b, b < w.heap.size → (b < b0 ∨ b1 ≤ b) → w'.heap[b]? = w.heap[b]?
section
variable {b0 b1 : Nat} {a b c w w' : World}
theorem Span.refl (b0 b1 : Nat) (w : World) : Span b0 b1 w w := ⟨Below.refl _ _, fun _ _ _ => rfl⟩
theorem Span.trans (h : Span b0 b1 a b) (k : Span b0 b1 b c) : Span b0 b1 a c := ⟨h.1.trans k.1, fun x hx hn => (k.2 x (Nat.lt_of_lt_of_le hx h.1.size) hn).trans (h.2 x hx hn)⟩
theorem Span.blk {x : Nat} {t : TypeId} {cs : Array Value} (h : Span b0 b1 w w') (hB : Blk w x t cs) (hx : x < b0 ∨ b1 ≤ x) : Blk w' x t cs := (h.2 x hB.lt hx).trans hB
theorem Span.grow (h0 : b0 ≤ w.heap.size) (h : Below w.heap.size w w') : Span b0 b1 w w' := ⟨h.mono h0, fun x hx _ => h.block x hx⟩
theorem Span.but {g : Nat} (h : But g w w') (h0 : b0 ≤ g) (h1 : g < b1) : Span b0 b1 w w' := ⟨h.1.mono h0, fun x hx hn => h.2 x hx (by omega)⟩
theorem Span.low {B : Nat} (h : Span b0 b1 w w') (hB : B ≤ b0) : Below B w w' := h.1.mono hB
theorem Span.size (h : Span b0 b1 w w') : w.heap.size ≤ w'.heap.size := h.1.size
theorem Span.on {w'' : World} (h : Span b0 b1 w w') (h0 : b0 ≤ w.heap.size) (k : Below w'.heap.size w' w'') : Span b0 b1 w w'' := h.trans (Span.grow (Nat.le_trans h0 h.size) k)
theorem Span.cell {p : Addr} (h : Span b0 b1 w w') (hp : p.block < w.heap.size) (hx : p.block < b0 ∨ b1 ≤ p.block) : w'.cell? p = w.cell? p := by
  simp only [World.cell?, h.2 p.block hp hx]
theorem Span.row {g : Nat} {u : World} {t : TypeId} {cs cs' : Array Value} (hB : Blk u g t cs) (h0 : b0 ≤ g) (h1 : g < b1) : Span b0 b1 u (u.setRow g cs') := by
  have hs : (u.setRow g cs').heap.size = u.heap.size := by simp [World.setRow]
  exact ⟨⟨rfl, rfl, rfl, Nat.le_of_eq hs.symm, fun x hx => setRow_other u g x cs' (by omega)⟩, fun x _ hn => setRow_other u g x cs' (by omega)⟩
end
theorem Blk.row {u : World} {g : Nat} {t : TypeId} {cs cs' : Array Value} (hB : Blk u g t cs) : Blk (u.setRow g cs') g t cs' := setRow_heap u g cs cs' t (0, 0) hB
theorem Blk.rowFar {u : World} {g x : Nat} {t : TypeId} {cs cs' : Array Value} (hB : Blk u x t cs) (hx : x ≠ g) : Blk (u.setRow g cs') x t cs := (setRow_other u g x cs' hx).trans hB

/-- A map's entries: of each number from 0 on a pointer to a block. -/
def entW (ps : List Nat) : List MapEntry := (List.range ps.length).map fun (i : Nat) => ⟨.int .i64 (i : Int), .pointer (some ⟨ps.getD i 0, 0, none⟩), i⟩
theorem entW_len (ps : List Nat) : (entW ps).length = ps.length := by simp [entW]
theorem entW_snoc (ps : List Nat) (g : Nat) : entW (ps ++ [g]) = entW ps ++ [⟨.int .i64 (ps.length : Int), .pointer (some ⟨g, 0, none⟩), ps.length⟩] := by
  unfold entW
  rw [List.length_append, List.length_singleton, List.range_succ, List.map_append, List.map_singleton]
  congr 1
  · apply List.map_congr_left
    intro i hi
    rw [List.mem_range] at hi
    simp [List.getD, List.getElem?_append_left hi]
  · simp [List.getD]
theorem entW_mem {ps : List Nat} {e : MapEntry} (h : e ∈ entW ps) : ∃ i, i < ps.length ∧ e = ⟨.int .i64 (i : Int), .pointer (some ⟨ps.getD i 0, 0, none⟩), i⟩ := by
  simp only [entW, List.mem_map, List.mem_range] at h
  obtain ⟨i, hi, rfl⟩ := h
  exact ⟨i, hi, rfl⟩
/-- The block m is just this map. -/
def MapW (w : World) (m : Nat) (ps : List Nat) : Prop := w.heap[m]? = some (.map (entW ps).toArray ps.length)
theorem MapW.lt {w : World} {m : Nat} {ps : List Nat} (h : MapW w m ps) : m < w.heap.size := (Array.getElem?_eq_some_iff.1 h).1
theorem MapW.below {w w' : World} {B m : Nat} {ps : List Nat} (h : MapW w m ps) (hb : Below B w w') (hm : m < B) : MapW w' m ps := (hb.block m hm).trans h
theorem MapW.on {w w' : World} {m : Nat} {ps : List Nat} (h : MapW w m ps) (hb : Below w.heap.size w w') : MapW w' m ps := h.below hb h.lt
theorem MapW.but {w w' : World} {g m : Nat} {ps : List Nat} (h : MapW w m ps) (hb : But g w w') (hm : m ≠ g) : MapW w' m ps := (hb.2 m h.lt hm).trans h
theorem MapW.row {w : World} {g m : Nat} {ps : List Nat} {cs : Array Value} (h : MapW w m ps) (hm : m ≠ g) : MapW (w.setRow g cs) m ps := (setRow_other w g m cs hm).trans h
theorem MapW.ne {w : World} {g m : Nat} {ps : List Nat} {t : TypeId} {cs : Array Value} (h : MapW w m ps) (hB : Blk w g t cs) : m ≠ g := by
  rintro rfl
  unfold MapW at h; unfold Blk at hB
  rw [h] at hB; cases hB
theorem MapW.new (w : World) : MapW (w.alloc (.map #[] 0)) w.heap.size [] := (MapKept.heap_alloc w (.map #[] 0)).1
theorem keyI : Maps.Keyed Tryz.prog 3 := Maps.int_keyed Tryz.underlying3
theorem keyOfI {k : Int} (h : -9223372036854775808 ≤ k ∧ k ≤ 9223372036854775807) : keyOf Tryz.prog 3 (.int .i64 k) = some (.int .i64 k) := Maps.keyOf_int_mk Tryz.underlying3 (WalkArith.wf_i64 h)
theorem keysW {ps : List Nat} (hl : ps.length ≤ 64) : ∀ e ∈ entW ps, ∃ l, keyOf Tryz.prog 3 e.key = some l := by
  intro e he
  obtain ⟨i, hi, rfl⟩ := entW_mem he
  exact ⟨_, keyOfI (by omega)⟩
/-- What a map gives at a number: the pointer to its block. -/
theorem look_in {w : World} {m : Nat} {ps : List Nat} (h : MapW w m ps) (hl : ps.length ≤ 64) {i : Nat} (hi : i < ps.length) :
    (Instr.lookup 179 (.map (some m)) (.int .i64 (i : Int)) false).run Tryz.prog w = .ok (.pointer (some ⟨ps.getD i 0, 0, none⟩)) w := by
  have hk := keyOfI (k := (i : Int)) (by omega)
  rcases keyI.find w hk (entW ps) (keysW hl) with ⟨_, h2⟩ | ⟨j, e, h1, h2, h3⟩
  · exfalso
    exact h2 ⟨.int .i64 (i : Int), .pointer (some ⟨ps.getD i 0, 0, none⟩), i⟩ (by simp only [entW, List.mem_map, List.mem_range]; exact ⟨i, hi, rfl⟩) rfl
  · obtain ⟨q, hq, rfl⟩ := entW_mem (List.mem_of_getElem? h2)
    have e1 : (q : Int) = (i : Int) := by simpa using h3
    obtain rfl : q = i := by omega
    simp [Instr.lookup, run_underlying Tryz.underlying179, MapKept.run_getObj_map h, keyI.check w _ hk, h1, Result.andThen]
/-- .. and where there is none: no pointer. -/
theorem look_out {w : World} {m : Nat} {ps : List Nat} (h : MapW w m ps) (hl : ps.length ≤ 64) {k : Int} (hb : -9223372036854775808 ≤ k ∧ k ≤ 9223372036854775807) (hi : k < 0 ∨ (ps.length : Int) ≤ k) :
    (Instr.lookup 179 (.map (some m)) (.int .i64 k) false).run Tryz.prog w = .ok (.pointer none) w := by
  have hk := keyOfI hb
  rcases keyI.find w hk (entW ps) (keysW hl) with ⟨h1, _⟩ | ⟨j, e, h1, h2, h3⟩
  · simp [Instr.lookup, run_underlying Tryz.underlying179, MapKept.run_getObj_map h, keyI.check w _ hk, h1, Result.andThen]
  · exfalso
    obtain ⟨q, hq, rfl⟩ := entW_mem (List.mem_of_getElem? h2)
    have e1 : (q : Int) = k := by simpa using h3
    omega
/-- One entry more. -/
theorem map_put {w : World} {m : Nat} {ps : List Nat} (h : MapW w m ps) (hl : ps.length ≤ 64) (g : Nat) :
    ∃ w', (Instr.mapUpdate 179 (.map (some m)) (.int .i64 (ps.length : Int)) (.pointer (some ⟨g, 0, none⟩))).run Tryz.prog w = .ok () w' ∧ MapW w' m (ps ++ [g]) ∧ But m w w' := by
  have hk := keyOfI (k := (ps.length : Int)) (by omega)
  rcases keyI.find w hk (entW ps) (keysW hl) with ⟨h1, _⟩ | ⟨j, e, h1, h2, h3⟩
  · refine ⟨{ w with heap := w.heap.setIfInBounds m (.map (entW (ps ++ [g])).toArray (ps ++ [g]).length) }, ?_, ?_, ⟨⟨rfl, rfl, rfl, by simp, fun x hx => ?_⟩, fun x _ hx => ?_⟩⟩
    · rw [entW_snoc]
      simp [Instr.mapUpdate, run_underlying Tryz.underlying179, MapKept.run_getObj_map h, keyI.check w _ hk, h1, MapKept.run_setObj_map _ h, Result.andThen]
    · show (w.heap.setIfInBounds m _)[m]? = _
      rw [Array.getElem?_setIfInBounds_self_of_lt h.lt]
    · exact Array.getElem?_setIfInBounds_ne (by omega)
    · exact Array.getElem?_setIfInBounds_ne (fun e => hx e.symm)
  · exfalso
    obtain ⟨q, hq, rfl⟩ := entW_mem (List.mem_of_getElem? h2)
    have e1 : (q : Int) = (ps.length : Int) := by simpa using h3
    omega
theorem len_mapW {w : World} {m : Nat} {ps : List Nat} (h : MapW w m ps) (ty : TypeId) : (Builtin.len_ #[179] ty #[.map (some m)]).run Tryz.prog w = .ok (.int .i64 (ps.length : Int)) w := by
  simp [Builtin.len_, run_underlying Tryz.underlying179, MapKept.run_getObj_map h, goInt, entW_len]
theorem neq_map_yes (m : Nat) (w : World) : (binOp .neq 179 (.map (some m)) (.map none)).run Tryz.prog w = .ok (.bool true) w := by
  kernel_rfl
/-- The cells of what k links were given. -/
def gfC (G : Nat → Option Int) (k : Nat) : List Value := (List.range k).flatMap fun i => [.int .u8 ((G i).getD 0), .bool (G i).isSome]
theorem gfC_succ (G : Nat → Option Int) (k : Nat) : gfC G (k + 1) = gfC G k ++ [.int .u8 ((G k).getD 0), .bool (G k).isSome] := by
  simp [gfC, List.range_succ]
theorem gfC_len (G : Nat → Option Int) : ∀ k, (gfC G k).length = k * 2 := by
  intro k
  induction k with
  | zero => rfl
  | succ k ih => rw [gfC_succ, List.length_append, ih]; simp; omega
theorem gfC_at (G : Nat → Option Int) {j : Nat} : ∀ k, j < k → (gfC G k)[j * 2]? = some (.int .u8 ((G j).getD 0)) ∧ (gfC G k)[j * 2 + 1]? = some (.bool (G j).isSome) := by
  intro k
  induction k with
  | zero => intro h; omega
  | succ k ih =>
    intro h
    have hl := gfC_len G k
    rw [gfC_succ]
    by_cases e : j = k
    · subst e
      rw [List.getElem?_append_right (by omega), List.getElem?_append_right (by omega), hl, Nat.sub_self, show j * 2 + 1 - j * 2 = 1 by omega]
      exact ⟨rfl, rfl⟩
    · rw [List.getElem?_append_left (by omega), List.getElem?_append_left (by omega)]
      exact ih (by omega)
theorem gfC_cell {w : World} {a k : Nat} {G : Nat → Option Int} (h : Blk w a 190 (gfC G k).toArray) {j : Nat} (hj : j < k) :
    w.cell? ⟨a, j * 2, none⟩ = some (.int .u8 ((G j).getD 0)) ∧ w.cell? ⟨a, j * 2 + 1, none⟩ = some (.bool (G j).isSome) := by
  rw [h.cell, h.cell]
  simpa using gfC_at G k hj
/-- One value of a function of links put in place of another one. -/
def upd (G : Nat → Option Int) (i : Nat) (o : Option Int) : Nat → Option Int := fun j => if j = i then o else G j
theorem two_ext {l l' : List Value} {k : Nat} (h1 : l.length = k * 2) (h2 : l'.length = k * 2) (h : ∀ j, j < k → l[j * 2]? = l'[j * 2]? ∧ l[j * 2 + 1]? = l'[j * 2 + 1]?) : l = l' := by
  apply List.ext_getElem?
  intro p
  by_cases hp : p < k * 2
  · have hj : p / 2 < k := by omega
    have := h (p / 2) hj
    have e : p = p / 2 * 2 ∨ p = p / 2 * 2 + 1 := by omega
    rcases e with e | e
    · rw [e]; exact this.1
    · rw [e]; exact this.2
  · rw [List.getElem?_eq_none (by omega), List.getElem?_eq_none (by omega)]
theorem gfC_set (G : Nat → Option Int) {j k : Nat} (o : Option Int) (hj : j < k) :
    ((gfC G k).toArray.setIfInBounds (j * 2) (.int .u8 (o.getD 0))).setIfInBounds (j * 2 + 1) (.bool o.isSome) = (gfC (upd G j o) k).toArray := by
  rw [List.setIfInBounds_toArray, List.setIfInBounds_toArray]
  congr 1
  refine two_ext (k := k) (by simp [gfC_len]) (gfC_len _ _) fun q hq => ?_
  obtain ⟨a1, a2⟩ := gfC_at G k hq
  obtain ⟨c1, c2⟩ := gfC_at (upd G j o) k hq
  have hl := gfC_len G k
  rw [c1, c2]
  by_cases e : q = j
  · subst e
    simp [List.getElem?_set, hl, upd]
    omega
  · have e1 : j * 2 ≠ q * 2 := by omega
    have e2 : j * 2 + 1 ≠ q * 2 + 1 := by omega
    have e3 : j * 2 ≠ q * 2 + 1 := by omega
    have e4 : j * 2 + 1 ≠ q * 2 := by omega
    rw [List.getElem?_set_ne e4, List.getElem?_set_ne e1, List.getElem?_set_ne e2, List.getElem?_set_ne e3, a1, a2]
    simp [upd, e]
theorem gfC_none {l : List Value} {k : Nat} (hl : l.length = k * 2) (h : ∀ p, p < k * 2 → l[p]? = some (if p % 2 = 0 then .int .u8 0 else .bool false)) : l = gfC (fun _ => none) k := by
  refine two_ext hl (gfC_len _ _) fun j hj => ?_
  obtain ⟨c1, c2⟩ := gfC_at (fun _ => none) k hj
  rw [h _ (by omega), h _ (by omega), c1, c2, if_pos (by omega), if_neg (by omega)]
  exact ⟨rfl, rfl⟩
theorem infoGf : (Tryz.prog.info? 190).map (fun i => (i.zero, i.size, i.bytes)) = some (some (.agg #[.int .u8 0, .bool false]), 2, 2) := by kernel_rfl
theorem two_at (p : Nat) : (#[.int .u8 0, .bool false] : Array Value)[p % 2]! = if p % 2 = 0 then .int .u8 0 else .bool false := by
  have h : p % 2 = 0 ∨ p % 2 = 1 := by omega
  rcases h with h | h <;> rw [h] <;> rfl
/-- make([]gift, n). -/
theorem makeGf (k : Nat) (h1 : k ≤ 64) (u : World) :
    (Instr.makeSlice 181 (.int .i64 (k : Int)) (.int .i64 (k : Int))).run Tryz.prog u = .ok (.slice (some ⟨u.heap.size, 0, none⟩) k k) (u.alloc (.cells (gfC (fun _ => none) k).toArray 190)) := by
  obtain ⟨i0, hi0, hz0, hz1, hz2⟩ := info_parts infoGf
  have h := run_make (P := Tryz.prog) u 181 190 i0 _ Tryz.underlying181 hi0 hz0 .i64 .i64 (k : Int) (k : Int) (by omega) (Int.le_refl _) (by rw [hz2]; omega) (by omega)
  have e : madeCells (Value.agg #[.int .u8 0, .bool false]).cells (k * 2) = (gfC (fun _ => none) k).toArray := by
    apply Array.toList_inj.1
    refine gfC_none (by simp [madeCells]) fun p hp => ?_
    simp only [madeCells, Value.cells, Array.toList_map, List.getElem?_map, Array.getElem?_toList, List.size_toArray, List.length_cons, List.length_nil, Nat.zero_add, Nat.reduceAdd]
    rw [Array.getElem?_range, if_pos hp, Option.map_some, two_at]
  rw [hz1] at h
  simpa [e] using h
/-- clear of what the links were given. -/
theorem clearGf {u : World} {a k : Nat} {cs : List Value} (hB : Blk u a 190 cs.toArray) (hl : cs.length = k * 2) (hk : 0 < k) (c : Nat) (ty : TypeId) :
    (Builtin.clear_ #[181] ty #[.slice (some ⟨a, 0, none⟩) k c]).run Tryz.prog u = .ok (.tuple #[]) (u.setRow a (gfC (fun _ => none) k).toArray) := by
  have hzc : (Builtin.zeroCells (Value.agg #[.int .u8 0, .bool false]).cells k).toList = gfC (fun _ => none) k := by
    refine gfC_none (by simp [Builtin.zeroCells, Value.cells]) fun p hp => ?_
    simp only [Builtin.zeroCells, Value.cells, Array.toList_map, List.getElem?_map, Array.getElem?_toList, List.size_toArray, List.length_cons, List.length_nil, Nat.zero_add, Nat.reduceAdd]
    rw [Array.getElem?_range, if_pos hp, Option.map_some, two_at]
  have hst := run_storeCells_at Tryz.prog a 0 190 (gfC (fun _ => none) k) 0 cs.toArray u hB (by simp [gfC_len, hl]) (by
    intro v hv
    simp only [gfC, List.mem_flatMap] at hv
    obtain ⟨o, _, ho⟩ := hv
    simp only [List.mem_cons, List.not_mem_nil, or_false] at ho
    rcases ho with rfl | rfl <;> rfl)
  have hd : cs.drop (gfC (fun _ => none) k).length = [] := by rw [List.drop_eq_nil_iff, gfC_len, hl]; exact Nat.le_refl _
  simp only [Nat.zero_add, Nat.add_zero, List.take_zero, List.nil_append, hd, List.append_nil] at hst
  obtain ⟨m, rfl⟩ : ∃ m, k = m + 1 := ⟨k - 1, by omega⟩
  simp [Builtin.clear_, run_underlying Tryz.underlying181, hzc, hst]
end Go.Proofs.YtkejpkcaojidaaaGreatDoor

namespace Go.Proofs.YtkejpkcaojidaaaGreatDoor
open Go.RowKit Rg
set_option linter.unusedVariables false

/-- Where wires lie: their block, their map's, that of what is given, their lines', all from b0 up to b1; and how many nodes they have. -/
structure Lay where
  g : Nat
  m : Nat
  a : Nat
  ps : List Nat
  n : Nat
  b0 : Nat
  b1 : Nat
structure Lay.Ok (L : Lay) : Prop where
  n4 : 4 ≤ L.n
  n16 : L.n ≤ 16
  len : L.ps.length = 4 * L.n
  gin : L.b0 ≤ L.g ∧ L.g < L.b1
  min : L.b0 ≤ L.m ∧ L.m < L.b1
  ain : L.b0 ≤ L.a ∧ L.a < L.b1
  pin : ∀ i, i < 4 * L.n → L.b0 ≤ L.ps.getD i 0 ∧ L.ps.getD i 0 < L.b1
  inj : ∀ i j, i < 4 * L.n → j < 4 * L.n → L.ps.getD i 0 = L.ps.getD j 0 → i = j
/-- The hop of a link. -/
def hopN (i : Nat) : Int := (i : Int) % 2 + 1
theorem hopN_ok (i : Nat) : hopN i = 1 ∨ hopN i = 2 := by unfold hopN; omega
/-- Wires that lie so hold this. -/
structure Wir (L : Lay) (w : World) (t : Int) (H X G : Nat → Option Int) : Prop where
  blk : Blk w L.g 183 #[.map (some L.m), .int .i64 (L.n : Int), .slice (some ⟨L.a, 0, none⟩) (4 * L.n) (4 * L.n)]
  map : MapW w L.m L.ps
  gfs : Blk w L.a 190 (gfC G (4 * L.n)).toArray
  lns : ∀ i, i < 4 * L.n → OnY w (L.ps.getD i 0) (hopN i) t (H i) (X i)
section
variable {L : Lay} {w w' : World} {t : Int} {H X G : Nat → Option Int}
theorem Wir.on (h : Wir L w t H X G) (hb : Below w.heap.size w w') : Wir L w' t H X G := ⟨h.blk.on hb, h.map.on hb, h.gfs.on hb, fun i hi => (h.lns i hi).on hb⟩
theorem Wir.al (h : Wir L w t H X G) (o : Obj) : Wir L (w.alloc o) t H X G := h.on ((Below.refl _ _).alloc (Nat.le_refl _) o)
theorem Wir.drew (h : Wir L w t H X G) : Wir L w.drew t H X G := ⟨h.blk, h.map, h.gfs, h.lns⟩
theorem Span.drew {b0 b1 : Nat} {w w' : World} (h : Span b0 b1 w w') : Span b0 b1 w w'.drew := ⟨h.1.drew, h.2⟩
theorem Wir.lt (h : Wir L w t H X G) : L.g < w.heap.size := h.blk.lt
/-- Blocks beyond the wires' own alone were written. -/
theorem Wir.far (h : Wir L w t H X G) (ok : L.Ok) (hb : Below L.b1 w w') : Wir L w' t H X G :=
  ⟨h.blk.below hb ok.gin.2, h.map.below hb ok.min.2, h.gfs.below hb ok.ain.2, fun i hi => (hb.block _ (ok.pin i hi).2).trans (h.lns i hi)⟩
/-- What a link is given is put into its place. -/
theorem Wir.put (h : Wir L w t H X G) (ok : L.Ok) {k : Nat} (hk : k < 4 * L.n) (o : Option Int) (u : World) (hu : Below w.heap.size w u) :
    Wir L ((u.setCell ⟨L.a, k * 2, none⟩ (.int .u8 (o.getD 0))).setCell ⟨L.a, k * 2 + 1, none⟩ (.bool o.isSome)) t H X (upd G k o) ∧ Span L.b0 L.b1 w ((u.setCell ⟨L.a, k * 2, none⟩ (.int .u8 (o.getD 0))).setCell ⟨L.a, k * 2 + 1, none⟩ (.bool o.isSome)) := by
  have h' := h.on hu
  have hA := (h'.gfs.set_ (k * 2) (.int .u8 (o.getD 0))).set_ (k * 2 + 1) (.bool o.isSome)
  rw [gfC_set G o hk] at hA
  have hb : But L.a u ((u.setCell ⟨L.a, k * 2, none⟩ (.int .u8 (o.getD 0))).setCell ⟨L.a, k * 2 + 1, none⟩ (.bool o.isSome)) := (But.one _ _).set _ _
  have hg : L.g ≠ L.a := by
    intro e
    have h1 := h'.blk; have h2 := h'.gfs
    rw [e] at h1
    unfold Blk at h1 h2
    rw [h1] at h2
    injection h2 with h2
    injection h2 with _ h2
    exact absurd h2 (by decide)
  have hm := h'.map.ne h'.gfs
  refine ⟨⟨hb.blk h'.blk hg, h'.map.but hb hm, hA, fun i hi => (h'.lns i hi).but hb fun e => ?_⟩, (Span.grow (Nat.le_trans ok.gin.1 (Nat.le_of_lt h.lt)) hu).trans (Span.but hb ok.ain.1 ok.ain.2)⟩
  have h1 := h'.lns i hi; have h2 := h'.gfs
  obtain ⟨cs, h1⟩ := h1.blk
  rw [e] at h1
  unfold Blk at h1 h2
  rw [h1] at h2
  injection h2 with h2
  injection h2 with _ h2
  exact absurd h2 (by decide)
end
theorem elemGf : Tryz.prog.underlying 181 = some (.slice (Tryz.prog.elem 181)) := by kernel_rfl
theorem sizeGf (w : World) : (sizeOf (Tryz.prog.elem 181)).run Tryz.prog w = .ok 2 w := by kernel_rfl
theorem idxGf {n : Nat} (a c : Nat) {k : Nat} (hk : k < n) (w : World) :
    (Instr.indexAt 181 (.slice (some ⟨a, 0, none⟩) n c) (.int .i64 (k : Int))).run Tryz.prog w = .ok (.pointer (some ⟨a, k * 2, none⟩)) w := by
  rw [run_indexAt_slice (h := elemGf), if_pos (by omega), sizeGf]
  simp [Result.andThen, Addr.add_lit]
/-- Is there such a link? -/
def inB (n : Nat) (k : Int) : Bool := decide (0 ≤ k ∧ k < 4 * (n : Int))
theorem inB_nat {n : Nat} {k : Int} (h : inB n k = true) : ∃ j : Nat, k = j ∧ j < 4 * n := by
  simp only [inB, decide_eq_true_eq] at h
  exact ⟨k.toNat, by omega, by omega⟩
theorem inB_no {n : Nat} {k : Int} (h : inB n k = false) : k < 0 ∨ 4 * (n : Int) ≤ k := by
  simp only [inB, decide_eq_false_iff_not] at h
  omega
theorem inB_of {n j : Nat} (h : j < 4 * n) : inB n (j : Int) = true := by simp only [inB, decide_eq_true_eq]; omega

section
variable {L : Lay} {w : World} {t : Int} {H X G : Nat → Option Int}
theorem made_yes (h : Wir L w t H X G) :
    Calls Tryz.prog 85 #[.pointer (some ⟨L.g, 0, none⟩)] w fun e w' => e = .returned (.bool true) ∧ w = w' := by
  have c0 := h.blk.cell 0
  have cl := h.blk.lt
  simp only [List.getElem?_toArray, List.getElem?_cons_zero] at c0
  have hq := fun W => neq_map_yes L.m W
  clear h
  go_enter Tryz.func85, Tryz.ntmps85
  go_wp2_with fail
  go_ret
  exact ⟨rfl, rfl⟩
theorem has_is (hm : MapW w L.m L.ps) (ok : L.Ok) (k : Int) (hb : -9223372036854775808 ≤ k ∧ k ≤ 9223372036854775807) (b : Bool) (hk : inB L.n k = b) :
    Calls Tryz.prog 111 #[.map (some L.m), .int .i64 k] w fun e w' => e = .returned (.bool b) ∧ w = w' := by
  have hl : L.ps.length ≤ 64 := by have := ok.len; have := ok.n16; omega
  cases b with
  | true =>
    obtain ⟨j, rfl, hj⟩ := inB_nat hk
    have hlk := look_in hm hl (i := j) (by have := ok.len; omega)
    clear hm ok hb hk hl hj
    go_enter Tryz.func111, Tryz.ntmps111
    go_wp2_with fail
    go_ret
    exact ⟨rfl, rfl⟩
  | false =>
    have hlk := look_out hm hl hb (by have := inB_no hk; have := ok.len; omega)
    clear hm ok hb hk hl
    go_enter Tryz.func111, Tryz.ntmps111
    go_wp2_with fail
    go_ret
    exact ⟨rfl, rfl⟩
/-- What was given, with one link given that. -/
def updW (n : Nat) (G : Nat → Option Int) (k : Int) (o : Option Int) : Nat → Option Int := if inB n k = true then upd G k.toNat o else G
set_option maxRecDepth 100000 in
theorem put_in (h : Wir L w t H X G) (ok : L.Ok) (k : Nat) (hk : k < 4 * L.n) (o : Option Int) :
    Calls Tryz.prog 90 #[.pointer (some ⟨L.g, 0, none⟩), .int .i64 (k : Int), .agg #[.int .u8 (o.getD 0), .bool o.isSome]] w fun e w' => e = .returned (.int .i64 0) ∧ Wir L w' t H X (upd G k o) ∧ Span L.b0 L.b1 w w' := by
  have h1 := h.al (.cells #[.int .u8 (o.getD 0), .bool o.isSome] 190)
  have hN := Blk.new w 190 #[.int .u8 (o.getD 0), .bool o.isSome]
  have e0 := hN.cell 0
  have e1 := hN.cell 1
  have hbu : Below w.heap.size w (w.alloc (.cells #[.int .u8 (o.getD 0), .bool o.isSome] 190)) := (Below.refl _ _).alloc (Nat.le_refl _) _
  have c0 := h1.blk.cell 0
  have c2 := h1.blk.cell 2
  simp only [List.getElem?_toArray, List.getElem?_cons_zero, List.getElem?_cons_succ] at c0 c2 e0 e1
  obtain ⟨x0, x1⟩ := gfC_cell h1.gfs hk
  have f0 := h1.gfs.frozen (k * 2)
  have f1 := h1.gfs.frozen (k * 2 + 1)
  have hlt : L.a < (w.alloc (.cells #[.int .u8 (o.getD 0), .bool o.isSome] 190)).heap.size := h1.gfs.lt
  have hix := fun W => idxGf (n := 4 * L.n) L.a (4 * L.n) hk W
  have HP := Lib.hid (fun u hu => h.put ok hk o u hu)
  have HM := Lib.hid (made_yes h1)
  have HH := Lib.hid (has_is h1.map ok (k : Int) (by have := ok.n16; omega) true (inB_of hk))
  have HB := Lib.hid hbu
  clear h h1 hN hbu ok hk
  go_enter Tryz.func90, Tryz.ntmps90
  go_wp2_with (first
    | (go_at_call 85; (with_reducible refine HM.out.mono ?_); rintro e w1 ⟨rfl, rfl⟩)
    | (go_at_call 111; (with_reducible refine HH.out.mono ?_); rintro e w1 ⟨rfl, rfl⟩))
  go_region
  all_goals (go_wp2_with fail)
  all_goals go_ret
  all_goals (
    obtain ⟨q1, q2⟩ := HP.out _ HB.out
    exact ⟨rfl, q1.drew, q2.drew⟩)
set_option maxRecDepth 100000 in
theorem put_out (h : Wir L w t H X G) (ok : L.Ok) (k : Int) (hb : -9223372036854775808 ≤ k ∧ k ≤ 9223372036854775807) (hk : inB L.n k = false) (o : Option Int) :
    Calls Tryz.prog 90 #[.pointer (some ⟨L.g, 0, none⟩), .int .i64 k, .agg #[.int .u8 (o.getD 0), .bool o.isSome]] w fun e w' => e = .returned (.int .i64 1) ∧ Below w.heap.size w w' := by
  have h1 := h.al (.cells #[.int .u8 (o.getD 0), .bool o.isSome] 190)
  have hbu : Below w.heap.size w (w.alloc (.cells #[.int .u8 (o.getD 0), .bool o.isSome] 190)) := (Below.refl _ _).alloc (Nat.le_refl _) _
  have c0 := h1.blk.cell 0
  have cl := h1.blk.lt
  simp only [List.getElem?_toArray, List.getElem?_cons_zero] at c0
  have HM := Lib.hid (made_yes h1)
  have HH := Lib.hid (has_is h1.map ok k hb false hk)
  have HB := Lib.hid hbu
  clear h h1 hbu ok hk hb
  go_enter Tryz.func90, Tryz.ntmps90
  go_wp2_with (first
    | (go_at_call 85; (with_reducible refine HM.out.mono ?_); rintro e w1 ⟨rfl, rfl⟩)
    | (go_at_call 111; (with_reducible refine HH.out.mono ?_); rintro e w1 ⟨rfl, rfl⟩))
  go_ret
  exact ⟨rfl, HB.out⟩
/-- What Give and Take answer. -/
def errW (n : Nat) (k : Int) : Int := if inB n k = true then 0 else 1
theorem put_is (h : Wir L w t H X G) (ok : L.Ok) (k : Int) (hb : -9223372036854775808 ≤ k ∧ k ≤ 9223372036854775807) (o : Option Int) (r : Int) (hr : errW L.n k = r) (G' : Nat → Option Int) (hG : updW L.n G k o = G') :
    Calls Tryz.prog 90 #[.pointer (some ⟨L.g, 0, none⟩), .int .i64 k, .agg #[.int .u8 (o.getD 0), .bool o.isSome]] w fun e w' => e = .returned (.int .i64 r) ∧ Wir L w' t H X G' ∧ Span L.b0 L.b1 w w' := by
  subst hr hG
  cases hk : inB L.n k with
  | true =>
    obtain ⟨j, rfl, hj⟩ := inB_nat hk
    have := put_in h ok j hj o
    simpa only [errW, updW, hk, if_true, Int.toNat_natCast] using this
  | false =>
    refine (put_out h ok k hb hk o).mono fun e w' ⟨h1, h2⟩ => ?_
    simp only [errW, updW, hk, Bool.false_eq_true, if_false]
    exact ⟨h1, h.on h2, Span.grow (Nat.le_trans ok.gin.1 (Nat.le_of_lt h.lt)) h2⟩
theorem give_is (h : Wir L w t H X G) (ok : L.Ok) (k : Int) (hb : -9223372036854775808 ≤ k ∧ k ≤ 9223372036854775807) (x : Int) (r : Int) (hr : errW L.n k = r) (G' : Nat → Option Int) (hG : updW L.n G k (some x) = G') :
    Calls Tryz.prog 49 #[.pointer (some ⟨L.g, 0, none⟩), .int .i64 k, .int .u8 x] w fun e w' => e = .returned (.int .i64 r) ∧ Wir L w' t H X G' ∧ Span L.b0 L.b1 w w' := by
  have HP := Lib.hid (put_is h ok k hb (some x) r hr G' hG)
  clear h ok hb hr hG
  simp only [Option.getD_some, Option.isSome_some] at HP
  go_enter Tryz.func49, Tryz.ntmps49
  go_wp2_with (go_at_call 90; (with_reducible refine HP.out.mono ?_); rintro e w1 ⟨rfl, h1, h2⟩)
  go_ret
  exact ⟨rfl, h1, h2⟩
/-- The link that leads to a node, by what is asked for. -/
def toLink (n : Nat) (d x h : Int) : Int := linkM n d (sourceM n d x h) h
/-- What is here, at a node. -/
def hereW (n : Nat) (H : Nat → Option Int) (d x h : Int) : Option Int := if 0 ≤ toLink n d x h then H (toLink n d x h).toNat else none
theorem linkM_in {n d x h : Int} (hd : 0 ≤ d) : linkM n d x h = -1 ∨ (0 ≤ linkM n d x h ∧ linkM n d x h < 4 * n) := by
  unfold linkM
  split
  · rename_i q
    simp only [Bool.and_eq_true] at q
    have q1 := ex1.1 q.1
    have q2 := hop_iff.1 q.2
    right; omega
  · exact .inl rfl
set_option maxRecDepth 100000 in
theorem here_is (h : Wir L w t H X G) (ok : L.Ok) (hw : Ways w) (d x p : Int) (hd : 0 ≤ d) (hd' : d ≤ 255) (o : Option Int) (ho : hereW L.n H d x p = o) :
    Calls Tryz.prog 46 #[.pointer (some ⟨L.g, 0, none⟩), .int .u8 d, .int .i64 x, .int .i64 p] w fun e w' => e = .returned (.tuple #[.int .u8 (o.getD 0), .bool o.isSome]) ∧ Below w.heap.size w w' := by
  have hl : L.ps.length ≤ 64 := by have := ok.len; have := ok.n16; omega
  have HM := Lib.hid (made_yes h)
  have HS := Lib.hid (source_is L.n d x p _ rfl w hw hd hd')
  have HK := Lib.hid (fun W => link_is L.n d (sourceM L.n d x p) p (toLink L.n d x p) rfl W hd hd')
  obtain ⟨s, es⟩ : ∃ s, s = sourceM L.n d x p := ⟨_, rfl⟩
  rw [← es] at HS HK
  have c0 := h.blk.cell 0
  have c1 := h.blk.cell 1
  have cl := h.blk.lt
  simp only [List.getElem?_toArray, List.getElem?_cons_zero, List.getElem?_cons_succ] at c0 c1
  have HW := Lib.hid h
  have hin : toLink L.n d x p = -1 ∨ (0 ≤ toLink L.n d x p ∧ toLink L.n d x p < 4 * (L.n : Int)) := linkM_in hd
  rw [hereW] at ho
  obtain ⟨k, ek⟩ : ∃ k, k = toLink L.n d x p := ⟨_, rfl⟩
  rw [← ek] at ho hin HK
  by_cases h0 : 0 ≤ k
  · obtain ⟨j, rfl⟩ : ∃ j : Nat, k = j := ⟨k.toNat, by omega⟩
    rw [if_pos h0, Int.toNat_natCast] at ho
    have hj : j < 4 * L.n := by omega
    have HLK := Lib.hid (fun (W : World) (hm : MapW W L.m L.ps) => look_in hm hl (i := j) (by have := ok.len; omega))
    have HE := Lib.hid (fun (W : World) (hW : Wir L W t H X G) => hereY_is (L.ps.getD j 0) (hopN j) t (H j) (X j) _ rfl _ rfl W (hW.lns j hj))
    rw [ho] at HE
    obtain ⟨q, eq⟩ : ∃ q, q = L.ps.getD j 0 := ⟨_, rfl⟩
    rw [← eq] at HLK HE
    clear h ok hl hw hd hd' ho hin h0 hj eq es ek
    go_enter Tryz.func46, Tryz.ntmps46
    go_wp2_with (first
      | (go_at_call 85; (with_reducible refine HM.out.mono ?_); rintro e w1 ⟨rfl, rfl⟩)
      | (go_at_call 86; (with_reducible refine HS.out.mono ?_); rintro e w1 ⟨rfl, b1⟩; have HW1 := Lib.hid (HW.out.on b1); have c0 := HW1.out.blk.cell 0; have c1 := HW1.out.blk.cell 1; have cl := HW1.out.blk.lt; simp only [List.getElem?_toArray, List.getElem?_cons_zero, List.getElem?_cons_succ] at c0 c1)
      | (go_at_call 47; (with_reducible refine (HK.out _).mono ?_); rintro e w2 ⟨rfl, b2⟩; have HW2 := Lib.hid (HW1.out.on b2); have c0 := HW2.out.blk.cell 0; have cl := HW2.out.blk.lt; have hlk := HLK.out _ HW2.out.map; simp only [List.getElem?_toArray, List.getElem?_cons_zero] at c0)
      | (go_at_call 87; (with_reducible refine (HE.out _ HW2.out).mono ?_); rintro e w3 ⟨rfl, b3⟩))
    go_ret2
    exact ⟨rfl, below_then (below_then b1 b2) b3⟩
  · obtain rfl : k = -1 := by omega
    rw [if_neg (by decide)] at ho
    subst ho
    have HLK := Lib.hid (fun (W : World) (hm : MapW W L.m L.ps) => look_out hm hl (k := -1) (by omega) (.inl (by omega)))
    clear h ok hl hw hd hd' hin h0 es ek
    go_enter Tryz.func46, Tryz.ntmps46
    go_wp2_with (first
      | (go_at_call 85; (with_reducible refine HM.out.mono ?_); rintro e w1 ⟨rfl, rfl⟩)
      | (go_at_call 86; (with_reducible refine HS.out.mono ?_); rintro e w1 ⟨rfl, b1⟩; have HW1 := Lib.hid (HW.out.on b1); have c0 := HW1.out.blk.cell 0; have c1 := HW1.out.blk.cell 1; have cl := HW1.out.blk.lt; simp only [List.getElem?_toArray, List.getElem?_cons_zero, List.getElem?_cons_succ] at c0 c1)
      | (go_at_call 47; (with_reducible refine (HK.out _).mono ?_); rintro e w2 ⟨rfl, b2⟩; have HW2 := Lib.hid (HW1.out.on b2); have c0 := HW2.out.blk.cell 0; have cl := HW2.out.blk.lt; have hlk := HLK.out _ HW2.out.map; simp only [List.getElem?_toArray, List.getElem?_cons_zero] at c0)
      | (go_at_call 87; (with_reducible refine (hereY_nil w2).mono ?_); rintro e w3 ⟨rfl, b3⟩))
    go_ret2
    exact ⟨rfl, below_then (below_then b1 b2) b3⟩
end
end Go.Proofs.YtkejpkcaojidaaaGreatDoor

namespace Go.Proofs.YtkejpkcaojidaaaGreatDoor
open Go.RowKit Rg
set_option linter.unusedVariables false

theorem ends_hop {n : Int} {k : Nat} (h1 : 4 ≤ n) (h2 : n ≤ 16) (hk : (k : Int) < 4 * n) : endHop n k = hopN k := by
  rw [endHop, if_pos (end_iff.2 ⟨h1, h2, by omega, hk⟩), hopN]
/-- A map whose lines are new, with nothing on them. -/
structure Str (w0 w : World) (m : Nat) (ps : List Nat) (n : Int) : Prop where
  map : MapW w m ps
  mlo : w0.heap.size ≤ m
  lns : ∀ i, i < ps.length → OnY w (ps.getD i 0) (hopN i) 0 none none
  plo : ∀ i, i < ps.length → m < ps.getD i 0
  inj : ∀ i j, i < j → j < ps.length → ps.getD i 0 < ps.getD j 0
  low : Below w0.heap.size w0 w
theorem Str.on {w0 w w' : World} {m : Nat} {ps : List Nat} {n : Int} (h : Str w0 w m ps n) (hb : Below w.heap.size w w') : Str w0 w' m ps n :=
  ⟨h.map.on hb, h.mlo, fun i hi => (h.lns i hi).on hb, h.plo, h.inj, below_then h.low hb⟩
theorem Str.put {w0 u w w' : World} {m : Nat} {ps : List Nat} {n : Int} (h : Str w0 u m ps n) (hb : Below u.heap.size u w) (hL : OnY w u.heap.size (hopN ps.length) 0 none none) (hm : MapW w' m (ps ++ [u.heap.size])) (hB : But m w w') : Str w0 w' m (ps ++ [u.heap.size]) n := by
  have h' := h.on hb
  have hlt : ∀ i, i < ps.length → ps.getD i 0 < u.heap.size := fun i hi => (h.lns i hi).lt
  have hg : ∀ i, i < ps.length → (ps ++ [u.heap.size]).getD i 0 = ps.getD i 0 := fun i hi => by simp [List.getD, List.getElem?_append_left hi]
  have hg' : (ps ++ [u.heap.size]).getD ps.length 0 = u.heap.size := by simp [List.getD]
  have hml := h.map.lt
  refine ⟨hm, h.mlo, fun i hi => ?_, fun i hi => ?_, fun i j hij hj => ?_, h'.low.trans (hB.low h.mlo)⟩
  · rw [List.length_append, List.length_singleton] at hi
    by_cases e : i = ps.length
    · subst e; rw [hg']; exact hL.but hB (by omega)
    · rw [hg i (by omega)]; exact (h'.lns i (by omega)).but hB (by have := h.plo i (by omega); omega)
  · rw [List.length_append, List.length_singleton] at hi
    by_cases e : i = ps.length
    · subst e; rw [hg']; exact hml
    · rw [hg i (by omega)]; exact h.plo i (by omega)
  · rw [List.length_append, List.length_singleton] at hj
    by_cases e : j = ps.length
    · subst e; rw [hg', hg i hij]; exact hlt i hij
    · rw [hg i (by omega), hg j (by omega)]; exact h.inj i j hij (by omega)
set_option maxRecDepth 100000 in
theorem strung_is (n : Int) (hn1 : 4 ≤ n) (hn2 : n ≤ 16) (w : World) (hw : Ways w) :
    Calls Tryz.prog 84 #[.int .i64 n] w fun e w' => ∃ m ps, e = .returned (.map (some m)) ∧ Str w w' m ps n ∧ (ps.length : Int) = 4 * n := by
  have hmk := fun W => run_makeMap (P := Tryz.prog) 179 W
  have HS0 := Lib.hid (show Str w (w.alloc (.map #[] 0)) w.heap.size [] n from ⟨MapW.new w, Nat.le_refl _, fun i hi => absurd hi (by simp), fun i hi => absurd hi (by simp), fun i j _ hj => absurd hj (by simp), (Below.refl _ _).alloc (Nat.le_refl _) _⟩)
  have HW := Lib.hid hw
  clear hw
  go_enter Tryz.func84, Tryz.ntmps84
  go_wp2_with fail
  go_loopw [4] (fun s4 wr => ∃ k : Nat, (k : Int) ≤ 4 * n ∧ s4 = .int .i64 (k : Int) ∧ Hid (∃ ps, ps.length = k ∧ Str w wr w.heap.size ps n)) (fun s4 _ => (4 * n - intOf s4).toNat)
  case atStart => exact ⟨0, by omega, rfl, Lib.hid ⟨[], rfl, HS0.out⟩⟩
  case round =>
    obtain ⟨k, hk, rfl, HI⟩ := hrel
    obtain ⟨ps, hps, hS⟩ := HI.out
    clear HI
    have hwr := HW.out.on hS.low
    by_cases hlt : (k : Int) < 4 * n
    · have HE := Lib.hid (ends_is n k _ _ _ (hopN k) rfl rfl rfl (ends_hop hn1 hn2 hlt) wr hwr (by omega) (by omega))
      obtain ⟨p1, e1⟩ : ∃ p, p = endFrom n k := ⟨_, rfl⟩
      obtain ⟨p2, e2⟩ : ∃ p, p = endTo n k := ⟨_, rfl⟩
      obtain ⟨p3, e3⟩ : ∃ p, p = endDir n k := ⟨_, rfl⟩
      rw [← e1, ← e2, ← e3] at HE
      have HN := Lib.hid (fun W => newY_is (hopN k) W (hopN_ok k))
      have HH := Lib.hid (show hopN ps.length = hopN k by rw [hps])
      obtain ⟨hk', e4⟩ : ∃ p, p = hopN k := ⟨_, rfl⟩
      rw [← e4] at HE HN HH
      have hwk : IntKind.i64.wrap ((k : Int) + 1) = ((k + 1 : Nat) : Int) := by rw [IntWalk.i64_in _ (by omega)]; omega
      have HPS := Lib.hid hps
      have HSS := Lib.hid hS
      have HLE := Lib.hid (show ps.length ≤ 64 by omega)
      clear e1 e2 e3 e4 hps hS hwr
      go_wp2_with (first
        | (go_at_call 109; (with_reducible refine HE.out.mono ?_); rintro e w1 ⟨rfl, b1⟩; have HS1 := Lib.hid (HSS.out.on b1))
        | (go_at_call 110; (with_reducible refine (HN.out w1).mono ?_); rintro e w2 ⟨rfl, hL2, b2⟩; obtain ⟨w3, hmu, hM3, hB3⟩ := map_put (HS1.out.on b2).map HLE.out w1.heap.size; rw [HPS.out] at hmu; have HQ := Lib.hid (HS1.out.put b2 (by rw [HH.out]; exact hL2) hM3 hB3); clear hL2 hM3 hB3))
      go_roundw
      case rel => exact ⟨k + 1, by omega, rfl, Lib.hid ⟨_, by rw [List.length_append, HPS.out]; rfl, HQ.out⟩⟩
      case measure => simp [intOf]; omega
    · have ek : (k : Int) = 4 * n := by omega
      have hF := end_no n
      have HE := Lib.hid (ends_is n k (-1) (-1) 0 0 (by rw [ek, endFrom, hF]; rfl) (by rw [ek, endTo, hF]; rfl) (by rw [ek, endDir, hF]; rfl) (by rw [ek, endHop, hF]; rfl) wr hwr (by omega) (by omega))
      have HN := Lib.hid (fun W => newY_no 0 W (by decide) (by decide))
      have HPS := Lib.hid (show (ps.length : Int) = 4 * n by omega)
      have HSS := Lib.hid hS
      clear hF hps hS hwr ek
      go_wp2_with (first
        | (go_at_call 109; (with_reducible refine HE.out.mono ?_); rintro e w1 ⟨rfl, b1⟩)
        | (go_at_call 110; (with_reducible refine (HN.out w1).mono ?_); rintro e w2 ⟨rfl, b2⟩))
      go_ret
      exact ⟨w.heap.size, ps, rfl, (HSS.out.on b1).on b2, HPS.out⟩
def noneW : Nat → Option Int := fun _ => none
theorem wir_new {w0 w : World} {m n : Nat} {ps : List Nat} (h : Str w0 w m ps n) (hl : ps.length = 4 * n) (h1 : 4 ≤ n) (h2 : n ≤ 16) (w' : World) (hw' : w' = (w.alloc (.cells (gfC (fun _ => none) (4 * n)).toArray 190)).alloc (.cells #[.map (some m), .int .i64 (n : Int), .slice (some ⟨w.heap.size, 0, none⟩) (4 * n) (4 * n)] 183)) :
    ∃ L : Lay, (w.heap.size + 1 = L.g) ∧ L.Ok ∧ L.n = n ∧ L.b0 = w0.heap.size ∧ L.b1 = w'.heap.size ∧ Wir L w' 0 noneW noneW noneW ∧ Below w0.heap.size w0 w' := by
  subst hw'
  have hb1 : Below w.heap.size w (w.alloc (.cells (gfC (fun _ => none) (4 * n)).toArray 190)) := (Below.refl _ _).alloc (Nat.le_refl _) _
  have hb2 := below_al hb1 (.cells #[.map (some m), .int .i64 (n : Int), .slice (some ⟨w.heap.size, 0, none⟩) (4 * n) (4 * n)] 183)
  have h' := h.on hb2
  have hlow := h.low.size
  have hml := h.map.lt
  have hmlo := h.mlo
  refine ⟨⟨w.heap.size + 1, m, w.heap.size, ps, n, w0.heap.size, ((w.alloc (.cells (gfC (fun _ => none) (4 * n)).toArray 190)).alloc (.cells #[.map (some m), .int .i64 (n : Int), .slice (some ⟨w.heap.size, 0, none⟩) (4 * n) (4 * n)] 183)).heap.size⟩, rfl, ⟨h1, h2, hl, ?_, ?_, ?_, fun i hi => ?_, fun i j hi hj e => ?_⟩, rfl, rfl, rfl, ⟨?_, h'.map, ?_, fun i hi => ?_⟩, h'.low⟩
  · simp only [alloc_size]; omega
  · simp only [alloc_size]; omega
  · simp only [alloc_size]; omega
  · have hi' : i < ps.length := by simp only at hi; omega
    have q1 := h.plo i hi'
    have q2 := (h.lns i hi').lt
    simp only [alloc_size]; omega
  · simp only at hi hj e
    rcases Nat.lt_trichotomy i j with q | q | q
    · have := h.inj i j q (by omega); omega
    · exact q
    · have := h.inj j i q (by omega); omega
  · have := Blk.new (w.alloc (.cells (gfC (fun _ => none) (4 * n)).toArray 190)) 183 #[.map (some m), .int .i64 (n : Int), .slice (some ⟨w.heap.size, 0, none⟩) (4 * n) (4 * n)]
    simpa only [alloc_size] using this
  · exact (Blk.new w 190 (gfC (fun _ => none) (4 * n)).toArray).alloc _
  · exact h'.lns i (by simp only at hi; omega)
set_option maxRecDepth 100000 in
theorem wNew_is (n : Nat) (h1 : 4 ≤ n) (h2 : n ≤ 16) (w : World) (hw : Ways w) :
    Calls Tryz.prog 45 #[.int .i64 (n : Int)] w fun e w' => ∃ L : Lay, e = .returned (.tuple #[.pointer (some ⟨L.g, 0, none⟩), .int .i64 0]) ∧ L.Ok ∧ L.n = n ∧ L.b0 = w.heap.size ∧ L.b1 = w'.heap.size ∧ Wir L w' 0 noneW noneW noneW ∧ Below w.heap.size w w' := by
  have HS := Lib.hid (strung_is (n : Int) (by omega) (by omega) w hw)
  have HWN := Lib.hid (fun (u : World) (m : Nat) (ps : List Nat) (h : Str w u m ps n) (hl : ps.length = 4 * n) (w' : World) hw' => wir_new h hl h1 h2 w' hw')
  have HMK := Lib.hid (fun W => makeGf (4 * n) (by omega) W)
  obtain ⟨N, hN⟩ : ∃ N, N = 4 * n := ⟨_, rfl⟩
  have HN4 := Lib.hid hN
  rw [← hN] at HMK HWN
  have hN0 : ((N : Int) == 0) = false := by rw [beq_eq_false_iff_ne]; omega
  have hN0' : (N == 0) = false := by rw [beq_eq_false_iff_ne]; omega
  have hmk := HMK.out
  clear h1 h2 hw hN HMK
  go_enter Tryz.func45, Tryz.ntmps45
  go_wp2_with (go_at_call 84; (with_reducible refine HS.out.mono ?_); rintro e w1 ⟨m, ps, rfl, hS, hl⟩; have HL := Lib.hid (show ps.length = N by have := HN4.out; omega); clear hl; have hlen := fun ty => len_mapW hS.map ty; rw [HL.out] at hlen; have HSS := Lib.hid hS; clear hS)
  go_ret2
  obtain ⟨L, q1, q2, q3, q4, q5, q6, q7⟩ := HWN.out w1 m ps HSS.out HL.out _ rfl
  exact ⟨L, by simp only [q1]; rfl, q2, q3, q4, q5, q6, q7⟩
end Go.Proofs.YtkejpkcaojidaaaGreatDoor

namespace Go.Proofs.YtkejpkcaojidaaaGreatDoor
open Go.RowKit Rg
set_option linter.unusedVariables false

/-- Behind the first k lines' ends. -/
structure Half (L : Lay) (w0 w : World) (k : Nat) (t : Int) (H X G : Nat → Option Int) : Prop where
  blk : Blk w L.g 183 #[.map (some L.m), .int .i64 (L.n : Int), .slice (some ⟨L.a, 0, none⟩) (4 * L.n) (4 * L.n)]
  map : MapW w L.m L.ps
  gfs : Blk w L.a 190 (gfC G (4 * L.n)).toArray
  lns : ∀ i, i < 4 * L.n → OnY w (L.ps.getD i 0) (hopN i) (if i < k then t + 1 else t) (if i < k then nowL (hopN i) (X i) (G i) else H i) (if i < k then nextL (hopN i) (X i) (G i) else X i)
  span : Span L.b0 L.b1 w0 w
  low : L.b0 ≤ w0.heap.size
section
variable {L : Lay} {w0 w w' : World} {k : Nat} {t : Int} {H X G : Nat → Option Int}
theorem Half.on (h : Half L w0 w k t H X G) (hb : Below w.heap.size w w') : Half L w0 w' k t H X G :=
  ⟨h.blk.on hb, h.map.on hb, h.gfs.on hb, fun i hi => (h.lns i hi).on hb, h.span.on h.low hb, h.low⟩
theorem Half.start (h : Wir L w t H X G) (ok : L.Ok) : Half L w w 0 t H X G :=
  ⟨h.blk, h.map, h.gfs, fun i hi => by simpa using h.lns i hi, Span.refl _ _ _, Nat.le_trans ok.gin.1 (Nat.le_of_lt h.lt)⟩
theorem Half.at_ (h : Half L w0 w k t H X G) (hk : k < 4 * L.n) : OnY w (L.ps.getD k 0) (hopN k) t (H k) (X k) := by
  have := h.lns k hk
  simpa using this
theorem Half.send (h : Half L w0 w k t H X G) (ok : L.Ok) (hk : k < 4 * L.n) (hL : OnY w' (L.ps.getD k 0) (hopN k) (t + 1) (nowL (hopN k) (X k) (G k)) (nextL (hopN k) (X k) (G k))) (hB : But (L.ps.getD k 0) w w') : Half L w0 w' (k + 1) t H X G := by
  have hp := ok.pin k hk
  have hkl := h.at_ hk
  obtain ⟨cs, hkb⟩ := hkl.blk
  have ne : ∀ {b : Nat} {ty : TypeId} {c : Array Value}, Blk w b ty c → ty ≠ 220 → b ≠ L.ps.getD k 0 := by
    intro b ty c h1 h2 e
    rw [e] at h1
    unfold Blk at h1 hkb
    rw [hkb] at h1
    injection h1 with h1
    injection h1 with _ h1
    exact h2 h1.symm
  refine ⟨hB.blk h.blk (ne h.blk (by decide)), h.map.but hB (h.map.ne hkb), hB.blk h.gfs (ne h.gfs (by decide)), fun i hi => ?_, h.span.trans (Span.but hB hp.1 hp.2), h.low⟩
  by_cases e : i = k
  · subst e
    simpa using hL
  · have h1 := (h.lns i hi).but hB (fun q => e (ok.inj i k hi hk q))
    have e1 : (i < k) = (i < k + 1) := by apply propext; omega
    simpa only [e1] using h1
theorem Half.done (h : Half L w0 w (4 * L.n) t H X G) (ok : L.Ok) {G' : Nat → Option Int} : Wir L (w.setRow L.a (gfC G' (4 * L.n)).toArray) (t + 1) (fun i => nowL (hopN i) (X i) (G i)) (fun i => nextL (hopN i) (X i) (G i)) G' ∧ Span L.b0 L.b1 w0 (w.setRow L.a (gfC G' (4 * L.n)).toArray) := by
  have ne : ∀ {b : Nat} {ty : TypeId} {c : Array Value}, Blk w b ty c → ty ≠ 190 → b ≠ L.a := by
    intro b ty c h1 h2 e
    have h3 := h.gfs
    rw [e] at h1
    unfold Blk at h1 h3
    rw [h3] at h1
    injection h1 with h1
    injection h1 with _ h1
    exact h2 h1.symm
  refine ⟨⟨h.blk.rowFar (ne h.blk (by decide)), h.map.row (h.map.ne h.gfs), h.gfs.row, fun i hi => ?_⟩, h.span.trans (Span.row h.gfs ok.ain.1 ok.ain.2)⟩
  have h1 := h.lns i hi
  simp only [if_pos hi] at h1
  obtain ⟨cs, h2⟩ := h1.blk
  exact Blk.rowFar h1 (ne h2 (by decide))
end
set_option maxRecDepth 100000 in
theorem endW_is {L : Lay} {w : World} {t : Int} {H X G : Nat → Option Int} (h : Wir L w t H X G) (ok : L.Ok) (ht : 0 ≤ t) (ht' : t < 4611686018427387904) :
    Calls Tryz.prog 50 #[.pointer (some ⟨L.g, 0, none⟩)] w fun e w' => e = .returned (.int .i64 0) ∧ Wir L w' (t + 1) (fun i => nowL (hopN i) (X i) (G i)) (fun i => nextL (hopN i) (X i) (G i)) noneW ∧ Span L.b0 L.b1 w w' := by
  have HM := Lib.hid (made_yes h)
  have HF := Lib.hid (Half.start h ok)
  have HOK := Lib.hid ok
  have HT := Lib.hid (And.intro ht ht')
  have hl : L.ps.length ≤ 64 := by have := ok.len; have := ok.n16; omega
  have HL := Lib.hid hl
  have HLEN := Lib.hid ok.len
  have c0 := h.blk.cell 0
  have c2 := h.blk.cell 2
  have cl := h.blk.lt
  simp only [List.getElem?_toArray, List.getElem?_cons_zero, List.getElem?_cons_succ] at c0 c2
  obtain ⟨N, hN⟩ : ∃ N, N = 4 * L.n := ⟨_, rfl⟩
  have HN := Lib.hid hN
  have hNb : N ≤ 64 := by have := ok.n16; omega
  rw [← hN] at c2
  clear h ok ht ht' hl hN
  go_enter Tryz.func50, Tryz.ntmps50
  go_wp2_with (go_at_call 85; (with_reducible refine HM.out.mono ?_); rintro e w1 ⟨rfl, rfl⟩)
  clear c0 c2 cl
  go_loopw [13] (fun s13 wr => ∃ k : Nat, k ≤ N ∧ s13 = .int .i64 (k : Int) ∧ Hid (Half L w wr k t H X G)) (fun s13 _ => N - (intOf s13).toNat)
  case atStart => exact ⟨0, by omega, rfl, HF⟩
  case round =>
    obtain ⟨k, hk, rfl, HH⟩ := hrel
    clear HF
    by_cases hlt : k < N
    · have hk4 : k < 4 * L.n := by have := HN.out; omega
      obtain ⟨x0, x1⟩ := gfC_cell HH.out.gfs hk4
      have xl : L.a < wr.heap.size := HH.out.gfs.lt
      have hix := fun W => idxGf (n := N) L.a N hlt W
      have hdl : decide ((k : Int) < (N : Int)) = true := decide_eq_true (by omega)
      have hdn : decide (k < N) = true := decide_eq_true hlt
      have hwk : IntKind.i64.wrap ((k : Int) + 1) = ((k + 1 : Nat) : Int) := by rw [IntWalk.i64_in _ (by omega)]; omega
      obtain ⟨o, ho⟩ : ∃ o, o = G k := ⟨_, rfl⟩
      rw [← ho] at x0 x1
      have HO := Lib.hid ho
      have HK4 := Lib.hid hk4
      have HS := Lib.hid (fun (u : World) (A : Option Addr) (n c : Nat) (hu : Half L w u k t H X G) (h1 : OneY u A n o) => sendY_is (L.ps.getD k 0) (hopN k) t (H k) (X k) o _ _ A n c rfl rfl (t + 1) rfl u (hu.at_ hk4) (hopN_ok k) HT.out.1 HT.out.2 h1)
      obtain ⟨p, ep⟩ : ∃ p, p = L.ps.getD k 0 := ⟨_, rfl⟩
      have HLK := Lib.hid (fun (W : World) (hm : MapW W L.m L.ps) => look_in hm HL.out (i := k) (by have := HLEN.out; omega))
      rw [← ep] at HS HLK
      have HEP := Lib.hid ep
      clear ho hk4 hk ep
      cases o with
      | none =>
        simp only [Option.getD_none, Option.isSome_none] at x0 x1
        have H1 := Lib.hid (HH.out.on ((Below.refl _ _).alloc (Nat.le_refl _) (.cells #[.int .u8 0, .bool false] 190)))
        have hN1 := Blk.new wr 190 #[.int .u8 0, .bool false]
        have n0 := hN1.cell 0
        have n1 := hN1.cell 1
        have c0 := H1.out.blk.cell 0
        have cl := H1.out.blk.lt
        simp only [List.getElem?_toArray, List.getElem?_cons_zero, List.getElem?_cons_succ] at n0 n1 c0
        have hlk := HLK.out _ H1.out.map
        clear hN1
        have HE := Lib.hid (show ∀ u : World, OneY u none 0 none from fun _ => rfl)
        go_wp2_with (go_at_call 91; (with_reducible refine (HS.out _ none 0 0 H1.out (HE.out _)).mono ?_); rintro e w2 ⟨rfl, hL2, hB2⟩; have HQ := Lib.hid (H1.out.send HOK.out HK4.out (by rw [← HEP.out, ← HO.out]; exact hL2) (by rw [← HEP.out]; exact hB2)); clear hL2 hB2)
        go_roundw
        case rel => exact ⟨k + 1, by omega, rfl, HQ⟩
        case measure => simp [intOf]; omega
      | some x =>
        simp only [Option.getD_some, Option.isSome_some] at x0 x1
        obtain ⟨W, hW⟩ : ∃ W, W = wr.alloc (.cells #[.int .u8 x, .bool true] 190) := ⟨_, rfl⟩
        have H1 := Lib.hid (HH.out.on ((Below.refl _ _).alloc (Nat.le_refl _) (.cells #[.int .u8 x, .bool true] 190)))
        have hN1 := Blk.new wr 190 #[.int .u8 x, .bool true]
        rw [← hW] at H1 hN1
        have n0 := hN1.cell 0
        have n1 := hN1.cell 1
        have nl := hN1.lt
        have c0 := H1.out.blk.cell 0
        have cl := H1.out.blk.lt
        simp only [List.getElem?_toArray, List.getElem?_cons_zero, List.getElem?_cons_succ] at n0 n1 c0
        have hlk : (Instr.lookup 179 (.map (some L.m)) (.int .i64 (k : Int)) false).run Tryz.prog W.drew = .ok (.pointer (some ⟨p, 0, none⟩)) W.drew := HLK.out W.drew H1.out.map
        have H2 := Lib.hid (H1.out.on (show Below W.heap.size W (W.alloc (.cells #[.int .u8 x] 47)).drew from (below_al (Below.refl _ _) _).drew))
        have hlk2 := HLK.out _ H2.out.map
        have hc2 := H2.out.blk.cell 0
        have hl2 := H2.out.blk.lt
        simp only [List.getElem?_toArray, List.getElem?_cons_zero] at hc2
        have HON := Lib.hid (show OneY (W.alloc (.cells #[.int .u8 x] 47)).drew (some ⟨W.heap.size, 0, none⟩) 1 (some x) from ⟨rfl, _, _, rfl, by simp, by simp⟩)
        clear hN1
        go_wp2_with fail
        rw [← hW]
        clear hW x0 x1 hix xl
        go_region_law (go_simp; go_at_call 91; (with_reducible refine (HS.out _ (some ⟨W.heap.size, 0, none⟩) 1 1 H2.out HON.out).mono ?_); rintro e w2 ⟨rfl, hL2, hB2⟩; have HQ := Lib.hid (H2.out.send HOK.out HK4.out (by rw [← HEP.out, ← HO.out]; exact hL2) (by rw [← HEP.out]; exact hB2)); clear hL2 hB2)
        all_goals (
          go_wp2_with fail
          go_roundw
          case rel => exact ⟨k + 1, by omega, rfl, HQ⟩
          case measure => simp [intOf]; omega)
    · obtain rfl : k = N := by omega
      have hdl : decide ((k : Int) < (k : Int)) = false := decide_eq_false (by omega)
      have hdn : decide (k < k) = false := decide_eq_false (by omega)
      have hb := HH.out.blk
      have hgf := HH.out.gfs
      rw [← HN.out] at hb hgf
      have c0 := hb.cell 2
      have cl := hb.lt
      simp only [List.getElem?_toArray, List.getElem?_cons_zero, List.getElem?_cons_succ] at c0
      have hcl := fun ty => clearGf hgf (gfC_len _ _) (by have := HN.out; have := HOK.out.n4; omega) k ty
      have HQ := Lib.hid (Half.done (G' := noneW) (by rw [← HN.out]; exact HH.out) HOK.out)
      rw [← HN.out] at HQ
      clear hb hgf
      go_wp2_with fail
      go_ret
      exact ⟨rfl, HQ.out.1, HQ.out.2⟩
end Go.Proofs.YtkejpkcaojidaaaGreatDoor

namespace Go.Proofs.YtkejpkcaojidaaaGreatDoor
open Go.RowKit Rg
set_option linter.unusedVariables false

/-- What a law that began in w0 has of its wires. -/
structure Hold (w0 : World) (L : Lay) (u : World) (t : Int) (H X G : Nat → Option Int) : Prop where
  wir : Wir L u t H X G
  low : Below w0.heap.size w0 u
  ok : L.Ok
  b0 : w0.heap.size ≤ L.b0
  ways : Ways w0
def nowW (X G : Nat → Option Int) : Nat → Option Int := fun i => nowL (hopN i) (X i) (G i)
def nextW (X G : Nat → Option Int) : Nat → Option Int := fun i => nextL (hopN i) (X i) (G i)
section
variable {w0 u u' : World} {L : Lay} {t : Int} {H X G : Nat → Option Int} {n : Nat}
theorem Hold.on (h : Hold w0 L u t H X G) (hb : Below u.heap.size u u') : Hold w0 L u' t H X G := ⟨h.wir.on hb, below_then h.low hb, h.ok, h.b0, h.ways⟩
theorem Hold.way (h : Hold w0 L u t H X G) : Ways u := h.ways.on h.low
theorem Hold.span (h : Hold w0 L u t H X G) {t' : Int} {H' X' G' : Nat → Option Int} (hW : Wir L u' t' H' X' G') (hs : Span L.b0 L.b1 u u') : Hold w0 L u' t' H' X' G' :=
  ⟨hW, h.low.trans (hs.low h.b0), h.ok, h.b0, h.ways⟩
theorem hGive (h : Hold w0 L u t H X G) (hn : L.n = n) (k : Int) (hb : -9223372036854775808 ≤ k ∧ k ≤ 9223372036854775807) (x : Int) (r : Int) (hr : errW n k = r) (G' : Nat → Option Int) (hG : updW n G k (some x) = G') :
    Calls Tryz.prog 49 #[.pointer (some ⟨L.g, 0, none⟩), .int .i64 k, .int .u8 x] u fun e w' => e = .returned (.int .i64 r) ∧ Hold w0 L w' t H X G' ∧ Span L.b0 L.b1 u w' := by
  subst hn
  exact (give_is h.wir h.ok k hb x r hr G' hG).mono fun e w' ⟨q1, q2, q3⟩ => ⟨q1, h.span q2 q3, q3⟩
theorem hHere (h : Hold w0 L u t H X G) (hn : L.n = n) (d x p : Int) (hd : 0 ≤ d) (hd' : d ≤ 255) (o : Option Int) (ho : hereW n H d x p = o) :
    Calls Tryz.prog 46 #[.pointer (some ⟨L.g, 0, none⟩), .int .u8 d, .int .i64 x, .int .i64 p] u fun e w' => e = .returned (.tuple #[.int .u8 (o.getD 0), .bool o.isSome]) ∧ Hold w0 L w' t H X G ∧ Below u.heap.size u w' := by
  subst hn
  exact (here_is h.wir h.ok h.way d x p hd hd' o ho).mono fun e w' ⟨q1, q2⟩ => ⟨q1, h.on q2, q2⟩
theorem hEnd (h : Hold w0 L u t H X G) (ht : 0 ≤ t ∧ t < 4611686018427387904) (t' : Int) (htt : t + 1 = t') (H' X' : Nat → Option Int) (hH : nowW X G = H') (hX : nextW X G = X') :
    Calls Tryz.prog 50 #[.pointer (some ⟨L.g, 0, none⟩)] u fun e w' => e = .returned (.int .i64 0) ∧ Hold w0 L w' t' H' X' noneW ∧ Span L.b0 L.b1 u w' := by
  subst htt hH hX
  exact (endW_is h.wir h.ok ht.1 ht.2).mono fun e w' ⟨q1, q2, q3⟩ => ⟨q1, h.span q2 q3, q3⟩
end
end Go.Proofs.YtkejpkcaojidaaaGreatDoor

namespace Go.Proofs.YtkejpkcaojidaaaGreatDoor
open Go.RowKit Rg
set_option linter.unusedVariables false

/-- What is here, what is next, and what is given, T ticks behind the one in which F was given. -/
def HT (F : Nat → Option Int) (T : Nat) : Nat → Option Int := fun i => if (T : Int) = hopN i then F i else none
theorem link_of {n d x h : Int} (hx : 4 ≤ n ∧ n ≤ 16 ∧ 0 ≤ d ∧ d < 2 ∧ 0 ≤ x ∧ x < n) (hh : h = 1 ∨ h = 2) : linkM n d x h = 4 * x + 2 * d + h - 1 := by
  rw [linkM, ex1.2 ⟨hx.1, hx.2.1, hx.2.2.2.1, hx.2.2.2.2⟩, hop_iff.2 hh]
  rfl
theorem err_in {n k : Nat} (h : k < 4 * n) : errW n (k : Int) = 0 := by rw [errW, if_pos (inB_of h)]
theorem upd_in {n k : Nat} (G : Nat → Option Int) (o : Option Int) (h : k < 4 * n) : updW n G (k : Int) o = upd G k o := by rw [updW, if_pos (inB_of h), Int.toNat_natCast]
end Go.Proofs.YtkejpkcaojidaaaGreatDoor

