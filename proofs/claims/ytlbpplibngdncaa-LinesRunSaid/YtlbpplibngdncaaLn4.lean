/-
  The reference's line (all that was ever sent), and the contracts of its New, at, Here, Way and Send. Conditions: the line's reading; fewer than 65536 ticks; the hop is 1 or 2; of a list that is sent: its reading.
-/
import Derived.Test.YtlbpplibngdncaaLn2
import Derived.Test.YtlbpplibngdncaaApp
import Derived.Test.YtlbpplibngdncaaBook
import Derived.Deep.RegionLaw
namespace Go.Proofs.Ytlbpplibngdncaa
open Go.RowKit
set_option linter.unusedVariables false

/-- The cells of what was sent, tick by tick. -/
def snCells (l : List (Option Int)) : List Value := l.flatMap fun o => [.int .i64 (o.getD 0), .bool o.isSome]
theorem snCells_len : ∀ l : List (Option Int), (snCells l).length = l.length * 2 := by
  intro l
  induction l with
  | nil => rfl
  | cons a l ih => simp only [snCells, List.flatMap_cons, List.length_append, List.length_cons, List.length_nil] at ih ⊢; omega
theorem snCells_append (a b : List (Option Int)) : snCells (a ++ b) = snCells a ++ snCells b := by simp [snCells]
theorem snCells_at : ∀ (l : List (Option Int)) (j : Nat), j < l.length → (snCells l)[j * 2]? = some (.int .i64 ((l.getD j none).getD 0)) ∧ (snCells l)[j * 2 + 1]? = some (.bool (l.getD j none).isSome) := by
  intro l
  induction l with
  | nil => intro j h; simp at h
  | cons a l ih =>
    intro j h
    cases j with
    | zero => simp [snCells]
    | succ j =>
      have hj : j < l.length := by simpa using h
      obtain ⟨h1, h2⟩ := ih j hj
      have e : snCells (a :: l) = [.int .i64 (a.getD 0), .bool a.isSome] ++ snCells l := by simp [snCells]
      rw [e, show (j + 1) * 2 = j * 2 + 2 by omega, List.getElem?_append_right (by simp), List.getElem?_append_right (by simp only [List.length_cons, List.length_nil]; omega)]
      simp only [List.length_cons, List.length_nil]
      rw [show j * 2 + 2 - (0 + 1 + 1) = j * 2 by omega, show j * 2 + 2 + 1 - (0 + 1 + 1) = j * 2 + 1 by omega]
      exact ⟨h1, h2⟩
/-- The reference's line. -/
structure RefL (w : World) (g base : Nat) (h : Int) (l : List (Option Int)) (A : Option Addr) (c : Nat) : Prop where
  lo : base ≤ g
  blk : Blk w g 47 #[.int .i64 h, .slice A l.length c]
  row : w.ownsRow base 88 2 (.slice A l.length c) l.length (snCells l)
theorem owns_on {w w' : World} {base sz n : Nat} {e : TypeId} {v : Value} {xs : List Value} (h : w.ownsRow base e sz v n xs) (hk : ∀ g cs, Blk w g e cs → Blk w' g e cs) : w'.ownsRow base e sz v n xs := by
  refine ⟨h.1, ?_⟩
  rcases h.2 with q | ⟨g', cap, cur, hv, hg, hh, r⟩
  · exact .inl q
  · exact .inr ⟨g', cap, cur, hv, hg, hk g' cur hh, r⟩
theorem RefL.on {w w' : World} {g base : Nat} {h : Int} {l : List (Option Int)} {A : Option Addr} {c : Nat} (H : RefL w g base h l A c) (hb : Below w.heap.size w w') : RefL w' g base h l A c :=
  ⟨H.lo, H.blk.on hb, owns_on H.row fun _ _ hB => hB.on hb⟩
/-- Other types' blocks alone were written. -/
theorem RefL.kept {w w' : World} {g base : Nat} {h : Int} {l : List (Option Int)} {A : Option Addr} {c : Nat} {ts : List TypeId} (H : RefL w g base h l A c) (hk : KeptBut w w' ts) (h1 : 47 ∉ ts) (h2 : 88 ∉ ts) : RefL w' g base h l A c :=
  ⟨H.lo, hk _ _ _ h1 H.blk, owns_on H.row fun _ _ hB => hk _ _ _ h2 hB⟩
/-- One block of another type was written. -/
theorem RefL.but {w w' : World} {g g' base : Nat} {h : Int} {l : List (Option Int)} {A : Option Addr} {c : Nat} {t : TypeId} {cs : Array Value} (H : RefL w g base h l A c) (hk : But g' w w') (hB : Blk w g' t cs) (h1 : t ≠ 47) (h2 : t ≠ 88) : RefL w' g base h l A c :=
  ⟨H.lo, hk.blk H.blk (H.blk.ne hB h1.symm), owns_on H.row fun _ _ q => hk.blk q (q.ne hB h2.symm)⟩
theorem RefL.cells {w : World} {g base : Nat} {h : Int} {l : List (Option Int)} {A : Option Addr} {c : Nat} (H : RefL w g base h l A c) {j : Nat} (hj : j < l.length) :
    ∃ b, A = some ⟨b, 0, none⟩ ∧ b < w.heap.size ∧ w.cell? ⟨b, j * 2, none⟩ = some (.int .i64 ((l.getD j none).getD 0)) ∧ w.cell? ⟨b, j * 2 + 1, none⟩ = some (.bool (l.getD j none).isSome) := by
  rcases H.row.2 with ⟨_, h0⟩ | ⟨b, cap, cur, hv, _, hh, _, _, hs, ht⟩
  · omega
  · injection hv with hA
    subst hA
    have hB : Blk w b 88 cur := hh
    obtain ⟨c1, c2⟩ := snCells_at l j hj
    rw [← ht] at c1 c2
    rw [List.getElem?_take_of_lt (by omega)] at c1 c2
    refine ⟨b, rfl, hB.lt, ?_, ?_⟩
    · rw [hB.cell, ← c1]; simp
    · rw [hB.cell, ← c2]; simp
theorem refNew_no (h : Int) (w : World) (h1 : h ≠ 1) (h2 : h ≠ 2) :
    Calls Try.prog 9 #[.int .i64 h] w fun e w' => e = .returned (.tuple #[.pointer none, .int .i64 1]) ∧ Below w.heap.size w w' := by
  have q1 : (h != 1) = true := bne_iff_ne.2 h1
  have q2 : (h != 2) = true := bne_iff_ne.2 h2
  go_enter Try.func9, Try.ntmps9
  go_wp2_with fail
  go_ret2
  exact ⟨rfl, Below.refl _ _⟩
theorem refNew_is (h : Int) (w : World) (hh : h = 1 ∨ h = 2) :
    Calls Try.prog 9 #[.int .i64 h] w fun e w' => e = .returned (.tuple #[.pointer (some ⟨w.heap.size, 0, none⟩), .int .i64 0]) ∧ RefL w' w.heap.size w.heap.size h [] none 0 ∧ Below w.heap.size w w' := by
  rcases hh with rfl | rfl
  · go_enter Try.func9, Try.ntmps9
    go_wp2_with fail
    go_ret2
    exact ⟨rfl, ⟨Nat.le_refl _, Blk.new _ _ _, ⟨rfl, .inl ⟨rfl, rfl⟩⟩⟩, below_al (Below.refl _ _) _⟩
  · go_enter Try.func9, Try.ntmps9
    go_wp2_with fail
    go_ret2
    exact ⟨rfl, ⟨Nat.le_refl _, Blk.new _ _ _, ⟨rfl, .inl ⟨rfl, rfl⟩⟩⟩, below_al (Below.refl _ _) _⟩
/-- What is there at a tick. -/
def atL (h : Int) (l : List (Option Int)) (t : Int) : Option Int := if 0 ≤ t - h ∧ t - h < l.length then l.getD (t - h).toNat none else none
theorem elemSn : Try.prog.underlying 45 = some (.slice (Try.prog.elem 45)) := by kernel_rfl
theorem sizeSn (w : World) : (sizeOf (Try.prog.elem 45)).run Try.prog w = .ok 2 w := by kernel_rfl
theorem idxSn {A : Option Addr} {n : Nat} (c : Nat) {k b : Nat} (hA : A = some ⟨b, 0, none⟩) (hk : k < n) (w : World) :
    (Instr.indexAt 45 (.slice A n c) (.int .i64 (k : Int))).run Try.prog w = .ok (.pointer (some ⟨b, k * 2, none⟩)) w := by
  subst hA
  rw [run_indexAt_slice (h := elemSn), if_pos (by omega), sizeSn]
  simp [Result.andThen, Addr.add_lit]
set_option maxRecDepth 100000 in
theorem refAt_any (g base : Nat) (h : Int) (l : List (Option Int)) (A : Option Addr) (c : Nat) (t : Int) (w : World) (H : RefL w g base h l A c) (hh : h = 1 ∨ h = 2) (ht : 0 ≤ t) (ht' : t ≤ 1000000) (hl : l.length ≤ 65536) :
    Calls Try.prog 34 #[.pointer (some ⟨g, 0, none⟩), .int .i64 t] w fun e w' => e = .returned (.tuple #[.int .i64 ((atL h l t).getD 0), .bool (atL h l t).isSome]) ∧ Below w.heap.size w w' := by
  have c0 := H.blk.cell 0
  have c1 := H.blk.cell 1
  have cl := H.blk.lt
  simp only [List.getElem?_toArray, List.getElem?_cons_zero, List.getElem?_cons_succ] at c0 c1
  obtain ⟨i, hi⟩ : ∃ i, i = t - h := ⟨_, rfl⟩
  have hw : IntKind.i64.wrap (t - h) = i := by rw [hi]; exact IntWalk.i64_in _ (by omega)
  obtain ⟨n, hn⟩ : ∃ n, n = l.length := ⟨_, rfl⟩
  by_cases h0 : i < 0
  · have HM := Lib.hid (show atL h l t = none by unfold atL; rw [if_neg (by omega)])
    have hd : decide (i < 0) = true := decide_eq_true h0
    clear hi H hh ht ht' hl hn
    go_enter Try.func34, Try.ntmps34
    go_wp2_with fail
    go_ret2
    rw [HM.out]
    exact ⟨rfl, Below.refl _ _⟩
  · obtain ⟨k, rfl⟩ : ∃ k : Nat, i = k := ⟨i.toNat, by omega⟩
    have hd : decide ((k : Int) < 0) = false := decide_eq_false h0
    by_cases h1 : k < l.length
    · obtain ⟨b, hA, hb, x0, x1⟩ := H.cells h1
      have HM := Lib.hid (show atL h l t = l.getD k none by unfold atL; rw [if_pos (by omega), ← hi]; rfl)
      have hix := fun W => idxSn (n := l.length) c hA h1 W
      have hd1 : decide ((l.length : Int) ≤ (k : Int)) = false := decide_eq_false (by omega)
      have hd2 : decide (l.length ≤ k) = false := decide_eq_false (by omega)
      obtain ⟨o, ho⟩ : ∃ o, o = l.getD k none := ⟨_, rfl⟩
      rw [← ho] at HM x0 x1
      clear hi H hh ht ht' hl hn ho h0 h1 hA
      cases o with
      | none =>
        simp only [Option.getD_none, Option.isSome_none] at x0 x1
        go_enter Try.func34, Try.ntmps34
        go_wp2_with fail
        go_ret2
        rw [HM.out]
        exact ⟨rfl, Below.refl _ _⟩
      | some x =>
        simp only [Option.getD_some, Option.isSome_some] at x0 x1
        go_enter Try.func34, Try.ntmps34
        go_wp2_with fail
        go_ret2
        rw [HM.out]
        exact ⟨rfl, Below.refl _ _⟩
    · have HM := Lib.hid (show atL h l t = none by unfold atL; rw [if_neg (by omega)])
      have hd1 : decide ((l.length : Int) ≤ (k : Int)) = true := decide_eq_true (by omega)
      have hd2 : decide (l.length ≤ k) = true := decide_eq_true (by omega)
      clear hi H hh ht ht' hl hn h0 h1
      go_enter Try.func34, Try.ntmps34
      go_wp2_with fail
      go_ret2
      rw [HM.out]
      exact ⟨rfl, Below.refl _ _⟩
theorem refAt_is (g base : Nat) (h : Int) (l : List (Option Int)) (A : Option Addr) (c : Nat) (t : Int) (o : Option Int) (ho : atL h l t = o) (w : World) (H : RefL w g base h l A c) (hh : h = 1 ∨ h = 2) (ht : 0 ≤ t ∧ t ≤ 1000000) (hl : l.length ≤ 65536) :
    Calls Try.prog 34 #[.pointer (some ⟨g, 0, none⟩), .int .i64 t] w fun e w' => e = .returned (.tuple #[.int .i64 (o.getD 0), .bool o.isSome]) ∧ Below w.heap.size w w' := by
  subst ho; exact refAt_any g base h l A c t w H hh ht.1 ht.2 hl
/-- What is here, by all that was sent. -/
def hereR (h : Int) (l : List (Option Int)) : Option Int := atL h l l.length
theorem refHere_is (g base : Nat) (h : Int) (l : List (Option Int)) (A : Option Addr) (c : Nat) (x : Int) (p : Bool) (hx : (hereR h l).getD 0 = x) (hp : (hereR h l).isSome = p) (w : World) (H : RefL w g base h l A c) (hh : h = 1 ∨ h = 2) (hl : l.length ≤ 65536) :
    Calls Try.prog 11 #[.pointer (some ⟨g, 0, none⟩)] w fun e w' => e = .returned (.tuple #[.int .i64 x, .bool p]) ∧ Below w.heap.size w w' := by
  have c0 := H.blk.cell 0
  have c1 := H.blk.cell 1
  have cl := H.blk.lt
  simp only [List.getElem?_toArray, List.getElem?_cons_zero, List.getElem?_cons_succ] at c0 c1
  have HR := Lib.hid H
  have HH := Lib.hid hh
  have HL := Lib.hid hl
  have HT := Lib.hid (show 0 ≤ (l.length : Int) ∧ (l.length : Int) ≤ 1000000 from ⟨by omega, by omega⟩)
  obtain ⟨o, ho⟩ : ∃ o, o = hereR h l := ⟨_, rfl⟩
  rw [← ho] at hx hp
  have HO := Lib.hid (show atL h l (l.length : Int) = o from ho.symm)
  subst hx hp
  clear H hh hl ho
  go_enter Try.func11, Try.ntmps11
  go_wp2_with (go_at_call 34; (with_reducible refine (refAt_is g base h l A c (l.length : Int) o HO.out w HR.out HH.out HT.out HL.out).mono ?_); rintro e u1 ⟨rfl, b1⟩)
  go_ret2
  exact ⟨rfl, b1⟩
end Go.Proofs.Ytlbpplibngdncaa
