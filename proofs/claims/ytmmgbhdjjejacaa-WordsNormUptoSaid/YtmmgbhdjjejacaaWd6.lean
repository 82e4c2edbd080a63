/-
  Rows as values, and in memory; the contracts of package words' Copy, Plain (in one word), of Norm and of what it calls. Conditions: the rows' reading, their tables' lengths.
-/
import Derived.Test.YtmmgbhdjjejacaaWd5
namespace Go.Proofs.Ytmmgbhdjjejacaa
open Go.RowKit
set_option linter.unusedVariables false

/-- A row as a value. -/
structure Ro where
  b : Bool
  c : Ce
  n : Nat
  T : Nat → He
/-- A row with its table's address. -/
structure Rw where
  b : Bool
  c : Ce
  A : Option Addr
  n : Nat
  p : Nat
  T : Nat → He
def Rw.ro (r : Rw) : Ro := ⟨r.b, r.c, r.n, r.T⟩
def Rw.l (r : Rw) : List Value := roL r.b r.c r.A r.n r.p
def roN : Ro := ⟨false, ceN, 0, fun _ => heN⟩
def rwN : Rw := ⟨false, ceN, none, 0, 0, fun _ => heN⟩
/-- The plain form, of n nodes. -/
def plR (n : Nat) (r : Ro) : Ro := if r.b = true then ⟨true, plC r.c, n, fun i => plH (fitH r.T r.n i)⟩ else roN
/-- The cells L are a row's, whose table lies in memory of its own, from block lo on, without room behind. -/
def RowO (w : World) (lo : Nat) (r : Ro) (L : List Value) : Prop :=
  ∃ A p, L = roL r.b r.c A r.n p ∧ ((A = none ∧ r.n = 0 ∧ p = 0) ∨ ∃ g, A = some ⟨g, 0, none⟩ ∧ p = r.n ∧ lo ≤ g ∧ Blk w g 69 (hesL r.T r.n).toArray)
section
variable {w w' : World} {lo lo' : Nat} {r : Ro} {L : List Value}
theorem RowO.len (h : RowO w lo r L) : L.length = 57 := by
  obtain ⟨A, p, rfl, _⟩ := h
  exact roL_len _ _ _ _ _
theorem RowO.one (h : RowO w lo r L) : ∀ v ∈ L, v.oneCell' = true := by
  obtain ⟨A, p, rfl, _⟩ := h
  exact roL_one _ _ _ _ _
theorem RowO.on (h : RowO w lo r L) (hb : Below w.heap.size w w') : RowO w' lo r L := by
  obtain ⟨A, p, e, h⟩ := h
  refine ⟨A, p, e, ?_⟩
  rcases h with h | ⟨g, h1, h2, h3, h4⟩
  · exact .inl h
  · exact .inr ⟨g, h1, h2, h3, h4.on hb⟩
theorem RowO.mono (h : RowO w lo r L) (hl : lo' ≤ lo) : RowO w lo' r L := by
  obtain ⟨A, p, e, h⟩ := h
  refine ⟨A, p, e, ?_⟩
  rcases h with h | ⟨g, h1, h2, h3, h4⟩
  · exact .inl h
  · exact .inr ⟨g, h1, h2, by omega, h4⟩
theorem RowO.but {x : Nat} (h : RowO w lo r L) (hb : But x w w') (hx : x < lo) : RowO w' lo r L := by
  obtain ⟨A, p, e, h⟩ := h
  refine ⟨A, p, e, ?_⟩
  rcases h with h | ⟨g, h1, h2, h3, h4⟩
  · exact .inl h
  · exact .inr ⟨g, h1, h2, h3, hb.blk h4 (by omega)⟩
/-- A row of one's own as one with an address. -/
theorem RowO.rw_ (h : RowO w lo r L) : ∃ A p, L = roL r.b r.c A r.n p ∧ LiesH w w.heap.size A r.n r.T := by
  obtain ⟨A, p, e, h⟩ := h
  refine ⟨A, p, e, ?_⟩
  rcases h with ⟨_, h, _⟩ | ⟨g, h1, h2, h3, h4⟩
  · rw [h]; exact LiesH.nil_
  · rw [h1]; exact h4.liesH_
end
/-- Plain, in one word. -/
theorem plain_any (n : Nat) (hn : n ≤ 16) (r : Rw) (w : World) (hT : LiesH w w.heap.size r.A r.n r.T) :
    Calls Try.prog 22 #[.int .i64 (n : Int), .agg r.l.toArray] w fun e w' => ∃ L : List Value, e = .returned (.agg L.toArray) ∧ RowO w' w.heap.size (plR n r.ro) L ∧ Below w.heap.size w w' := by
  obtain ⟨b, c, A, m, p, T⟩ := r
  cases b
  · exact (plain_no n false c A m p rfl w).mono fun e w' ⟨h1, h2⟩ => ⟨_, h1, ⟨none, 0, rfl, .inl ⟨rfl, rfl, rfl⟩⟩, h2⟩
  · exact (plain_yes n hn c A m p T w hT).mono fun e w' ⟨g, h1, h2, h3, h4⟩ => ⟨_, h1, ⟨some ⟨g, 0, none⟩, n, rfl, .inr ⟨g, rfl, rfl, h2, h3⟩⟩, h4⟩
theorem ro_setTab (b : Bool) (c : Ce) (A A' : Option Addr) (n n' p p' : Nat) : (roL b c A n p).set 56 (.slice A' n' p') = roL b c A' n' p' := by
  unfold roL
  rw [List.set_cons_succ, List.set_append_right _ _ (by rw [ceL_len]; omega), ceL_len]; rfl
set_option maxRecDepth 100000 in
set_option maxHeartbeats 1000000 in
theorem copy_nil (b : Bool) (c : Ce) (m p : Nat) (w : World) :
    Calls Try.prog 21 #[.agg (roL b c none m p).toArray] w fun e w' => e = .returned (.agg (roL b c none m p).toArray) ∧ Below w.heap.size w w' := by
  go_enter Try.func21, Try.ntmps21
  go_upto_region 1 with fail
  refine wp_at (Boxed w 54 54 (roL b c none m p) 57) (Boxed.mk_ _ _ _ _ _ _ rfl) ?_
  intro U hU
  have c56 := hU.x.rowTab
  have HX := Lib.hid hU.x.pin
  obtain ⟨Z, hZl, hZ⟩ := hU.res
  have HZ := Lib.hid hZ
  have HZL := Lib.hid hZl
  have HB := Lib.hid hU.b
  have hlt := hU.lt
  have hlt' : w.heap.size < U.heap.size := by omega
  clear hZ hZl hU
  go_wp2_with (first
    | (refine wpList_load_pin rfl 54 (.tmp 1) rfl HX.out (by simp [Act.eval]) _ Try.underlying54 rfl 57 size_row (roL_len _ _ _ _ _) ?_)
    | (refine wpList_store_pin rfl 54 (.tmp 2) (.tmp 13) rfl HZ.out (roL b c none m p) (by simp [Act.eval, Act.put]) (by simp [Act.eval, Act.put]) 57 size_row HZL.out (roL_len _ _ _ _ _) (roL_one _ _ _ _ _) ?_; intro w1 p1 b1))
  have hld := p1.var 54 _ Try.underlying54 rfl 57 size_row (roL_len _ _ _ _ _)
  exact bodyPost_ret (v := .agg (roL b c none m p).toArray) (by simp [results, Try.results21, asAddr, Act.put, hld]) rfl ⟨rfl, HB.out.trans (b1.low (Nat.le_succ _))⟩
set_option maxRecDepth 100000 in
set_option maxHeartbeats 1000000 in
theorem copy_some (b : Bool) (c : Ce) (ad : Addr) (m p : Nat) (hm : m ≤ 65536) (T : Nat → He) (w : World) (hT : LiesH w w.heap.size (some ad) m T) :
    Calls Try.prog 21 #[.agg (roL b c (some ad) m p).toArray] w fun e w' => ∃ L : List Value, e = .returned (.agg L.toArray) ∧ RowO w' w.heap.size ⟨b, c, m, T⟩ L ∧ Below w.heap.size w w' := by
  have HM := Lib.hid hm
  have HT := Lib.hid hT
  clear hT hm
  go_enter Try.func21, Try.ntmps21
  go_upto_region 1 with fail
  refine wp_at (Boxed w 54 54 (roL b c (some ad) m p) 57) (Boxed.mk_ _ _ _ _ _ _ rfl) ?_
  intro U hU
  have c56 := hU.x.rowTab
  have HX := Lib.hid hU.x
  obtain ⟨Z, hZl, hZ⟩ := hU.res
  have HZ := Lib.hid hZ
  have HZL := Lib.hid hZl
  have HB := Lib.hid hU.b
  have hlt := hU.lt
  have hlt' : w.heap.size < U.heap.size := by omega
  clear hZ hZl hU
  go_upto_region 3 with (go_at_call 53; (with_reducible refine (filledCopy_is m HM.out (some ad) m p T U (HT.out.on HB.out)).mono ?_); rintro e w1 ⟨rfl, hB1, hb1⟩; have HB1 := Lib.hid hB1; have Hb1 := Lib.hid hb1; have f56 := (HX.out.on hb1).frozen 56; have c56' := (HX.out.on hb1).rowTab; have hs1 := hb1.size; clear hB1 hb1)
  refine wp_at (fun V => Blk V w.heap.size 54 (roL b c (some ⟨U.heap.size, 0, none⟩) m m).toArray ∧ (∃ Z : List Value, Z.length = 57 ∧ PIn V (w.heap.size + 1) 0 54 [] [] Z) ∧ Blk V U.heap.size 69 (hesL T m).toArray ∧ Below w.heap.size w V) ?_ ?_
  · have q := But.one (u := w1) (g := w.heap.size) 56 (.slice (some ⟨U.heap.size, 0, none⟩) m m)
    refine ⟨?_, ⟨Z, HZL.out, ((HZ.out.on Hb1.out).but q (by omega))⟩, ?_, (HB.out.trans (Hb1.out.mono (by omega))).trans (q.low (Nat.le_refl _))⟩
    · have := (HX.out.on Hb1.out).pin.set_ 56 (.slice (some ⟨U.heap.size, 0, none⟩) m m) (by rw [roL_len]; omega)
      rw [ro_setTab] at this
      simpa using this.blk_
    · refine q.blk ?_ (by omega)
      have := HB1.out
      rw [hesL_congr (T' := T) (fun i hi => by simp [fitH, hi])] at this
      exact this
  · rintro V ⟨v1, ⟨Z', v2, v3⟩, v4, v5⟩
    have HX' := Lib.hid v1.pin
    have HZ' := Lib.hid v3
    have HZL' := Lib.hid v2
    have HV4 := Lib.hid v4
    have HV5 := Lib.hid v5
    have HUB := Lib.hid hlt
    have HU2 := Lib.hid HB.out.size
    clear v1 v2 v3 v4 v5 c56 c56' f56 hs1 hlt hlt'
    refine wp_region_lit ?_
    go_wp2_with (first
      | (refine wpList_load_pin rfl 54 (.tmp 1) rfl HX'.out (by simp [Act.eval]) _ Try.underlying54 rfl 57 size_row (roL_len _ _ _ _ _) ?_)
      | (refine wpList_store_pin rfl 54 (.tmp 2) (.tmp 13) rfl HZ'.out (roL b c (some ⟨U.heap.size, 0, none⟩) m m) (by simp [Act.eval, Act.put]) (by simp [Act.eval, Act.put]) 57 size_row HZL'.out (roL_len _ _ _ _ _) (roL_one _ _ _ _ _) ?_; intro w2 p1 b1))
    have hld := p1.var 54 _ Try.underlying54 rfl 57 size_row (roL_len _ _ _ _ _)
    exact bodyPost_ret (v := .agg (roL b c (some ⟨U.heap.size, 0, none⟩) m m).toArray) (by simp [results, Try.results21, asAddr, Act.put, hld]) rfl ⟨_, rfl, ⟨_, _, rfl, .inr ⟨_, rfl, rfl, HU2.out, b1.blk HV4.out (by have := HUB.out; omega)⟩⟩, HV5.out.trans (b1.low (Nat.le_succ _))⟩
end Go.Proofs.Ytmmgbhdjjejacaa

