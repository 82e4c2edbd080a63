/-
  What is here, and what is on its way, by all that was ever sent, is what a line keeps; the reference's Send, of a list by its reading. Conditions: the hop is 1 or 2; the readings.
-/
import Derived.Test.YtlbpplibngdncaaLn6
namespace Go.Proofs.Ytlbpplibngdncaa
open Go.RowKit
set_option linter.unusedVariables false

theorem atL_pos {h : Int} {l : List (Option Int)} {t : Int} {k : Nat} (e : t - h = k) (hk : k < l.length) : atL h l t = l.getD k none := by
  unfold atL
  rw [if_pos (by omega), e]
  rfl
theorem atL_neg {h : Int} {l : List (Option Int)} {t : Int} (e : t - h < 0 ∨ l.length ≤ t - h) : atL h l t = none := by
  unfold atL
  rw [if_neg (by omega)]
theorem hereR_nil (h : Int) : hereR h [] = none := atL_neg (by simp; omega)
theorem wayR_nil (h : Int) : wayR h [] = none := atL_neg (by simp; omega)
theorem getD_last (l : List (Option Int)) (o : Option Int) : (l ++ [o]).getD l.length none = o := by simp [List.getD]
theorem getD_front (l : List (Option Int)) (o : Option Int) {k : Nat} (hk : k < l.length) : (l ++ [o]).getD k none = l.getD k none := by
  simp [List.getD, List.getElem?_append_left hk]
theorem here_push {h : Int} (hh : h = 1 ∨ h = 2) (l : List (Option Int)) (o : Option Int) : nowL h (wayR h l) o = hereR h (l ++ [o]) := by
  have hl : (l ++ [o]).length = l.length + 1 := by simp
  unfold hereR wayR nowL
  rcases hh with rfl | rfl
  · rw [if_pos rfl, hl, atL_pos (k := l.length) (by omega) (by omega), getD_last]
  · rw [if_neg (by decide), hl]
    rcases Nat.eq_zero_or_pos l.length with h0 | h0
    · rw [atL_neg (by omega), atL_neg (by omega)]
    · rw [atL_pos (k := l.length - 1) (by omega) (by omega), atL_pos (k := l.length - 1) (by omega) (by omega), getD_front l o (by omega)]
theorem way_push {h : Int} (hh : h = 1 ∨ h = 2) (l : List (Option Int)) (o : Option Int) : nextL h (wayR h l) o = wayR h (l ++ [o]) := by
  have hl : (l ++ [o]).length = l.length + 1 := by simp
  unfold wayR nextL
  rcases hh with rfl | rfl
  · rw [if_pos rfl, atL_neg (by omega), atL_neg (by omega)]
  · rw [if_neg (by decide), hl, atL_pos (k := l.length) (by omega) (by omega), getD_last]
/-- A list of one thing or none, by its reading. -/
theorem Lies.one {w : World} {A : Option Addr} {n : Nat} {xs : List Int} (h : Lies .i64 w w.heap.size A n xs) (hn : n ≤ 1) : OneI w A n xs.head? := by
  have hl := h.len
  match xs, hl with
  | [], hl => exact hl.symm
  | [x], hl =>
    obtain ⟨b, o, e, hb, hc⟩ := h.at_ (by simp at hl; omega)
    exact ⟨hl.symm, b, o, e, hb, by simpa using hc 0 (by simp at hl; omega)⟩
  | _ :: _ :: _, hl => simp at hl; omega
theorem refSend_is (g base : Nat) (h : Int) (l : List (Option Int)) (A : Option Addr) (c : Nat) (B : Option Addr) (n d : Nat) (xs : List Int) (w : World) (H : RefL w g base h l A c) (hl : l.length ≤ 65535) (hx : Lies .i64 w w.heap.size B n xs) (hn : n ≤ 1) :
    Calls Try.prog 19 #[.pointer (some ⟨g, 0, none⟩), .slice B n d] w fun e w' => e = .returned (.int .i64 0) ∧ (∃ A' c', RefL w' g base h (l ++ [xs.head?]) A' c') ∧ Below base w w' ∧ KeptBut w w' [47, 88] := by
  have h1 := hx.one hn
  have hll := hx.len
  match xs, hll, h1 with
  | [], hll, h1 =>
    have h0 : n = 0 := h1
    subst h0
    exact refSend_none g base h l A c B d w H hl
  | [x], hll, h1 =>
    obtain ⟨h2, b, o, rfl, hb, hc⟩ := h1
    subst h2
    exact refSend_one g base h l A c b o d x w H hl hc hb
  | _ :: _ :: _, hll, _ => simp at hll; omega
end Go.Proofs.Ytlbpplibngdncaa
