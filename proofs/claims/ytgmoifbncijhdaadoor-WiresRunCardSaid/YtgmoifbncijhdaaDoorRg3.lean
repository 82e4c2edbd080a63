/-
  The contracts of package rings' Distance, Source, Link, Ends, Place: what the mathematics says, and nothing that was there has turned. Conditions: the table of directions is as the program's text lays it; the numbers are of their kinds.
-/
import Derived.Test.YtgmoifbncijhdaaDoorRg2
namespace Go.Proofs.YtgmoifbncijhdaaDoor
open Go.RowKit Rg

theorem isHop_b (h : Int) (b : Bool) (hb : hopB h = b) (w : World) : Calls Tryd.prog 36 #[.int .i64 h] w fun e w' => e = .returned (.bool b) ∧ w = w' := by
  subst hb; exact isHop_any h w

set_option maxRecDepth 100000 in
theorem source_any (n d x h : Int) (w : World) (hw : Ways w) (hd : 0 ≤ d) (hd' : d ≤ 255) :
    Calls Tryd.prog 23 #[.int .i64 n, .int .u8 d, .int .i64 x, .int .i64 h] w fun e w' => e = .returned (.int .i64 (sourceM n d x h)) ∧ Below w.heap.size w w' := by
  by_cases hh : hopB h = true
  · have HE := Lib.hid (show sourceM n d x h = stepM n d x (-h) by rw [sourceM, if_pos hh])
    have HH := Lib.hid hh
    have hb := hop_iff.1 hh
    have hb1 : 1 ≤ h := by omega
    have hb2 : h ≤ 2 := by omega
    clear hh hb
    go_enter Tryd.func23, Tryd.ntmps23
    go_wp2_with (first
      | (go_at_call 36; with_reducible refine (isHop_b h true HH.out w).mono ?_; rintro e w' ⟨rfl, rfl⟩)
      | (go_at_call 25; refine (step_any n d x _ w hw hd hd').mono ?_; rintro e w' ⟨rfl, hb⟩))
    go_ret
    exact ⟨ret_int HE.out.symm, hb⟩
  · have hh' : hopB h = false := bfalse hh
    have HE := Lib.hid (show sourceM n d x h = -1 by rw [sourceM, if_neg hh])
    have HH := Lib.hid hh'
    clear hh hh'
    go_enter Tryd.func23, Tryd.ntmps23
    go_wp2_with (go_at_call 36; with_reducible refine (isHop_b h false HH.out w).mono ?_; rintro e w' ⟨rfl, rfl⟩)
    go_ret
    exact ⟨ret_int HE.out.symm, Below.refl _ _⟩

set_option maxRecDepth 100000 in
theorem link_any (n d x h : Int) (w : World) (hd : 0 ≤ d) (hd' : d ≤ 255) :
    Calls Tryd.prog 24 #[.int .i64 n, .int .u8 d, .int .i64 x, .int .i64 h] w fun e w' => e = .returned (.int .i64 (linkM n d x h)) ∧ Below w.heap.size w w' := by
  have hbel : ∀ v t, Below w.heap.size w (w.alloc (.cells v t)) := fun v t => (Below.refl _ _).alloc (Nat.le_refl _) _
  have HBEL := Lib.hid hbel
  clear hbel
  by_cases hex : exB n d [x] = true
  · obtain ⟨h1, h2, h3, h4, h5⟩ := ex1.1 hex
    have HEX := Lib.hid hex
    by_cases hh : hopB h = true
    · have HE := Lib.hid (show linkM n d x h = 4 * x + 2 * d + h - 1 by rw [linkM, hex, hh]; rfl)
      have HH := Lib.hid hh
      have hb := hop_iff.1 hh
      have hb1 : 1 ≤ h := by omega
      have hb2 : h ≤ 2 := by omega
      clear hh hb hex
      go_enter Tryd.func24, Tryd.ntmps24
      go_wp2_with (first
        | (go_at_call 35; with_reducible refine (exist1 n d x true HEX.out w _ (by omega) (by omega)).mono ?_; rintro e w' ⟨rfl, rfl⟩)
        | (go_at_call 36; with_reducible refine (isHop_b h true HH.out _).mono ?_; rintro e w' ⟨rfl, rfl⟩))
      go_ret
      exact ⟨ret_int HE.out.symm, HBEL.out _ _⟩
    · have hh' : hopB h = false := bfalse hh
      have HE := Lib.hid (show linkM n d x h = -1 by rw [linkM, hex, hh']; rfl)
      have HH := Lib.hid hh'
      clear hh hh' hex
      go_enter Tryd.func24, Tryd.ntmps24
      go_wp2_with (first
        | (go_at_call 35; with_reducible refine (exist1 n d x true HEX.out w _ (by omega) (by omega)).mono ?_; rintro e w' ⟨rfl, rfl⟩)
        | (go_at_call 36; with_reducible refine (isHop_b h false HH.out _).mono ?_; rintro e w' ⟨rfl, rfl⟩))
      go_ret
      exact ⟨ret_int HE.out.symm, HBEL.out _ _⟩
  · have hex' : exB n d [x] = false := bfalse hex
    have HE := Lib.hid (show linkM n d x h = -1 by rw [linkM, hex']; rfl)
    have HEX := Lib.hid hex'
    clear hex hex'
    go_enter Tryd.func24, Tryd.ntmps24
    go_wp2_with (go_at_call 35; with_reducible refine (exist1 n d x false HEX.out w _ (by omega) (by omega)).mono ?_; rintro e w' ⟨rfl, rfl⟩)
    go_ret
    exact ⟨ret_int HE.out.symm, HBEL.out _ _⟩

set_option maxRecDepth 100000 in
theorem ends_any (n l : Int) (w : World) (hw : Ways w) (hl : -9223372036854775808 ≤ l) (hl' : l ≤ 9223372036854775807) :
    Calls Tryd.prog 22 #[.int .i64 n, .int .i64 l] w fun e w' => e = .returned (.tuple #[.int .i64 (endFrom n l), .int .i64 (endTo n l), .int .u8 (endDir n l), .int .i64 (endHop n l)]) ∧ Below w.heap.size w w' := by
  have hbel : ∀ v t, Below w.heap.size w (w.alloc (.cells v t)) := fun v t => (Below.refl _ _).alloc (Nat.le_refl _) _
  have HBEL := Lib.hid hbel
  clear hbel
  by_cases hneg : l < 0
  · have hF : endB n l = false := bfalse (fun h => by have := end_iff.1 h; omega)
    have HE := Lib.hid (show endFrom n l = -1 ∧ endTo n l = -1 ∧ endDir n l = 0 ∧ endHop n l = 0 by simp [endFrom, endTo, endDir, endHop, hF])
    clear hF
    go_enter Tryd.func22, Tryd.ntmps22
    go_wp2
    refine bodyPost_ret (v := .tuple #[.int .i64 (-1), .int .i64 (-1), .int .u8 0, .int .i64 0]) (by simp [results, Tryd.results22, go_sem]) rfl ?_
    obtain ⟨a1, a2, a3, a4⟩ := HE.out
    rw [a1, a2, a3, a4]
    exact ⟨rfl, Below.refl _ _⟩
  · have hpos : 0 ≤ l := by omega
    clear hneg
    have q1 : 0 ≤ l % 4 / 2 := by omega
    have q2 : l % 4 / 2 ≤ 1 := by omega
    have q3 : 0 ≤ l / 4 := by omega
    by_cases hex : exB n (l % 4 / 2) [l / 4] = true
    · have hE := ex1.1 hex
      have hT : endB n l = true := end_iff.2 (by omega)
      have HE := Lib.hid (show endFrom n l = l / 4 ∧ endTo n l = stepM n (l % 4 / 2) (l / 4) (l % 2 + 1) ∧ endDir n l = l % 4 / 2 ∧ endHop n l = l % 2 + 1 by simp [endFrom, endTo, endDir, endHop, hT])
      have HEX := Lib.hid hex
      clear hex hT hE
      go_enter Tryd.func22, Tryd.ntmps22
      go_wp2_with (first
        | (go_at_call 35; with_reducible refine (exist1 n _ _ true HEX.out w _ (by omega) (by omega)).mono ?_; rintro e w' ⟨rfl, rfl⟩)
        | (go_at_call 25; refine (step_any n _ _ _ _ (hw.al _) (by omega) (by omega)).mono ?_; rintro e w5 ⟨rfl, hb5⟩))
      obtain ⟨a1, a2, a3, a4⟩ := HE.out
      rw [a1, a2, a3, a4]
      exact bodyPost_ret (v := .tuple #[.int .i64 (l / 4), .int .i64 (stepM n (l % 4 / 2) (l / 4) (l % 2 + 1)), .int .u8 (l % 4 / 2), .int .i64 (l % 2 + 1)]) (by simp [results, Tryd.results22, go_sem]) rfl ⟨rfl, below_then (HBEL.out _ _) hb5⟩
    · have hex' : exB n (l % 4 / 2) [l / 4] = false := bfalse hex
      have hF : endB n l = false := bfalse (fun h => hex (by have := end_iff.1 h; exact ex1.2 (by omega)))
      have HE := Lib.hid (show endFrom n l = -1 ∧ endTo n l = -1 ∧ endDir n l = 0 ∧ endHop n l = 0 by simp [endFrom, endTo, endDir, endHop, hF])
      have HEX := Lib.hid hex'
      clear hex hex' hF
      go_enter Tryd.func22, Tryd.ntmps22
      go_wp2_with (go_at_call 35; with_reducible refine (exist1 n _ _ false HEX.out w _ (by omega) (by omega)).mono ?_; rintro e w' ⟨rfl, rfl⟩)
      refine bodyPost_ret (v := .tuple #[.int .i64 (-1), .int .i64 (-1), .int .u8 0, .int .i64 0]) (by simp [results, Tryd.results22, go_sem]) rfl ?_
      obtain ⟨a1, a2, a3, a4⟩ := HE.out
      rw [a1, a2, a3, a4]
      exact ⟨rfl, HBEL.out _ _⟩
end Go.Proofs.YtgmoifbncijhdaaDoor
