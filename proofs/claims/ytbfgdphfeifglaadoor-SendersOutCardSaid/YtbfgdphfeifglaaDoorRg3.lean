/-
  The contracts of package rings' Distance, Source, Link, Ends, Place: what the mathematics says, and nothing that was there has turned. Conditions: the table of directions is as the program's text lays it; the numbers are of their kinds.
-/
import Derived.Test.YtbfgdphfeifglaaDoorRgQ
import Derived.Test.YtbfgdphfeifglaaDoorKinds
import Derived.IntWalk
namespace Go.Proofs.YtbfgdphfeifglaaDoor
open Go.RowKit Rg

/-- The table of directions reads as the program's text lays it. -/
def Ways (w : World) : Prop := 0 < w.heap.size ∧ w.cell? ⟨0, 0, none⟩ = some (.int .i64 1) ∧ w.cell? ⟨0, 1, none⟩ = some (.int .i64 0) ∧ w.cell? ⟨0, 2, none⟩ = some (.int .i64 (-1)) ∧ w.cell? ⟨0, 3, none⟩ = some (.int .i64 1)
theorem Ways.on {w w' : World} (h : Ways w) (hb : Below w.heap.size w w') : Ways w' := by
  obtain ⟨h0, h1, h2, h3, h4⟩ := h
  exact ⟨Nat.lt_of_lt_of_le h0 hb.size, (hb.cell (p := ⟨0, 0, none⟩) h0).trans h1, (hb.cell (p := ⟨0, 1, none⟩) h0).trans h2, (hb.cell (p := ⟨0, 2, none⟩) h0).trans h3, (hb.cell (p := ⟨0, 3, none⟩) h0).trans h4⟩
theorem Ways.al {w : World} (h : Ways w) (o : Obj) : Ways (w.alloc o) := h.on ((Below.refl _ _).alloc (Nat.le_refl _) o)

theorem round_any (n x : Int) (w : World) (h1 : 4 ≤ n) (h2 : n ≤ 16) :
    Calls Tryd.prog 90 #[.int .i64 n, .int .i64 x] w fun e w' => e = .returned (.int .i64 (x % n)) ∧ w = w' := by
  have hb := tmod_bd x n (by omega)
  have HE := Lib.hid (round_eq n x (by omega))
  obtain ⟨r, hr⟩ : ∃ r, r = x.tmod n := ⟨_, rfl⟩
  rw [← hr] at hb HE
  have hr' := hr.symm
  clear hr
  have hb' := tmod_bd (r + n) n (by omega)
  go_enter Tryd.func90, Tryd.ntmps90
  go_wp2
  go_ret
  exact ⟨ret_int (by first | exact HE.out | (rw [← HE.out]; rw [Int.tmod_eq_emod_of_nonneg (by omega)])), rfl⟩

theorem round_same (n x : Int) (w : World) (h1 : 4 ≤ n) (h2 : n ≤ 16) :
    Calls Tryd.prog 90 #[.int .i64 n, .int .i64 x] w fun e w' => e = .returned (.int .i64 (x % n)) ∧ w' = w :=
  (round_any n x w h1 h2).mono fun _ _ ⟨a, b⟩ => ⟨a, b.symm⟩

theorem all_snoc (n : Int) (xs : List Int) (k : Nat) (hk : k < xs.length) (h : (xs.take k).all (fun x => decide (0 ≤ x ∧ x < n)) = true) (hx : 0 ≤ xs.getD k 0 ∧ xs.getD k 0 < n) :
    (xs.take (k + 1)).all (fun x => decide (0 ≤ x ∧ x < n)) = true := by
  rw [List.take_succ_eq_append_getElem hk, List.all_append, h, ← getD_at xs k hk, List.all_cons, List.all_nil, decide_eq_true hx]
  rfl
theorem all_out (n : Int) (xs : List Int) (k : Nat) (hk : k < xs.length) (hx : ¬ (0 ≤ xs.getD k 0 ∧ xs.getD k 0 < n)) :
    xs.all (fun x => decide (0 ≤ x ∧ x < n)) = false := by
  rw [List.all_eq_false]
  exact ⟨xs[k], List.getElem_mem hk, by rw [← getD_at xs k hk]; simpa using hx⟩

theorem exist_any (n d : Int) (A : Option Addr) (m c : Nat) (xs : List Int) (w : World) (hx : Lies .i64 w w.heap.size A m xs) (hm : m ≤ 65536) (hd : 0 ≤ d) (hd' : d ≤ 255) :
    Calls Tryd.prog 89 #[.int .i64 n, .int .u8 d, .slice A m c] w fun e w' => e = .returned (.bool (exB n d xs)) ∧ w = w' := by
  have hl := hx.len
  by_cases hn1 : n < 4
  · have HF := Lib.hid (show exB n d xs = false by rw [exB, isB_not (by omega)]; rfl)
    go_enter Tryd.func89, Tryd.ntmps89
    go_wp2
    go_ret
    exact ⟨ret_bool HF.out.symm, rfl⟩
  · by_cases hn2 : 16 < n
    · have HF := Lib.hid (show exB n d xs = false by rw [exB, isB_not (by omega)]; rfl)
      have hn1' : 4 ≤ n := by omega
      clear hn1
      go_enter Tryd.func89, Tryd.ntmps89
      go_wp2
      go_ret
      exact ⟨ret_bool HF.out.symm, rfl⟩
    · by_cases hd2 : 2 ≤ d
      · have HF := Lib.hid (show exB n d xs = false by rw [exB, isB_not (by omega)]; rfl)
        have hn1' : 4 ≤ n := by omega
        have hn2' : n ≤ 16 := by omega
        clear hn1 hn2
        go_enter Tryd.func89, Tryd.ntmps89
        go_wp2
        go_ret
        exact ⟨ret_bool HF.out.symm, rfl⟩
      · have hn1' : 4 ≤ n := by omega
        have hn2' : n ≤ 16 := by omega
        have hd2' : d < 2 := by omega
        have HT := Lib.hid (show exB n d xs = xs.all (fun x => decide (0 ≤ x ∧ x < n)) by rw [exB, isB_iff.2 ⟨hn1', hn2', hd2'⟩]; rfl)
        have HL := Lib.hid hl
        clear hn1 hn2 hd2 hl
        go_enter Tryd.func89, Tryd.ntmps89
        go_wp2
        go_loop [22] (fun i => ∃ k : Nat, k ≤ m ∧ i = .int .i64 k ∧ Hid ((xs.take k).all (fun x => decide (0 ≤ x ∧ x < n)) = true)) (fun i => m - (intOf i).toNat)
        case atStart => exact ⟨0, Nat.zero_le _, rfl, Lib.hid rfl⟩
        case round =>
          obtain ⟨k, hk, rfl, ht⟩ := hrel
          by_cases hlt : k < m
          · obtain ⟨b, off, rfl, hb, hc⟩ := hx.at_ (by omega)
            have hcell := hc k hlt
            clear hc
            have HS := Lib.hid (all_snoc n xs k (by have := HL.out; omega) ht.out)
            have HO := Lib.hid (all_out n xs k (by have := HL.out; omega))
            obtain ⟨x, hx1⟩ : ∃ x, x = xs.getD k 0 := ⟨_, rfl⟩
            rw [← hx1] at hcell HS HO
            clear hx1
            by_cases hneg : x < 0
            · have HX := Lib.hid (HO.out (by omega))
              go_wp2
              go_ret
              exact ⟨ret_bool (by rw [HT.out, HX.out]), rfl⟩
            · by_cases hge : n ≤ x
              · have HX := Lib.hid (HO.out (by omega))
                have hneg' : 0 ≤ x := by omega
                clear hneg
                go_wp2
                go_ret
                exact ⟨ret_bool (by rw [HT.out, HX.out]), rfl⟩
              · have hneg' : 0 ≤ x := by omega
                have hge' : x < n := by omega
                clear hneg hge
                go_wp2
                go_round
                case rel => exact ⟨k + 1, by omega, by go_num, Lib.hid (HS.out ⟨hneg', hge'⟩)⟩
                case measure => simp [intOf]; omega
          · have HX := Lib.hid (show xs.all (fun x => decide (0 ≤ x ∧ x < n)) = true by have := ht.out; rw [List.take_of_length_le (by have := HL.out; omega)] at this; exact this)
            go_wp2
            go_ret
            exact ⟨ret_bool (by rw [HT.out, HX.out]), rfl⟩
end Go.Proofs.YtbfgdphfeifglaaDoor

namespace Go.Proofs.YtbfgdphfeifglaaDoor
open Go.RowKit Rg

theorem exist1 (n d x : Int) (b : Bool) (hb : exB n d [x] = b) (w : World) (t : TypeId) (hd : 0 ≤ d) (hd' : d ≤ 255) :
    Calls Tryd.prog 89 #[.int .i64 n, .int .u8 d, .slice (some ⟨w.heap.size, 0, none⟩) 1 1] (w.alloc (.cells #[.int .i64 x] t)) fun e w' => e = .returned (.bool b) ∧ (w.alloc (.cells #[.int .i64 x] t)) = w' := by
  subst hb
  exact exist_any n d _ 1 1 [x] _ (Lies.new w t .i64 [x] 1 rfl _ rfl) (by omega) hd hd'
theorem exist2 (n d x y : Int) (b : Bool) (hb : exB n d [x, y] = b) (w : World) (t : TypeId) (hd : 0 ≤ d) (hd' : d ≤ 255) :
    Calls Tryd.prog 89 #[.int .i64 n, .int .u8 d, .slice (some ⟨w.heap.size, 0, none⟩) 2 2] (w.alloc (.cells #[.int .i64 x, .int .i64 y] t)) fun e w' => e = .returned (.bool b) ∧ (w.alloc (.cells #[.int .i64 x, .int .i64 y] t)) = w' := by
  subst hb
  exact exist_any n d _ 2 2 [x, y] _ (Lies.new w t .i64 [x, y] 2 rfl _ rfl) (by omega) hd hd'

set_option maxRecDepth 100000 in
theorem step_any (n d x s : Int) (w : World) (hw : Ways w) (hd : 0 ≤ d) (hd' : d ≤ 255) :
    Calls Tryd.prog 57 #[.int .i64 n, .int .u8 d, .int .i64 x, .int .i64 s] w fun e w' => e = .returned (.int .i64 (stepM n d x s)) ∧ Below w.heap.size w w' := by
  have hbel : ∀ v t, Below w.heap.size w (w.alloc (.cells v t)) := fun v t => (Below.refl _ _).alloc (Nat.le_refl _) _
  have HBEL := Lib.hid hbel
  clear hbel
  by_cases hex : exB n d [x] = true
  · obtain ⟨h1, h2, h3, h4, h5⟩ := ex1.1 hex
    have HEX := Lib.hid hex
    obtain ⟨g0, g1, g2, g3, g4⟩ := hw
    have HE := Lib.hid (step_of s ⟨h1, h2, h3, h4, h5⟩)
    have hr := tmod_bd s n (by omega)
    have HA := Lib.hid (add_tmod n x s)
    have HS := Lib.hid (sub_tmod n x s)
    obtain ⟨r, er⟩ : ∃ r, r = s.tmod n := ⟨_, rfl⟩
    rw [← er] at hr HA HS
    have hr1 : -n < r := hr.1
    have hr2 : r < n := hr.2
    have hrw := er.symm
    clear er hr hex
    have w0 : IntKind.i64.wrap r = r := IntWalk.i64_in _ (by omega)
    have hz : n ≠ 0 := by omega
    have hz' : (n == 0) = false := by simpa using hz
    have HD : d = 0 ∨ d = 1 := by omega
    rcases HD with rfl | rfl
    · have w1 : IntKind.i64.wrap (1 * r) = r := by rw [Int.one_mul]; exact IntWalk.i64_in _ (by omega)
      have w2 : IntKind.i64.wrap (x + r) = x + r := IntWalk.i64_in _ (by omega)
      go_enter Tryd.func57, Tryd.ntmps57
      go_wp2_with (go_at_call 89; with_reducible refine (exist1 n 0 x true HEX.out w _ (by omega) (by omega)).mono ?_; rintro e w' ⟨rfl, rfl⟩)
      go_quiet ((go_at_call 90; exact Calls.quiet_of_same (round_same n _ _ h1 h2)))
      go_wp2
      go_ret
      exact ⟨ret_int (by rw [HE.out, sg, if_pos rfl]; exact HA.out), below_drewN (HBEL.out _ _) _⟩
    · have w1 : IntKind.i64.wrap (-1 * r) = -1 * r := IntWalk.i64_in _ (by omega)
      have w2 : IntKind.i64.wrap (x + -1 * r) = x + -1 * r := IntWalk.i64_in _ (by omega)
      go_enter Tryd.func57, Tryd.ntmps57
      go_wp2_with (go_at_call 89; with_reducible refine (exist1 n 1 x true HEX.out w _ (by omega) (by omega)).mono ?_; rintro e w' ⟨rfl, rfl⟩)
      go_quiet ((go_at_call 90; exact Calls.quiet_of_same (round_same n _ _ h1 h2)))
      go_wp2
      go_ret
      exact ⟨ret_int (by rw [HE.out, sg, if_neg (by decide)]; first | exact HS.out | (rw [← HS.out]; congr 1; omega)), below_drewN (HBEL.out _ _) _⟩
  · have hex' : exB n d [x] = false := bfalse hex
    have HE := Lib.hid (step_no s hex')
    have HEX := Lib.hid hex'
    clear hex hex'
    go_enter Tryd.func57, Tryd.ntmps57
    go_wp2_with (go_at_call 89; with_reducible refine (exist1 n d x false HEX.out w _ (by omega) (by omega)).mono ?_; rintro e w' ⟨rfl, rfl⟩)
    go_ret
    exact ⟨ret_int HE.out.symm, HBEL.out _ _⟩
end Go.Proofs.YtbfgdphfeifglaaDoor

namespace Go.Proofs.YtbfgdphfeifglaaDoor
open Go.RowKit Rg

set_option maxRecDepth 100000 in
theorem dist_any (n d a b : Int) (w : World) (hw : Ways w) (hd : 0 ≤ d) (hd' : d ≤ 255) :
    Calls Tryd.prog 95 #[.int .i64 n, .int .u8 d, .int .i64 a, .int .i64 b] w fun e w' => e = .returned (.int .i64 (distM n d a b)) ∧ Below w.heap.size w w' := by
  have hbel : ∀ v t, Below w.heap.size w (w.alloc (.cells v t)) := fun v t => (Below.refl _ _).alloc (Nat.le_refl _) _
  have HBEL := Lib.hid hbel
  clear hbel
  by_cases hex : exB n d [a, b] = true
  · obtain ⟨h1, h2, h3, h4, h5, h6, h7⟩ := ex2.1 hex
    have HEX := Lib.hid hex
    obtain ⟨g0, g1, g2, g3, g4⟩ := hw
    have HE := Lib.hid (dist_of ⟨h1, h2, h3, h4, h5, h6, h7⟩)
    clear hex
    have HD : d = 0 ∨ d = 1 := by omega
    rcases HD with rfl | rfl
    · go_enter Tryd.func95, Tryd.ntmps95
      go_wp2_with (first
        | (go_at_call 89; with_reducible refine (exist2 n 0 a b true HEX.out w _ (by omega) (by omega)).mono ?_; rintro e w' ⟨rfl, rfl⟩)
        | (go_at_call 90; refine (round_any n _ _ h1 h2).mono ?_; rintro e w' ⟨rfl, rfl⟩))
      go_ret
      exact ⟨ret_int (by rw [HE.out, sg, if_pos rfl]), HBEL.out _ _⟩
    · go_enter Tryd.func95, Tryd.ntmps95
      go_wp2_with (first
        | (go_at_call 89; with_reducible refine (exist2 n 1 a b true HEX.out w _ (by omega) (by omega)).mono ?_; rintro e w' ⟨rfl, rfl⟩)
        | (go_at_call 90; refine (round_any n _ _ h1 h2).mono ?_; rintro e w' ⟨rfl, rfl⟩))
      go_ret
      exact ⟨ret_int (by rw [HE.out, sg, if_neg (by decide)]), HBEL.out _ _⟩
  · have hex' : exB n d [a, b] = false := bfalse hex
    have HE := Lib.hid (dist_no hex')
    have HEX := Lib.hid hex'
    clear hex hex'
    go_enter Tryd.func95, Tryd.ntmps95
    go_wp2_with (go_at_call 89; with_reducible refine (exist2 n d a b false HEX.out w _ (by omega) (by omega)).mono ?_; rintro e w' ⟨rfl, rfl⟩)
    go_ret
    exact ⟨ret_int HE.out.symm, HBEL.out _ _⟩

set_option maxRecDepth 100000 in
theorem place_any (n d f x : Int) (w : World) (hw : Ways w) (hd : 0 ≤ d) (hd' : d ≤ 255) :
    Calls Tryd.prog 79 #[.int .i64 n, .int .u8 d, .int .i64 f, .int .i64 x] w fun e w' => e = .returned (.int .i64 (placeM n d f x)) ∧ Below w.heap.size w w' := by
  have hbel : ∀ v t, Below w.heap.size w (w.alloc (.cells v t)) := fun v t => (Below.refl _ _).alloc (Nat.le_refl _) _
  have HBEL := Lib.hid hbel
  clear hbel
  by_cases hex : exB n d [f, x] = true
  · obtain ⟨h1, h2, h3, h4, h5, h6, h7⟩ := ex2.1 hex
    have HEX := Lib.hid hex
    have HW := Lib.hid hw
    obtain ⟨g0, g1, g2, g3, g4⟩ := hw
    have HE := Lib.hid (show placeM n d f x = distM n d (stepM n 0 f d) x by rw [placeM, if_pos hex])
    clear hex
    have HD : d = 0 ∨ d = 1 := by omega
    rcases HD with rfl | rfl
    all_goals
      go_enter Tryd.func79, Tryd.ntmps79
      go_wp2_with (first
        | (go_at_call 89; with_reducible refine (exist2 n _ f x true HEX.out w _ (by omega) (by omega)).mono ?_; rintro e w' ⟨rfl, rfl⟩)
        | (go_at_call 57; refine (step_any n 0 f _ _ (HW.out.al _) (by omega) (by omega)).mono ?_; rintro e w5 ⟨rfl, hb5⟩)
        | (go_at_call 95; refine (dist_any n _ _ x _ ((HW.out.al _).on hb5) (by omega) (by omega)).mono ?_; rintro e w6 ⟨rfl, hb6⟩))
      go_ret
      exact ⟨ret_int HE.out.symm, below_then (below_then (HBEL.out _ _) hb5) hb6⟩
  · have hex' : exB n d [f, x] = false := bfalse hex
    have HE := Lib.hid (show placeM n d f x = -1 by rw [placeM, if_neg hex])
    have HEX := Lib.hid hex'
    clear hex hex'
    go_enter Tryd.func79, Tryd.ntmps79
    go_wp2_with (go_at_call 89; with_reducible refine (exist2 n d f x false HEX.out w _ (by omega) (by omega)).mono ?_; rintro e w' ⟨rfl, rfl⟩)
    go_ret
    exact ⟨ret_int HE.out.symm, HBEL.out _ _⟩

end Go.Proofs.YtbfgdphfeifglaaDoor

