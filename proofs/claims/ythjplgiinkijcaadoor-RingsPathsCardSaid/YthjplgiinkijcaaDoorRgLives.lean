/-
  The contract of the law's lives: the chapter's examples: true; nothing that was there has turned. Condition: the table of directions is as the program's text lays it.
-/
import Derived.Test.YthjplgiinkijcaaDoorRg4
import Derived.Test.YthjplgiinkijcaaDoorNums
namespace Go.Proofs.YthjplgiinkijcaaDoor
open Go.RowKit Rg

theorem ends_is (n l p q r s : Int) (hp : endFrom n l = p) (hq : endTo n l = q) (hr : endDir n l = r) (hs : endHop n l = s) (w : World) (hw : Ways w) (hl : -9223372036854775808 ≤ l) (hl' : l ≤ 9223372036854775807) :
    Calls Tryd.prog 15 #[.int .i64 n, .int .i64 l] w fun e w' => e = .returned (.tuple #[.int .i64 p, .int .i64 q, .int .u8 r, .int .i64 s]) ∧ Below w.heap.size w w' := by
  subst hp hq hr hs; exact ends_any n l w hw hl hl'
theorem step_is (n d x s p : Int) (hp : stepM n d x s = p) (w : World) (hw : Ways w) (hd : 0 ≤ d) (hd' : d ≤ 255) :
    Calls Tryd.prog 10 #[.int .i64 n, .int .u8 d, .int .i64 x, .int .i64 s] w fun e w' => e = .returned (.int .i64 p) ∧ Below w.heap.size w w' := by
  subst hp; exact step_any n d x s w hw hd hd'
theorem dist_is (n d a b p : Int) (hp : distM n d a b = p) (w : World) (hw : Ways w) (hd : 0 ≤ d) (hd' : d ≤ 255) :
    Calls Tryd.prog 12 #[.int .i64 n, .int .u8 d, .int .i64 a, .int .i64 b] w fun e w' => e = .returned (.int .i64 p) ∧ Below w.heap.size w w' := by
  subst hp; exact dist_any n d a b w hw hd hd'
theorem source_is (n d x h p : Int) (hp : sourceM n d x h = p) (w : World) (hw : Ways w) (hd : 0 ≤ d) (hd' : d ≤ 255) :
    Calls Tryd.prog 17 #[.int .i64 n, .int .u8 d, .int .i64 x, .int .i64 h] w fun e w' => e = .returned (.int .i64 p) ∧ Below w.heap.size w w' := by
  subst hp; exact source_any n d x h w hw hd hd'
theorem link_is (n d x h p : Int) (hp : linkM n d x h = p) (w : World) (hd : 0 ≤ d) (hd' : d ≤ 255) :
    Calls Tryd.prog 19 #[.int .i64 n, .int .u8 d, .int .i64 x, .int .i64 h] w fun e w' => e = .returned (.int .i64 p) ∧ Below w.heap.size w w' := by
  subst hp; exact link_any n d x h w hd hd'
theorem place_is (n d f x p : Int) (hp : placeM n d f x = p) (w : World) (hw : Ways w) (hd : 0 ≤ d) (hd' : d ≤ 255) :
    Calls Tryd.prog 24 #[.int .i64 n, .int .u8 d, .int .i64 f, .int .i64 x] w fun e w' => e = .returned (.int .i64 p) ∧ Below w.heap.size w w' := by
  subst hp; exact place_any n d f x w hw hd hd'
/-- A path, as a list. -/
theorem path_is (n d a b h : Int) (l : List Int) (k : Nat) (hk : l.length = k) (w : World) (hw : Ways w) (hd : 0 ≤ d) (hp : pathB n d a b h = true) (hl : pathL n d a b h = l) :
    Calls Tryd.prog 21 #[.int .i64 n, .int .u8 d, .int .i64 a, .int .i64 b, .int .i64 h] w fun e w' => ∃ g, e = .returned (.tuple #[.slice (some ⟨g, 0, none⟩) k k, .bool true]) ∧ w.heap.size ≤ g ∧ Lies .i64 w' w'.heap.size (some ⟨g, 0, none⟩) k l ∧ Blk w' g 3 (cellsOf .i64 l) ∧ Below w.heap.size w w' := by
  subst hl hk
  refine (path_yes n d a b h w hw hd hp).mono fun e w' q => ?_
  obtain ⟨g, h1, h2, h3, h4⟩ := q
  exact ⟨g, h1, h2, h3.lies rfl, h3, h4⟩

set_option maxRecDepth 100000 in
theorem lives_any (w : World) (hw : Ways w) :
    Calls Tryd.prog 14 #[] w fun e w' => e = .returned (.bool true) ∧ Below w.heap.size w w' := by
  have HE := Lib.hid (fun W hW => ends_is 6 15 3 1 1 2 (by decide) (by decide) (by decide) (by decide) W hW (by omega) (by omega))
  have HP := Lib.hid (fun W hW => path_is 6 0 0 5 1 [2, 4] 2 rfl W hW (by omega) (by decide) (by decide))
  have HP2 := Lib.hid (fun W hW => path_is 6 0 0 5 2 [1, 3] 2 rfl W hW (by omega) (by decide) (by decide))
  have HS := Lib.hid (fun W hW => step_is 6 1 1 2 5 (by decide) W hW (by omega) (by omega))
  have HD := Lib.hid (fun W hW => dist_is 6 0 4 1 3 (by decide) W hW (by omega) (by omega))
  have HO := Lib.hid (fun W hW => source_is 6 0 0 2 4 (by decide) W hW (by omega) (by omega))
  have HL := Lib.hid (fun W => link_is 6 1 3 2 15 (by decide) W (by omega) (by omega))
  have HC := Lib.hid (fun W hW => place_is 6 1 2 1 2 (by decide) W hW (by omega) (by omega))
  go_enter Tryd.func14, Tryd.ntmps14
  go_wp2_with (first
    | (go_at_call 15; (with_reducible refine (HE.out w hw).mono ?_); rintro e w1 ⟨rfl, b1⟩; have u1 := hw.on b1; clear HE hw)
    | (go_at_call 21; (with_reducible refine (HP.out w1 u1).mono ?_); rintro e w2 ⟨g2, rfl, -, l2, -, b2⟩; have u2 := u1.on b2; clear HP u1)
    | (go_at_call 21; (with_reducible refine (HP2.out w2 u2).mono ?_); rintro e w3 ⟨g3, rfl, -, l3, -, b3⟩; have u3 := u2.on b3; have l23 := l2.on b3; clear HP2 u2 l2)
    | (go_at_call 10; (with_reducible refine (HS.out w3 u3).mono ?_); rintro e w4 ⟨rfl, b4⟩; have u4 := u3.on b4; clear HS u3)
    | (go_at_call 12; (with_reducible refine (HD.out w4 u4).mono ?_); rintro e w5 ⟨rfl, b5⟩; have u5 := u4.on b5; clear HD u4)
    | (go_at_call 17; (with_reducible refine (HO.out w5 u5).mono ?_); rintro e w6 ⟨rfl, b6⟩; have u6 := u5.on b6; clear HO u5)
    | (go_at_call 19; (with_reducible refine (HL.out w6).mono ?_); rintro e w7 ⟨rfl, b7⟩; have u7 := u6.on b7; clear HL u6)
    | (go_at_call 24; (with_reducible refine (HC.out w7 u7).mono ?_); rintro e w8 ⟨rfl, b8⟩
       have B48 := below_then (below_then (below_then (below_then b4 b5) b6) b7) b8
       have l28 := l23.on B48
       have l38 := l3.on B48
       have B8 := Lib.hid (below_then (below_then (below_then b1 b2) b3) B48)
       clear HC u7 B48 b1 b2 b3 b4 b5 b6 b7 b8 l23 l3)
    | (go_at_call 23; have ln := Lies.new w8 3 .i64 [2, 4] 2 rfl #[.int .i64 2, .int .i64 4] rfl; have lo := l28.al (.cells #[.int .i64 2, .int .i64 4] 3); (with_reducible refine (sameNums_true _ _ 2 2 2 2 [2, 4] [2, 4] _ lo ln (by omega) (by omega) rfl).mono ?_); clear ln lo; rintro e w9 ⟨rfl, b9⟩
       have l39 := (l38.al _).on b9
       have B9 := Lib.hid (below_then (below_al B8.out _) b9)
       clear l28 l38 B8 b9)
    | (go_at_call 23; have ln := Lies.new w9 3 .i64 [1, 3] 2 rfl #[.int .i64 1, .int .i64 3] rfl; have lo := l39.al (.cells #[.int .i64 1, .int .i64 3] 3); (with_reducible refine (sameNums_true _ _ 2 2 2 2 [1, 3] [1, 3] _ lo ln (by omega) (by omega) rfl).mono ?_); clear ln lo; rintro e w10 ⟨rfl, b10⟩))
  go_ret
  exact ⟨rfl, below_then (below_al B9.out _) b10⟩
end Go.Proofs.YthjplgiinkijcaaDoor
