/-
  The contracts of package rings' Distance, Source, Link, Ends, Place: what the mathematics says, and nothing that was there has turned. Conditions: the table of directions is as the program's text lays it; the numbers are of their kinds.
-/
import Derived.Test.YtkejpkcaojidaaaGreatDoorKinds
import Derived.IntWalk
namespace Go.Proofs.YtkejpkcaojidaaaGreatDoor
set_option linter.unusedVariables false
set_option linter.unusedSimpArgs false
namespace Rg
open Go.RowKit

/-- Is there such a ring, and direction? -/
def isB (n d : Int) : Bool := decide (4 ≤ n ∧ n ≤ 16 ∧ d < 2)
/-- .. and are all of these its nodes? -/
def exB (n d : Int) (l : List Int) : Bool := isB n d && l.all (fun x => decide (0 ≤ x ∧ x < n))
/-- Steps in a direction, as a number that is added. -/
def sg (d s : Int) : Int := if d = 0 then s else -s
def stepM (n d x s : Int) : Int := if exB n d [x] = true then (x + sg d s) % n else -1
def distM (n d a b : Int) : Int := if exB n d [a, b] = true then sg d (b - a) % n else -1
def hopB (h : Int) : Bool := decide (h = 1 ∨ h = 2)
def sourceM (n d x h : Int) : Int := if hopB h = true then stepM n d x (-h) else -1
def linkM (n d x h : Int) : Int := if (exB n d [x] && hopB h) = true then 4 * x + 2 * d + h - 1 else -1
/-- Is there such a link? -/
def endB (n l : Int) : Bool := decide (4 ≤ n ∧ n ≤ 16 ∧ 0 ≤ l ∧ l < 4 * n)
def endFrom (n l : Int) : Int := if endB n l = true then l / 4 else -1
def endDir (n l : Int) : Int := if endB n l = true then l % 4 / 2 else 0
def endHop (n l : Int) : Int := if endB n l = true then l % 2 + 1 else 0
def endTo (n l : Int) : Int := if endB n l = true then stepM n (l % 4 / 2) (l / 4) (l % 2 + 1) else -1
def placeM (n d f x : Int) : Int := if exB n d [f, x] = true then distM n d (stepM n 0 f d) x else -1

theorem isB_iff {n d : Int} : isB n d = true ↔ 4 ≤ n ∧ n ≤ 16 ∧ d < 2 := by simp [isB]
theorem isB_not {n d : Int} (h : ¬ (4 ≤ n ∧ n ≤ 16 ∧ d < 2)) : isB n d = false := by simpa [isB] using h
theorem ex1 {n d x : Int} : exB n d [x] = true ↔ 4 ≤ n ∧ n ≤ 16 ∧ d < 2 ∧ 0 ≤ x ∧ x < n := by
  simp [exB, isB]; omega
theorem ex2 {n d x y : Int} : exB n d [x, y] = true ↔ 4 ≤ n ∧ n ≤ 16 ∧ d < 2 ∧ 0 ≤ x ∧ x < n ∧ 0 ≤ y ∧ y < n := by
  simp [exB, isB]; omega
theorem hop_iff {h : Int} : hopB h = true ↔ h = 1 ∨ h = 2 := by simp [hopB]
theorem end_iff {n l : Int} : endB n l = true ↔ 4 ≤ n ∧ n ≤ 16 ∧ 0 ≤ l ∧ l < 4 * n := by simp [endB]
theorem bfalse {b : Bool} (h : ¬ b = true) : b = false := by simpa using h

theorem step_of {n d x : Int} (s : Int) (h : 4 ≤ n ∧ n ≤ 16 ∧ d < 2 ∧ 0 ≤ x ∧ x < n) : stepM n d x s = (x + sg d s) % n := by rw [stepM, if_pos (ex1.2 h)]
theorem step_no {n d x : Int} (s : Int) (h : exB n d [x] = false) : stepM n d x s = -1 := by rw [stepM, if_neg (by simp [h])]
theorem dist_of {n d a b : Int} (h : 4 ≤ n ∧ n ≤ 16 ∧ d < 2 ∧ 0 ≤ a ∧ a < n ∧ 0 ≤ b ∧ b < n) : distM n d a b = sg d (b - a) % n := by rw [distM, if_pos (ex2.2 h)]
theorem dist_no {n d a b : Int} (h : exB n d [a, b] = false) : distM n d a b = -1 := by rw [distM, if_neg (by simp [h])]
theorem mod_bd (x n : Int) (h : 0 < n) : 0 ≤ x % n ∧ x % n < n := ⟨Int.emod_nonneg _ (by omega), Int.emod_lt_of_pos _ h⟩
theorem step_in {n d x : Int} (s : Int) (h : 4 ≤ n ∧ n ≤ 16 ∧ d < 2 ∧ 0 ≤ x ∧ x < n) : 0 ≤ stepM n d x s ∧ stepM n d x s < n := by
  rw [step_of s h]; exact mod_bd _ _ (by omega)
theorem dist_bd (n d a b : Int) : -1 ≤ distM n d a b ∧ distM n d a b ≤ 15 := by
  unfold distM
  split
  · rename_i h
    have := ex2.1 h
    have := mod_bd (sg d (b - a)) n (by omega)
    omega
  · omega
theorem dist_in {n d a b : Int} (h : 4 ≤ n ∧ n ≤ 16 ∧ d < 2 ∧ 0 ≤ a ∧ a < n ∧ 0 ≤ b ∧ b < n) : 0 ≤ distM n d a b ∧ distM n d a b < n := by
  rw [dist_of h]; exact mod_bd _ _ (by omega)

/-- The language's remainder, made one that is not below 0. -/
theorem round_eq (n x : Int) (h : 0 < n) : (x.tmod n + n).tmod n = x % n := by
  have hb := mod_bd x n h
  have e : x.tmod n = x % n ∨ x.tmod n = x % n - n := by
    rw [Int.tmod_eq_emod]
    split
    · left; omega
    · right; omega
  rcases e with e | e <;> rw [e]
  · rw [Int.tmod_eq_emod_of_nonneg (by omega)]; simp
  · rw [show x % n - n + n = x % n by omega, Int.tmod_eq_emod_of_nonneg (by omega)]; simp
theorem tmod_bd (x n : Int) (h : 0 < n) : -n < x.tmod n ∧ x.tmod n < n := by
  have hb := mod_bd x n h
  rw [Int.tmod_eq_emod]
  split <;> omega
/-- Whole rounds make no difference. -/
theorem tmod_cong (x n : Int) : ∃ k : Int, x.tmod n = x + n * k := by
  refine ⟨-(x.tdiv n), ?_⟩
  rw [Int.tmod_def, Int.mul_neg]; omega
theorem add_tmod (n y x : Int) : (y + x.tmod n) % n = (y + x) % n := by
  obtain ⟨k, e⟩ := tmod_cong x n
  rw [e, show y + (x + n * k) = (y + x) + n * k by omega, Int.add_mul_emod_self_left]
theorem sub_tmod (n y x : Int) : (y + -1 * x.tmod n) % n = (y + -x) % n := by
  obtain ⟨k, e⟩ := tmod_cong x n
  rw [e, show y + -1 * (x + n * k) = (y + -x) + n * (-k) by rw [Int.mul_neg]; omega, Int.add_mul_emod_self_left]
end Rg
end Go.Proofs.YtkejpkcaojidaaaGreatDoor

namespace Go.Proofs.YtkejpkcaojidaaaGreatDoor
namespace Rg
open Go.RowKit

def nodeAt (n d a : Int) (q : Nat) : Int := (a + sg d q) % n
theorem sg_add (d s t : Int) : sg d (s + t) = sg d s + sg d t := by unfold sg; split <;> omega
theorem sg_sg (d s : Int) : sg d (sg d s) = s := by unfold sg; split <;> omega
theorem sg_mul (d n k : Int) : sg d (n * k) = n * sg d k := by
  unfold sg; split
  · rfl
  · rw [Int.mul_neg]
/-- Of a number's remainder no more is lost than whole rounds. -/
theorem emod_cong (x n : Int) : ∃ k : Int, x % n = x + n * k := by
  refine ⟨-(x / n), ?_⟩
  rw [Int.emod_def, Int.mul_neg]; omega
/-- The end is as far as its distance says. -/
theorem node_end {n d a b : Int} (h : 4 ≤ n ∧ n ≤ 16 ∧ d < 2 ∧ 0 ≤ a ∧ a < n ∧ 0 ≤ b ∧ b < n) : nodeAt n d a (distM n d a b).toNat = b := by
  have hb := dist_in h
  rw [nodeAt, show (((distM n d a b).toNat : Nat) : Int) = distM n d a b by omega, dist_of h]
  obtain ⟨k, e⟩ := emod_cong (sg d (b - a)) n
  rw [e, sg_add, sg_sg, sg_mul, show a + (b - a + n * sg d k) = b + n * sg d k by omega, Int.add_mul_emod_self_left, Int.emod_eq_of_lt (by omega) (by omega)]
theorem nodeAt_in (n d a : Int) (q : Nat) (h : 0 < n) : 0 ≤ nodeAt n d a q ∧ nodeAt n d a q < n := mod_bd _ _ h
theorem node_dist (n d a : Int) (q : Nat) (hn : 4 ≤ n ∧ n ≤ 16 ∧ d < 2 ∧ 0 ≤ a ∧ a < n) (hq : (q : Int) < n) : distM n d a (nodeAt n d a q) = q := by
  have hb := nodeAt_in n d a q (by omega)
  rw [dist_of ⟨hn.1, hn.2.1, hn.2.2.1, hn.2.2.2.1, hn.2.2.2.2, hb.1, hb.2⟩, nodeAt]
  obtain ⟨k, e⟩ := emod_cong (a + sg d q) n
  rw [e, show a + sg d q + n * k - a = sg d q + n * k by omega, sg_add, sg_sg, sg_mul, Int.add_mul_emod_self_left, Int.emod_eq_of_lt (by omega) hq]
end Rg
end Go.Proofs.YtkejpkcaojidaaaGreatDoor

namespace Go.Proofs.YtkejpkcaojidaaaGreatDoor
namespace Rg
open Go.RowKit

theorem mod_near (n y : Int) (h1 : -n ≤ y) (h2 : y < 2 * n) : (y % n = y ∧ 0 ≤ y ∧ y < n) ∨ (y % n = y + n ∧ y < 0) ∨ (y % n = y - n ∧ n ≤ y) := by
  rcases Int.lt_or_le y 0 with h | h
  · right; left
    refine ⟨?_, h⟩
    have e : y % n = (y + n) % n := by simp
    rw [e]
    exact Int.emod_eq_of_lt (by omega) (by omega)
  · rcases Int.lt_or_le y n with k | k
    · left; exact ⟨Int.emod_eq_of_lt h k, h, k⟩
    · right; right
      refine ⟨?_, k⟩
      have e : y % n = (y - n) % n := by simp
      rw [e]
      exact Int.emod_eq_of_lt (by omega) (by omega)
theorem sg0 (s : Int) : sg 0 s = s := rfl
theorem sg1 (s : Int) : sg 1 s = -s := rfl

theorem node0 (n d a : Int) (h : 0 ≤ a ∧ a < n) : nodeAt n d a 0 = a := by
  rw [nodeAt, show sg d ((0 : Nat) : Int) = 0 by unfold sg; split <;> rfl, Int.add_zero, Int.emod_eq_of_lt h.1 h.2]

theorem end_no (n : Int) : endB n (4 * n) = false := bfalse (fun h => by have := end_iff.1 h; omega)

/-- Places. -/
theorem place_of {n d f x : Int} (h : 4 ≤ n ∧ n ≤ 16 ∧ 0 ≤ d ∧ d < 2 ∧ 0 ≤ f ∧ f < n ∧ 0 ≤ x ∧ x < n) : placeM n d f x = (sg d (x - f) + d) % n := by
  have hb := step_in (n := n) (d := 0) (x := f) d ⟨h.1, h.2.1, by omega, by omega, by omega⟩
  rw [placeM, if_pos (ex2.2 (by omega)), dist_of (by omega), step_of _ (by omega), sg0]
  have hd : d = 0 ∨ d = 1 := by omega
  have e1 := mod_near n (f + d) (by omega) (by omega)
  rcases hd with rfl | rfl
  · rw [sg0, sg0]
    have e2 := mod_near n (x - (f + 0) % n) (by omega) (by omega)
    have e3 := mod_near n (x - f + 0) (by omega) (by omega)
    omega
  · rw [sg1, sg1]
    have e2 := mod_near n (-(x - (f + 1) % n)) (by omega) (by omega)
    have e3 := mod_near n (-(x - f) + 1) (by omega) (by omega)
    omega
theorem place_in {n d f x : Int} (h : 4 ≤ n ∧ n ≤ 16 ∧ 0 ≤ d ∧ d < 2 ∧ 0 ≤ f ∧ f < n ∧ 0 ≤ x ∧ x < n) : 0 ≤ placeM n d f x ∧ placeM n d f x < n := by
  rw [place_of h]; exact mod_bd _ _ (by omega)
end Rg
end Go.Proofs.YtkejpkcaojidaaaGreatDoor

namespace Go.Proofs.YtkejpkcaojidaaaGreatDoor
open Go.RowKit Rg

/-- The table of directions reads as the program's text lays it. -/
def Ways (w : World) : Prop := 0 < w.heap.size ∧ w.cell? ⟨0, 0, none⟩ = some (.int .i64 1) ∧ w.cell? ⟨0, 1, none⟩ = some (.int .i64 0) ∧ w.cell? ⟨0, 2, none⟩ = some (.int .i64 (-1)) ∧ w.cell? ⟨0, 3, none⟩ = some (.int .i64 1)
theorem Ways.on {w w' : World} (h : Ways w) (hb : Below w.heap.size w w') : Ways w' := by
  obtain ⟨h0, h1, h2, h3, h4⟩ := h
  exact ⟨Nat.lt_of_lt_of_le h0 hb.size, (hb.cell (p := ⟨0, 0, none⟩) h0).trans h1, (hb.cell (p := ⟨0, 1, none⟩) h0).trans h2, (hb.cell (p := ⟨0, 2, none⟩) h0).trans h3, (hb.cell (p := ⟨0, 3, none⟩) h0).trans h4⟩
theorem Ways.al {w : World} (h : Ways w) (o : Obj) : Ways (w.alloc o) := h.on ((Below.refl _ _).alloc (Nat.le_refl _) o)

theorem isHop_any (h : Int) (w : World) : Calls Tryz.prog 89 #[.int .i64 h] w fun e w' => e = .returned (.bool (hopB h)) ∧ w = w' := by
  by_cases h1 : h = 1
  · subst h1
    go_enter Tryz.func89, Tryz.ntmps89
    go_wp2
    go_ret
    exact ⟨rfl, rfl⟩
  · by_cases h2 : h = 2
    · subst h2
      go_enter Tryz.func89, Tryz.ntmps89
      go_wp2
      go_ret
      exact ⟨rfl, rfl⟩
    · have e1 : (h == 1) = false := by simpa using h1
      have e2 : (h == 2) = false := by simpa using h2
      have HF := Lib.hid (show hopB h = false by simp [hopB, h1, h2])
      clear h1 h2
      go_enter Tryz.func89, Tryz.ntmps89
      go_wp2
      go_ret
      exact ⟨ret_bool HF.out.symm, rfl⟩

theorem round_any (n x : Int) (w : World) (h1 : 4 ≤ n) (h2 : n ≤ 16) :
    Calls Tryz.prog 114 #[.int .i64 n, .int .i64 x] w fun e w' => e = .returned (.int .i64 (x % n)) ∧ w = w' := by
  have hb := tmod_bd x n (by omega)
  have HE := Lib.hid (round_eq n x (by omega))
  obtain ⟨r, hr⟩ : ∃ r, r = x.tmod n := ⟨_, rfl⟩
  rw [← hr] at hb HE
  have hr' := hr.symm
  clear hr
  have hb' := tmod_bd (r + n) n (by omega)
  go_enter Tryz.func114, Tryz.ntmps114
  go_wp2
  go_ret
  exact ⟨ret_int (by first | exact HE.out | (rw [← HE.out]; rw [Int.tmod_eq_emod_of_nonneg (by omega)])), rfl⟩

theorem round_same (n x : Int) (w : World) (h1 : 4 ≤ n) (h2 : n ≤ 16) :
    Calls Tryz.prog 114 #[.int .i64 n, .int .i64 x] w fun e w' => e = .returned (.int .i64 (x % n)) ∧ w' = w :=
  (round_any n x w h1 h2).mono fun _ _ ⟨a, b⟩ => ⟨a, b.symm⟩

theorem all_snoc (n : Int) (xs : List Int) (k : Nat) (hk : k < xs.length) (h : (xs.take k).all (fun x => decide (0 ≤ x ∧ x < n)) = true) (hx : 0 ≤ xs.getD k 0 ∧ xs.getD k 0 < n) :
    (xs.take (k + 1)).all (fun x => decide (0 ≤ x ∧ x < n)) = true := by
  rw [List.take_succ_eq_append_getElem hk, List.all_append, h, ← getD_at xs k hk, List.all_cons, List.all_nil, decide_eq_true hx]
  rfl
theorem all_out (n : Int) (xs : List Int) (k : Nat) (hk : k < xs.length) (hx : ¬ (0 ≤ xs.getD k 0 ∧ xs.getD k 0 < n)) :
    xs.all (fun x => decide (0 ≤ x ∧ x < n)) = false := by
  rw [List.all_eq_false]
  exact ⟨xs[k], List.getElem_mem hk, by rw [← getD_at xs k hk]; simpa using hx⟩

theorem exist_any (n d : Int) (A : Option Addr) (m c : Nat) (xs : List Int) (w : World) (hx : Lies .i64 w w.heap.size A m xs) (hm : m ≤ 65536) (hd : 0 ≤ d) (hd' : d ≤ 255) :
    Calls Tryz.prog 88 #[.int .i64 n, .int .u8 d, .slice A m c] w fun e w' => e = .returned (.bool (exB n d xs)) ∧ w = w' := by
  have hl := hx.len
  by_cases hn1 : n < 4
  · have HF := Lib.hid (show exB n d xs = false by rw [exB, isB_not (by omega)]; rfl)
    go_enter Tryz.func88, Tryz.ntmps88
    go_wp2
    go_ret
    exact ⟨ret_bool HF.out.symm, rfl⟩
  · by_cases hn2 : 16 < n
    · have HF := Lib.hid (show exB n d xs = false by rw [exB, isB_not (by omega)]; rfl)
      have hn1' : 4 ≤ n := by omega
      clear hn1
      go_enter Tryz.func88, Tryz.ntmps88
      go_wp2
      go_ret
      exact ⟨ret_bool HF.out.symm, rfl⟩
    · by_cases hd2 : 2 ≤ d
      · have HF := Lib.hid (show exB n d xs = false by rw [exB, isB_not (by omega)]; rfl)
        have hn1' : 4 ≤ n := by omega
        have hn2' : n ≤ 16 := by omega
        clear hn1 hn2
        go_enter Tryz.func88, Tryz.ntmps88
        go_wp2
        go_ret
        exact ⟨ret_bool HF.out.symm, rfl⟩
      · have hn1' : 4 ≤ n := by omega
        have hn2' : n ≤ 16 := by omega
        have hd2' : d < 2 := by omega
        have HT := Lib.hid (show exB n d xs = xs.all (fun x => decide (0 ≤ x ∧ x < n)) by rw [exB, isB_iff.2 ⟨hn1', hn2', hd2'⟩]; rfl)
        have HL := Lib.hid hl
        clear hn1 hn2 hd2 hl
        go_enter Tryz.func88, Tryz.ntmps88
        go_wp2
        go_loop [22] (fun i => ∃ k : Nat, k ≤ m ∧ i = .int .i64 k ∧ Hid ((xs.take k).all (fun x => decide (0 ≤ x ∧ x < n)) = true)) (fun i => m - (intOf i).toNat)
        case atStart => exact ⟨0, Nat.zero_le _, rfl, Lib.hid rfl⟩
        case round =>
          obtain ⟨k, hk, rfl, ht⟩ := hrel
          by_cases hlt : k < m
          · obtain ⟨b, off, rfl, hb, hc⟩ := hx.at_ (by omega)
            have hcell := hc k hlt
            clear hc
            have HS := Lib.hid (all_snoc n xs k (by have := HL.out; omega) ht.out)
            have HO := Lib.hid (all_out n xs k (by have := HL.out; omega))
            obtain ⟨x, hx1⟩ : ∃ x, x = xs.getD k 0 := ⟨_, rfl⟩
            rw [← hx1] at hcell HS HO
            clear hx1
            by_cases hneg : x < 0
            · have HX := Lib.hid (HO.out (by omega))
              go_wp2
              go_ret
              exact ⟨ret_bool (by rw [HT.out, HX.out]), rfl⟩
            · by_cases hge : n ≤ x
              · have HX := Lib.hid (HO.out (by omega))
                have hneg' : 0 ≤ x := by omega
                clear hneg
                go_wp2
                go_ret
                exact ⟨ret_bool (by rw [HT.out, HX.out]), rfl⟩
              · have hneg' : 0 ≤ x := by omega
                have hge' : x < n := by omega
                clear hneg hge
                go_wp2
                go_round
                case rel => exact ⟨k + 1, by omega, by go_num, Lib.hid (HS.out ⟨hneg', hge'⟩)⟩
                case measure => simp [intOf]; omega
          · have HX := Lib.hid (show xs.all (fun x => decide (0 ≤ x ∧ x < n)) = true by have := ht.out; rw [List.take_of_length_le (by have := HL.out; omega)] at this; exact this)
            go_wp2
            go_ret
            exact ⟨ret_bool (by rw [HT.out, HX.out]), rfl⟩
end Go.Proofs.YtkejpkcaojidaaaGreatDoor

namespace Go.Proofs.YtkejpkcaojidaaaGreatDoor
open Go.RowKit Rg

theorem exist1 (n d x : Int) (b : Bool) (hb : exB n d [x] = b) (w : World) (t : TypeId) (hd : 0 ≤ d) (hd' : d ≤ 255) :
    Calls Tryz.prog 88 #[.int .i64 n, .int .u8 d, .slice (some ⟨w.heap.size, 0, none⟩) 1 1] (w.alloc (.cells #[.int .i64 x] t)) fun e w' => e = .returned (.bool b) ∧ (w.alloc (.cells #[.int .i64 x] t)) = w' := by
  subst hb
  exact exist_any n d _ 1 1 [x] _ (Lies.new w t .i64 [x] 1 rfl _ rfl) (by omega) hd hd'
theorem exist2 (n d x y : Int) (b : Bool) (hb : exB n d [x, y] = b) (w : World) (t : TypeId) (hd : 0 ≤ d) (hd' : d ≤ 255) :
    Calls Tryz.prog 88 #[.int .i64 n, .int .u8 d, .slice (some ⟨w.heap.size, 0, none⟩) 2 2] (w.alloc (.cells #[.int .i64 x, .int .i64 y] t)) fun e w' => e = .returned (.bool b) ∧ (w.alloc (.cells #[.int .i64 x, .int .i64 y] t)) = w' := by
  subst hb
  exact exist_any n d _ 2 2 [x, y] _ (Lies.new w t .i64 [x, y] 2 rfl _ rfl) (by omega) hd hd'

set_option maxRecDepth 100000 in
theorem step_any (n d x s : Int) (w : World) (hw : Ways w) (hd : 0 ≤ d) (hd' : d ≤ 255) :
    Calls Tryz.prog 94 #[.int .i64 n, .int .u8 d, .int .i64 x, .int .i64 s] w fun e w' => e = .returned (.int .i64 (stepM n d x s)) ∧ Below w.heap.size w w' := by
  have hbel : ∀ v t, Below w.heap.size w (w.alloc (.cells v t)) := fun v t => (Below.refl _ _).alloc (Nat.le_refl _) _
  have HBEL := Lib.hid hbel
  clear hbel
  by_cases hex : exB n d [x] = true
  · obtain ⟨h1, h2, h3, h4, h5⟩ := ex1.1 hex
    have HEX := Lib.hid hex
    obtain ⟨g0, g1, g2, g3, g4⟩ := hw
    have HE := Lib.hid (step_of s ⟨h1, h2, h3, h4, h5⟩)
    have hr := tmod_bd s n (by omega)
    have HA := Lib.hid (add_tmod n x s)
    have HS := Lib.hid (sub_tmod n x s)
    obtain ⟨r, er⟩ : ∃ r, r = s.tmod n := ⟨_, rfl⟩
    rw [← er] at hr HA HS
    have hr1 : -n < r := hr.1
    have hr2 : r < n := hr.2
    have hrw := er.symm
    clear er hr hex
    have w0 : IntKind.i64.wrap r = r := IntWalk.i64_in _ (by omega)
    have hz : n ≠ 0 := by omega
    have hz' : (n == 0) = false := by simpa using hz
    have HD : d = 0 ∨ d = 1 := by omega
    rcases HD with rfl | rfl
    · have w1 : IntKind.i64.wrap (1 * r) = r := by rw [Int.one_mul]; exact IntWalk.i64_in _ (by omega)
      have w2 : IntKind.i64.wrap (x + r) = x + r := IntWalk.i64_in _ (by omega)
      go_enter Tryz.func94, Tryz.ntmps94
      go_wp2_with (go_at_call 88; with_reducible refine (exist1 n 0 x true HEX.out w _ (by omega) (by omega)).mono ?_; rintro e w' ⟨rfl, rfl⟩)
      go_quiet ((go_at_call 114; exact Calls.quiet_of_same (round_same n _ _ h1 h2)))
      go_wp2
      go_ret
      exact ⟨ret_int (by rw [HE.out, sg, if_pos rfl]; exact HA.out), below_drewN (HBEL.out _ _) _⟩
    · have w1 : IntKind.i64.wrap (-1 * r) = -1 * r := IntWalk.i64_in _ (by omega)
      have w2 : IntKind.i64.wrap (x + -1 * r) = x + -1 * r := IntWalk.i64_in _ (by omega)
      go_enter Tryz.func94, Tryz.ntmps94
      go_wp2_with (go_at_call 88; with_reducible refine (exist1 n 1 x true HEX.out w _ (by omega) (by omega)).mono ?_; rintro e w' ⟨rfl, rfl⟩)
      go_quiet ((go_at_call 114; exact Calls.quiet_of_same (round_same n _ _ h1 h2)))
      go_wp2
      go_ret
      exact ⟨ret_int (by rw [HE.out, sg, if_neg (by decide)]; first | exact HS.out | (rw [← HS.out]; congr 1; omega)), below_drewN (HBEL.out _ _) _⟩
  · have hex' : exB n d [x] = false := bfalse hex
    have HE := Lib.hid (step_no s hex')
    have HEX := Lib.hid hex'
    clear hex hex'
    go_enter Tryz.func94, Tryz.ntmps94
    go_wp2_with (go_at_call 88; with_reducible refine (exist1 n d x false HEX.out w _ (by omega) (by omega)).mono ?_; rintro e w' ⟨rfl, rfl⟩)
    go_ret
    exact ⟨ret_int HE.out.symm, HBEL.out _ _⟩
end Go.Proofs.YtkejpkcaojidaaaGreatDoor

namespace Go.Proofs.YtkejpkcaojidaaaGreatDoor
open Go.RowKit Rg

set_option maxRecDepth 100000 in
theorem dist_any (n d a b : Int) (w : World) (hw : Ways w) (hd : 0 ≤ d) (hd' : d ≤ 255) :
    Calls Tryz.prog 93 #[.int .i64 n, .int .u8 d, .int .i64 a, .int .i64 b] w fun e w' => e = .returned (.int .i64 (distM n d a b)) ∧ Below w.heap.size w w' := by
  have hbel : ∀ v t, Below w.heap.size w (w.alloc (.cells v t)) := fun v t => (Below.refl _ _).alloc (Nat.le_refl _) _
  have HBEL := Lib.hid hbel
  clear hbel
  by_cases hex : exB n d [a, b] = true
  · obtain ⟨h1, h2, h3, h4, h5, h6, h7⟩ := ex2.1 hex
    have HEX := Lib.hid hex
    obtain ⟨g0, g1, g2, g3, g4⟩ := hw
    have HE := Lib.hid (dist_of ⟨h1, h2, h3, h4, h5, h6, h7⟩)
    clear hex
    have HD : d = 0 ∨ d = 1 := by omega
    rcases HD with rfl | rfl
    · go_enter Tryz.func93, Tryz.ntmps93
      go_wp2_with (first
        | (go_at_call 88; with_reducible refine (exist2 n 0 a b true HEX.out w _ (by omega) (by omega)).mono ?_; rintro e w' ⟨rfl, rfl⟩)
        | (go_at_call 114; refine (round_any n _ _ h1 h2).mono ?_; rintro e w' ⟨rfl, rfl⟩))
      go_ret
      exact ⟨ret_int (by rw [HE.out, sg, if_pos rfl]), HBEL.out _ _⟩
    · go_enter Tryz.func93, Tryz.ntmps93
      go_wp2_with (first
        | (go_at_call 88; with_reducible refine (exist2 n 1 a b true HEX.out w _ (by omega) (by omega)).mono ?_; rintro e w' ⟨rfl, rfl⟩)
        | (go_at_call 114; refine (round_any n _ _ h1 h2).mono ?_; rintro e w' ⟨rfl, rfl⟩))
      go_ret
      exact ⟨ret_int (by rw [HE.out, sg, if_neg (by decide)]), HBEL.out _ _⟩
  · have hex' : exB n d [a, b] = false := bfalse hex
    have HE := Lib.hid (dist_no hex')
    have HEX := Lib.hid hex'
    clear hex hex'
    go_enter Tryz.func93, Tryz.ntmps93
    go_wp2_with (go_at_call 88; with_reducible refine (exist2 n d a b false HEX.out w _ (by omega) (by omega)).mono ?_; rintro e w' ⟨rfl, rfl⟩)
    go_ret
    exact ⟨ret_int HE.out.symm, HBEL.out _ _⟩

theorem isHop_b (h : Int) (b : Bool) (hb : hopB h = b) (w : World) : Calls Tryz.prog 89 #[.int .i64 h] w fun e w' => e = .returned (.bool b) ∧ w = w' := by
  subst hb; exact isHop_any h w

set_option maxRecDepth 100000 in
theorem source_any (n d x h : Int) (w : World) (hw : Ways w) (hd : 0 ≤ d) (hd' : d ≤ 255) :
    Calls Tryz.prog 86 #[.int .i64 n, .int .u8 d, .int .i64 x, .int .i64 h] w fun e w' => e = .returned (.int .i64 (sourceM n d x h)) ∧ Below w.heap.size w w' := by
  by_cases hh : hopB h = true
  · have HE := Lib.hid (show sourceM n d x h = stepM n d x (-h) by rw [sourceM, if_pos hh])
    have HH := Lib.hid hh
    have hb := hop_iff.1 hh
    have hb1 : 1 ≤ h := by omega
    have hb2 : h ≤ 2 := by omega
    clear hh hb
    go_enter Tryz.func86, Tryz.ntmps86
    go_wp2_with (first
      | (go_at_call 89; with_reducible refine (isHop_b h true HH.out w).mono ?_; rintro e w' ⟨rfl, rfl⟩)
      | (go_at_call 94; refine (step_any n d x _ w hw hd hd').mono ?_; rintro e w' ⟨rfl, hb⟩))
    go_ret
    exact ⟨ret_int HE.out.symm, hb⟩
  · have hh' : hopB h = false := bfalse hh
    have HE := Lib.hid (show sourceM n d x h = -1 by rw [sourceM, if_neg hh])
    have HH := Lib.hid hh'
    clear hh hh'
    go_enter Tryz.func86, Tryz.ntmps86
    go_wp2_with (go_at_call 89; with_reducible refine (isHop_b h false HH.out w).mono ?_; rintro e w' ⟨rfl, rfl⟩)
    go_ret
    exact ⟨ret_int HE.out.symm, Below.refl _ _⟩

set_option maxRecDepth 100000 in
theorem link_any (n d x h : Int) (w : World) (hd : 0 ≤ d) (hd' : d ≤ 255) :
    Calls Tryz.prog 47 #[.int .i64 n, .int .u8 d, .int .i64 x, .int .i64 h] w fun e w' => e = .returned (.int .i64 (linkM n d x h)) ∧ Below w.heap.size w w' := by
  have hbel : ∀ v t, Below w.heap.size w (w.alloc (.cells v t)) := fun v t => (Below.refl _ _).alloc (Nat.le_refl _) _
  have HBEL := Lib.hid hbel
  clear hbel
  by_cases hex : exB n d [x] = true
  · obtain ⟨h1, h2, h3, h4, h5⟩ := ex1.1 hex
    have HEX := Lib.hid hex
    by_cases hh : hopB h = true
    · have HE := Lib.hid (show linkM n d x h = 4 * x + 2 * d + h - 1 by rw [linkM, hex, hh]; rfl)
      have HH := Lib.hid hh
      have hb := hop_iff.1 hh
      have hb1 : 1 ≤ h := by omega
      have hb2 : h ≤ 2 := by omega
      clear hh hb hex
      go_enter Tryz.func47, Tryz.ntmps47
      go_wp2_with (first
        | (go_at_call 88; with_reducible refine (exist1 n d x true HEX.out w _ (by omega) (by omega)).mono ?_; rintro e w' ⟨rfl, rfl⟩)
        | (go_at_call 89; with_reducible refine (isHop_b h true HH.out _).mono ?_; rintro e w' ⟨rfl, rfl⟩))
      go_ret
      exact ⟨ret_int HE.out.symm, HBEL.out _ _⟩
    · have hh' : hopB h = false := bfalse hh
      have HE := Lib.hid (show linkM n d x h = -1 by rw [linkM, hex, hh']; rfl)
      have HH := Lib.hid hh'
      clear hh hh' hex
      go_enter Tryz.func47, Tryz.ntmps47
      go_wp2_with (first
        | (go_at_call 88; with_reducible refine (exist1 n d x true HEX.out w _ (by omega) (by omega)).mono ?_; rintro e w' ⟨rfl, rfl⟩)
        | (go_at_call 89; with_reducible refine (isHop_b h false HH.out _).mono ?_; rintro e w' ⟨rfl, rfl⟩))
      go_ret
      exact ⟨ret_int HE.out.symm, HBEL.out _ _⟩
  · have hex' : exB n d [x] = false := bfalse hex
    have HE := Lib.hid (show linkM n d x h = -1 by rw [linkM, hex']; rfl)
    have HEX := Lib.hid hex'
    clear hex hex'
    go_enter Tryz.func47, Tryz.ntmps47
    go_wp2_with (go_at_call 88; with_reducible refine (exist1 n d x false HEX.out w _ (by omega) (by omega)).mono ?_; rintro e w' ⟨rfl, rfl⟩)
    go_ret
    exact ⟨ret_int HE.out.symm, HBEL.out _ _⟩

set_option maxRecDepth 100000 in
theorem place_any (n d f x : Int) (w : World) (hw : Ways w) (hd : 0 ≤ d) (hd' : d ≤ 255) :
    Calls Tryz.prog 52 #[.int .i64 n, .int .u8 d, .int .i64 f, .int .i64 x] w fun e w' => e = .returned (.int .i64 (placeM n d f x)) ∧ Below w.heap.size w w' := by
  have hbel : ∀ v t, Below w.heap.size w (w.alloc (.cells v t)) := fun v t => (Below.refl _ _).alloc (Nat.le_refl _) _
  have HBEL := Lib.hid hbel
  clear hbel
  by_cases hex : exB n d [f, x] = true
  · obtain ⟨h1, h2, h3, h4, h5, h6, h7⟩ := ex2.1 hex
    have HEX := Lib.hid hex
    have HW := Lib.hid hw
    obtain ⟨g0, g1, g2, g3, g4⟩ := hw
    have HE := Lib.hid (show placeM n d f x = distM n d (stepM n 0 f d) x by rw [placeM, if_pos hex])
    clear hex
    have HD : d = 0 ∨ d = 1 := by omega
    rcases HD with rfl | rfl
    all_goals
      go_enter Tryz.func52, Tryz.ntmps52
      go_wp2_with (first
        | (go_at_call 88; with_reducible refine (exist2 n _ f x true HEX.out w _ (by omega) (by omega)).mono ?_; rintro e w' ⟨rfl, rfl⟩)
        | (go_at_call 94; refine (step_any n 0 f _ _ (HW.out.al _) (by omega) (by omega)).mono ?_; rintro e w5 ⟨rfl, hb5⟩)
        | (go_at_call 93; refine (dist_any n _ _ x _ ((HW.out.al _).on hb5) (by omega) (by omega)).mono ?_; rintro e w6 ⟨rfl, hb6⟩))
      go_ret
      exact ⟨ret_int HE.out.symm, below_then (below_then (HBEL.out _ _) hb5) hb6⟩
  · have hex' : exB n d [f, x] = false := bfalse hex
    have HE := Lib.hid (show placeM n d f x = -1 by rw [placeM, if_neg hex])
    have HEX := Lib.hid hex'
    clear hex hex'
    go_enter Tryz.func52, Tryz.ntmps52
    go_wp2_with (go_at_call 88; with_reducible refine (exist2 n d f x false HEX.out w _ (by omega) (by omega)).mono ?_; rintro e w' ⟨rfl, rfl⟩)
    go_ret
    exact ⟨ret_int HE.out.symm, HBEL.out _ _⟩

set_option maxRecDepth 100000 in
theorem ends_any (n l : Int) (w : World) (hw : Ways w) (hl : -9223372036854775808 ≤ l) (hl' : l ≤ 9223372036854775807) :
    Calls Tryz.prog 109 #[.int .i64 n, .int .i64 l] w fun e w' => e = .returned (.tuple #[.int .i64 (endFrom n l), .int .i64 (endTo n l), .int .u8 (endDir n l), .int .i64 (endHop n l)]) ∧ Below w.heap.size w w' := by
  have hbel : ∀ v t, Below w.heap.size w (w.alloc (.cells v t)) := fun v t => (Below.refl _ _).alloc (Nat.le_refl _) _
  have HBEL := Lib.hid hbel
  clear hbel
  by_cases hneg : l < 0
  · have hF : endB n l = false := bfalse (fun h => by have := end_iff.1 h; omega)
    have HE := Lib.hid (show endFrom n l = -1 ∧ endTo n l = -1 ∧ endDir n l = 0 ∧ endHop n l = 0 by simp [endFrom, endTo, endDir, endHop, hF])
    clear hF
    go_enter Tryz.func109, Tryz.ntmps109
    go_wp2
    refine bodyPost_ret (v := .tuple #[.int .i64 (-1), .int .i64 (-1), .int .u8 0, .int .i64 0]) (by simp [results, Tryz.results109, go_sem]) rfl ?_
    obtain ⟨a1, a2, a3, a4⟩ := HE.out
    rw [a1, a2, a3, a4]
    exact ⟨rfl, Below.refl _ _⟩
  · have hpos : 0 ≤ l := by omega
    clear hneg
    have q1 : 0 ≤ l % 4 / 2 := by omega
    have q2 : l % 4 / 2 ≤ 1 := by omega
    have q3 : 0 ≤ l / 4 := by omega
    by_cases hex : exB n (l % 4 / 2) [l / 4] = true
    · have hE := ex1.1 hex
      have hT : endB n l = true := end_iff.2 (by omega)
      have HE := Lib.hid (show endFrom n l = l / 4 ∧ endTo n l = stepM n (l % 4 / 2) (l / 4) (l % 2 + 1) ∧ endDir n l = l % 4 / 2 ∧ endHop n l = l % 2 + 1 by simp [endFrom, endTo, endDir, endHop, hT])
      have HEX := Lib.hid hex
      clear hex hT hE
      go_enter Tryz.func109, Tryz.ntmps109
      go_wp2_with (first
        | (go_at_call 88; with_reducible refine (exist1 n _ _ true HEX.out w _ (by omega) (by omega)).mono ?_; rintro e w' ⟨rfl, rfl⟩)
        | (go_at_call 94; refine (step_any n _ _ _ _ (hw.al _) (by omega) (by omega)).mono ?_; rintro e w5 ⟨rfl, hb5⟩))
      obtain ⟨a1, a2, a3, a4⟩ := HE.out
      rw [a1, a2, a3, a4]
      exact bodyPost_ret (v := .tuple #[.int .i64 (l / 4), .int .i64 (stepM n (l % 4 / 2) (l / 4) (l % 2 + 1)), .int .u8 (l % 4 / 2), .int .i64 (l % 2 + 1)]) (by simp [results, Tryz.results109, go_sem]) rfl ⟨rfl, below_then (HBEL.out _ _) hb5⟩
    · have hex' : exB n (l % 4 / 2) [l / 4] = false := bfalse hex
      have hF : endB n l = false := bfalse (fun h => hex (by have := end_iff.1 h; exact ex1.2 (by omega)))
      have HE := Lib.hid (show endFrom n l = -1 ∧ endTo n l = -1 ∧ endDir n l = 0 ∧ endHop n l = 0 by simp [endFrom, endTo, endDir, endHop, hF])
      have HEX := Lib.hid hex'
      clear hex hex' hF
      go_enter Tryz.func109, Tryz.ntmps109
      go_wp2_with (go_at_call 88; with_reducible refine (exist1 n _ _ false HEX.out w _ (by omega) (by omega)).mono ?_; rintro e w' ⟨rfl, rfl⟩)
      refine bodyPost_ret (v := .tuple #[.int .i64 (-1), .int .i64 (-1), .int .u8 0, .int .i64 0]) (by simp [results, Tryz.results109, go_sem]) rfl ?_
      obtain ⟨a1, a2, a3, a4⟩ := HE.out
      rw [a1, a2, a3, a4]
      exact ⟨rfl, HBEL.out _ _⟩
end Go.Proofs.YtkejpkcaojidaaaGreatDoor

