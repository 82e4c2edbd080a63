/-
  The contracts of package rings' small functions: exist, isHop, round. Conditions: those that are named; the table of directions is as the program's text lays it.
-/
import Derived.Test.YtajkpbmjgncbbaaDoorRgM
import Derived.Test.YtajkpbmjgncbbaaDoorKinds
import Derived.IntWalk
namespace Go.Proofs.YtajkpbmjgncbbaaDoor
open Go.RowKit Rg

/-- The table of directions reads as the program's text lays it. -/
def Ways (w : World) : Prop := 0 < w.heap.size ∧ w.cell? ⟨0, 0, none⟩ = some (.int .i64 1) ∧ w.cell? ⟨0, 1, none⟩ = some (.int .i64 0) ∧ w.cell? ⟨0, 2, none⟩ = some (.int .i64 (-1)) ∧ w.cell? ⟨0, 3, none⟩ = some (.int .i64 1)
theorem Ways.on {w w' : World} (h : Ways w) (hb : Below w.heap.size w w') : Ways w' := by
  obtain ⟨h0, h1, h2, h3, h4⟩ := h
  exact ⟨Nat.lt_of_lt_of_le h0 hb.size, (hb.cell (p := ⟨0, 0, none⟩) h0).trans h1, (hb.cell (p := ⟨0, 1, none⟩) h0).trans h2, (hb.cell (p := ⟨0, 2, none⟩) h0).trans h3, (hb.cell (p := ⟨0, 3, none⟩) h0).trans h4⟩
theorem Ways.al {w : World} (h : Ways w) (o : Obj) : Ways (w.alloc o) := h.on ((Below.refl _ _).alloc (Nat.le_refl _) o)

theorem isHop_any (h : Int) (w : World) : Calls Tryd.prog 31 #[.int .i64 h] w fun e w' => e = .returned (.bool (hopB h)) ∧ w = w' := by
  by_cases h1 : h = 1
  · subst h1
    go_enter Tryd.func31, Tryd.ntmps31
    go_wp2
    go_ret
    exact ⟨rfl, rfl⟩
  · by_cases h2 : h = 2
    · subst h2
      go_enter Tryd.func31, Tryd.ntmps31
      go_wp2
      go_ret
      exact ⟨rfl, rfl⟩
    · have e1 : (h == 1) = false := by simpa using h1
      have e2 : (h == 2) = false := by simpa using h2
      have HF := Lib.hid (show hopB h = false by simp [hopB, h1, h2])
      clear h1 h2
      go_enter Tryd.func31, Tryd.ntmps31
      go_wp2
      go_ret
      exact ⟨ret_bool HF.out.symm, rfl⟩

theorem round_any (n x : Int) (w : World) (h1 : 4 ≤ n) (h2 : n ≤ 16) :
    Calls Tryd.prog 47 #[.int .i64 n, .int .i64 x] w fun e w' => e = .returned (.int .i64 (x % n)) ∧ w = w' := by
  have hb := tmod_bd x n (by omega)
  have HE := Lib.hid (round_eq n x (by omega))
  obtain ⟨r, hr⟩ : ∃ r, r = x.tmod n := ⟨_, rfl⟩
  rw [← hr] at hb HE
  have hr' := hr.symm
  clear hr
  have hb' := tmod_bd (r + n) n (by omega)
  go_enter Tryd.func47, Tryd.ntmps47
  go_wp2
  go_ret
  exact ⟨ret_int (by first | exact HE.out | (rw [← HE.out]; rw [Int.tmod_eq_emod_of_nonneg (by omega)])), rfl⟩

theorem round_same (n x : Int) (w : World) (h1 : 4 ≤ n) (h2 : n ≤ 16) :
    Calls Tryd.prog 47 #[.int .i64 n, .int .i64 x] w fun e w' => e = .returned (.int .i64 (x % n)) ∧ w' = w :=
  (round_any n x w h1 h2).mono fun _ _ ⟨a, b⟩ => ⟨a, b.symm⟩

theorem all_snoc (n : Int) (xs : List Int) (k : Nat) (hk : k < xs.length) (h : (xs.take k).all (fun x => decide (0 ≤ x ∧ x < n)) = true) (hx : 0 ≤ xs.getD k 0 ∧ xs.getD k 0 < n) :
    (xs.take (k + 1)).all (fun x => decide (0 ≤ x ∧ x < n)) = true := by
  rw [List.take_succ_eq_append_getElem hk, List.all_append, h, ← getD_at xs k hk, List.all_cons, List.all_nil, decide_eq_true hx]
  rfl
theorem all_out (n : Int) (xs : List Int) (k : Nat) (hk : k < xs.length) (hx : ¬ (0 ≤ xs.getD k 0 ∧ xs.getD k 0 < n)) :
    xs.all (fun x => decide (0 ≤ x ∧ x < n)) = false := by
  rw [List.all_eq_false]
  exact ⟨xs[k], List.getElem_mem hk, by rw [← getD_at xs k hk]; simpa using hx⟩

theorem exist_any (n d : Int) (A : Option Addr) (m c : Nat) (xs : List Int) (w : World) (hx : Lies .i64 w w.heap.size A m xs) (hm : m ≤ 65536) (hd : 0 ≤ d) (hd' : d ≤ 255) :
    Calls Tryd.prog 41 #[.int .i64 n, .int .u8 d, .slice A m c] w fun e w' => e = .returned (.bool (exB n d xs)) ∧ w = w' := by
  have hl := hx.len
  by_cases hn1 : n < 4
  · have HF := Lib.hid (show exB n d xs = false by rw [exB, isB_not (by omega)]; rfl)
    go_enter Tryd.func41, Tryd.ntmps41
    go_wp2
    go_ret
    exact ⟨ret_bool HF.out.symm, rfl⟩
  · by_cases hn2 : 16 < n
    · have HF := Lib.hid (show exB n d xs = false by rw [exB, isB_not (by omega)]; rfl)
      have hn1' : 4 ≤ n := by omega
      clear hn1
      go_enter Tryd.func41, Tryd.ntmps41
      go_wp2
      go_ret
      exact ⟨ret_bool HF.out.symm, rfl⟩
    · by_cases hd2 : 2 ≤ d
      · have HF := Lib.hid (show exB n d xs = false by rw [exB, isB_not (by omega)]; rfl)
        have hn1' : 4 ≤ n := by omega
        have hn2' : n ≤ 16 := by omega
        clear hn1 hn2
        go_enter Tryd.func41, Tryd.ntmps41
        go_wp2
        go_ret
        exact ⟨ret_bool HF.out.symm, rfl⟩
      · have hn1' : 4 ≤ n := by omega
        have hn2' : n ≤ 16 := by omega
        have hd2' : d < 2 := by omega
        have HT := Lib.hid (show exB n d xs = xs.all (fun x => decide (0 ≤ x ∧ x < n)) by rw [exB, isB_iff.2 ⟨hn1', hn2', hd2'⟩]; rfl)
        have HL := Lib.hid hl
        clear hn1 hn2 hd2 hl
        go_enter Tryd.func41, Tryd.ntmps41
        go_wp2
        go_loop [22] (fun i => ∃ k : Nat, k ≤ m ∧ i = .int .i64 k ∧ Hid ((xs.take k).all (fun x => decide (0 ≤ x ∧ x < n)) = true)) (fun i => m - (intOf i).toNat)
        case atStart => exact ⟨0, Nat.zero_le _, rfl, Lib.hid rfl⟩
        case round =>
          obtain ⟨k, hk, rfl, ht⟩ := hrel
          by_cases hlt : k < m
          · obtain ⟨b, off, rfl, hb, hc⟩ := hx.at_ (by omega)
            have hcell := hc k hlt
            clear hc
            have HS := Lib.hid (all_snoc n xs k (by have := HL.out; omega) ht.out)
            have HO := Lib.hid (all_out n xs k (by have := HL.out; omega))
            obtain ⟨x, hx1⟩ : ∃ x, x = xs.getD k 0 := ⟨_, rfl⟩
            rw [← hx1] at hcell HS HO
            clear hx1
            by_cases hneg : x < 0
            · have HX := Lib.hid (HO.out (by omega))
              go_wp2
              go_ret
              exact ⟨ret_bool (by rw [HT.out, HX.out]), rfl⟩
            · by_cases hge : n ≤ x
              · have HX := Lib.hid (HO.out (by omega))
                have hneg' : 0 ≤ x := by omega
                clear hneg
                go_wp2
                go_ret
                exact ⟨ret_bool (by rw [HT.out, HX.out]), rfl⟩
              · have hneg' : 0 ≤ x := by omega
                have hge' : x < n := by omega
                clear hneg hge
                go_wp2
                go_round
                case rel => exact ⟨k + 1, by omega, by go_num, Lib.hid (HS.out ⟨hneg', hge'⟩)⟩
                case measure => simp [intOf]; omega
          · have HX := Lib.hid (show xs.all (fun x => decide (0 ≤ x ∧ x < n)) = true by have := ht.out; rw [List.take_of_length_le (by have := HL.out; omega)] at this; exact this)
            go_wp2
            go_ret
            exact ⟨ret_bool (by rw [HT.out, HX.out]), rfl⟩
end Go.Proofs.YtajkpbmjgncbbaaDoor

