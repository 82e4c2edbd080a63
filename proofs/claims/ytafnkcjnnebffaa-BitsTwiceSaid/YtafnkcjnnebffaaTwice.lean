/-
  The walk of the law BitsTwice: it returns true, and nothing that was there has turned. Conditions: the slice's reading, two places.
-/
import Derived.Test.YtafnkcjnnebffaaLives
namespace Go.Proofs.Ytafnkcjnnebffaa
open Go.RowKit

theorem turnI_twice (x : Int) : turnI (turnI x) = x := by
  unfold turnI
  by_cases h1 : x = 1
  · subst h1; decide
  · by_cases h2 : x = 2
    · subst h2; decide
    · simp [h1, h2]
theorem wholeB_turn (x : Int) : wholeB (turnI x) = wholeB x := by
  unfold turnI wholeB
  by_cases h1 : x = 1
  · subst h1; decide
  · by_cases h2 : x = 2
    · subst h2; decide
    · simp [h1, h2]
theorem turnI_ne (x : Int) : (turnI x != x) = wholeB x := by
  unfold turnI wholeB
  by_cases h1 : x = 1
  · subst h1; decide
  · by_cases h2 : x = 2
    · subst h2; decide
    · simp [h1, h2]
theorem turnAt_twice (xs : List Int) (p : Int) : turnAt (turnAt xs p) p = xs := by
  by_cases h : 0 ≤ p ∧ p < xs.length
  · have e : turnAt xs p = xs.set p.toNat (turnI (xs.getD p.toNat 0)) := by rw [turnAt, if_pos h]
    rw [turnAt, if_pos (by rw [turnAt_length]; exact h), e, List.set_set]
    have hp : p.toNat < xs.length := by omega
    have e2 : (xs.set p.toNat (turnI (xs.getD p.toNat 0))).getD p.toNat 0 = turnI (xs.getD p.toNat 0) := by rw [getD_at _ _ (by simpa using hp), List.getElem_set_self]
    rw [e2, turnI_twice, getD_at _ _ hp, List.set_getElem_self]
  · rw [turnAt, if_neg (by rw [turnAt_length]; exact h), turnAt, if_neg h]
theorem turnAt_get (xs : List Int) (i j : Nat) (hi : i < xs.length) (hj : j < xs.length) : (turnAt xs (i : Int)).getD j 0 = if j = i then turnI (xs.getD j 0) else xs.getD j 0 := by
  rw [turnAt, if_pos (by omega), Int.toNat_natCast, getD_at _ _ (by simpa using hj), List.getElem_set]
  by_cases h : i = j
  · subst h; simp
  · rw [if_neg h, if_neg (fun e => h e.symm), getD_at _ _ hj]
theorem wholeL_turnAt (xs : List Int) (p : Int) : wholeL (turnAt xs p) = wholeL xs := by
  rw [Bool.eq_iff_iff]
  unfold wholeL
  rw [List.all_eq_true, List.all_eq_true]
  by_cases h : 0 ≤ p ∧ p < xs.length
  · obtain ⟨i, rfl⟩ : ∃ i : Nat, p = i := ⟨p.toNat, by omega⟩
    have hi : i < xs.length := by omega
    have key : ∀ j, j < xs.length → wholeB ((turnAt xs (i : Int)).getD j 0) = wholeB (xs.getD j 0) := fun j hj => by
      rw [turnAt_get xs i j hi hj]
      split
      · exact wholeB_turn _
      · rfl
    constructor
    · intro H x hx
      obtain ⟨j, hj, rfl⟩ := List.getElem_of_mem hx
      have := key j hj
      rw [getD_at _ _ hj] at this
      rw [← this, getD_at _ _ (by rw [turnAt_length]; exact hj)]
      exact H _ (List.getElem_mem _)
    · intro H x hx
      obtain ⟨j, hj, rfl⟩ := List.getElem_of_mem hx
      have hj' : j < xs.length := by rw [turnAt_length] at hj; exact hj
      have := key j hj'
      rw [getD_at _ _ hj] at this
      rw [this, getD_at _ _ hj']
      exact H _ (List.getElem_mem _)
  · rw [turnAt, if_neg h]
theorem twice1 (xs : List Int) (i : Int) : turnAll (turnAll xs [i]) [i] = xs := turnAt_twice xs i
theorem twice2 (xs : List Int) (i k : Int) : turnAll (turnAll xs [i, k]) [k, i] = xs := by
  show turnAt (turnAt (turnAt (turnAt xs i) k) k) i = xs
  rw [turnAt_twice, turnAt_twice]
theorem twice3 (xs : List Int) (i k : Int) : turnAll (turnAll xs [i]) [k] = turnAll xs [i, k] := rfl
theorem twice4 (xs : List Int) (i k : Int) : wholeL (turnAll xs [i, k]) = wholeL xs := by
  show wholeL (turnAt (turnAt xs i) k) = _
  rw [wholeL_turnAt, wholeL_turnAt]

theorem twice5 (x y : Int) (i j : Nat) (h : y = if j = i then turnI x else x) : (y != x) = (decide (j = i) && wholeB x) := by
  rw [h]
  by_cases e : j = i
  · rw [if_pos e, turnI_ne]; simp [e]
  · rw [if_neg e]; simp [e]

theorem three (x : Int) : ((x == 1) = true ∧ wholeB x = true) ∨ ((x == 1) = false ∧ (x == 2) = true ∧ wholeB x = true) ∨ ((x == 1) = false ∧ (x == 2) = false ∧ wholeB x = false) := by
  unfold wholeB
  cases x == 1 <;> cases x == 2 <;> simp

theorem bitsTwice_walk (A : Option Addr) (n c : Nat) (xs : List Int) (p q : Nat) (w : World) (hx : Lies .u8 w w.heap.size A n xs) (hm : n ≤ maxLen) (hp : p ≤ 65535) (hq : q ≤ 65535) :
    Calls Try.prog 8 #[.slice A n c, .agg #[.int .u16 p, .int .u16 q]] w fun e w' => e = .returned (.bool true) ∧ Below w.heap.size w w' := by
  unfold maxLen at hm
  by_cases h500 : n ≤ 500
  · by_cases h0 : n = 0
    · subst h0
      go_enter Try.func8, Try.ntmps8
      go_wp2_with (go_at_call 9; refine (lives_any _).mono ?_; rintro e w1 ⟨rfl, hb⟩)
      go_ret
      exact ⟨rfl, below_then (below_al (Below.refl _ _) _) hb⟩
    · have hpos : (0 : Int) < (n : Int) := by omega
      have hne : ((n : Int) == 0) = false := by simp; omega
      have hd : decide ((500 : Int) < (n : Int)) = false := by simp; omega
      go_enter Try.func8, Try.ntmps8
      go_wp2_with fail
      have hxa := hx.al (.cells #[.int .u16 (p : Int), .int .u16 (q : Int)] 57)
      have hbel := below_al (Below.refl w.heap.size w) (.cells #[.int .u16 (p : Int), .int .u16 (q : Int)] 57)
      have hsz := alloc_size w (.cells #[.int .u16 (p : Int), .int .u16 (q : Int)] 57)
      rw [show (p : Int) % (n : Int) = ((p % n : Nat) : Int) from (Int.natCast_emod p n).symm, show (q : Int) % (n : Int) = ((q % n : Nat) : Int) from (Int.natCast_emod q n).symm, ← hsz]
      clear hsz hx
      have hi : p % n < n := Nat.mod_lt _ (by omega)
      have hk : q % n < n := Nat.mod_lt _ (by omega)
      revert hxa hbel hi hk
      generalize (w.alloc (.cells #[.int .u16 (p : Int), .int .u16 (q : Int)] 57)) = W
      generalize p % n = i
      generalize q % n = k
      intro hxa hbel hi hk
      have h0 := Lies.new W 3 .i64 [(i : Int)] 1 rfl #[.int .i64 (i : Int)] rfl
      with_reducible refine (turn_any _ _ _ 1 _ 1 _ _ _ (hxa.al _) h0 (by omega) (by decide)).mono ?_
      rintro e w1 ⟨g1, rfl, _, hB, hb⟩
      have hx1 := (hxa.al _).on hb
      have hb1 := below_then (below_al hbel _) hb
      have hl1 := hB.lies (n := n) (by rw [turnAll_length]; exact hx1.len)
      clear hb hbel hB h0 hxa
      go_wp2_with fail
      have h0 := Lies.new w1 3 .i64 [(i : Int), (k : Int)] 2 rfl #[.int .i64 (i : Int), .int .i64 (k : Int)] rfl
      with_reducible refine (turn_any _ _ _ 2 _ 2 _ _ _ (hx1.al _) h0 (by omega) (by decide)).mono ?_
      rintro e w2 ⟨g2, rfl, _, hB, hb⟩
      have hx2 := (hx1.al _).on hb
      have hl1' := (hl1.al _).on hb
      have hb2 := below_then (below_al hb1 _) hb
      have hl2 := hB.lies (n := n) (by rw [turnAll_length]; exact hx1.len)
      clear hb hb1 hB h0 hx1 hl1
      go_wp2_with fail
      have h0 := Lies.new w2 3 .i64 [(i : Int)] 1 rfl #[.int .i64 (i : Int)] rfl
      with_reducible refine (turn_any _ _ _ 1 _ 1 _ _ _ (hl1'.al _) h0 (by omega) (by decide)).mono ?_
      rintro e w3 ⟨g3, rfl, _, hB, hb⟩
      have hx3 := (hx2.al _).on hb
      have hl1 := (hl1'.al _).on hb
      have hl2' := (hl2.al _).on hb
      have hb3 := below_then (below_al hb2 _) hb
      have hl3 := hB.lies (n := n) (by rw [turnAll_length, turnAll_length]; exact hx3.len)
      clear hb hb2 hB h0 hx2 hl1' hl2
      go_wp2_with fail
      with_reducible refine (same_true _ _ _ _ _ _ _ _ _ hl3 hx3 (by omega) (by omega) (twice1 _ _)).mono ?_
      rintro e w4 ⟨rfl, hb⟩
      have hx4 := hx3.on hb
      have hl1' := hl1.on hb
      have hl2 := hl2'.on hb
      have hb4 := below_then hb3 hb
      clear hb hb3 hx3 hl1 hl2' hl3
      go_wp2_with fail
      have h0 := Lies.new w4 3 .i64 [(k : Int), (i : Int)] 2 rfl #[.int .i64 (k : Int), .int .i64 (i : Int)] rfl
      with_reducible refine (turn_any _ _ _ 2 _ 2 _ _ _ (hl2.al _) h0 (by omega) (by decide)).mono ?_
      rintro e w5 ⟨g5, rfl, _, hB, hb⟩
      have hx5 := (hx4.al _).on hb
      have hl1 := (hl1'.al _).on hb
      have hl2' := (hl2.al _).on hb
      have hb5 := below_then (below_al hb4 _) hb
      have hl5 := hB.lies (n := n) (by rw [turnAll_length, turnAll_length]; exact hx5.len)
      clear hb hb4 hB h0 hx4 hl1' hl2
      go_wp2_with fail
      with_reducible refine (same_true _ _ _ _ _ _ _ _ _ hl5 hx5 (by omega) (by omega) (twice2 _ _ _)).mono ?_
      rintro e w6 ⟨rfl, hb⟩
      have hx6 := hx5.on hb
      have hl1' := hl1.on hb
      have hl2 := hl2'.on hb
      have hb6 := below_then hb5 hb
      clear hb hb5 hx5 hl1 hl2' hl5
      go_wp2_with fail
      have h0 := Lies.new w6 3 .i64 [(k : Int)] 1 rfl #[.int .i64 (k : Int)] rfl
      with_reducible refine (turn_any _ _ _ 1 _ 1 _ _ _ (hl1'.al _) h0 (by omega) (by decide)).mono ?_
      rintro e w7 ⟨g7, rfl, _, hB, hb⟩
      have hx7 := (hx6.al _).on hb
      have hl1 := (hl1'.al _).on hb
      have hl2' := (hl2.al _).on hb
      have hb7 := below_then (below_al hb6 _) hb
      have hl7 := hB.lies (n := n) (by rw [turnAll_length, turnAll_length]; exact hx7.len)
      clear hb hb6 hB h0 hx6 hl1' hl2
      go_wp2_with fail
      with_reducible refine (same_true _ _ _ _ _ _ _ _ _ hl7 hl2' (by omega) (by omega) (twice3 _ _ _)).mono ?_
      rintro e w8 ⟨rfl, hb⟩
      have hx8 := hx7.on hb
      have hl1' := hl1.on hb
      have hl2 := hl2'.on hb
      have hb8 := below_then hb7 hb
      clear hb hb7 hx7 hl1 hl2' hl7
      go_wp2_with fail
      with_reducible refine (whole_any _ _ _ _ _ hx8 (by omega)).mono ?_
      rintro e w' ⟨rfl, rfl⟩
      go_wp2_with fail
      with_reducible refine (whole_any _ _ _ _ _ hl2 (by omega)).mono ?_
      rintro e w' ⟨rfl, rfl⟩
      rw [twice4]
      have hq2 : (wholeL xs != wholeL xs) = false := by simp
      go_wp2_with fail
      clear hq2 hl2
      have hlen := Lib.hid hx8.len
      obtain ⟨b, off, rfl, hbb, hc⟩ := hx8.at_ (by omega)
      obtain ⟨b', off', hg, hbb', hc'⟩ := hl1'.at_ (by omega)
      injection hg with hg
      injection hg with hg ho _
      subst hg ho
      have HC := Lib.hid hc
      have HC' := Lib.hid hc'
      clear hc hc' hx8 hl1'
      go_loopw [9] (fun v wr => ∃ j : Nat, j ≤ n ∧ v = .int .i64 j ∧ Below w8.heap.size w8 wr) (fun v _ => n - (intOf v).toNat)
      case atStart => exact ⟨0, Nat.zero_le _, rfl, Below.refl _ _⟩
      case round =>
        obtain ⟨j, hj, rfl, hbw⟩ := hrel
        by_cases hlt : j < n
        · have hcell : wr.cell? ⟨b, off + j, none⟩ = some (.int .u8 (xs.getD j 0)) := (hbw.cell (p := ⟨b, off + j, none⟩) hbb).trans (HC.out j hlt)
          have hcell1 : wr.cell? ⟨g1, j, none⟩ = some (.int .u8 ((turnAll xs [(i : Int)]).getD j 0)) := (hbw.cell (p := ⟨g1, j, none⟩) hbb').trans (by have := HC'.out j hlt; rwa [Nat.zero_add] at this)
          have hy := Lib.hid (turnAt_get xs i j (by rw [hlen.out]; exact hi) (by rw [hlen.out]; exact hlt))
          rw [show turnAll xs [(i : Int)] = turnAt xs (i : Int) from rfl] at hcell1
          obtain ⟨x, hx1⟩ : ∃ x, x = xs.getD j 0 := ⟨_, rfl⟩
          obtain ⟨y, hy1⟩ : ∃ y, y = (turnAt xs (i : Int)).getD j 0 := ⟨_, rfl⟩
          rw [← hx1] at hcell hy
          rw [← hy1] at hcell1 hy
          clear hx1 hy1
          have hi0 : (0 : Int) ≤ (j : Int) := by omega
          have hi1 : (j : Int) < (n : Int) := by omega
          have hyx := twice5 x y i j hy.out
          clear hy hlen
          rcases three x with ⟨a1, aw⟩ | ⟨a1, a2, aw⟩ | ⟨a1, a2, aw⟩
          all_goals rw [aw] at hyx
          all_goals clear aw
          all_goals by_cases hji : j = i
          all_goals first
            | (have hjb : ((j : Int) == (i : Int)) = true := by simp [hji]
               rw [decide_eq_true hji] at hyx)
            | (have hjb : ((j : Int) == (i : Int)) = false := by simp; omega
               rw [decide_eq_false hji] at hyx)
          all_goals simp only [Bool.and_true, Bool.and_false] at hyx
          all_goals clear hji
          all_goals go_wp2
          all_goals go_quiet (fail)
          all_goals go_wp2
          all_goals go_roundw
          all_goals first
            | exact ⟨j + 1, by omega, by go_num, below_drewN hbw _⟩
            | (simp [intOf]; omega)
        · go_wp2_with (go_at_call 9; refine (lives_any _).mono ?_; rintro e w9 ⟨rfl, hb⟩)
          go_ret
          exact ⟨rfl, below_then (below_then hb8 hbw) hb⟩
  · have hgt : (500 : Int) < (n : Int) := by omega
    go_enter Try.func8, Try.ntmps8
    go_wp2_with (go_at_call 9; refine (lives_any _).mono ?_; rintro e w1 ⟨rfl, hb⟩)
    go_ret
    exact ⟨rfl, below_then (below_al (Below.refl _ _) _) hb⟩

theorem bitsTwice.bitsTwice_walk (A : Option Addr) (n c : Nat) (xs : List Int) (p q : Int) (w : World) (hx : Lies .u8 w w.heap.size A n xs) (hm : n ≤ maxLen) (_ : ∀ x ∈ xs, (Lit.int .u8 x).wf = true) (hp : (Lit.int .u16 p).wf = true) (hq : (Lit.int .u16 q).wf = true) :
    Calls Try.prog 8 #[.slice A n c, .agg #[.int .u16 p, .int .u16 q]] w fun e w' => e = .returned (.bool true) ∧ Below w.heap.size w w' := by
  have h1 := bounds_u16 hp
  have h2 := bounds_u16 hq
  obtain ⟨pn, rfl⟩ : ∃ pn : Nat, p = pn := ⟨p.toNat, by omega⟩
  obtain ⟨qn, rfl⟩ : ∃ qn : Nat, q = qn := ⟨q.toNat, by omega⟩
  exact Go.Proofs.Ytafnkcjnnebffaa.bitsTwice_walk A n c xs pn qn w hx hm (by omega) (by omega)
end Go.Proofs.Ytafnkcjnnebffaa
