/-
  The reference's catch (all that came): where it lies, and the contracts of its New, known, body, cut, frame, whole, High, Unlike. Conditions: the catch's reading; 114 pairs at most.
-/
import Derived.Test.YtpjcbfapkjipjaaCa6
import Derived.Test.YtpjcbfapkjipjaaFr6
import Derived.BigQuiet
namespace Go.Proofs.Ytpjcbfapkjipjaa
open Go.RowKit Crc
set_option linter.unusedVariables false

/-- The first places of a function. -/
def fnL (x : Nat → Int) (n : Nat) : List Int := (List.range n).map x
theorem fnL_length (x : Nat → Int) (n : Nat) : (fnL x n).length = n := by simp [fnL]
theorem fnL_at (x : Nat → Int) (n j : Nat) (h : j < n) : (fnL x n).getD j 0 = x j := by simp [fnL, List.getD, h]
theorem fnL_succ (x : Nat → Int) (n : Nat) : fnL x (n + 1) = fnL x n ++ [x n] := by simp [fnL, List.range_succ]
/-- The reference's catch in its block, its rows of its own. -/
structure RC (w : World) (g base : Nat) (o : Int) (x y : Nat → Int) (n m : Nat) (A : Option Addr) (c : Nat) (B : Option Addr) (d : Nat) : Prop where
  lo : base ≤ g
  blk : Blk w g 36 #[.int .i64 o, .slice A n c, .slice B m d]
  ra : w.ownsRow base 31 1 (.slice A n c) n ((fnL x n).map (Value.int .u8))
  rb : w.ownsRow base 31 1 (.slice B m d) m ((fnL y m).map (Value.int .u8))
  ne : ∀ q, (Value.slice A n c).ownBlock = some q → (Value.slice B m d).ownBlock ≠ some q
section
variable {w w' : World} {g base n m c d : Nat} {o : Int} {x y : Nat → Int} {A B : Option Addr}
theorem owns_on1 {base n : Nat} {e : TypeId} {v : Value} {xs : List Value} (h : w.ownsRow base e 1 v n xs) (hb : Below w.heap.size w w') : w'.ownsRow base e 1 v n xs := owns_kept h (KeptBut.below hb []) (by simp)
theorem RC.on (h : RC w g base o x y n m A c B d) (hb : Below w.heap.size w w') : RC w' g base o x y n m A c B d :=
  ⟨h.lo, h.blk.on hb, owns_on1 h.ra hb, owns_on1 h.rb hb, h.ne⟩
theorem RC.kept {ts : List TypeId} (h : RC w g base o x y n m A c B d) (hk : KeptBut w w' ts) (h1 : 36 ∉ ts) (h2 : 31 ∉ ts) : RC w' g base o x y n m A c B d :=
  ⟨h.lo, hk _ _ _ h1 h.blk, owns_kept h.ra hk h2, owns_kept h.rb hk h2, h.ne⟩
theorem RC.cs (h : RC w g base o x y n m A c B d) : w.cell? ⟨g, 0, none⟩ = some (.int .i64 o) ∧ w.cell? ⟨g, 1, none⟩ = some (.slice A n c) ∧ w.cell? ⟨g, 2, none⟩ = some (.slice B m d) ∧ g < w.heap.size :=
  ⟨h.blk.cell 0, h.blk.cell 1, h.blk.cell 2, h.blk.lt⟩
theorem RC.near (h : RC w g base o x y n m A c B d) {j : Nat} (hj : j < n) : ∃ b off, A = some ⟨b, off, none⟩ ∧ w.cell? ⟨b, off + j, none⟩ = some (.int .u8 (x j)) ∧ b < w.heap.size := by
  obtain ⟨b, off, e, hb, hc⟩ := (lies_of_owns h.ra).at_ (by omega)
  exact ⟨b, off, e, by rw [hc j hj, fnL_at x n j hj], hb⟩
theorem RC.far (h : RC w g base o x y n m A c B d) {j : Nat} (hj : j < m) : ∃ b off, B = some ⟨b, off, none⟩ ∧ w.cell? ⟨b, off + j, none⟩ = some (.int .u8 (y j)) ∧ b < w.heap.size := by
  obtain ⟨b, off, e, hb, hc⟩ := (lies_of_owns h.rb).at_ (by omega)
  exact ⟨b, off, e, by rw [hc j hj, fnL_at y m j hj], hb⟩
theorem rknown_is (z : Int) (w : World) (r : Int) (hr : kn z = r) : Calls Try.prog 29 #[.int .u8 z] w fun e w' => e = .returned (.int .u8 r) ∧ w = w' := by
  by_cases h1 : z = 1
  · subst h1
    have hr : (1 : Int) = r := hr
    subst hr
    go_enter Try.func29, Try.ntmps29
    go_wp2_with fail
    go_ret
    exact ⟨rfl, rfl⟩
  · have e1 : (z == 1) = false := beq_eq_false_iff_ne.2 h1
    by_cases h2 : z = 2
    · subst h2
      have hr : (2 : Int) = r := hr
      subst hr
      go_enter Try.func29, Try.ntmps29
      go_wp2_with fail
      go_ret
      exact ⟨rfl, rfl⟩
    · have e2 : (z == 2) = false := beq_eq_false_iff_ne.2 h2
      have hr : (0 : Int) = r := by rw [← hr, kn_no (by simp [wholeB, h1, h2])]
      subst hr
      clear h1 h2
      go_enter Try.func29, Try.ntmps29
      go_wp2_with fail
      go_ret
      exact ⟨rfl, rfl⟩
theorem rNew_no (o : Int) (w : World) (h : o < 0 ∨ 8 ≤ o) : Calls Try.prog 10 #[.int .i64 o] w fun e w' => e = .returned (.tuple #[.pointer none, .int .i64 1]) ∧ w = w' := by
  rcases h with h | h
  · go_enter Try.func10, Try.ntmps10
    go_wp2_with fail
    go_ret2
    exact ⟨rfl, rfl⟩
  · have h' : 7 < o := by omega
    clear h
    go_enter Try.func10, Try.ntmps10
    go_wp2_with fail
    go_ret2
    exact ⟨rfl, rfl⟩
theorem rNew_yes (x y : Nat → Int) (o : Int) (w : World) (h0 : 0 ≤ o) (h1 : o < 8) (base : Nat) (hb : base ≤ w.heap.size) : Calls Try.prog 10 #[.int .i64 o] w fun e w' => e = .returned (.tuple #[.pointer (some ⟨w.heap.size, 0, none⟩), .int .i64 0]) ∧ RC w' w.heap.size base o x y 0 0 none 0 none 0 ∧ Below w.heap.size w w' := by
  have h1' : o ≤ 7 := by omega
  clear h1
  go_enter Try.func10, Try.ntmps10
  go_wp2_with fail
  go_ret2
  exact ⟨rfl, ⟨hb, Blk.new _ _ _, ⟨rfl, .inl ⟨rfl, rfl⟩⟩, ⟨rfl, .inl ⟨rfl, rfl⟩⟩, fun q hq => by cases hq⟩, below_al (Below.refl _ _) _⟩
theorem rBody_is (h : RC w g base o x y n m A c B d) (i : Nat) (hi : i < n) (hi' : i < m) (r : Int) (hr : bo x y i = r) :
    Calls Try.prog 31 #[.pointer (some ⟨g, 0, none⟩), .int .i64 (i : Int)] w fun e w' => e = .returned (.int .u8 r) ∧ w = w' := by
  obtain ⟨c0, c1, c2, cl⟩ := h.cs
  obtain ⟨b, off, rfl, hc, hb⟩ := h.near hi
  obtain ⟨b', off', rfl, hc', hb'⟩ := h.far hi'
  have hix := fun W => idxSym (n := n) c (b := b) (off := off) rfl hi W
  have hix' := fun W => idxSym (n := m) d (b := b') (off := off') rfl hi' W
  rw [bo] at hr
  obtain ⟨u, hu⟩ : ∃ u, u = x i := ⟨_, rfl⟩
  obtain ⟨v, hv⟩ : ∃ v, v = y i := ⟨_, rfl⟩
  rw [← hu] at hc hr
  rw [← hv] at hc' hr
  clear h hu hv hi hi' c0
  by_cases e : u = 0
  · subst e
    rw [if_pos rfl] at hr
    subst hr
    go_enter Try.func31, Try.ntmps31
    go_wp2_with fail
    go_ret
    exact ⟨rfl, rfl⟩
  · rw [if_neg e] at hr
    subst hr
    have e1 : (u != 0) = true := bne_iff_ne.2 e
    clear e
    go_enter Try.func31, Try.ntmps31
    go_wp2_with fail
    go_ret
    exact ⟨rfl, rfl⟩
theorem cutF_true {i : Nat} (k : Nat) (hk : i < k) (h1 : i < 112) (h2 : bo x y i = 0) : cutF x y k = true := by
  cases h : cutF x y k
  · exact absurd h2 ((cutF_iff k).1 h i hk h1)
  · rfl
set_option maxRecDepth 100000 in
theorem rCut_is (h : RC w g base o x y n m A c B d) (k : Nat) (hk : k ≤ n) (hk' : k ≤ m) (r : Bool) (hr : cutF x y k = r) :
    Calls Try.prog 30 #[.pointer (some ⟨g, 0, none⟩), .int .i64 (k : Int)] w fun e w' => e = .returned (.bool r) ∧ w = w' := by
  have HX := Lib.hid h
  have HR := Lib.hid hr
  clear h hr
  go_enter Try.func30, Try.ntmps30
  go_wp2_with fail
  go_loopw [5] (fun iv wr => ∃ i : Nat, i ≤ k ∧ i ≤ 112 ∧ iv = .int .i64 i ∧ wr = w ∧ Hid (∀ j, j < i → bo x y j ≠ 0)) (fun iv _ => k - (intOf iv).toNat)
  case atStart => exact ⟨0, Nat.zero_le _, by omega, rfl, rfl, Lib.hid fun j hj => absurd hj (by omega)⟩
  case round =>
    obtain ⟨i, hi, hi2, rfl, rfl, hp⟩ := hrel
    by_cases hlt : i < k
    · have hlti : (i : Int) < (k : Int) := by omega
      by_cases h12 : i < 112
      · have h12i : (i : Int) < 112 := by omega
        have HB := Lib.hid (rBody_is HX.out i (by omega) (by omega) _ rfl)
        obtain ⟨u, hu⟩ : ∃ u, u = bo x y i := ⟨_, rfl⟩
        rw [← hu] at HB
        by_cases e : u = 0
        · subst e
          have HT := Lib.hid (cutF_true k hlt h12 hu.symm)
          clear hu hp
          go_wp2_with (go_at_call 31; (with_reducible refine HB.out.mono ?_); rintro e w1 ⟨rfl, rfl⟩)
          go_ret
          exact ⟨(by have e := HT.out.symm.trans HR.out; subst e; rfl), rfl⟩
        · have e1 : (u == 0) = false := beq_eq_false_iff_ne.2 e
          have HP := Lib.hid (show ∀ j, j < i + 1 → bo x y j ≠ 0 from fun j hj => by
            rcases Nat.lt_succ_iff_lt_or_eq.1 hj with q | q
            · exact hp.out j q
            · rw [q, ← hu]; exact e)
          clear hu hp e
          go_wp2_with (go_at_call 31; (with_reducible refine HB.out.mono ?_); rintro e w1 ⟨rfl, rfl⟩)
          go_roundw
          case rel => exact ⟨i + 1, by omega, by omega, by go_num, trivial, HP⟩
          case measure => simp [intOf]; omega
      · have h12i : (112 : Int) ≤ (i : Int) := by omega
        have HT := Lib.hid (show cutF x y k = false from (cutF_iff k).2 fun j _ hj => hp.out j (by omega))
        clear hp
        go_wp2_with fail
        go_ret
        exact ⟨(by have e := HT.out.symm.trans HR.out; subst e; rfl), rfl⟩
    · have hlti : (k : Int) ≤ (i : Int) := by omega
      have HT := Lib.hid (show cutF x y k = false from (cutF_iff k).2 fun j hj _ => hp.out j (by omega))
      clear hp
      go_wp2_with fail
      go_ret
      exact ⟨(by have e := HT.out.symm.trans HR.out; subst e; rfl), rfl⟩
end
end Go.Proofs.Ytpjcbfapkjipjaa

