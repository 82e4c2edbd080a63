/-
  The contract of the reference's Step: one more pair is had, and what is given of it. Conditions: the catch's reading; fewer than 114 pairs, or just so many.
-/
import Derived.Test.YtkejpkcaojidaaaGreatDoorCaH
import Derived.Test.YtkejpkcaojidaaaGreatDoorFr6
import Derived.BigQuiet
import Derived.Deep.RegionLaw
import Derived.Deep.Cut
import Derived.Deep.CutRange
namespace Go.Proofs.YtkejpkcaojidaaaGreatDoor
set_option linter.unusedVariables false
set_option linter.unusedSimpArgs false
open Go.RowKit Crc
set_option linter.unusedVariables false

/-- The first places of a function. -/
def fnL (x : Nat → Int) (n : Nat) : List Int := (List.range n).map x
theorem fnL_at (x : Nat → Int) (n j : Nat) (h : j < n) : (fnL x n).getD j 0 = x j := by simp [fnL, List.getD, h]
theorem fnL_succ (x : Nat → Int) (n : Nat) : fnL x (n + 1) = fnL x n ++ [x n] := by simp [fnL, List.range_succ]
/-- The reference's catch in its block, its rows of its own. -/
structure RC (w : World) (g base : Nat) (o : Int) (x y : Nat → Int) (n m : Nat) (A : Option Addr) (c : Nat) (B : Option Addr) (d : Nat) : Prop where
  lo : base ≤ g
  blk : Blk w g 155 #[.int .i64 o, .slice A n c, .slice B m d]
  ra : w.ownsRow base 47 1 (.slice A n c) n ((fnL x n).map (Value.int .u8))
  rb : w.ownsRow base 47 1 (.slice B m d) m ((fnL y m).map (Value.int .u8))
  ne : ∀ q, (Value.slice A n c).ownBlock = some q → (Value.slice B m d).ownBlock ≠ some q
section
variable {w w' : World} {g base n m c d : Nat} {o : Int} {x y : Nat → Int} {A B : Option Addr}
theorem owns_on1 {base n : Nat} {e : TypeId} {v : Value} {xs : List Value} (h : w.ownsRow base e 1 v n xs) (hb : Below w.heap.size w w') : w'.ownsRow base e 1 v n xs := owns_kept h (KeptBut.below hb []) (by simp)
theorem RC.on (h : RC w g base o x y n m A c B d) (hb : Below w.heap.size w w') : RC w' g base o x y n m A c B d :=
  ⟨h.lo, h.blk.on hb, owns_on1 h.ra hb, owns_on1 h.rb hb, h.ne⟩
theorem RC.kept {ts : List TypeId} (h : RC w g base o x y n m A c B d) (hk : KeptBut w w' ts) (h1 : 155 ∉ ts) (h2 : 47 ∉ ts) : RC w' g base o x y n m A c B d :=
  ⟨h.lo, hk _ _ _ h1 h.blk, owns_kept h.ra hk h2, owns_kept h.rb hk h2, h.ne⟩
theorem RC.cs (h : RC w g base o x y n m A c B d) : w.cell? ⟨g, 0, none⟩ = some (.int .i64 o) ∧ w.cell? ⟨g, 1, none⟩ = some (.slice A n c) ∧ w.cell? ⟨g, 2, none⟩ = some (.slice B m d) ∧ g < w.heap.size :=
  ⟨h.blk.cell 0, h.blk.cell 1, h.blk.cell 2, h.blk.lt⟩
theorem RC.near (h : RC w g base o x y n m A c B d) {j : Nat} (hj : j < n) : ∃ b off, A = some ⟨b, off, none⟩ ∧ w.cell? ⟨b, off + j, none⟩ = some (.int .u8 (x j)) ∧ b < w.heap.size := by
  obtain ⟨b, off, e, hb, hc⟩ := (lies_of_owns h.ra).at_ (by omega)
  exact ⟨b, off, e, by rw [hc j hj, fnL_at x n j hj], hb⟩
theorem RC.far (h : RC w g base o x y n m A c B d) {j : Nat} (hj : j < m) : ∃ b off, B = some ⟨b, off, none⟩ ∧ w.cell? ⟨b, off + j, none⟩ = some (.int .u8 (y j)) ∧ b < w.heap.size := by
  obtain ⟨b, off, e, hb, hc⟩ := (lies_of_owns h.rb).at_ (by omega)
  exact ⟨b, off, e, by rw [hc j hj, fnL_at y m j hj], hb⟩
theorem rknown_is (z : Int) (w : World) (r : Int) (hr : kn z = r) : Calls Tryz.prog 60 #[.int .u8 z] w fun e w' => e = .returned (.int .u8 r) ∧ w = w' := by
  by_cases h1 : z = 1
  · subst h1
    have hr : (1 : Int) = r := hr
    subst hr
    go_enter Tryz.func60, Tryz.ntmps60
    go_wp2_with fail
    go_ret
    exact ⟨rfl, rfl⟩
  · have e1 : (z == 1) = false := beq_eq_false_iff_ne.2 h1
    by_cases h2 : z = 2
    · subst h2
      have hr : (2 : Int) = r := hr
      subst hr
      go_enter Tryz.func60, Tryz.ntmps60
      go_wp2_with fail
      go_ret
      exact ⟨rfl, rfl⟩
    · have e2 : (z == 2) = false := beq_eq_false_iff_ne.2 h2
      have hr : (0 : Int) = r := by rw [← hr, kn_no (by simp [wholeB, h1, h2])]
      subst hr
      clear h1 h2
      go_enter Tryz.func60, Tryz.ntmps60
      go_wp2_with fail
      go_ret
      exact ⟨rfl, rfl⟩
theorem rNew_yes (x y : Nat → Int) (o : Int) (w : World) (h0 : 0 ≤ o) (h1 : o < 8) (base : Nat) (hb : base ≤ w.heap.size) : Calls Tryz.prog 28 #[.int .i64 o] w fun e w' => e = .returned (.tuple #[.pointer (some ⟨w.heap.size, 0, none⟩), .int .i64 0]) ∧ RC w' w.heap.size base o x y 0 0 none 0 none 0 ∧ Below w.heap.size w w' := by
  have h1' : o ≤ 7 := by omega
  clear h1
  go_enter Tryz.func28, Tryz.ntmps28
  go_wp2_with fail
  go_ret2
  exact ⟨rfl, ⟨hb, Blk.new _ _ _, ⟨rfl, .inl ⟨rfl, rfl⟩⟩, ⟨rfl, .inl ⟨rfl, rfl⟩⟩, fun q hq => by cases hq⟩, below_al (Below.refl _ _) _⟩
theorem rBody_is (h : RC w g base o x y n m A c B d) (i : Nat) (hi : i < n) (hi' : i < m) (r : Int) (hr : bo x y i = r) :
    Calls Tryz.prog 62 #[.pointer (some ⟨g, 0, none⟩), .int .i64 (i : Int)] w fun e w' => e = .returned (.int .u8 r) ∧ w = w' := by
  obtain ⟨c0, c1, c2, cl⟩ := h.cs
  obtain ⟨b, off, rfl, hc, hb⟩ := h.near hi
  obtain ⟨b', off', rfl, hc', hb'⟩ := h.far hi'
  have hix := fun W => idxSym (n := n) c (b := b) (off := off) rfl hi W
  have hix' := fun W => idxSym (n := m) d (b := b') (off := off') rfl hi' W
  rw [bo] at hr
  obtain ⟨u, hu⟩ : ∃ u, u = x i := ⟨_, rfl⟩
  obtain ⟨v, hv⟩ : ∃ v, v = y i := ⟨_, rfl⟩
  rw [← hu] at hc hr
  rw [← hv] at hc' hr
  clear h hu hv hi hi' c0
  by_cases e : u = 0
  · subst e
    rw [if_pos rfl] at hr
    subst hr
    go_enter Tryz.func62, Tryz.ntmps62
    go_wp2_with fail
    go_ret
    exact ⟨rfl, rfl⟩
  · rw [if_neg e] at hr
    subst hr
    have e1 : (u != 0) = true := bne_iff_ne.2 e
    clear e
    go_enter Tryz.func62, Tryz.ntmps62
    go_wp2_with fail
    go_ret
    exact ⟨rfl, rfl⟩
theorem cutF_true {i : Nat} (k : Nat) (hk : i < k) (h1 : i < 112) (h2 : bo x y i = 0) : cutF x y k = true := by
  cases h : cutF x y k
  · exact absurd h2 ((cutF_iff k).1 h i hk h1)
  · rfl
set_option maxRecDepth 100000 in
theorem rCut_is (h : RC w g base o x y n m A c B d) (k : Nat) (hk : k ≤ n) (hk' : k ≤ m) (r : Bool) (hr : cutF x y k = r) :
    Calls Tryz.prog 61 #[.pointer (some ⟨g, 0, none⟩), .int .i64 (k : Int)] w fun e w' => e = .returned (.bool r) ∧ w = w' := by
  have HX := Lib.hid h
  have HR := Lib.hid hr
  clear h hr
  go_enter Tryz.func61, Tryz.ntmps61
  go_wp2_with fail
  go_loopw [5] (fun iv wr => ∃ i : Nat, i ≤ k ∧ i ≤ 112 ∧ iv = .int .i64 i ∧ wr = w ∧ Hid (∀ j, j < i → bo x y j ≠ 0)) (fun iv _ => k - (intOf iv).toNat)
  case atStart => exact ⟨0, Nat.zero_le _, by omega, rfl, rfl, Lib.hid fun j hj => absurd hj (by omega)⟩
  case round =>
    obtain ⟨i, hi, hi2, rfl, rfl, hp⟩ := hrel
    by_cases hlt : i < k
    · have hlti : (i : Int) < (k : Int) := by omega
      by_cases h12 : i < 112
      · have h12i : (i : Int) < 112 := by omega
        have HB := Lib.hid (rBody_is HX.out i (by omega) (by omega) _ rfl)
        obtain ⟨u, hu⟩ : ∃ u, u = bo x y i := ⟨_, rfl⟩
        rw [← hu] at HB
        by_cases e : u = 0
        · subst e
          have HT := Lib.hid (cutF_true k hlt h12 hu.symm)
          clear hu hp
          go_wp2_with (go_at_call 62; (with_reducible refine HB.out.mono ?_); rintro e w1 ⟨rfl, rfl⟩)
          go_ret
          exact ⟨(by have e := HT.out.symm.trans HR.out; subst e; rfl), rfl⟩
        · have e1 : (u == 0) = false := beq_eq_false_iff_ne.2 e
          have HP := Lib.hid (show ∀ j, j < i + 1 → bo x y j ≠ 0 from fun j hj => by
            rcases Nat.lt_succ_iff_lt_or_eq.1 hj with q | q
            · exact hp.out j q
            · rw [q, ← hu]; exact e)
          clear hu hp e
          go_wp2_with (go_at_call 62; (with_reducible refine HB.out.mono ?_); rintro e w1 ⟨rfl, rfl⟩)
          go_roundw
          case rel => exact ⟨i + 1, by omega, by omega, by go_num, trivial, HP⟩
          case measure => simp [intOf]; omega
      · have h12i : (112 : Int) ≤ (i : Int) := by omega
        have HT := Lib.hid (show cutF x y k = false from (cutF_iff k).2 fun j _ hj => hp.out j (by omega))
        clear hp
        go_wp2_with fail
        go_ret
        exact ⟨(by have e := HT.out.symm.trans HR.out; subst e; rfl), rfl⟩
    · have hlti : (k : Int) ≤ (i : Int) := by omega
      have HT := Lib.hid (show cutF x y k = false from (cutF_iff k).2 fun j hj _ => hp.out j (by omega))
      clear hp
      go_wp2_with fail
      go_ret
      exact ⟨(by have e := HT.out.symm.trans HR.out; subst e; rfl), rfl⟩
end
end Go.Proofs.YtkejpkcaojidaaaGreatDoor

namespace Go.Proofs.YtkejpkcaojidaaaGreatDoor
open Go.RowKit Crc
set_option linter.unusedVariables false

section
variable {w w' : World} {g base n m c d : Nat} {o : Int} {x y : Nat → Int} {A B : Option Addr}
theorem rbytes_all (A : Option Addr) (n c : Nat) (xs : List Int) (w : World) (hx : Lies .u8 w w.heap.size A n xs) (hn : n ≤ 65536) (hc : n ≤ c) (L : List Int) (hL : bytesP xs = L) (m : Nat) (hm : L.length = m) (r : Bool) (hr : bytesOk xs = r) :
    Calls Tryz.prog 105 #[.slice A n c] w fun e w' => ∃ A' c', e = .returned (.tuple #[.slice A' m c', .bool r]) ∧ Lies .u8 w' w'.heap.size A' m L ∧ m ≤ c' ∧ Below w.heap.size w w' := by
  subst hL hm hr
  have hl := hx.len
  cases h : bytesOk xs with
  | true =>
    refine (refBytes_owns A n c xs w hx hn hc h).mono fun e w' ⟨A', c', h1, h2, h3⟩ => ?_
    have e1 : (bytesP xs).length = n / 8 := by rw [bytesP_yes h, bytesL_length, hl]
    rw [e1, bytesP_yes h]
    exact ⟨A', c', h1, lies_of_owns h2, owns_cap h2, h3⟩
  | false =>
    refine (refBytes_no A n c xs w hx hn h).mono fun e w' ⟨h1, h2⟩ => ?_
    subst h2
    rw [bytesP_no h]
    exact ⟨none, 0, h1, Lies.nil_, Nat.le_refl _, Below.refl _ _⟩
theorem fnL_bo (n : Nat) : fnL (bo x y) (n + 1) = fnL (bo x y) n ++ [bo x y n] := fnL_succ _ _
set_option maxRecDepth 100000 in
set_option maxHeartbeats 8000000 in
theorem rFrame_is (h : RC w g base o x y n m A c B d) (hn : 112 ≤ n) (hm : 112 ≤ m) (r : Bool) (hr : isB o (bodyW x y) = r) (F : Fr) (hF : getF (bytesP (bodyW x y)) = F) :
    Calls Tryz.prog 65 #[.pointer (some ⟨g, 0, none⟩)] w fun e w' => e = .returned (.tuple #[.agg #[.int .i64 F.o, .int .u8 F.k, .int .u8 F.s, .int .u32 F.q, .int .u32 F.v], .bool r]) ∧ Below w.heap.size w w' := by
  obtain ⟨i0, hi0, hz0, hz1, hz2⟩ := info_parts infoSyms
  have HX := Lib.hid h
  have hbd := bytesP_bd (bodyW x y)
  have hbl : (bodyW x y).length = 112 := bodyW_length
  have HBW := Lib.hid (show fnL (bo x y) 112 = bodyW x y from rfl)
  rw [isB] at hr
  obtain ⟨L, hL⟩ : ∃ L, bytesP (bodyW x y) = L := ⟨_, rfl⟩
  obtain ⟨mm, hmm⟩ : ∃ mm, L.length = mm := ⟨_, rfl⟩
  obtain ⟨okb, hok⟩ : ∃ okb, bytesOk (bodyW x y) = okb := ⟨_, rfl⟩
  have HBY := Lib.hid (fun u A' c' (hu : Lies .u8 u u.heap.size A' 112 (bodyW x y)) hc => rbytes_all A' 112 c' (bodyW x y) u hu (by omega) hc L hL mm hmm okb hok)
  rw [hL] at hbd hr hF
  have HGT := Lib.hid (fun u A' c' (hu : Lies .u8 u u.heap.size A' mm L) hc => refGet_any A' mm c' L u hu hbd hc)
  have hE : okb = false → getE L = 4 := fun q => by
    subst q
    rw [bytesP_no hok] at hL
    subst hL
    rfl
  rw [hF] at HGT
  rw [hF] at hr
  obtain ⟨E, hEE⟩ : ∃ E, getE L = E := ⟨_, rfl⟩
  rw [hEE] at HGT hr hE
  have hR := Blk.new w 123 #[.int .i64 0, .int .u8 0, .int .u8 0, .int .u32 0, .int .u32 0]
  have hb := below_al (Below.refl w.heap.size w) (.cells #[.int .i64 0, .int .u8 0, .int .u8 0, .int .u32 0, .int .u32 0] 123)
  clear h hbd hbl hL hmm hok hF hEE
  go_enter Tryz.func65, Tryz.ntmps65
  go_wp2_with fail
  go_loopw [4, 5] (fun v iv wr => ∃ (i : Nat) (A' : Option Addr) (c' : Nat), i ≤ 112 ∧ iv = .int .i64 i ∧ v = .slice A' i c' ∧ wr.ownsRow w.heap.size 47 1 (.slice A' i c') i ((fnL (bo x y) i).map (Value.int .u8)) ∧ Blk wr w.heap.size 123 #[.int .i64 0, .int .u8 0, .int .u8 0, .int .u32 0, .int .u32 0] ∧ Below w.heap.size w wr) (fun _ iv _ => 112 - (intOf iv).toNat)
  case atStart => exact ⟨0, none, 0, Nat.zero_le _, rfl, rfl, owns_none, hR, hb⟩
  case round =>
    clear hR hb
    obtain ⟨i, A', c', hi, rfl, rfl, hown, hR, hb⟩ := hrel
    have hH := HX.out.on hb
    obtain ⟨c0, c1, c2, cl⟩ := hH.cs
    by_cases hlt : i < 112
    · have hlti : (i : Int) < 112 := by omega
      have hltn : (i : Int) < (n : Int) := by omega
      have HB := Lib.hid (rBody_is hH i (by omega) (by omega) _ rfl)
      obtain ⟨z, hz⟩ : ∃ z, z = bo x y i := ⟨_, rfl⟩
      have HZ := Lib.hid hz
      rw [← hz] at HB
      clear hz hH
      have hown5 := hown.alloc (.cells #[.int .u8 z] 47)
      have hcu : (wr.alloc (.cells #[.int .u8 z] 47)).cell? ⟨wr.heap.size, 0, none⟩ = some (.int .u8 z) := by simp
      go_wp2_with (first
        | (go_at_call 62; (with_reducible refine HB.out.mono ?_); rintro e w1 ⟨rfl, rfl⟩)
        | (at_builtin; with_reducible refine wpList_append_one rfl (.tmp 23) (.tmp 27) 126 rfl w.heap.size 47 i0 _ 1 Tryz.underlying126 hi0 hz0 hz1 hz2 rfl (.slice A' i c') i _ rfl hown5 wr.heap.size (.int .u8 z) rfl hcu rfl (by unfold maxLen; omega) (by omega) (Nat.le_trans hb.size (by simp)) ?_))
      intro A2 c2' w5 hown6 hg5
      have hb5 := (below_al hb (.cells #[.int .u8 z] 47)).grown hg5 (Nat.le_trans hb.size (by simp)) (fun r hr => (hown.lt r hr).1)
      have hkk := KeptBut.grown hown5 hg5
      have hR5 : Blk w5 w.heap.size 123 #[.int .i64 0, .int .u8 0, .int .u8 0, .int .u32 0, .int .u32 0] := hkk _ _ _ (by decide) (Blk.alloc hR _)
      have hown7 : w5.ownsRow w.heap.size 47 1 (.slice A2 (i + 1) c2') (i + 1) ((fnL (bo x y) (i + 1)).map (Value.int .u8)) := by
        rw [fnL_bo, List.map_append, ← HZ.out]
        exact hown6
      clear hown hown5 hown6 hg5 hcu hR hkk c0 c1 c2 cl
      go_wp2_with fail
      go_roundw
      case rel => exact ⟨i + 1, A2, c2', by omega, by go_num, rfl, hown7, hR5, hb5⟩
      case measure => simp [intOf]; omega
    · have hlti : (112 : Int) ≤ (i : Int) := by omega
      obtain rfl : i = 112 := by omega
      rw [HBW.out] at hown
      have hl := lies_of_owns hown
      have hcp := owns_cap hown
      clear hlt hi hi0 hz0 hz1 hz2 hown c0 c1 c2 cl hH
      go_wp2_with (first
        | (go_at_call 105; (with_reducible refine (HBY.out _ _ _ hl hcp).mono ?_); rintro e w2 ⟨A2, c2, rfl, hl2, hcp2, b2⟩)
        | (go_at_call 106; (with_reducible refine (HGT.out _ _ _ hl2 hcp2).mono ?_); rintro e w3 ⟨rfl, b3⟩; have hR3 := (hR.on b2).on b3; have hlt1 := hR3.lt; have x0 := hR3.cell 0; have x1 := hR3.cell 1; have x2 := hR3.cell 2; have x3 := hR3.cell 3; have x4 := hR3.cell 4; have y0 := hR3.frozen 0; have y1 := hR3.frozen 1; have y2 := hR3.frozen 2; have y3 := hR3.frozen 3; have y4 := hR3.frozen 4; simp only [List.getElem?_toArray, List.getElem?_cons_zero, List.getElem?_cons_succ] at x0 x1 x2 x3 x4; have hN3 := Blk.new w3 123 #[.int .i64 F.o, .int .u8 F.k, .int .u8 F.s, .int .u32 F.q, .int .u32 F.v]; have hlt2 := hN3.lt; have p0 := hN3.cell 0; have p1 := hN3.cell 1; have p2 := hN3.cell 2; have p3 := hN3.cell 3; have p4 := hN3.cell 4; have q0 := hN3.frozen 0; have q1 := hN3.frozen 1; have q2 := hN3.frozen 2; have q3 := hN3.frozen 3; have q4 := hN3.frozen 4; simp only [List.getElem?_toArray, List.getElem?_cons_zero, List.getElem?_cons_succ] at p0 p1 p2 p3 p4; have hH3 := ((HX.out.on hb).on b2).on b3; obtain ⟨c0, c1, c2, cl⟩ := hH3.cs; have hb3 := below_then (below_then hb b2) b3))
      have HBC := Lib.hid (hH3.blk.alloc (.cells #[.int .i64 F.o, .int .u8 F.k, .int .u8 F.s, .int .u32 F.q, .int .u32 F.v] 123))
      have HG := Lib.hid (show g ≠ w.heap.size from Nat.ne_of_lt HX.out.blk.lt)
      have HJ5 := Lib.hid (show has5 w.heap.size 123 (w3.alloc (.cells #[.int .i64 F.o, .int .u8 F.k, .int .u8 F.s, .int .u32 F.q, .int .u32 F.v] 123)) from ⟨_, _, _, _, _, hR3.alloc _⟩)
      have H8 := Lib.hid (show w3.heap.size ≠ w.heap.size from Nat.ne_of_gt hlt1)
      have HB8 := Lib.hid hN3
      have HBW := Lib.hid (below_al hb3 (.cells #[.int .i64 F.o, .int .u8 F.k, .int .u8 F.s, .int .u32 F.q, .int .u32 F.v] 123))
      have HJ := Lib.hid (show ∀ J ∈ [has5 w.heap.size 123, is5 w.heap.size 123 F], ∀ u u' : World, Below u.heap.size u u' → J u → J u' by
        simp only [List.forall_mem_cons]
        exact ⟨fun u u' k ⟨v0, v1, v2, v3, v4, hB⟩ => ⟨v0, v1, v2, v3, v4, hB.on k⟩, fun u u' k h => Blk.on h k, fun _ h => by cases h⟩)
      obtain ⟨g8, hg8⟩ : ∃ g8, g8 = w3.heap.size := ⟨_, rfl⟩
      obtain ⟨W3, hW3⟩ : ∃ W3, W3 = w3.alloc (.cells #[.int .i64 F.o, .int .u8 F.k, .int .u8 F.s, .int .u32 F.q, .int .u32 F.v] 123) := ⟨_, rfl⟩
      rw [← hg8] at H8 HB8 ⊢
      rw [← hW3] at HBC HJ5 HB8 HBW ⊢
      clear hg8 hW3 hb3 hH3 hR3 hN3 hl2 hcp2 b2 b3 hR hb hl hcp c0 c1 c2 cl x0 x1 x2 x3 x4 y0 y1 y2 y3 y4 p0 p1 p2 p3 p4 q0 q1 q2 q3 q4 hlt1 hlt2
      cases okb with
      | false =>
        have he := hE rfl
        subst he
        have hr : false = r := hr
        subst hr
        refine Reg.wp_slots2 (fun t => t == 3 || decide (39 ≤ t)) (Reg.KJ w.heap.size [w.heap.size] [has5 w.heap.size 123, is5 w.heap.size 123 F]) (Reg.KJ.drew _ HJ.out) Reg.KJ.trans (by kernel_rfl) (by kernel_rfl) (by kernel_rfl) (fun zz => (Reg.tblK [
          (39, .is (.agg #[.int .i64 F.o, .int .u8 F.k, .int .u8 F.s, .int .u32 F.q, .int .u32 F.v])),
          (40, .is (.bool false)),
          (41, .is (.bool false)),
          (42, .is (undef)),
          (43, .is (undef)),
          (44, .is (.bool false)),
          (45, .is (.bool false)),
          (46, .is (undef)),
          (47, .is (undef)),
          (48, .is (undef)),
          (49, .is (undef)),
          (50, .is (undef)),
          (51, .is (undef)),
          (52, .is (undef)),
          (53, .is (.bool false)),
          (3, .is (.bool false))] zz).P) (fun zz => (Reg.tblK _ zz).on) (fun zz => (Reg.memK [(15, .j (is5 w.heap.size 123 F) (by simp))] zz).P) (fun zz => (Reg.memK _ zz).on) ?_ ?_
        · simp only [Reg.frame, Reg.over, Nat.reduceAdd, Nat.reduceBEq, Nat.reduceLeDiff, decide_true, decide_false, Bool.or_true, Bool.or_false, if_true, Bool.false_eq_true, if_false]
          refine ⟨?_, ?_, ?_, ?_, ?_, ?_, ?_, ?_, ?_, ?_, ?_, ?_, ?_, ?_, ?_, ?_, ?_, trivial⟩
          · intro x u hku hd
            have hB := hku.blk (by simp only [List.mem_singleton]; exact H8.out) HB8.out
            have c0 := hB.cell 0
            have c1 := hB.cell 1
            have c2 := hB.cell 2
            have c3 := hB.cell 3
            have c4 := hB.cell 4
            simp only [List.getElem?_toArray, List.getElem?_cons_zero, List.getElem?_cons_succ] at c0 c1 c2 c3 c4
            have hlt := hB.lt
            refine wpOp_step rfl fun KK hK => ?_
            go_simp
            exact hK _ _ ⟨_, rfl, Reg.KJ.refl _, fun d hd => by cases hd; exact rfl, fun h => by cases h⟩
          · intro x u hku hd
            refine wpOp_step rfl fun KK hK => ?_
            go_simp
            exact hK _ _ ⟨_, rfl, Reg.KJ.refl _, fun d hd => by cases hd; exact rfl, fun h => by cases h⟩
          · intro x u hku hd
            have h40 : x 40 = .bool false := hd 1 (by decide)
            refine wpOp_step rfl fun KK hK => ?_
            simp only [h40] at hK ⊢
            go_simp
            exact hK _ _ ⟨_, rfl, Reg.KJ.refl _, fun d hd => by cases hd; exact rfl, fun h => by cases h⟩
          · intro x u hku hd
            have h41 : x 41 = .bool false := hd 2 (by decide)
            refine wpOp_step rfl fun KK hK => ?_
            simp only [h41] at hK ⊢
            go_simp
            exact hK _ _ ⟨_, rfl, Reg.KJ.refl _, fun d hd => by cases hd; exact rfl, fun h => by cases h⟩
          · intro x u hku hd
            have h42 : x 42 = undef := hd 3 (by decide)
            have h41 : x 41 = .bool false := hd 2 (by decide)
            refine wpOp_step rfl fun KK hK => ?_
            simp only [h42, h41] at hK ⊢
            go_simp
            exact hK _ _ ⟨_, rfl, Reg.KJ.refl _, fun d hd => by cases hd; exact rfl, fun h => by cases h⟩
          · intro x u hku hd
            have h41 : x 41 = .bool false := hd 2 (by decide)
            have h43 : x 43 = undef := hd 4 (by decide)
            refine wpOp_step rfl fun KK hK => ?_
            simp only [h41, h43] at hK ⊢
            go_simp
            exact hK _ _ ⟨_, rfl, Reg.KJ.refl _, fun d hd => by cases hd; exact rfl, fun h => by cases h⟩
          · intro x u hku hd
            have h44 : x 44 = .bool false := hd 5 (by decide)
            refine wpOp_step rfl fun KK hK => ?_
            simp only [h44] at hK ⊢
            go_simp
            exact hK _ _ ⟨_, rfl, Reg.KJ.refl _, fun d hd => by cases hd; exact rfl, fun h => by cases h⟩
          · intro x u hku hd
            have h45 : x 45 = .bool false := hd 6 (by decide)
            refine wpOp_step rfl fun KK hK => ?_
            simp only [h45] at hK ⊢
            go_simp
            exact hK _ _ ⟨_, rfl, Reg.KJ.refl _, fun d hd => by cases hd; exact rfl, fun h => by cases h⟩
          · intro x u hku hd
            have h46 : x 46 = undef := hd 7 (by decide)
            have h45 : x 45 = .bool false := hd 6 (by decide)
            refine wpOp_step rfl fun KK hK => ?_
            simp only [h46, h45] at hK ⊢
            go_simp
            exact hK _ _ ⟨_, rfl, Reg.KJ.refl _, fun d hd => by cases hd; exact rfl, fun h => by cases h⟩
          · intro x u hku hd
            have h45 : x 45 = .bool false := hd 6 (by decide)
            refine wpOp_step rfl fun KK hK => ?_
            simp only [h45] at hK ⊢
            go_simp
            exact hK _ _ ⟨_, rfl, Reg.KJ.refl _, fun d hd => by cases hd; exact rfl, fun h => by cases h⟩
          · intro x u hku hd
            have h48 : x 48 = undef := hd 9 (by decide)
            have h45 : x 45 = .bool false := hd 6 (by decide)
            refine wpOp_step rfl fun KK hK => ?_
            simp only [h48, h45] at hK ⊢
            go_simp
            exact hK _ _ ⟨_, rfl, Reg.KJ.refl _, fun d hd => by cases hd; exact rfl, fun h => by cases h⟩
          · intro x u hku hd
            have h49 : x 49 = undef := hd 10 (by decide)
            have h45 : x 45 = .bool false := hd 6 (by decide)
            refine wpOp_step rfl fun KK hK => ?_
            simp only [h49, h45] at hK ⊢
            go_simp
            exact hK _ _ ⟨_, rfl, Reg.KJ.refl _, fun d hd => by cases hd; exact rfl, fun h => by cases h⟩
          · intro x u hku hd
            have h50 : x 50 = undef := hd 11 (by decide)
            have h45 : x 45 = .bool false := hd 6 (by decide)
            refine wpOp_step rfl fun KK hK => ?_
            simp only [h50, h45] at hK ⊢
            go_simp
            exact hK _ _ ⟨_, rfl, Reg.KJ.refl _, fun d hd => by cases hd; exact rfl, fun h => by cases h⟩
          · intro x u hku hd
            have h47 : x 47 = undef := hd 8 (by decide)
            have h51 : x 51 = undef := hd 12 (by decide)
            have h45 : x 45 = .bool false := hd 6 (by decide)
            refine wpOp_step rfl fun KK hK => ?_
            simp only [h47, h51, h45] at hK ⊢
            go_simp
            exact hK _ _ ⟨_, rfl, Reg.KJ.refl _, fun d hd => by cases hd; exact rfl, fun h => by cases h⟩
          · intro x u hku hd
            have h45 : x 45 = .bool false := hd 6 (by decide)
            have h52 : x 52 = undef := hd 13 (by decide)
            refine wpOp_step rfl fun KK hK => ?_
            simp only [h45, h52] at hK ⊢
            go_simp
            exact hK _ _ ⟨_, rfl, Reg.KJ.refl _, fun d hd => by cases hd; exact rfl, fun h => by cases h⟩
          · intro x u hku hd
            have h39 : x 39 = .agg #[.int .i64 F.o, .int .u8 F.k, .int .u8 F.s, .int .u32 F.q, .int .u32 F.v] := hd 0 (by decide)
            obtain ⟨v0, v1, v2, v3, v4, hB⟩ := hku.j (has5 w.heap.size 123) (by simp) HJ5.out
            have c0 := hB.cell 0
            have f0 := hB.frozen 0
            have c1 := hB.cell 1
            have f1 := hB.frozen 1
            have c2 := hB.cell 2
            have f2 := hB.frozen 2
            have c3 := hB.cell 3
            have f3 := hB.frozen 3
            have c4 := hB.cell 4
            have f4 := hB.frozen 4
            simp only [List.getElem?_toArray, List.getElem?_cons_zero, List.getElem?_cons_succ] at c0 c1 c2 c3 c4
            have hlt := hB.lt
            have HFIN := Lib.hid (hB.five F)
            clear hB
            refine wpOp_step rfl fun KK hK => ?_
            simp only [h39] at hK ⊢
            go_simp
            exact hK _ _ ⟨undef, rfl, Reg.KJ.five (Nat.le_refl _) (by simp) (by simp only [List.forall_mem_cons]; exact ⟨fun _ => HFIN.out.has, fun _ => HFIN.out, fun _ h => by cases h⟩), fun d hd => (by cases hd), fun _ => HFIN.out⟩
          · intro x u hku hd
            have h53 : x 53 = .bool false := hd 14 (by decide)
            refine wpOp_step rfl fun KK hK => ?_
            simp only [h53] at hK ⊢
            go_simp
            exact hK _ _ ⟨_, rfl, Reg.KJ.refl _, fun d hd => by cases hd; exact rfl, fun h => by cases h⟩
        · intro x u hku hall
          have h3 : x 3 = .bool false := hall 16 (by decide)
          have m5 : is5 w.heap.size 123 F u := hall 15 (by decide)
          have c0 := m5.cell 0
          have c1 := m5.cell 1
          have c2 := m5.cell 2
          have c3 := m5.cell 3
          have c4 := m5.cell 4
          simp only [List.getElem?_toArray, List.getElem?_cons_zero, List.getElem?_cons_succ] at c0 c1 c2 c3 c4
          simp only [Reg.frame, Reg.over, Nat.reduceAdd, Nat.reduceBEq, Nat.reduceLeDiff, decide_true, decide_false, Bool.or_true, Bool.or_false, if_true, Bool.false_eq_true, if_false, h3]
          go_wp2_with fail
          refine bodyPost_ret (v := .tuple #[.agg #[.int .i64 F.o, .int .u8 F.k, .int .u8 F.s, .int .u32 F.q, .int .u32 F.v], .bool false]) (by simp [results, Tryz.results65, go_sem, c0, c1, c2, c3, c4]) rfl ⟨rfl, ?_⟩
          exact HBW.out.trans hku.1
      | true =>
        by_cases e0 : E = 0
        · subst e0
          rw [beq_self_eq_true, Bool.true_and] at hr
          refine Reg.wp_slots2 (fun t => t == 3 || decide (39 ≤ t)) (Reg.KJ w.heap.size [w.heap.size] [has5 w.heap.size 123, is5 w.heap.size 123 F]) (Reg.KJ.drew _ HJ.out) Reg.KJ.trans (by kernel_rfl) (by kernel_rfl) (by kernel_rfl) (fun zz => (Reg.tblK [
            (39, .is (.agg #[.int .i64 F.o, .int .u8 F.k, .int .u8 F.s, .int .u32 F.q, .int .u32 F.v])),
            (40, .is (.bool true)),
            (41, .is (.bool true)),
            (42, .is (.int .i64 0)),
            (43, .is (.bool true)),
            (44, .is (.bool true)),
            (45, .is (.bool true)),
            (46, .is (.pointer (some ⟨g8, 0, none⟩))),
            (47, .is (.int .i64 F.o)),
            (48, .is (.pointer (some ⟨g, 0, none⟩))),
            (49, .is (.pointer (some ⟨g, 0, none⟩))),
            (50, .is (.pointer (some ⟨g, 0, none⟩))),
            (51, .is (.int .i64 o)),
            (52, .is (.bool r)),
            (53, .is (.bool r)),
            (3, .is (.bool r))] zz).P) (fun zz => (Reg.tblK _ zz).on) (fun zz => (Reg.memK [(15, .j (is5 w.heap.size 123 F) (by simp))] zz).P) (fun zz => (Reg.memK _ zz).on) ?_ ?_
          · simp only [Reg.frame, Reg.over, Nat.reduceAdd, Nat.reduceBEq, Nat.reduceLeDiff, decide_true, decide_false, Bool.or_true, Bool.or_false, if_true, Bool.false_eq_true, if_false]
            refine ⟨?_, ?_, ?_, ?_, ?_, ?_, ?_, ?_, ?_, ?_, ?_, ?_, ?_, ?_, ?_, ?_, ?_, trivial⟩
            · intro x u hku hd
              have hB := hku.blk (by simp only [List.mem_singleton]; exact H8.out) HB8.out
              have c0 := hB.cell 0
              have c1 := hB.cell 1
              have c2 := hB.cell 2
              have c3 := hB.cell 3
              have c4 := hB.cell 4
              simp only [List.getElem?_toArray, List.getElem?_cons_zero, List.getElem?_cons_succ] at c0 c1 c2 c3 c4
              have hlt := hB.lt
              refine wpOp_step rfl fun KK hK => ?_
              go_simp
              exact hK _ _ ⟨_, rfl, Reg.KJ.refl _, fun d hd => by cases hd; exact rfl, fun h => by cases h⟩
            · intro x u hku hd
              refine wpOp_step rfl fun KK hK => ?_
              go_simp
              exact hK _ _ ⟨_, rfl, Reg.KJ.refl _, fun d hd => by cases hd; exact rfl, fun h => by cases h⟩
            · intro x u hku hd
              have h40 : x 40 = .bool true := hd 1 (by decide)
              refine wpOp_step rfl fun KK hK => ?_
              simp only [h40] at hK ⊢
              go_simp
              exact hK _ _ ⟨_, rfl, Reg.KJ.refl _, fun d hd => by cases hd; exact rfl, fun h => by cases h⟩
            · intro x u hku hd
              have h41 : x 41 = .bool true := hd 2 (by decide)
              refine wpOp_step rfl fun KK hK => ?_
              simp only [h41] at hK ⊢
              go_simp
              exact hK _ _ ⟨_, rfl, Reg.KJ.refl _, fun d hd => by cases hd; exact rfl, fun h => by cases h⟩
            · intro x u hku hd
              have h42 : x 42 = .int .i64 0 := hd 3 (by decide)
              have h41 : x 41 = .bool true := hd 2 (by decide)
              refine wpOp_step rfl fun KK hK => ?_
              simp only [h42, h41] at hK ⊢
              go_simp
              exact hK _ _ ⟨_, rfl, Reg.KJ.refl _, fun d hd => by cases hd; exact rfl, fun h => by cases h⟩
            · intro x u hku hd
              have h41 : x 41 = .bool true := hd 2 (by decide)
              have h43 : x 43 = .bool true := hd 4 (by decide)
              refine wpOp_step rfl fun KK hK => ?_
              simp only [h41, h43] at hK ⊢
              go_simp
              exact hK _ _ ⟨_, rfl, Reg.KJ.refl _, fun d hd => by cases hd; exact rfl, fun h => by cases h⟩
            · intro x u hku hd
              have h44 : x 44 = .bool true := hd 5 (by decide)
              refine wpOp_step rfl fun KK hK => ?_
              simp only [h44] at hK ⊢
              go_simp
              exact hK _ _ ⟨_, rfl, Reg.KJ.refl _, fun d hd => by cases hd; exact rfl, fun h => by cases h⟩
            · intro x u hku hd
              have h45 : x 45 = .bool true := hd 6 (by decide)
              refine wpOp_step rfl fun KK hK => ?_
              simp only [h45] at hK ⊢
              go_simp
              exact hK _ _ ⟨_, rfl, Reg.KJ.refl _, fun d hd => by cases hd; exact rfl, fun h => by cases h⟩
            · intro x u hku hd
              have h46 : x 46 = .pointer (some ⟨g8, 0, none⟩) := hd 7 (by decide)
              have h45 : x 45 = .bool true := hd 6 (by decide)
              have hB := hku.blk (by simp only [List.mem_singleton]; exact H8.out) HB8.out
              have c0 := hB.cell 0
              have c1 := hB.cell 1
              have c2 := hB.cell 2
              have c3 := hB.cell 3
              have c4 := hB.cell 4
              simp only [List.getElem?_toArray, List.getElem?_cons_zero, List.getElem?_cons_succ] at c0 c1 c2 c3 c4
              have hlt := hB.lt
              refine wpOp_step rfl fun KK hK => ?_
              simp only [h46, h45] at hK ⊢
              go_simp
              exact hK _ _ ⟨_, rfl, Reg.KJ.refl _, fun d hd => by cases hd; exact rfl, fun h => by cases h⟩
            · intro x u hku hd
              have h45 : x 45 = .bool true := hd 6 (by decide)
              refine wpOp_step rfl fun KK hK => ?_
              simp only [h45] at hK ⊢
              go_simp
              exact hK _ _ ⟨_, rfl, Reg.KJ.refl _, fun d hd => by cases hd; exact rfl, fun h => by cases h⟩
            · intro x u hku hd
              have h48 : x 48 = .pointer (some ⟨g, 0, none⟩) := hd 9 (by decide)
              have h45 : x 45 = .bool true := hd 6 (by decide)
              refine wpOp_step rfl fun KK hK => ?_
              simp only [h48, h45] at hK ⊢
              go_simp
              exact hK _ _ ⟨_, rfl, Reg.KJ.refl _, fun d hd => by cases hd; exact rfl, fun h => by cases h⟩
            · intro x u hku hd
              have h49 : x 49 = .pointer (some ⟨g, 0, none⟩) := hd 10 (by decide)
              have h45 : x 45 = .bool true := hd 6 (by decide)
              refine wpOp_step rfl fun KK hK => ?_
              simp only [h49, h45] at hK ⊢
              go_simp
              exact hK _ _ ⟨_, rfl, Reg.KJ.refl _, fun d hd => by cases hd; exact rfl, fun h => by cases h⟩
            · intro x u hku hd
              have h50 : x 50 = .pointer (some ⟨g, 0, none⟩) := hd 11 (by decide)
              have h45 : x 45 = .bool true := hd 6 (by decide)
              have hB := hku.blk (by simp only [List.mem_singleton]; exact HG.out) HBC.out
              have c0 := (hB.cell 0).trans (show _ = some (Value.int .i64 o) from rfl)
              have hlt := hB.lt
              refine wpOp_step rfl fun KK hK => ?_
              simp only [h50, h45] at hK ⊢
              go_simp
              exact hK _ _ ⟨_, rfl, Reg.KJ.refl _, fun d hd => by cases hd; exact rfl, fun h => by cases h⟩
            · intro x u hku hd
              have h47 : x 47 = .int .i64 F.o := hd 8 (by decide)
              have h51 : x 51 = .int .i64 o := hd 12 (by decide)
              have h45 : x 45 = .bool true := hd 6 (by decide)
              refine wpOp_step rfl fun KK hK => ?_
              simp only [h47, h51, h45] at hK ⊢
              go_simp
              exact hK _ _ ⟨_, rfl, Reg.KJ.refl _, fun d hd => by cases hd; exact rfl, fun h => by cases h⟩
            · intro x u hku hd
              have h45 : x 45 = .bool true := hd 6 (by decide)
              have h52 : x 52 = .bool r := hd 13 (by decide)
              refine wpOp_step rfl fun KK hK => ?_
              simp only [h45, h52] at hK ⊢
              go_simp
              exact hK _ _ ⟨_, rfl, Reg.KJ.refl _, fun d hd => by cases hd; exact rfl, fun h => by cases h⟩
            · intro x u hku hd
              have h39 : x 39 = .agg #[.int .i64 F.o, .int .u8 F.k, .int .u8 F.s, .int .u32 F.q, .int .u32 F.v] := hd 0 (by decide)
              obtain ⟨v0, v1, v2, v3, v4, hB⟩ := hku.j (has5 w.heap.size 123) (by simp) HJ5.out
              have c0 := hB.cell 0
              have f0 := hB.frozen 0
              have c1 := hB.cell 1
              have f1 := hB.frozen 1
              have c2 := hB.cell 2
              have f2 := hB.frozen 2
              have c3 := hB.cell 3
              have f3 := hB.frozen 3
              have c4 := hB.cell 4
              have f4 := hB.frozen 4
              simp only [List.getElem?_toArray, List.getElem?_cons_zero, List.getElem?_cons_succ] at c0 c1 c2 c3 c4
              have hlt := hB.lt
              have HFIN := Lib.hid (hB.five F)
              clear hB
              refine wpOp_step rfl fun KK hK => ?_
              simp only [h39] at hK ⊢
              go_simp
              exact hK _ _ ⟨undef, rfl, Reg.KJ.five (Nat.le_refl _) (by simp) (by simp only [List.forall_mem_cons]; exact ⟨fun _ => HFIN.out.has, fun _ => HFIN.out, fun _ h => by cases h⟩), fun d hd => (by cases hd), fun _ => HFIN.out⟩
            · intro x u hku hd
              have h53 : x 53 = .bool r := hd 14 (by decide)
              refine wpOp_step rfl fun KK hK => ?_
              simp only [h53] at hK ⊢
              go_simp
              exact hK _ _ ⟨_, rfl, Reg.KJ.refl _, fun d hd => by cases hd; exact rfl, fun h => by cases h⟩
          · intro x u hku hall
            have h3 : x 3 = .bool r := hall 16 (by decide)
            have m5 : is5 w.heap.size 123 F u := hall 15 (by decide)
            have c0 := m5.cell 0
            have c1 := m5.cell 1
            have c2 := m5.cell 2
            have c3 := m5.cell 3
            have c4 := m5.cell 4
            simp only [List.getElem?_toArray, List.getElem?_cons_zero, List.getElem?_cons_succ] at c0 c1 c2 c3 c4
            simp only [Reg.frame, Reg.over, Nat.reduceAdd, Nat.reduceBEq, Nat.reduceLeDiff, decide_true, decide_false, Bool.or_true, Bool.or_false, if_true, Bool.false_eq_true, if_false, h3]
            go_wp2_with fail
            refine bodyPost_ret (v := .tuple #[.agg #[.int .i64 F.o, .int .u8 F.k, .int .u8 F.s, .int .u32 F.q, .int .u32 F.v], .bool r]) (by simp [results, Tryz.results65, go_sem, c0, c1, c2, c3, c4]) rfl ⟨rfl, ?_⟩
            exact HBW.out.trans hku.1
        · have q1 : (E == 0) = false := beq_eq_false_iff_ne.2 e0
          rw [q1, Bool.false_and] at hr
          subst hr
          clear e0
          refine Reg.wp_slots2 (fun t => t == 3 || decide (39 ≤ t)) (Reg.KJ w.heap.size [w.heap.size] [has5 w.heap.size 123, is5 w.heap.size 123 F]) (Reg.KJ.drew _ HJ.out) Reg.KJ.trans (by kernel_rfl) (by kernel_rfl) (by kernel_rfl) (fun zz => (Reg.tblK [
            (39, .is (.agg #[.int .i64 F.o, .int .u8 F.k, .int .u8 F.s, .int .u32 F.q, .int .u32 F.v])),
            (40, .is (.bool true)),
            (41, .is (.bool true)),
            (42, .is (.int .i64 E)),
            (43, .is (.bool false)),
            (44, .is (.bool false)),
            (45, .is (.bool false)),
            (46, .is (undef)),
            (47, .is (undef)),
            (48, .is (undef)),
            (49, .is (undef)),
            (50, .is (undef)),
            (51, .is (undef)),
            (52, .is (undef)),
            (53, .is (.bool false)),
            (3, .is (.bool false))] zz).P) (fun zz => (Reg.tblK _ zz).on) (fun zz => (Reg.memK [(15, .j (is5 w.heap.size 123 F) (by simp))] zz).P) (fun zz => (Reg.memK _ zz).on) ?_ ?_
          · simp only [Reg.frame, Reg.over, Nat.reduceAdd, Nat.reduceBEq, Nat.reduceLeDiff, decide_true, decide_false, Bool.or_true, Bool.or_false, if_true, Bool.false_eq_true, if_false]
            refine ⟨?_, ?_, ?_, ?_, ?_, ?_, ?_, ?_, ?_, ?_, ?_, ?_, ?_, ?_, ?_, ?_, ?_, trivial⟩
            · intro x u hku hd
              have hB := hku.blk (by simp only [List.mem_singleton]; exact H8.out) HB8.out
              have c0 := hB.cell 0
              have c1 := hB.cell 1
              have c2 := hB.cell 2
              have c3 := hB.cell 3
              have c4 := hB.cell 4
              simp only [List.getElem?_toArray, List.getElem?_cons_zero, List.getElem?_cons_succ] at c0 c1 c2 c3 c4
              have hlt := hB.lt
              refine wpOp_step rfl fun KK hK => ?_
              go_simp
              exact hK _ _ ⟨_, rfl, Reg.KJ.refl _, fun d hd => by cases hd; exact rfl, fun h => by cases h⟩
            · intro x u hku hd
              refine wpOp_step rfl fun KK hK => ?_
              go_simp
              exact hK _ _ ⟨_, rfl, Reg.KJ.refl _, fun d hd => by cases hd; exact rfl, fun h => by cases h⟩
            · intro x u hku hd
              have h40 : x 40 = .bool true := hd 1 (by decide)
              refine wpOp_step rfl fun KK hK => ?_
              simp only [h40] at hK ⊢
              go_simp
              exact hK _ _ ⟨_, rfl, Reg.KJ.refl _, fun d hd => by cases hd; exact rfl, fun h => by cases h⟩
            · intro x u hku hd
              have h41 : x 41 = .bool true := hd 2 (by decide)
              refine wpOp_step rfl fun KK hK => ?_
              simp only [h41] at hK ⊢
              go_simp
              exact hK _ _ ⟨_, rfl, Reg.KJ.refl _, fun d hd => by cases hd; exact rfl, fun h => by cases h⟩
            · intro x u hku hd
              have h42 : x 42 = .int .i64 E := hd 3 (by decide)
              have h41 : x 41 = .bool true := hd 2 (by decide)
              refine wpOp_step rfl fun KK hK => ?_
              simp only [h42, h41] at hK ⊢
              go_simp
              exact hK _ _ ⟨_, rfl, Reg.KJ.refl _, fun d hd => by cases hd; exact rfl, fun h => by cases h⟩
            · intro x u hku hd
              have h41 : x 41 = .bool true := hd 2 (by decide)
              have h43 : x 43 = .bool false := hd 4 (by decide)
              refine wpOp_step rfl fun KK hK => ?_
              simp only [h41, h43] at hK ⊢
              go_simp
              exact hK _ _ ⟨_, rfl, Reg.KJ.refl _, fun d hd => by cases hd; exact rfl, fun h => by cases h⟩
            · intro x u hku hd
              have h44 : x 44 = .bool false := hd 5 (by decide)
              refine wpOp_step rfl fun KK hK => ?_
              simp only [h44] at hK ⊢
              go_simp
              exact hK _ _ ⟨_, rfl, Reg.KJ.refl _, fun d hd => by cases hd; exact rfl, fun h => by cases h⟩
            · intro x u hku hd
              have h45 : x 45 = .bool false := hd 6 (by decide)
              refine wpOp_step rfl fun KK hK => ?_
              simp only [h45] at hK ⊢
              go_simp
              exact hK _ _ ⟨_, rfl, Reg.KJ.refl _, fun d hd => by cases hd; exact rfl, fun h => by cases h⟩
            · intro x u hku hd
              have h46 : x 46 = undef := hd 7 (by decide)
              have h45 : x 45 = .bool false := hd 6 (by decide)
              refine wpOp_step rfl fun KK hK => ?_
              simp only [h46, h45] at hK ⊢
              go_simp
              exact hK _ _ ⟨_, rfl, Reg.KJ.refl _, fun d hd => by cases hd; exact rfl, fun h => by cases h⟩
            · intro x u hku hd
              have h45 : x 45 = .bool false := hd 6 (by decide)
              refine wpOp_step rfl fun KK hK => ?_
              simp only [h45] at hK ⊢
              go_simp
              exact hK _ _ ⟨_, rfl, Reg.KJ.refl _, fun d hd => by cases hd; exact rfl, fun h => by cases h⟩
            · intro x u hku hd
              have h48 : x 48 = undef := hd 9 (by decide)
              have h45 : x 45 = .bool false := hd 6 (by decide)
              refine wpOp_step rfl fun KK hK => ?_
              simp only [h48, h45] at hK ⊢
              go_simp
              exact hK _ _ ⟨_, rfl, Reg.KJ.refl _, fun d hd => by cases hd; exact rfl, fun h => by cases h⟩
            · intro x u hku hd
              have h49 : x 49 = undef := hd 10 (by decide)
              have h45 : x 45 = .bool false := hd 6 (by decide)
              refine wpOp_step rfl fun KK hK => ?_
              simp only [h49, h45] at hK ⊢
              go_simp
              exact hK _ _ ⟨_, rfl, Reg.KJ.refl _, fun d hd => by cases hd; exact rfl, fun h => by cases h⟩
            · intro x u hku hd
              have h50 : x 50 = undef := hd 11 (by decide)
              have h45 : x 45 = .bool false := hd 6 (by decide)
              refine wpOp_step rfl fun KK hK => ?_
              simp only [h50, h45] at hK ⊢
              go_simp
              exact hK _ _ ⟨_, rfl, Reg.KJ.refl _, fun d hd => by cases hd; exact rfl, fun h => by cases h⟩
            · intro x u hku hd
              have h47 : x 47 = undef := hd 8 (by decide)
              have h51 : x 51 = undef := hd 12 (by decide)
              have h45 : x 45 = .bool false := hd 6 (by decide)
              refine wpOp_step rfl fun KK hK => ?_
              simp only [h47, h51, h45] at hK ⊢
              go_simp
              exact hK _ _ ⟨_, rfl, Reg.KJ.refl _, fun d hd => by cases hd; exact rfl, fun h => by cases h⟩
            · intro x u hku hd
              have h45 : x 45 = .bool false := hd 6 (by decide)
              have h52 : x 52 = undef := hd 13 (by decide)
              refine wpOp_step rfl fun KK hK => ?_
              simp only [h45, h52] at hK ⊢
              go_simp
              exact hK _ _ ⟨_, rfl, Reg.KJ.refl _, fun d hd => by cases hd; exact rfl, fun h => by cases h⟩
            · intro x u hku hd
              have h39 : x 39 = .agg #[.int .i64 F.o, .int .u8 F.k, .int .u8 F.s, .int .u32 F.q, .int .u32 F.v] := hd 0 (by decide)
              obtain ⟨v0, v1, v2, v3, v4, hB⟩ := hku.j (has5 w.heap.size 123) (by simp) HJ5.out
              have c0 := hB.cell 0
              have f0 := hB.frozen 0
              have c1 := hB.cell 1
              have f1 := hB.frozen 1
              have c2 := hB.cell 2
              have f2 := hB.frozen 2
              have c3 := hB.cell 3
              have f3 := hB.frozen 3
              have c4 := hB.cell 4
              have f4 := hB.frozen 4
              simp only [List.getElem?_toArray, List.getElem?_cons_zero, List.getElem?_cons_succ] at c0 c1 c2 c3 c4
              have hlt := hB.lt
              have HFIN := Lib.hid (hB.five F)
              clear hB
              refine wpOp_step rfl fun KK hK => ?_
              simp only [h39] at hK ⊢
              go_simp
              exact hK _ _ ⟨undef, rfl, Reg.KJ.five (Nat.le_refl _) (by simp) (by simp only [List.forall_mem_cons]; exact ⟨fun _ => HFIN.out.has, fun _ => HFIN.out, fun _ h => by cases h⟩), fun d hd => (by cases hd), fun _ => HFIN.out⟩
            · intro x u hku hd
              have h53 : x 53 = .bool false := hd 14 (by decide)
              refine wpOp_step rfl fun KK hK => ?_
              simp only [h53] at hK ⊢
              go_simp
              exact hK _ _ ⟨_, rfl, Reg.KJ.refl _, fun d hd => by cases hd; exact rfl, fun h => by cases h⟩
          · intro x u hku hall
            have h3 : x 3 = .bool false := hall 16 (by decide)
            have m5 : is5 w.heap.size 123 F u := hall 15 (by decide)
            have c0 := m5.cell 0
            have c1 := m5.cell 1
            have c2 := m5.cell 2
            have c3 := m5.cell 3
            have c4 := m5.cell 4
            simp only [List.getElem?_toArray, List.getElem?_cons_zero, List.getElem?_cons_succ] at c0 c1 c2 c3 c4
            simp only [Reg.frame, Reg.over, Nat.reduceAdd, Nat.reduceBEq, Nat.reduceLeDiff, decide_true, decide_false, Bool.or_true, Bool.or_false, if_true, Bool.false_eq_true, if_false, h3]
            go_wp2_with fail
            refine bodyPost_ret (v := .tuple #[.agg #[.int .i64 F.o, .int .u8 F.k, .int .u8 F.s, .int .u32 F.q, .int .u32 F.v], .bool false]) (by simp [results, Tryz.results65, go_sem, c0, c1, c2, c3, c4]) rfl ⟨rfl, ?_⟩
            exact HBW.out.trans hku.1
end
end Go.Proofs.YtkejpkcaojidaaaGreatDoor

namespace Go.Proofs.YtkejpkcaojidaaaGreatDoor
open Go.RowKit Crc
set_option linter.unusedVariables false

theorem addr_same {b off b1 o1 : Nat} (h : (some (⟨b, off, none⟩ : Addr)) = some ⟨b1, o1, none⟩) : b = b1 ∧ off = o1 := by
  injection h with h
  injection h with h1 h2
  exact ⟨h1, h2⟩
section
variable {w w' : World} {g base n m c d : Nat} {o : Int} {x y : Nat → Int} {A B : Option Addr}
theorem RC.drewN (h : RC w g base o x y n m A c B d) (q : Nat) : RC (w.drewN q) g base o x y n m A c B d := h.on (below_same q)
theorem same_no {i k : Nat} (hk : i < k) (h : al x y i = false) : sameF x y k ≠ k := fun e => by
  rw [(sameF_iff k).1 e i hk] at h; cases h
theorem whole_no (i : Nat) (hi : i < 113) (h : al x y i = false) : wholeC x y o = false := by
  unfold wholeC
  rw [decide_eq_false (same_no hi h), Bool.false_and, Bool.false_and]
theorem whole_eq (h : ∀ j, j < 112 → al x y j = true) : wholeC x y o = (isB o (bodyW x y) && (x 112 == 2) && (y 112 == 2)) := by
  unfold wholeC
  have e : sameF x y 112 = 112 := (sameF_iff 112).2 h
  by_cases h2 : x 112 = 2
  · by_cases h3 : y 112 = 2
    · have ha : al x y 112 = true := by simp [al, h2, h3]
      rw [sameF_succ, e, ha, if_pos ⟨rfl, rfl⟩, h2, h3]
      simp
    · have ha : al x y 112 = false := by simp only [al, h2]; simp; exact fun q => absurd q.symm h3
      rw [decide_eq_false (same_no (Nat.lt_succ_self 112) ha), beq_eq_false_iff_ne.2 h3]
      simp
  · rw [beq_eq_false_iff_ne.2 h2]
    simp
theorem high_eq (hw : wholeC x y o = true) : highC x y o = ((x 113 == 1) && (y 113 == 1)) := by
  unfold highC
  rw [hw, Bool.true_and]
  have e : sameF x y 113 = 113 := by
    unfold wholeC at hw
    simp only [Bool.and_eq_true, decide_eq_true_eq] at hw
    exact hw.1.1
  by_cases h2 : x 113 = 1
  · by_cases h3 : y 113 = 1
    · have ha : al x y 113 = true := by simp [al, h2, h3]
      rw [sameF_succ, e, ha, if_pos ⟨rfl, rfl⟩, h2, h3]
      simp
    · have ha : al x y 113 = false := by simp only [al, h2]; simp; exact fun q => absurd q.symm h3
      rw [decide_eq_false (same_no (Nat.lt_succ_self 113) ha), beq_eq_false_iff_ne.2 h3]
      simp
  · rw [beq_eq_false_iff_ne.2 h2]
    simp
set_option maxRecDepth 100000 in
set_option maxHeartbeats 8000000 in
theorem rWhole_is (h : RC w g base o x y n m A c B d) (hn : 113 ≤ n) (hm : 113 ≤ m) (r : Bool) (hr : wholeC x y o = r) :
    Calls Tryz.prog 63 #[.pointer (some ⟨g, 0, none⟩)] w fun e w' => e = .returned (.bool r) ∧ Below w.heap.size w w' := by
  have HX := Lib.hid h
  have HR := Lib.hid hr
  clear h hr
  go_enter Tryz.func63, Tryz.ntmps63
  go_wp2_with fail
  go_loopw [3] (fun iv wr => ∃ i q : Nat, i ≤ 112 ∧ iv = .int .i64 i ∧ wr = w.drewN q ∧ Hid (∀ j, j < i → al x y j = true)) (fun iv _ => 112 - (intOf iv).toNat)
  case atStart => exact ⟨0, 0, Nat.zero_le _, rfl, rfl, Lib.hid fun j hj => absurd hj (by omega)⟩
  case round =>
    obtain ⟨i, q, hi, rfl, rfl, hp⟩ := hrel
    have hH := HX.out
    obtain ⟨c0, c1, c2, cl⟩ := hH.cs
    by_cases hlt : i < 112
    · have hlti : (i : Int) < 112 := by omega
      obtain ⟨b, off, eA, hc, hb⟩ := hH.near (j := i) (by omega)
      obtain ⟨b', off', eB, hc', hb'⟩ := hH.far (j := i) (by omega)
      have hix := fun W => idxSym (n := n) c (A := A) (b := b) (off := off) (k := i) eA (by omega) W
      have hix' := fun W => idxSym (n := m) d (A := B) (b := b') (off := off') (k := i) eB (by omega) W
      obtain ⟨u, hu⟩ : ∃ u, u = x i := ⟨_, rfl⟩
      obtain ⟨v, hv⟩ : ∃ v, v = y i := ⟨_, rfl⟩
      rw [← hu] at hc
      rw [← hv] at hc'
      clear hH eA eB
      have HA := Lib.hid (show al x y i = (u == v && u != 0) by rw [hu, hv]; rfl)
      clear hu hv
      by_cases e1 : u = v
      · subst e1
        have q1 : (u != u) = false := by simp
        by_cases e2 : u = 0
        · subst e2
          have HN := Lib.hid (show al x y i = false from HA.out)
          clear HA
          go_wp2_with fail
          go_quiet (fail)
          go_wp2_with fail
          go_ret
          exact ⟨(by have e := (whole_no (o := o) i (by omega) HN.out).symm.trans HR.out; subst e; rfl), below_drewN (below_same _) _⟩
        · have q2 : (u == 0) = false := beq_eq_false_iff_ne.2 e2
          have HP := Lib.hid (show ∀ j, j < i + 1 → al x y j = true from fun j hj => by
            rcases Nat.lt_succ_iff_lt_or_eq.1 hj with q | q
            · exact hp.out j q
            · rw [q, HA.out]; simp [e2])
          clear HA e2 hp
          go_wp2_with fail
          go_quiet (fail)
          go_wp2_with fail
          go_roundw
          case rel => exact ⟨i + 1, _, by omega, by go_num, rfl, HP⟩
          case measure => simp [intOf]; omega
      · have q1 : (u != v) = true := bne_iff_ne.2 e1
        have HN := Lib.hid (show al x y i = false by rw [HA.out, beq_eq_false_iff_ne.2 e1]; rfl)
        clear HA e1
        go_wp2_with fail
        go_quiet (fail)
        go_wp2_with fail
        go_ret
        exact ⟨(by have e := (whole_no (o := o) i (by omega) HN.out).symm.trans HR.out; subst e; rfl), below_drewN (below_same _) _⟩
    · have hlti : (112 : Int) ≤ (i : Int) := by omega
      obtain rfl : i = 112 := by omega
      have hb := below_same (w := w) q
      have hH2 := HX.out.drewN q
      have HFR := Lib.hid (rFrame_is hH2 (by omega) (by omega) _ rfl _ rfl)
      have HW := Lib.hid ((whole_eq (o := o) hp.out).symm.trans HR.out)
      obtain ⟨ib, hib⟩ : ∃ ib, isB o (bodyW x y) = ib := ⟨_, rfl⟩
      obtain ⟨F, hF⟩ : ∃ F, getF (bytesP (bodyW x y)) = F := ⟨_, rfl⟩
      rw [hib, hF] at HFR
      rw [hib] at HW
      have HCE := Lib.hid (fun u (hu : Below (w.drewN q).heap.size (w.drewN q) u) => (hH2.on hu))
      obtain ⟨b, off, eA, _, _⟩ := hH.near (j := 112) (by omega)
      obtain ⟨b', off', eB, _, _⟩ := hH.far (j := 112) (by omega)
      have HE := Lib.hid (And.intro eA eB)
      have hix := fun W => idxSym (n := n) c (A := A) (b := b) (off := off) (k := 112) eA (by omega) W
      have hix' := fun W => idxSym (n := m) d (A := B) (b := b') (off := off') (k := 112) eB (by omega) W
      rw [show ((112 : Nat) : Int) = 112 from rfl] at hix hix'
      obtain ⟨u, hu⟩ : ∃ u, u = x 112 := ⟨_, rfl⟩
      obtain ⟨v, hv⟩ : ∃ v, v = y 112 := ⟨_, rfl⟩
      have HU := Lib.hid (And.intro hu hv)
      rw [← hu, ← hv] at HW
      have HN2 := Lib.hid (show 112 < n ∧ 112 < m by omega)
      clear hlt hi hp hH hH2 eA eB hib hF hu hv c0 c1 c2 cl
      cases ib with
      | false =>
        go_wp2_with (go_at_call 65; (with_reducible refine HFR.out.mono ?_); rintro e w2 ⟨rfl, b2⟩; have b3 := below_al (below_then hb b2) (.cells #[.int .i64 F.o, .int .u8 F.k, .int .u8 F.s, .int .u32 F.q, .int .u32 F.v] 123))
        go_ret
        exact ⟨(by have e : false = r := HW.out; subst e; rfl), b3⟩
      | true =>
        by_cases e1 : u = 2
        · subst e1
          by_cases e2 : v = 2
          · subst e2
            go_wp2_with (go_at_call 65; (with_reducible refine HFR.out.mono ?_); rintro e w2 ⟨rfl, b2⟩; have b3 := below_al (below_then hb b2) (.cells #[.int .i64 F.o, .int .u8 F.k, .int .u8 F.s, .int .u32 F.q, .int .u32 F.v] 123); have hQ := (HCE.out _ b2).on (below_al (Below.refl _ _) (.cells #[.int .i64 F.o, .int .u8 F.k, .int .u8 F.s, .int .u32 F.q, .int .u32 F.v] 123)); obtain ⟨c0, c1, c2, cl⟩ := hQ.cs; obtain ⟨b1, o1, f1, hc, hb1⟩ := hQ.near HN2.out.1; obtain ⟨b1', o1', f1', hc', hb1'⟩ := hQ.far HN2.out.2; obtain ⟨rfl, rfl⟩ := addr_same (HE.out.1.symm.trans f1); obtain ⟨rfl, rfl⟩ := addr_same (HE.out.2.symm.trans f1'); rw [← HU.out.1] at hc; rw [← HU.out.2] at hc'; clear f1 f1' hQ)
            go_ret
            exact ⟨(by have e : true = r := HW.out; subst e; rfl), b3⟩
          · have q2 : (v == 2) = false := beq_eq_false_iff_ne.2 e2
            rw [q2] at HW
            clear e2
            go_wp2_with (go_at_call 65; (with_reducible refine HFR.out.mono ?_); rintro e w2 ⟨rfl, b2⟩; have b3 := below_al (below_then hb b2) (.cells #[.int .i64 F.o, .int .u8 F.k, .int .u8 F.s, .int .u32 F.q, .int .u32 F.v] 123); have hQ := (HCE.out _ b2).on (below_al (Below.refl _ _) (.cells #[.int .i64 F.o, .int .u8 F.k, .int .u8 F.s, .int .u32 F.q, .int .u32 F.v] 123)); obtain ⟨c0, c1, c2, cl⟩ := hQ.cs; obtain ⟨b1, o1, f1, hc, hb1⟩ := hQ.near HN2.out.1; obtain ⟨b1', o1', f1', hc', hb1'⟩ := hQ.far HN2.out.2; obtain ⟨rfl, rfl⟩ := addr_same (HE.out.1.symm.trans f1); obtain ⟨rfl, rfl⟩ := addr_same (HE.out.2.symm.trans f1'); rw [← HU.out.1] at hc; rw [← HU.out.2] at hc'; clear f1 f1' hQ)
            go_ret
            exact ⟨(by have e : false = r := HW.out; subst e; rfl), b3⟩
        · have q1 : (u == 2) = false := beq_eq_false_iff_ne.2 e1
          rw [q1] at HW
          clear e1
          go_wp2_with (go_at_call 65; (with_reducible refine HFR.out.mono ?_); rintro e w2 ⟨rfl, b2⟩; have b3 := below_al (below_then hb b2) (.cells #[.int .i64 F.o, .int .u8 F.k, .int .u8 F.s, .int .u32 F.q, .int .u32 F.v] 123); have hQ := (HCE.out _ b2).on (below_al (Below.refl _ _) (.cells #[.int .i64 F.o, .int .u8 F.k, .int .u8 F.s, .int .u32 F.q, .int .u32 F.v] 123)); obtain ⟨c0, c1, c2, cl⟩ := hQ.cs; obtain ⟨b1, o1, f1, hc, hb1⟩ := hQ.near HN2.out.1; obtain ⟨rfl, rfl⟩ := addr_same (HE.out.1.symm.trans f1); rw [← HU.out.1] at hc; clear f1 hQ)
          go_ret
          exact ⟨(by have e : false = r := HW.out; subst e; rfl), b3⟩
set_option maxRecDepth 100000 in
set_option maxHeartbeats 8000000 in
theorem rHigh_is (h : RC w g base o x y n n A c B d) (r : Bool) (hr : hiB x y o n = r) (F : Fr) (hF : hiF x y o n = F) :
    Calls Tryz.prog 36 #[.pointer (some ⟨g, 0, none⟩)] w fun e w' => e = .returned (.tuple #[.agg #[.int .i64 F.o, .int .u8 F.k, .int .u8 F.s, .int .u32 F.q, .int .u32 F.v], .bool r]) ∧ Below w.heap.size w w' := by
  have HX := Lib.hid h
  have h1 := h.on (below_al (Below.refl w.heap.size w) (.cells #[.int .i64 0, .int .u8 0, .int .u8 0, .int .u32 0, .int .u32 0] 123))
  have HX1 := Lib.hid h1
  have hN := Blk.new w 123 #[.int .i64 0, .int .u8 0, .int .u8 0, .int .u32 0, .int .u32 0]
  have HBE := Lib.hid (below_al (Below.refl w.heap.size w) (.cells #[.int .i64 0, .int .u8 0, .int .u8 0, .int .u32 0, .int .u32 0] 123))
  have HZ := Lib.hid (show Ending.returned (.tuple #[.agg #[.int .i64 Fr.zero.o, .int .u8 Fr.zero.k, .int .u8 Fr.zero.s, .int .u32 Fr.zero.q, .int .u32 Fr.zero.v], .bool false]) = .returned (.tuple #[.agg #[.int .i64 0, .int .u8 0, .int .u8 0, .int .u32 0, .int .u32 0], .bool false]) from rfl)
  obtain ⟨c0, c1, c2, cl⟩ := h1.cs
  rw [hiF, hr] at hF
  rw [hiB] at hr
  by_cases e : 114 ≤ n
  · have hd : decide ((n : Int) < 114) = false := decide_eq_false (by omega)
    rw [decide_eq_true e, Bool.true_and] at hr
    have HWH := Lib.hid (fun u (hu : RC u g base o x y n n A c B d) => rWhole_is hu (by omega) (by omega) _ rfl)
    have HFR := Lib.hid (fun u (hu : RC u g base o x y n n A c B d) => rFrame_is hu (by omega) (by omega) _ rfl _ rfl)
    obtain ⟨b, off, eA, _, _⟩ := h.near (j := 113) (by omega)
    obtain ⟨b', off', eB, _, _⟩ := h.far (j := 113) (by omega)
    have HE := Lib.hid (And.intro eA eB)
    have hix := fun W => idxSym (n := n) c (A := A) (b := b) (off := off) (k := 113) eA (by omega) W
    have hix' := fun W => idxSym (n := n) d (A := B) (b := b') (off := off') (k := 113) eB (by omega) W
    rw [show ((113 : Nat) : Int) = 113 from rfl] at hix hix'
    have HN2 := Lib.hid (show 113 < n ∧ 113 < n by omega)
    clear e h h1 eA eB
    cases hw : wholeC x y o with
    | false =>
      have q : highC x y o = false := by unfold highC; rw [hw]; rfl
      rw [q] at hr
      subst hr
      rw [if_neg (by decide)] at hF
      subst hF
      rw [hw] at HWH
      clear q hw hN
      have hN := Blk.new w 123 #[.int .i64 0, .int .u8 0, .int .u8 0, .int .u32 0, .int .u32 0]
      go_enter Tryz.func36, Tryz.ntmps36
      go_wp2_with (go_at_call 63; (with_reducible refine (HWH.out _ HX1.out).mono ?_); rintro e w2 ⟨rfl, b2⟩; have hN2 := hN.on b2; have hlt1 := hN2.lt; have x0 := hN2.cell 0; have x1 := hN2.cell 1; have x2 := hN2.cell 2; have x3 := hN2.cell 3; have x4 := hN2.cell 4; have y0 := hN2.frozen 0; have y1 := hN2.frozen 1; have y2 := hN2.frozen 2; have y3 := hN2.frozen 3; have y4 := hN2.frozen 4; simp only [List.getElem?_toArray, List.getElem?_cons_zero, List.getElem?_cons_succ] at x0 x1 x2 x3 x4; have b3 := below_then HBE.out b2)
      refine bodyPost_ret (v := .tuple #[.agg #[.int .i64 0, .int .u8 0, .int .u8 0, .int .u32 0, .int .u32 0], .bool false]) (by simp [results, Tryz.results36, go_sem, x0, x1, x2, x3, x4]) rfl ⟨HZ.out.symm, ?_⟩
      exact below_five b3 (Nat.le_refl _) _ _ _ _ _
    | true =>
      have hh := high_eq hw
      have hib : isB o (bodyW x y) = true := by
        unfold wholeC at hw
        simp only [Bool.and_eq_true] at hw
        exact hw.1.2
      rw [hr] at hh
      rw [hw] at HWH
      rw [hib] at HFR
      clear hw hib hr
      obtain ⟨u, hu⟩ : ∃ u, u = x 113 := ⟨_, rfl⟩
      obtain ⟨v, hv⟩ : ∃ v, v = y 113 := ⟨_, rfl⟩
      have HU := Lib.hid (And.intro hu hv)
      rw [← hu, ← hv] at hh
      clear hu hv
      by_cases e1 : u = 1
      · subst e1
        by_cases e2 : v = 1
        · subst e2
          replace hh : r = true := hh
          subst hh
          rw [if_pos rfl] at hF
          rw [hF] at HFR
          clear hF
          go_enter Tryz.func36, Tryz.ntmps36
          go_wp2_with (first
            | (go_at_call 63; (with_reducible refine (HWH.out _ HX1.out).mono ?_); rintro e w2 ⟨rfl, b2⟩; have hQ := HX1.out.on b2; obtain ⟨c0, c1, c2, cl⟩ := hQ.cs; obtain ⟨b1, o1, f1, hc, hb1⟩ := hQ.near HN2.out.1; obtain ⟨b1', o1', f1', hc', hb1'⟩ := hQ.far HN2.out.2; obtain ⟨rfl, rfl⟩ := addr_same (HE.out.1.symm.trans f1); obtain ⟨rfl, rfl⟩ := addr_same (HE.out.2.symm.trans f1'); rw [← HU.out.1] at hc; rw [← HU.out.2] at hc'; clear f1 f1')
            | (go_at_call 65; (with_reducible refine (HFR.out _ hQ).mono ?_); rintro e w3 ⟨rfl, b3⟩; have hN2 := (hN.on b2).on b3; have hlt1 := hN2.lt; have x0 := hN2.cell 0; have x1 := hN2.cell 1; have x2 := hN2.cell 2; have x3 := hN2.cell 3; have x4 := hN2.cell 4; have y0 := hN2.frozen 0; have y1 := hN2.frozen 1; have y2 := hN2.frozen 2; have y3 := hN2.frozen 3; have y4 := hN2.frozen 4; simp only [List.getElem?_toArray, List.getElem?_cons_zero, List.getElem?_cons_succ] at x0 x1 x2 x3 x4; have b4 := below_then (below_then HBE.out b2) b3))
          refine bodyPost_ret (v := .tuple #[.agg #[.int .i64 F.o, .int .u8 F.k, .int .u8 F.s, .int .u32 F.q, .int .u32 F.v], .bool true]) (by simp [results, Tryz.results36, go_sem, x0, x1, x2, x3, x4]) rfl ⟨rfl, ?_⟩
          exact below_five b4 (Nat.le_refl _) _ _ _ _ _
        · have q2 : (v != 1) = true := bne_iff_ne.2 e2
          rw [beq_eq_false_iff_ne.2 e2] at hh
          replace hh : r = false := hh
          subst hh
          rw [if_neg (by decide)] at hF
          subst hF
          clear e2
          go_enter Tryz.func36, Tryz.ntmps36
          go_wp2_with (go_at_call 63; (with_reducible refine (HWH.out _ HX1.out).mono ?_); rintro e w2 ⟨rfl, b2⟩; have hQ := HX1.out.on b2; obtain ⟨c0, c1, c2, cl⟩ := hQ.cs; obtain ⟨b1, o1, f1, hc, hb1⟩ := hQ.near HN2.out.1; obtain ⟨b1', o1', f1', hc', hb1'⟩ := hQ.far HN2.out.2; obtain ⟨rfl, rfl⟩ := addr_same (HE.out.1.symm.trans f1); obtain ⟨rfl, rfl⟩ := addr_same (HE.out.2.symm.trans f1'); rw [← HU.out.1] at hc; rw [← HU.out.2] at hc'; clear f1 f1'; have hN2 := hN.on b2; have hlt1 := hN2.lt; have x0 := hN2.cell 0; have x1 := hN2.cell 1; have x2 := hN2.cell 2; have x3 := hN2.cell 3; have x4 := hN2.cell 4; have y0 := hN2.frozen 0; have y1 := hN2.frozen 1; have y2 := hN2.frozen 2; have y3 := hN2.frozen 3; have y4 := hN2.frozen 4; simp only [List.getElem?_toArray, List.getElem?_cons_zero, List.getElem?_cons_succ] at x0 x1 x2 x3 x4; have b3 := below_then HBE.out b2)
          refine bodyPost_ret (v := .tuple #[.agg #[.int .i64 0, .int .u8 0, .int .u8 0, .int .u32 0, .int .u32 0], .bool false]) (by simp [results, Tryz.results36, go_sem, x0, x1, x2, x3, x4]) rfl ⟨HZ.out.symm, ?_⟩
          exact below_five b3 (Nat.le_refl _) _ _ _ _ _
      · have q1 : (u != 1) = true := bne_iff_ne.2 e1
        rw [beq_eq_false_iff_ne.2 e1] at hh
        replace hh : r = false := hh
        subst hh
        rw [if_neg (by decide)] at hF
        subst hF
        clear e1
        go_enter Tryz.func36, Tryz.ntmps36
        go_wp2_with (go_at_call 63; (with_reducible refine (HWH.out _ HX1.out).mono ?_); rintro e w2 ⟨rfl, b2⟩; have hQ := HX1.out.on b2; obtain ⟨c0, c1, c2, cl⟩ := hQ.cs; obtain ⟨b1, o1, f1, hc, hb1⟩ := hQ.near HN2.out.1; obtain ⟨rfl, rfl⟩ := addr_same (HE.out.1.symm.trans f1); rw [← HU.out.1] at hc; clear f1; have hN2 := hN.on b2; have hlt1 := hN2.lt; have x0 := hN2.cell 0; have x1 := hN2.cell 1; have x2 := hN2.cell 2; have x3 := hN2.cell 3; have x4 := hN2.cell 4; have y0 := hN2.frozen 0; have y1 := hN2.frozen 1; have y2 := hN2.frozen 2; have y3 := hN2.frozen 3; have y4 := hN2.frozen 4; simp only [List.getElem?_toArray, List.getElem?_cons_zero, List.getElem?_cons_succ] at x0 x1 x2 x3 x4; have b3 := below_then HBE.out b2)
        refine bodyPost_ret (v := .tuple #[.agg #[.int .i64 0, .int .u8 0, .int .u8 0, .int .u32 0, .int .u32 0], .bool false]) (by simp [results, Tryz.results36, go_sem, x0, x1, x2, x3, x4]) rfl ⟨HZ.out.symm, ?_⟩
        exact below_five b3 (Nat.le_refl _) _ _ _ _ _
  · have hd : decide ((n : Int) < 114) = true := decide_eq_true (by omega)
    rw [decide_eq_false e, Bool.false_and] at hr
    subst hr
    rw [if_neg (by decide)] at hF
    subst hF
    clear e h h1
    have hlt1 := hN.lt
    have x0 := hN.cell 0; have x1 := hN.cell 1; have x2 := hN.cell 2; have x3 := hN.cell 3; have x4 := hN.cell 4; have y0 := hN.frozen 0; have y1 := hN.frozen 1; have y2 := hN.frozen 2; have y3 := hN.frozen 3; have y4 := hN.frozen 4; simp only [List.getElem?_toArray, List.getElem?_cons_zero, List.getElem?_cons_succ] at x0 x1 x2 x3 x4
    go_enter Tryz.func36, Tryz.ntmps36
    go_wp2_with fail
    refine bodyPost_ret (v := .tuple #[.agg #[.int .i64 0, .int .u8 0, .int .u8 0, .int .u32 0, .int .u32 0], .bool false]) (by simp [results, Tryz.results36, go_sem, x0, x1, x2, x3, x4]) rfl ⟨HZ.out.symm, ?_⟩
    with_reducible exact HBE.out
end
end Go.Proofs.YtkejpkcaojidaaaGreatDoor

namespace Go.Proofs.YtkejpkcaojidaaaGreatDoor
open Go.RowKit Crc
set_option linter.unusedVariables false

/-- append of one symbol onto a row of the call's own, as one step of a region that draws its order. -/
theorem step_append_row {ops : Array Oper} {o : Oper} {a : Act} {w : World} {K : Act → World → Prop} {Q : Exit → Act → World → Prop} {E : Prop} (hgd : o.guard = none) (s x : Operand)
    (ho : o.op = .call { callee := .builtin .append, args := #[s, x], argTypes := #[126, 126] })
    (base : Nat) (A : Option Addr) (n c : Nat) (xs : List Int) (hs : a.eval s = .slice A n c) (hown : w.ownsRow base 47 1 (.slice A n c) n (xs.map (Value.int .u8)))
    (b : Nat) (z : Int) (hx : a.eval x = .slice (some ⟨b, 0, none⟩) 1 1) (hB : Blk w b 47 #[.int .u8 z]) (hn : n ≤ 65536) (hbase : base ≤ w.heap.size)
    (h : ∀ A' c' w', w'.ownsRow base 47 1 (.slice A' (n + 1) c') (n + 1) ((xs ++ [z]).map (Value.int .u8)) → w.grownBy w' (Value.slice A n c).ownBlock → ((Value.slice A' (n + 1) c').ownBlock = (Value.slice A n c).ownBlock ∨ (Value.slice A' (n + 1) c').ownBlock = some w.heap.size) → K (a.put o.dst (.slice A' (n + 1) c')) w') :
    if Region.wanted o (yielded ops a.tmps) = true then Oper.wp Tryz.prog o a w K Q else E := by
  have hw : Region.wanted o (yielded ops a.tmps) = true := by simp [Region.wanted, hgd]
  rw [if_pos hw]
  obtain ⟨i0, hi0, hz0, hz1, hz2⟩ := info_parts infoSyms
  have hr : Lies .u8 w w.heap.size (some ⟨b, 0, none⟩) 1 [z] := Blk.lies (k := .u8) (xs := [z]) hB rfl
  obtain ⟨A', c', w', hrun, h2, h3, h4⟩ := run_append_lies (P := Tryz.prog) w base 126 o.type 47 i0 _ 1 Tryz.underlying126 hi0 hz0 hz1 hz2 rfl .u8 (.slice A n c) n xs hown (some ⟨b, 0, none⟩) 1 1 [z] hr (by unfold maxLen; omega) (by omega) hbase
  unfold Oper.wp
  simp only [execOp, ho, resolve, invoke, builtin, Sem.run_bind, Sem.run_pure, Result.andThen_ok, List.map_toArray, List.map_cons, List.map_nil, hs, hx, hrun]
  exact h A' c' w' h2 h3 h4
section
variable {w w' u : World} {g base n m c d : Nat} {o : Int} {x y : Nat → Int} {A B : Option Addr}
theorem owns_block {base n q : Nat} {e : TypeId} {v : Value} {xs : List Value} (h : w.ownsRow base e 1 v n xs) (hq : v.ownBlock = some q) : base ≤ q ∧ q < w.heap.size := h.lt q hq
theorem owns_grown {base n : Nat} {e : TypeId} {v : Value} {xs : List Value} {row : Option Nat} (h : w.ownsRow base e 1 v n xs) (hg : w.grownBy w' row) (hne : ∀ q, v.ownBlock = some q → row ≠ some q) : w'.ownsRow base e 1 v n xs := by
  refine ⟨h.1, ?_⟩
  rcases h.2 with q | ⟨g', cap, cur, hv, hb, hh, r⟩
  · exact .inl q
  · have hlt : g' < w.heap.size := Blk.lt (t := e) (cs := cur) hh
    exact .inr ⟨g', cap, cur, hv, hb, (hg.block g' hlt (fun q => hne g' (by rw [hv]; rfl) q.symm)).trans hh, r⟩
theorem rc_base (h : RC w g base o x y n m A c B d) : base ≤ w.heap.size := Nat.le_trans h.lo (Nat.le_of_lt h.blk.lt)
/-- Blocks of a row: as it was, or made since. -/
def OwnStep (z : Nat) (A A' : Option Addr) : Prop := ∀ q, A'.map (·.block) = some q → A.map (·.block) = some q ∨ z ≤ q
theorem own_map (A : Option Addr) (n c : Nat) : (Value.slice A n c).ownBlock = A.map (·.block) := by cases A <;> rfl
/-- What was there stays, but for the block g and a row. -/
def ButRow (w w' : World) (g : Nat) (A : Option Addr) : Prop := ∀ k, k < w.heap.size → k ≠ g → A.map (·.block) ≠ some k → w'.heap[k]? = w.heap[k]?
theorem but_row {g n c i : Nat} {A : Option Addr} {v : Value} (hu : Below w.heap.size w u) (hg : u.grownBy w' (Value.slice A n c).ownBlock) : ButRow w (w'.setCell ⟨g, i, none⟩ v) g A := fun k hk h1 h2 =>
  (Below.heap_setCell w' ⟨g, i, none⟩ v k h1).trans ((hg.block k (Nat.lt_of_lt_of_le hk hu.size) fun e => h2 ((own_map A n c).symm.trans e.symm)).trans (hu.block k hk))
theorem own_step {n c n' c' : Nat} {A A' : Option Addr} (hu : Below w.heap.size w u) (ho : (Value.slice A' n' c').ownBlock = (Value.slice A n c).ownBlock ∨ (Value.slice A' n' c').ownBlock = some u.heap.size) : OwnStep w.heap.size A A' := fun q hq => by
  rw [← own_map A' n' c'] at hq
  rcases ho with e | e
  · left; rw [← own_map A n c, ← e]; exact hq
  · right
    rw [e] at hq
    injection hq with hq
    have := hu.size
    omega
/-- One more is had near. -/
theorem rc_pushA (h : RC w g base o x y n m A c B d) (hu : Below w.heap.size w u) {A' : Option Addr} {c' : Nat} (hr : w'.ownsRow base 47 1 (.slice A' (n + 1) c') (n + 1) ((fnL x n ++ [x n]).map (Value.int .u8))) (hg : u.grownBy w' (Value.slice A n c).ownBlock)
    (ho : (Value.slice A' (n + 1) c').ownBlock = (Value.slice A n c).ownBlock ∨ (Value.slice A' (n + 1) c').ownBlock = some u.heap.size) :
    RC (w'.setCell ⟨g, 1, none⟩ (.slice A' (n + 1) c')) g base o x y (n + 1) m A' c' B d ∧ Below base w (w'.setCell ⟨g, 1, none⟩ (.slice A' (n + 1) c')) ∧ KeptBut w (w'.setCell ⟨g, 1, none⟩ (.slice A' (n + 1) c')) [155, 47] ∧ Blk w' g 155 #[.int .i64 o, .slice A n c, .slice B m d] ∧ ButRow w (w'.setCell ⟨g, 1, none⟩ (.slice A' (n + 1) c')) g A ∧ OwnStep w.heap.size A A' := by
  have hU := h.on hu
  have hk := KeptBut.grown hU.ra hg
  have hB := hk _ _ _ (by decide) hU.blk
  have hS := KeptBut.setCell (i := 1) hB (.slice A' (n + 1) c')
  have hbu := hu.mono (rc_base h)
  refine ⟨⟨h.lo, ?_, ?_, ?_, ?_⟩, (hbu.grown hg (rc_base hU) fun q hq => (owns_block hU.ra hq).1).setCell (p := ⟨g, 1, none⟩) h.lo _, ((KeptBut.below hu _).trans (hk.mono (by decide))).trans (hS.mono (by decide)), hB, but_row hu hg, own_step hu ho⟩
  · have := hB.set_ 1 (.slice A' (n + 1) c')
    simpa using this
  · rw [fnL_succ]
    exact owns_kept hr hS (by decide)
  · exact owns_kept (owns_grown hU.rb hg fun q hq e => h.ne q e hq) hS (by decide)
  · intro q hq
    rcases ho with e | e
    · rw [e] at hq; exact h.ne q hq
    · intro hb
      rw [e] at hq
      injection hq with hq
      have := (owns_block hU.rb hb).2
      omega
/-- One more is had far. -/
theorem rc_pushB (h : RC w g base o x y n m A c B d) (hu : Below w.heap.size w u) {B' : Option Addr} {d' : Nat} (hr : w'.ownsRow base 47 1 (.slice B' (m + 1) d') (m + 1) ((fnL y m ++ [y m]).map (Value.int .u8))) (hg : u.grownBy w' (Value.slice B m d).ownBlock)
    (ho : (Value.slice B' (m + 1) d').ownBlock = (Value.slice B m d).ownBlock ∨ (Value.slice B' (m + 1) d').ownBlock = some u.heap.size) :
    RC (w'.setCell ⟨g, 2, none⟩ (.slice B' (m + 1) d')) g base o x y n (m + 1) A c B' d' ∧ Below base w (w'.setCell ⟨g, 2, none⟩ (.slice B' (m + 1) d')) ∧ KeptBut w (w'.setCell ⟨g, 2, none⟩ (.slice B' (m + 1) d')) [155, 47] ∧ Blk w' g 155 #[.int .i64 o, .slice A n c, .slice B m d] ∧ ButRow w (w'.setCell ⟨g, 2, none⟩ (.slice B' (m + 1) d')) g B ∧ OwnStep w.heap.size B B' := by
  have hU := h.on hu
  have hk := KeptBut.grown hU.rb hg
  have hB := hk _ _ _ (by decide) hU.blk
  have hS := KeptBut.setCell (i := 2) hB (.slice B' (m + 1) d')
  have hbu := hu.mono (rc_base h)
  refine ⟨⟨h.lo, ?_, ?_, ?_, ?_⟩, (hbu.grown hg (rc_base hU) fun q hq => (owns_block hU.rb hq).1).setCell (p := ⟨g, 2, none⟩) h.lo _, ((KeptBut.below hu _).trans (hk.mono (by decide))).trans (hS.mono (by decide)), hB, but_row hu hg, own_step hu ho⟩
  · have := hB.set_ 2 (.slice B' (m + 1) d')
    simpa using this
  · exact owns_kept (owns_grown hU.ra hg fun q hq e => h.ne q hq e) hS (by decide)
  · rw [fnL_succ]
    exact owns_kept hr hS (by decide)
  · intro q hq hb
    rcases ho with e | e
    · rw [e] at hb; exact h.ne q hq hb
    · rw [e] at hb
      injection hb with hb
      have := (owns_block hU.ra hq).2
      omega
theorem rStep_done (a b : Int) (h : RC w g base o x y 114 m A c B d) : Calls Tryz.prog 33 #[.pointer (some ⟨g, 0, none⟩), .int .u8 a, .int .u8 b] w fun e w' => e = .returned (.int .u8 0) ∧ w = w' := by
  obtain ⟨c0, c1, c2, cl⟩ := h.cs
  clear h
  go_enter Tryz.func33, Tryz.ntmps33
  go_wp2_with fail
  go_ret
  exact ⟨rfl, rfl⟩
def RPost (w w' : World) (g base : Nat) (o : Int) (x y : Nat → Int) (n m : Nat) : Prop := (∃ A' c' B' d', RC w' g base o x y n m A' c' B' d') ∧ Below base w w' ∧ KeptBut w w' [155, 47]
theorem RPost.on (h : RPost w u g base o x y n m) (hb : Below u.heap.size u w') : RPost w w' g base o x y n m := by
  obtain ⟨⟨A', c', B', d', h1⟩, h2, h3⟩ := h
  exact ⟨⟨A', c', B', d', h1.on hb⟩, h2.trans (hb.mono (Nat.le_trans (rc_base h1) (Nat.le_refl _))), h3.trans (KeptBut.below hb _)⟩
theorem RPost.then {k l : Nat} (h : RPost w u g base o x y n m) (h' : RPost u w' g base o x y k l) : RPost w w' g base o x y k l := ⟨h'.1, h.2.1.trans h'.2.1, h.2.2.trans h'.2.2⟩
/-- The same, and which blocks alone have turned. -/
def RPostX (w w' : World) (g base : Nat) (o : Int) (x y : Nat → Int) (n m : Nat) (A B : Option Addr) : Prop := (∃ A' c' B' d', RC w' g base o x y n m A' c' B' d' ∧ OwnStep w.heap.size A A' ∧ OwnStep w.heap.size B B') ∧ Below base w w' ∧ KeptBut w w' [155, 47] ∧ ∀ k, k < w.heap.size → k ≠ g → A.map (·.block) ≠ some k → B.map (·.block) ≠ some k → w'.heap[k]? = w.heap[k]?
theorem RPostX.on (h : RPostX w u g base o x y n m A B) (hb : Below u.heap.size u w') : RPostX w w' g base o x y n m A B := by
  obtain ⟨⟨A', c', B', d', h1, q1, q2⟩, h2, h3, h4⟩ := h
  exact ⟨⟨A', c', B', d', h1.on hb, q1, q2⟩, h2.trans (hb.mono (Nat.le_trans (rc_base h1) (Nat.le_refl _))), h3.trans (KeptBut.below hb _), fun k hk e1 e2 e3 => (hb.block k (Nat.lt_of_lt_of_le hk h2.size)).trans (h4 k hk e1 e2 e3)⟩
theorem RPostX.post (h : RPostX w w' g base o x y n m A B) : RPost w w' g base o x y n m := by
  obtain ⟨⟨A', c', B', d', h1, _, _⟩, h2, h3, _⟩ := h
  exact ⟨⟨A', c', B', d', h1⟩, h2, h3⟩
theorem rc_both {v : World} {A1 : Option Addr} {e1 : Nat} {B1 : Option Addr} {d1 : Nat} (h1 : Below base w u) (h2 : KeptBut w u [155, 47]) (h3 : ButRow w u g A) (h4 : OwnStep w.heap.size A A1)
    (k0 : RC v g base o x y n m A1 e1 B1 d1) (k1 : Below base u v) (k2 : KeptBut u v [155, 47]) (k3 : ButRow u v g B) (k4 : OwnStep u.heap.size B B1) : RPostX w v g base o x y n m A B :=
  ⟨⟨A1, e1, B1, d1, k0, h4, fun q hq => (k4 q hq).imp id fun h => Nat.le_trans h1.size h⟩, h1.trans k1, h2.trans k2, fun k hk e1 e2 e3 => (k3 k (Nat.lt_of_lt_of_le hk h1.size) e1 e3).trans (h3 k hk e1 e2)⟩
set_option maxRecDepth 100000 in
set_option maxHeartbeats 1600000 in
theorem rStep_isX (a b : Int) (h : RC w g base o x y n n A c B d) (hn : n < 114) (hx : kn a = x n) (hy : kn b = y n) (r : Int) (hr : outC x y o n = r) :
    Calls Tryz.prog 33 #[.pointer (some ⟨g, 0, none⟩), .int .u8 a, .int .u8 b] w fun e w' => e = .returned (.int .u8 r) ∧ RPostX w w' g base o x y (n + 1) (n + 1) A B := by
  obtain ⟨c0, c1, c2, cl⟩ := h.cs
  have HX := Lib.hid h
  have hne : ((n : Int) == 114) = false := beq_eq_false_iff_ne.2 (by omega)
  have HKA := Lib.hid (fun u => rknown_is a u _ hx)
  have HKB := Lib.hid (fun u => rknown_is b u _ hy)
  obtain ⟨xa, hxa⟩ : ∃ xa, xa = x n := ⟨_, rfl⟩
  obtain ⟨yb, hyb⟩ : ∃ yb, yb = y n := ⟨_, rfl⟩
  rw [← hxa] at HKA
  rw [← hyb] at HKB
  have HU := Lib.hid (And.intro hxa hyb)
  have HN := Lib.hid hn
  have HR := Lib.hid hr
  have HBS := Lib.hid (rc_base h)
  have HOW := Lib.hid (show ((w.drew).alloc (.cells #[.int .u8 xa] 47)).ownsRow base 47 1 (.slice A n c) n ((fnL x n).map (Value.int .u8)) from owns_on1 h.ra (below_al (Below.refl _ _).drew _))
  have HNB := Lib.hid (show Blk ((w.drew).alloc (.cells #[.int .u8 xa] 47)) w.heap.size 47 #[.int .u8 xa] from Blk.new w.drew 47 #[.int .u8 xa])
  have HD := Lib.hid (show Below w.heap.size w ((w.drew).alloc (.cells #[.int .u8 xa] 47)) from below_al (Below.refl _ _).drew _)
  have HBS1 := Lib.hid (Nat.le_trans HBS.out HD.out.size)
  clear h hx hy hxa hyb hn hr
  go_enter Tryz.func33, Tryz.ntmps33
  go_upto_region 4 with fail
  go_cut [17] from 17 to 27 (fun s17 wx => ∃ A' c', RC wx g base o x y (n + 1) n A' c' B d ∧ Below base w wx ∧ KeptBut w wx [155, 47] ∧ ButRow w wx g A ∧ OwnStep w.heap.size A A')
  case first =>
    go_region_law (first
      | (go_simp; go_at_call 60; with_reducible refine (HKA.out _).mono ?_; rintro e w2 ⟨rfl, rfl⟩)
      | (refine step_append_row rfl (.tmp 21) (.tmp 24) rfl base A n c (fnL x n) (by simp [Act.eval]) HOW.out w.heap.size xa (by simp [Act.eval]) HNB.out (by have := HN.out; omega) HBS1.out ?_; intro A' c' w' hr hg ho; have hr := hr; rw [HU.out.1] at hr; obtain ⟨q1, q2, q3, q4, q5, q6⟩ := rc_pushA HX.out HD.out hr hg ho; have HQ := Lib.hid (And.intro q1 (And.intro q2 (And.intro q3 (And.intro q5 q6)))); have f1 := q4.frozen 1; have x1 := (q4.cell 1).trans (show _ = some (Value.slice A n c) from rfl); have xl := q4.lt; clear q1 q2 q3 q4 q5 q6 hr hg ho))
    all_goals (go_wp2_with fail; go_meet; exact ⟨_, _, HQ.out⟩)
  case rest =>
    obtain ⟨A1, e1, hA, hbA, hkA, hrA, hoA⟩ := hcut
    clear HOW HNB HD HBS1 c0 c1 c2 cl HX
    obtain ⟨c0, c1, c2, cl⟩ := hA.cs
    have HX := Lib.hid hA
    have HBS := Lib.hid (rc_base hA)
    have HOW := Lib.hid (show ((wc.drew).alloc (.cells #[.int .u8 yb] 47)).ownsRow base 47 1 (.slice B n d) n ((fnL y n).map (Value.int .u8)) from owns_on1 hA.rb (below_al (Below.refl _ _).drew _))
    have HNB := Lib.hid (show Blk ((wc.drew).alloc (.cells #[.int .u8 yb] 47)) wc.heap.size 47 #[.int .u8 yb] from Blk.new wc.drew 47 #[.int .u8 yb])
    have HD := Lib.hid (show Below wc.heap.size wc ((wc.drew).alloc (.cells #[.int .u8 yb] 47)) from below_al (Below.refl _ _).drew _)
    have HBS1 := Lib.hid (Nat.le_trans HBS.out HD.out.size)
    have HKP := Lib.hid (And.intro hbA (And.intro hkA (And.intro hrA hoA)))
    clear hA hbA hkA hrA hoA
    go_upto_region 5 with fail
    go_cut [28] from 28 to 38 (fun s28 wx => RPostX w wx g base o x y (n + 1) (n + 1) A B)
    case first =>
      go_region_law (first
        | (go_simp; go_at_call 60; with_reducible refine (HKB.out _).mono ?_; rintro e w2 ⟨rfl, rfl⟩)
        | (refine step_append_row rfl (.tmp 32) (.tmp 35) rfl base B n d (fnL y n) (by simp [Act.eval]) HOW.out wc.heap.size yb (by simp [Act.eval]) HNB.out (by have := HN.out; omega) HBS1.out ?_; intro B' d' w' hr hg ho; have hr := hr; rw [HU.out.2] at hr; obtain ⟨q1, q2, q3, q4, q5, q6⟩ := rc_pushB HX.out HD.out hr hg ho; have HQ := Lib.hid (And.intro q1 (And.intro q2 (And.intro q3 (And.intro q5 q6)))); have f1 := q4.frozen 2; have x1 := (q4.cell 2).trans (show _ = some (Value.slice B n d) from rfl); have xl := q4.lt; clear q1 q2 q3 q4 q5 q6 hr hg ho))
      all_goals (go_wp2_with fail; go_meet; exact rc_both HKP.out.1 HKP.out.2.1 HKP.out.2.2.1 HKP.out.2.2.2 HQ.out.1 HQ.out.2.1 HQ.out.2.2.1 HQ.out.2.2.2.1 HQ.out.2.2.2.2)
    case rest =>
      have HP := Lib.hid hcut
      obtain ⟨⟨A2, e2, B2, d2, hR, _, _⟩, hbb, hkk, _⟩ := hcut
      clear HOW HNB HD HBS1 c0 c1 c2 cl HX HKP HBS HKA HKB hbb hkk
      have HR2 := Lib.hid hR
      obtain ⟨c0, c1, c2, cl⟩ := hR.cs
      have hn := HN.out
      have hr := HR.out
      have hw1 : IntKind.i64.wrap ((n : Int) + 1) = (n : Int) + 1 := IntWalk.i64_in _ (by omega)
      have HCT := Lib.hid (fun r hr => show Calls Tryz.prog 61 #[.pointer (some ⟨g, 0, none⟩), .int .i64 ((n : Int) + 1)] _ fun e w' => e = .returned (.bool r) ∧ _ = w' from rCut_is hR (n + 1) (Nat.le_refl _) (Nat.le_refl _) r hr)
      clear HU HR HN
      cases hct : cutF x y (n + 1) with
      | true =>
        have HC := Lib.hid (HCT.out _ hct)
        have e0 : 0 = r := by rw [← hr]; unfold outC; rw [hct, if_pos rfl]
        subst e0
        clear hr hct hR HCT
        go_wp2_with (go_at_call 61; (with_reducible refine HC.out.mono ?_); rintro e w2 ⟨rfl, rfl⟩)
        go_ret
        exact ⟨rfl, HP.out⟩
      | false =>
        have HC := Lib.hid (HCT.out _ hct)
        clear HCT
        rcases Nat.lt_or_ge n 112 with h1 | h1
        · have hlt : (n : Int) < 112 := by omega
          have e0 : bo x y n = r := by rw [← hr]; unfold outC; rw [hct, if_neg (by decide), if_pos h1]
          have HB := Lib.hid (rBody_is hR n (by omega) (by omega) r e0)
          clear hr hct hR e0
          go_wp2_with (first
            | (go_at_call 61; (with_reducible refine HC.out.mono ?_); rintro e w2 ⟨rfl, rfl⟩)
            | (go_at_call 62; (with_reducible refine HB.out.mono ?_); rintro e w3 ⟨rfl, rfl⟩))
          go_ret
          exact ⟨rfl, HP.out⟩
        · have hlt : (112 : Int) ≤ (n : Int) := by omega
          rcases Nat.lt_or_ge n 113 with h2 | h2
          · obtain rfl : n = 112 := by omega
            rw [outC_112] at hr
            simp only [Nat.reduceAdd, Int.reduceAdd, show ((112 : Nat) : Int) = 112 from rfl] at *
            rw [hct, if_neg (by decide)] at hr
            have HW := Lib.hid (rWhole_is HR2.out (by omega) (by omega) _ rfl)
            cases hwc : wholeC x y o
            all_goals
              rw [hwc] at HW hr
              obtain rfl := hr
              clear hwc hR hct
              go_wp2_with (first
                | (go_at_call 61; (with_reducible refine HC.out.mono ?_); rintro e w2 ⟨rfl, rfl⟩)
                | (go_at_call 63; (with_reducible refine HW.out.mono ?_); rintro e w3 ⟨rfl, b3⟩))
              go_ret
              exact ⟨rfl, HP.out.on b3⟩
          · obtain rfl : n = 113 := by omega
            rw [outC_113] at hr
            simp only [Nat.reduceAdd, Int.reduceAdd, show ((113 : Nat) : Int) = 113 from rfl] at *
            rw [hct, if_neg (by decide)] at hr
            have HH := Lib.hid (rHigh_is HR2.out _ rfl _ rfl)
            have hhi : hiB x y o 114 = highC x y o := by unfold hiB; rw [decide_eq_true (Nat.le_refl 114), Bool.true_and]
            rw [hhi] at HH
            obtain ⟨G, hG⟩ : ∃ G, hiF x y o 114 = G := ⟨_, rfl⟩
            rw [hG] at HH
            cases hwc : highC x y o
            all_goals
              rw [hwc] at HH hr
              obtain rfl := hr
              clear hwc hR hct hhi hG
              go_wp2_with (first
                | (go_at_call 61; (with_reducible refine HC.out.mono ?_); rintro e w2 ⟨rfl, rfl⟩)
                | (go_at_call 36; (with_reducible refine HH.out.mono ?_); rintro e w3 ⟨rfl, b3⟩; have b4 := below_al b3 (.cells #[.int .i64 G.o, .int .u8 G.k, .int .u8 G.s, .int .u32 G.q, .int .u32 G.v] 123)))
              go_ret
              exact ⟨rfl, HP.out.on b4⟩
end
end Go.Proofs.YtkejpkcaojidaaaGreatDoor

