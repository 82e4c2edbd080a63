/-
  The contracts of package windows' guardOf and Guards. Conditions: the net's reading; both tables are as the program's text lays them; a direction that is.
-/
import Derived.Test.YtajkpbmjgncbbaaDoorWn2
namespace Go.Proofs.YtajkpbmjgncbbaaDoor
open Go.RowKit Rg
set_option linter.unusedVariables false

def wnEq (X Y : Wn) : Bool := X.r == Y.r && X.p == Y.p && X.b == Y.b && X.e == Y.e
theorem wnEq_iff {X Y : Wn} : wnEq X Y = true ↔ X = Y := by
  obtain ⟨a, b, c, d⟩ := X
  obtain ⟨a', b', c', d'⟩ := Y
  simp [wnEq]
  constructor
  · rintro ⟨⟨⟨h1, h2⟩, h3⟩, h4⟩; exact ⟨h1, h2, h3, h4⟩
  · rintro ⟨h1, h2, h3, h4⟩; exact ⟨⟨⟨h1, h2⟩, h3⟩, h4⟩
theorem wn_eql (r p b e r' p' b' e' : Int) (w : World) : (binOp .eql 33 (.agg #[.int .u8 r, .int .i64 p, .int .i64 b, .int .i64 e]) (.agg #[.int .u8 r', .int .i64 p', .int .i64 b', .int .i64 e'])).run Tryd.prog w = .ok (.bool (r == r' && p == p' && b == b' && e == e')) w := by
  go_simp
  by_cases h1 : r = r' <;> by_cases h2 : p = p' <;> by_cases h3 : b = b' <;> by_cases h4 : e = e' <;> simp [h1, h2, h3, h4]
theorem wn_neq (r p b e r' p' b' e' : Int) (w : World) : (binOp .neq 33 (.agg #[.int .u8 r, .int .i64 p, .int .i64 b, .int .i64 e]) (.agg #[.int .u8 r', .int .i64 p', .int .i64 b', .int .i64 e'])).run Tryd.prog w = .ok (.bool (!(r == r' && p == p' && b == b' && e == e'))) w := by
  go_simp
  by_cases h1 : r = r' <;> by_cases h2 : p = p' <;> by_cases h3 : b = b' <;> by_cases h4 : e = e' <;> simp [h1, h2, h3, h4]
theorem wn_eql_is (X Y : Wn) (t : Bool) (ht : wnEq X Y = t) (w : World) : (binOp .eql 33 (.agg #[.int .u8 X.r, .int .i64 X.p, .int .i64 X.b, .int .i64 X.e]) (.agg #[.int .u8 Y.r, .int .i64 Y.p, .int .i64 Y.b, .int .i64 Y.e])).run Tryd.prog w = .ok (.bool t) w := by
  subst ht; exact wn_eql _ _ _ _ _ _ _ _ w

theorem Blk.wn {w : World} {g : Nat} {X : Wn} (h : Blk w g 33 #[.int .u8 X.r, .int .i64 X.p, .int .i64 X.b, .int .i64 X.e]) : w.cell? ⟨g, 0, none⟩ = some (.int .u8 X.r) ∧ w.cell? ⟨g, 1, none⟩ = some (.int .i64 X.p) ∧ w.cell? ⟨g, 2, none⟩ = some (.int .i64 X.b) ∧ w.cell? ⟨g, 3, none⟩ = some (.int .i64 X.e) ∧ g < w.heap.size :=
  ⟨(h.cell 0).trans rfl, (h.cell 1).trans rfl, (h.cell 2).trans rfl, (h.cell 3).trans rfl, h.lt⟩

set_option maxHeartbeats 1000000 in
theorem guardOf_is (v : Value) (N : Int) (P : List Int) (d o g : Int) (hg : guM N d (atM P o) = g) (w : World) (hn : NetP w v N P) (hw : Laid2 w) (hd : d = 0 ∨ d = 1) :
    Calls Tryd.prog 30 #[v, .int .u8 d, .int .i64 o] w fun e w' => e = .returned (.int .i64 g) ∧ Below w.heap.size w w' := by
  have HN := Lib.hid hn
  have HW := Lib.hid hw
  have hd0 : 0 ≤ d := by omega
  have hd1 : d ≤ 255 := by omega
  have hNb := hn.bd
  have hN0 : 0 ≤ N := by omega
  have hN1 : N ≤ 16 := by omega
  have HY := Lib.hid (show ∀ k : Nat, (k : Int) < N → (wnEq (ofW N P d o k) (wnM 2) = true ↔ g = k) from fun k hk => by
    rw [wnEq_iff, wn_guard, ← hg, plM]
    have := gu_iff (N := N) (d := d) (f := atM P o) (x := k) hd (by omega) hk
    constructor
    · rintro ⟨_, h⟩; exact this.1 h
    · intro h; exact ⟨by omega, this.2 h⟩)
  have HG := Lib.hid (show g = -1 ∨ 0 ≤ g ∧ g < N by rw [← hg]; exact gu_in)
  obtain ⟨G, hG⟩ : ∃ G, G = wnM 2 := ⟨_, rfl⟩
  have HGG := Lib.hid hG
  have HP := Lib.hid (fun u hu => placed_any 2 u hu (by omega) (by omega))
  rw [← hG] at HP HY
  clear hn hw hd hNb hg hG
  go_enter Tryd.func30, Tryd.ntmps30
  go_wp2_with (first
    | (go_at_call 28; (with_reducible refine (HP.out w HW.out.roles).mono ?_); rintro e w1 ⟨rfl, b1⟩; have hB1 := below_al b1 (.cells #[.int .u8 G.r, .int .i64 G.p, .int .i64 G.b, .int .i64 G.e] 33); have hG1 := Blk.new w1 33 #[.int .u8 G.r, .int .i64 G.p, .int .i64 G.b, .int .i64 G.e]; have HZ := Lib.hid b1.size; clear b1)
    | (go_at_call 25; (with_reducible refine (size_is v N P _ (HN.out.on hB1)).mono ?_); rintro e w2 ⟨rfl, b2⟩; have hB2 := below_then hB1 b2; have hG2 := hG1.on b2; clear hB1 hG1 b2))
  obtain ⟨gg, hgg⟩ : ∃ gg, gg = w1.heap.size := ⟨_, rfl⟩
  rw [← hgg] at hG2 ⊢
  clear hgg HZ
  go_loopw [14] (fun i wr => ∃ k : Nat, (k : Int) ≤ N ∧ i = .int .i64 k ∧ Hid (∀ j : Nat, j < k → ¬ g = j) ∧ Blk wr gg 33 #[.int .u8 G.r, .int .i64 G.p, .int .i64 G.b, .int .i64 G.e] ∧ Below w.heap.size w wr) (fun i _ => (N - intOf i).toNat)
  case atStart => exact ⟨0, by omega, rfl, Lib.hid fun j hj => absurd hj (by omega), hG2, hB2⟩
  case round =>
    clear hB2 hG2
    obtain ⟨k, hk, rfl, ht, hB1, hb⟩ := hrel
    by_cases hlt : (k : Int) < N
    · have HK := Lib.hid (HY.out k hlt)
      obtain ⟨X, hX⟩ : ∃ X, ofW N P d o k = X := ⟨_, rfl⟩
      obtain ⟨E, hE⟩ : ∃ E, ofWE N P d o k = E := ⟨_, rfl⟩
      have HX := Lib.hid hX
      have HE := Lib.hid hE
      rw [hX] at HK
      clear hX hE
      by_cases hq : wnEq X G = true
      · have HR := Lib.hid (HK.out.1 hq)
        have hql := fun W => wn_eql_is X G true hq W
        clear hq
        go_wp2_with (go_at_call 10; (with_reducible refine (winOf_is v N P d o k X HX.out E HE.out wr (HN.out.on hb) (HW.out.on hb) hd0 hd1).mono ?_); rintro e w3 ⟨rfl, b3⟩; have hX3 := Blk.new w3 33 #[.int .u8 X.r, .int .i64 X.p, .int .i64 X.b, .int .i64 X.e]; have hG3 := (hB1.on b3).alloc (.cells #[.int .u8 X.r, .int .i64 X.p, .int .i64 X.b, .int .i64 X.e] 33); obtain ⟨y0, y1, y2, y3, yl⟩ := hX3.wn; obtain ⟨z0, z1, z2, z3, zl⟩ := hG3.wn; have hb3 := below_then hb b3)
        go_ret
        exact ⟨ret_int HR.out.symm, below_al hb3 _⟩
      · have hq' : wnEq X G = false := by simpa using hq
        have HR := Lib.hid (show ∀ j : Nat, j < k + 1 → ¬ g = j from fun j hj => by
          rcases Nat.lt_succ_iff_lt_or_eq.1 hj with h | h
          · exact ht.out j h
          · subst h; exact fun h => hq (HK.out.2 h))
        have hql := fun W => wn_eql_is X G false hq' W
        clear hq hq'
        go_wp2_with (go_at_call 10; (with_reducible refine (winOf_is v N P d o k X HX.out E HE.out wr (HN.out.on hb) (HW.out.on hb) hd0 hd1).mono ?_); rintro e w3 ⟨rfl, b3⟩; have hX3 := Blk.new w3 33 #[.int .u8 X.r, .int .i64 X.p, .int .i64 X.b, .int .i64 X.e]; have hG3 := (hB1.on b3).alloc (.cells #[.int .u8 X.r, .int .i64 X.p, .int .i64 X.b, .int .i64 X.e] 33); obtain ⟨y0, y1, y2, y3, yl⟩ := hX3.wn; obtain ⟨z0, z1, z2, z3, zl⟩ := hG3.wn; have hb3 := below_then hb b3)
        go_roundw
        case rel => exact ⟨k + 1, by omega, by go_num, HR, hG3, below_al hb3 _⟩
        case measure => simp [intOf]; omega
    · have HR := Lib.hid (show g = -1 by
        rcases HG.out with h | h
        · exact h
        · exact absurd (show g = ((g.toNat : Nat) : Int) by omega) (ht.out g.toNat (by omega)))
      go_wp2_with fail
      go_ret
      exact ⟨ret_int HR.out.symm, hb⟩

theorem guards_is (v : Value) (N : Int) (P : List Int) (o a b : Int) (ha : guM N 0 (atM P o) = a) (hb : guM N 1 (atM P o) = b) (w : World) (hn : NetP w v N P) (hw : Laid2 w) :
    Calls Tryd.prog 15 #[v, .int .i64 o] w fun e w' => e = .returned (.tuple #[.int .i64 a, .int .i64 b]) ∧ Below w.heap.size w w' := by
  have HA := Lib.hid ha
  have HB := Lib.hid hb
  clear ha hb
  go_enter Tryd.func15, Tryd.ntmps15
  go_wp2_with (first
    | (go_at_call 30; (with_reducible refine (guardOf_is v N P 0 o a HA.out w hn hw (.inl rfl)).mono ?_); rintro e w1 ⟨rfl, b1⟩)
    | (go_at_call 30; (with_reducible refine (guardOf_is v N P 1 o b HB.out _ (hn.on b1) (hw.on b1) (.inr rfl)).mono ?_); rintro e w2 ⟨rfl, b2⟩))
  exact bodyPost_ret (v := .tuple #[.int .i64 a, .int .i64 b]) (by simp [results, Tryd.results15, go_sem]) rfl ⟨rfl, below_then b1 b2⟩
end Go.Proofs.YtajkpbmjgncbbaaDoor

