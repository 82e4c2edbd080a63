/-
  The walk of the law AgesRun: it returns true, and nothing that was there has turned. Conditions: the ticks' reading.
-/
import Derived.Test.YtcangipaoancnaaAs10
import Derived.Test.YtcangipaoancnaaAsN
import Derived.Test.YtcangipaoancnaaAnd40
import Derived.Test.YtcangipaoancnaaAsVd
namespace Go.Proofs.Ytcangipaoancnaa
open Go.RowKit
set_option linter.unusedVariables false
set_option linter.unusedSimpArgs false

def zzL (Z : Nat → Int × Int) (i : Nat) : List Value := [.int .i64 (Z i).1, .int .i64 (Z i).2]
set_option maxRecDepth 100000 in
theorem elemZZ : Try.prog.underlying 110 = some (.slice 119) := by kernel_rfl
set_option maxRecDepth 100000 in
theorem idxZZ {A : Option Addr} {n : Nat} (c : Nat) {k b off : Nat} (hA : A = some ⟨b, off, none⟩) (hk : k < n) (w : World) :
    (Instr.indexAt 110 (.slice A n c) (.int .i64 (k : Int))).run Try.prog w = .ok (.pointer (some ⟨b, off + k * 2, none⟩)) w := by
  subst hA
  rw [run_indexAt_slice (h := elemZZ), if_pos (by omega), show Try.prog.elem 110 = 119 by kernel_rfl, show (sizeOf 119).run Try.prog w = .ok 2 w by kernel_rfl]
  simp [Result.andThen, Addr.add_lit]
/-- The list's block is one of int64. -/
theorem owns_row {W : World} {base k c x o : Nat} {xs : List Value} (h : W.ownsRow base 2 1 (.slice (some ⟨x, o, none⟩) k c) k xs) : ∃ cs, Blk W x 2 cs := by
  rcases h.2 with ⟨hv, _⟩ | ⟨g, cap, cur, hv, _, hh, _⟩
  · cases hv
  · injection hv with e1; injection e1 with e2; injection e2 with e3; subst e3; exact ⟨cur, hh⟩
theorem blk_neC {W : World} {x b : Nat} {cs ds : Array Value} (h : Blk W x 2 cs) (k : Blk W b 123 ds) : x ≠ b := fun e => by
  subst e
  have := h.symm.trans k
  injection this with this
  injection this with _ e2
  exact absurd e2 (by decide)
theorem owns_butC {W U : World} {base k c b : Nat} {A : Option Addr} {xs : List Value} {ds : Array Value} (h : W.ownsRow base 2 1 (.slice A k c) k xs) (hB : Blk W b 123 ds) (hb : But b W U) : U.ownsRow base 2 1 (.slice A k c) k xs :=
  ownsF_but h hb fun g e => by
    subst e
    obtain ⟨cs, hc⟩ := owns_row h
    exact blk_neC hc hB
theorem agsL_succ (a : Nat → Int) (k : Nat) : agsL a (k + 1) = agsL a k ++ [.int .i64 (a k)] := by
  unfold agsL
  rw [List.range_succ, List.map_append]
  rfl
theorem below_app {W X : World} {base k c : Nat} {A : Option Addr} {xs : List Value} {o : Obj} (hs : base ≤ W.heap.size) (h : W.ownsRow base 2 1 (.slice A k c) k xs) (hg : (W.alloc o).grownBy X (Value.slice A k c).ownBlock) : Below base W X := by
  refine ((Below.refl base W).alloc hs o).grown hg (by simp; omega) fun j e => ?_
  rcases h.2 with ⟨hv, _⟩ | ⟨g, cap, cur, hv, hb, _⟩
  · rw [hv] at e; cases e
  · rw [hv] at e; simp [Value.ownBlock] at e; omega
/-- A tick, and its age put behind the list of all ages. -/
theorem clk_append {u0 u1 u2 : World} {base k c b g M : Nat} {A : Option Addr} {xs : List Value} {a : Nat → Int} {row : Option Nat} (ho : u0.ownsRow base 2 1 (.slice A k c) k xs) (hg : u0.heap.size ≤ g) (hK : ClkG u1 g b M a) (hb : u0.heap.size ≤ u1.heap.size) (ho1 : u1.ownsRow base 2 1 (.slice A k c) k xs) (hr : row = (Value.slice A k c).ownBlock) (hgr : u1.grownBy u2 row) : ClkA u2 b M a := by
  refine (hK.grown hgr ?_ ?_).clk
  · rw [hr]
    intro e
    cases A with
    | none => cases e
    | some p =>
      have e2 : p.block = g := by simpa [Value.ownBlock] using e
      obtain ⟨x, o, sp⟩ := p
      have hs := owns_shapeF ho
      rcases hs with ⟨h1, _⟩ | ⟨g', o', h1⟩
      · cases h1
      · injection h1 with h1; cases h1
        obtain ⟨cs, hc⟩ := owns_row ho
        have := hc.lt
        simp only at e2
        omega
  · rw [hr]
    intro e
    cases A with
    | none => cases e
    | some p =>
      have e2 : p.block = b := by simpa [Value.ownBlock] using e
      obtain ⟨x, o, sp⟩ := p
      rcases owns_shapeF ho1 with ⟨h1, _⟩ | ⟨g', o', h1⟩
      · cases h1
      · injection h1 with h1; cases h1
        obtain ⟨cs, hc⟩ := owns_row ho1
        obtain ⟨_, _, hB, _⟩ := hK
        exact blk_neC hc hB e2
theorem ageC_next {M : Nat} {x y : Int} (h0 : 0 ≤ x) (h1 : x + (M : Int) ≤ 1099511627776) : ageC M x y = x + (M : Int) := by
  have hx : agB x = true := by unfold agB; simp; omega
  have hy : agB (x + (M : Int)) = true := by unfold agB; simp; omega
  unfold ageC orN
  rw [if_pos hx, if_pos hy]
theorem orN_id {x : Int} (h0 : 0 ≤ x) (h1 : x ≤ 1099511627776) : orN x = x := by
  have hx : agB x = true := by unfold agB; simp; omega
  unfold orN
  rw [if_pos hx]
def cmA (m : Nat) (Z : Nat → Int × Int) (i : Nat) : Int := if i < m then bits .and .i64 (Z i).1 549755813887 else (i : Int)
theorem cmA_in (m : Nat) (Z : Nat → Int × Int) (i : Nat) (hi : i < 32) : 0 ≤ cmA m Z i ∧ cmA m Z i ≤ 549755813887 := by
  unfold cmA
  split
  · exact and39 _
  · omega
set_option maxRecDepth 100000 in
set_option maxHeartbeats 8000000 in
theorem agesRun_walk (nn : Int) (A : Option Addr) (m c : Nat) (Z : Nat → Int × Int) (w : World) (h0 : 0 ≤ nn) (h1 : nn < 256) (hL : LiesF w w.heap.size A m 2 (zzL Z)) (hm : m ≤ 9223372036854775807) :
    Calls Try.prog 12 #[.int .u8 nn, .slice A m c] w fun e w' => e = .returned (.bool true) ∧ Below w.heap.size w w' := by
  obtain ⟨i0, hi0, hz0, hz1, hz2⟩ := info_parts infoI64
  have HL := Lib.hid hL
  obtain ⟨z0, rfl, lz0⟩ : ∃ z : Nat, nn = (z : Int) ∧ z < 256 := ⟨nn.toNat, by omega, by omega⟩
  obtain ⟨N3, hN3⟩ : ∃ n, n = z0 % 13 := ⟨_, rfl⟩
  obtain ⟨N, hN⟩ : ∃ n, n = 4 + N3 := ⟨_, rfl⟩
  have lN : 4 ≤ N ∧ N ≤ 16 := by omega
  obtain ⟨M, hM⟩ : ∃ M, M = 2 * N := ⟨_, rfl⟩
  obtain ⟨M5, hM5⟩ : ∃ M, M = 5 * N := ⟨_, rfl⟩
  have lM : 8 ≤ M ∧ M ≤ 32 := by omega
  have lM5 : 20 ≤ M5 ∧ M5 ≤ 80 := by omega
  have HM := Lib.hid lM
  have en : (z0 : Int).tmod 13 = (N3 : Int) := by rw [hN3]; rfl
  have en1 : IntKind.i64.wrap (z0 : Int) = (z0 : Int) := IntWalk.i64_in _ (by omega)
  have en2 : IntKind.i64.wrap (N3 : Int) = (N3 : Int) := IntWalk.i64_in _ (by omega)
  have en' : (4 : Int) + (N3 : Int) = (N : Int) := by omega
  have en3 : IntKind.i64.wrap (N : Int) = (N : Int) := IntWalk.i64_in _ (by omega)
  have eM : (2 : Int) * (N : Int) = (M : Int) := by omega
  have eM5 : (5 : Int) * (N : Int) = (M5 : Int) := by omega
  have HNC := Lib.hid (fun u => newClock_is N lN u)
  rw [← hM] at HNC
  obtain ⟨W, hW⟩ : ∃ W, W = wtA (cmA m Z) M := ⟨_, rfl⟩
  have HW0 : Hid (∀ t, 0 ≤ W t ∧ (t ≤ 200 → W t ≤ 549755815000)) := Lib.hid (fun t => by
    rw [hW]
    have := wtA_in (M := M) (C := cmA m Z) (X := 549755813887) (by omega) (fun j hj => cmA_in m Z j (by omega)) t
    exact ⟨this.1, fun h => by omega⟩)
  have HWF : Hid (∀ t, t < M → W t = cmA m Z t + (M : Int)) := Lib.hid (fun t ht => by rw [hW]; exact wtA_first ht)
  have HWN : Hid (∀ t, W (t + M) = W t + (M : Int)) := Lib.hid (fun t => by rw [hW]; exact wtA_next (by omega) t)
  clear hL hN3 hN hM hM5 h0 h1 hW
  by_cases h40 : 40 < m
  · have d40 : decide ((40 : Int) < (m : Int)) = true := decide_eq_true (by omega)
    clear en en1 en2 en' en3 eM eM5
    go_enter Try.func12, Try.ntmps12
    go_wp2_with (go_at_call 42; (with_reducible refine (lives16_is _).mono ?_); rintro e w7 ⟨rfl, b7⟩)
    go_ret
    exact ⟨rfl, b7⟩
  have d40 : decide ((40 : Int) < (m : Int)) = false := decide_eq_false (by omega)
  have hm40 : m ≤ 40 := by omega
  clear h40 hm
  go_enter Try.func12, Try.ntmps12
  go_upto_region 9 with (go_at_call 45; (with_reducible refine (HNC.out _).mono ?_); rintro e w1 ⟨b, rfl, q0, q1, q2⟩; have HQ0 := Lib.hid q0; have HQ1 := Lib.hid q1; have HQ2 := Lib.hid q2; clear q0 q1 q2)
  clear en en1 en2 en' en3 HNC d40
  go_wp2_with fail
  go_loopw [9, 8, 10, 11, 12] (fun iv sv x1 x2 x3 wr => ∃ k : Nat, k ≤ M ∧ iv = .int .i64 (k : Int) ∧ ∃ A1 c1, sv = .slice A1 k c1 ∧ Hid (wr.ownsRow w.heap.size 2 1 (.slice A1 k c1) k (agsL W k)) ∧ Hid (ClkA wr b M (hA W M k)) ∧ Hid (Below w.heap.size w wr)) (fun iv _ _ _ _ _ => M - (intOf iv).toNat)
  case atStart => exact ⟨0, by omega, rfl, none, 0, rfl, Lib.hid ownsF_nil, Lib.hid (HQ1.out.congr fun i hi => by unfold hA; rw [if_pos (by omega)]), HQ2⟩
  case round =>
    clear HQ1 HQ2
    obtain ⟨k, hk, rfl, A1, c1, rfl, HO, HK, HB⟩ := hrel
    by_cases hlt : k < M
    · have dk : decide ((k : Int) < (M : Int)) = true := decide_eq_true (by omega)
      obtain ⟨x, hx⟩ : ∃ x, x = cmA m Z k := ⟨_, rfl⟩
      have HX := Lib.hid (cmA_in m Z k (by omega))
      rw [← hx] at HX
      obtain ⟨y, hy⟩ : ∃ y, y = W k := ⟨_, rfl⟩
      have exy : x + (M : Int) = y := by rw [hx, hy, HWF.out k hlt]
      have wxy : IntKind.i64.wrap y = y := IntWalk.i64_in _ (by have := HX.out; omega)
      have HST : Hid (Calls Try.prog 47 #[.pointer (some ⟨b, 0, none⟩), .int .i64 x, .int .i64 (-1)] wr fun e w' => (∃ s, e = .returned (.tuple #[.int .i64 y, .int .i64 s])) ∧ (∃ G, wr.heap.size ≤ G ∧ ClkG w' G b M (pushA (hA W M k) M y)) ∧ But b wr w') := Lib.hid (by
        refine (step_is b M (by omega) (hA W M k) (fun i hi => ?_) x (-1) wr HK.out).mono ?_
        · unfold hA
          split
          · omega
          · have := HW0.out (k + i - M); have := this.2 (by omega); omega
        · rintro e w' ⟨rfl, q1, q2⟩
          rw [ageC_next (by have := HX.out; omega) (by have := HX.out; omega), exy] at q1 ⊢
          exact ⟨⟨_, rfl⟩, q1, q2⟩)
      have HY : Hid (y = W k) := Lib.hid hy
      obtain ⟨gc, oc, cc, hBc, _⟩ := HK.out
      have HBC := Lib.hid hBc
      clear hy hBc
      by_cases hkm : k < m
      · have dkm : decide ((k : Int) < (m : Int)) = true := decide_eq_true (by omega)
        obtain ⟨ba, oa, rfl, hba, hca⟩ := HL.out (by omega)
        have c0 : wr.cell? ⟨ba, oa + k * 2, none⟩ = some (.int .i64 (Z k).1) := (HB.out.cell (p := ⟨ba, _, none⟩) hba).trans (hca k hkm 0 _ rfl)
        have lba := Nat.lt_of_lt_of_le hba HB.out.size
        have hix := fun W => idxZZ (A := some ⟨ba, oa, none⟩) (n := m) c rfl hkm W
        have hi0' : ∀ W, (Instr.indexAt 119 (.pointer (some ⟨ba, oa + k * 2, none⟩)) (.int .i64 0)).run Try.prog W = .ok (.pointer (some ⟨ba, oa + k * 2, none⟩)) W := fun W => idxP2 ba (oa + k * 2) 0 (by decide) W
        obtain ⟨x1, hx1⟩ : ∃ x, x = (Z k).1 := ⟨_, rfl⟩
        rw [← hx1] at c0
        have hxx : bits .and .i64 x1 549755813887 = x := by rw [hx, hx1]; unfold cmA; rw [if_pos hkm]
        clear hx hx1 hca hba
        go_wp2_with (first
          | (go_at_call 47; (with_reducible refine HST.out.mono ?_); rintro e u1 ⟨⟨s, rfl⟩, q1, q2⟩; have HQ1 := Lib.hid q1; have HE1 := Lib.hid q2; have HO1 := Lib.hid (owns_butC HO.out HBC.out q2); have HB1 := Lib.hid (HB.out.trans (q2.low HQ0.out)); clear q1 q2)
          | (at_builtin; refine wpList_append_own _ rfl (.tmp 61) (.tmp 63) 121 rfl w.heap.size 2 i0 _ 1 8 elemI64 hi0 hz0 hz1 hz2 rfl (by decide) _ k _ rfl (HO1.out.alloc _) ⟨u1.heap.size, 0, none⟩ 1 1 [.int .i64 y] rfl rfl (cell_one_new _ _ _) (by simp [Value.oneCell']) (by unfold maxLen; omega) (by omega) (by have := HB1.out.size; simp; omega) ?_; intro v' u2 hown' hgrow hnil; obtain ⟨g', cap', rfl⟩ := ownsRow_succ hown'; have HO2 := Lib.hid hown'; have HGR := Lib.hid hgrow; clear hown' hgrow hnil))
        go_roundw
        case rel =>
          obtain ⟨G, hG, hK1⟩ := HQ1.out
          refine ⟨k + 1, by omega, by go_num, some ⟨g', 0, none⟩, cap', rfl, Lib.hid ?_, Lib.hid (ClkA.congr (clk_append (base := w.heap.size) HO.out hG (hK1.grown (World.grownBy_alloc u1 _ none) (by simp) (by simp)) (by have := HE1.out.1.size; simp; omega) (HO1.out.alloc _) rfl HGR.out) (fun j hj => by rw [HY.out]; exact hA_push (by omega) j hj)), Lib.hid ?_⟩
          · rw [agsL_succ, ← HY.out]; exact HO2.out
          · exact HB1.out.trans (below_app HB1.out.size HO1.out HGR.out)
        case measure => simp [intOf]; omega
      · have dkm : decide ((k : Int) < (m : Int)) = false := decide_eq_false (by omega)
        obtain rfl : x = (k : Int) := by rw [hx]; unfold cmA; rw [if_neg hkm]
        clear hx
        go_wp2_with (first
          | (go_at_call 47; (with_reducible refine HST.out.mono ?_); rintro e u1 ⟨⟨s, rfl⟩, q1, q2⟩; have HQ1 := Lib.hid q1; have HE1 := Lib.hid q2; have HO1 := Lib.hid (owns_butC HO.out HBC.out q2); have HB1 := Lib.hid (HB.out.trans (q2.low HQ0.out)); clear q1 q2)
          | (at_builtin; refine wpList_append_own _ rfl (.tmp 61) (.tmp 63) 121 rfl w.heap.size 2 i0 _ 1 8 elemI64 hi0 hz0 hz1 hz2 rfl (by decide) _ k _ rfl (HO1.out.alloc _) ⟨u1.heap.size, 0, none⟩ 1 1 [.int .i64 y] rfl rfl (cell_one_new _ _ _) (by simp [Value.oneCell']) (by unfold maxLen; omega) (by omega) (by have := HB1.out.size; simp; omega) ?_; intro v' u2 hown' hgrow hnil; obtain ⟨g', cap', rfl⟩ := ownsRow_succ hown'; have HO2 := Lib.hid hown'; have HGR := Lib.hid hgrow; clear hown' hgrow hnil))
        go_roundw
        case rel =>
          obtain ⟨G, hG, hK1⟩ := HQ1.out
          refine ⟨k + 1, by omega, by go_num, some ⟨g', 0, none⟩, cap', rfl, Lib.hid ?_, Lib.hid (ClkA.congr (clk_append (base := w.heap.size) HO.out hG (hK1.grown (World.grownBy_alloc u1 _ none) (by simp) (by simp)) (by have := HE1.out.1.size; simp; omega) (HO1.out.alloc _) rfl HGR.out) (fun j hj => by rw [HY.out]; exact hA_push (by omega) j hj)), Lib.hid ?_⟩
          · rw [agsL_succ, ← HY.out]; exact HO2.out
          · exact HB1.out.trans (below_app HB1.out.size HO1.out HGR.out)
        case measure => simp [intOf]; omega
    · obtain rfl : k = M := by omega
      have dk : decide ((k : Int) < (k : Int)) = false := decide_eq_false (by omega)
      go_wp2_with fail
      go_loopw [14, 13, 8, 15, 16] (fun iv lv sv x1 x2 wr => ∃ i : Nat, i ≤ M5 ∧ iv = .int .i64 (i : Int) ∧ lv = .int .i64 (if i = 0 then -1 else shW W k (i - 1)) ∧ ∃ A2 c2, sv = .slice A2 (i + k) c2 ∧ Hid (wr.ownsRow w.heap.size 2 1 (.slice A2 (i + k) c2) (i + k) (agsL W (i + k))) ∧ Hid (ClkA wr b k (fun j => W (i + j))) ∧ Hid (Below w.heap.size w wr)) (fun iv _ _ _ _ _ => M5 - (intOf iv).toNat)
      case atStart => exact ⟨0, by omega, rfl, rfl, A1, c1, by rw [Nat.zero_add], Lib.hid (by rw [Nat.zero_add]; exact HO.out), Lib.hid (HK.out.congr hA_win), HB⟩
      case round =>
        clear HO HK HB
        obtain ⟨i, hi, rfl, rfl, A2, c2, rfl, HO, HK, HB⟩ := hrel
        by_cases hil : i < M5
        · have di : decide ((i : Int) < (M5 : Int)) = true := decide_eq_true (by omega)
          obtain ⟨la, hla⟩ : ∃ la : Int, la = (if i = 0 then -1 else shW W k (i - 1)) := ⟨_, rfl⟩
          have HLA := Lib.hid hla
          rw [← hla]
          obtain ⟨x, hx⟩ : ∃ x, x = W i := ⟨_, rfl⟩
          obtain ⟨y, hy⟩ : ∃ y, y = W (i + k) := ⟨_, rfl⟩
          obtain ⟨S, hS⟩ : ∃ S, S = shW W k i := ⟨_, rfl⟩
          have exy : x + (k : Int) = y := by rw [hx, hy, HWN.out]
          have bx := HW0.out i
          have by' := HW0.out (i + k)
          rw [← hx] at bx
          rw [← hy] at by'
          have HBX : Hid (0 ≤ x ∧ x ≤ 549755815000 ∧ 0 ≤ y ∧ y ≤ 549755815000) := Lib.hid ⟨bx.1, bx.2 (by omega), by'.1, by'.2 (by omega)⟩
          clear bx by'
          have wxy : IntKind.i64.wrap y = y := IntWalk.i64_in _ (by have := HBX.out; omega)
          have hSy : y ≤ S := by rw [hy, hS]; exact shW_ge (by omega) (fun t => (HW0.out t).1) i
          have hSb : 0 ≤ S ∧ S ≤ 549755815000 + (k : Int) := by rw [hS]; exact shW_le (by omega) (fun t => (HW0.out t).1) (fun j hj => (HW0.out (i + 1 + j)).2 (by omega))
          have hSl : 0 < i → la + 1 = S := fun h => by
            rw [hla, hS, if_neg (by omega)]
            have := shW_succ (W := W) (M := k) (by omega) (fun t => (HW0.out t).1) HWN.out (i - 1)
            rw [show i - 1 + 1 = i by omega] at this
            omega
          have dS : decide (S < y) = false := decide_eq_false (by omega)
          have wS : IntKind.i64.wrap S = S := IntWalk.i64_in _ (by omega)
          have HST : Hid (Calls Try.prog 47 #[.pointer (some ⟨b, 0, none⟩), .int .i64 x, .int .i64 (-1)] wr fun e w' => e = .returned (.tuple #[.int .i64 y, .int .i64 S]) ∧ (∃ G, wr.heap.size ≤ G ∧ ClkG w' G b k (pushA (fun j => W (i + j)) k y)) ∧ But b wr w') := Lib.hid (by
            refine (step_is b k (by omega) (fun j => W (i + j)) (fun j hj => ?_) x (-1) wr HK.out).mono ?_
            · have := HW0.out (i + j)
              have h2 := this.2 (by omega)
              omega
            · rintro e w' ⟨rfl, q1, q2⟩
              have hb := HBX.out
              rw [ageC_next (by omega) (by omega), exy] at q1 ⊢
              refine ⟨?_, q1, q2⟩
              rw [shM_congr (a' := fun j => W (i + 1 + j)) (M := k) (fun j hj => by rw [hy]; exact win_push (by omega) j hj) k (Nat.le_refl _)]
              rw [show shM (fun j => W (i + 1 + j)) k k = S from hS.symm, orN_id (by omega) (by omega)])
          have HX : Hid (x = W i) := Lib.hid hx
          have HY : Hid (y = W (i + k)) := Lib.hid hy
          have HS : Hid (S = shW W k i) := Lib.hid hS
          obtain ⟨gc, oc, cc, hBc, _⟩ := HK.out
          have HBC := Lib.hid hBc
          obtain ⟨g2, e2, _, l2, hc2⟩ := ownsF_get HO.out (by omega)
          subst e2
          have c1 : wr.cell? ⟨g2, i, none⟩ = some (.int .i64 x) := hc2 i _ (by rw [hx]; exact agsL_get (by omega))
          have hix := fun W' => idxI64 (A := some ⟨g2, 0, none⟩) (n := i + k) c2 rfl (show i < i + k by omega) W'
          simp only [Nat.zero_add] at hix
          clear hla hx hy hS hBc hc2
          by_cases h0 : 0 < i
          · have d0 : decide ((0 : Int) < (i : Int)) = true := decide_eq_true (by omega)
            have eLS := hSl h0
            clear hSl hSy hSb
            go_wp2_with (first
              | (go_at_call 47; (with_reducible refine HST.out.mono ?_); rintro e u1 ⟨rfl, q1, q2⟩; have HQ3 := Lib.hid q1; have HE1 := Lib.hid q2; have HO1 := Lib.hid (owns_butC HO.out HBC.out q2); have HB1 := Lib.hid (HB.out.trans (q2.low HQ0.out)); clear q1 q2)
              | (at_builtin; refine wpList_append_own _ rfl (.tmp 80) (.tmp 82) 121 rfl w.heap.size 2 i0 _ 1 8 elemI64 hi0 hz0 hz1 hz2 rfl (by decide) _ (i + k) _ rfl (HO1.out.alloc _) ⟨u1.heap.size, 0, none⟩ 1 1 [.int .i64 y] rfl rfl (cell_one_new _ _ _) (by simp [Value.oneCell']) (by unfold maxLen; omega) (by omega) (by have := HB1.out.size; simp; omega) ?_; intro v' u2 hown' hgrow hnil; obtain ⟨g', cap', rfl⟩ := ownsRow_succ hown'; have HO2 := Lib.hid hown'; have HGR := Lib.hid hgrow; obtain ⟨g9, e9, _, lq, hq⟩ := ownsF_get hown' (by omega); cases e9; have cq : u2.cell? ⟨g', i, none⟩ = some (.int .i64 x) := hq i _ (by rw [List.getElem?_append_left (by rw [agsL_len]; omega), HX.out]; exact agsL_get (by omega)); have hix2 := (fun W' => (idxI64 (A := some ⟨g', 0, none⟩) (n := i + k + 1) cap' rfl (show i < i + k + 1 by omega) W').trans (by rw [Nat.zero_add])); clear hown' hgrow hnil hq))
            go_roundw
            case rel =>
              obtain ⟨G, hG, hK1⟩ := HQ3.out
              refine ⟨i + 1, by omega, by go_num, by rw [HS.out, if_neg (by omega), Nat.add_sub_cancel], some ⟨g', 0, none⟩, cap', by rw [show i + 1 + k = i + k + 1 by omega], Lib.hid ?_, Lib.hid (ClkA.congr (clk_append (base := w.heap.size) HO.out hG (hK1.grown (World.grownBy_alloc u1 _ none) (by simp) (by simp)) (by have := HE1.out.1.size; simp; omega) (HO1.out.alloc _) rfl HGR.out) (fun j hj => by rw [HY.out]; exact win_push (by omega) j hj)), Lib.hid ?_⟩
              · rw [show i + 1 + k = i + k + 1 by omega, agsL_succ, ← HY.out]; exact HO2.out
              · exact HB1.out.trans (below_app HB1.out.size HO1.out HGR.out)
            case measure => simp [intOf]; omega
          · have d0 : decide ((0 : Int) < (i : Int)) = false := decide_eq_false (by omega)
            clear hSl hSy hSb
            go_wp2_with (first
              | (go_at_call 47; (with_reducible refine HST.out.mono ?_); rintro e u1 ⟨rfl, q1, q2⟩; have HQ3 := Lib.hid q1; have HE1 := Lib.hid q2; have HO1 := Lib.hid (owns_butC HO.out HBC.out q2); have HB1 := Lib.hid (HB.out.trans (q2.low HQ0.out)); clear q1 q2)
              | (at_builtin; refine wpList_append_own _ rfl (.tmp 80) (.tmp 82) 121 rfl w.heap.size 2 i0 _ 1 8 elemI64 hi0 hz0 hz1 hz2 rfl (by decide) _ (i + k) _ rfl (HO1.out.alloc _) ⟨u1.heap.size, 0, none⟩ 1 1 [.int .i64 y] rfl rfl (cell_one_new _ _ _) (by simp [Value.oneCell']) (by unfold maxLen; omega) (by omega) (by have := HB1.out.size; simp; omega) ?_; intro v' u2 hown' hgrow hnil; obtain ⟨g', cap', rfl⟩ := ownsRow_succ hown'; have HO2 := Lib.hid hown'; have HGR := Lib.hid hgrow; obtain ⟨g9, e9, _, lq, hq⟩ := ownsF_get hown' (by omega); cases e9; have cq : u2.cell? ⟨g', i, none⟩ = some (.int .i64 x) := hq i _ (by rw [List.getElem?_append_left (by rw [agsL_len]; omega), HX.out]; exact agsL_get (by omega)); have hix2 := (fun W' => (idxI64 (A := some ⟨g', 0, none⟩) (n := i + k + 1) cap' rfl (show i < i + k + 1 by omega) W').trans (by rw [Nat.zero_add])); clear hown' hgrow hnil hq))
            go_roundw
            case rel =>
              obtain ⟨G, hG, hK1⟩ := HQ3.out
              refine ⟨i + 1, by omega, by go_num, by rw [HS.out, if_neg (by omega), Nat.add_sub_cancel], some ⟨g', 0, none⟩, cap', by rw [show i + 1 + k = i + k + 1 by omega], Lib.hid ?_, Lib.hid (ClkA.congr (clk_append (base := w.heap.size) HO.out hG (hK1.grown (World.grownBy_alloc u1 _ none) (by simp) (by simp)) (by have := HE1.out.1.size; simp; omega) (HO1.out.alloc _) rfl HGR.out) (fun j hj => by rw [HY.out]; exact win_push (by omega) j hj)), Lib.hid ?_⟩
              · rw [show i + 1 + k = i + k + 1 by omega, agsL_succ, ← HY.out]; exact HO2.out
              · exact HB1.out.trans (below_app HB1.out.size HO1.out HGR.out)
            case measure => simp [intOf]; omega
        · obtain rfl : i = M5 := by omega
          have di : decide ((i : Int) < (i : Int)) = false := decide_eq_false (by omega)
          go_wp2_with (go_at_call 42; (with_reducible refine (lives16_is _).mono ?_); rintro e w7 ⟨rfl, b7⟩)
          go_ret
          exact ⟨rfl, below_then HB.out b7⟩
end Go.Proofs.Ytcangipaoancnaa

