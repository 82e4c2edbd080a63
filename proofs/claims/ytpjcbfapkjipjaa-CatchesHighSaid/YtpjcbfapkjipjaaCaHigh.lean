/-
  The law CatchesHigh (the stage's theorem): it returns true, and nothing that was there has turned. Conditions: the slices' readings, bytes, lengths within the capacities.
-/
import Derived.Test.YtpjcbfapkjipjaaCa6
namespace Go.Proofs.Ytpjcbfapkjipjaa
open Go.RowKit Crc
set_option linter.unusedVariables false

theorem same_below (A B : Option Addr) (n m c d : Nat) (xs ys : List Int) (w : World) (hx : Lies .u8 w w.heap.size A n xs) (hy : Lies .u8 w w.heap.size B m ys) (hn : n ≤ 65536) (hm : m ≤ 65536) :
    Calls Try.prog 22 #[.slice A n c, .slice B m d] w fun e w' => e = .returned (.bool (xs == ys)) ∧ Below w.heap.size w w' :=
  (same_any A B n m c d xs ys w hx hy hn hm).mono fun e w' h => by
    obtain ⟨h1, q, h2⟩ := h
    subst h2
    exact ⟨h1, below_same q⟩
set_option maxRecDepth 100000 in
set_option maxHeartbeats 8000000 in
theorem high_yes (x : Int) (A B : Option Addr) (c d : Nat) (N F : List Int) (w : World) (hx0 : 0 ≤ x) (hx1 : x ≤ 255) (hN : Lies .u8 w w.heap.size A 114 N) (hF : Lies .u8 w w.heap.size B 114 F) (hc : 114 ≤ c)
    (G G1 H : Fr) (E E2 : Int) (ta tb ua ub : Bool) (X : List Int) (r s : Bool) (h2 : readF N = G) (h3 : readE N = E) (h4 : readA N = ta) (h5 : readB N = tb) (hs : (N == F) = s)
    (k1 : hiB (knF N) (knF F) (x % 8) 114 = r) (k2 : hiF (knF N) (knF F) (x % 8) 114 = G1) (k3 : outL (knF N) (knF F) (x % 8) 114 = X) (k4 : readE X = E2) (k5 : readF X = H) (k6 : readA X = ua) (k7 : readB X = ub)
    (v0 : r = true) (v1 : s = true) (v2 : (E == 0) = true) (v3 : (ta && !tb) = true) (v4 : (G.o == x % 8) = true) (v5 : (E2 == 0) = true) (v6 : (ua && !ub) = true) (vg : G = G1) (vh : G = H) (vx : X = N) :
    Calls Try.prog 5 #[.int .u8 x, .slice A 114 c, .slice B 114 d] w fun e w' => e = .returned (.bool true) ∧ Below w.heap.size w w' := by
  have HR := Lib.hid (run_is (x % 8) A B 114 114 c d 114 N F w hN hF (by omega) (by omega) rfl (Nat.le_refl _) _ _ rfl rfl _ k1 _ k2 _ k3)
  have HRD := Lib.hid (fun u (hu : Lies .u8 u u.heap.size A 114 N) => frRead_any A 114 c N u hu hc)
  rw [h2, h3, h4, h5] at HRD
  have HRX := Lib.hid (fun u A' c' (hu : Lies .u8 u u.heap.size A' 114 X) hc' => frRead_any A' 114 c' X u hu hc')
  rw [k4, k5, k6, k7] at HRX
  have HSN := Lib.hid (fun u (h1 : Lies .u8 u u.heap.size A 114 N) (h2 : Lies .u8 u u.heap.size B 114 F) => same_below A B 114 114 c d N F u h1 h2 (by omega) (by omega))
  rw [hs] at HSN
  have HN := Lib.hid hN
  have HF := Lib.hid hF
  subst v0 v1
  have HT1 := Lib.hid (fun u => tgood_any ta tb u)
  rw [v3] at HT1
  have HT2 := Lib.hid (fun u => tgood_any ua ub u)
  rw [v6] at HT2
  clear v3 v6
  have HSX := Lib.hid (fun u A' c' (h1 : Lies .u8 u u.heap.size A' 114 X) (h2 : Lies .u8 u u.heap.size A 114 N) => same_true A' A 114 114 c' c X N u h1 h2 (by omega) (by omega) vx)
  have hq := fun W => fr_eql G.o G.k G.s G.q G.v G.o G.k G.s G.q G.v W
  simp only [beq_self_eq_true, Bool.and_self] at hq
  subst vg vh
  clear vx hN hF hc h2 h3 h4 h5 hs k1 k2 k3 k4 k5 k6 k7
  go_enter Try.func5, Try.ntmps5
  go_wp2_with (first
    | (go_at_call 20; (with_reducible refine (HR.out).mono ?_); rintro e w1 ⟨A1, c1, rfl, hown, b1⟩; have hb := b1; have hf := Blk.new w1 42 #[.int .i64 G.o, .int .u8 G.k, .int .u8 G.s, .int .u32 G.q, .int .u32 G.v]; have hl := (lies_of_owns hown).al (.cells #[.int .i64 G.o, .int .u8 G.k, .int .u8 G.s, .int .u32 G.q, .int .u32 G.v] 42); have hcp := owns_cap hown; have hb := below_al hb (.cells #[.int .i64 G.o, .int .u8 G.k, .int .u8 G.s, .int .u32 G.q, .int .u32 G.v] 42))
    | (go_at_call 21; (with_reducible refine (HRD.out _ (HN.out.on hb)).mono ?_); rintro e w2 ⟨rfl, b2⟩; have hg := (Blk.new w2 42 #[.int .i64 G.o, .int .u8 G.k, .int .u8 G.s, .int .u32 G.q, .int .u32 G.v]).alloc (.cells #[.bool ta, .bool tb] 55); have ht := Blk.new (w2.alloc (.cells #[.int .i64 G.o, .int .u8 G.k, .int .u8 G.s, .int .u32 G.q, .int .u32 G.v] 42)) 55 #[.bool ta, .bool tb]; rw [alloc_size] at ht; have hf := ((hf.on b2).alloc (.cells #[.int .i64 G.o, .int .u8 G.k, .int .u8 G.s, .int .u32 G.q, .int .u32 G.v] 42)).alloc (.cells #[.bool ta, .bool tb] 55); have hl := ((hl.on b2).al (.cells #[.int .i64 G.o, .int .u8 G.k, .int .u8 G.s, .int .u32 G.q, .int .u32 G.v] 42)).al (.cells #[.bool ta, .bool tb] 55); have hb := below_al (below_al (below_then hb b2) (.cells #[.int .i64 G.o, .int .u8 G.k, .int .u8 G.s, .int .u32 G.q, .int .u32 G.v] 42)) (.cells #[.bool ta, .bool tb] 55); have HR1 := Lib.hid b2)
    | (go_at_call 22; (with_reducible refine (HSN.out _ (HN.out.on hb) (HF.out.on hb)).mono ?_); rintro e w3 ⟨rfl, b3⟩; have hf := hf.on b3; have hg := hg.on b3; have ht := ht.on b3; have lf := hf.lt; have f0 := hf.cell 0; have f1 := hf.cell 1; have f2 := hf.cell 2; have f3 := hf.cell 3; have f4 := hf.cell 4; simp only [List.getElem?_toArray, List.getElem?_cons_zero, List.getElem?_cons_succ] at f0 f1 f2 f3 f4; have lg := hg.lt; have g0 := hg.cell 0; have g1 := hg.cell 1; have g2 := hg.cell 2; have g3 := hg.cell 3; have g4 := hg.cell 4; simp only [List.getElem?_toArray, List.getElem?_cons_zero, List.getElem?_cons_succ] at g0 g1 g2 g3 g4; have lt := ht.lt; have t0 := ht.cell 0; have t1 := ht.cell 1; simp only [List.getElem?_toArray, List.getElem?_cons_zero, List.getElem?_cons_succ] at t0 t1; have hl := hl.on b3; have hb := below_then hb b3)
    | (go_at_call 23; (with_reducible refine (HT1.out _).mono ?_); rintro e w4 ⟨rfl, b4⟩; have hf := hf.on b4; have hg := hg.on b4; have ht := ht.on b4; have lf := hf.lt; have f0 := hf.cell 0; have f1 := hf.cell 1; have f2 := hf.cell 2; have f3 := hf.cell 3; have f4 := hf.cell 4; simp only [List.getElem?_toArray, List.getElem?_cons_zero, List.getElem?_cons_succ] at f0 f1 f2 f3 f4; have lg := hg.lt; have g0 := hg.cell 0; have g1 := hg.cell 1; have g2 := hg.cell 2; have g3 := hg.cell 3; have g4 := hg.cell 4; simp only [List.getElem?_toArray, List.getElem?_cons_zero, List.getElem?_cons_succ] at g0 g1 g2 g3 g4; have lt := ht.lt; have t0 := ht.cell 0; have t1 := ht.cell 1; simp only [List.getElem?_toArray, List.getElem?_cons_zero, List.getElem?_cons_succ] at t0 t1; have hl := hl.on b4; have hb := below_then hb b4)
    | (go_at_call 21; (with_reducible refine (HRX.out _ _ _ hl hcp).mono ?_); rintro e w5 ⟨rfl, b5⟩; have hh := (Blk.new w5 42 #[.int .i64 G.o, .int .u8 G.k, .int .u8 G.s, .int .u32 G.q, .int .u32 G.v]).alloc (.cells #[.bool ua, .bool ub] 55); have hf := ((hf.on b5).alloc (.cells #[.int .i64 G.o, .int .u8 G.k, .int .u8 G.s, .int .u32 G.q, .int .u32 G.v] 42)).alloc (.cells #[.bool ua, .bool ub] 55); have hg := ((hg.on b5).alloc (.cells #[.int .i64 G.o, .int .u8 G.k, .int .u8 G.s, .int .u32 G.q, .int .u32 G.v] 42)).alloc (.cells #[.bool ua, .bool ub] 55); have ht := ((ht.on b5).alloc (.cells #[.int .i64 G.o, .int .u8 G.k, .int .u8 G.s, .int .u32 G.q, .int .u32 G.v] 42)).alloc (.cells #[.bool ua, .bool ub] 55); have lf := hf.lt; have f0 := hf.cell 0; have f1 := hf.cell 1; have f2 := hf.cell 2; have f3 := hf.cell 3; have f4 := hf.cell 4; simp only [List.getElem?_toArray, List.getElem?_cons_zero, List.getElem?_cons_succ] at f0 f1 f2 f3 f4; have hl := ((hl.on b5).al (.cells #[.int .i64 G.o, .int .u8 G.k, .int .u8 G.s, .int .u32 G.q, .int .u32 G.v] 42)).al (.cells #[.bool ua, .bool ub] 55); have hb := below_al (below_al (below_then hb b5) (.cells #[.int .i64 G.o, .int .u8 G.k, .int .u8 G.s, .int .u32 G.q, .int .u32 G.v] 42)) (.cells #[.bool ua, .bool ub] 55))
    | (go_at_call 23; (with_reducible refine (HT2.out _).mono ?_); rintro e w6 ⟨rfl, b6⟩; have hf := hf.on b6; have hg := hg.on b6; have ht := ht.on b6; have lf := hf.lt; have f0 := hf.cell 0; have f1 := hf.cell 1; have f2 := hf.cell 2; have f3 := hf.cell 3; have f4 := hf.cell 4; simp only [List.getElem?_toArray, List.getElem?_cons_zero, List.getElem?_cons_succ] at f0 f1 f2 f3 f4; have lg := hg.lt; have g0 := hg.cell 0; have g1 := hg.cell 1; have g2 := hg.cell 2; have g3 := hg.cell 3; have g4 := hg.cell 4; simp only [List.getElem?_toArray, List.getElem?_cons_zero, List.getElem?_cons_succ] at g0 g1 g2 g3 g4; have lt := ht.lt; have t0 := ht.cell 0; have t1 := ht.cell 1; simp only [List.getElem?_toArray, List.getElem?_cons_zero, List.getElem?_cons_succ] at t0 t1; have hh := hh.on b6; have lh := hh.lt; have h0 := hh.cell 0; have h1 := hh.cell 1; have h2 := hh.cell 2; have h3 := hh.cell 3; have h4 := hh.cell 4; simp only [List.getElem?_toArray, List.getElem?_cons_zero, List.getElem?_cons_succ] at h0 h1 h2 h3 h4; have hl := hl.on b6; have hb := below_then hb b6)
    | (go_at_call 22; (with_reducible refine (HSX.out _ _ _ hl (HN.out.on hb)).mono ?_); rintro e w7 ⟨rfl, b7⟩; have hb := below_then hb b7)
    | (go_at_call 8; (with_reducible refine (lives_ca _).mono ?_); rintro e w9 ⟨rfl, b9⟩; have hb := below_then hb b9))
  go_ret
  exact ⟨rfl, hb⟩

set_option maxRecDepth 100000 in
set_option maxHeartbeats 8000000 in
theorem high_ae (x : Int) (A B : Option Addr) (c d : Nat) (N F : List Int) (w : World) (hx0 : 0 ≤ x) (hx1 : x ≤ 255) (hN : Lies .u8 w w.heap.size A 114 N) (hF : Lies .u8 w w.heap.size B 114 F) (hc : 114 ≤ c)
    (G G1 H : Fr) (E E2 : Int) (ta tb ua ub : Bool) (X : List Int) (r s : Bool) (h2 : readF N = G) (h3 : readE N = E) (h4 : readA N = ta) (h5 : readB N = tb) (hs : (N == F) = s)
    (k1 : hiB (knF N) (knF F) (x % 8) 114 = r) (k2 : hiF (knF N) (knF F) (x % 8) 114 = G1) (k3 : outL (knF N) (knF F) (x % 8) 114 = X) (k4 : readE X = E2) (k5 : readF X = H) (k6 : readA X = ua) (k7 : readB X = ub)
    (v0 : r = false) (vz : G1 = Fr.zero) (v1 : s = false) (v5 : (E2 == 0) = false) :
    Calls Try.prog 5 #[.int .u8 x, .slice A 114 c, .slice B 114 d] w fun e w' => e = .returned (.bool true) ∧ Below w.heap.size w w' := by
  have HR := Lib.hid (run_is (x % 8) A B 114 114 c d 114 N F w hN hF (by omega) (by omega) rfl (Nat.le_refl _) _ _ rfl rfl _ k1 _ k2 _ k3)
  have HRD := Lib.hid (fun u (hu : Lies .u8 u u.heap.size A 114 N) => frRead_any A 114 c N u hu hc)
  rw [h2, h3, h4, h5] at HRD
  have HRX := Lib.hid (fun u A' c' (hu : Lies .u8 u u.heap.size A' 114 X) hc' => frRead_any A' 114 c' X u hu hc')
  rw [k4, k5, k6, k7] at HRX
  have HSN := Lib.hid (fun u (h1 : Lies .u8 u u.heap.size A 114 N) (h2 : Lies .u8 u u.heap.size B 114 F) => same_below A B 114 114 c d N F u h1 h2 (by omega) (by omega))
  rw [hs] at HSN
  have HN := Lib.hid hN
  have HF := Lib.hid hF
  subst v1
  have HT1 := Lib.hid (fun u => tgood_any ta tb u)
  have HT2 := Lib.hid (fun u => tgood_any ua ub u)
  subst v0 vz
  simp only [Fr.zero] at HR
  have hq := fun W => fr_eql 0 0 0 0 0 0 0 0 0 0 W
  simp only [beq_self_eq_true, Bool.and_self] at hq
  clear hN hF hc h2 h3 h4 h5 hs k1 k2 k3 k4 k5 k6 k7
  go_enter Try.func5, Try.ntmps5
  go_wp2_with (first
    | (go_at_call 20; (with_reducible refine (HR.out).mono ?_); rintro e w1 ⟨A1, c1, rfl, hown, b1⟩; have hb := b1; have hf := Blk.new w1 42 #[.int .i64 0, .int .u8 0, .int .u8 0, .int .u32 0, .int .u32 0]; have hl := (lies_of_owns hown).al (.cells #[.int .i64 0, .int .u8 0, .int .u8 0, .int .u32 0, .int .u32 0] 42); have hcp := owns_cap hown; have hb := below_al hb (.cells #[.int .i64 0, .int .u8 0, .int .u8 0, .int .u32 0, .int .u32 0] 42))
    | (go_at_call 21; (with_reducible refine (HRD.out _ (HN.out.on hb)).mono ?_); rintro e w2 ⟨rfl, b2⟩; have hg := (Blk.new w2 42 #[.int .i64 G.o, .int .u8 G.k, .int .u8 G.s, .int .u32 G.q, .int .u32 G.v]).alloc (.cells #[.bool ta, .bool tb] 55); have ht := Blk.new (w2.alloc (.cells #[.int .i64 G.o, .int .u8 G.k, .int .u8 G.s, .int .u32 G.q, .int .u32 G.v] 42)) 55 #[.bool ta, .bool tb]; rw [alloc_size] at ht; have hf := ((hf.on b2).alloc (.cells #[.int .i64 G.o, .int .u8 G.k, .int .u8 G.s, .int .u32 G.q, .int .u32 G.v] 42)).alloc (.cells #[.bool ta, .bool tb] 55); have hl := ((hl.on b2).al (.cells #[.int .i64 G.o, .int .u8 G.k, .int .u8 G.s, .int .u32 G.q, .int .u32 G.v] 42)).al (.cells #[.bool ta, .bool tb] 55); have hb := below_al (below_al (below_then hb b2) (.cells #[.int .i64 G.o, .int .u8 G.k, .int .u8 G.s, .int .u32 G.q, .int .u32 G.v] 42)) (.cells #[.bool ta, .bool tb] 55); have HR1 := Lib.hid b2)
    | (go_at_call 22; (with_reducible refine (HSN.out _ (HN.out.on hb) (HF.out.on hb)).mono ?_); rintro e w3 ⟨rfl, b3⟩; have hf := hf.on b3; have hg := hg.on b3; have ht := ht.on b3; have lf := hf.lt; have f0 := hf.cell 0; have f1 := hf.cell 1; have f2 := hf.cell 2; have f3 := hf.cell 3; have f4 := hf.cell 4; simp only [List.getElem?_toArray, List.getElem?_cons_zero, List.getElem?_cons_succ] at f0 f1 f2 f3 f4; have lg := hg.lt; have g0 := hg.cell 0; have g1 := hg.cell 1; have g2 := hg.cell 2; have g3 := hg.cell 3; have g4 := hg.cell 4; simp only [List.getElem?_toArray, List.getElem?_cons_zero, List.getElem?_cons_succ] at g0 g1 g2 g3 g4; have lt := ht.lt; have t0 := ht.cell 0; have t1 := ht.cell 1; simp only [List.getElem?_toArray, List.getElem?_cons_zero, List.getElem?_cons_succ] at t0 t1; have hl := hl.on b3; have hb := below_then hb b3)
    | (go_at_call 23; (with_reducible refine (HT1.out _).mono ?_); rintro e w4 ⟨rfl, b4⟩; have hf := hf.on b4; have hg := hg.on b4; have ht := ht.on b4; have lf := hf.lt; have f0 := hf.cell 0; have f1 := hf.cell 1; have f2 := hf.cell 2; have f3 := hf.cell 3; have f4 := hf.cell 4; simp only [List.getElem?_toArray, List.getElem?_cons_zero, List.getElem?_cons_succ] at f0 f1 f2 f3 f4; have lg := hg.lt; have g0 := hg.cell 0; have g1 := hg.cell 1; have g2 := hg.cell 2; have g3 := hg.cell 3; have g4 := hg.cell 4; simp only [List.getElem?_toArray, List.getElem?_cons_zero, List.getElem?_cons_succ] at g0 g1 g2 g3 g4; have lt := ht.lt; have t0 := ht.cell 0; have t1 := ht.cell 1; simp only [List.getElem?_toArray, List.getElem?_cons_zero, List.getElem?_cons_succ] at t0 t1; have hl := hl.on b4; have hb := below_then hb b4)
    | (go_at_call 21; (with_reducible refine (HRX.out _ _ _ hl hcp).mono ?_); rintro e w5 ⟨rfl, b5⟩; have hh := (Blk.new w5 42 #[.int .i64 H.o, .int .u8 H.k, .int .u8 H.s, .int .u32 H.q, .int .u32 H.v]).alloc (.cells #[.bool ua, .bool ub] 55); have hf := ((hf.on b5).alloc (.cells #[.int .i64 H.o, .int .u8 H.k, .int .u8 H.s, .int .u32 H.q, .int .u32 H.v] 42)).alloc (.cells #[.bool ua, .bool ub] 55); have hg := ((hg.on b5).alloc (.cells #[.int .i64 H.o, .int .u8 H.k, .int .u8 H.s, .int .u32 H.q, .int .u32 H.v] 42)).alloc (.cells #[.bool ua, .bool ub] 55); have ht := ((ht.on b5).alloc (.cells #[.int .i64 H.o, .int .u8 H.k, .int .u8 H.s, .int .u32 H.q, .int .u32 H.v] 42)).alloc (.cells #[.bool ua, .bool ub] 55); have lf := hf.lt; have f0 := hf.cell 0; have f1 := hf.cell 1; have f2 := hf.cell 2; have f3 := hf.cell 3; have f4 := hf.cell 4; simp only [List.getElem?_toArray, List.getElem?_cons_zero, List.getElem?_cons_succ] at f0 f1 f2 f3 f4; have hl := ((hl.on b5).al (.cells #[.int .i64 H.o, .int .u8 H.k, .int .u8 H.s, .int .u32 H.q, .int .u32 H.v] 42)).al (.cells #[.bool ua, .bool ub] 55); have hb := below_al (below_al (below_then hb b5) (.cells #[.int .i64 H.o, .int .u8 H.k, .int .u8 H.s, .int .u32 H.q, .int .u32 H.v] 42)) (.cells #[.bool ua, .bool ub] 55))
    | (go_at_call 23; (with_reducible refine (HT2.out _).mono ?_); rintro e w6 ⟨rfl, b6⟩; have hf := hf.on b6; have hg := hg.on b6; have ht := ht.on b6; have lf := hf.lt; have f0 := hf.cell 0; have f1 := hf.cell 1; have f2 := hf.cell 2; have f3 := hf.cell 3; have f4 := hf.cell 4; simp only [List.getElem?_toArray, List.getElem?_cons_zero, List.getElem?_cons_succ] at f0 f1 f2 f3 f4; have lg := hg.lt; have g0 := hg.cell 0; have g1 := hg.cell 1; have g2 := hg.cell 2; have g3 := hg.cell 3; have g4 := hg.cell 4; simp only [List.getElem?_toArray, List.getElem?_cons_zero, List.getElem?_cons_succ] at g0 g1 g2 g3 g4; have lt := ht.lt; have t0 := ht.cell 0; have t1 := ht.cell 1; simp only [List.getElem?_toArray, List.getElem?_cons_zero, List.getElem?_cons_succ] at t0 t1; have hh := hh.on b6; have lh := hh.lt; have h0 := hh.cell 0; have h1 := hh.cell 1; have h2 := hh.cell 2; have h3 := hh.cell 3; have h4 := hh.cell 4; simp only [List.getElem?_toArray, List.getElem?_cons_zero, List.getElem?_cons_succ] at h0 h1 h2 h3 h4; have hl := hl.on b6; have hb := below_then hb b6)
    | (go_at_call 22; (with_reducible refine (HSX.out _ _ _ hl (HN.out.on hb)).mono ?_); rintro e w7 ⟨rfl, b7⟩; have hb := below_then hb b7)
    | (go_at_call 8; (with_reducible refine (lives_ca _).mono ?_); rintro e w9 ⟨rfl, b9⟩; have hb := below_then hb b9))
  go_ret
  exact ⟨rfl, hb⟩

set_option maxRecDepth 100000 in
set_option maxHeartbeats 8000000 in
theorem high_af (x : Int) (A B : Option Addr) (c d : Nat) (N F : List Int) (w : World) (hx0 : 0 ≤ x) (hx1 : x ≤ 255) (hN : Lies .u8 w w.heap.size A 114 N) (hF : Lies .u8 w w.heap.size B 114 F) (hc : 114 ≤ c)
    (G G1 H : Fr) (E E2 : Int) (ta tb ua ub : Bool) (X : List Int) (r s : Bool) (h2 : readF N = G) (h3 : readE N = E) (h4 : readA N = ta) (h5 : readB N = tb) (hs : (N == F) = s)
    (k1 : hiB (knF N) (knF F) (x % 8) 114 = r) (k2 : hiF (knF N) (knF F) (x % 8) 114 = G1) (k3 : outL (knF N) (knF F) (x % 8) 114 = X) (k4 : readE X = E2) (k5 : readF X = H) (k6 : readA X = ua) (k7 : readB X = ub)
    (v0 : r = false) (vz : G1 = Fr.zero) (v1 : s = false) (v5 : (E2 == 0) = true) (v6 : (ua && !ub) = false) :
    Calls Try.prog 5 #[.int .u8 x, .slice A 114 c, .slice B 114 d] w fun e w' => e = .returned (.bool true) ∧ Below w.heap.size w w' := by
  have HR := Lib.hid (run_is (x % 8) A B 114 114 c d 114 N F w hN hF (by omega) (by omega) rfl (Nat.le_refl _) _ _ rfl rfl _ k1 _ k2 _ k3)
  have HRD := Lib.hid (fun u (hu : Lies .u8 u u.heap.size A 114 N) => frRead_any A 114 c N u hu hc)
  rw [h2, h3, h4, h5] at HRD
  have HRX := Lib.hid (fun u A' c' (hu : Lies .u8 u u.heap.size A' 114 X) hc' => frRead_any A' 114 c' X u hu hc')
  rw [k4, k5, k6, k7] at HRX
  have HSN := Lib.hid (fun u (h1 : Lies .u8 u u.heap.size A 114 N) (h2 : Lies .u8 u u.heap.size B 114 F) => same_below A B 114 114 c d N F u h1 h2 (by omega) (by omega))
  rw [hs] at HSN
  have HN := Lib.hid hN
  have HF := Lib.hid hF
  subst v1
  have HT1 := Lib.hid (fun u => tgood_any ta tb u)
  have HT2 := Lib.hid (fun u => tgood_any ua ub u)
  rw [v6] at HT2
  clear v6
  subst v0 vz
  simp only [Fr.zero] at HR
  have hq := fun W => fr_eql 0 0 0 0 0 0 0 0 0 0 W
  simp only [beq_self_eq_true, Bool.and_self] at hq
  clear hN hF hc h2 h3 h4 h5 hs k1 k2 k3 k4 k5 k6 k7
  go_enter Try.func5, Try.ntmps5
  go_wp2_with (first
    | (go_at_call 20; (with_reducible refine (HR.out).mono ?_); rintro e w1 ⟨A1, c1, rfl, hown, b1⟩; have hb := b1; have hf := Blk.new w1 42 #[.int .i64 0, .int .u8 0, .int .u8 0, .int .u32 0, .int .u32 0]; have hl := (lies_of_owns hown).al (.cells #[.int .i64 0, .int .u8 0, .int .u8 0, .int .u32 0, .int .u32 0] 42); have hcp := owns_cap hown; have hb := below_al hb (.cells #[.int .i64 0, .int .u8 0, .int .u8 0, .int .u32 0, .int .u32 0] 42))
    | (go_at_call 21; (with_reducible refine (HRD.out _ (HN.out.on hb)).mono ?_); rintro e w2 ⟨rfl, b2⟩; have hg := (Blk.new w2 42 #[.int .i64 G.o, .int .u8 G.k, .int .u8 G.s, .int .u32 G.q, .int .u32 G.v]).alloc (.cells #[.bool ta, .bool tb] 55); have ht := Blk.new (w2.alloc (.cells #[.int .i64 G.o, .int .u8 G.k, .int .u8 G.s, .int .u32 G.q, .int .u32 G.v] 42)) 55 #[.bool ta, .bool tb]; rw [alloc_size] at ht; have hf := ((hf.on b2).alloc (.cells #[.int .i64 G.o, .int .u8 G.k, .int .u8 G.s, .int .u32 G.q, .int .u32 G.v] 42)).alloc (.cells #[.bool ta, .bool tb] 55); have hl := ((hl.on b2).al (.cells #[.int .i64 G.o, .int .u8 G.k, .int .u8 G.s, .int .u32 G.q, .int .u32 G.v] 42)).al (.cells #[.bool ta, .bool tb] 55); have hb := below_al (below_al (below_then hb b2) (.cells #[.int .i64 G.o, .int .u8 G.k, .int .u8 G.s, .int .u32 G.q, .int .u32 G.v] 42)) (.cells #[.bool ta, .bool tb] 55); have HR1 := Lib.hid b2)
    | (go_at_call 22; (with_reducible refine (HSN.out _ (HN.out.on hb) (HF.out.on hb)).mono ?_); rintro e w3 ⟨rfl, b3⟩; have hf := hf.on b3; have hg := hg.on b3; have ht := ht.on b3; have lf := hf.lt; have f0 := hf.cell 0; have f1 := hf.cell 1; have f2 := hf.cell 2; have f3 := hf.cell 3; have f4 := hf.cell 4; simp only [List.getElem?_toArray, List.getElem?_cons_zero, List.getElem?_cons_succ] at f0 f1 f2 f3 f4; have lg := hg.lt; have g0 := hg.cell 0; have g1 := hg.cell 1; have g2 := hg.cell 2; have g3 := hg.cell 3; have g4 := hg.cell 4; simp only [List.getElem?_toArray, List.getElem?_cons_zero, List.getElem?_cons_succ] at g0 g1 g2 g3 g4; have lt := ht.lt; have t0 := ht.cell 0; have t1 := ht.cell 1; simp only [List.getElem?_toArray, List.getElem?_cons_zero, List.getElem?_cons_succ] at t0 t1; have hl := hl.on b3; have hb := below_then hb b3)
    | (go_at_call 23; (with_reducible refine (HT1.out _).mono ?_); rintro e w4 ⟨rfl, b4⟩; have hf := hf.on b4; have hg := hg.on b4; have ht := ht.on b4; have lf := hf.lt; have f0 := hf.cell 0; have f1 := hf.cell 1; have f2 := hf.cell 2; have f3 := hf.cell 3; have f4 := hf.cell 4; simp only [List.getElem?_toArray, List.getElem?_cons_zero, List.getElem?_cons_succ] at f0 f1 f2 f3 f4; have lg := hg.lt; have g0 := hg.cell 0; have g1 := hg.cell 1; have g2 := hg.cell 2; have g3 := hg.cell 3; have g4 := hg.cell 4; simp only [List.getElem?_toArray, List.getElem?_cons_zero, List.getElem?_cons_succ] at g0 g1 g2 g3 g4; have lt := ht.lt; have t0 := ht.cell 0; have t1 := ht.cell 1; simp only [List.getElem?_toArray, List.getElem?_cons_zero, List.getElem?_cons_succ] at t0 t1; have hl := hl.on b4; have hb := below_then hb b4)
    | (go_at_call 21; (with_reducible refine (HRX.out _ _ _ hl hcp).mono ?_); rintro e w5 ⟨rfl, b5⟩; have hh := (Blk.new w5 42 #[.int .i64 H.o, .int .u8 H.k, .int .u8 H.s, .int .u32 H.q, .int .u32 H.v]).alloc (.cells #[.bool ua, .bool ub] 55); have hf := ((hf.on b5).alloc (.cells #[.int .i64 H.o, .int .u8 H.k, .int .u8 H.s, .int .u32 H.q, .int .u32 H.v] 42)).alloc (.cells #[.bool ua, .bool ub] 55); have hg := ((hg.on b5).alloc (.cells #[.int .i64 H.o, .int .u8 H.k, .int .u8 H.s, .int .u32 H.q, .int .u32 H.v] 42)).alloc (.cells #[.bool ua, .bool ub] 55); have ht := ((ht.on b5).alloc (.cells #[.int .i64 H.o, .int .u8 H.k, .int .u8 H.s, .int .u32 H.q, .int .u32 H.v] 42)).alloc (.cells #[.bool ua, .bool ub] 55); have lf := hf.lt; have f0 := hf.cell 0; have f1 := hf.cell 1; have f2 := hf.cell 2; have f3 := hf.cell 3; have f4 := hf.cell 4; simp only [List.getElem?_toArray, List.getElem?_cons_zero, List.getElem?_cons_succ] at f0 f1 f2 f3 f4; have hl := ((hl.on b5).al (.cells #[.int .i64 H.o, .int .u8 H.k, .int .u8 H.s, .int .u32 H.q, .int .u32 H.v] 42)).al (.cells #[.bool ua, .bool ub] 55); have hb := below_al (below_al (below_then hb b5) (.cells #[.int .i64 H.o, .int .u8 H.k, .int .u8 H.s, .int .u32 H.q, .int .u32 H.v] 42)) (.cells #[.bool ua, .bool ub] 55))
    | (go_at_call 23; (with_reducible refine (HT2.out _).mono ?_); rintro e w6 ⟨rfl, b6⟩; have hf := hf.on b6; have hg := hg.on b6; have ht := ht.on b6; have lf := hf.lt; have f0 := hf.cell 0; have f1 := hf.cell 1; have f2 := hf.cell 2; have f3 := hf.cell 3; have f4 := hf.cell 4; simp only [List.getElem?_toArray, List.getElem?_cons_zero, List.getElem?_cons_succ] at f0 f1 f2 f3 f4; have lg := hg.lt; have g0 := hg.cell 0; have g1 := hg.cell 1; have g2 := hg.cell 2; have g3 := hg.cell 3; have g4 := hg.cell 4; simp only [List.getElem?_toArray, List.getElem?_cons_zero, List.getElem?_cons_succ] at g0 g1 g2 g3 g4; have lt := ht.lt; have t0 := ht.cell 0; have t1 := ht.cell 1; simp only [List.getElem?_toArray, List.getElem?_cons_zero, List.getElem?_cons_succ] at t0 t1; have hh := hh.on b6; have lh := hh.lt; have h0 := hh.cell 0; have h1 := hh.cell 1; have h2 := hh.cell 2; have h3 := hh.cell 3; have h4 := hh.cell 4; simp only [List.getElem?_toArray, List.getElem?_cons_zero, List.getElem?_cons_succ] at h0 h1 h2 h3 h4; have hl := hl.on b6; have hb := below_then hb b6)
    | (go_at_call 22; (with_reducible refine (HSX.out _ _ _ hl (HN.out.on hb)).mono ?_); rintro e w7 ⟨rfl, b7⟩; have hb := below_then hb b7)
    | (go_at_call 8; (with_reducible refine (lives_ca _).mono ?_); rintro e w9 ⟨rfl, b9⟩; have hb := below_then hb b9))
  go_ret
  exact ⟨rfl, hb⟩

set_option maxRecDepth 100000 in
set_option maxHeartbeats 8000000 in
theorem high_be (x : Int) (A B : Option Addr) (c d : Nat) (N F : List Int) (w : World) (hx0 : 0 ≤ x) (hx1 : x ≤ 255) (hN : Lies .u8 w w.heap.size A 114 N) (hF : Lies .u8 w w.heap.size B 114 F) (hc : 114 ≤ c)
    (G G1 H : Fr) (E E2 : Int) (ta tb ua ub : Bool) (X : List Int) (r s : Bool) (h2 : readF N = G) (h3 : readE N = E) (h4 : readA N = ta) (h5 : readB N = tb) (hs : (N == F) = s)
    (k1 : hiB (knF N) (knF F) (x % 8) 114 = r) (k2 : hiF (knF N) (knF F) (x % 8) 114 = G1) (k3 : outL (knF N) (knF F) (x % 8) 114 = X) (k4 : readE X = E2) (k5 : readF X = H) (k6 : readA X = ua) (k7 : readB X = ub)
    (v0 : r = false) (vz : G1 = Fr.zero) (v1 : s = true) (v2 : (E == 0) = false) (v5 : (E2 == 0) = false) :
    Calls Try.prog 5 #[.int .u8 x, .slice A 114 c, .slice B 114 d] w fun e w' => e = .returned (.bool true) ∧ Below w.heap.size w w' := by
  have HR := Lib.hid (run_is (x % 8) A B 114 114 c d 114 N F w hN hF (by omega) (by omega) rfl (Nat.le_refl _) _ _ rfl rfl _ k1 _ k2 _ k3)
  have HRD := Lib.hid (fun u (hu : Lies .u8 u u.heap.size A 114 N) => frRead_any A 114 c N u hu hc)
  rw [h2, h3, h4, h5] at HRD
  have HRX := Lib.hid (fun u A' c' (hu : Lies .u8 u u.heap.size A' 114 X) hc' => frRead_any A' 114 c' X u hu hc')
  rw [k4, k5, k6, k7] at HRX
  have HSN := Lib.hid (fun u (h1 : Lies .u8 u u.heap.size A 114 N) (h2 : Lies .u8 u u.heap.size B 114 F) => same_below A B 114 114 c d N F u h1 h2 (by omega) (by omega))
  rw [hs] at HSN
  have HN := Lib.hid hN
  have HF := Lib.hid hF
  subst v1
  have HT1 := Lib.hid (fun u => tgood_any ta tb u)
  have HT2 := Lib.hid (fun u => tgood_any ua ub u)
  subst v0 vz
  simp only [Fr.zero] at HR
  have hq := fun W => fr_eql 0 0 0 0 0 0 0 0 0 0 W
  simp only [beq_self_eq_true, Bool.and_self] at hq
  clear hN hF hc h2 h3 h4 h5 hs k1 k2 k3 k4 k5 k6 k7
  go_enter Try.func5, Try.ntmps5
  go_wp2_with (first
    | (go_at_call 20; (with_reducible refine (HR.out).mono ?_); rintro e w1 ⟨A1, c1, rfl, hown, b1⟩; have hb := b1; have hf := Blk.new w1 42 #[.int .i64 0, .int .u8 0, .int .u8 0, .int .u32 0, .int .u32 0]; have hl := (lies_of_owns hown).al (.cells #[.int .i64 0, .int .u8 0, .int .u8 0, .int .u32 0, .int .u32 0] 42); have hcp := owns_cap hown; have hb := below_al hb (.cells #[.int .i64 0, .int .u8 0, .int .u8 0, .int .u32 0, .int .u32 0] 42))
    | (go_at_call 21; (with_reducible refine (HRD.out _ (HN.out.on hb)).mono ?_); rintro e w2 ⟨rfl, b2⟩; have hg := (Blk.new w2 42 #[.int .i64 G.o, .int .u8 G.k, .int .u8 G.s, .int .u32 G.q, .int .u32 G.v]).alloc (.cells #[.bool ta, .bool tb] 55); have ht := Blk.new (w2.alloc (.cells #[.int .i64 G.o, .int .u8 G.k, .int .u8 G.s, .int .u32 G.q, .int .u32 G.v] 42)) 55 #[.bool ta, .bool tb]; rw [alloc_size] at ht; have hf := ((hf.on b2).alloc (.cells #[.int .i64 G.o, .int .u8 G.k, .int .u8 G.s, .int .u32 G.q, .int .u32 G.v] 42)).alloc (.cells #[.bool ta, .bool tb] 55); have hl := ((hl.on b2).al (.cells #[.int .i64 G.o, .int .u8 G.k, .int .u8 G.s, .int .u32 G.q, .int .u32 G.v] 42)).al (.cells #[.bool ta, .bool tb] 55); have hb := below_al (below_al (below_then hb b2) (.cells #[.int .i64 G.o, .int .u8 G.k, .int .u8 G.s, .int .u32 G.q, .int .u32 G.v] 42)) (.cells #[.bool ta, .bool tb] 55); have HR1 := Lib.hid b2)
    | (go_at_call 22; (with_reducible refine (HSN.out _ (HN.out.on hb) (HF.out.on hb)).mono ?_); rintro e w3 ⟨rfl, b3⟩; have hf := hf.on b3; have hg := hg.on b3; have ht := ht.on b3; have lf := hf.lt; have f0 := hf.cell 0; have f1 := hf.cell 1; have f2 := hf.cell 2; have f3 := hf.cell 3; have f4 := hf.cell 4; simp only [List.getElem?_toArray, List.getElem?_cons_zero, List.getElem?_cons_succ] at f0 f1 f2 f3 f4; have lg := hg.lt; have g0 := hg.cell 0; have g1 := hg.cell 1; have g2 := hg.cell 2; have g3 := hg.cell 3; have g4 := hg.cell 4; simp only [List.getElem?_toArray, List.getElem?_cons_zero, List.getElem?_cons_succ] at g0 g1 g2 g3 g4; have lt := ht.lt; have t0 := ht.cell 0; have t1 := ht.cell 1; simp only [List.getElem?_toArray, List.getElem?_cons_zero, List.getElem?_cons_succ] at t0 t1; have hl := hl.on b3; have hb := below_then hb b3)
    | (go_at_call 23; (with_reducible refine (HT1.out _).mono ?_); rintro e w4 ⟨rfl, b4⟩; have hf := hf.on b4; have hg := hg.on b4; have ht := ht.on b4; have lf := hf.lt; have f0 := hf.cell 0; have f1 := hf.cell 1; have f2 := hf.cell 2; have f3 := hf.cell 3; have f4 := hf.cell 4; simp only [List.getElem?_toArray, List.getElem?_cons_zero, List.getElem?_cons_succ] at f0 f1 f2 f3 f4; have lg := hg.lt; have g0 := hg.cell 0; have g1 := hg.cell 1; have g2 := hg.cell 2; have g3 := hg.cell 3; have g4 := hg.cell 4; simp only [List.getElem?_toArray, List.getElem?_cons_zero, List.getElem?_cons_succ] at g0 g1 g2 g3 g4; have lt := ht.lt; have t0 := ht.cell 0; have t1 := ht.cell 1; simp only [List.getElem?_toArray, List.getElem?_cons_zero, List.getElem?_cons_succ] at t0 t1; have hl := hl.on b4; have hb := below_then hb b4)
    | (go_at_call 21; (with_reducible refine (HRX.out _ _ _ hl hcp).mono ?_); rintro e w5 ⟨rfl, b5⟩; have hh := (Blk.new w5 42 #[.int .i64 H.o, .int .u8 H.k, .int .u8 H.s, .int .u32 H.q, .int .u32 H.v]).alloc (.cells #[.bool ua, .bool ub] 55); have hf := ((hf.on b5).alloc (.cells #[.int .i64 H.o, .int .u8 H.k, .int .u8 H.s, .int .u32 H.q, .int .u32 H.v] 42)).alloc (.cells #[.bool ua, .bool ub] 55); have hg := ((hg.on b5).alloc (.cells #[.int .i64 H.o, .int .u8 H.k, .int .u8 H.s, .int .u32 H.q, .int .u32 H.v] 42)).alloc (.cells #[.bool ua, .bool ub] 55); have ht := ((ht.on b5).alloc (.cells #[.int .i64 H.o, .int .u8 H.k, .int .u8 H.s, .int .u32 H.q, .int .u32 H.v] 42)).alloc (.cells #[.bool ua, .bool ub] 55); have lf := hf.lt; have f0 := hf.cell 0; have f1 := hf.cell 1; have f2 := hf.cell 2; have f3 := hf.cell 3; have f4 := hf.cell 4; simp only [List.getElem?_toArray, List.getElem?_cons_zero, List.getElem?_cons_succ] at f0 f1 f2 f3 f4; have hl := ((hl.on b5).al (.cells #[.int .i64 H.o, .int .u8 H.k, .int .u8 H.s, .int .u32 H.q, .int .u32 H.v] 42)).al (.cells #[.bool ua, .bool ub] 55); have hb := below_al (below_al (below_then hb b5) (.cells #[.int .i64 H.o, .int .u8 H.k, .int .u8 H.s, .int .u32 H.q, .int .u32 H.v] 42)) (.cells #[.bool ua, .bool ub] 55))
    | (go_at_call 23; (with_reducible refine (HT2.out _).mono ?_); rintro e w6 ⟨rfl, b6⟩; have hf := hf.on b6; have hg := hg.on b6; have ht := ht.on b6; have lf := hf.lt; have f0 := hf.cell 0; have f1 := hf.cell 1; have f2 := hf.cell 2; have f3 := hf.cell 3; have f4 := hf.cell 4; simp only [List.getElem?_toArray, List.getElem?_cons_zero, List.getElem?_cons_succ] at f0 f1 f2 f3 f4; have lg := hg.lt; have g0 := hg.cell 0; have g1 := hg.cell 1; have g2 := hg.cell 2; have g3 := hg.cell 3; have g4 := hg.cell 4; simp only [List.getElem?_toArray, List.getElem?_cons_zero, List.getElem?_cons_succ] at g0 g1 g2 g3 g4; have lt := ht.lt; have t0 := ht.cell 0; have t1 := ht.cell 1; simp only [List.getElem?_toArray, List.getElem?_cons_zero, List.getElem?_cons_succ] at t0 t1; have hh := hh.on b6; have lh := hh.lt; have h0 := hh.cell 0; have h1 := hh.cell 1; have h2 := hh.cell 2; have h3 := hh.cell 3; have h4 := hh.cell 4; simp only [List.getElem?_toArray, List.getElem?_cons_zero, List.getElem?_cons_succ] at h0 h1 h2 h3 h4; have hl := hl.on b6; have hb := below_then hb b6)
    | (go_at_call 22; (with_reducible refine (HSX.out _ _ _ hl (HN.out.on hb)).mono ?_); rintro e w7 ⟨rfl, b7⟩; have hb := below_then hb b7)
    | (go_at_call 8; (with_reducible refine (lives_ca _).mono ?_); rintro e w9 ⟨rfl, b9⟩; have hb := below_then hb b9))
  go_ret
  exact ⟨rfl, hb⟩

set_option maxRecDepth 100000 in
set_option maxHeartbeats 8000000 in
theorem high_bf (x : Int) (A B : Option Addr) (c d : Nat) (N F : List Int) (w : World) (hx0 : 0 ≤ x) (hx1 : x ≤ 255) (hN : Lies .u8 w w.heap.size A 114 N) (hF : Lies .u8 w w.heap.size B 114 F) (hc : 114 ≤ c)
    (G G1 H : Fr) (E E2 : Int) (ta tb ua ub : Bool) (X : List Int) (r s : Bool) (h2 : readF N = G) (h3 : readE N = E) (h4 : readA N = ta) (h5 : readB N = tb) (hs : (N == F) = s)
    (k1 : hiB (knF N) (knF F) (x % 8) 114 = r) (k2 : hiF (knF N) (knF F) (x % 8) 114 = G1) (k3 : outL (knF N) (knF F) (x % 8) 114 = X) (k4 : readE X = E2) (k5 : readF X = H) (k6 : readA X = ua) (k7 : readB X = ub)
    (v0 : r = false) (vz : G1 = Fr.zero) (v1 : s = true) (v2 : (E == 0) = false) (v5 : (E2 == 0) = true) (v6 : (ua && !ub) = false) :
    Calls Try.prog 5 #[.int .u8 x, .slice A 114 c, .slice B 114 d] w fun e w' => e = .returned (.bool true) ∧ Below w.heap.size w w' := by
  have HR := Lib.hid (run_is (x % 8) A B 114 114 c d 114 N F w hN hF (by omega) (by omega) rfl (Nat.le_refl _) _ _ rfl rfl _ k1 _ k2 _ k3)
  have HRD := Lib.hid (fun u (hu : Lies .u8 u u.heap.size A 114 N) => frRead_any A 114 c N u hu hc)
  rw [h2, h3, h4, h5] at HRD
  have HRX := Lib.hid (fun u A' c' (hu : Lies .u8 u u.heap.size A' 114 X) hc' => frRead_any A' 114 c' X u hu hc')
  rw [k4, k5, k6, k7] at HRX
  have HSN := Lib.hid (fun u (h1 : Lies .u8 u u.heap.size A 114 N) (h2 : Lies .u8 u u.heap.size B 114 F) => same_below A B 114 114 c d N F u h1 h2 (by omega) (by omega))
  rw [hs] at HSN
  have HN := Lib.hid hN
  have HF := Lib.hid hF
  subst v1
  have HT1 := Lib.hid (fun u => tgood_any ta tb u)
  have HT2 := Lib.hid (fun u => tgood_any ua ub u)
  rw [v6] at HT2
  clear v6
  subst v0 vz
  simp only [Fr.zero] at HR
  have hq := fun W => fr_eql 0 0 0 0 0 0 0 0 0 0 W
  simp only [beq_self_eq_true, Bool.and_self] at hq
  clear hN hF hc h2 h3 h4 h5 hs k1 k2 k3 k4 k5 k6 k7
  go_enter Try.func5, Try.ntmps5
  go_wp2_with (first
    | (go_at_call 20; (with_reducible refine (HR.out).mono ?_); rintro e w1 ⟨A1, c1, rfl, hown, b1⟩; have hb := b1; have hf := Blk.new w1 42 #[.int .i64 0, .int .u8 0, .int .u8 0, .int .u32 0, .int .u32 0]; have hl := (lies_of_owns hown).al (.cells #[.int .i64 0, .int .u8 0, .int .u8 0, .int .u32 0, .int .u32 0] 42); have hcp := owns_cap hown; have hb := below_al hb (.cells #[.int .i64 0, .int .u8 0, .int .u8 0, .int .u32 0, .int .u32 0] 42))
    | (go_at_call 21; (with_reducible refine (HRD.out _ (HN.out.on hb)).mono ?_); rintro e w2 ⟨rfl, b2⟩; have hg := (Blk.new w2 42 #[.int .i64 G.o, .int .u8 G.k, .int .u8 G.s, .int .u32 G.q, .int .u32 G.v]).alloc (.cells #[.bool ta, .bool tb] 55); have ht := Blk.new (w2.alloc (.cells #[.int .i64 G.o, .int .u8 G.k, .int .u8 G.s, .int .u32 G.q, .int .u32 G.v] 42)) 55 #[.bool ta, .bool tb]; rw [alloc_size] at ht; have hf := ((hf.on b2).alloc (.cells #[.int .i64 G.o, .int .u8 G.k, .int .u8 G.s, .int .u32 G.q, .int .u32 G.v] 42)).alloc (.cells #[.bool ta, .bool tb] 55); have hl := ((hl.on b2).al (.cells #[.int .i64 G.o, .int .u8 G.k, .int .u8 G.s, .int .u32 G.q, .int .u32 G.v] 42)).al (.cells #[.bool ta, .bool tb] 55); have hb := below_al (below_al (below_then hb b2) (.cells #[.int .i64 G.o, .int .u8 G.k, .int .u8 G.s, .int .u32 G.q, .int .u32 G.v] 42)) (.cells #[.bool ta, .bool tb] 55); have HR1 := Lib.hid b2)
    | (go_at_call 22; (with_reducible refine (HSN.out _ (HN.out.on hb) (HF.out.on hb)).mono ?_); rintro e w3 ⟨rfl, b3⟩; have hf := hf.on b3; have hg := hg.on b3; have ht := ht.on b3; have lf := hf.lt; have f0 := hf.cell 0; have f1 := hf.cell 1; have f2 := hf.cell 2; have f3 := hf.cell 3; have f4 := hf.cell 4; simp only [List.getElem?_toArray, List.getElem?_cons_zero, List.getElem?_cons_succ] at f0 f1 f2 f3 f4; have lg := hg.lt; have g0 := hg.cell 0; have g1 := hg.cell 1; have g2 := hg.cell 2; have g3 := hg.cell 3; have g4 := hg.cell 4; simp only [List.getElem?_toArray, List.getElem?_cons_zero, List.getElem?_cons_succ] at g0 g1 g2 g3 g4; have lt := ht.lt; have t0 := ht.cell 0; have t1 := ht.cell 1; simp only [List.getElem?_toArray, List.getElem?_cons_zero, List.getElem?_cons_succ] at t0 t1; have hl := hl.on b3; have hb := below_then hb b3)
    | (go_at_call 23; (with_reducible refine (HT1.out _).mono ?_); rintro e w4 ⟨rfl, b4⟩; have hf := hf.on b4; have hg := hg.on b4; have ht := ht.on b4; have lf := hf.lt; have f0 := hf.cell 0; have f1 := hf.cell 1; have f2 := hf.cell 2; have f3 := hf.cell 3; have f4 := hf.cell 4; simp only [List.getElem?_toArray, List.getElem?_cons_zero, List.getElem?_cons_succ] at f0 f1 f2 f3 f4; have lg := hg.lt; have g0 := hg.cell 0; have g1 := hg.cell 1; have g2 := hg.cell 2; have g3 := hg.cell 3; have g4 := hg.cell 4; simp only [List.getElem?_toArray, List.getElem?_cons_zero, List.getElem?_cons_succ] at g0 g1 g2 g3 g4; have lt := ht.lt; have t0 := ht.cell 0; have t1 := ht.cell 1; simp only [List.getElem?_toArray, List.getElem?_cons_zero, List.getElem?_cons_succ] at t0 t1; have hl := hl.on b4; have hb := below_then hb b4)
    | (go_at_call 21; (with_reducible refine (HRX.out _ _ _ hl hcp).mono ?_); rintro e w5 ⟨rfl, b5⟩; have hh := (Blk.new w5 42 #[.int .i64 H.o, .int .u8 H.k, .int .u8 H.s, .int .u32 H.q, .int .u32 H.v]).alloc (.cells #[.bool ua, .bool ub] 55); have hf := ((hf.on b5).alloc (.cells #[.int .i64 H.o, .int .u8 H.k, .int .u8 H.s, .int .u32 H.q, .int .u32 H.v] 42)).alloc (.cells #[.bool ua, .bool ub] 55); have hg := ((hg.on b5).alloc (.cells #[.int .i64 H.o, .int .u8 H.k, .int .u8 H.s, .int .u32 H.q, .int .u32 H.v] 42)).alloc (.cells #[.bool ua, .bool ub] 55); have ht := ((ht.on b5).alloc (.cells #[.int .i64 H.o, .int .u8 H.k, .int .u8 H.s, .int .u32 H.q, .int .u32 H.v] 42)).alloc (.cells #[.bool ua, .bool ub] 55); have lf := hf.lt; have f0 := hf.cell 0; have f1 := hf.cell 1; have f2 := hf.cell 2; have f3 := hf.cell 3; have f4 := hf.cell 4; simp only [List.getElem?_toArray, List.getElem?_cons_zero, List.getElem?_cons_succ] at f0 f1 f2 f3 f4; have hl := ((hl.on b5).al (.cells #[.int .i64 H.o, .int .u8 H.k, .int .u8 H.s, .int .u32 H.q, .int .u32 H.v] 42)).al (.cells #[.bool ua, .bool ub] 55); have hb := below_al (below_al (below_then hb b5) (.cells #[.int .i64 H.o, .int .u8 H.k, .int .u8 H.s, .int .u32 H.q, .int .u32 H.v] 42)) (.cells #[.bool ua, .bool ub] 55))
    | (go_at_call 23; (with_reducible refine (HT2.out _).mono ?_); rintro e w6 ⟨rfl, b6⟩; have hf := hf.on b6; have hg := hg.on b6; have ht := ht.on b6; have lf := hf.lt; have f0 := hf.cell 0; have f1 := hf.cell 1; have f2 := hf.cell 2; have f3 := hf.cell 3; have f4 := hf.cell 4; simp only [List.getElem?_toArray, List.getElem?_cons_zero, List.getElem?_cons_succ] at f0 f1 f2 f3 f4; have lg := hg.lt; have g0 := hg.cell 0; have g1 := hg.cell 1; have g2 := hg.cell 2; have g3 := hg.cell 3; have g4 := hg.cell 4; simp only [List.getElem?_toArray, List.getElem?_cons_zero, List.getElem?_cons_succ] at g0 g1 g2 g3 g4; have lt := ht.lt; have t0 := ht.cell 0; have t1 := ht.cell 1; simp only [List.getElem?_toArray, List.getElem?_cons_zero, List.getElem?_cons_succ] at t0 t1; have hh := hh.on b6; have lh := hh.lt; have h0 := hh.cell 0; have h1 := hh.cell 1; have h2 := hh.cell 2; have h3 := hh.cell 3; have h4 := hh.cell 4; simp only [List.getElem?_toArray, List.getElem?_cons_zero, List.getElem?_cons_succ] at h0 h1 h2 h3 h4; have hl := hl.on b6; have hb := below_then hb b6)
    | (go_at_call 22; (with_reducible refine (HSX.out _ _ _ hl (HN.out.on hb)).mono ?_); rintro e w7 ⟨rfl, b7⟩; have hb := below_then hb b7)
    | (go_at_call 8; (with_reducible refine (lives_ca _).mono ?_); rintro e w9 ⟨rfl, b9⟩; have hb := below_then hb b9))
  go_ret
  exact ⟨rfl, hb⟩

set_option maxRecDepth 100000 in
set_option maxHeartbeats 8000000 in
theorem high_ce (x : Int) (A B : Option Addr) (c d : Nat) (N F : List Int) (w : World) (hx0 : 0 ≤ x) (hx1 : x ≤ 255) (hN : Lies .u8 w w.heap.size A 114 N) (hF : Lies .u8 w w.heap.size B 114 F) (hc : 114 ≤ c)
    (G G1 H : Fr) (E E2 : Int) (ta tb ua ub : Bool) (X : List Int) (r s : Bool) (h2 : readF N = G) (h3 : readE N = E) (h4 : readA N = ta) (h5 : readB N = tb) (hs : (N == F) = s)
    (k1 : hiB (knF N) (knF F) (x % 8) 114 = r) (k2 : hiF (knF N) (knF F) (x % 8) 114 = G1) (k3 : outL (knF N) (knF F) (x % 8) 114 = X) (k4 : readE X = E2) (k5 : readF X = H) (k6 : readA X = ua) (k7 : readB X = ub)
    (v0 : r = false) (vz : G1 = Fr.zero) (v1 : s = true) (v2 : (E == 0) = true) (v3 : (ta && !tb) = false) (v5 : (E2 == 0) = false) :
    Calls Try.prog 5 #[.int .u8 x, .slice A 114 c, .slice B 114 d] w fun e w' => e = .returned (.bool true) ∧ Below w.heap.size w w' := by
  have HR := Lib.hid (run_is (x % 8) A B 114 114 c d 114 N F w hN hF (by omega) (by omega) rfl (Nat.le_refl _) _ _ rfl rfl _ k1 _ k2 _ k3)
  have HRD := Lib.hid (fun u (hu : Lies .u8 u u.heap.size A 114 N) => frRead_any A 114 c N u hu hc)
  rw [h2, h3, h4, h5] at HRD
  have HRX := Lib.hid (fun u A' c' (hu : Lies .u8 u u.heap.size A' 114 X) hc' => frRead_any A' 114 c' X u hu hc')
  rw [k4, k5, k6, k7] at HRX
  have HSN := Lib.hid (fun u (h1 : Lies .u8 u u.heap.size A 114 N) (h2 : Lies .u8 u u.heap.size B 114 F) => same_below A B 114 114 c d N F u h1 h2 (by omega) (by omega))
  rw [hs] at HSN
  have HN := Lib.hid hN
  have HF := Lib.hid hF
  subst v1
  have HT1 := Lib.hid (fun u => tgood_any ta tb u)
  rw [v3] at HT1
  clear v3
  have HT2 := Lib.hid (fun u => tgood_any ua ub u)
  subst v0 vz
  simp only [Fr.zero] at HR
  have hq := fun W => fr_eql 0 0 0 0 0 0 0 0 0 0 W
  simp only [beq_self_eq_true, Bool.and_self] at hq
  clear hN hF hc h2 h3 h4 h5 hs k1 k2 k3 k4 k5 k6 k7
  go_enter Try.func5, Try.ntmps5
  go_wp2_with (first
    | (go_at_call 20; (with_reducible refine (HR.out).mono ?_); rintro e w1 ⟨A1, c1, rfl, hown, b1⟩; have hb := b1; have hf := Blk.new w1 42 #[.int .i64 0, .int .u8 0, .int .u8 0, .int .u32 0, .int .u32 0]; have hl := (lies_of_owns hown).al (.cells #[.int .i64 0, .int .u8 0, .int .u8 0, .int .u32 0, .int .u32 0] 42); have hcp := owns_cap hown; have hb := below_al hb (.cells #[.int .i64 0, .int .u8 0, .int .u8 0, .int .u32 0, .int .u32 0] 42))
    | (go_at_call 21; (with_reducible refine (HRD.out _ (HN.out.on hb)).mono ?_); rintro e w2 ⟨rfl, b2⟩; have hg := (Blk.new w2 42 #[.int .i64 G.o, .int .u8 G.k, .int .u8 G.s, .int .u32 G.q, .int .u32 G.v]).alloc (.cells #[.bool ta, .bool tb] 55); have ht := Blk.new (w2.alloc (.cells #[.int .i64 G.o, .int .u8 G.k, .int .u8 G.s, .int .u32 G.q, .int .u32 G.v] 42)) 55 #[.bool ta, .bool tb]; rw [alloc_size] at ht; have hf := ((hf.on b2).alloc (.cells #[.int .i64 G.o, .int .u8 G.k, .int .u8 G.s, .int .u32 G.q, .int .u32 G.v] 42)).alloc (.cells #[.bool ta, .bool tb] 55); have hl := ((hl.on b2).al (.cells #[.int .i64 G.o, .int .u8 G.k, .int .u8 G.s, .int .u32 G.q, .int .u32 G.v] 42)).al (.cells #[.bool ta, .bool tb] 55); have hb := below_al (below_al (below_then hb b2) (.cells #[.int .i64 G.o, .int .u8 G.k, .int .u8 G.s, .int .u32 G.q, .int .u32 G.v] 42)) (.cells #[.bool ta, .bool tb] 55); have HR1 := Lib.hid b2)
    | (go_at_call 22; (with_reducible refine (HSN.out _ (HN.out.on hb) (HF.out.on hb)).mono ?_); rintro e w3 ⟨rfl, b3⟩; have hf := hf.on b3; have hg := hg.on b3; have ht := ht.on b3; have lf := hf.lt; have f0 := hf.cell 0; have f1 := hf.cell 1; have f2 := hf.cell 2; have f3 := hf.cell 3; have f4 := hf.cell 4; simp only [List.getElem?_toArray, List.getElem?_cons_zero, List.getElem?_cons_succ] at f0 f1 f2 f3 f4; have lg := hg.lt; have g0 := hg.cell 0; have g1 := hg.cell 1; have g2 := hg.cell 2; have g3 := hg.cell 3; have g4 := hg.cell 4; simp only [List.getElem?_toArray, List.getElem?_cons_zero, List.getElem?_cons_succ] at g0 g1 g2 g3 g4; have lt := ht.lt; have t0 := ht.cell 0; have t1 := ht.cell 1; simp only [List.getElem?_toArray, List.getElem?_cons_zero, List.getElem?_cons_succ] at t0 t1; have hl := hl.on b3; have hb := below_then hb b3)
    | (go_at_call 23; (with_reducible refine (HT1.out _).mono ?_); rintro e w4 ⟨rfl, b4⟩; have hf := hf.on b4; have hg := hg.on b4; have ht := ht.on b4; have lf := hf.lt; have f0 := hf.cell 0; have f1 := hf.cell 1; have f2 := hf.cell 2; have f3 := hf.cell 3; have f4 := hf.cell 4; simp only [List.getElem?_toArray, List.getElem?_cons_zero, List.getElem?_cons_succ] at f0 f1 f2 f3 f4; have lg := hg.lt; have g0 := hg.cell 0; have g1 := hg.cell 1; have g2 := hg.cell 2; have g3 := hg.cell 3; have g4 := hg.cell 4; simp only [List.getElem?_toArray, List.getElem?_cons_zero, List.getElem?_cons_succ] at g0 g1 g2 g3 g4; have lt := ht.lt; have t0 := ht.cell 0; have t1 := ht.cell 1; simp only [List.getElem?_toArray, List.getElem?_cons_zero, List.getElem?_cons_succ] at t0 t1; have hl := hl.on b4; have hb := below_then hb b4)
    | (go_at_call 21; (with_reducible refine (HRX.out _ _ _ hl hcp).mono ?_); rintro e w5 ⟨rfl, b5⟩; have hh := (Blk.new w5 42 #[.int .i64 H.o, .int .u8 H.k, .int .u8 H.s, .int .u32 H.q, .int .u32 H.v]).alloc (.cells #[.bool ua, .bool ub] 55); have hf := ((hf.on b5).alloc (.cells #[.int .i64 H.o, .int .u8 H.k, .int .u8 H.s, .int .u32 H.q, .int .u32 H.v] 42)).alloc (.cells #[.bool ua, .bool ub] 55); have hg := ((hg.on b5).alloc (.cells #[.int .i64 H.o, .int .u8 H.k, .int .u8 H.s, .int .u32 H.q, .int .u32 H.v] 42)).alloc (.cells #[.bool ua, .bool ub] 55); have ht := ((ht.on b5).alloc (.cells #[.int .i64 H.o, .int .u8 H.k, .int .u8 H.s, .int .u32 H.q, .int .u32 H.v] 42)).alloc (.cells #[.bool ua, .bool ub] 55); have lf := hf.lt; have f0 := hf.cell 0; have f1 := hf.cell 1; have f2 := hf.cell 2; have f3 := hf.cell 3; have f4 := hf.cell 4; simp only [List.getElem?_toArray, List.getElem?_cons_zero, List.getElem?_cons_succ] at f0 f1 f2 f3 f4; have hl := ((hl.on b5).al (.cells #[.int .i64 H.o, .int .u8 H.k, .int .u8 H.s, .int .u32 H.q, .int .u32 H.v] 42)).al (.cells #[.bool ua, .bool ub] 55); have hb := below_al (below_al (below_then hb b5) (.cells #[.int .i64 H.o, .int .u8 H.k, .int .u8 H.s, .int .u32 H.q, .int .u32 H.v] 42)) (.cells #[.bool ua, .bool ub] 55))
    | (go_at_call 23; (with_reducible refine (HT2.out _).mono ?_); rintro e w6 ⟨rfl, b6⟩; have hf := hf.on b6; have hg := hg.on b6; have ht := ht.on b6; have lf := hf.lt; have f0 := hf.cell 0; have f1 := hf.cell 1; have f2 := hf.cell 2; have f3 := hf.cell 3; have f4 := hf.cell 4; simp only [List.getElem?_toArray, List.getElem?_cons_zero, List.getElem?_cons_succ] at f0 f1 f2 f3 f4; have lg := hg.lt; have g0 := hg.cell 0; have g1 := hg.cell 1; have g2 := hg.cell 2; have g3 := hg.cell 3; have g4 := hg.cell 4; simp only [List.getElem?_toArray, List.getElem?_cons_zero, List.getElem?_cons_succ] at g0 g1 g2 g3 g4; have lt := ht.lt; have t0 := ht.cell 0; have t1 := ht.cell 1; simp only [List.getElem?_toArray, List.getElem?_cons_zero, List.getElem?_cons_succ] at t0 t1; have hh := hh.on b6; have lh := hh.lt; have h0 := hh.cell 0; have h1 := hh.cell 1; have h2 := hh.cell 2; have h3 := hh.cell 3; have h4 := hh.cell 4; simp only [List.getElem?_toArray, List.getElem?_cons_zero, List.getElem?_cons_succ] at h0 h1 h2 h3 h4; have hl := hl.on b6; have hb := below_then hb b6)
    | (go_at_call 22; (with_reducible refine (HSX.out _ _ _ hl (HN.out.on hb)).mono ?_); rintro e w7 ⟨rfl, b7⟩; have hb := below_then hb b7)
    | (go_at_call 8; (with_reducible refine (lives_ca _).mono ?_); rintro e w9 ⟨rfl, b9⟩; have hb := below_then hb b9))
  go_ret
  exact ⟨rfl, hb⟩

set_option maxRecDepth 100000 in
set_option maxHeartbeats 8000000 in
theorem high_cf (x : Int) (A B : Option Addr) (c d : Nat) (N F : List Int) (w : World) (hx0 : 0 ≤ x) (hx1 : x ≤ 255) (hN : Lies .u8 w w.heap.size A 114 N) (hF : Lies .u8 w w.heap.size B 114 F) (hc : 114 ≤ c)
    (G G1 H : Fr) (E E2 : Int) (ta tb ua ub : Bool) (X : List Int) (r s : Bool) (h2 : readF N = G) (h3 : readE N = E) (h4 : readA N = ta) (h5 : readB N = tb) (hs : (N == F) = s)
    (k1 : hiB (knF N) (knF F) (x % 8) 114 = r) (k2 : hiF (knF N) (knF F) (x % 8) 114 = G1) (k3 : outL (knF N) (knF F) (x % 8) 114 = X) (k4 : readE X = E2) (k5 : readF X = H) (k6 : readA X = ua) (k7 : readB X = ub)
    (v0 : r = false) (vz : G1 = Fr.zero) (v1 : s = true) (v2 : (E == 0) = true) (v3 : (ta && !tb) = false) (v5 : (E2 == 0) = true) (v6 : (ua && !ub) = false) :
    Calls Try.prog 5 #[.int .u8 x, .slice A 114 c, .slice B 114 d] w fun e w' => e = .returned (.bool true) ∧ Below w.heap.size w w' := by
  have HR := Lib.hid (run_is (x % 8) A B 114 114 c d 114 N F w hN hF (by omega) (by omega) rfl (Nat.le_refl _) _ _ rfl rfl _ k1 _ k2 _ k3)
  have HRD := Lib.hid (fun u (hu : Lies .u8 u u.heap.size A 114 N) => frRead_any A 114 c N u hu hc)
  rw [h2, h3, h4, h5] at HRD
  have HRX := Lib.hid (fun u A' c' (hu : Lies .u8 u u.heap.size A' 114 X) hc' => frRead_any A' 114 c' X u hu hc')
  rw [k4, k5, k6, k7] at HRX
  have HSN := Lib.hid (fun u (h1 : Lies .u8 u u.heap.size A 114 N) (h2 : Lies .u8 u u.heap.size B 114 F) => same_below A B 114 114 c d N F u h1 h2 (by omega) (by omega))
  rw [hs] at HSN
  have HN := Lib.hid hN
  have HF := Lib.hid hF
  subst v1
  have HT1 := Lib.hid (fun u => tgood_any ta tb u)
  rw [v3] at HT1
  clear v3
  have HT2 := Lib.hid (fun u => tgood_any ua ub u)
  rw [v6] at HT2
  clear v6
  subst v0 vz
  simp only [Fr.zero] at HR
  have hq := fun W => fr_eql 0 0 0 0 0 0 0 0 0 0 W
  simp only [beq_self_eq_true, Bool.and_self] at hq
  clear hN hF hc h2 h3 h4 h5 hs k1 k2 k3 k4 k5 k6 k7
  go_enter Try.func5, Try.ntmps5
  go_wp2_with (first
    | (go_at_call 20; (with_reducible refine (HR.out).mono ?_); rintro e w1 ⟨A1, c1, rfl, hown, b1⟩; have hb := b1; have hf := Blk.new w1 42 #[.int .i64 0, .int .u8 0, .int .u8 0, .int .u32 0, .int .u32 0]; have hl := (lies_of_owns hown).al (.cells #[.int .i64 0, .int .u8 0, .int .u8 0, .int .u32 0, .int .u32 0] 42); have hcp := owns_cap hown; have hb := below_al hb (.cells #[.int .i64 0, .int .u8 0, .int .u8 0, .int .u32 0, .int .u32 0] 42))
    | (go_at_call 21; (with_reducible refine (HRD.out _ (HN.out.on hb)).mono ?_); rintro e w2 ⟨rfl, b2⟩; have hg := (Blk.new w2 42 #[.int .i64 G.o, .int .u8 G.k, .int .u8 G.s, .int .u32 G.q, .int .u32 G.v]).alloc (.cells #[.bool ta, .bool tb] 55); have ht := Blk.new (w2.alloc (.cells #[.int .i64 G.o, .int .u8 G.k, .int .u8 G.s, .int .u32 G.q, .int .u32 G.v] 42)) 55 #[.bool ta, .bool tb]; rw [alloc_size] at ht; have hf := ((hf.on b2).alloc (.cells #[.int .i64 G.o, .int .u8 G.k, .int .u8 G.s, .int .u32 G.q, .int .u32 G.v] 42)).alloc (.cells #[.bool ta, .bool tb] 55); have hl := ((hl.on b2).al (.cells #[.int .i64 G.o, .int .u8 G.k, .int .u8 G.s, .int .u32 G.q, .int .u32 G.v] 42)).al (.cells #[.bool ta, .bool tb] 55); have hb := below_al (below_al (below_then hb b2) (.cells #[.int .i64 G.o, .int .u8 G.k, .int .u8 G.s, .int .u32 G.q, .int .u32 G.v] 42)) (.cells #[.bool ta, .bool tb] 55); have HR1 := Lib.hid b2)
    | (go_at_call 22; (with_reducible refine (HSN.out _ (HN.out.on hb) (HF.out.on hb)).mono ?_); rintro e w3 ⟨rfl, b3⟩; have hf := hf.on b3; have hg := hg.on b3; have ht := ht.on b3; have lf := hf.lt; have f0 := hf.cell 0; have f1 := hf.cell 1; have f2 := hf.cell 2; have f3 := hf.cell 3; have f4 := hf.cell 4; simp only [List.getElem?_toArray, List.getElem?_cons_zero, List.getElem?_cons_succ] at f0 f1 f2 f3 f4; have lg := hg.lt; have g0 := hg.cell 0; have g1 := hg.cell 1; have g2 := hg.cell 2; have g3 := hg.cell 3; have g4 := hg.cell 4; simp only [List.getElem?_toArray, List.getElem?_cons_zero, List.getElem?_cons_succ] at g0 g1 g2 g3 g4; have lt := ht.lt; have t0 := ht.cell 0; have t1 := ht.cell 1; simp only [List.getElem?_toArray, List.getElem?_cons_zero, List.getElem?_cons_succ] at t0 t1; have hl := hl.on b3; have hb := below_then hb b3)
    | (go_at_call 23; (with_reducible refine (HT1.out _).mono ?_); rintro e w4 ⟨rfl, b4⟩; have hf := hf.on b4; have hg := hg.on b4; have ht := ht.on b4; have lf := hf.lt; have f0 := hf.cell 0; have f1 := hf.cell 1; have f2 := hf.cell 2; have f3 := hf.cell 3; have f4 := hf.cell 4; simp only [List.getElem?_toArray, List.getElem?_cons_zero, List.getElem?_cons_succ] at f0 f1 f2 f3 f4; have lg := hg.lt; have g0 := hg.cell 0; have g1 := hg.cell 1; have g2 := hg.cell 2; have g3 := hg.cell 3; have g4 := hg.cell 4; simp only [List.getElem?_toArray, List.getElem?_cons_zero, List.getElem?_cons_succ] at g0 g1 g2 g3 g4; have lt := ht.lt; have t0 := ht.cell 0; have t1 := ht.cell 1; simp only [List.getElem?_toArray, List.getElem?_cons_zero, List.getElem?_cons_succ] at t0 t1; have hl := hl.on b4; have hb := below_then hb b4)
    | (go_at_call 21; (with_reducible refine (HRX.out _ _ _ hl hcp).mono ?_); rintro e w5 ⟨rfl, b5⟩; have hh := (Blk.new w5 42 #[.int .i64 H.o, .int .u8 H.k, .int .u8 H.s, .int .u32 H.q, .int .u32 H.v]).alloc (.cells #[.bool ua, .bool ub] 55); have hf := ((hf.on b5).alloc (.cells #[.int .i64 H.o, .int .u8 H.k, .int .u8 H.s, .int .u32 H.q, .int .u32 H.v] 42)).alloc (.cells #[.bool ua, .bool ub] 55); have hg := ((hg.on b5).alloc (.cells #[.int .i64 H.o, .int .u8 H.k, .int .u8 H.s, .int .u32 H.q, .int .u32 H.v] 42)).alloc (.cells #[.bool ua, .bool ub] 55); have ht := ((ht.on b5).alloc (.cells #[.int .i64 H.o, .int .u8 H.k, .int .u8 H.s, .int .u32 H.q, .int .u32 H.v] 42)).alloc (.cells #[.bool ua, .bool ub] 55); have lf := hf.lt; have f0 := hf.cell 0; have f1 := hf.cell 1; have f2 := hf.cell 2; have f3 := hf.cell 3; have f4 := hf.cell 4; simp only [List.getElem?_toArray, List.getElem?_cons_zero, List.getElem?_cons_succ] at f0 f1 f2 f3 f4; have hl := ((hl.on b5).al (.cells #[.int .i64 H.o, .int .u8 H.k, .int .u8 H.s, .int .u32 H.q, .int .u32 H.v] 42)).al (.cells #[.bool ua, .bool ub] 55); have hb := below_al (below_al (below_then hb b5) (.cells #[.int .i64 H.o, .int .u8 H.k, .int .u8 H.s, .int .u32 H.q, .int .u32 H.v] 42)) (.cells #[.bool ua, .bool ub] 55))
    | (go_at_call 23; (with_reducible refine (HT2.out _).mono ?_); rintro e w6 ⟨rfl, b6⟩; have hf := hf.on b6; have hg := hg.on b6; have ht := ht.on b6; have lf := hf.lt; have f0 := hf.cell 0; have f1 := hf.cell 1; have f2 := hf.cell 2; have f3 := hf.cell 3; have f4 := hf.cell 4; simp only [List.getElem?_toArray, List.getElem?_cons_zero, List.getElem?_cons_succ] at f0 f1 f2 f3 f4; have lg := hg.lt; have g0 := hg.cell 0; have g1 := hg.cell 1; have g2 := hg.cell 2; have g3 := hg.cell 3; have g4 := hg.cell 4; simp only [List.getElem?_toArray, List.getElem?_cons_zero, List.getElem?_cons_succ] at g0 g1 g2 g3 g4; have lt := ht.lt; have t0 := ht.cell 0; have t1 := ht.cell 1; simp only [List.getElem?_toArray, List.getElem?_cons_zero, List.getElem?_cons_succ] at t0 t1; have hh := hh.on b6; have lh := hh.lt; have h0 := hh.cell 0; have h1 := hh.cell 1; have h2 := hh.cell 2; have h3 := hh.cell 3; have h4 := hh.cell 4; simp only [List.getElem?_toArray, List.getElem?_cons_zero, List.getElem?_cons_succ] at h0 h1 h2 h3 h4; have hl := hl.on b6; have hb := below_then hb b6)
    | (go_at_call 22; (with_reducible refine (HSX.out _ _ _ hl (HN.out.on hb)).mono ?_); rintro e w7 ⟨rfl, b7⟩; have hb := below_then hb b7)
    | (go_at_call 8; (with_reducible refine (lives_ca _).mono ?_); rintro e w9 ⟨rfl, b9⟩; have hb := below_then hb b9))
  go_ret
  exact ⟨rfl, hb⟩

set_option maxRecDepth 100000 in
set_option maxHeartbeats 8000000 in
theorem high_de (x : Int) (A B : Option Addr) (c d : Nat) (N F : List Int) (w : World) (hx0 : 0 ≤ x) (hx1 : x ≤ 255) (hN : Lies .u8 w w.heap.size A 114 N) (hF : Lies .u8 w w.heap.size B 114 F) (hc : 114 ≤ c)
    (G G1 H : Fr) (E E2 : Int) (ta tb ua ub : Bool) (X : List Int) (r s : Bool) (h2 : readF N = G) (h3 : readE N = E) (h4 : readA N = ta) (h5 : readB N = tb) (hs : (N == F) = s)
    (k1 : hiB (knF N) (knF F) (x % 8) 114 = r) (k2 : hiF (knF N) (knF F) (x % 8) 114 = G1) (k3 : outL (knF N) (knF F) (x % 8) 114 = X) (k4 : readE X = E2) (k5 : readF X = H) (k6 : readA X = ua) (k7 : readB X = ub)
    (v0 : r = false) (vz : G1 = Fr.zero) (v1 : s = true) (v2 : (E == 0) = true) (v3 : (ta && !tb) = true) (v4 : (G.o == x % 8) = false) (v5 : (E2 == 0) = false) :
    Calls Try.prog 5 #[.int .u8 x, .slice A 114 c, .slice B 114 d] w fun e w' => e = .returned (.bool true) ∧ Below w.heap.size w w' := by
  have HR := Lib.hid (run_is (x % 8) A B 114 114 c d 114 N F w hN hF (by omega) (by omega) rfl (Nat.le_refl _) _ _ rfl rfl _ k1 _ k2 _ k3)
  have HRD := Lib.hid (fun u (hu : Lies .u8 u u.heap.size A 114 N) => frRead_any A 114 c N u hu hc)
  rw [h2, h3, h4, h5] at HRD
  have HRX := Lib.hid (fun u A' c' (hu : Lies .u8 u u.heap.size A' 114 X) hc' => frRead_any A' 114 c' X u hu hc')
  rw [k4, k5, k6, k7] at HRX
  have HSN := Lib.hid (fun u (h1 : Lies .u8 u u.heap.size A 114 N) (h2 : Lies .u8 u u.heap.size B 114 F) => same_below A B 114 114 c d N F u h1 h2 (by omega) (by omega))
  rw [hs] at HSN
  have HN := Lib.hid hN
  have HF := Lib.hid hF
  subst v1
  have HT1 := Lib.hid (fun u => tgood_any ta tb u)
  rw [v3] at HT1
  clear v3
  have HT2 := Lib.hid (fun u => tgood_any ua ub u)
  subst v0 vz
  simp only [Fr.zero] at HR
  have hq := fun W => fr_eql 0 0 0 0 0 0 0 0 0 0 W
  simp only [beq_self_eq_true, Bool.and_self] at hq
  clear hN hF hc h2 h3 h4 h5 hs k1 k2 k3 k4 k5 k6 k7
  go_enter Try.func5, Try.ntmps5
  go_wp2_with (first
    | (go_at_call 20; (with_reducible refine (HR.out).mono ?_); rintro e w1 ⟨A1, c1, rfl, hown, b1⟩; have hb := b1; have hf := Blk.new w1 42 #[.int .i64 0, .int .u8 0, .int .u8 0, .int .u32 0, .int .u32 0]; have hl := (lies_of_owns hown).al (.cells #[.int .i64 0, .int .u8 0, .int .u8 0, .int .u32 0, .int .u32 0] 42); have hcp := owns_cap hown; have hb := below_al hb (.cells #[.int .i64 0, .int .u8 0, .int .u8 0, .int .u32 0, .int .u32 0] 42))
    | (go_at_call 21; (with_reducible refine (HRD.out _ (HN.out.on hb)).mono ?_); rintro e w2 ⟨rfl, b2⟩; have hg := (Blk.new w2 42 #[.int .i64 G.o, .int .u8 G.k, .int .u8 G.s, .int .u32 G.q, .int .u32 G.v]).alloc (.cells #[.bool ta, .bool tb] 55); have ht := Blk.new (w2.alloc (.cells #[.int .i64 G.o, .int .u8 G.k, .int .u8 G.s, .int .u32 G.q, .int .u32 G.v] 42)) 55 #[.bool ta, .bool tb]; rw [alloc_size] at ht; have hf := ((hf.on b2).alloc (.cells #[.int .i64 G.o, .int .u8 G.k, .int .u8 G.s, .int .u32 G.q, .int .u32 G.v] 42)).alloc (.cells #[.bool ta, .bool tb] 55); have hl := ((hl.on b2).al (.cells #[.int .i64 G.o, .int .u8 G.k, .int .u8 G.s, .int .u32 G.q, .int .u32 G.v] 42)).al (.cells #[.bool ta, .bool tb] 55); have hb := below_al (below_al (below_then hb b2) (.cells #[.int .i64 G.o, .int .u8 G.k, .int .u8 G.s, .int .u32 G.q, .int .u32 G.v] 42)) (.cells #[.bool ta, .bool tb] 55); have HR1 := Lib.hid b2)
    | (go_at_call 22; (with_reducible refine (HSN.out _ (HN.out.on hb) (HF.out.on hb)).mono ?_); rintro e w3 ⟨rfl, b3⟩; have hf := hf.on b3; have hg := hg.on b3; have ht := ht.on b3; have lf := hf.lt; have f0 := hf.cell 0; have f1 := hf.cell 1; have f2 := hf.cell 2; have f3 := hf.cell 3; have f4 := hf.cell 4; simp only [List.getElem?_toArray, List.getElem?_cons_zero, List.getElem?_cons_succ] at f0 f1 f2 f3 f4; have lg := hg.lt; have g0 := hg.cell 0; have g1 := hg.cell 1; have g2 := hg.cell 2; have g3 := hg.cell 3; have g4 := hg.cell 4; simp only [List.getElem?_toArray, List.getElem?_cons_zero, List.getElem?_cons_succ] at g0 g1 g2 g3 g4; have lt := ht.lt; have t0 := ht.cell 0; have t1 := ht.cell 1; simp only [List.getElem?_toArray, List.getElem?_cons_zero, List.getElem?_cons_succ] at t0 t1; have hl := hl.on b3; have hb := below_then hb b3)
    | (go_at_call 23; (with_reducible refine (HT1.out _).mono ?_); rintro e w4 ⟨rfl, b4⟩; have hf := hf.on b4; have hg := hg.on b4; have ht := ht.on b4; have lf := hf.lt; have f0 := hf.cell 0; have f1 := hf.cell 1; have f2 := hf.cell 2; have f3 := hf.cell 3; have f4 := hf.cell 4; simp only [List.getElem?_toArray, List.getElem?_cons_zero, List.getElem?_cons_succ] at f0 f1 f2 f3 f4; have lg := hg.lt; have g0 := hg.cell 0; have g1 := hg.cell 1; have g2 := hg.cell 2; have g3 := hg.cell 3; have g4 := hg.cell 4; simp only [List.getElem?_toArray, List.getElem?_cons_zero, List.getElem?_cons_succ] at g0 g1 g2 g3 g4; have lt := ht.lt; have t0 := ht.cell 0; have t1 := ht.cell 1; simp only [List.getElem?_toArray, List.getElem?_cons_zero, List.getElem?_cons_succ] at t0 t1; have hl := hl.on b4; have hb := below_then hb b4)
    | (go_at_call 21; (with_reducible refine (HRX.out _ _ _ hl hcp).mono ?_); rintro e w5 ⟨rfl, b5⟩; have hh := (Blk.new w5 42 #[.int .i64 H.o, .int .u8 H.k, .int .u8 H.s, .int .u32 H.q, .int .u32 H.v]).alloc (.cells #[.bool ua, .bool ub] 55); have hf := ((hf.on b5).alloc (.cells #[.int .i64 H.o, .int .u8 H.k, .int .u8 H.s, .int .u32 H.q, .int .u32 H.v] 42)).alloc (.cells #[.bool ua, .bool ub] 55); have hg := ((hg.on b5).alloc (.cells #[.int .i64 H.o, .int .u8 H.k, .int .u8 H.s, .int .u32 H.q, .int .u32 H.v] 42)).alloc (.cells #[.bool ua, .bool ub] 55); have ht := ((ht.on b5).alloc (.cells #[.int .i64 H.o, .int .u8 H.k, .int .u8 H.s, .int .u32 H.q, .int .u32 H.v] 42)).alloc (.cells #[.bool ua, .bool ub] 55); have lf := hf.lt; have f0 := hf.cell 0; have f1 := hf.cell 1; have f2 := hf.cell 2; have f3 := hf.cell 3; have f4 := hf.cell 4; simp only [List.getElem?_toArray, List.getElem?_cons_zero, List.getElem?_cons_succ] at f0 f1 f2 f3 f4; have hl := ((hl.on b5).al (.cells #[.int .i64 H.o, .int .u8 H.k, .int .u8 H.s, .int .u32 H.q, .int .u32 H.v] 42)).al (.cells #[.bool ua, .bool ub] 55); have hb := below_al (below_al (below_then hb b5) (.cells #[.int .i64 H.o, .int .u8 H.k, .int .u8 H.s, .int .u32 H.q, .int .u32 H.v] 42)) (.cells #[.bool ua, .bool ub] 55))
    | (go_at_call 23; (with_reducible refine (HT2.out _).mono ?_); rintro e w6 ⟨rfl, b6⟩; have hf := hf.on b6; have hg := hg.on b6; have ht := ht.on b6; have lf := hf.lt; have f0 := hf.cell 0; have f1 := hf.cell 1; have f2 := hf.cell 2; have f3 := hf.cell 3; have f4 := hf.cell 4; simp only [List.getElem?_toArray, List.getElem?_cons_zero, List.getElem?_cons_succ] at f0 f1 f2 f3 f4; have lg := hg.lt; have g0 := hg.cell 0; have g1 := hg.cell 1; have g2 := hg.cell 2; have g3 := hg.cell 3; have g4 := hg.cell 4; simp only [List.getElem?_toArray, List.getElem?_cons_zero, List.getElem?_cons_succ] at g0 g1 g2 g3 g4; have lt := ht.lt; have t0 := ht.cell 0; have t1 := ht.cell 1; simp only [List.getElem?_toArray, List.getElem?_cons_zero, List.getElem?_cons_succ] at t0 t1; have hh := hh.on b6; have lh := hh.lt; have h0 := hh.cell 0; have h1 := hh.cell 1; have h2 := hh.cell 2; have h3 := hh.cell 3; have h4 := hh.cell 4; simp only [List.getElem?_toArray, List.getElem?_cons_zero, List.getElem?_cons_succ] at h0 h1 h2 h3 h4; have hl := hl.on b6; have hb := below_then hb b6)
    | (go_at_call 22; (with_reducible refine (HSX.out _ _ _ hl (HN.out.on hb)).mono ?_); rintro e w7 ⟨rfl, b7⟩; have hb := below_then hb b7)
    | (go_at_call 8; (with_reducible refine (lives_ca _).mono ?_); rintro e w9 ⟨rfl, b9⟩; have hb := below_then hb b9))
  go_ret
  exact ⟨rfl, hb⟩

set_option maxRecDepth 100000 in
set_option maxHeartbeats 8000000 in
theorem high_df (x : Int) (A B : Option Addr) (c d : Nat) (N F : List Int) (w : World) (hx0 : 0 ≤ x) (hx1 : x ≤ 255) (hN : Lies .u8 w w.heap.size A 114 N) (hF : Lies .u8 w w.heap.size B 114 F) (hc : 114 ≤ c)
    (G G1 H : Fr) (E E2 : Int) (ta tb ua ub : Bool) (X : List Int) (r s : Bool) (h2 : readF N = G) (h3 : readE N = E) (h4 : readA N = ta) (h5 : readB N = tb) (hs : (N == F) = s)
    (k1 : hiB (knF N) (knF F) (x % 8) 114 = r) (k2 : hiF (knF N) (knF F) (x % 8) 114 = G1) (k3 : outL (knF N) (knF F) (x % 8) 114 = X) (k4 : readE X = E2) (k5 : readF X = H) (k6 : readA X = ua) (k7 : readB X = ub)
    (v0 : r = false) (vz : G1 = Fr.zero) (v1 : s = true) (v2 : (E == 0) = true) (v3 : (ta && !tb) = true) (v4 : (G.o == x % 8) = false) (v5 : (E2 == 0) = true) (v6 : (ua && !ub) = false) :
    Calls Try.prog 5 #[.int .u8 x, .slice A 114 c, .slice B 114 d] w fun e w' => e = .returned (.bool true) ∧ Below w.heap.size w w' := by
  have HR := Lib.hid (run_is (x % 8) A B 114 114 c d 114 N F w hN hF (by omega) (by omega) rfl (Nat.le_refl _) _ _ rfl rfl _ k1 _ k2 _ k3)
  have HRD := Lib.hid (fun u (hu : Lies .u8 u u.heap.size A 114 N) => frRead_any A 114 c N u hu hc)
  rw [h2, h3, h4, h5] at HRD
  have HRX := Lib.hid (fun u A' c' (hu : Lies .u8 u u.heap.size A' 114 X) hc' => frRead_any A' 114 c' X u hu hc')
  rw [k4, k5, k6, k7] at HRX
  have HSN := Lib.hid (fun u (h1 : Lies .u8 u u.heap.size A 114 N) (h2 : Lies .u8 u u.heap.size B 114 F) => same_below A B 114 114 c d N F u h1 h2 (by omega) (by omega))
  rw [hs] at HSN
  have HN := Lib.hid hN
  have HF := Lib.hid hF
  subst v1
  have HT1 := Lib.hid (fun u => tgood_any ta tb u)
  rw [v3] at HT1
  clear v3
  have HT2 := Lib.hid (fun u => tgood_any ua ub u)
  rw [v6] at HT2
  clear v6
  subst v0 vz
  simp only [Fr.zero] at HR
  have hq := fun W => fr_eql 0 0 0 0 0 0 0 0 0 0 W
  simp only [beq_self_eq_true, Bool.and_self] at hq
  clear hN hF hc h2 h3 h4 h5 hs k1 k2 k3 k4 k5 k6 k7
  go_enter Try.func5, Try.ntmps5
  go_wp2_with (first
    | (go_at_call 20; (with_reducible refine (HR.out).mono ?_); rintro e w1 ⟨A1, c1, rfl, hown, b1⟩; have hb := b1; have hf := Blk.new w1 42 #[.int .i64 0, .int .u8 0, .int .u8 0, .int .u32 0, .int .u32 0]; have hl := (lies_of_owns hown).al (.cells #[.int .i64 0, .int .u8 0, .int .u8 0, .int .u32 0, .int .u32 0] 42); have hcp := owns_cap hown; have hb := below_al hb (.cells #[.int .i64 0, .int .u8 0, .int .u8 0, .int .u32 0, .int .u32 0] 42))
    | (go_at_call 21; (with_reducible refine (HRD.out _ (HN.out.on hb)).mono ?_); rintro e w2 ⟨rfl, b2⟩; have hg := (Blk.new w2 42 #[.int .i64 G.o, .int .u8 G.k, .int .u8 G.s, .int .u32 G.q, .int .u32 G.v]).alloc (.cells #[.bool ta, .bool tb] 55); have ht := Blk.new (w2.alloc (.cells #[.int .i64 G.o, .int .u8 G.k, .int .u8 G.s, .int .u32 G.q, .int .u32 G.v] 42)) 55 #[.bool ta, .bool tb]; rw [alloc_size] at ht; have hf := ((hf.on b2).alloc (.cells #[.int .i64 G.o, .int .u8 G.k, .int .u8 G.s, .int .u32 G.q, .int .u32 G.v] 42)).alloc (.cells #[.bool ta, .bool tb] 55); have hl := ((hl.on b2).al (.cells #[.int .i64 G.o, .int .u8 G.k, .int .u8 G.s, .int .u32 G.q, .int .u32 G.v] 42)).al (.cells #[.bool ta, .bool tb] 55); have hb := below_al (below_al (below_then hb b2) (.cells #[.int .i64 G.o, .int .u8 G.k, .int .u8 G.s, .int .u32 G.q, .int .u32 G.v] 42)) (.cells #[.bool ta, .bool tb] 55); have HR1 := Lib.hid b2)
    | (go_at_call 22; (with_reducible refine (HSN.out _ (HN.out.on hb) (HF.out.on hb)).mono ?_); rintro e w3 ⟨rfl, b3⟩; have hf := hf.on b3; have hg := hg.on b3; have ht := ht.on b3; have lf := hf.lt; have f0 := hf.cell 0; have f1 := hf.cell 1; have f2 := hf.cell 2; have f3 := hf.cell 3; have f4 := hf.cell 4; simp only [List.getElem?_toArray, List.getElem?_cons_zero, List.getElem?_cons_succ] at f0 f1 f2 f3 f4; have lg := hg.lt; have g0 := hg.cell 0; have g1 := hg.cell 1; have g2 := hg.cell 2; have g3 := hg.cell 3; have g4 := hg.cell 4; simp only [List.getElem?_toArray, List.getElem?_cons_zero, List.getElem?_cons_succ] at g0 g1 g2 g3 g4; have lt := ht.lt; have t0 := ht.cell 0; have t1 := ht.cell 1; simp only [List.getElem?_toArray, List.getElem?_cons_zero, List.getElem?_cons_succ] at t0 t1; have hl := hl.on b3; have hb := below_then hb b3)
    | (go_at_call 23; (with_reducible refine (HT1.out _).mono ?_); rintro e w4 ⟨rfl, b4⟩; have hf := hf.on b4; have hg := hg.on b4; have ht := ht.on b4; have lf := hf.lt; have f0 := hf.cell 0; have f1 := hf.cell 1; have f2 := hf.cell 2; have f3 := hf.cell 3; have f4 := hf.cell 4; simp only [List.getElem?_toArray, List.getElem?_cons_zero, List.getElem?_cons_succ] at f0 f1 f2 f3 f4; have lg := hg.lt; have g0 := hg.cell 0; have g1 := hg.cell 1; have g2 := hg.cell 2; have g3 := hg.cell 3; have g4 := hg.cell 4; simp only [List.getElem?_toArray, List.getElem?_cons_zero, List.getElem?_cons_succ] at g0 g1 g2 g3 g4; have lt := ht.lt; have t0 := ht.cell 0; have t1 := ht.cell 1; simp only [List.getElem?_toArray, List.getElem?_cons_zero, List.getElem?_cons_succ] at t0 t1; have hl := hl.on b4; have hb := below_then hb b4)
    | (go_at_call 21; (with_reducible refine (HRX.out _ _ _ hl hcp).mono ?_); rintro e w5 ⟨rfl, b5⟩; have hh := (Blk.new w5 42 #[.int .i64 H.o, .int .u8 H.k, .int .u8 H.s, .int .u32 H.q, .int .u32 H.v]).alloc (.cells #[.bool ua, .bool ub] 55); have hf := ((hf.on b5).alloc (.cells #[.int .i64 H.o, .int .u8 H.k, .int .u8 H.s, .int .u32 H.q, .int .u32 H.v] 42)).alloc (.cells #[.bool ua, .bool ub] 55); have hg := ((hg.on b5).alloc (.cells #[.int .i64 H.o, .int .u8 H.k, .int .u8 H.s, .int .u32 H.q, .int .u32 H.v] 42)).alloc (.cells #[.bool ua, .bool ub] 55); have ht := ((ht.on b5).alloc (.cells #[.int .i64 H.o, .int .u8 H.k, .int .u8 H.s, .int .u32 H.q, .int .u32 H.v] 42)).alloc (.cells #[.bool ua, .bool ub] 55); have lf := hf.lt; have f0 := hf.cell 0; have f1 := hf.cell 1; have f2 := hf.cell 2; have f3 := hf.cell 3; have f4 := hf.cell 4; simp only [List.getElem?_toArray, List.getElem?_cons_zero, List.getElem?_cons_succ] at f0 f1 f2 f3 f4; have hl := ((hl.on b5).al (.cells #[.int .i64 H.o, .int .u8 H.k, .int .u8 H.s, .int .u32 H.q, .int .u32 H.v] 42)).al (.cells #[.bool ua, .bool ub] 55); have hb := below_al (below_al (below_then hb b5) (.cells #[.int .i64 H.o, .int .u8 H.k, .int .u8 H.s, .int .u32 H.q, .int .u32 H.v] 42)) (.cells #[.bool ua, .bool ub] 55))
    | (go_at_call 23; (with_reducible refine (HT2.out _).mono ?_); rintro e w6 ⟨rfl, b6⟩; have hf := hf.on b6; have hg := hg.on b6; have ht := ht.on b6; have lf := hf.lt; have f0 := hf.cell 0; have f1 := hf.cell 1; have f2 := hf.cell 2; have f3 := hf.cell 3; have f4 := hf.cell 4; simp only [List.getElem?_toArray, List.getElem?_cons_zero, List.getElem?_cons_succ] at f0 f1 f2 f3 f4; have lg := hg.lt; have g0 := hg.cell 0; have g1 := hg.cell 1; have g2 := hg.cell 2; have g3 := hg.cell 3; have g4 := hg.cell 4; simp only [List.getElem?_toArray, List.getElem?_cons_zero, List.getElem?_cons_succ] at g0 g1 g2 g3 g4; have lt := ht.lt; have t0 := ht.cell 0; have t1 := ht.cell 1; simp only [List.getElem?_toArray, List.getElem?_cons_zero, List.getElem?_cons_succ] at t0 t1; have hh := hh.on b6; have lh := hh.lt; have h0 := hh.cell 0; have h1 := hh.cell 1; have h2 := hh.cell 2; have h3 := hh.cell 3; have h4 := hh.cell 4; simp only [List.getElem?_toArray, List.getElem?_cons_zero, List.getElem?_cons_succ] at h0 h1 h2 h3 h4; have hl := hl.on b6; have hb := below_then hb b6)
    | (go_at_call 22; (with_reducible refine (HSX.out _ _ _ hl (HN.out.on hb)).mono ?_); rintro e w7 ⟨rfl, b7⟩; have hb := below_then hb b7)
    | (go_at_call 8; (with_reducible refine (lives_ca _).mono ?_); rintro e w9 ⟨rfl, b9⟩; have hb := below_then hb b9))
  go_ret
  exact ⟨rfl, hb⟩

theorem high_far1 (x : Int) (A B : Option Addr) (n c m d : Nat) (w : World) (h : n ≠ 114) :
    Calls Try.prog 5 #[.int .u8 x, .slice A n c, .slice B m d] w fun e w' => e = .returned (.bool true) ∧ Below w.heap.size w w' := by
  have hne : ((n : Int) != 114) = true := bne_iff_ne.2 (by omega)
  clear h
  go_enter Try.func5, Try.ntmps5
  go_wp2_with (go_at_call 8; (with_reducible refine (lives_ca _).mono ?_); rintro e w9 ⟨rfl, b9⟩)
  go_ret
  exact ⟨rfl, b9⟩
theorem high_far2 (x : Int) (A B : Option Addr) (c m d : Nat) (w : World) (h : m ≠ 114) :
    Calls Try.prog 5 #[.int .u8 x, .slice A 114 c, .slice B m d] w fun e w' => e = .returned (.bool true) ∧ Below w.heap.size w w' := by
  have hne : ((m : Int) != 114) = true := bne_iff_ne.2 (by omega)
  clear h
  go_enter Try.func5, Try.ntmps5
  go_wp2_with (go_at_call 8; (with_reducible refine (lives_ca _).mono ?_); rintro e w9 ⟨rfl, b9⟩)
  go_ret
  exact ⟨rfl, b9⟩
theorem catchesHigh.catchesHigh_walk (x : Int) (A : Option Addr) (n c : Nat) (N : List Int) (B : Option Addr) (m d : Nat) (F : List Int) (w : World) (hx : (Lit.int .u8 x).wf = true) (hN : Lies .u8 w w.heap.size A n N) (hc : n ≤ c ∧ c ≤ maxLen) (_ : ∀ z ∈ N, (Lit.int .u8 z).wf = true) (hF : Lies .u8 w w.heap.size B m F) (_ : m ≤ d ∧ d ≤ maxLen) (_ : ∀ z ∈ F, (Lit.int .u8 z).wf = true) :
    Calls Try.prog 5 #[.int .u8 x, .slice A n c, .slice B m d] w fun e w' => e = .returned (.bool true) ∧ Below w.heap.size w w' := by
  obtain ⟨hx0, hx1⟩ := bounds_u8 hx
  by_cases h1 : n = 114
  · subst h1
    by_cases h2 : m = 114
    · subst h2
      have hh := high_iff (N := N) (F := F) (x % 8) hN.len hF.len
      have hf := high_frame (N := N) (F := F) (x % 8) hN.len hF.len
      cases hr : hiB (knF N) (knF F) (x % 8) 114 with
      | true =>
        have ho := high_out (N := N) (F := F) (x % 8) hN.len hF.len hr
        rw [hr] at hh hf
        rw [if_pos rfl] at hf
        have hh := hh.symm
        simp only [Bool.and_eq_true] at hh
        obtain ⟨⟨⟨q1, q2⟩, q3⟩, q4⟩ := hh
        exact high_yes x A B c d N F w hx0 hx1 hN hF hc.1 _ _ _ _ _ _ _ _ _ _ _ _ rfl rfl rfl rfl rfl hr hf ho rfl rfl rfl rfl rfl q1 q2 (by simpa using q3) q4 q2 (by simpa using q3) rfl rfl rfl
      | false =>
        rw [hr] at hh hf
        rw [if_neg (by decide)] at hf
        have hl := low_out (knF N) (knF F) (x % 8) hr
        obtain ⟨X, hX⟩ : ∃ X, outL (knF N) (knF F) (x % 8) 114 = X := ⟨_, rfl⟩
        rw [hX] at hl
        cases v1 : (N == F) with
        | false =>
          cases v5 : (readE X == 0) with
          | false => exact high_ae x A B c d N F w hx0 hx1 hN hF hc.1 _ _ _ _ _ _ _ _ _ _ _ _ rfl rfl rfl rfl v1 hr hf hX rfl rfl rfl rfl rfl rfl rfl v5
          | true =>
            rw [v5, Bool.true_and] at hl
            exact high_af x A B c d N F w hx0 hx1 hN hF hc.1 _ _ _ _ _ _ _ _ _ _ _ _ rfl rfl rfl rfl v1 hr hf hX rfl rfl rfl rfl rfl rfl rfl v5 hl
        | true =>
          rw [v1, Bool.true_and] at hh
          cases v2 : (readE N == 0) with
          | false =>
            cases v5 : (readE X == 0) with
            | false => exact high_be x A B c d N F w hx0 hx1 hN hF hc.1 _ _ _ _ _ _ _ _ _ _ _ _ rfl rfl rfl rfl v1 hr hf hX rfl rfl rfl rfl rfl rfl rfl v2 v5
            | true =>
              rw [v5, Bool.true_and] at hl
              exact high_bf x A B c d N F w hx0 hx1 hN hF hc.1 _ _ _ _ _ _ _ _ _ _ _ _ rfl rfl rfl rfl v1 hr hf hX rfl rfl rfl rfl rfl rfl rfl v2 v5 hl
          | true =>
            rw [v2, Bool.true_and] at hh
            cases v3 : (readA N && !readB N) with
            | false =>
              cases v5 : (readE X == 0) with
              | false => exact high_ce x A B c d N F w hx0 hx1 hN hF hc.1 _ _ _ _ _ _ _ _ _ _ _ _ rfl rfl rfl rfl v1 hr hf hX rfl rfl rfl rfl rfl rfl rfl v2 v3 v5
              | true =>
                rw [v5, Bool.true_and] at hl
                exact high_cf x A B c d N F w hx0 hx1 hN hF hc.1 _ _ _ _ _ _ _ _ _ _ _ _ rfl rfl rfl rfl v1 hr hf hX rfl rfl rfl rfl rfl rfl rfl v2 v3 v5 hl
            | true =>
              rw [v3, Bool.true_and] at hh
              have v4 := hh.symm
              cases v5 : (readE X == 0) with
              | false => exact high_de x A B c d N F w hx0 hx1 hN hF hc.1 _ _ _ _ _ _ _ _ _ _ _ _ rfl rfl rfl rfl v1 hr hf hX rfl rfl rfl rfl rfl rfl rfl v2 v3 v4 v5
              | true =>
                rw [v5, Bool.true_and] at hl
                exact high_df x A B c d N F w hx0 hx1 hN hF hc.1 _ _ _ _ _ _ _ _ _ _ _ _ rfl rfl rfl rfl v1 hr hf hX rfl rfl rfl rfl rfl rfl rfl v2 v3 v4 v5 hl
    · exact high_far2 x A B c m d w h2
  · exact high_far1 x A B n c m d w h1
end Go.Proofs.Ytpjcbfapkjipjaa

