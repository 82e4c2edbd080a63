/-
  The law WiresTrack, walked, for each direction and hop: what is handed on at once by each node that gets it is at a node as many ticks later as that is far: true; nothing that was there has turned. Condition: the table of directions is as the program's text lays it.
-/
import Derived.Test.YtgmoifbncijhdaaDoorWrApart
namespace Go.Proofs.YtgmoifbncijhdaaDoor
open Go.RowKit Rg
set_option linter.unusedVariables false

theorem upd_one (k : Nat) (x : Int) : upd noneW k (some x) = oneF k x := rfl
theorem link_nat {n : Nat} {d x h : Int} (hx : 4 ≤ (n : Int) ∧ (n : Int) ≤ 16 ∧ 0 ≤ d ∧ d < 2 ∧ 0 ≤ x ∧ x < n) (hh : h = 1 ∨ h = 2) : ∃ k : Nat, linkM n d x h = (k : Int) ∧ k < 4 * n ∧ hopN k = h := by
  refine ⟨(linkM n d x h).toNat, ?_⟩
  rw [link_of hx hh, hopN]
  omega
/-- Where the thing is not yet, or no more. -/
theorem XT_one {k : Nat} {x : Int} {p : Nat} (h : (p : Int) = hopN k) (hp : 1 ≤ p) : XT (oneF k x) p = noneW := by
  funext i
  simp only [XT, noneW, oneF]
  by_cases c : p = 1 ∧ hopN i = 2
  · rw [if_pos c, if_neg]
    intro e; subst e; omega
  · rw [if_neg c]
theorem HT_hit {k : Nat} {x : Int} {p : Nat} (h : (p : Int) = hopN k) : HT (oneF k x) p k = some x := by
  simp only [HT, oneF]; rw [if_pos h]; simp
theorem HT_not {k : Nat} {x : Int} {p : Nat} (h : (p : Int) ≠ hopN k) : HT (oneF k x) p k = none := by
  simp only [HT]; rw [if_neg h]
theorem now_first (F : Nat → Option Int) : nowW noneW F = HT F 1 := by
  have := now_T F 0
  rwa [XT_zero, GT_zero] at this
theorem next_first (F : Nat → Option Int) : nextW noneW F = XT F 1 := by
  have := next_T F 0
  rwa [XT_zero, GT_zero] at this
theorem now_later (F : Nat → Option Int) {p : Nat} (h : 0 < p) : nowW (XT F p) noneW = HT F (p + 1) := by
  have := now_T F p
  rwa [GT_pos F h] at this
theorem next_later (F : Nat → Option Int) {p : Nat} (h : 0 < p) : nextW (XT F p) noneW = XT F (p + 1) := by
  have := next_T F p
  rwa [GT_pos F h] at this
theorem here_step {n : Nat} {d x h : Int} {k : Nat} (H : Nat → Option Int) (hx : 4 ≤ (n : Int) ∧ (n : Int) ≤ 16 ∧ d < 2 ∧ 0 ≤ x ∧ x < n) (hh : h = 1 ∨ h = 2) (hk : linkM n d x h = (k : Int)) : hereW n H d (stepM n d x h) h = H k := by
  rw [hereW, toLink_step hx hh, hk, if_pos (by omega), Int.toNat_natCast]
set_option maxRecDepth 100000 in
set_option maxHeartbeats 4000000 in
theorem wiresTrack_01 (x x0 x1 : Int) (w : World) (hw : Ways w) (hx : (Lit.int .u8 x).wf = true) (hx0 : (Lit.int .u8 x0).wf = true) (hx1 : (Lit.int .u8 x1).wf = true) :
    Calls Tryd.prog 6 #[.int .u8 x, .agg #[.int .u8 x0, .int .u8 x1], .agg #[.bool false, .bool false]] w fun e w' => e = .returned (.bool true) ∧ Below w.heap.size w w' := by
  have hb := bounds_u8 hx
  have hb0 := bounds_u8 hx0
  have hb1 := bounds_u8 hx1
  obtain ⟨n, en⟩ : ∃ n : Nat, 4 + x % 13 = (n : Int) := ⟨(4 + x % 13).toNat, by omega⟩
  have HND := Lib.hid (fun W => show Calls Tryd.prog 21 #[.int .u8 x] W fun e w' => e = .returned (.int .i64 (n : Int)) ∧ W = w' from en ▸ nodes_any x W hb.1 hb.2)
  have hm1 : 4 ≤ n := by omega
  have hm2 : n ≤ 16 := by omega
  have hn0 : (n : Int) ≠ 0 := by omega
  have hn0' : ((n : Int) == 0) = false := beq_eq_false_iff_ne.2 hn0
  obtain ⟨s, hrs, hsn⟩ := rem_nat (N := n) hb0.1 (by omega)
  obtain ⟨q, eq⟩ : ∃ q : Nat, x1 % 20 = (q : Int) := ⟨(x1 % 20).toNat, by omega⟩
  have hq : q ≤ 19 := by omega
  have hrq : x1.tmod 20 = (q : Int) := by rw [Int.tmod_eq_emod_of_nonneg hb1.1, eq]
  have hws : IntKind.i64.wrap (s : Int) = (s : Int) := IntWalk.i64_in _ (by omega)
  have hwq : IntKind.i64.wrap (q : Int) = (q : Int) := IntWalk.i64_in _ (by omega)
  have hz0 : IntKind.i64.wrap x0 = x0 := IntWalk.i64_in _ (by omega)
  have hz1 : IntKind.i64.wrap x1 = x1 := IntWalk.i64_in _ (by omega)
  obtain ⟨Q, hQ⟩ : ∃ Q, Q = q * 1 := ⟨_, rfl⟩
  have hwQ : IntKind.i64.wrap ((q : Int) * 1) = (Q : Int) := by rw [IntWalk.i64_in _ (by omega)]; omega
  have hQ1 : Q = q := by omega
  subst hQ1
  obtain ⟨W2, hW2⟩ : ∃ W2, W2 = (w.alloc (.cells #[.int .u8 x0, .int .u8 x1] 60)).alloc (.cells #[.bool false, .bool false] 61) := ⟨_, rfl⟩
  have hB4 : Blk W2 w.heap.size 60 #[.int .u8 x0, .int .u8 x1] := by rw [hW2]; exact (Blk.new w _ _).alloc _
  have hB5 : Blk W2 (w.heap.size + 1) 61 #[.bool false, .bool false] := by
    rw [hW2]
    have := Blk.new (w.alloc (.cells #[.int .u8 x0, .int .u8 x1] 60)) 61 #[.bool false, .bool false]
    simpa only [alloc_size] using this
  have hbw : Below w.heap.size w W2 := by rw [hW2]; exact below_al (below_al (Below.refl _ _) _) _
  have HN0 := Lib.hid (hNew n hm1 hm2 W2 W2 (hw.on hbw) (Below.refl _ _))
  have k40 := hB4.cell 0
  have k41 := hB4.cell 1
  have k4l := hB4.lt
  have k50 := hB5.cell 0
  have k51 := hB5.cell 1
  have k5l := hB5.lt
  simp only [List.getElem?_toArray, List.getElem?_cons_zero, List.getElem?_cons_succ] at k40 k41 k50 k51
  have HBW := Lib.hid hbw
  have HM := Lib.hid (And.intro hm1 (And.intro hm2 (And.intro hsn (And.intro hq hQ))))
  obtain ⟨k0, ek0, kl0, kh0⟩ := link_nat (n := n) (d := 0) (x := (s : Int)) (h := 1) (by omega) (by omega)
  have HK0 := Lib.hid (fun W => link_is n 0 (s : Int) 1 (k0 : Int) ek0 W (by omega) (by omega))
  have HG0 := Lib.hid (show updW n noneW (k0 : Int) (some 9) = oneF k0 9 by rw [upd_in _ _ kl0, upd_one])
  have HR0 := Lib.hid (err_in kl0)
  have BK0 := Lib.hid (show -9223372036854775808 ≤ (k0 : Int) ∧ (k0 : Int) ≤ 9223372036854775807 by omega)
  have HS0 := Lib.hid (And.intro ek0 (And.intro kl0 kh0))
  have T0 := Lib.hid (show (0 : Int) ≤ 0 ∧ (0 : Int) < 4611686018427387904 by decide)
  clear hw hb hb0 hb1 en hm1 hm2 hx hx0 hx1 hB4 hB5 hbw eq hq hsn hQ ek0 kl0 kh0
  go_enter Tryd.func6, Tryd.ntmps6
  go_upto_region 1 with fail
  rw [← hW2]
  clear hW2
  go_wp2_with (first
    | (go_at_call 21; (with_reducible refine (HND.out _).mono ?_); rintro e w' ⟨rfl, rfl⟩)
    | (go_at_call 9; (with_reducible refine HN0.out.mono ?_); rintro e u0 ⟨L, rfl, hn, -, h0, -⟩; have H0 := Lib.hid h0; have HL := Lib.hid hn; clear hn h0)
    | (go_at_call 24; (with_reducible refine (HK0.out _).mono ?_); rintro e u1 ⟨rfl, b1⟩; have H1 := Lib.hid (H0.out.on b1); clear b1)
    | (go_at_call 11; (with_reducible refine (hGive H1.out HL.out (k0 : Int) BK0.out 9 0 HR0.out (oneF k0 9) HG0.out).mono ?_); rintro e u2 ⟨rfl, hh, -⟩; have H2 := Lib.hid hh; clear hh)
    | (go_at_call 14; (with_reducible refine (hEnd H2.out T0.out 1 rfl (HT (oneF k0 9) 1) (XT (oneF k0 9) 1) (now_first _) (next_first _)).mono ?_); rintro e u3 ⟨rfl, hh, -⟩; have H3 := Lib.hid hh; clear hh))
  clear H0 H1 H2 k40 k41 k50 k51 k4l k5l
  go_loopw [8, 15] (fun s8 s15 wr => ∃ k p T l : Nat, T = k * 1 + p ∧ 1 ≤ p ∧ p ≤ 1 ∧ T ≤ Q + 1 ∧ s8 = .int .i64 (stepM n 0 s ((k * 1 : Nat) : Int)) ∧ s15 = .int .i64 (T : Int) ∧ Hid (linkM n 0 (stepM n 0 s ((k * 1 : Nat) : Int)) 1 = (l : Int) ∧ l < 4 * n ∧ hopN l = 1) ∧ Hid (Hold W2 L wr (T : Int) (HT (oneF l 9) p) (XT (oneF l 9) p) noneW)) (fun _ s15 _ => Q + 2 - (intOf s15).toNat)
  case atStart =>
    have hx4 : 4 ≤ (n : Int) ∧ (n : Int) ≤ 16 ∧ (0 : Int) < 2 ∧ 0 ≤ (s : Int) ∧ (s : Int) < n := by have := HM.out; omega
    have e0 : stepM n 0 s ((0 * 1 : Nat) : Int) = s := step_zero hx4
    exact ⟨0, 1, 1, k0, by omega, by omega, by omega, by omega, by rw [e0], rfl, Lib.hid (by rw [e0]; exact HS0.out), H3⟩
  case round =>
    obtain ⟨k, p, T, l, eT, hp1, hp2, hTQ, rfl, rfl, HKL, HI⟩ := hrel
    clear H3
    have hx4 : 4 ≤ (n : Int) ∧ (n : Int) ≤ 16 ∧ (0 : Int) < 2 ∧ 0 ≤ (s : Int) ∧ (s : Int) < n := by have := HM.out; omega
    have hA := step_in ((k * 1 : Nat) : Int) hx4
    have hAB : stepM n 0 (stepM n 0 s ((k * 1 : Nat) : Int)) 1 = stepM n 0 s (((k + 1) * 1 : Nat) : Int) := by rw [step_add _ _ hx4]; congr 1 <;> omega
    by_cases hlt : T ≤ Q
    · have hdl : decide ((T : Int) ≤ (Q : Int)) = true := decide_eq_true (by omega)
      have hdn : decide (T ≤ Q) = true := decide_eq_true hlt
      have hwT : IntKind.i64.wrap ((T : Int) + 1) = ((T + 1 : Nat) : Int) := by have := HM.out; rw [IntWalk.i64_in _ (by omega)]; omega
      have hB := step_in (((k + 1) * 1 : Nat) : Int) hx4
      have HHo := here_step (HT (oneF l 9) p) (x := stepM n 0 s ((k * 1 : Nat) : Int)) (h := 1) (by omega) (by omega) HKL.out.1
      rw [hAB] at HHo
      have HSt := Lib.hid (fun (v : World) (hv : Ways v) => step_is n 0 (stepM n 0 s ((k * 1 : Nat) : Int)) 1 (stepM n 0 s (((k + 1) * 1 : Nat) : Int)) hAB v hv (by omega) (by omega))
      obtain ⟨l2, el2, ll2, lh2⟩ := link_nat (n := n) (d := 0) (x := stepM n 0 s (((k + 1) * 1 : Nat) : Int)) (h := 1) (by omega) (by omega)
      have HKL2 := Lib.hid (And.intro el2 (And.intro ll2 lh2))
      have HK := Lib.hid (fun W => link_is n 0 (stepM n 0 s (((k + 1) * 1 : Nat) : Int)) 1 (l2 : Int) el2 W (by omega) (by omega))
      obtain ⟨A, eA⟩ : ∃ A, A = stepM n 0 s ((k * 1 : Nat) : Int) := ⟨_, rfl⟩
      obtain ⟨B, eB⟩ : ∃ B, B = stepM n 0 s (((k + 1) * 1 : Nat) : Int) := ⟨_, rfl⟩
      have HEB := Lib.hid eB
      have HEA := Lib.hid eA
      rw [← eA, ← eB] at HSt
      rw [← eB] at HHo HK
      rw [← eA]
      have HTT := Lib.hid (show 0 ≤ (T : Int) ∧ (T : Int) < 4611686018427387904 by have := HM.out; omega)
      have HET := Lib.hid eT
      clear hA hB hAB eA eB el2 ll2 lh2 hx4
      have HO := Lib.hid (HHo.trans (HT_hit (by rw [HKL.out.2.2]; omega)))
      have HX := Lib.hid (show XT (oneF l 9) p = noneW from XT_one (by rw [HKL.out.2.2]; omega) hp1)
      have HH := Lib.hid (fun (v : World) (h : Hold W2 L v (T : Int) (HT (oneF l 9) p) (XT (oneF l 9) p) noneW) => hHere h HL.out 0 B 1 (by omega) (by omega) (some 9) HO.out)
      simp only [Option.getD_some, Option.isSome_some] at HH
      have hrem : (T : Int).tmod 1 = 0 := by have := Int.tmod_eq_emod_of_nonneg (a := (T : Int)) (b := 1) (by omega); omega
      have HG := Lib.hid (show updW n noneW (l2 : Int) (some 9) = oneF l2 9 by rw [upd_in _ _ HKL2.out.2.1, upd_one])
      have HR := Lib.hid (err_in HKL2.out.2.1)
      have BK := Lib.hid (show -9223372036854775808 ≤ (l2 : Int) ∧ (l2 : Int) ≤ 9223372036854775807 by have := HKL2.out.2.1; have := HM.out; omega)
      have HEe := Lib.hid (fun (v : World) (h : Hold W2 L v (T : Int) (HT (oneF l 9) p) (XT (oneF l 9) p) (oneF l2 9)) => hEnd h HTT.out ((T + 1 : Nat) : Int) (by omega) (HT (oneF l2 9) 1) (XT (oneF l2 9) 1) (by rw [HX.out]; exact now_first _) (by rw [HX.out]; exact next_first _))
      clear HHo eT
      go_wp2_with (first
        | (go_at_call 25; (with_reducible refine (HSt.out _ HI.out.way).mono ?_); rintro e v1 ⟨rfl, b1⟩; have V1 := Lib.hid (HI.out.on b1); clear b1)
        | (go_at_call 16; (with_reducible refine (HH.out _ V1.out).mono ?_); rintro e v2 ⟨rfl, hh, -⟩; have V2 := Lib.hid hh; clear hh)
        | (go_at_call 24; (with_reducible refine (HK.out _).mono ?_); rintro e v3 ⟨rfl, b1⟩; have V3 := Lib.hid (V2.out.on b1); clear b1)
        | (go_at_call 11; (with_reducible refine (hGive V3.out HL.out (l2 : Int) BK.out 9 0 HR.out (oneF l2 9) HG.out).mono ?_); rintro e v4 ⟨rfl, hh, -⟩; have V4 := Lib.hid hh; clear hh)
        | (go_at_call 14; (with_reducible refine (HEe.out _ V4.out).mono ?_); rintro e v5 ⟨rfl, hh, -⟩; have V5 := Lib.hid hh; clear hh))
      go_roundw
      case rel => exact ⟨k + 1, 1, T + 1, l2, by have := HET.out; omega, by omega, by omega, by omega, by rw [← HEB.out], rfl, HKL2, V5⟩
      case measure => simp [intOf]; omega
    · have hdl : decide ((T : Int) ≤ (Q : Int)) = false := decide_eq_false (by omega)
      have hdn : decide (T ≤ Q) = false := decide_eq_false hlt
      have hlt' : Q < T := by omega
      have ekQ : k * 1 = Q := by have := HM.out; omega
      have HSt := Lib.hid (fun (v : World) (hv : Ways v) => step_is n 0 (s : Int) (Q : Int) (stepM n 0 s ((k * 1 : Nat) : Int)) (by rw [ekQ]) v hv (by omega) (by omega))
      obtain ⟨A, eA⟩ : ∃ A, A = stepM n 0 s ((k * 1 : Nat) : Int) := ⟨_, rfl⟩
      rw [← eA] at HSt ⊢
      clear hA hAB eA ekQ hx4
      go_wp2_with (first
        | (go_at_call 25; (with_reducible refine (HSt.out _ HI.out.way).mono ?_); rintro e v1 ⟨rfl, b1⟩; have V1 := Lib.hid (HI.out.on b1); clear b1)
        | (go_at_call 8; (with_reducible refine (lives_wr _ V1.out.way).mono ?_); rintro e v2 ⟨rfl, b2⟩))
      go_ret
      exact ⟨rfl, below_then HBW.out (V1.out.on b2).low⟩
set_option maxRecDepth 100000 in
set_option maxHeartbeats 4000000 in
theorem wiresTrack_02 (x x0 x1 : Int) (w : World) (hw : Ways w) (hx : (Lit.int .u8 x).wf = true) (hx0 : (Lit.int .u8 x0).wf = true) (hx1 : (Lit.int .u8 x1).wf = true) :
    Calls Tryd.prog 6 #[.int .u8 x, .agg #[.int .u8 x0, .int .u8 x1], .agg #[.bool false, .bool true]] w fun e w' => e = .returned (.bool true) ∧ Below w.heap.size w w' := by
  have hb := bounds_u8 hx
  have hb0 := bounds_u8 hx0
  have hb1 := bounds_u8 hx1
  obtain ⟨n, en⟩ : ∃ n : Nat, 4 + x % 13 = (n : Int) := ⟨(4 + x % 13).toNat, by omega⟩
  have HND := Lib.hid (fun W => show Calls Tryd.prog 21 #[.int .u8 x] W fun e w' => e = .returned (.int .i64 (n : Int)) ∧ W = w' from en ▸ nodes_any x W hb.1 hb.2)
  have hm1 : 4 ≤ n := by omega
  have hm2 : n ≤ 16 := by omega
  have hn0 : (n : Int) ≠ 0 := by omega
  have hn0' : ((n : Int) == 0) = false := beq_eq_false_iff_ne.2 hn0
  obtain ⟨s, hrs, hsn⟩ := rem_nat (N := n) hb0.1 (by omega)
  obtain ⟨q, eq⟩ : ∃ q : Nat, x1 % 20 = (q : Int) := ⟨(x1 % 20).toNat, by omega⟩
  have hq : q ≤ 19 := by omega
  have hrq : x1.tmod 20 = (q : Int) := by rw [Int.tmod_eq_emod_of_nonneg hb1.1, eq]
  have hws : IntKind.i64.wrap (s : Int) = (s : Int) := IntWalk.i64_in _ (by omega)
  have hwq : IntKind.i64.wrap (q : Int) = (q : Int) := IntWalk.i64_in _ (by omega)
  have hz0 : IntKind.i64.wrap x0 = x0 := IntWalk.i64_in _ (by omega)
  have hz1 : IntKind.i64.wrap x1 = x1 := IntWalk.i64_in _ (by omega)
  obtain ⟨Q, hQ⟩ : ∃ Q, Q = q * 2 := ⟨_, rfl⟩
  have hwQ : IntKind.i64.wrap ((q : Int) * 2) = (Q : Int) := by rw [IntWalk.i64_in _ (by omega)]; omega
  obtain ⟨W2, hW2⟩ : ∃ W2, W2 = (w.alloc (.cells #[.int .u8 x0, .int .u8 x1] 60)).alloc (.cells #[.bool false, .bool true] 61) := ⟨_, rfl⟩
  have hB4 : Blk W2 w.heap.size 60 #[.int .u8 x0, .int .u8 x1] := by rw [hW2]; exact (Blk.new w _ _).alloc _
  have hB5 : Blk W2 (w.heap.size + 1) 61 #[.bool false, .bool true] := by
    rw [hW2]
    have := Blk.new (w.alloc (.cells #[.int .u8 x0, .int .u8 x1] 60)) 61 #[.bool false, .bool true]
    simpa only [alloc_size] using this
  have hbw : Below w.heap.size w W2 := by rw [hW2]; exact below_al (below_al (Below.refl _ _) _) _
  have HN0 := Lib.hid (hNew n hm1 hm2 W2 W2 (hw.on hbw) (Below.refl _ _))
  have k40 := hB4.cell 0
  have k41 := hB4.cell 1
  have k4l := hB4.lt
  have k50 := hB5.cell 0
  have k51 := hB5.cell 1
  have k5l := hB5.lt
  simp only [List.getElem?_toArray, List.getElem?_cons_zero, List.getElem?_cons_succ] at k40 k41 k50 k51
  have HBW := Lib.hid hbw
  have HM := Lib.hid (And.intro hm1 (And.intro hm2 (And.intro hsn (And.intro hq hQ))))
  obtain ⟨k0, ek0, kl0, kh0⟩ := link_nat (n := n) (d := 0) (x := (s : Int)) (h := 2) (by omega) (by omega)
  have HK0 := Lib.hid (fun W => link_is n 0 (s : Int) 2 (k0 : Int) ek0 W (by omega) (by omega))
  have HG0 := Lib.hid (show updW n noneW (k0 : Int) (some 9) = oneF k0 9 by rw [upd_in _ _ kl0, upd_one])
  have HR0 := Lib.hid (err_in kl0)
  have BK0 := Lib.hid (show -9223372036854775808 ≤ (k0 : Int) ∧ (k0 : Int) ≤ 9223372036854775807 by omega)
  have HS0 := Lib.hid (And.intro ek0 (And.intro kl0 kh0))
  have T0 := Lib.hid (show (0 : Int) ≤ 0 ∧ (0 : Int) < 4611686018427387904 by decide)
  clear hw hb hb0 hb1 en hm1 hm2 hx hx0 hx1 hB4 hB5 hbw eq hq hsn hQ ek0 kl0 kh0
  go_enter Tryd.func6, Tryd.ntmps6
  go_upto_region 1 with fail
  rw [← hW2]
  clear hW2
  go_wp2_with (first
    | (go_at_call 21; (with_reducible refine (HND.out _).mono ?_); rintro e w' ⟨rfl, rfl⟩)
    | (go_at_call 9; (with_reducible refine HN0.out.mono ?_); rintro e u0 ⟨L, rfl, hn, -, h0, -⟩; have H0 := Lib.hid h0; have HL := Lib.hid hn; clear hn h0)
    | (go_at_call 24; (with_reducible refine (HK0.out _).mono ?_); rintro e u1 ⟨rfl, b1⟩; have H1 := Lib.hid (H0.out.on b1); clear b1)
    | (go_at_call 11; (with_reducible refine (hGive H1.out HL.out (k0 : Int) BK0.out 9 0 HR0.out (oneF k0 9) HG0.out).mono ?_); rintro e u2 ⟨rfl, hh, -⟩; have H2 := Lib.hid hh; clear hh)
    | (go_at_call 14; (with_reducible refine (hEnd H2.out T0.out 1 rfl (HT (oneF k0 9) 1) (XT (oneF k0 9) 1) (now_first _) (next_first _)).mono ?_); rintro e u3 ⟨rfl, hh, -⟩; have H3 := Lib.hid hh; clear hh))
  clear H0 H1 H2 k40 k41 k50 k51 k4l k5l
  go_loopw [8, 15] (fun s8 s15 wr => ∃ k p T l : Nat, T = k * 2 + p ∧ 1 ≤ p ∧ p ≤ 2 ∧ T ≤ Q + 1 ∧ s8 = .int .i64 (stepM n 0 s ((k * 2 : Nat) : Int)) ∧ s15 = .int .i64 (T : Int) ∧ Hid (linkM n 0 (stepM n 0 s ((k * 2 : Nat) : Int)) 2 = (l : Int) ∧ l < 4 * n ∧ hopN l = 2) ∧ Hid (Hold W2 L wr (T : Int) (HT (oneF l 9) p) (XT (oneF l 9) p) noneW)) (fun _ s15 _ => Q + 2 - (intOf s15).toNat)
  case atStart =>
    have hx4 : 4 ≤ (n : Int) ∧ (n : Int) ≤ 16 ∧ (0 : Int) < 2 ∧ 0 ≤ (s : Int) ∧ (s : Int) < n := by have := HM.out; omega
    have e0 : stepM n 0 s ((0 * 2 : Nat) : Int) = s := step_zero hx4
    exact ⟨0, 1, 1, k0, by omega, by omega, by omega, by omega, by rw [e0], rfl, Lib.hid (by rw [e0]; exact HS0.out), H3⟩
  case round =>
    obtain ⟨k, p, T, l, eT, hp1, hp2, hTQ, rfl, rfl, HKL, HI⟩ := hrel
    clear H3
    have hx4 : 4 ≤ (n : Int) ∧ (n : Int) ≤ 16 ∧ (0 : Int) < 2 ∧ 0 ≤ (s : Int) ∧ (s : Int) < n := by have := HM.out; omega
    have hA := step_in ((k * 2 : Nat) : Int) hx4
    have hAB : stepM n 0 (stepM n 0 s ((k * 2 : Nat) : Int)) 2 = stepM n 0 s (((k + 1) * 2 : Nat) : Int) := by rw [step_add _ _ hx4]; congr 1 <;> omega
    by_cases hlt : T ≤ Q
    · have hdl : decide ((T : Int) ≤ (Q : Int)) = true := decide_eq_true (by omega)
      have hdn : decide (T ≤ Q) = true := decide_eq_true hlt
      have hwT : IntKind.i64.wrap ((T : Int) + 1) = ((T + 1 : Nat) : Int) := by have := HM.out; rw [IntWalk.i64_in _ (by omega)]; omega
      have hB := step_in (((k + 1) * 2 : Nat) : Int) hx4
      have HHo := here_step (HT (oneF l 9) p) (x := stepM n 0 s ((k * 2 : Nat) : Int)) (h := 2) (by omega) (by omega) HKL.out.1
      rw [hAB] at HHo
      have HSt := Lib.hid (fun (v : World) (hv : Ways v) => step_is n 0 (stepM n 0 s ((k * 2 : Nat) : Int)) 2 (stepM n 0 s (((k + 1) * 2 : Nat) : Int)) hAB v hv (by omega) (by omega))
      obtain ⟨l2, el2, ll2, lh2⟩ := link_nat (n := n) (d := 0) (x := stepM n 0 s (((k + 1) * 2 : Nat) : Int)) (h := 2) (by omega) (by omega)
      have HKL2 := Lib.hid (And.intro el2 (And.intro ll2 lh2))
      have HK := Lib.hid (fun W => link_is n 0 (stepM n 0 s (((k + 1) * 2 : Nat) : Int)) 2 (l2 : Int) el2 W (by omega) (by omega))
      obtain ⟨A, eA⟩ : ∃ A, A = stepM n 0 s ((k * 2 : Nat) : Int) := ⟨_, rfl⟩
      obtain ⟨B, eB⟩ : ∃ B, B = stepM n 0 s (((k + 1) * 2 : Nat) : Int) := ⟨_, rfl⟩
      have HEB := Lib.hid eB
      have HEA := Lib.hid eA
      rw [← eA, ← eB] at HSt
      rw [← eB] at HHo HK
      rw [← eA]
      have HTT := Lib.hid (show 0 ≤ (T : Int) ∧ (T : Int) < 4611686018427387904 by have := HM.out; omega)
      have HET := Lib.hid eT
      clear hA hB hAB eA eB el2 ll2 lh2 hx4
      by_cases hph : p = 2
      · have HO := Lib.hid (HHo.trans (HT_hit (by rw [HKL.out.2.2]; omega)))
        have HX := Lib.hid (show XT (oneF l 9) p = noneW from XT_one (by rw [HKL.out.2.2]; omega) hp1)
        have HH := Lib.hid (fun (v : World) (h : Hold W2 L v (T : Int) (HT (oneF l 9) p) (XT (oneF l 9) p) noneW) => hHere h HL.out 0 B 2 (by omega) (by omega) (some 9) HO.out)
        simp only [Option.getD_some, Option.isSome_some] at HH
        have hrem : (T : Int).tmod 2 = 0 := by have := Int.tmod_eq_emod_of_nonneg (a := (T : Int)) (b := 2) (by omega); omega
        have HG := Lib.hid (show updW n noneW (l2 : Int) (some 9) = oneF l2 9 by rw [upd_in _ _ HKL2.out.2.1, upd_one])
        have HR := Lib.hid (err_in HKL2.out.2.1)
        have BK := Lib.hid (show -9223372036854775808 ≤ (l2 : Int) ∧ (l2 : Int) ≤ 9223372036854775807 by have := HKL2.out.2.1; have := HM.out; omega)
        have HEe := Lib.hid (fun (v : World) (h : Hold W2 L v (T : Int) (HT (oneF l 9) p) (XT (oneF l 9) p) (oneF l2 9)) => hEnd h HTT.out ((T + 1 : Nat) : Int) (by omega) (HT (oneF l2 9) 1) (XT (oneF l2 9) 1) (by rw [HX.out]; exact now_first _) (by rw [HX.out]; exact next_first _))
        clear HHo eT
        go_wp2_with (first
          | (go_at_call 25; (with_reducible refine (HSt.out _ HI.out.way).mono ?_); rintro e v1 ⟨rfl, b1⟩; have V1 := Lib.hid (HI.out.on b1); clear b1)
          | (go_at_call 16; (with_reducible refine (HH.out _ V1.out).mono ?_); rintro e v2 ⟨rfl, hh, -⟩; have V2 := Lib.hid hh; clear hh)
          | (go_at_call 24; (with_reducible refine (HK.out _).mono ?_); rintro e v3 ⟨rfl, b1⟩; have V3 := Lib.hid (V2.out.on b1); clear b1)
          | (go_at_call 11; (with_reducible refine (hGive V3.out HL.out (l2 : Int) BK.out 9 0 HR.out (oneF l2 9) HG.out).mono ?_); rintro e v4 ⟨rfl, hh, -⟩; have V4 := Lib.hid hh; clear hh)
          | (go_at_call 14; (with_reducible refine (HEe.out _ V4.out).mono ?_); rintro e v5 ⟨rfl, hh, -⟩; have V5 := Lib.hid hh; clear hh))
        go_roundw
        case rel => exact ⟨k + 1, 1, T + 1, l2, by have := HET.out; omega, by omega, by omega, by omega, by rw [← HEB.out], rfl, HKL2, V5⟩
        case measure => simp [intOf]; omega
      · have HO := Lib.hid (HHo.trans (HT_not (by rw [HKL.out.2.2]; omega)))
        have HH := Lib.hid (fun (v : World) (h : Hold W2 L v (T : Int) (HT (oneF l 9) p) (XT (oneF l 9) p) noneW) => hHere h HL.out 0 B 2 (by omega) (by omega) none HO.out)
        simp only [Option.getD_none, Option.isSome_none] at HH
        have hrem : (T : Int).tmod 2 = 1 := by have := Int.tmod_eq_emod_of_nonneg (a := (T : Int)) (b := 2) (by omega); omega
        have HEe := Lib.hid (fun (v : World) (h : Hold W2 L v (T : Int) (HT (oneF l 9) p) (XT (oneF l 9) p) noneW) => hEnd h HTT.out ((T + 1 : Nat) : Int) (by omega) (HT (oneF l 9) (p + 1)) (XT (oneF l 9) (p + 1)) (now_later _ hp1) (next_later _ hp1))
        clear HHo eT
        go_wp2_with (first
          | (go_at_call 25; (with_reducible refine (HSt.out _ HI.out.way).mono ?_); rintro e v1 ⟨rfl, b1⟩; have V1 := Lib.hid (HI.out.on b1); clear b1)
          | (go_at_call 16; (with_reducible refine (HH.out _ V1.out).mono ?_); rintro e v2 ⟨rfl, hh, -⟩; have V2 := Lib.hid hh; clear hh)
          | (go_at_call 14; (with_reducible refine (HEe.out _ V2.out).mono ?_); rintro e v5 ⟨rfl, hh, -⟩; have V5 := Lib.hid hh; clear hh))
        go_roundw
        case rel => exact ⟨k, p + 1, T + 1, l, by have := HET.out; omega, by omega, by omega, by omega, by rw [← HEA.out], rfl, HKL, V5⟩
        case measure => simp [intOf]; omega
    · have hdl : decide ((T : Int) ≤ (Q : Int)) = false := decide_eq_false (by omega)
      have hdn : decide (T ≤ Q) = false := decide_eq_false hlt
      have hlt' : Q < T := by omega
      have ekQ : k * 2 = Q := by have := HM.out; omega
      have HSt := Lib.hid (fun (v : World) (hv : Ways v) => step_is n 0 (s : Int) (Q : Int) (stepM n 0 s ((k * 2 : Nat) : Int)) (by rw [ekQ]) v hv (by omega) (by omega))
      obtain ⟨A, eA⟩ : ∃ A, A = stepM n 0 s ((k * 2 : Nat) : Int) := ⟨_, rfl⟩
      rw [← eA] at HSt ⊢
      clear hA hAB eA ekQ hx4
      go_wp2_with (first
        | (go_at_call 25; (with_reducible refine (HSt.out _ HI.out.way).mono ?_); rintro e v1 ⟨rfl, b1⟩; have V1 := Lib.hid (HI.out.on b1); clear b1)
        | (go_at_call 8; (with_reducible refine (lives_wr _ V1.out.way).mono ?_); rintro e v2 ⟨rfl, b2⟩))
      go_ret
      exact ⟨rfl, below_then HBW.out (V1.out.on b2).low⟩
set_option maxRecDepth 100000 in
set_option maxHeartbeats 4000000 in
theorem wiresTrack_11 (x x0 x1 : Int) (w : World) (hw : Ways w) (hx : (Lit.int .u8 x).wf = true) (hx0 : (Lit.int .u8 x0).wf = true) (hx1 : (Lit.int .u8 x1).wf = true) :
    Calls Tryd.prog 6 #[.int .u8 x, .agg #[.int .u8 x0, .int .u8 x1], .agg #[.bool true, .bool false]] w fun e w' => e = .returned (.bool true) ∧ Below w.heap.size w w' := by
  have hb := bounds_u8 hx
  have hb0 := bounds_u8 hx0
  have hb1 := bounds_u8 hx1
  obtain ⟨n, en⟩ : ∃ n : Nat, 4 + x % 13 = (n : Int) := ⟨(4 + x % 13).toNat, by omega⟩
  have HND := Lib.hid (fun W => show Calls Tryd.prog 21 #[.int .u8 x] W fun e w' => e = .returned (.int .i64 (n : Int)) ∧ W = w' from en ▸ nodes_any x W hb.1 hb.2)
  have hm1 : 4 ≤ n := by omega
  have hm2 : n ≤ 16 := by omega
  have hn0 : (n : Int) ≠ 0 := by omega
  have hn0' : ((n : Int) == 0) = false := beq_eq_false_iff_ne.2 hn0
  obtain ⟨s, hrs, hsn⟩ := rem_nat (N := n) hb0.1 (by omega)
  obtain ⟨q, eq⟩ : ∃ q : Nat, x1 % 20 = (q : Int) := ⟨(x1 % 20).toNat, by omega⟩
  have hq : q ≤ 19 := by omega
  have hrq : x1.tmod 20 = (q : Int) := by rw [Int.tmod_eq_emod_of_nonneg hb1.1, eq]
  have hws : IntKind.i64.wrap (s : Int) = (s : Int) := IntWalk.i64_in _ (by omega)
  have hwq : IntKind.i64.wrap (q : Int) = (q : Int) := IntWalk.i64_in _ (by omega)
  have hz0 : IntKind.i64.wrap x0 = x0 := IntWalk.i64_in _ (by omega)
  have hz1 : IntKind.i64.wrap x1 = x1 := IntWalk.i64_in _ (by omega)
  obtain ⟨Q, hQ⟩ : ∃ Q, Q = q * 1 := ⟨_, rfl⟩
  have hwQ : IntKind.i64.wrap ((q : Int) * 1) = (Q : Int) := by rw [IntWalk.i64_in _ (by omega)]; omega
  have hQ1 : Q = q := by omega
  subst hQ1
  obtain ⟨W2, hW2⟩ : ∃ W2, W2 = (w.alloc (.cells #[.int .u8 x0, .int .u8 x1] 60)).alloc (.cells #[.bool true, .bool false] 61) := ⟨_, rfl⟩
  have hB4 : Blk W2 w.heap.size 60 #[.int .u8 x0, .int .u8 x1] := by rw [hW2]; exact (Blk.new w _ _).alloc _
  have hB5 : Blk W2 (w.heap.size + 1) 61 #[.bool true, .bool false] := by
    rw [hW2]
    have := Blk.new (w.alloc (.cells #[.int .u8 x0, .int .u8 x1] 60)) 61 #[.bool true, .bool false]
    simpa only [alloc_size] using this
  have hbw : Below w.heap.size w W2 := by rw [hW2]; exact below_al (below_al (Below.refl _ _) _) _
  have HN0 := Lib.hid (hNew n hm1 hm2 W2 W2 (hw.on hbw) (Below.refl _ _))
  have k40 := hB4.cell 0
  have k41 := hB4.cell 1
  have k4l := hB4.lt
  have k50 := hB5.cell 0
  have k51 := hB5.cell 1
  have k5l := hB5.lt
  simp only [List.getElem?_toArray, List.getElem?_cons_zero, List.getElem?_cons_succ] at k40 k41 k50 k51
  have HBW := Lib.hid hbw
  have HM := Lib.hid (And.intro hm1 (And.intro hm2 (And.intro hsn (And.intro hq hQ))))
  obtain ⟨k0, ek0, kl0, kh0⟩ := link_nat (n := n) (d := 1) (x := (s : Int)) (h := 1) (by omega) (by omega)
  have HK0 := Lib.hid (fun W => link_is n 1 (s : Int) 1 (k0 : Int) ek0 W (by omega) (by omega))
  have HG0 := Lib.hid (show updW n noneW (k0 : Int) (some 9) = oneF k0 9 by rw [upd_in _ _ kl0, upd_one])
  have HR0 := Lib.hid (err_in kl0)
  have BK0 := Lib.hid (show -9223372036854775808 ≤ (k0 : Int) ∧ (k0 : Int) ≤ 9223372036854775807 by omega)
  have HS0 := Lib.hid (And.intro ek0 (And.intro kl0 kh0))
  have T0 := Lib.hid (show (0 : Int) ≤ 0 ∧ (0 : Int) < 4611686018427387904 by decide)
  clear hw hb hb0 hb1 en hm1 hm2 hx hx0 hx1 hB4 hB5 hbw eq hq hsn hQ ek0 kl0 kh0
  go_enter Tryd.func6, Tryd.ntmps6
  go_upto_region 1 with fail
  rw [← hW2]
  clear hW2
  go_wp2_with (first
    | (go_at_call 21; (with_reducible refine (HND.out _).mono ?_); rintro e w' ⟨rfl, rfl⟩)
    | (go_at_call 9; (with_reducible refine HN0.out.mono ?_); rintro e u0 ⟨L, rfl, hn, -, h0, -⟩; have H0 := Lib.hid h0; have HL := Lib.hid hn; clear hn h0)
    | (go_at_call 24; (with_reducible refine (HK0.out _).mono ?_); rintro e u1 ⟨rfl, b1⟩; have H1 := Lib.hid (H0.out.on b1); clear b1)
    | (go_at_call 11; (with_reducible refine (hGive H1.out HL.out (k0 : Int) BK0.out 9 0 HR0.out (oneF k0 9) HG0.out).mono ?_); rintro e u2 ⟨rfl, hh, -⟩; have H2 := Lib.hid hh; clear hh)
    | (go_at_call 14; (with_reducible refine (hEnd H2.out T0.out 1 rfl (HT (oneF k0 9) 1) (XT (oneF k0 9) 1) (now_first _) (next_first _)).mono ?_); rintro e u3 ⟨rfl, hh, -⟩; have H3 := Lib.hid hh; clear hh))
  clear H0 H1 H2 k40 k41 k50 k51 k4l k5l
  go_loopw [8, 15] (fun s8 s15 wr => ∃ k p T l : Nat, T = k * 1 + p ∧ 1 ≤ p ∧ p ≤ 1 ∧ T ≤ Q + 1 ∧ s8 = .int .i64 (stepM n 1 s ((k * 1 : Nat) : Int)) ∧ s15 = .int .i64 (T : Int) ∧ Hid (linkM n 1 (stepM n 1 s ((k * 1 : Nat) : Int)) 1 = (l : Int) ∧ l < 4 * n ∧ hopN l = 1) ∧ Hid (Hold W2 L wr (T : Int) (HT (oneF l 9) p) (XT (oneF l 9) p) noneW)) (fun _ s15 _ => Q + 2 - (intOf s15).toNat)
  case atStart =>
    have hx4 : 4 ≤ (n : Int) ∧ (n : Int) ≤ 16 ∧ (1 : Int) < 2 ∧ 0 ≤ (s : Int) ∧ (s : Int) < n := by have := HM.out; omega
    have e0 : stepM n 1 s ((0 * 1 : Nat) : Int) = s := step_zero hx4
    exact ⟨0, 1, 1, k0, by omega, by omega, by omega, by omega, by rw [e0], rfl, Lib.hid (by rw [e0]; exact HS0.out), H3⟩
  case round =>
    obtain ⟨k, p, T, l, eT, hp1, hp2, hTQ, rfl, rfl, HKL, HI⟩ := hrel
    clear H3
    have hx4 : 4 ≤ (n : Int) ∧ (n : Int) ≤ 16 ∧ (1 : Int) < 2 ∧ 0 ≤ (s : Int) ∧ (s : Int) < n := by have := HM.out; omega
    have hA := step_in ((k * 1 : Nat) : Int) hx4
    have hAB : stepM n 1 (stepM n 1 s ((k * 1 : Nat) : Int)) 1 = stepM n 1 s (((k + 1) * 1 : Nat) : Int) := by rw [step_add _ _ hx4]; congr 1 <;> omega
    by_cases hlt : T ≤ Q
    · have hdl : decide ((T : Int) ≤ (Q : Int)) = true := decide_eq_true (by omega)
      have hdn : decide (T ≤ Q) = true := decide_eq_true hlt
      have hwT : IntKind.i64.wrap ((T : Int) + 1) = ((T + 1 : Nat) : Int) := by have := HM.out; rw [IntWalk.i64_in _ (by omega)]; omega
      have hB := step_in (((k + 1) * 1 : Nat) : Int) hx4
      have HHo := here_step (HT (oneF l 9) p) (x := stepM n 1 s ((k * 1 : Nat) : Int)) (h := 1) (by omega) (by omega) HKL.out.1
      rw [hAB] at HHo
      have HSt := Lib.hid (fun (v : World) (hv : Ways v) => step_is n 1 (stepM n 1 s ((k * 1 : Nat) : Int)) 1 (stepM n 1 s (((k + 1) * 1 : Nat) : Int)) hAB v hv (by omega) (by omega))
      obtain ⟨l2, el2, ll2, lh2⟩ := link_nat (n := n) (d := 1) (x := stepM n 1 s (((k + 1) * 1 : Nat) : Int)) (h := 1) (by omega) (by omega)
      have HKL2 := Lib.hid (And.intro el2 (And.intro ll2 lh2))
      have HK := Lib.hid (fun W => link_is n 1 (stepM n 1 s (((k + 1) * 1 : Nat) : Int)) 1 (l2 : Int) el2 W (by omega) (by omega))
      obtain ⟨A, eA⟩ : ∃ A, A = stepM n 1 s ((k * 1 : Nat) : Int) := ⟨_, rfl⟩
      obtain ⟨B, eB⟩ : ∃ B, B = stepM n 1 s (((k + 1) * 1 : Nat) : Int) := ⟨_, rfl⟩
      have HEB := Lib.hid eB
      have HEA := Lib.hid eA
      rw [← eA, ← eB] at HSt
      rw [← eB] at HHo HK
      rw [← eA]
      have HTT := Lib.hid (show 0 ≤ (T : Int) ∧ (T : Int) < 4611686018427387904 by have := HM.out; omega)
      have HET := Lib.hid eT
      clear hA hB hAB eA eB el2 ll2 lh2 hx4
      have HO := Lib.hid (HHo.trans (HT_hit (by rw [HKL.out.2.2]; omega)))
      have HX := Lib.hid (show XT (oneF l 9) p = noneW from XT_one (by rw [HKL.out.2.2]; omega) hp1)
      have HH := Lib.hid (fun (v : World) (h : Hold W2 L v (T : Int) (HT (oneF l 9) p) (XT (oneF l 9) p) noneW) => hHere h HL.out 1 B 1 (by omega) (by omega) (some 9) HO.out)
      simp only [Option.getD_some, Option.isSome_some] at HH
      have hrem : (T : Int).tmod 1 = 0 := by have := Int.tmod_eq_emod_of_nonneg (a := (T : Int)) (b := 1) (by omega); omega
      have HG := Lib.hid (show updW n noneW (l2 : Int) (some 9) = oneF l2 9 by rw [upd_in _ _ HKL2.out.2.1, upd_one])
      have HR := Lib.hid (err_in HKL2.out.2.1)
      have BK := Lib.hid (show -9223372036854775808 ≤ (l2 : Int) ∧ (l2 : Int) ≤ 9223372036854775807 by have := HKL2.out.2.1; have := HM.out; omega)
      have HEe := Lib.hid (fun (v : World) (h : Hold W2 L v (T : Int) (HT (oneF l 9) p) (XT (oneF l 9) p) (oneF l2 9)) => hEnd h HTT.out ((T + 1 : Nat) : Int) (by omega) (HT (oneF l2 9) 1) (XT (oneF l2 9) 1) (by rw [HX.out]; exact now_first _) (by rw [HX.out]; exact next_first _))
      clear HHo eT
      go_wp2_with (first
        | (go_at_call 25; (with_reducible refine (HSt.out _ HI.out.way).mono ?_); rintro e v1 ⟨rfl, b1⟩; have V1 := Lib.hid (HI.out.on b1); clear b1)
        | (go_at_call 16; (with_reducible refine (HH.out _ V1.out).mono ?_); rintro e v2 ⟨rfl, hh, -⟩; have V2 := Lib.hid hh; clear hh)
        | (go_at_call 24; (with_reducible refine (HK.out _).mono ?_); rintro e v3 ⟨rfl, b1⟩; have V3 := Lib.hid (V2.out.on b1); clear b1)
        | (go_at_call 11; (with_reducible refine (hGive V3.out HL.out (l2 : Int) BK.out 9 0 HR.out (oneF l2 9) HG.out).mono ?_); rintro e v4 ⟨rfl, hh, -⟩; have V4 := Lib.hid hh; clear hh)
        | (go_at_call 14; (with_reducible refine (HEe.out _ V4.out).mono ?_); rintro e v5 ⟨rfl, hh, -⟩; have V5 := Lib.hid hh; clear hh))
      go_roundw
      case rel => exact ⟨k + 1, 1, T + 1, l2, by have := HET.out; omega, by omega, by omega, by omega, by rw [← HEB.out], rfl, HKL2, V5⟩
      case measure => simp [intOf]; omega
    · have hdl : decide ((T : Int) ≤ (Q : Int)) = false := decide_eq_false (by omega)
      have hdn : decide (T ≤ Q) = false := decide_eq_false hlt
      have hlt' : Q < T := by omega
      have ekQ : k * 1 = Q := by have := HM.out; omega
      have HSt := Lib.hid (fun (v : World) (hv : Ways v) => step_is n 1 (s : Int) (Q : Int) (stepM n 1 s ((k * 1 : Nat) : Int)) (by rw [ekQ]) v hv (by omega) (by omega))
      obtain ⟨A, eA⟩ : ∃ A, A = stepM n 1 s ((k * 1 : Nat) : Int) := ⟨_, rfl⟩
      rw [← eA] at HSt ⊢
      clear hA hAB eA ekQ hx4
      go_wp2_with (first
        | (go_at_call 25; (with_reducible refine (HSt.out _ HI.out.way).mono ?_); rintro e v1 ⟨rfl, b1⟩; have V1 := Lib.hid (HI.out.on b1); clear b1)
        | (go_at_call 8; (with_reducible refine (lives_wr _ V1.out.way).mono ?_); rintro e v2 ⟨rfl, b2⟩))
      go_ret
      exact ⟨rfl, below_then HBW.out (V1.out.on b2).low⟩
set_option maxRecDepth 100000 in
set_option maxHeartbeats 4000000 in
theorem wiresTrack_12 (x x0 x1 : Int) (w : World) (hw : Ways w) (hx : (Lit.int .u8 x).wf = true) (hx0 : (Lit.int .u8 x0).wf = true) (hx1 : (Lit.int .u8 x1).wf = true) :
    Calls Tryd.prog 6 #[.int .u8 x, .agg #[.int .u8 x0, .int .u8 x1], .agg #[.bool true, .bool true]] w fun e w' => e = .returned (.bool true) ∧ Below w.heap.size w w' := by
  have hb := bounds_u8 hx
  have hb0 := bounds_u8 hx0
  have hb1 := bounds_u8 hx1
  obtain ⟨n, en⟩ : ∃ n : Nat, 4 + x % 13 = (n : Int) := ⟨(4 + x % 13).toNat, by omega⟩
  have HND := Lib.hid (fun W => show Calls Tryd.prog 21 #[.int .u8 x] W fun e w' => e = .returned (.int .i64 (n : Int)) ∧ W = w' from en ▸ nodes_any x W hb.1 hb.2)
  have hm1 : 4 ≤ n := by omega
  have hm2 : n ≤ 16 := by omega
  have hn0 : (n : Int) ≠ 0 := by omega
  have hn0' : ((n : Int) == 0) = false := beq_eq_false_iff_ne.2 hn0
  obtain ⟨s, hrs, hsn⟩ := rem_nat (N := n) hb0.1 (by omega)
  obtain ⟨q, eq⟩ : ∃ q : Nat, x1 % 20 = (q : Int) := ⟨(x1 % 20).toNat, by omega⟩
  have hq : q ≤ 19 := by omega
  have hrq : x1.tmod 20 = (q : Int) := by rw [Int.tmod_eq_emod_of_nonneg hb1.1, eq]
  have hws : IntKind.i64.wrap (s : Int) = (s : Int) := IntWalk.i64_in _ (by omega)
  have hwq : IntKind.i64.wrap (q : Int) = (q : Int) := IntWalk.i64_in _ (by omega)
  have hz0 : IntKind.i64.wrap x0 = x0 := IntWalk.i64_in _ (by omega)
  have hz1 : IntKind.i64.wrap x1 = x1 := IntWalk.i64_in _ (by omega)
  obtain ⟨Q, hQ⟩ : ∃ Q, Q = q * 2 := ⟨_, rfl⟩
  have hwQ : IntKind.i64.wrap ((q : Int) * 2) = (Q : Int) := by rw [IntWalk.i64_in _ (by omega)]; omega
  obtain ⟨W2, hW2⟩ : ∃ W2, W2 = (w.alloc (.cells #[.int .u8 x0, .int .u8 x1] 60)).alloc (.cells #[.bool true, .bool true] 61) := ⟨_, rfl⟩
  have hB4 : Blk W2 w.heap.size 60 #[.int .u8 x0, .int .u8 x1] := by rw [hW2]; exact (Blk.new w _ _).alloc _
  have hB5 : Blk W2 (w.heap.size + 1) 61 #[.bool true, .bool true] := by
    rw [hW2]
    have := Blk.new (w.alloc (.cells #[.int .u8 x0, .int .u8 x1] 60)) 61 #[.bool true, .bool true]
    simpa only [alloc_size] using this
  have hbw : Below w.heap.size w W2 := by rw [hW2]; exact below_al (below_al (Below.refl _ _) _) _
  have HN0 := Lib.hid (hNew n hm1 hm2 W2 W2 (hw.on hbw) (Below.refl _ _))
  have k40 := hB4.cell 0
  have k41 := hB4.cell 1
  have k4l := hB4.lt
  have k50 := hB5.cell 0
  have k51 := hB5.cell 1
  have k5l := hB5.lt
  simp only [List.getElem?_toArray, List.getElem?_cons_zero, List.getElem?_cons_succ] at k40 k41 k50 k51
  have HBW := Lib.hid hbw
  have HM := Lib.hid (And.intro hm1 (And.intro hm2 (And.intro hsn (And.intro hq hQ))))
  obtain ⟨k0, ek0, kl0, kh0⟩ := link_nat (n := n) (d := 1) (x := (s : Int)) (h := 2) (by omega) (by omega)
  have HK0 := Lib.hid (fun W => link_is n 1 (s : Int) 2 (k0 : Int) ek0 W (by omega) (by omega))
  have HG0 := Lib.hid (show updW n noneW (k0 : Int) (some 9) = oneF k0 9 by rw [upd_in _ _ kl0, upd_one])
  have HR0 := Lib.hid (err_in kl0)
  have BK0 := Lib.hid (show -9223372036854775808 ≤ (k0 : Int) ∧ (k0 : Int) ≤ 9223372036854775807 by omega)
  have HS0 := Lib.hid (And.intro ek0 (And.intro kl0 kh0))
  have T0 := Lib.hid (show (0 : Int) ≤ 0 ∧ (0 : Int) < 4611686018427387904 by decide)
  clear hw hb hb0 hb1 en hm1 hm2 hx hx0 hx1 hB4 hB5 hbw eq hq hsn hQ ek0 kl0 kh0
  go_enter Tryd.func6, Tryd.ntmps6
  go_upto_region 1 with fail
  rw [← hW2]
  clear hW2
  go_wp2_with (first
    | (go_at_call 21; (with_reducible refine (HND.out _).mono ?_); rintro e w' ⟨rfl, rfl⟩)
    | (go_at_call 9; (with_reducible refine HN0.out.mono ?_); rintro e u0 ⟨L, rfl, hn, -, h0, -⟩; have H0 := Lib.hid h0; have HL := Lib.hid hn; clear hn h0)
    | (go_at_call 24; (with_reducible refine (HK0.out _).mono ?_); rintro e u1 ⟨rfl, b1⟩; have H1 := Lib.hid (H0.out.on b1); clear b1)
    | (go_at_call 11; (with_reducible refine (hGive H1.out HL.out (k0 : Int) BK0.out 9 0 HR0.out (oneF k0 9) HG0.out).mono ?_); rintro e u2 ⟨rfl, hh, -⟩; have H2 := Lib.hid hh; clear hh)
    | (go_at_call 14; (with_reducible refine (hEnd H2.out T0.out 1 rfl (HT (oneF k0 9) 1) (XT (oneF k0 9) 1) (now_first _) (next_first _)).mono ?_); rintro e u3 ⟨rfl, hh, -⟩; have H3 := Lib.hid hh; clear hh))
  clear H0 H1 H2 k40 k41 k50 k51 k4l k5l
  go_loopw [8, 15] (fun s8 s15 wr => ∃ k p T l : Nat, T = k * 2 + p ∧ 1 ≤ p ∧ p ≤ 2 ∧ T ≤ Q + 1 ∧ s8 = .int .i64 (stepM n 1 s ((k * 2 : Nat) : Int)) ∧ s15 = .int .i64 (T : Int) ∧ Hid (linkM n 1 (stepM n 1 s ((k * 2 : Nat) : Int)) 2 = (l : Int) ∧ l < 4 * n ∧ hopN l = 2) ∧ Hid (Hold W2 L wr (T : Int) (HT (oneF l 9) p) (XT (oneF l 9) p) noneW)) (fun _ s15 _ => Q + 2 - (intOf s15).toNat)
  case atStart =>
    have hx4 : 4 ≤ (n : Int) ∧ (n : Int) ≤ 16 ∧ (1 : Int) < 2 ∧ 0 ≤ (s : Int) ∧ (s : Int) < n := by have := HM.out; omega
    have e0 : stepM n 1 s ((0 * 2 : Nat) : Int) = s := step_zero hx4
    exact ⟨0, 1, 1, k0, by omega, by omega, by omega, by omega, by rw [e0], rfl, Lib.hid (by rw [e0]; exact HS0.out), H3⟩
  case round =>
    obtain ⟨k, p, T, l, eT, hp1, hp2, hTQ, rfl, rfl, HKL, HI⟩ := hrel
    clear H3
    have hx4 : 4 ≤ (n : Int) ∧ (n : Int) ≤ 16 ∧ (1 : Int) < 2 ∧ 0 ≤ (s : Int) ∧ (s : Int) < n := by have := HM.out; omega
    have hA := step_in ((k * 2 : Nat) : Int) hx4
    have hAB : stepM n 1 (stepM n 1 s ((k * 2 : Nat) : Int)) 2 = stepM n 1 s (((k + 1) * 2 : Nat) : Int) := by rw [step_add _ _ hx4]; congr 1 <;> omega
    by_cases hlt : T ≤ Q
    · have hdl : decide ((T : Int) ≤ (Q : Int)) = true := decide_eq_true (by omega)
      have hdn : decide (T ≤ Q) = true := decide_eq_true hlt
      have hwT : IntKind.i64.wrap ((T : Int) + 1) = ((T + 1 : Nat) : Int) := by have := HM.out; rw [IntWalk.i64_in _ (by omega)]; omega
      have hB := step_in (((k + 1) * 2 : Nat) : Int) hx4
      have HHo := here_step (HT (oneF l 9) p) (x := stepM n 1 s ((k * 2 : Nat) : Int)) (h := 2) (by omega) (by omega) HKL.out.1
      rw [hAB] at HHo
      have HSt := Lib.hid (fun (v : World) (hv : Ways v) => step_is n 1 (stepM n 1 s ((k * 2 : Nat) : Int)) 2 (stepM n 1 s (((k + 1) * 2 : Nat) : Int)) hAB v hv (by omega) (by omega))
      obtain ⟨l2, el2, ll2, lh2⟩ := link_nat (n := n) (d := 1) (x := stepM n 1 s (((k + 1) * 2 : Nat) : Int)) (h := 2) (by omega) (by omega)
      have HKL2 := Lib.hid (And.intro el2 (And.intro ll2 lh2))
      have HK := Lib.hid (fun W => link_is n 1 (stepM n 1 s (((k + 1) * 2 : Nat) : Int)) 2 (l2 : Int) el2 W (by omega) (by omega))
      obtain ⟨A, eA⟩ : ∃ A, A = stepM n 1 s ((k * 2 : Nat) : Int) := ⟨_, rfl⟩
      obtain ⟨B, eB⟩ : ∃ B, B = stepM n 1 s (((k + 1) * 2 : Nat) : Int) := ⟨_, rfl⟩
      have HEB := Lib.hid eB
      have HEA := Lib.hid eA
      rw [← eA, ← eB] at HSt
      rw [← eB] at HHo HK
      rw [← eA]
      have HTT := Lib.hid (show 0 ≤ (T : Int) ∧ (T : Int) < 4611686018427387904 by have := HM.out; omega)
      have HET := Lib.hid eT
      clear hA hB hAB eA eB el2 ll2 lh2 hx4
      by_cases hph : p = 2
      · have HO := Lib.hid (HHo.trans (HT_hit (by rw [HKL.out.2.2]; omega)))
        have HX := Lib.hid (show XT (oneF l 9) p = noneW from XT_one (by rw [HKL.out.2.2]; omega) hp1)
        have HH := Lib.hid (fun (v : World) (h : Hold W2 L v (T : Int) (HT (oneF l 9) p) (XT (oneF l 9) p) noneW) => hHere h HL.out 1 B 2 (by omega) (by omega) (some 9) HO.out)
        simp only [Option.getD_some, Option.isSome_some] at HH
        have hrem : (T : Int).tmod 2 = 0 := by have := Int.tmod_eq_emod_of_nonneg (a := (T : Int)) (b := 2) (by omega); omega
        have HG := Lib.hid (show updW n noneW (l2 : Int) (some 9) = oneF l2 9 by rw [upd_in _ _ HKL2.out.2.1, upd_one])
        have HR := Lib.hid (err_in HKL2.out.2.1)
        have BK := Lib.hid (show -9223372036854775808 ≤ (l2 : Int) ∧ (l2 : Int) ≤ 9223372036854775807 by have := HKL2.out.2.1; have := HM.out; omega)
        have HEe := Lib.hid (fun (v : World) (h : Hold W2 L v (T : Int) (HT (oneF l 9) p) (XT (oneF l 9) p) (oneF l2 9)) => hEnd h HTT.out ((T + 1 : Nat) : Int) (by omega) (HT (oneF l2 9) 1) (XT (oneF l2 9) 1) (by rw [HX.out]; exact now_first _) (by rw [HX.out]; exact next_first _))
        clear HHo eT
        go_wp2_with (first
          | (go_at_call 25; (with_reducible refine (HSt.out _ HI.out.way).mono ?_); rintro e v1 ⟨rfl, b1⟩; have V1 := Lib.hid (HI.out.on b1); clear b1)
          | (go_at_call 16; (with_reducible refine (HH.out _ V1.out).mono ?_); rintro e v2 ⟨rfl, hh, -⟩; have V2 := Lib.hid hh; clear hh)
          | (go_at_call 24; (with_reducible refine (HK.out _).mono ?_); rintro e v3 ⟨rfl, b1⟩; have V3 := Lib.hid (V2.out.on b1); clear b1)
          | (go_at_call 11; (with_reducible refine (hGive V3.out HL.out (l2 : Int) BK.out 9 0 HR.out (oneF l2 9) HG.out).mono ?_); rintro e v4 ⟨rfl, hh, -⟩; have V4 := Lib.hid hh; clear hh)
          | (go_at_call 14; (with_reducible refine (HEe.out _ V4.out).mono ?_); rintro e v5 ⟨rfl, hh, -⟩; have V5 := Lib.hid hh; clear hh))
        go_roundw
        case rel => exact ⟨k + 1, 1, T + 1, l2, by have := HET.out; omega, by omega, by omega, by omega, by rw [← HEB.out], rfl, HKL2, V5⟩
        case measure => simp [intOf]; omega
      · have HO := Lib.hid (HHo.trans (HT_not (by rw [HKL.out.2.2]; omega)))
        have HH := Lib.hid (fun (v : World) (h : Hold W2 L v (T : Int) (HT (oneF l 9) p) (XT (oneF l 9) p) noneW) => hHere h HL.out 1 B 2 (by omega) (by omega) none HO.out)
        simp only [Option.getD_none, Option.isSome_none] at HH
        have hrem : (T : Int).tmod 2 = 1 := by have := Int.tmod_eq_emod_of_nonneg (a := (T : Int)) (b := 2) (by omega); omega
        have HEe := Lib.hid (fun (v : World) (h : Hold W2 L v (T : Int) (HT (oneF l 9) p) (XT (oneF l 9) p) noneW) => hEnd h HTT.out ((T + 1 : Nat) : Int) (by omega) (HT (oneF l 9) (p + 1)) (XT (oneF l 9) (p + 1)) (now_later _ hp1) (next_later _ hp1))
        clear HHo eT
        go_wp2_with (first
          | (go_at_call 25; (with_reducible refine (HSt.out _ HI.out.way).mono ?_); rintro e v1 ⟨rfl, b1⟩; have V1 := Lib.hid (HI.out.on b1); clear b1)
          | (go_at_call 16; (with_reducible refine (HH.out _ V1.out).mono ?_); rintro e v2 ⟨rfl, hh, -⟩; have V2 := Lib.hid hh; clear hh)
          | (go_at_call 14; (with_reducible refine (HEe.out _ V2.out).mono ?_); rintro e v5 ⟨rfl, hh, -⟩; have V5 := Lib.hid hh; clear hh))
        go_roundw
        case rel => exact ⟨k, p + 1, T + 1, l, by have := HET.out; omega, by omega, by omega, by omega, by rw [← HEA.out], rfl, HKL, V5⟩
        case measure => simp [intOf]; omega
    · have hdl : decide ((T : Int) ≤ (Q : Int)) = false := decide_eq_false (by omega)
      have hdn : decide (T ≤ Q) = false := decide_eq_false hlt
      have hlt' : Q < T := by omega
      have ekQ : k * 2 = Q := by have := HM.out; omega
      have HSt := Lib.hid (fun (v : World) (hv : Ways v) => step_is n 1 (s : Int) (Q : Int) (stepM n 1 s ((k * 2 : Nat) : Int)) (by rw [ekQ]) v hv (by omega) (by omega))
      obtain ⟨A, eA⟩ : ∃ A, A = stepM n 1 s ((k * 2 : Nat) : Int) := ⟨_, rfl⟩
      rw [← eA] at HSt ⊢
      clear hA hAB eA ekQ hx4
      go_wp2_with (first
        | (go_at_call 25; (with_reducible refine (HSt.out _ HI.out.way).mono ?_); rintro e v1 ⟨rfl, b1⟩; have V1 := Lib.hid (HI.out.on b1); clear b1)
        | (go_at_call 8; (with_reducible refine (lives_wr _ V1.out.way).mono ?_); rintro e v2 ⟨rfl, b2⟩))
      go_ret
      exact ⟨rfl, below_then HBW.out (V1.out.on b2).low⟩
theorem wiresTrack_walk (x x0 x1 : Int) (z0 z1 : Bool) (w : World) (hw : Ways w) (hx : (Lit.int .u8 x).wf = true) (hx0 : (Lit.int .u8 x0).wf = true) (hx1 : (Lit.int .u8 x1).wf = true) :
    Calls Tryd.prog 6 #[.int .u8 x, .agg #[.int .u8 x0, .int .u8 x1], .agg #[.bool z0, .bool z1]] w fun e w' => e = .returned (.bool true) ∧ Below w.heap.size w w' := by
  cases z0 <;> cases z1
  · exact wiresTrack_01 x x0 x1 w hw hx hx0 hx1
  · exact wiresTrack_02 x x0 x1 w hw hx hx0 hx1
  · exact wiresTrack_11 x x0 x1 w hw hx hx0 hx1
  · exact wiresTrack_12 x x0 x1 w hw hx hx0 hx1
end Go.Proofs.YtgmoifbncijhdaaDoor
