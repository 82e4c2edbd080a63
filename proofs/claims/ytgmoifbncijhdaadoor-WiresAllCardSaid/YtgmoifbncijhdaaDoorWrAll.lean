/-
  The law WiresAll, walked: where all links are given something of their own in one tick, each is here at its other end when it is to be, once, and nothing else is anywhere: true; nothing that was there has turned. Condition: the table of directions is as the program's text lays it.
-/
import Derived.Test.YtgmoifbncijhdaaDoorWrM
namespace Go.Proofs.YtgmoifbncijhdaaDoor
open Go.RowKit Rg
set_option linter.unusedVariables false

/-- What the first k links were given. -/
def gk (k : Nat) : Nat → Option Int := fun j => if j < k then some (100 + (j : Int)) else none
theorem gk_zero : gk 0 = noneW := by
  funext j
  simp only [gk, noneW]; rw [if_neg (by omega)]
theorem gk_succ (k : Nat) : upd (gk k) k (some (100 + (k : Int))) = gk (k + 1) := by
  funext j
  simp only [upd, gk]
  by_cases e : j = k
  · subst e
    rw [if_pos rfl, if_pos (by omega)]
  · rw [if_neg e]
    by_cases q : j < k
    · rw [if_pos q, if_pos (by omega)]
    · rw [if_neg q, if_neg (by omega)]
theorem gk_at {j k : Nat} (h : j < k) : gk k j = some (100 + (j : Int)) := by
  simp only [gk]; rw [if_pos h]
set_option maxRecDepth 100000 in
set_option maxHeartbeats 2000000 in
theorem wiresAll_walk (x y : Int) (w : World) (hw : Ways w) (hx : (Lit.int .u8 x).wf = true) (hy : (Lit.int .u8 y).wf = true) :
    Calls Tryd.prog 5 #[.int .u8 x, .int .u8 y] w fun e w' => e = .returned (.bool true) ∧ Below w.heap.size w w' := by
  have hb := bounds_u8 hx
  have hb' := bounds_u8 hy
  have HNd := nodes_any x w hb.1 hb.2
  obtain ⟨n, en⟩ : ∃ n : Nat, 4 + x % 13 = (n : Int) := ⟨(4 + x % 13).toNat, by omega⟩
  rw [en] at HNd
  have hm1 : 4 ≤ n := by omega
  have hm2 : n ≤ 16 := by omega
  obtain ⟨q, eq⟩ : ∃ q : Nat, y % 5 = (q : Int) := ⟨(y % 5).toNat, by omega⟩
  have hq : q ≤ 4 := by omega
  have hty : y.tmod 5 = (q : Int) := by rw [Int.tmod_eq_emod_of_nonneg hb'.1, eq]
  have HND := Lib.hid HNd
  have HN0 := Lib.hid (hNew n hm1 hm2 w w hw (Below.refl _ _))
  have hw4 : IntKind.i64.wrap (4 * (n : Int)) = ((4 * n : Nat) : Int) := by rw [IntWalk.i64_in _ (by omega)]; omega
  obtain ⟨N, hN⟩ : ∃ N, N = 4 * n := ⟨_, rfl⟩
  rw [← hN] at hw4
  have HN := Lib.hid hN
  have hNb : N ≤ 64 := by omega
  have HM := Lib.hid (And.intro hm1 hm2)
  clear hw hb hb' HNd en eq hN hm1 hm2 hx hy
  go_enter Tryd.func5, Tryd.ntmps5
  go_wp2_with (first
    | (go_at_call 21; (with_reducible refine HND.out.mono ?_); rintro e w' ⟨rfl, rfl⟩)
    | (go_at_call 9; (with_reducible refine HN0.out.mono ?_); rintro e u0 ⟨L, rfl, hn, -, h0, -⟩; have HL := Lib.hid hn; have H0 := Lib.hid h0; clear hn h0))
  go_loopw [8] (fun s8 wr => ∃ i : Nat, i ≤ q ∧ s8 = .int .i64 (i : Int) ∧ Hid (Hold w L wr i noneW noneW noneW)) (fun s8 _ => q - (intOf s8).toNat)
  case atStart => exact ⟨0, by omega, rfl, H0⟩
  case round =>
    obtain ⟨i, hi, rfl, HI⟩ := hrel
    clear H0
    by_cases hlt : i < q
    · have hd : decide ((i : Int) < (q : Int)) = true := decide_eq_true (by omega)
      have hd' : decide (i < q) = true := decide_eq_true hlt
      have hwi : IntKind.i64.wrap ((i : Int) + 1) = ((i + 1 : Nat) : Int) := by rw [IntWalk.i64_in _ (by omega)]; omega
      have HE := Lib.hid (hEnd HI.out (by omega) ((i + 1 : Nat) : Int) (by omega) noneW noneW now_none next_none)
      go_wp2_with (go_at_call 14; (with_reducible refine HE.out.mono ?_); rintro e u1 ⟨rfl, h1, -⟩; have H1 := Lib.hid h1; clear h1)
      go_roundw
      case rel => exact ⟨i + 1, by omega, rfl, H1⟩
      case measure => simp [intOf]; omega
    · have hd : decide ((i : Int) < (q : Int)) = false := decide_eq_false (by omega)
      have hd' : decide (i < q) = false := decide_eq_false hlt
      obtain rfl : i = q := by omega
      clear hlt hi
      go_wp2_with fail
      go_loopw [9] (fun s9 wr => ∃ k : Nat, k ≤ N ∧ s9 = .int .i64 (k : Int) ∧ Hid (Hold w L wr i noneW noneW (gk k))) (fun s9 _ => N - (intOf s9).toNat)
      case atStart => exact ⟨0, by omega, rfl, Lib.hid (by rw [gk_zero]; exact HI.out)⟩
      case round =>
        obtain ⟨k, hk, rfl, HK⟩ := hrel
        clear HI
        by_cases hlt : k < N
        · have hdk : decide ((k : Int) < (N : Int)) = true := decide_eq_true (by omega)
          have hdk' : decide (k < N) = true := decide_eq_true hlt
          have hwk : IntKind.i64.wrap ((k : Int) + 1) = ((k + 1 : Nat) : Int) := by rw [IntWalk.i64_in _ (by omega)]; omega
          have hwx : IntKind.i64.wrap (100 + (k : Int)) = 100 + (k : Int) := IntWalk.i64_in _ (by omega)
          have HG := Lib.hid (hGive HK.out HL.out (k : Int) (by omega) (100 + (k : Int)) 0 (err_in (by have := HN.out; omega)) (gk (k + 1)) (by rw [upd_in _ _ (by have := HN.out; omega), gk_succ]))
          go_wp2_with (go_at_call 11; (with_reducible refine HG.out.mono ?_); rintro e u1 ⟨rfl, h1, -⟩; have H1 := Lib.hid h1; clear h1)
          go_roundw
          case rel => exact ⟨k + 1, by omega, rfl, H1⟩
          case measure => simp [intOf]; omega
        · have hdk : decide ((k : Int) < (N : Int)) = false := decide_eq_false (by omega)
          have hdk' : decide (k < N) = false := decide_eq_false hlt
          obtain rfl : k = N := by omega
          clear hlt hk hdk hdk'
          go_wp2_with fail
          go_loopw [10] (fun s10 wr => ∃ T : Nat, T ≤ 4 ∧ s10 = .int .i64 ((T + 1 : Nat) : Int) ∧ Hid (Hold w L wr ((i + T : Nat) : Int) (HT (gk k) T) (XT (gk k) T) (GT (gk k) T))) (fun s10 _ => 5 - (intOf s10).toNat)
          case atStart => exact ⟨0, by omega, rfl, Lib.hid (by rw [HT_zero, XT_zero, GT_zero]; exact HK.out)⟩
          case round =>
            obtain ⟨T, hT, rfl, HI⟩ := hrel
            clear HK
            by_cases hlt : T < 4
            · have hdT : decide (((T + 1 : Nat) : Int) ≤ 4) = true := decide_eq_true (by omega)
              have hdT' : decide (T + 1 ≤ 4) = true := decide_eq_true (by omega)
              have hwT : IntKind.i64.wrap (((T + 1 : Nat) : Int) + 1) = ((T + 1 + 1 : Nat) : Int) := by rw [IntWalk.i64_in _ (by omega)]; omega
              have HE := Lib.hid (hEnd HI.out (by omega) ((i + (T + 1) : Nat) : Int) (by omega) (HT (gk k) (T + 1)) (XT (gk k) (T + 1)) (now_T _ _) (next_T _ _))
              obtain ⟨T1, eT⟩ : ∃ T1, T1 = T + 1 := ⟨_, rfl⟩
              rw [← eT] at hdT hdT' hwT HE ⊢
              have HT1 := Lib.hid (show 1 ≤ T1 ∧ T1 ≤ 4 by omega)
              have HTT := Lib.hid eT
              clear eT
              go_wp2_with (go_at_call 14; (with_reducible refine HE.out.mono ?_); rintro e u1 ⟨rfl, h1, -⟩; have H1 := Lib.hid h1; clear h1)
              clear HE HI
              go_loopw [11] (fun s11 wr => ∃ j : Nat, j ≤ k ∧ s11 = .int .i64 (j : Int) ∧ Hid (Hold w L wr ((i + T1 : Nat) : Int) (HT (gk k) T1) (XT (gk k) T1) noneW)) (fun s11 _ => k - (intOf s11).toNat)
              case atStart => exact ⟨0, by omega, rfl, H1⟩
              case round =>
                obtain ⟨j, hj, rfl, HJ⟩ := hrel
                clear H1
                by_cases hlj : j < k
                · have hdj : decide ((j : Int) < (k : Int)) = true := decide_eq_true (by omega)
                  have hdj' : decide (j < k) = true := decide_eq_true hlj
                  have hwj : IntKind.i64.wrap ((j : Int) + 1) = ((j + 1 : Nat) : Int) := by rw [IntWalk.i64_in _ (by omega)]; omega
                  have hwx : IntKind.i64.wrap (100 + (j : Int)) = 100 + (j : Int) := IntWalk.i64_in _ (by omega)
                  have hj4 : 4 ≤ n ∧ n ≤ 16 ∧ j < 4 * n := by have := HM.out; have := HN.out; omega
                  have hj4' : 4 ≤ (n : Int) ∧ (n : Int) ≤ 16 ∧ (j : Int) < 4 * n := by omega
                  have eh : endHop n j = hopN j := ends_hop (by omega) (by omega) (by omega)
                  have hd3 := dir_ok hj4'
                  have HE := Lib.hid (ends_is n j _ _ _ (hopN j) rfl rfl rfl eh wr HJ.out.way (by omega) (by omega))
                  obtain ⟨o, ho⟩ : ∃ o, HT (gk k) T1 j = o := ⟨_, rfl⟩
                  have HH := Lib.hid (fun (v : World) (h : Hold w L v ((i + T1 : Nat) : Int) (HT (gk k) T1) (XT (gk k) T1) noneW) => hHere h HL.out (endDir n j) (endTo n j) (hopN j) hd3.1 (by omega) o (by rw [← eh, here_ends _ hj4, ho]))
                  have HS := Lib.hid (fun (v : World) (hv : Ways v) => source_is n (endDir n j) (endTo n j) (hopN j) (endFrom n j) (by rw [← eh, source_ends hj4']) v hv hd3.1 (by omega))
                  have HV := Lib.hid (fun (v : World) (h : Hold w L v ((i + T1 : Nat) : Int) (HT (gk k) T1) (XT (gk k) T1) noneW) => hGiven h HL.out (j : Int) (by omega) none (giv_in _ hj4.2.2))
                  have hcase : ((T1 : Int) = hopN j ∧ o = some (100 + (j : Int))) ∨ ((T1 : Int) ≠ hopN j ∧ o = none) := by
                    rw [← ho]
                    simp only [HT]
                    by_cases c : (T1 : Int) = hopN j
                    · left; exact ⟨c, by rw [if_pos c, gk_at hlj]⟩
                    · right; exact ⟨c, by rw [if_neg c]⟩
                  obtain ⟨p1, e1⟩ : ∃ p, p = endFrom n j := ⟨_, rfl⟩
                  obtain ⟨p2, e2⟩ : ∃ p, p = endTo n j := ⟨_, rfl⟩
                  obtain ⟨p3, e3⟩ : ∃ p, p = endDir n j := ⟨_, rfl⟩
                  obtain ⟨h, e4⟩ : ∃ p, p = hopN j := ⟨_, rfl⟩
                  rw [← e1, ← e2, ← e3, ← e4] at HE
                  rw [← e2, ← e3, ← e4] at HH
                  rw [← e1, ← e2, ← e3, ← e4] at HS
                  rw [← e4] at hcase
                  simp only [Option.getD_none, Option.isSome_none] at HV
                  clear e1 e2 e3 e4 hj4 hj4' eh hd3 ho
                  rcases hcase with ⟨hc, rfl⟩ | ⟨hc, rfl⟩
                  · have hq1 : ((T1 : Int) == h) = true := beq_iff_eq.2 hc
                    simp only [Option.getD_some, Option.isSome_some] at HH
                    clear hc
                    go_wp2_with (first
                      | (go_at_call 22; (with_reducible refine HE.out.mono ?_); rintro e v1 ⟨rfl, b1⟩; have V1 := Lib.hid (HJ.out.on b1); clear b1)
                      | (go_at_call 16; (with_reducible refine (HH.out _ V1.out).mono ?_); rintro e v2 ⟨rfl, h2, -⟩; have V2 := Lib.hid h2; clear h2)
                      | (go_at_call 23; (with_reducible refine (HS.out _ V2.out.way).mono ?_); rintro e v3 ⟨rfl, b3⟩; have V3 := Lib.hid (V2.out.on b3); clear b3)
                      | (go_at_call 18; (with_reducible refine (HV.out _ V3.out).mono ?_); rintro e v4 ⟨rfl, h4, -⟩; have V4 := Lib.hid h4; clear h4))
                    go_roundw
                    case rel => exact ⟨j + 1, by omega, rfl, V4⟩
                    case measure => simp [intOf]; omega
                  · have hq1 : ((T1 : Int) == h) = false := beq_eq_false_iff_ne.2 hc
                    simp only [Option.getD_none, Option.isSome_none] at HH
                    clear hc
                    go_wp2_with (first
                      | (go_at_call 22; (with_reducible refine HE.out.mono ?_); rintro e v1 ⟨rfl, b1⟩; have V1 := Lib.hid (HJ.out.on b1); clear b1)
                      | (go_at_call 16; (with_reducible refine (HH.out _ V1.out).mono ?_); rintro e v2 ⟨rfl, h2, -⟩; have V2 := Lib.hid h2; clear h2)
                      | (go_at_call 23; (with_reducible refine (HS.out _ V2.out.way).mono ?_); rintro e v3 ⟨rfl, b3⟩; have V3 := Lib.hid (V2.out.on b3); clear b3)
                      | (go_at_call 18; (with_reducible refine (HV.out _ V3.out).mono ?_); rintro e v4 ⟨rfl, h4, -⟩; have V4 := Lib.hid h4; clear h4))
                    go_roundw
                    case rel => exact ⟨j + 1, by omega, rfl, V4⟩
                    case measure => simp [intOf]; omega
                · have hdj : decide ((j : Int) < (k : Int)) = false := decide_eq_false (by omega)
                  have hdj' : decide (j < k) = false := decide_eq_false hlj
                  have HQ := Lib.hid (show Hold w L wr ((i + T1 : Nat) : Int) (HT (gk k) T1) (XT (gk k) T1) (GT (gk k) T1) by rw [GT_pos _ (by have := HT1.out; omega)]; exact HJ.out)
                  clear hlj
                  go_wp2_with fail
                  go_roundw
                  case rel => exact ⟨T1, by have := HT1.out; omega, rfl, HQ⟩
                  case measure => have := HTT.out; simp [intOf]; omega
            · obtain rfl : T = 4 := by omega
              have HV := Lib.hid (lives_wr wr HI.out.way)
              clear hlt hT
              go_wp2_with (go_at_call 8; (with_reducible refine HV.out.mono ?_); rintro e v1 ⟨rfl, b1⟩)
              go_ret
              exact ⟨rfl, (HI.out.on b1).low⟩
end Go.Proofs.YtgmoifbncijhdaaDoor
