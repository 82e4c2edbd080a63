/-
  The contract of package rings' Path: the nodes of the track path, in new memory, and true; nothing and false, if there is none. Conditions: the table of directions is as the program's text lays it; the numbers are of their kinds.
-/
import Derived.Test.YthjplgiinkijcaaDoorRgP
import Derived.Test.YthjplgiinkijcaaDoorRg3
namespace Go.Proofs.YthjplgiinkijcaaDoor
open Go.RowKit Rg

theorem fill_set (j : Nat) (x : Int) (rest : List Int) : (List.replicate (j + 1) 0 ++ rest).set j x = List.replicate j 0 ++ x :: rest := by
  induction j with
  | zero => rfl
  | succ j ih => rw [List.replicate_succ, List.cons_append, List.set_cons_succ, ih, List.replicate_succ, List.cons_append]
theorem cellsOf_madeN (n : Nat) : madeCells #[.int .i64 0] n = cellsOf .i64 (List.replicate n 0) := by
  apply Array.toList_inj.1
  rw [toList_madeCells_one]
  simp [cellsOf]

set_option maxRecDepth 100000 in
theorem path_no (n d a b h : Int) (w : World) (hw : Ways w) (hd : 0 ≤ d) (hd' : d ≤ 255) (hp : pathB n d a b h = false) :
    Calls Tryd.prog 21 #[.int .i64 n, .int .u8 d, .int .i64 a, .int .i64 b, .int .i64 h] w fun e w' => e = .returned (.tuple #[.slice none 0 0, .bool false]) ∧ Below w.heap.size w w' := by
  have hD := dist_any n d a b w hw hd hd'
  have hbd := dist_bd n d a b
  by_cases hh : hopB h = true
  · have hlt : distM n d a b < h := by
      rcases Int.lt_or_le (distM n d a b) h with q | q
      · exact q
      · rw [path_iff.2 ⟨hop_iff.1 hh, q⟩] at hp; cases hp
    have HH := Lib.hid hh
    clear hp hh
    obtain ⟨D, eD⟩ : ∃ D, D = distM n d a b := ⟨_, rfl⟩
    rw [← eD] at hD hbd hlt
    clear eD
    have HD := Lib.hid hD
    clear hD
    go_enter Tryd.func21, Tryd.ntmps21
    go_wp2_with fail
    go_step3
    go_wp2_with (first
      | (go_at_call 12; with_reducible refine HD.out.mono ?_; rintro e w5 ⟨rfl, hb5⟩)
      | (go_at_call 34; with_reducible refine (isHop_b h true HH.out _).mono ?_; rintro e w' ⟨rfl, rfl⟩))
    rw [Exit.noGoto_ret]
    go_ret2
    exact ⟨rfl, hb5⟩
  · have HH := Lib.hid (bfalse hh)
    clear hp hh
    obtain ⟨D, eD⟩ : ∃ D, D = distM n d a b := ⟨_, rfl⟩
    rw [← eD] at hD hbd
    clear eD
    have HD := Lib.hid hD
    clear hD
    go_enter Tryd.func21, Tryd.ntmps21
    go_wp2_with fail
    go_step3
    go_wp2_with (first
      | (go_at_call 12; with_reducible refine HD.out.mono ?_; rintro e w5 ⟨rfl, hb5⟩)
      | (go_at_call 34; with_reducible refine (isHop_b h false HH.out _).mono ?_; rintro e w' ⟨rfl, rfl⟩))
    rw [Exit.noGoto_ret]
    go_ret2
    exact ⟨rfl, hb5⟩

set_option maxRecDepth 100000 in
theorem path_yes (n d a b h : Int) (w : World) (hw : Ways w) (hd : 0 ≤ d) (hp : pathB n d a b h = true) :
    Calls Tryd.prog 21 #[.int .i64 n, .int .u8 d, .int .i64 a, .int .i64 b, .int .i64 h] w fun e w' => ∃ g, e = .returned (.tuple #[.slice (some ⟨g, 0, none⟩) (pathL n d a b h).length (pathL n d a b h).length, .bool true]) ∧ w.heap.size ≤ g ∧ Blk w' g 3 (cellsOf .i64 (pathL n d a b h)) ∧ Below w.heap.size w w' := by
  have hpx := path_iff.1 hp
  have hE := ex2.1 (path_ex hp)
  have hD := dist_any n d a b w hw hd (by omega)
  have hbd := dist_in hE
  have hEnd := node_end hE
  have hh1 : 1 ≤ h := by omega
  have hh2 : h ≤ 2 := by omega
  have HH := Lib.hid (hop_iff.2 hpx.1)
  have hle := hpx.2
  have HLen := Lib.hid (pathL_len n d a b h)
  have HPL := Lib.hid (show pathL n d a b h = (posL (distM n d a b - h).toNat).map (nodeAt n d a) from rfl)
  obtain ⟨D, eD⟩ : ∃ D, D = distM n d a b := ⟨_, rfl⟩
  rw [← eD] at hD hbd hle hEnd HLen HPL
  clear eD hpx hp
  obtain ⟨L, eL⟩ : ∃ L, L = pathL n d a b h := ⟨_, rfl⟩
  rw [← eL] at HLen HPL ⊢
  clear eL
  have HD := Lib.hid hD
  have HEnd := Lib.hid hEnd
  clear hD hEnd
  have hmk := fun u => makeNums ((D - h + 1) / 2) (by omega) (by omega) u
  have HL2 := Lib.hid (show ((D - h + 1) / 2).toNat = L.length by rw [HLen.out]; omega)
  rw [HL2.out] at hmk
  obtain ⟨h1, h2, h3, h4, h5, h6, h7⟩ := hE
  go_enter Tryd.func21, Tryd.ntmps21
  go_wp2_with fail
  go_step3
  go_wp2_with (first
    | (go_at_call 12; with_reducible refine HD.out.mono ?_; rintro e w5 ⟨rfl, hb5⟩)
    | (go_at_call 34; with_reducible refine (isHop_b h true HH.out _).mono ?_; rintro e w' ⟨rfl, rfl⟩))
  go_step3
  go_wp2_with fail
  have HBEL := Lib.hid (below_al hb5 (.cells (madeCells #[.int .i64 0] L.length) 3))
  have HG := Lib.hid hb5.size
  have HB0 := Lib.hid (Blk.new w5 3 (madeCells #[.int .i64 0] L.length))
  rw [cellsOf_madeN] at HB0 HBEL ⊢
  obtain ⟨g, hg⟩ : ∃ g, g = w5.heap.size := ⟨_, rfl⟩
  rw [← hg] at HB0 HG ⊢
  obtain ⟨w6, hw6⟩ : ∃ w6, w6 = w5.alloc (.cells (cellsOf .i64 (List.replicate L.length 0)) 3) := ⟨_, rfl⟩
  rw [← hw6] at HB0 HBEL ⊢
  clear hw6 hg hb5 hmk HD
  go_loopw [4, 12, 14, 15] (fun s4 s12 s14 s15 wr => ∃ (m : Nat) (t l i : Int) (rest : List Int), s4 = .int .i64 t ∧ s12 = .int .i64 l ∧ s14 = .int .i64 (nodeAt n d a (m + t.toNat)) ∧ s15 = .int .i64 i ∧
      1 ≤ t ∧ t ≤ 2 ∧ t ≤ l ∧ l ≤ 15 ∧ Hid (l = m + t) ∧ Hid (i = (posL m).length) ∧ Hid (L = (posL m).map (nodeAt n d a) ++ rest) ∧ Blk wr g 3 (cellsOf .i64 (List.replicate (posL m).length 0 ++ rest)) ∧ Below w.heap.size w wr)
    (fun _ s12 _ _ _ => (intOf s12).toNat)
  case atStart =>
    refine ⟨(D - h).toNat, h, D, L.length, [], rfl, rfl, ?_, rfl, hh1, hh2, hle, by omega, Lib.hid (by omega), Lib.hid ?_, Lib.hid ?_, ?_, HBEL.out⟩
    · rw [show (D - h).toNat + h.toNat = D.toNat by omega, HEnd.out]
    · rw [HPL.out, List.length_map]
    · rw [List.append_nil, HPL.out]
    · rw [List.append_nil, ← List.length_map (f := nodeAt n d a), ← HPL.out]; exact HB0.out
  case round =>
    obtain ⟨m, t, l, i, rest, rfl, rfl, rfl, rfl, ht1, ht2, htl, hl15, HLM, HI, HL, hB, hbw⟩ := hrel
    have HST : ∀ W, Ways W → Calls Tryd.prog 10 #[.int .i64 n, .int .u8 d, .int .i64 (nodeAt n d a (m + t.toNat)), .int .i64 (-t)] W fun e w' => e = .returned (.int .i64 (nodeAt n d a m)) ∧ Below W.heap.size W w' := fun W hW => by
      have q := step_any n d (nodeAt n d a (m + t.toNat)) (-t) W hW hd (by omega)
      have e := node_back n d a (m + t.toNat) t.toNat (by omega) ⟨h1, h2, h3⟩
      rw [show ((t.toNat : Nat) : Int) = t by omega, Nat.add_sub_cancel] at e
      rw [e] at q
      exact q
    have HST' := Lib.hid (HST wr (hw.on hbw))
    clear HST
    obtain ⟨z, hz⟩ : ∃ z, z = nodeAt n d a (m + t.toNat) := ⟨_, rfl⟩
    rw [← hz] at HST' ⊢
    clear hz
    rcases m with _ | _ | k
    · have e0 : (l - t == 0) = true := by have := HLM.out; simp; omega
      go_wp2_with (go_at_call 10; with_reducible refine HST'.out.mono ?_; rintro e w7 ⟨rfl, hb7⟩)
      rw [Exit.noGoto_ret]
      go_ret2
      refine ⟨g, rfl, HG.out, ?_, below_then hbw hb7⟩
      have hB7 := hB.below hb7 hB.lt
      have e := HL.out
      simp only [posL, List.map_nil, List.nil_append, List.length_nil, List.replicate_zero] at e hB7
      rw [e]
      exact hB7
    · have e0 : (l - t == 0) = false := by have := HLM.out; simp; omega
      have e1 : (l - t == 1) = true := by have := HLM.out; simp; omega
      have hi : i = 1 := HI.out
      subst hi
      have hlen : 0 < L.length := by rw [HL.out]; simp [posL]
      have HC : Hid ((cellsOf .i64 (List.replicate (posL 1).length 0 ++ rest))[0]? = some (.int .i64 0)) := Lib.hid (by simp [posL, cellsOf])
      have HS := Lib.hid (fill_set 0 (nodeAt n d a 1) rest)
      have hgw := hB.lt
      have HLs := Lib.hid (show L = (posL 0).map (nodeAt n d a) ++ (nodeAt n d a 1 :: rest) by rw [HL.out]; simp [posL])
      obtain ⟨y, hy⟩ : ∃ y, y = nodeAt n d a 1 := ⟨_, rfl⟩
      have HY := Lib.hid hy
      rw [Nat.zero_add, ← hy] at HST'
      rw [← hy] at HS HLs
      clear hy
      go_wp2_with (go_at_call 10; with_reducible refine HST'.out.mono ?_; rintro e w7 ⟨rfl, hb7⟩; have hB7 := Lib.hid (hB.below hb7 hgw); have hc7 := (hB7.out.cell 0).trans HC.out; have hf7 := hB7.out.frozen 0)
      go_roundw
      case rel =>
        refine ⟨0, 1, l - t, 0, nodeAt n d a 1 :: rest, rfl, rfl, by rw [HY.out]; rfl, rfl, by omega, by omega, by have := HLM.out; omega, by omega, Lib.hid (by have := HLM.out; omega), Lib.hid rfl, by rw [← HY.out]; exact HLs, ?_, (below_then hbw hb7).setCell (Nat.le_trans HG.out (Nat.le_refl _)) _⟩
        have q := hB7.out.set_ 0 (.int .i64 y)
        rw [cellsOf_set] at q
        have e := HS.out
        simp only [posL, List.length_cons, List.length_nil] at q e ⊢
        rw [e] at q
        rw [← HY.out]
        exact q
      case measure => simp [intOf]; have := HLM.out; omega
    · have e0 : (l - t == 0) = false := by have := HLM.out; simp; omega
      have e1 : (l - t == 1) = false := by have := HLM.out; simp; omega
      obtain ⟨J, hJ⟩ : ∃ J, J = (posL k).length := ⟨_, rfl⟩
      have HJ := Lib.hid hJ
      have HJ2 := Lib.hid (show (posL (k + 2)).length = J + 1 by rw [hJ, posL]; simp)
      have hi : i = (J : Int) + 1 := by have := HI.out; rw [HJ2.out] at this; omega
      subst hi
      have hlen : J < L.length := by rw [HL.out, List.length_append, List.length_map, HJ2.out]; omega
      have hJ16 : J ≤ 100 := by have := posL_len k; have := HLM.out; omega
      clear hJ
      rw [HJ2.out] at hB
      have HC : Hid ((cellsOf .i64 (List.replicate (J + 1) 0 ++ rest))[J]? = some (.int .i64 0)) := Lib.hid (by simp [cellsOf, List.getElem?_append_left])
      have HS := Lib.hid (fill_set J (nodeAt n d a (k + 2)) rest)
      have hgw := hB.lt
      have HLs := Lib.hid (show L = (posL k).map (nodeAt n d a) ++ (nodeAt n d a (k + 2) :: rest) by rw [HL.out, posL]; simp)
      obtain ⟨y, hy⟩ : ∃ y, y = nodeAt n d a (k + 2) := ⟨_, rfl⟩
      have HY := Lib.hid hy
      rw [show k + 1 + 1 = k + 2 from rfl, ← hy] at HST'
      rw [← hy] at HS HLs
      clear hy
      go_wp2_with (go_at_call 10; with_reducible refine HST'.out.mono ?_; rintro e w7 ⟨rfl, hb7⟩; have hB7 := Lib.hid (hB.below hb7 hgw); have hc7 := (hB7.out.cell J).trans HC.out; have hf7 := hB7.out.frozen J)
      go_roundw
      case rel =>
        refine ⟨k, 2, l - t, J, nodeAt n d a (k + 2) :: rest, rfl, rfl, by rw [HY.out]; rfl, by first | rfl | go_num, by omega, by omega, by have := HLM.out; omega, by omega, Lib.hid (by have := HLM.out; omega), Lib.hid (by rw [HJ.out]), by rw [← HY.out]; exact HLs, ?_, (below_then hbw hb7).setCell (Nat.le_trans HG.out (Nat.le_refl _)) _⟩
        have q := hB7.out.set_ J (.int .i64 y)
        rw [cellsOf_set] at q
        rw [HS.out] at q
        rw [← HY.out, ← HJ.out]
        exact q
      case measure => simp [intOf]; have := HLM.out; omega
end Go.Proofs.YthjplgiinkijcaaDoor
