/-
  The contract of the document's Path, which calls itself: the nodes of the track path, and true; nothing and false, if there is none; nothing that was there has turned. Conditions: the numbers are of their kinds.
-/
import Derived.Test.YthjplgiinkijcaaDoorRgRef2
import Derived.Test.YthjplgiinkijcaaDoorApp
namespace Go.Proofs.YthjplgiinkijcaaDoor
open Go.RowKit Rg

set_option maxRecDepth 100000 in
theorem refPath_no (n d a b h : Int) (w : World) (hd : 0 ≤ d) (hd' : d ≤ 255) (hp : pathB n d a b h = false) :
    Calls Tryd.prog 22 #[.int .i64 n, .int .u8 d, .int .i64 a, .int .i64 b, .int .i64 h] w fun e w' => e = .returned (.tuple #[.slice none 0 0, .bool false]) ∧ Below w.heap.size w w' := by
  have hbd := dist_bd n d a b
  have hno : ¬ ((h = 1 ∨ h = 2) ∧ h ≤ distM n d a b) := fun q => by rw [path_iff.2 q] at hp; cases hp
  have HD := Lib.hid (refDist_any n d a b w hd hd')
  obtain ⟨D, eD⟩ : ∃ D, D = distM n d a b := ⟨_, rfl⟩
  rw [← eD] at HD hbd hno
  clear eD hp
  by_cases h1 : D < 1
  · clear hno
    go_enter Tryd.func22, Tryd.ntmps22
    go_wp2_with (go_at_call 13; (with_reducible refine HD.out.mono ?_); rintro e w' ⟨rfl, rfl⟩)
    go_ret2
    exact ⟨rfl, Below.refl _ _⟩
  · have c1 : decide (D < 1) = false := by simpa using h1
    by_cases h2 : h = 1 ∨ h = 2
    · have h3 : D < h := by omega
      clear hno
      rcases h2 with rfl | rfl
      · omega
      · clear h1
        go_enter Tryd.func22, Tryd.ntmps22
        go_wp2_with (go_at_call 13; (with_reducible refine HD.out.mono ?_); rintro e w' ⟨rfl, rfl⟩)
        go_ret2
        exact ⟨rfl, Below.refl _ _⟩
    · have c2 : (h != 1) = true := by simp; omega
      have c3 : (h != 2) = true := by simp; omega
      clear hno h1 h2
      go_enter Tryd.func22, Tryd.ntmps22
      go_wp2_with (go_at_call 13; (with_reducible refine HD.out.mono ?_); rintro e w' ⟨rfl, rfl⟩)
      go_ret2
      exact ⟨rfl, Below.refl _ _⟩

/-- One step of the path's own words. -/
theorem ahead_eq {n d a b h : Int} (hd : d = 0 ∨ d = 1) (hp : pathB n d a b h = true) : stepM n (1 - d) b h = nodeAt n d a (distM n d a b - h).toNat := by
  have hx := path_iff.1 hp
  have hE := ex2.1 (path_ex hp)
  have hD := dist_in hE
  have e := node_back n d a (distM n d a b).toNat h.toNat (by omega) (by omega)
  rw [node_end hE, show ((h.toNat : Nat) : Int) = h by omega, show (distM n d a b).toNat - h.toNat = (distM n d a b - h).toNat by omega] at e
  rw [← e, step_of _ (by omega), step_of _ (by omega)]
  rcases hd with rfl | rfl
  · rw [sg0, show (1 : Int) - 0 = 1 from rfl, sg1]
  · rw [show (1 : Int) - 1 = 0 from rfl, sg0, sg1, Int.neg_neg]
theorem path_step {n d a b h : Int} {K : Nat} (hp : pathB n d a b h = true) (hK : (distM n d a b - h).toNat = K) (h0 : 0 < K) (last : Int) (hl : last = if K = 1 then 1 else 2) :
    pathB n d a (nodeAt n d a K) last = true ∧ distM n d a (nodeAt n d a K) = K ∧ pathL n d a b h = pathL n d a (nodeAt n d a K) last ++ [nodeAt n d a K] := by
  have hx := path_iff.1 hp
  have hE := ex2.1 (path_ex hp)
  have hD := dist_in hE
  have e := node_dist n d a K (by omega) (by omega)
  refine ⟨path_iff.2 ?_, e, ?_⟩
  · rw [e, hl]; split <;> omega
  · rw [pathL, hK, pathL, e]
    match K, h0 with
    | 1, _ => rw [hl]; rfl
    | (j + 2), _ =>
      rw [hl, if_neg (by omega), show (((j + 2 : Nat) : Int) - 2).toNat = j by omega, posL, List.map_append]
      rfl

set_option maxRecDepth 100000 in
set_option maxHeartbeats 1000000 in
theorem refPath_go (n d a b h D z last : Int) (L : List Int) (w : World)
    (HD : Hid (Calls Tryd.prog 13 #[.int .i64 n, .int .u8 d, .int .i64 a, .int .i64 b] w fun e w' => e = .returned (.int .i64 D) ∧ w = w'))
    (HO : Hid (Calls Tryd.prog 32 #[.int .u8 d] w fun e w' => e = .returned (.int .u8 (1 - d)) ∧ w = w'))
    (HS : Hid (Calls Tryd.prog 11 #[.int .i64 n, .int .u8 (1 - d), .int .i64 b, .int .i64 h] w fun e w' => e = .returned (.int .i64 z) ∧ w = w'))
    (HR : Hid (Calls Tryd.prog 22 #[.int .i64 n, .int .u8 d, .int .i64 a, .int .i64 z, .int .i64 last] w fun e w' => ∃ A c, e = .returned (.tuple #[.slice A L.length c, .bool true]) ∧ Lies .i64 w' w'.heap.size A L.length L ∧ Below w.heap.size w w'))
    (hh : h = 1 ∨ h = 2) (hl : (D - h = 1 ∧ last = 1) ∨ (D - h ≠ 1 ∧ last = 2)) (hD : h < D) (hD' : D ≤ 15) (hL : L.length ≤ 100) :
    Calls Tryd.prog 22 #[.int .i64 n, .int .u8 d, .int .i64 a, .int .i64 b, .int .i64 h] w fun e w' => ∃ A c, e = .returned (.tuple #[.slice A (L.length + 1) c, .bool true]) ∧ Lies .i64 w' w'.heap.size A (L.length + 1) (L ++ [z]) ∧ Below w.heap.size w w' := by
  obtain ⟨i0, hi0, hz0, hz1, hz2⟩ := info_parts infoNums
  have c0 : decide (D < 1) = false := by simp; omega
  have c1 : (D == h) = false := by simp; omega
  have c2 : decide (D < h) = false := by simp; omega
  obtain ⟨m, hm⟩ : ∃ m, m = L.length := ⟨_, rfl⟩
  rw [← hm] at HR hL ⊢
  clear hm
  rcases hh with rfl | rfl <;> rcases hl with ⟨hl1, rfl⟩ | ⟨hl1, rfl⟩
  all_goals
    first
      | (have c3 : (D - 1 == 1) = true := by simpa using hl1)
      | (have c3 : (D - 1 == 1) = false := by simpa using hl1)
      | (have c3 : (D - 2 == 1) = true := by simpa using hl1)
      | (have c3 : (D - 2 == 1) = false := by simpa using hl1)
    clear hl1
    go_enter Tryd.func22, Tryd.ntmps22
    go_wp2_with (first
      | (go_at_call 13; (with_reducible refine HD.out.mono ?_); rintro e w' ⟨rfl, rfl⟩)
      | (go_at_call 32; (with_reducible refine HO.out.mono ?_); rintro e w' ⟨rfl, rfl⟩)
      | (go_at_call 11; (with_reducible refine HS.out.mono ?_); rintro e w' ⟨rfl, rfl⟩)
      | (go_at_call 22; (with_reducible refine HR.out.mono ?_); rintro e w1 ⟨A, c, rfl, hx1, hb1⟩)
      | (at_builtin; with_reducible refine wpList_append_lies rfl (.const (.slice none 0 0)) (.tmp 59) 30 rfl w.heap.size 3 i0 _ 8 Tryd.underlying30 hi0 hz0 hz1 hz2 rfl .i64 (.slice none 0 0) 0 [] rfl owns_none A m c L rfl hx1 m (Nat.zero_add m) (by unfold maxLen; omega) (by omega) hb1.size ?_))
    intro A1 c1' w2 hown hg _
    have hb2 := hb1.grown hg hb1.size (by simp [Value.ownBlock])
    clear hg hx1
    have hl1 := Lies.new w2 3 .i64 [z] 1 rfl #[.int .i64 z] rfl
    have hown' := hown.alloc (.cells #[.int .i64 z] 3)
    go_wp2_with (at_builtin; with_reducible refine wpList_append_lies rfl (.tmp 60) (.tmp 62) 30 rfl w.heap.size 3 i0 _ 8 Tryd.underlying30 hi0 hz0 hz1 hz2 rfl .i64 (.slice A1 m c1') m L rfl hown' (some ⟨w2.heap.size, 0, none⟩) 1 1 [z] rfl hl1 (m + 1) rfl (by unfold maxLen; omega) (by omega) (Nat.le_trans hb2.size (by simp)) ?_)
    intro A2 c2' w3 hown2 hg2 _
    have hb3 := (below_al hb2 _).grown hg2 (Nat.le_trans hb2.size (by simp)) (fun r hr => (hown.lt r hr).1)
    have hfin : Lies .i64 w3 w3.heap.size A2 (m + 1) (L ++ [z]) := lies_of_owns (e := 3) (base := w.heap.size) (c := c2') (by rw [List.map_append]; exact hown2)
    clear hown hown' hown2 hg2 hl1
    go_wp2_with fail
    go_ret2
    exact ⟨A2, c2', rfl, hfin, hb3⟩

set_option maxRecDepth 100000 in
set_option maxHeartbeats 1000000 in
theorem refPath_yes (n d a : Int) (hd : d = 0 ∨ d = 1) : ∀ (K : Nat) (b h : Int) (w : World), pathB n d a b h = true → (distM n d a b - h).toNat = K →
    Calls Tryd.prog 22 #[.int .i64 n, .int .u8 d, .int .i64 a, .int .i64 b, .int .i64 h] w fun e w' => ∃ A c, e = .returned (.tuple #[.slice A (pathL n d a b h).length c, .bool true]) ∧ Lies .i64 w' w'.heap.size A (pathL n d a b h).length (pathL n d a b h) ∧ Below w.heap.size w w' := by
  intro K
  induction K using Nat.strongRecOn with
  | _ K ih =>
    intro b h w hp hK
    have hx := path_iff.1 hp
    have hE := ex2.1 (path_ex hp)
    have hbd := dist_in hE
    have hAh := ahead_eq hd hp
    have HD := Lib.hid (refDist_any n d a b w (by omega) (by omega))
    have hh1 : 1 ≤ h := by omega
    have hh2 : h ≤ 2 := by omega
    have hn1 : 4 ≤ n := hE.1
    have hn2 : n ≤ 16 := hE.2.1
    have HH := Lib.hid hx.1
    rw [hK] at hAh
    rcases Nat.eq_zero_or_pos K with h0 | h0
    · have HL : Hid (pathL n d a b h = []) := Lib.hid (by rw [pathL, hK, h0]; rfl)
      obtain ⟨D, eD⟩ : ∃ D, D = distM n d a b := ⟨_, rfl⟩
      rw [← eD] at HD hbd hx hK
      have c0 : decide (D < 1) = false := by simp; omega
      have c1 : (D == h) = true := by simp; omega
      have c2 : decide (D < h) = false := by simp; omega
      have hb1 : D ≤ 15 := by omega
      clear eD hx hE hbd hK hAh hp ih
      have hcase := HH.out
      rcases hcase with rfl | rfl
      all_goals
        go_enter Tryd.func22, Tryd.ntmps22
        go_wp2_with (go_at_call 13; (with_reducible refine HD.out.mono ?_); rintro e w' ⟨rfl, rfl⟩)
        go_ret2
        rw [HL.out]
        exact ⟨none, 0, rfl, Lies.nil_, Below.refl _ _⟩
    · have hst := path_step hp hK h0 (if K = 1 then 1 else 2) rfl
      have HO := Lib.hid (other_any d w hd)
      have HS := Lib.hid (refStep_any n (1 - d) b h w (by omega) (by omega))
      rw [hAh] at HS
      obtain ⟨hs1, hs2, hs3⟩ := hst
      have hlen := pathL_len n d a (nodeAt n d a K) (if K = 1 then 1 else 2)
      rw [hs2] at hlen
      have hR := ih ((K : Int) - (if K = 1 then 1 else 2)).toNat (by split <;> omega) (nodeAt n d a K) (if K = 1 then 1 else 2) w hs1 (by rw [hs2])
      have hg := refPath_go n d a b h (distM n d a b) (nodeAt n d a K) (if K = 1 then 1 else 2) _ w HD HO HS (Lib.hid hR) hx.1 (by split <;> omega) (by omega) (by omega) (by rw [hlen]; omega)
      rw [hs3, List.length_append]
      exact hg
end Go.Proofs.YthjplgiinkijcaaDoor
