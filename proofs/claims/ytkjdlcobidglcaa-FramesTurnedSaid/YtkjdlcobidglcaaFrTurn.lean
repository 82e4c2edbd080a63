/-
  The law FramesTurned: it returns true, and nothing that was there has turned. Conditions: the numbers are of their kinds.
-/
import Derived.Test.YtkjdlcobidglcaaFrAll
import Derived.Test.YtkjdlcobidglcaaFrTM
import Derived.Test.YtkjdlcobidglcaaFrEq
import Derived.Deep.Cut
import Derived.Deep.CutRange
namespace Go.Proofs.Ytkjdlcobidglcaa
open Go.RowKit Crc

theorem frRead_bad (A : Option Addr) (n c : Nat) (xs : List Int) (w : World) (hx : Lies .u8 w w.heap.size A n xs) (hc : n ≤ c) (h : readOk xs = false) :
    Calls Try.prog 30 #[.slice A n c] w fun e w' => e = .returned (.tuple #[.agg #[.int .i64 0, .int .u8 0, .int .u8 0, .int .u32 0, .int .u32 0], .agg #[.bool false, .bool false], .int .i64 4]) ∧ Below w.heap.size w w' := by
  have hr := frRead_any A n c xs w hx hc
  obtain ⟨e1, e2, e3, e4⟩ := read_no h
  rw [e1, e2, e3, e4] at hr
  exact hr

set_option maxRecDepth 100000 in
set_option maxHeartbeats 8000000 in
theorem turned_walk (f : Fr) (ow k v y : Int) (w : World) (hf : f.Fit) (hm : mayB f.o f.k = true) (ho : ow % 8 = f.o) (hk : 1 + k % 2 = f.k) (ho0 : 0 ≤ ow) (ho1 : ow ≤ 255) (hk0 : 0 ≤ k) (hk1 : k ≤ 255) (hv0 : 0 ≤ v) (hv1 : v < 4294967296) (hy0 : 0 ≤ y) (hy1 : y < 4294967296) :
    Calls Try.prog 7 #[.int .u8 ow, .agg #[.int .u8 k, .int .u8 f.s, .int .u32 f.q, .int .u32 f.v], .agg #[.int .u32 v, .int .u32 y]] w fun e w' => e = .returned (.bool true) ∧ Below w.heap.size w w' := by
  have HOF := Lib.hid (fun u => law5_of_any f u)
  have HSY := Lib.hid (fun u => frSyms_yes f true false u hf hm)
  have HSL := Lib.hid (symX_length f true false)
  have HRT := Lib.hid (fun F hF hv => read_turned f hf hm F v hF hv0 hv1 hv)
  have HRP := Lib.hid (read_put f true false hf hm)
  obtain ⟨X, hX⟩ : ∃ X, X = ofL (putL f.body) ++ tailL true false := ⟨_, rfl⟩
  rw [← hX] at HSY HSL HRT HRP
  clear hX hm
  have hw := Below.refl w.heap.size w
  go_enter Try.func7, Try.ntmps7
  obtain ⟨F, hF⟩ : ∃ F : Nat, y % 81 = (F : Int) := ⟨(y % 81).toNat, by omega⟩
  obtain ⟨p, hp⟩ : ∃ p : Nat, y % 114 = (p : Int) := ⟨(y % 114).toNat, by omega⟩
  have hF80 : F ≤ 80 := by omega
  have hp113 : p < 114 := by omega
  have hZ := Blk.new (w.alloc (.cells #[.int .u8 f.k, .int .u8 f.s, .int .u32 f.q, .int .u32 f.v] 25)) 74 #[.int .u32 v, .int .u32 y]
  rw [alloc_size w] at hZ
  replace hw := below_al (below_al hw (.cells #[.int .u8 f.k, .int .u8 f.s, .int .u32 f.q, .int .u32 f.v] 25)) (.cells #[.int .u32 v, .int .u32 y] 74)
  have HP114 := Lib.hid hp
  clear hp
  go_wp2_with fail
  with_reducible refine (HOF.out _).mono ?_
  rintro e w1 ⟨rfl, hb⟩
  replace hZ := hZ.on hb
  replace hw := below_then hw hb
  clear hb
  clear ho hk
  go_wp2_with fail
  with_reducible refine (HSY.out _).mono ?_
  rintro e w2 ⟨g, rfl, hg, hS, hb⟩
  have HGB := Lib.hid (show w.heap.size ≤ g from Nat.le_trans hw.size hg)
  clear hg
  replace hZ := hZ.on hb
  replace hw := below_then hw hb
  clear hb
  clear HOF HSY
  have zc0 := hZ.cell 0
  have zc1 := hZ.cell 1
  simp only [List.getElem?_toArray, List.getElem?_cons_zero, List.getElem?_cons_succ] at zc0 zc1
  have zcl := hZ.lt
  go_wp2_with fail
  have HF := Lib.hid hF
  rw [hF]
  obtain ⟨i0, hi0, hz0, hz1, hz2⟩ := info_parts infoNums
  clear zc0 zc1 zcl hF
  have H_hZ := Lib.hid hZ
  have H_hS := Lib.hid hS
  have H_hw := Lib.hid hw
  clear hZ hS hw
  go_loopw [10, 11] (fun av iv wr => ∃ (k : Nat) (A' : Option Addr) (c' : Nat), k ≤ 32 ∧ iv = .int .i64 k ∧ av = .slice A' (atsL F v k).length c' ∧ wr.ownsRow w2.heap.size 3 1 (.slice A' (atsL F v k).length c') (atsL F v k).length ((atsL F v k).map (Value.int .i64)) ∧ Below w2.heap.size w2 wr) (fun _ iv _ => 32 - (intOf iv).toNat)
  case atStart => exact ⟨0, none, 0, Nat.zero_le _, rfl, rfl, owns_none, Below.refl _ _⟩
  case round =>
    obtain ⟨k, A', c', hk, rfl, rfl, hown, hb⟩ := hrel
    by_cases hlt : k < 32
    · have hlti : (k : Int) < 32 := by omega
      have hk0 : (0 : Int) ≤ (k : Int) := by omega
      have hkn : (k : Int) ≤ 31 := by omega
      have hbit := bit32 v k hv0 hv1
      have HT := Lib.hid (show atsL F v (k + 1) = if v.toNat.testBit k then atsL F v k ++ [((F + k : Nat) : Int)] else atsL F v k from rfl)
      have hZr := H_hZ.out.below hb H_hZ.out.lt
      have z0 := hZr.cell 0
      simp only [List.getElem?_toArray, List.getElem?_cons_zero] at z0
      have zl := hZr.lt
      clear hZr
      have hnl := atsL_length F v k
      obtain ⟨ts, hts⟩ : ∃ ts, ts = atsL F v k := ⟨_, rfl⟩
      obtain ⟨n, hn⟩ : ∃ n, n = ts.length := ⟨_, rfl⟩
      rw [← hts] at HT hown hnl ⊢
      rw [← hn] at hown hnl ⊢
      have HN := Lib.hid hn
      obtain ⟨t, ht⟩ : ∃ t, t = v.toNat.testBit k := ⟨_, rfl⟩
      rw [← ht] at hbit HT
      clear ht hts hn
      cases t
      · have HT' := Lib.hid (show atsL F v (k + 1) = ts from HT.out)
        clear HT
        go_wp2_with fail
        go_roundw
        case rel => exact ⟨k + 1, A', c', by omega, by go_num, by rw [HT'.out, ← HN.out], by rw [HT'.out, ← HN.out]; exact hown, hb⟩
        case measure => simp [intOf]; omega
      · have HT' := Lib.hid (show atsL F v (k + 1) = ts ++ [((F + k : Nat) : Int)] from HT.out)
        clear HT
        have hfk : (F : Int) + (k : Int) = ((F + k : Nat) : Int) := by omega
        have hfk9 : F + k ≤ 111 := by omega
        obtain ⟨q, hq⟩ : ∃ q, q = F + k := ⟨_, rfl⟩
        rw [← hq] at hfk HT' hfk9
        clear hq
        have hl1 := Lies.new wr 3 .i64 [(q : Int)] 1 rfl #[.int .i64 (q : Int)] rfl
        have hown' := hown.alloc (.cells #[.int .i64 (q : Int)] 3)
        go_wp2_with (first
          | (at_builtin; with_reducible refine wpList_append_lies rfl (.tmp 60) (.tmp 64) 75 rfl w2.heap.size 3 i0 _ 8 Try.underlying75 hi0 hz0 hz1 hz2 rfl .i64 (.slice A' n c') n ts rfl hown' (some ⟨wr.heap.size, 0, none⟩) 1 1 [(q : Int)] rfl hl1 (n + 1) rfl (by unfold maxLen; omega) (by omega) (Nat.le_trans hb.size (by simp)) ?_))
        intro A2 c2 w3 hown2 hg2 _
        have hb2 := (hb.alloc hb.size (.cells #[.int .i64 (q : Int)] 3)).grown hg2 (Nat.le_trans hb.size (by simp)) (fun r hr => (hown.lt r hr).1)
        have HN2 := Lib.hid (show (ts ++ [(q : Int)]).length = n + 1 by rw [List.length_append, ← HN.out]; rfl)
        clear hown hown' hg2 hl1 hfk
        go_wp2_with fail
        go_roundw
        case rel => exact ⟨k + 1, A2, c2, by omega, by go_num, by rw [HT'.out, HN2.out], by rw [HT'.out, HN2.out, List.map_append]; exact hown2, hb2⟩
        case measure => simp [intOf]; omega
    · obtain rfl : k = 32 := by omega
      have hZ := H_hZ.out.below hb H_hZ.out.lt
      have hS := H_hS.out.below hb H_hS.out.lt
      have hw := below_then H_hw.out hb
      have hlp := lies_of_owns hown
      have hn32 := atsL_length F v 32
      have HV0 := Lib.hid (show v = 0 → (atsL F v 32).length = 0 from fun e => by rw [e, atsL_none]; rfl)
      have HV1 := Lib.hid (show v ≠ 0 → 0 < (atsL F v 32).length from fun e => by
        obtain ⟨i, h1, h2⟩ := bit_of v hv0 hv1 e
        exact atsL_some F v i h2 32 h1)
      have HRT1 := Lib.hid (fun hv => HRT.out F hF80 hv)
      have HAB := Lib.hid (show readA (turnAll X (atsL F v 32)) = true ∧ readB (turnAll X (atsL F v 32)) = false by
        by_cases e : v = 0
        · rw [e, atsL_none]; exact HRP.out.2.2
        · exact (HRT.out F hF80 e).2.2)
      obtain ⟨P, hP⟩ : ∃ P, P = atsL F v 32 := ⟨_, rfl⟩
      rw [← hP] at hlp hn32 HV0 HV1 HRT1 HAB ⊢
      obtain ⟨n, hn⟩ : ∃ n, n = P.length := ⟨_, rfl⟩
      rw [← hn] at hlp hn32 HV0 HV1 ⊢
      have HTL := Lib.hid (turnAll_length P X)
      have HRD := Lib.hid (fun u A c (h : Lies .u8 u u.heap.size A 114 (turnAll X P)) (hc : 114 ≤ c) => frRead_any A 114 c _ u h hc)
      rw [HAB.out.1, HAB.out.2] at HRD
      obtain ⟨T, hT0⟩ : ∃ T, T = turnAll X P := ⟨_, rfl⟩
      rw [← hT0] at HRD HRT1 HTL
      obtain ⟨RF, hRF⟩ : ∃ RF, RF = readF T := ⟨_, rfl⟩
      obtain ⟨RE, hRE⟩ : ∃ RE, RE = readE T := ⟨_, rfl⟩
      rw [← hRF, ← hRE] at HRD HRT1
      have HTU := Lib.hid (fun u (h1 : Lies .u8 u u.heap.size (some ⟨g, 0, none⟩) 114 X) (h2 : Lies .i64 u u.heap.size A' n P) => turn_any (some ⟨g, 0, none⟩) A' 114 n 114 c' X P u h1 h2 (by omega) (by omega))
      rw [← hT0] at HTU
      have hni : (n : Int) ≤ 32 := by omega
      clear hP hn hT0 hRF hRE H_hZ H_hS H_hw hb hown HRT HAB hlt hk hi0 hz0 hz1 hz2
      go_wp2_with fail
      with_reducible refine (HTU.out _ (hS.lies HSL.out) hlp).mono ?_
      rintro e w3 ⟨g3, rfl, hg3, hB3, hb⟩
      replace hZ := hZ.on hb
      replace hS := hS.on hb
      replace hw := below_then hw hb
      clear hb
      clear hlp HTU
      go_wp2_with fail
      with_reducible refine (HRD.out _ _ _ (hB3.lies (HTL.out.trans HSL.out)) (Nat.le_refl _)).mono ?_
      rintro e w4 ⟨rfl, hb⟩
      replace hZ := hZ.on hb
      replace hS := hS.on hb
      replace hw := below_then hw hb
      clear hb
      clear hB3 HRD hg3
      have hG := (Blk.new w4 34 #[.int .i64 RF.o, .int .u8 RF.k, .int .u8 RF.s, .int .u32 RF.q, .int .u32 RF.v]).alloc (.cells #[.bool true, .bool false] 38)
      have hT := Blk.new (w4.alloc (.cells #[.int .i64 RF.o, .int .u8 RF.k, .int .u8 RF.s, .int .u32 RF.q, .int .u32 RF.v] 34)) 38 #[.bool true, .bool false]
      rw [alloc_size w4] at hT
      replace hZ := hZ.on (below_al (Below.refl _ _) (.cells #[.int .i64 RF.o, .int .u8 RF.k, .int .u8 RF.s, .int .u32 RF.q, .int .u32 RF.v] 34))
      replace hS := hS.on (below_al (Below.refl _ _) (.cells #[.int .i64 RF.o, .int .u8 RF.k, .int .u8 RF.s, .int .u32 RF.q, .int .u32 RF.v] 34))
      replace hw := below_al hw (.cells #[.int .i64 RF.o, .int .u8 RF.k, .int .u8 RF.s, .int .u32 RF.q, .int .u32 RF.v] 34)
      replace hZ := hZ.on (below_al (Below.refl _ _) (.cells #[.bool true, .bool false] 38))
      replace hS := hS.on (below_al (Below.refl _ _) (.cells #[.bool true, .bool false] 38))
      replace hw := below_al hw (.cells #[.bool true, .bool false] 38)
      have gc0 := hG.cell 0
      have gc1 := hG.cell 1
      have gc2 := hG.cell 2
      have gc3 := hG.cell 3
      have gc4 := hG.cell 4
      simp only [List.getElem?_toArray, List.getElem?_cons_zero, List.getElem?_cons_succ] at gc0 gc1 gc2 gc3 gc4
      have gcl := hG.lt
      have tc0 := hT.cell 0
      have tc1 := hT.cell 1
      simp only [List.getElem?_toArray, List.getElem?_cons_zero, List.getElem?_cons_succ] at tc0 tc1
      have tcl := hT.lt
      go_upto_region 13 with fail
      have hbz : ∃ u5, u5 = (w4.alloc (.cells #[.int .i64 RF.o, .int .u8 RF.k, .int .u8 RF.s, .int .u32 RF.q, .int .u32 RF.v] 34)).alloc (.cells #[.bool true, .bool false] 38) := ⟨_, rfl⟩
      obtain ⟨u5, hu5⟩ := hbz
      obtain ⟨n4, hn4⟩ : ∃ n4, n4 = w4.heap.size := ⟨_, rfl⟩
      rw [← hu5] at hZ hS hG hT hw gc0 gc1 gc2 gc3 gc4 gcl tc0 tc1 tcl ⊢
      rw [← hn4] at hG hT gc0 gc1 gc2 gc3 gc4 gcl tc0 tc1 tcl ⊢
      clear hu5 hn4
      go_cut [90] from 74 to 90 (fun s90 wx => s90 = .bool false ∧ Below u5.heap.size u5 wx)
      case first =>
        clear hZ hS hG hT hw
        by_cases hv : v = 0
        · have hn0 := HV0.out hv
          subst hn0
          clear hv
          go_wp2_with (go_at_call 16; with_reducible refine (tgood_any true false _).mono ?_; rintro e w6 ⟨rfl, hb6⟩)
          go_meet
          exact ⟨rfl, hb6⟩
        · have hnp := HV1.out hv
          have hnp' : (0 : Int) < (n : Int) := by omega
          obtain ⟨e1, e2, _⟩ := HRT1.out hv
          subst e1 e2
          have hq := fun W => fr_neq 0 0 0 0 0 0 0 0 0 0 W
          simp only [beq_self_eq_true, Bool.and_self, Bool.not_true] at hq
          simp only [Fr.zero] at gc0 gc1 gc2 gc3 gc4
          clear hv
          go_wp2_with (go_at_call 16; with_reducible refine (tgood_any true false _).mono ?_; rintro e w6 ⟨rfl, hb6⟩)
          go_meet
          exact ⟨rfl, hb6⟩
      case rest =>
        obtain ⟨rfl, hb⟩ := hcut
        clear gc0 gc1 gc2 gc3 gc4 gcl tc0 tc1 tcl
        clear hG hT HV0 HV1 HRT1
        replace hZ := hZ.on hb
        replace hS := hS.on hb
        replace hw := below_then hw hb
        clear hb
        have hsl := fun W => uptoSyms (some ⟨g, 0, none⟩) 114 114 113 (by omega) (by omega) W
        rw [show (113 : Int).toNat = 113 from rfl] at hsl
        have hl6 := (hS.lies HSL.out).head (h := 113) (by omega)
        have HR6 := Lib.hid (frRead_bad (some ⟨g, 0, none⟩) 113 114 (X.take 113) _ hl6 (by omega) (by simp [readOk, HSL.out]))
        clear hl6
        go_wp2_with fail
        with_reducible refine (HR6.out).mono ?_
        rintro e w6 ⟨rfl, hb⟩
        replace hZ := hZ.on hb
        replace hS := hS.on hb
        replace hw := below_then hw hb
        clear hb
        clear HR6 hsl
        replace hZ := hZ.on (below_al (Below.refl _ _) (.cells #[.int .i64 0, .int .u8 0, .int .u8 0, .int .u32 0, .int .u32 0] 34))
        replace hS := hS.on (below_al (Below.refl _ _) (.cells #[.int .i64 0, .int .u8 0, .int .u8 0, .int .u32 0, .int .u32 0] 34))
        replace hw := below_al hw (.cells #[.int .i64 0, .int .u8 0, .int .u8 0, .int .u32 0, .int .u32 0] 34)
        replace hZ := hZ.on (below_al (Below.refl _ _) (.cells #[.bool false, .bool false] 38))
        replace hS := hS.on (below_al (Below.refl _ _) (.cells #[.bool false, .bool false] 38))
        replace hw := below_al hw (.cells #[.bool false, .bool false] 38)
        obtain ⟨j0, hj0, hy00, hy10, hy20⟩ := info_parts info_sym
        obtain ⟨u6, hu6⟩ : ∃ u6, u6 = (w6.alloc (.cells #[.int .i64 0, .int .u8 0, .int .u8 0, .int .u32 0, .int .u32 0] 34)).alloc (.cells #[.bool false, .bool false] 38) := ⟨_, rfl⟩
        go_upto_region 16 with fail
        rw [← hu6] at hZ hS hw ⊢
        clear hu6
        have hl7 := hS.lies HSL.out
        go_wp2_with (first
          | (at_builtin; with_reducible refine wpList_append_lies rfl (.const (.slice none 0 0)) (.tmp 99) 40 rfl u6.heap.size 77 j0 _ 1 Try.underlying40 hj0 hy00 hy10 hy20 rfl .u8 (.slice none 0 0) 0 [] rfl owns_none (some ⟨g, 0, none⟩) 114 114 X rfl hl7 114 rfl (by unfold maxLen; omega) (by omega) (Nat.le_refl _) ?_))
        intro A7 c7 w7 hown7 hg7 _
        have hb7 := (Below.refl u6.heap.size u6).grown hg7 (Nat.le_refl _) (by simp [Value.ownBlock])
        have hown7' : w7.ownsRow u6.heap.size 77 1 (.slice A7 114 c7) 114 (X.map (Value.int .u8)) := hown7
        clear hl7 hg7 hown7
        have hl8 := Lies.new w7 77 .u8 [1] 1 rfl #[.int .u8 1] rfl
        have hown8 := hown7'.alloc (.cells #[.int .u8 1] 77)
        have hb8 := below_al hb7 (.cells #[.int .u8 1] 77)
        have hsz := hb8.size
        go_wp2_with (first
          | (at_builtin; with_reducible refine wpList_append_lies rfl (.tmp 100) (.tmp 101) 40 rfl u6.heap.size 77 j0 _ 1 Try.underlying40 hj0 hy00 hy10 hy20 rfl .u8 (.slice A7 114 c7) 114 X rfl hown8 (some ⟨w7.heap.size, 0, none⟩) 1 1 [1] rfl hl8 115 rfl (by unfold maxLen; omega) (by omega) hsz ?_))
        intro A9 c9 w9 hown9 hg9 _
        have hown9' : w9.ownsRow u6.heap.size 77 1 (.slice A9 115 c9) 115 ((X ++ [1]).map (Value.int .u8)) := by
          rw [List.map_append]; exact hown9
        have hb := hb8.grown hg9 hsz (fun r hr => (hown7'.lt r hr).1)
        have hl9 := lies_of_owns hown9'
        have hc9 := owns_cap hown9'
        clear hown7' hown8 hown9 hown9' hg9 hl8 hb7 hb8 hsz hj0 hy00 hy10 hy20
        replace hZ := hZ.on hb
        replace hS := hS.on hb
        replace hw := below_then hw hb
        clear hb
        have HR9 := Lib.hid (frRead_bad A9 115 c9 (X ++ [1]) w9 hl9 hc9 (by simp [readOk, HSL.out]))
        clear hl9 hc9
        go_wp2_with fail
        with_reducible refine (HR9.out).mono ?_
        rintro e w10 ⟨rfl, hb⟩
        replace hZ := hZ.on hb
        replace hS := hS.on hb
        replace hw := below_then hw hb
        clear hb
        clear HR9
        replace hZ := hZ.on (below_al (Below.refl _ _) (.cells #[.int .i64 0, .int .u8 0, .int .u8 0, .int .u32 0, .int .u32 0] 34))
        replace hS := hS.on (below_al (Below.refl _ _) (.cells #[.int .i64 0, .int .u8 0, .int .u8 0, .int .u32 0, .int .u32 0] 34))
        replace hw := below_al hw (.cells #[.int .i64 0, .int .u8 0, .int .u8 0, .int .u32 0, .int .u32 0] 34)
        replace hZ := hZ.on (below_al (Below.refl _ _) (.cells #[.bool false, .bool false] 38))
        replace hS := hS.on (below_al (Below.refl _ _) (.cells #[.bool false, .bool false] 38))
        replace hw := below_al hw (.cells #[.bool false, .bool false] 38)
        obtain ⟨u10, hu10⟩ : ∃ u10, u10 = (w10.alloc (.cells #[.int .i64 0, .int .u8 0, .int .u8 0, .int .u32 0, .int .u32 0] 34)).alloc (.cells #[.bool false, .bool false] 38) := ⟨_, rfl⟩
        go_upto_region 17 with fail
        rw [← hu10] at hZ hS hw ⊢
        clear hu10
        have hp := HP114.out
        have z1 := hZ.cell 1
        simp only [List.getElem?_toArray, List.getElem?_cons_zero, List.getElem?_cons_succ] at z1
        have zl := hZ.lt
        have s1 := (hS.cell p).trans (cellsOf_at .u8 X p (by rw [HSL.out]; exact hp113))
        have sf := hS.frozen p
        have sl := hS.lt
        have hS' := hS.set_ p (.int .u8 0)
        rw [cellsOf_set] at hS'
        have hw' := hw.setCell (p := ⟨g, p, none⟩) HGB.out (.int .u8 0)
        have HR11 := Lib.hid (frRead_bad (some ⟨g, 0, none⟩) 114 114 (X.set p 0) _ (hS'.lies (by rw [List.length_set, HSL.out])) (by omega) (by simp [readOk, wholeL_set0 X p (by rw [HSL.out]; exact hp113)]))
        have hpi : (p : Int) < 114 := by omega
        clear hS hZ hS' hw
        go_wp2_with fail
        with_reducible refine (HR11.out).mono ?_
        rintro e w11 ⟨rfl, hb⟩
        have hw11 := below_then hw' hb
        have hq := fun W => tail_eql false false false false W
        simp only [beq_self_eq_true, Bool.and_self] at hq
        clear HR11 hw' hb s1 sf sl z1 zl hp
        go_wp2_with (go_at_call 23; with_reducible refine (frLives_any _).mono ?_; rintro e w12 ⟨rfl, hb12⟩)
        go_ret
        exact ⟨rfl, below_then (below_al (below_al hw11 _) _) hb12⟩
theorem fitT_of {o k s q z : Int} (h : (Lit.int .u8 k).wf = true ∧ (Lit.int .u8 s).wf = true ∧ (Lit.int .u32 q).wf = true ∧ (Lit.int .u32 z).wf = true) : (Fr.mk o (1 + k % 2) s q z).Fit := by
  obtain ⟨h1, h2, h3, h4⟩ := h
  have b1 := bounds_u8 h1
  have b2 := bounds_u8 h2
  have b3 := bounds_u32 h3
  have b4 := bounds_u32 h4
  constructor <;> simp only <;> omega
theorem framesTurned.framesTurned_walk (ow k s q z v y : Int) (w : World) (ho : (Lit.int .u8 ow).wf = true)
    (h : (Lit.int .u8 k).wf = true ∧ (Lit.int .u8 s).wf = true ∧ (Lit.int .u32 q).wf = true ∧ (Lit.int .u32 z).wf = true) (hv : (Lit.int .u32 v).wf = true) (hy : (Lit.int .u32 y).wf = true) :
    Calls Try.prog 7 #[.int .u8 ow, .agg #[.int .u8 k, .int .u8 s, .int .u32 q, .int .u32 z], .agg #[.int .u32 v, .int .u32 y]] w fun e w' => e = .returned (.bool true) ∧ Below w.heap.size w w' := by
  have b0 := bounds_u8 ho
  have b1 := bounds_u8 h.1
  have b2 := bounds_u32 hv
  have b3 := bounds_u32 hy
  exact turned_walk ⟨ow % 8, 1 + k % 2, s, q, z⟩ ow k v y w (fitT_of h) ((mayB_iff _ _).2 ⟨by simp only; omega, by simp only; omega, by simp only; omega⟩) rfl rfl b0.1 b0.2 b1.1 b1.2 b2.1 (by omega) b3.1 (by omega)
end Go.Proofs.Ytkjdlcobidglcaa
