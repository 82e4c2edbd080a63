/-
  The law ConfigsEdges, walked: with one number that is too great, or too small, a config may not be, by the error that is told: true; nothing that was there has turned. Conditions: the table of directions is as the program's text lays it; the numbers are of their kinds.
-/
import Derived.Test.YtibniadebbgjcaaDoorCfE
import Derived.Test.YtibniadebbgjcaaDoorCfT
import Derived.Test.YtibniadebbgjcaaDoorCfEdges
import Derived.Deep.RegionLaw
namespace Go.Proofs.YtibniadebbgjcaaDoor
open Go.RowKit Rg

set_option maxRecDepth 100000 in
set_option maxHeartbeats 8000000 in
theorem edges_13 (a b : Int) (w : World) (hw : Ways w) (ha0 : 0 ≤ a) (hb0 : 0 ≤ b) (hb1 : b ≤ 255) (hk13 : a % 14 = 13) :
    Calls Tryd.prog 8 #[.int .u8 a, .int .u8 b] w fun e w' => e = .returned (.bool true) ∧ Below w.heap.size w w' := by
  obtain ⟨n, hn⟩ : ∃ n : Nat, (n : Int) = 4 + b % 13 := ⟨(4 + b % 13).toNat, by omega⟩
  have h1 : 4 ≤ n := by omega
  have h2 : n ≤ 16 := by omega
  have hmk := fun u => makeNums (n : Int) (by omega) (by omega) u
  simp only [Int.toNat_natCast] at hmk
  have hs4 : 4 + b % 13 = (n : Int) := hn.symm
  have hwk : a % 14 = 13 := hk13
  have hwk' : a.tmod 14 = 13 := by rw [Int.tmod_eq_emod_of_nonneg ha0]; exact hk13
  clear hn hk13
  go_enter Tryd.func8, Tryd.ntmps8
  go_wp2_with (first
    | (go_at_call 33; (with_reducible refine (small_any w).mono ?_); rintro e w1 ⟨A1, A2, A3, rfl, h1c, b1⟩))
  have hV := ((Blk.new w1 25 #[.int .i64 (n : Int), .slice A1 2 2, .slice A2 3 3, .int .i64 ((n : Int) + 116), .slice (some ⟨w1.heap.size + 1, 0, none⟩) n n, .slice (some ⟨w1.heap.size + 1 + 1, 0, none⟩) 1 1, .int .i64 3, .int .i64 3, .int .i64 3]).alloc (.cells (madeCells #[.int .i64 0] n) 3)).alloc (.cells #[.int .i64 ((n : Int) - 1), .int .u32 0, .int .i64 100] 51)
  have hO := (Blk.new (w1.alloc (.cells #[.int .i64 (n : Int), .slice A1 2 2, .slice A2 3 3, .int .i64 ((n : Int) + 116), .slice (some ⟨w1.heap.size + 1, 0, none⟩) n n, .slice (some ⟨w1.heap.size + 1 + 1, 0, none⟩) 1 1, .int .i64 3, .int .i64 3, .int .i64 3] 25)) 3 (madeCells #[.int .i64 0] n)).alloc (.cells #[.int .i64 ((n : Int) - 1), .int .u32 0, .int .i64 100] 51)
  have hT := Blk.new ((w1.alloc (.cells #[.int .i64 (n : Int), .slice A1 2 2, .slice A2 3 3, .int .i64 ((n : Int) + 116), .slice (some ⟨w1.heap.size + 1, 0, none⟩) n n, .slice (some ⟨w1.heap.size + 1 + 1, 0, none⟩) 1 1, .int .i64 3, .int .i64 3, .int .i64 3] 25)).alloc (.cells (madeCells #[.int .i64 0] n) 3)) 51 #[.int .i64 ((n : Int) - 1), .int .u32 0, .int .i64 100]
  rw [alloc_size] at hO
  rw [alloc_size, alloc_size] at hT
  have eO : madeCells #[.int .i64 0] n = cellsOf .i64 (List.replicate n 0) := by
    apply Array.toList_inj.1
    rw [toList_madeCells_one]
    simp [cellsOf]
  have hO2 := hO
  rw [show Blk _ _ _ (madeCells #[Value.int .i64 0] n) = Blk _ _ _ (cellsOf .i64 (List.replicate n 0)) by rw [← eO]] at hO2
  have hbW := below_al (below_al (below_al (Below.refl w1.heap.size w1) (.cells #[.int .i64 (n : Int), .slice A1 2 2, .slice A2 3 3, .int .i64 ((n : Int) + 116), .slice (some ⟨w1.heap.size + 1, 0, none⟩) n n, .slice (some ⟨w1.heap.size + 1 + 1, 0, none⟩) 1 1, .int .i64 3, .int .i64 3, .int .i64 3] 25)) (.cells (madeCells #[.int .i64 0] n) 3)) (.cells #[.int .i64 ((n : Int) - 1), .int .u32 0, .int .i64 100] 51)
  have hLT : ∀ U, Blk U (w1.heap.size + 1 + 1) 51 #[.int .i64 ((n : Int) - 1), .int .u32 0, .int .i64 100] → LiesT U U.heap.size (some ⟨w1.heap.size + 1 + 1, 0, none⟩) 1 [((n : Int) - 1, 0, 100)] := fun U h => h.liesT (fun j _ => by simp [stCells]) rfl
  have HLT := Lib.hid hLT
  have hw1 := hw.on b1
  (with_reducible refine (wrong_d (edge n A1 A2 (some ⟨w1.heap.size + 1, 0, none⟩) (some ⟨w1.heap.size + 1 + 1, 0, none⟩)) 0 (e_ok h1 h2) _ (edge_in (edge n A1 A2 (some ⟨w1.heap.size + 1, 0, none⟩) (some ⟨w1.heap.size + 1 + 1, 0, none⟩)) h1c hbW ⟨rfl, rfl, rfl⟩ (h1c.on hbW).s (hO2.lies (by simp)) (hLT _ hT) (by simp only; omega)) (hw1.on hbW)).mono ?_)
  rintro e w2 ⟨rfl, b2⟩
  have hV2 := hV.on b2
  have hO3 := hO2.on b2
  have hT2 := hT.on b2
  have hb12 := below_then hbW b2
  obtain ⟨k0, k1, k2, k3, k4, k5, k6, k7, k8⟩ := Blk.cf (c := edge n A1 A2 (some ⟨w1.heap.size + 1, 0, none⟩) (some ⟨w1.heap.size + 1 + 1, 0, none⟩)) hV2
  have hfr := hV2.frozen
  have H1C := Lib.hid h1c
  clear hmk hV hO hO2 hT hbW b2 hLT eO h1c
  have hO4 := hO3
  have hinit : Blk w2 w1.heap.size 25 #[.int .i64 (n : Int), .slice A1 2 2, .slice A2 3 3, .int .i64 ((n : Int) + 116), .slice (some ⟨w1.heap.size + 1, 0, none⟩) n n, .slice (some ⟨w1.heap.size + 1 + 1, 0, none⟩) 1 1, .int .i64 3, .int .i64 3, .int .i64 3] := hV2
  have hown2 : w2.ownsRow (w1.heap.size + 1 + 1) 51 3 (.slice (some ⟨w1.heap.size + 1 + 1, 0, none⟩) 1 1) 1 (stCells (List.replicate 1 ((n : Int) - 1, 0, 100))) :=
    ⟨by simp [stCells], .inr ⟨_, 1, _, rfl, Nat.le_refl _, hT2, Nat.le_refl _, by simp [maxLen], by simp, by simp [stCells]⟩⟩
  obtain ⟨i0, hi0, hz0, hz1, hz2⟩ := info_parts infoSts
  have H8 := Lib.hid (e_13 h1 h2)
  have H9 := Lib.hid (e_13e h1 h2)
  go_wp2_with fail
  clear k0 k1 k2 k3 k4 k5 k6 k7 k8 hfr
  go_loopw [4] (fun s4 wr => s4 = .bool false ∧ ∃ j g cap : Nat, 1 ≤ j ∧ j ≤ 9 ∧ Blk wr w1.heap.size 25 #[.int .i64 (n : Int), .slice A1 2 2, .slice A2 3 3, .int .i64 ((n : Int) + 116), .slice (some ⟨w1.heap.size + 1, 0, none⟩) n n, .slice (some ⟨g, 0, none⟩) j cap, .int .i64 3, .int .i64 3, .int .i64 3] ∧ wr.ownsRow (w1.heap.size + 1 + 1) 51 3 (.slice (some ⟨g, 0, none⟩) j cap) j (stCells (List.replicate j ((n : Int) - 1, 0, 100))) ∧ Blk wr (w1.heap.size + 1) 3 (cellsOf .i64 (List.replicate n 0)) ∧ Below w1.heap.size w1 wr) (fun _ wr => 10 - stLen (wr.cell? ⟨w1.heap.size, 5, none⟩))
  case atStart => exact ⟨rfl, 1, w1.heap.size + 1 + 1, 1, by omega, by omega, hinit, hown2, hO4, hb12⟩
  case round =>
    clear hinit hown2 hO4 hb12
    obtain ⟨rfl, j, g, cap, hj1, hj9, hVj, hown, hOj, hbj⟩ := hrel
    have hLj := owns_liesT hown (by simp) (by omega)
    obtain ⟨k0, k1, k2, k3, k4, k5, k6, k7, k8⟩ := Blk.cf (c := Cf.mk (n : Int) ((n : Int) + 116) 3 3 3 A1 2 2 A2 3 3 (some ⟨w1.heap.size + 1, 0, none⟩) n n (some ⟨g, 0, none⟩) j cap [0, 2] [0, 1, 1] (List.replicate n 0) (List.replicate j ((n : Int) - 1, 0, 100))) hVj
    by_cases hj8 : j ≤ 8
    · have hj8i : (j : Int) ≤ 8 := by omega
      have hd8 : decide ((j : Int) ≤ 8) = true := decide_eq_true hj8i
      have HE := Lib.hid (H8.out ⟨j - 1, by omega⟩)
      simp only [show j - 1 + 1 = j by omega] at HE
      go_wp2_with (go_at_call 32; (with_reducible refine (wrong_d (Cf.mk (n : Int) ((n : Int) + 116) 3 3 3 A1 2 2 A2 3 3 (some ⟨w1.heap.size + 1, 0, none⟩) n n (some ⟨g, 0, none⟩) j cap [0, 2] [0, 1, 1] (List.replicate n 0) (List.replicate j ((n : Int) - 1, 0, 100))) 0 HE.out _ (edge_in (Cf.mk (n : Int) ((n : Int) + 116) 3 3 3 A1 2 2 A2 3 3 (some ⟨w1.heap.size + 1, 0, none⟩) n n (some ⟨g, 0, none⟩) j cap [0, 2] [0, 1, 1] (List.replicate n 0) (List.replicate j ((n : Int) - 1, 0, 100))) H1C.out hbj ⟨rfl, rfl, rfl⟩ (H1C.out.on hbj).s (hOj.lies (by simp)) hLj (by simp only; omega)) (hw1.on hbj)).mono ?_); rintro e u1 ⟨rfl, a1⟩)
      have hV5 : Blk u1.drew w1.heap.size 25 #[.int .i64 (n : Int), .slice A1 2 2, .slice A2 3 3, .int .i64 ((n : Int) + 116), .slice (some ⟨w1.heap.size + 1, 0, none⟩) n n, .slice (some ⟨g, 0, none⟩) j cap, .int .i64 3, .int .i64 3, .int .i64 3] := (show Blk u1 _ _ _ from hVj.on a1)
      have hO5 : Blk u1.drew (w1.heap.size + 1) 3 (cellsOf .i64 (List.replicate n 0)) := (show Blk u1 _ _ _ from hOj.on a1)
      have hown5 : u1.drew.ownsRow (w1.heap.size + 1 + 1) 51 3 (.slice (some ⟨g, 0, none⟩) j cap) j (stCells (List.replicate j ((n : Int) - 1, 0, 100))) := (show u1.ownsRow _ _ _ _ _ _ from owns_on hown a1)
      have hb5 : Below w1.heap.size w1 u1.drew := (below_then hbj a1).drew
      have hL5 := owns_liesT (owns_on hown a1) (by simp) (by omega)
      obtain ⟨b', off', e', hbl', hcc'⟩ := hL5.at_ (by omega)
      injection e' with e'
      injection e' with e1' e2'
      subst e1' e2'
      obtain ⟨c0, c1, c2⟩ := hcc' 0 (by omega)
      have hrep : (List.replicate j ((n : Int) - 1, (0 : Int), (100 : Int))).getD 0 (0, 0, 0) = ((n : Int) - 1, 0, 100) := by
        obtain ⟨j', rfl⟩ : ∃ j', j = j' + 1 := ⟨j - 1, by omega⟩
        simp [List.replicate_succ]
      rw [hrep] at c0 c1 c2
      simp only [Nat.zero_mul, Nat.add_zero, Nat.zero_add] at c0 c1 c2
      have hgl : w1.heap.size < g := by
        obtain ⟨g', e, hg'⟩ := owns_some hown (by omega)
        injection e with e
        injection e with e
        omega
      clear k0 k1 k2 k3 k4 k5 k6 k7 k8 hL5 hcc' hbl' hrep hLj HE
      have hlen : 0 < j := by omega
      obtain ⟨k0, k1, k2, k3, k4, k5, k6, k7, k8⟩ := Blk.cf (c := Cf.mk (n : Int) ((n : Int) + 116) 3 3 3 A1 2 2 A2 3 3 (some ⟨w1.heap.size + 1, 0, none⟩) n n (some ⟨g, 0, none⟩) j cap [0, 2] [0, 1, 1] (List.replicate n 0) (List.replicate j ((n : Int) - 1, 0, 100))) (hVj.on a1)
      have hlt5 : w1.heap.size < u1.heap.size := hV5.lt
      have hl7 : LiesT (u1.alloc (.cells #[.int .i64 ((n : Int) - 1), .int .u32 0, .int .i64 100] 51)).drew (u1.alloc (.cells #[.int .i64 ((n : Int) - 1), .int .u32 0, .int .i64 100] 51)).drew.heap.size (some ⟨u1.heap.size, 0, none⟩) 1 [((n : Int) - 1, 0, 100)] :=
        (Blk.new u1 51 #[.int .i64 ((n : Int) - 1), .int .u32 0, .int .i64 100]).liesT (fun j _ => by simp [stCells]) rfl
      have hown7 : (u1.alloc (.cells #[.int .i64 ((n : Int) - 1), .int .u32 0, .int .i64 100] 51)).drew.ownsRow (w1.heap.size + 1 + 1) 51 3 (.slice (some ⟨g, 0, none⟩) j cap) j (stCells (List.replicate j ((n : Int) - 1, 0, 100))) := hown5.alloc (.cells #[.int .i64 ((n : Int) - 1), .int .u32 0, .int .i64 100] 51)
      have hg2 : w1.heap.size + 1 + 1 ≤ g := by
        obtain ⟨g', e, hg'⟩ := owns_some hown (by omega)
        injection e with e
        injection e with e
        omega
      have hba : w1.heap.size + 1 + 1 ≤ u1.heap.size + 1 := by omega
      have hVa : Blk (u1.alloc (.cells #[.int .i64 ((n : Int) - 1), .int .u32 0, .int .i64 100] 51)).drew w1.heap.size 25 #[.int .i64 (n : Int), .slice A1 2 2, .slice A2 3 3, .int .i64 ((n : Int) + 116), .slice (some ⟨w1.heap.size + 1, 0, none⟩) n n, .slice (some ⟨g, 0, none⟩) j cap, .int .i64 3, .int .i64 3, .int .i64 3] := (show Blk (u1.alloc _) _ _ _ from (hVj.on a1).alloc _)
      have hOa : Blk (u1.alloc (.cells #[.int .i64 ((n : Int) - 1), .int .u32 0, .int .i64 100] 51)).drew (w1.heap.size + 1) 3 (cellsOf .i64 (List.replicate n 0)) := (show Blk (u1.alloc _) _ _ _ from (hOj.on a1).alloc _)
      have hba2 : Below w1.heap.size w1 (u1.alloc (.cells #[.int .i64 ((n : Int) - 1), .int .u32 0, .int .i64 100] 51)).drew := ((below_then hbj a1).alloc (by omega) _).drew
      have hob : (Value.slice (some ⟨g, 0, none⟩) j cap).ownBlock = some g := rfl
      have hne6 : some w1.heap.size ≠ (Value.slice (some ⟨g, 0, none⟩) j cap).ownBlock := by rw [hob]; intro e; injection e; omega
      have hne7 : some (w1.heap.size + 1) ≠ (Value.slice (some ⟨g, 0, none⟩) j cap).ownBlock := by rw [hob]; intro e; injection e; omega
      have HOB := Lib.hid hob
      have hk5 := hVj.cell 5
      have HK5 := Lib.hid (show stLen (wr.cell? ⟨w1.heap.size, 5, none⟩) = j by rw [hk5]; rfl)
      have hltO := hOa.lt
      clear hVj hown hOj hbj hk5 hob
      go_region_law (refine step_append_sts rfl (.tmp 114) (.tmp 119) 23 rfl (w1.heap.size + 1 + 1) 51 i0 _ 24 Tryd.underlying23 hi0 hz0 hz1 hz2 rfl (.slice (some ⟨g, 0, none⟩) j cap) j _ (by simp [Act.eval]) hown7 ⟨u1.heap.size, 0, none⟩ 1 1 [((n : Int) - 1, 0, 100)] (by simp [Act.eval]) hl7 (j + 1) rfl (by omega) (by unfold maxLen; omega) (by omega) (by simpa using hba) ?_; intro g6 c6 w6 hown6 hg6; have hV6 : Blk w6 w1.heap.size 25 #[.int .i64 (n : Int), .slice A1 2 2, .slice A2 3 3, .int .i64 ((n : Int) + 116), .slice (some ⟨w1.heap.size + 1, 0, none⟩) n n, .slice (some ⟨g, 0, none⟩) j cap, .int .i64 3, .int .i64 3, .int .i64 3] := (hg6.block _ hVa.lt hne6).trans hVa; have hO6 : Blk w6 (w1.heap.size + 1) 3 (cellsOf .i64 (List.replicate n 0)) := (hg6.block _ hltO hne7).trans hOa; have hb6 := hba2.grown hg6 (Nat.le_of_lt hVa.lt) (fun q hq => by rw [HOB.out] at hq; injection hq with hq; omega); have cV := hV6.cell 5; have fV := hV6.frozen 5; simp only [List.getElem?_toArray, List.getElem?_cons_zero, List.getElem?_cons_succ] at cV; clear hg6)
      all_goals
        have hV7 := hV6.set_ 5 (.slice (some ⟨g6, 0, none⟩) (j + 1) c6)
        have hm7 : (w6.setCell ⟨w1.heap.size, 5, none⟩ (.slice (some ⟨g6, 0, none⟩) (j + 1) c6)).cell? ⟨w1.heap.size, 5, none⟩ = some (.slice (some ⟨g6, 0, none⟩) (j + 1) c6) := hV7.cell 5
        have HM7 := Lib.hid (show stLen ((w6.setCell ⟨w1.heap.size, 5, none⟩ (.slice (some ⟨g6, 0, none⟩) (j + 1) c6)).cell? ⟨w1.heap.size, 5, none⟩) = j + 1 by rw [hm7]; rfl)
        clear hm7
        rw [← List.replicate_succ'] at hown6
        go_wp2_with fail
        go_roundw
        case rel => exact ⟨rfl, j + 1, g6, c6, by omega, by omega, hV7, owns_far hown6 (by simp only; omega) _, hO6.far_ (by simp) _, hb6.setCell (Nat.le_refl _) _⟩
        case measure => rw [HK5.out, HM7.out]; omega
    · have HE := Lib.hid H9.out
      obtain rfl : j = 9 := by omega
      go_wp2_with (first
        | (go_at_call 32; (with_reducible refine (wrong_d (Cf.mk (n : Int) ((n : Int) + 116) 3 3 3 A1 2 2 A2 3 3 (some ⟨w1.heap.size + 1, 0, none⟩) n n (some ⟨g, 0, none⟩) 9 cap [0, 2] [0, 1, 1] (List.replicate n 0) (List.replicate 9 ((n : Int) - 1, 0, 100))) 3 HE.out _ (edge_in (Cf.mk (n : Int) ((n : Int) + 116) 3 3 3 A1 2 2 A2 3 3 (some ⟨w1.heap.size + 1, 0, none⟩) n n (some ⟨g, 0, none⟩) 9 cap [0, 2] [0, 1, 1] (List.replicate n 0) (List.replicate 9 ((n : Int) - 1, 0, 100))) H1C.out hbj ⟨rfl, rfl, rfl⟩ (H1C.out.on hbj).s (hOj.lies (by simp)) hLj (by simp only; omega)) (hw1.on hbj)).mono ?_); rintro e u1 ⟨rfl, a1⟩)
        | (go_at_call 10; (with_reducible refine (lives_any u1 (hw1.on (below_then hbj a1))).mono ?_); rintro e u2 ⟨rfl, a2⟩))
      go_ret
      exact ⟨rfl, below_then (below_then b1 (below_then hbj a1)) a2⟩
theorem configsEdges_walk (a b : Int) (w : World) (hw : Ways w) (ha : (Lit.int .u8 a).wf = true) (hb : (Lit.int .u8 b).wf = true) :
    Calls Tryd.prog 8 #[.int .u8 a, .int .u8 b] w fun e w' => e = .returned (.bool true) ∧ Below w.heap.size w w' := by
  have ha := bounds_u8 ha
  have hb := bounds_u8 hb
  by_cases h : a % 14 = 13
  · exact edges_13 a b w hw ha.1 hb.1 hb.2 h
  · exact edges_any a b w hw ha.1 hb.1 hb.2 h
end Go.Proofs.YtibniadebbgjcaaDoor
