/-
  The law's lives of frames: it returns true, and nothing that was there has turned. No condition.
-/
import Derived.Test.YtkjdlcobidglcaaFr10
namespace Go.Proofs.Ytkjdlcobidglcaa
open Go.RowKit Crc

def liveF : Fr := ⟨1, 2, 2, 3, 4⟩
theorem liveF_fit : liveF.Fit := ⟨by decide, by decide, by decide, by decide, by decide, by decide, by decide, by decide⟩
theorem liveF_body : liveF.body = [33, 2, 0, 0, 0, 3, 0, 0, 0, 4] := by decide
theorem putL_take (l : List Int) : (putL l).take l.length = l := by simp [putL]

set_option maxRecDepth 100000 in
theorem frLives_any (w : World) : Calls Try.prog 23 #[] w fun e w' => e = .returned (.bool true) ∧ Below w.heap.size w w' := by
  have HO := Lib.hid (fun u => law5_of_any liveF u)
  have HP := Lib.hid (fun u => frPut_yes liveF u liveF_fit (by decide))
  have HL : Hid ((putL liveF.body).length = 14) := Lib.hid (by rw [putL_length]; rfl)
  have HK : Hid ((putL liveF.body).take 10 = [33, 2, 0, 0, 0, 3, 0, 0, 0, 4]) := Lib.hid (by rw [← liveF_body]; exact putL_take liveF.body)
  have HB := Lib.hid (show ∀ x ∈ (putL liveF.body).take 10, 0 ≤ x ∧ x ≤ 255 from fun x hx => putL_bd _ (Fr.body_bd liveF_fit (by decide)) x (List.mem_of_mem_take hx))
  obtain ⟨L, hL⟩ : ∃ L, L = putL liveF.body := ⟨_, rfl⟩
  rw [← hL] at HP HL HK HB
  simp only [liveF] at HO HP
  clear hL
  go_enter Try.func23, Try.ntmps23
  go_wp2_with (first
    | (go_at_call 10; with_reducible refine (HO.out _).mono ?_; rintro e w1 ⟨rfl, hb1⟩)
    | (go_at_call 9; with_reducible refine (HP.out _).mono ?_; rintro e w2 ⟨g2, rfl, hg2, hB2, hb2⟩; have hsl := fun W => uptoBytes (some ⟨g2, 0, none⟩) 14 14 10 (by omega) (by omega) W; rw [show (10 : Int).toNat = 10 from rfl] at hsl; have hlA := ((hB2.lies HL.out).head (h := 10) (by omega)); rw [HK.out] at hlA))
  have hbA := below_then (below_then (Below.refl _ _) hb1) hb2
  have hA := (hlA.al (.cells #[.bool true, .bool false] 38)).al (.cells #[.int .u8 33, .int .u8 2, .int .u8 0, .int .u8 0, .int .u8 0, .int .u8 3, .int .u8 0, .int .u8 0, .int .u8 0, .int .u8 4] 5)
  have hC := Lies.new (w2.alloc (.cells #[.bool true, .bool false] 38)) 5 .u8 [33, 2, 0, 0, 0, 3, 0, 0, 0, 4] 10 rfl #[.int .u8 33, .int .u8 2, .int .u8 0, .int .u8 0, .int .u8 0, .int .u8 3, .int .u8 0, .int .u8 0, .int .u8 0, .int .u8 4] rfl
  rw [alloc_size w2] at hC
  with_reducible refine (sameBytes_true (some ⟨g2, 0, none⟩) (some ⟨w2.heap.size + 1, 0, none⟩) 10 10 14 10 _ _ _ hA hC (by decide) rfl).mono ?_
  rintro e w3 ⟨rfl, rfl⟩
  have hT2 := (Blk.new w2 38 #[.bool true, .bool false]).alloc (.cells #[.int .u8 33, .int .u8 2, .int .u8 0, .int .u8 0, .int .u8 0, .int .u8 3, .int .u8 0, .int .u8 0, .int .u8 0, .int .u8 4] 5)
  have hbB := below_al (below_al hbA (.cells #[.bool true, .bool false] 38)) (.cells #[.int .u8 33, .int .u8 2, .int .u8 0, .int .u8 0, .int .u8 0, .int .u8 3, .int .u8 0, .int .u8 0, .int .u8 0, .int .u8 4] 5)
  have t0 := hT2.cell 0
  have t1 := hT2.cell 1
  have ht := hT2.lt
  simp only [List.getElem?_toArray, List.getElem?_cons_zero, List.getElem?_cons_succ] at t0 t1
  clear hA hC hlA hB2 hsl HO HP
  go_wp2_with (go_at_call 16; with_reducible refine (tgood_any true false _).mono ?_; rintro e w4 ⟨rfl, hb4⟩; have hT4 := hT2.on hb4; have v0 := hT4.cell 0; have v1 := hT4.cell 1; have hv := hT4.lt; simp only [List.getElem?_toArray, List.getElem?_cons_zero, List.getElem?_cons_succ] at v0 v1)
  with_reducible refine (tsyms_any true false _).mono ?_
  rintro e w5 ⟨g5, rfl, hg5, hB5, hb5⟩
  have hS := Lies.new w5 77 .u8 [2, 1] 2 rfl #[.int .u8 2, .int .u8 1] rfl
  have hR := (hB5.lies (n := 2) rfl).al (.cells #[.int .u8 2, .int .u8 1] 77)
  go_wp2_with fail
  with_reducible refine (same_true (some ⟨g5, 0, none⟩) (some ⟨w5.heap.size, 0, none⟩) 2 2 2 2 _ _ _ hR hS (by omega) (by omega) rfl).mono ?_
  rintro e w6 ⟨rfl, hb6⟩
  go_wp2_with fail
  go_ret
  exact ⟨rfl, below_then (below_al (below_then (below_then hbB hb4) hb5) _) hb6⟩
end Go.Proofs.Ytkjdlcobidglcaa
