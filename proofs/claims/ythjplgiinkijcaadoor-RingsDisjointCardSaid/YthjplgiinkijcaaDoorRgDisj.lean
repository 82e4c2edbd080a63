/-
  The walk of the law RingsDisjoint: true, whatever came in. Condition: the table of directions is as the program's text lays it.
-/
import Derived.Test.YthjplgiinkijcaaDoorRgNumbers
import Derived.Test.YthjplgiinkijcaaDoorRgD
import Derived.Test.YthjplgiinkijcaaDoorSeen
namespace Go.Proofs.YthjplgiinkijcaaDoor
open Go.RowKit Rg

theorem Blk.other {w : World} {g b o : Nat} {t : TypeId} {cs : Array Value} (h : Blk w g t cs) (hne : b ≠ g) (v : Value) : Blk (w.setCell ⟨b, o, none⟩ v) g t cs := by
  unfold Blk at h ⊢
  simp [World.setCell, Array.getElem?_modify, h, hne]
/-- Of the nodes that are seen each is marked. -/
def MarkL (m a b d h : Int) (A : Nat) (l : List Bool) : Prop := ∀ q : Nat, l.getD q false = true → Marked m a b d h A q
theorem markL_start (m : Int) (n A B : Nat) : MarkL m A B 0 1 0 (((List.replicate n false).set A true).set B true) := fun q h => by
  rcases set_true _ _ _ h with h1 | rfl
  · rcases set_true _ _ _ h1 with h2 | rfl
    · rw [none_true] at h2; cases h2
    · exact .inl rfl
  · exact .inr (.inl rfl)
theorem markL_new {m a b d h : Int} {A q V : Nat} {l : List Bool} (hl : MarkL m a b d h A l) (hA : A ≤ q) (hV : nodeAt m d a q = V) (hd : 0 ≤ d ∧ d < 2) (hh : 1 ≤ h ∧ h ≤ 2)
    (c6 : 1 ≤ q ∧ (q : Int) ≤ distM m d a b - h ∧ (q : Int) % 2 = (distM m d a b - h) % 2) : MarkL m a b d h q (l.set V true) := fun z hz => by
  rcases set_true _ _ _ hz with h1 | rfl
  · exact marked_more hA (hl z h1)
  · rw [← hV]; exact marked_self hd hh c6
theorem markL_not {m a b d h : Int} {A q V : Nat} {l : List Bool} (hl : MarkL m a b d h A l) (hm : 4 ≤ m ∧ m ≤ 16 ∧ 0 ≤ a ∧ a < m ∧ 0 ≤ b ∧ b < m) (hA : A < q) (hV : nodeAt m d a q = V) (hd : 0 ≤ d ∧ d < 2) (hh : 1 ≤ h ∧ h ≤ 2)
    (c6 : 1 ≤ q ∧ (q : Int) ≤ distM m d a b - h ∧ (q : Int) % 2 = (distM m d a b - h) % 2) : l.getD V false = false := by
  rcases hb : l.getD V false with _ | _
  · rfl
  · have := hl V hb
    rw [← hV] at this
    exact absurd this (marked_not hm hd hh hA c6)

set_option maxRecDepth 100000 in
theorem disj_same (x y z : Int) (w : World) (hw : Ways w) (hbx : 0 ≤ x ∧ x ≤ 255) (hby : 0 ≤ y ∧ y ≤ 255) (hbz : 0 ≤ z ∧ z ≤ 255) (hab : y % (4 + x % 13) = z % (4 + x % 13)) :
    Calls Tryd.prog 7 #[.int .u8 x, .agg #[.int .u8 y, .int .u8 z]] w fun e w' => e = .returned (.bool true) ∧ Below w.heap.size w w' := by
  have hy0 : 0 ≤ y := hby.1
  have hy1 : y ≤ 255 := hby.2
  have hz0 : 0 ≤ z := hbz.1
  have hz1 : z ≤ 255 := hbz.2
  have hN := fun W => nodes_any x W hbx.1 hbx.2
  have hm1 : 4 ≤ 4 + x % 13 := by omega
  have hm2 : 4 + x % 13 ≤ 16 := by omega
  obtain ⟨m, em⟩ : ∃ m, m = 4 + x % 13 := ⟨_, rfl⟩
  rw [← em] at hN hm1 hm2 hab
  clear em hbx hby hbz
  have HN := Lib.hid hN
  obtain ⟨a, ea⟩ : ∃ a, y % m = a := ⟨_, rfl⟩
  obtain ⟨b, eb⟩ : ∃ b, z % m = b := ⟨_, rfl⟩
  rw [ea, eb] at hab
  have HP1 := Lib.hid (fun W hW => path_no m 0 a b 1 W hW (by omega) (by omega) (by rw [← hab]; exact path_same (.inl rfl)))
  have HP2 := Lib.hid (fun W hW => path_no m 1 a b 2 W hW (by omega) (by omega) (by rw [← hab]; exact path_same (.inr rfl)))
  have c1 : (a == b) = true := by simpa using hab
  have hu := hw.al (.cells #[.int .u8 y, .int .u8 z] 41)
  have hB := below_al (Below.refl w.heap.size w) (.cells #[.int .u8 y, .int .u8 z] 41)
  clear hab hN hw
  go_enter Tryd.func7, Tryd.ntmps7
  go_wp2_with (first
    | (go_at_call 28; (with_reducible refine (HN.out _).mono ?_); rintro e w' ⟨rfl, rfl⟩)
    | (go_at_call 21; (with_reducible refine (HP1.out _ hu).mono ?_); rintro e w1 ⟨rfl, b9⟩; replace hu := hu.on b9; replace hB := below_then hB b9; clear b9 HP1)
    | (go_at_call 21; (with_reducible refine (HP2.out _ hu).mono ?_); rintro e w2 ⟨rfl, b9⟩; replace hu := hu.on b9; replace hB := below_then hB b9; clear b9 HP2)
    | (go_at_call 14; (with_reducible refine (lives_any _ hu).mono ?_); rintro e w3 ⟨rfl, b9⟩; replace hB := below_then hB b9; clear b9))
  go_ret
  exact ⟨rfl, hB⟩

set_option maxRecDepth 100000 in
set_option maxHeartbeats 4000000 in
theorem disj_other (x y z : Int) (w : World) (hw : Ways w) (hbx : 0 ≤ x ∧ x ≤ 255) (hby : 0 ≤ y ∧ y ≤ 255) (hbz : 0 ≤ z ∧ z ≤ 255) (hab : y % (4 + x % 13) ≠ z % (4 + x % 13)) :
    Calls Tryd.prog 7 #[.int .u8 x, .agg #[.int .u8 y, .int .u8 z]] w fun e w' => e = .returned (.bool true) ∧ Below w.heap.size w w' := by
  have hy0 : 0 ≤ y := hby.1
  have hy1 : y ≤ 255 := hby.2
  have hz0 : 0 ≤ z := hbz.1
  have hz1 : z ≤ 255 := hbz.2
  have hN := fun W => nodes_any x W hbx.1 hbx.2
  obtain ⟨M, eM⟩ : ∃ M : Nat, 4 + x % 13 = M := ⟨(4 + x % 13).toNat, by omega⟩
  have hm1 : 4 ≤ (M : Int) := by omega
  have hm2 : (M : Int) ≤ 16 := by omega
  rw [eM] at hN hab
  clear eM hbx hby hbz
  have HN := Lib.hid hN
  have ha := mod_bd y M (by omega)
  have hb := mod_bd z M (by omega)
  obtain ⟨a, ea⟩ : ∃ a : Nat, y % (M : Int) = a := ⟨(y % (M : Int)).toNat, by omega⟩
  obtain ⟨b, eb⟩ : ∃ b : Nat, z % (M : Int) = b := ⟨(z % (M : Int)).toNat, by omega⟩
  rw [ea] at ha
  rw [eb] at hb
  rw [ea, eb] at hab
  have ha1 : (a : Int) < (M : Int) := ha.2
  have hb1 : (b : Int) < (M : Int) := hb.2
  have ha2 : a < M := by omega
  have hb2 : b < M := by omega
  have c1 : ((a : Int) == (b : Int)) = false := by simpa using hab
  have hAB : 4 ≤ (M : Int) ∧ (M : Int) ≤ 16 ∧ 0 ≤ (a : Int) ∧ (a : Int) < (M : Int) ∧ 0 ≤ (b : Int) ∧ (b : Int) < (M : Int) := ⟨hm1, hm2, ha.1, ha.2, hb.1, hb.2⟩
  have hmk := fun u => makeBools M (by omega) (by omega) u
  rw [Int.toNat_natCast] at hmk
  have hB := below_al (Below.refl w.heap.size w) (.cells #[.int .u8 y, .int .u8 z] 41)
  have HAB := Lib.hid hab
  have HD1 := Lib.hid (fun W hW => dist_is M 0 a b _ rfl W hW (by omega) (by omega))
  have HD2 := Lib.hid (fun W hW => dist_is M 1 a b _ rfl W hW (by omega) (by omega))
  have HALL := Lib.hid (cnt_all hAB hab)
  clear hab hN ha hb
  have k1 : (cellsB (List.replicate M false))[a]? = some (.bool false) := by rw [cellsB_at _ a (by simpa using ha2), none_true]
  have k2 : ((cellsB (List.replicate M false)).setIfInBounds a (.bool true))[b]? = some (.bool false) := by
    have e : ((List.replicate M false).set a true).getD b false = false := by
      rcases h : ((List.replicate M false).set a true).getD b false with _ | _
      · rfl
      · rcases set_true _ _ _ h with h1 | h1
        · rw [none_true] at h1; cases h1
        · exact absurd (by rw [h1]) HAB.out
    rw [cellsB_set, cellsB_at _ b (by simpa using hb2), e]
  have HSt := Lib.hid (markL_start M M a b)
  have hD := dist_in (n := M) (d := 0) (a := a) (b := b) ⟨hm1, hm2, by omega, hAB.2.2⟩
  have hE := dist_in (n := M) (d := 1) (a := a) (b := b) ⟨hm1, hm2, by omega, hAB.2.2⟩
  go_enter Tryd.func7, Tryd.ntmps7
  go_wp2_with (go_at_call 28; (with_reducible refine (HN.out _).mono ?_); rintro e w' ⟨rfl, rfl⟩)
  rw [cellsB_set, cellsB_set]
  rw [ea, eb]
  clear k1 k2 hmk HN ea eb c1
  have HS0 := Lib.hid (Blk.new (w.alloc (.cells #[.int .u8 y, .int .u8 z] 41)) 4 (cellsB (((List.replicate M false).set a true).set b true)))
  have HB0 := Lib.hid (below_al hB (.cells (cellsB (((List.replicate M false).set a true).set b true)) 4))
  rw [alloc_size] at HS0
  have HG : Hid (w.heap.size ≤ w.heap.size + 1) := Lib.hid (by omega)
  have HL0 := Lib.hid (show (((List.replicate M false).set a true).set b true).length = M by simp)
  obtain ⟨gs, hgs⟩ : ∃ gs, gs = w.heap.size + 1 := ⟨_, rfl⟩
  obtain ⟨l0, hl0⟩ : ∃ l0, l0 = ((List.replicate M false).set a true).set b true := ⟨_, rfl⟩
  rw [← hgs, ← hl0] at HS0
  rw [← hl0] at HB0 HSt HL0
  rw [← hgs] at HG
  rw [← hgs, ← hl0]
  obtain ⟨w2, hw2⟩ : ∃ w2, w2 = (w.alloc (.cells #[.int .u8 y, .int .u8 z] 41)).alloc (.cells (cellsB l0) 4) := ⟨_, rfl⟩
  rw [← hw2] at HS0 HB0 ⊢
  clear hw2 hgs hl0 hB
  obtain ⟨D, eD⟩ : ∃ D, D = distM M 0 a b := ⟨_, rfl⟩
  obtain ⟨E, eE⟩ : ∃ E, E = distM M 1 a b := ⟨_, rfl⟩
  have HCY := Lib.hid (fun d h (hd : d = 0 ∨ d = 1) (hh : h = 1 ∨ h = 2) (hp : pathB M d a b h = true) => cnt_yes hd hh hp)
  have HCN := Lib.hid (fun d h (hd : d = 0 ∨ d = 1) (hh : h = 1 ∨ h = 2) (hp : pathB M d a b h = false) => cnt_no hAB HAB.out hd hh hp)
  rw [← eD, ← eE] at HALL HCY HCN
  rw [← eD] at HD1
  rw [← eE] at HD2
  clear eD eE hD hE
  go_loopw [13, 14] (fun s13 s14 wr => ∃ (d c : Int) (l : List Bool), 0 ≤ d ∧ d ≤ 2 ∧ s14 = .int .u8 d ∧ 0 ≤ c ∧ c ≤ 4 ∧ s13 = .int .i64 c ∧ Hid (c = cnt D E d 1) ∧ Hid (l.length = M) ∧ Blk wr gs 4 (cellsB l) ∧ Hid (MarkL M a b d 1 0 l) ∧ Below w.heap.size w wr)
    (fun _ s14 _ => (2 - intOf s14).toNat)
  case atStart => exact ⟨0, 0, l0, by omega, by omega, rfl, by omega, by omega, rfl, Lib.hid (by simp [cnt, cnt1]), HL0, HS0.out, HSt, HB0.out⟩
  case round =>
    clear HL0 HS0 HSt HB0
    obtain ⟨d, c, l, hd0, hd2, rfl, hc0, hc4, rfl, HC, HL, hS, HM, hB⟩ := hrel
    by_cases hlt : d ≤ 1
    · go_wp2_with fail
      go_loopw [13, 15] (fun s13 s15 wr => ∃ (h c : Int) (l : List Bool), 1 ≤ h ∧ h ≤ 3 ∧ s15 = .int .i64 h ∧ 0 ≤ c ∧ c ≤ 4 ∧ s13 = .int .i64 c ∧ Hid (c = cnt D E d h) ∧ Hid (l.length = M) ∧ Blk wr gs 4 (cellsB l) ∧ Hid (MarkL M a b d h 0 l) ∧ Below w.heap.size w wr)
        (fun _ s15 _ => (3 - intOf s15).toNat)
      case atStart => exact ⟨1, c, l, by omega, by omega, rfl, hc0, hc4, rfl, HC, HL, hS, HM, hB⟩
      case round =>
        clear hS hB HL HM HC hc0 hc4
        obtain ⟨h, c, l, hh0, hh3, rfl, hc0, hc4, rfl, HC, HL, hS, HM, hB⟩ := hrel
        by_cases hhl : h ≤ 2
        · have hu := hw.on hB
          by_cases hp : pathB M d a b h = true
          · have hpx := path_iff.1 hp
            have hD := dist_in (n := M) (d := d) (a := a) (b := b) ⟨hm1, hm2, by omega, hAB.2.2⟩
            have hlen := pathL_len M d a b h
            have HAt := Lib.hid (fun i hi => pathL_at M d a b h i hi)
            have HP := Lib.hid (path_is M d a b h _ _ rfl _ hu hd0 hp rfl)
            have HC2 := Lib.hid (show c + 1 = cnt D E d (h + 1) by rw [HC.out]; exact HCY.out d h (by omega) (by omega) hp)
            have hc3 : c + 1 ≤ 4 := by have := cnt_bd D E d (h + 1); have := HC2.out; omega
            have hsrc := source_end (m := M) (d := d) (a := a) (b := b) (h := h) ⟨hm1, hm2, by omega, hAB.2.2⟩ hp
            obtain ⟨K, eK⟩ : ∃ K : Nat, K = (distM M d a b - h).toNat := ⟨_, rfl⟩
            rw [← eK] at hlen HAt hsrc
            have HKd := Lib.hid (show (K : Int) = distM M d a b - h by omega)
            have hK : K ≤ 15 := by omega
            obtain ⟨Lp, eL⟩ : ∃ Lp, Lp = pathL M d a b h := ⟨_, rfl⟩
            rw [← eL] at hlen HAt HP
            obtain ⟨n, en⟩ : ∃ n, n = Lp.length := ⟨_, rfl⟩
            rw [← en] at hlen HAt HP
            have HLen := Lib.hid en
            have HN := Lib.hid hlen
            have hn100 : n ≤ 100 := by omega
            have HSrc := Lib.hid (fun W hW => source_is M d b h _ hsrc W hW (by omega) (by omega))
            clear eK eL en hlen hpx hD hsrc hp HC
            go_wp2_with (go_at_call 21; (with_reducible refine HP.out.mono ?_); rintro e w3 ⟨gp, rfl, hgp, -, hBp, b3⟩; clear HP)
            have hne : gs ≠ gp := by have := hS.lt; omega
            have hS3 := hS.below b3 hS.lt
            have hB3 := below_then hB b3
            clear hS hB b3 hu
            go_loopw [18, 19] (fun s18 s19 wx => ∃ (i : Nat) (l : List Bool), i ≤ n ∧ s19 = .int .i64 i ∧ s18 = .int .i64 (nodeAt M d a (2 * i - K % 2)) ∧ Hid (l.length = M) ∧ Blk wx gs 4 (cellsB l) ∧ Blk wx gp 3 (cellsOf .i64 Lp) ∧ Hid (MarkL M a b d h (2 * i - K % 2) l) ∧ Below w.heap.size w wx)
              (fun _ s19 _ => n - (intOf s19).toNat)
            case atStart => exact ⟨0, l, by omega, rfl, by rw [show 2 * 0 - K % 2 = 0 by omega, node0 _ _ _ ⟨by omega, ha1⟩], HL, hS3, hBp, by rw [show 2 * 0 - K % 2 = 0 by omega]; exact HM, hB3⟩
            case round =>
              clear hS3 hBp hB3 HL HM
              obtain ⟨i, l, hi, rfl, rfl, HL, hS, hBp, HM, hB⟩ := hrel
              by_cases hil : i < n
              · have hq1 : 1 ≤ 2 * i + 2 - K % 2 := by omega
                have hq2 : ((2 * i + 2 - K % 2 : Nat) : Int) ≤ distM M d a b - h := by have := HKd.out; have := HN.out; omega
                have hq3 : ((2 * i + 2 - K % 2 : Nat) : Int) % 2 = (distM M d a b - h) % 2 := by have := HKd.out; have := HN.out; omega
                have hqA : 2 * i - K % 2 < 2 * i + 2 - K % 2 := by omega
                have hin := nodeAt_in M d a (2 * i + 2 - K % 2) (by omega)
                obtain ⟨V, eV⟩ : ∃ V : Nat, nodeAt M d a (2 * i + 2 - K % 2) = V := ⟨(nodeAt M d a (2 * i + 2 - K % 2)).toNat, by omega⟩
                rw [eV] at hin
                have hV1 : (V : Int) < (M : Int) := hin.2
                have hV2 : V < M := by omega
                have HNot := Lib.hid (markL_not HM.out hAB hqA eV ⟨hd0, by omega⟩ ⟨hh0, hhl⟩ ⟨hq1, hq2, hq3⟩)
                have HNew := Lib.hid (markL_new HM.out (Nat.le_of_lt hqA) eV ⟨hd0, by omega⟩ ⟨hh0, hhl⟩ ⟨hq1, hq2, hq3⟩)
                have HLn := Lib.hid (show (l.set V true).length = M by rw [List.length_set]; exact HL.out)
                have hcP : wr.cell? ⟨gp, i, none⟩ = some (.int .i64 (V : Int)) := by
                  rw [hBp.cell, cellsOf_at _ _ _ (by rw [← HLen.out]; exact hil), HAt.out i hil, eV]
                have hcS : wr.cell? ⟨gs, V, none⟩ = some (.bool false) := by
                  rw [hS.cell, cellsB_at _ _ (by rw [HL.out]; exact hV2), HNot.out]
                have hfS := hS.frozen V
                have hBp7 := hBp.other hne (.bool true) (o := V)
                have hcP7 : (wr.setCell ⟨gs, V, none⟩ (.bool true)).cell? ⟨gp, i, none⟩ = some (.int .i64 (V : Int)) := by
                  rw [hBp7.cell, cellsOf_at _ _ _ (by rw [← HLen.out]; exact hil), HAt.out i hil, eV]
                have hS7 := hS.set_ V (.bool true)
                rw [cellsB_set] at hS7
                have hB7 := hB.setCell HG.out (p := ⟨gs, V, none⟩) (.bool true)
                have hu7 := hw.on hB7
                have HBp7 := Lib.hid hBp7
                have HS7 := Lib.hid hS7
                have HV := Lib.hid (show nodeAt M d a (2 * (i + 1) - K % 2) = V by rw [← eV, show 2 * (i + 1) - K % 2 = 2 * i + 2 - K % 2 by omega])
                have HNw := Lib.hid (show MarkL M a b d h (2 * (i + 1) - K % 2) (l.set V true) by rw [show 2 * (i + 1) - K % 2 = 2 * i + 2 - K % 2 by omega]; exact HNew.out)
                have hcase : ∃ s : Int, distM M d (nodeAt M d a (2 * i - K % 2)) V = s ∧ ((i = 0 ∧ s = 1) ∨ (i = 0 ∧ s = 2) ∨ (0 < i ∧ s = 2)) := by
                  have g := node_gap M d a (2 * i - K % 2) ((2 * i + 2 - K % 2) - (2 * i - K % 2)) ⟨hm1, hm2, by omega⟩ (by omega)
                  rw [show 2 * i - K % 2 + ((2 * i + 2 - K % 2) - (2 * i - K % 2)) = 2 * i + 2 - K % 2 by omega, eV] at g
                  exact ⟨_, g, by omega⟩
                obtain ⟨sv, hsv, hcs⟩ := hcase
                have HD := Lib.hid (dist_is M d _ V sv hsv _ hu7 hd0 (by omega))
                obtain ⟨t, et⟩ : ∃ t, t = nodeAt M d a (2 * i - K % 2) := ⟨_, rfl⟩
                rw [← et] at HD ⊢
                have c1 : decide ((V : Int) < 0) = false := by simp
                have c2 : decide (M ≤ V) = false := by simpa using hV2
                clear et hsv eV hq1 hq2 hq3 hqA hin HNot HNew hu7 hBp hS hBp7 hS7 HM
                rcases hcs with ⟨hi0, rfl⟩ | ⟨hi0, rfl⟩ | ⟨hi0, rfl⟩
                · have c3 : decide (0 < i) = false := by simpa using hi0
                  have c4 : decide ((0 : Int) < (i : Int)) = false := by simp; omega
                  have HI := Lib.hid hi0
                  clear hi0
                  go_wp2_with (go_at_call 12; (with_reducible refine HD.out.mono ?_); rintro e w8 ⟨rfl, b8⟩; have hBp8 := HBp7.out.below b8 HBp7.out.lt; have hcP8 := (b8.cell (p := ⟨gp, i, none⟩) HBp7.out.lt).trans hcP7)
                  go_roundw
                  case rel => exact ⟨i + 1, l.set V true, by omega, by go_num, by rw [HV.out], HLn, HS7.out.below b8 HS7.out.lt, hBp8, HNw, below_then hB7 b8⟩
                  case measure => simp [intOf]; omega
                · have c3 : decide (0 < i) = false := by simpa using hi0
                  have c4 : decide ((0 : Int) < (i : Int)) = false := by simp; omega
                  have HI := Lib.hid hi0
                  clear hi0
                  go_wp2_with (go_at_call 12; (with_reducible refine HD.out.mono ?_); rintro e w8 ⟨rfl, b8⟩; have hBp8 := HBp7.out.below b8 HBp7.out.lt; have hcP8 := (b8.cell (p := ⟨gp, i, none⟩) HBp7.out.lt).trans hcP7)
                  go_roundw
                  case rel => exact ⟨i + 1, l.set V true, by omega, by go_num, by rw [HV.out], HLn, HS7.out.below b8 HS7.out.lt, hBp8, HNw, below_then hB7 b8⟩
                  case measure => simp [intOf]; omega
                · have c3 : decide (0 < i) = true := by simpa using hi0
                  have c4 : decide ((0 : Int) < (i : Int)) = true := by simp; omega
                  go_wp2_with (go_at_call 12; (with_reducible refine HD.out.mono ?_); rintro e w8 ⟨rfl, b8⟩; have hBp8 := HBp7.out.below b8 HBp7.out.lt; have hcP8 := (b8.cell (p := ⟨gp, i, none⟩) HBp7.out.lt).trans hcP7)
                  go_roundw
                  case rel => exact ⟨i + 1, l.set V true, by omega, by go_num, by rw [HV.out], HLn, HS7.out.below b8 HS7.out.lt, hBp8, HNw, below_then hB7 b8⟩
                  case measure => simp [intOf]; omega
              · have hin : i = n := by omega
                have hA : 2 * i - K % 2 = K := by have := HN.out; omega
                rw [hA] at HM ⊢
                have HSo := Lib.hid (HSrc.out _ (hw.on hB))
                obtain ⟨t, et⟩ : ∃ t, t = nodeAt M d a K := ⟨_, rfl⟩
                rw [← et] at HSo ⊢
                have HI := Lib.hid hin
                clear et hin hA
                have c1 : (t != t) = false := by simp
                go_wp2_with (go_at_call 17; (with_reducible refine HSo.out.mono ?_); rintro e w8 ⟨rfl, b8⟩)
                go_roundw
                case rel => exact ⟨h + 1, c + 1, l, by omega, by omega, rfl, by omega, hc3, rfl, HC2, HL, hS.below b8 hS.lt, Lib.hid (fun q hq => marked_next (HM.out q hq)), below_then hB b8⟩
                case measure => simp [intOf]; omega
          · have hp' := bfalse hp
            have HP := Lib.hid (path_no M d a b h _ hu hd0 (by omega) hp')
            have HC2 := Lib.hid (HC.out.trans (HCN.out d h (by omega) (by omega) hp'))
            clear hp hp' HC
            go_wp2_with (go_at_call 21; (with_reducible refine HP.out.mono ?_); rintro e w3 ⟨rfl, b3⟩)
            go_roundw
            case rel => exact ⟨h + 1, c, l, by omega, by omega, rfl, hc0, hc4, rfl, HC2, HL, hS.below b3 hS.lt, Lib.hid (fun q hq => marked_next (HM.out q hq)), below_then hB b3⟩
            case measure => simp [intOf]; omega
        · obtain rfl : h = 3 := by omega
          go_wp2_with fail
          go_roundw
          case rel => exact ⟨d + 1, c, l, by omega, by omega, rfl, hc0, hc4, rfl, Lib.hid (by rw [HC.out]; exact cnt_way (by omega)), HL, hS, Lib.hid (fun q hq => marked_way (HM.out q hq)), hB⟩
          case measure => simp [intOf]; omega
    · obtain rfl : d = 2 := by omega
      have hu := hw.on hB
      have HCt := HC.out
      have hall := HALL.out
      rw [← HCt] at hall
      clear HCt HC HCY HCN hlt hc0 hc4
      have hfin : (D = 1 ∧ c = 3) ∨ (D ≠ 1 ∧ E = 1 ∧ c = 3) ∨ (D ≠ 1 ∧ E ≠ 1 ∧ c = 4) := by omega
      clear hall HALL
      rcases hfin with ⟨q1, rfl⟩ | ⟨q1, q2, rfl⟩ | ⟨q1, q2, rfl⟩
      · have c1 : (D == 1) = true := by simpa using q1
        clear q1
        go_wp2_with (first
          | (go_at_call 12; (with_reducible refine (HD1.out _ hu).mono ?_); rintro e w' ⟨rfl, b9⟩; replace hu := hu.on b9; replace hB := below_then hB b9; clear b9 HD1)
          | (go_at_call 12; (with_reducible refine (HD2.out _ hu).mono ?_); rintro e w' ⟨rfl, b9⟩; replace hu := hu.on b9; replace hB := below_then hB b9; clear b9 HD2)
          | (go_at_call 14; (with_reducible refine (lives_any _ hu).mono ?_); rintro e w' ⟨rfl, b9⟩; replace hB := below_then hB b9; clear b9))
        go_ret
        exact ⟨rfl, hB⟩
      · have c1 : (D == 1) = false := by simpa using q1
        have c2 : (E == 1) = true := by simpa using q2
        clear q1 q2
        go_wp2_with (first
          | (go_at_call 12; (with_reducible refine (HD1.out _ hu).mono ?_); rintro e w' ⟨rfl, b9⟩; replace hu := hu.on b9; replace hB := below_then hB b9; clear b9 HD1)
          | (go_at_call 12; (with_reducible refine (HD2.out _ hu).mono ?_); rintro e w' ⟨rfl, b9⟩; replace hu := hu.on b9; replace hB := below_then hB b9; clear b9 HD2)
          | (go_at_call 14; (with_reducible refine (lives_any _ hu).mono ?_); rintro e w' ⟨rfl, b9⟩; replace hB := below_then hB b9; clear b9))
        go_ret
        exact ⟨rfl, hB⟩
      · have c1 : (D == 1) = false := by simpa using q1
        have c2 : (E == 1) = false := by simpa using q2
        clear q1 q2
        go_wp2_with (first
          | (go_at_call 12; (with_reducible refine (HD1.out _ hu).mono ?_); rintro e w' ⟨rfl, b9⟩; replace hu := hu.on b9; replace hB := below_then hB b9; clear b9 HD1)
          | (go_at_call 12; (with_reducible refine (HD2.out _ hu).mono ?_); rintro e w' ⟨rfl, b9⟩; replace hu := hu.on b9; replace hB := below_then hB b9; clear b9 HD2)
          | (go_at_call 14; (with_reducible refine (lives_any _ hu).mono ?_); rintro e w' ⟨rfl, b9⟩; replace hB := below_then hB b9; clear b9))
        go_ret
        exact ⟨rfl, hB⟩

theorem ringsDisjoint_walk (x y z : Int) (w : World) (hw : Ways w) (hx : (Lit.int .u8 x).wf = true) (hy : (Lit.int .u8 y).wf = true) (hz : (Lit.int .u8 z).wf = true) :
    Calls Tryd.prog 7 #[.int .u8 x, .agg #[.int .u8 y, .int .u8 z]] w fun e w' => e = .returned (.bool true) ∧ Below w.heap.size w w' := by
  by_cases hab : y % (4 + x % 13) = z % (4 + x % 13)
  · exact disj_same x y z w hw (bounds_u8 hx) (bounds_u8 hy) (bounds_u8 hz) hab
  · exact disj_other x y z w hw (bounds_u8 hx) (bounds_u8 hy) (bounds_u8 hz) hab
end Go.Proofs.YthjplgiinkijcaaDoor
