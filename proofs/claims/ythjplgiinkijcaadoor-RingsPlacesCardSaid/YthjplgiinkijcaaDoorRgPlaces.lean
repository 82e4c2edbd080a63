/-
  The walk of the law RingsPlaces: true, whatever came in. Condition: the table of directions is as the program's text lays it.
-/
import Derived.Test.YthjplgiinkijcaaDoorRgNumbers
import Derived.Test.YthjplgiinkijcaaDoorSeen
namespace Go.Proofs.YthjplgiinkijcaaDoor
open Go.RowKit Rg

/-- Whose place is taken: of the nodes below i. -/
def PlSeen (m d f i : Int) (l : List Bool) : Prop := ∀ q : Nat, l.getD q false = true → ∃ j : Int, 0 ≤ j ∧ j < i ∧ placeM m d f j = q
theorem plSeen_none (m d f : Int) (n : Nat) : PlSeen m d f 0 (List.replicate n false) := fun q h => by rw [none_true] at h; cases h
theorem plSeen_new {m d f i : Int} {l : List Bool} {P : Nat} (h : PlSeen m d f i l) (hi : 0 ≤ i) (hP : placeM m d f i = P) : PlSeen m d f (i + 1) (l.set P true) := fun q hq => by
  rcases set_true l P q hq with h1 | rfl
  · obtain ⟨j, h2, h3, h4⟩ := h q h1
    exact ⟨j, h2, by omega, h4⟩
  · exact ⟨i, hi, by omega, hP⟩
theorem plSeen_not {m d f i : Int} {l : List Bool} {P : Nat} (h : PlSeen m d f i l) (hm : 4 ≤ m ∧ m ≤ 16 ∧ 0 ≤ d ∧ d < 2 ∧ 0 ≤ f ∧ f < m ∧ 0 ≤ i ∧ i < m) (hP : placeM m d f i = P) : l.getD P false = false := by
  rcases hb : l.getD P false with _ | _
  · rfl
  · obtain ⟨j, h1, h2, h3⟩ := h P hb
    have := place_inj hm (y := j) ⟨h1, by omega⟩ (hP.trans h3.symm)
    omega

set_option maxRecDepth 100000 in
theorem ringsPlaces_walk (x y : Int) (w : World) (hw : Ways w) (hx : (Lit.int .u8 x).wf = true) (hy : (Lit.int .u8 y).wf = true) :
    Calls Tryd.prog 9 #[.int .u8 x, .int .u8 y] w fun e w' => e = .returned (.bool true) ∧ Below w.heap.size w w' := by
  have hbx := bounds_u8 hx
  have hby := bounds_u8 hy
  have hy0 : 0 ≤ y := hby.1
  have hy1 : y ≤ 255 := hby.2
  have hN := fun W => nodes_any x W hbx.1 hbx.2
  obtain ⟨M, eM⟩ : ∃ M : Nat, 4 + x % 13 = M := ⟨(4 + x % 13).toNat, by omega⟩
  have hm1 : 4 ≤ (M : Int) := by omega
  have hm2 : (M : Int) ≤ 16 := by omega
  rw [eM] at hN
  clear eM hx hy hbx hby
  have HN := Lib.hid hN
  have hf := mod_bd y M (by omega)
  obtain ⟨f, ef⟩ : ∃ f, y % (M : Int) = f := ⟨_, rfl⟩
  rw [ef] at hf
  have hf0 : 0 ≤ f := hf.1
  have hf1 : f < (M : Int) := hf.2
  have hg := mod_bd (f + 1) M (by omega)
  obtain ⟨g, eg⟩ : ∃ g, (f + 1) % (M : Int) = g := ⟨_, rfl⟩
  rw [eg] at hg
  have hP := place_halves (n := M) (f := f) (g := g) ⟨hm1, hm2, hf0, hf1⟩ eg.symm
  have p1 := fun W hW => place_is M 0 f f 0 hP.1 W hW (by omega) (by omega)
  have p2 := fun W hW => place_is M 0 f g 1 hP.2.1 W hW (by omega) (by omega)
  have p3 := fun W hW => place_is M 1 f g 0 hP.2.2.1 W hW (by omega) (by omega)
  have p4 := fun W hW => place_is M 1 f f 1 hP.2.2.2 W hW (by omega) (by omega)
  have HP1 := Lib.hid p1
  have HP2 := Lib.hid p2
  have HP3 := Lib.hid p3
  have HP4 := Lib.hid p4
  have hB := Below.refl w.heap.size w
  have hu := hw
  clear p1 p2 p3 p4 hN hf hg hP
  go_enter Tryd.func9, Tryd.ntmps9
  go_wp2_with (first
    | (go_at_call 28; (with_reducible refine (HN.out _).mono ?_); rintro e w' ⟨rfl, rfl⟩)
    | (go_at_call 24; (with_reducible refine (HP1.out _ hu).mono ?_); rintro e w1 ⟨rfl, b9⟩; replace hu := hu.on b9; replace hB := below_then hB b9; clear b9 HP1)
    | (go_at_call 24; (with_reducible refine (HP2.out _ hu).mono ?_); rintro e w2 ⟨rfl, b9⟩; replace hu := hu.on b9; replace hB := below_then hB b9; clear b9 HP2)
    | (go_at_call 24; (with_reducible refine (HP3.out _ hu).mono ?_); rintro e w3 ⟨rfl, b9⟩; replace hu := hu.on b9; replace hB := below_then hB b9; clear b9 HP3)
    | (go_at_call 24; (with_reducible refine (HP4.out _ hu).mono ?_); rintro e w4 ⟨rfl, b9⟩; replace hu := hu.on b9; replace hB := below_then hB b9; clear b9 HP4))
  clear ef eg HN
  have hmk := fun u => makeBools M (by omega) (by omega) u
  rw [Int.toNat_natCast] at hmk
  go_loopw [8] (fun s8 wr => ∃ d : Int, 0 ≤ d ∧ d ≤ 2 ∧ s8 = .int .u8 d ∧ Ways wr ∧ Below w.heap.size w wr) (fun s8 _ => (2 - intOf s8).toNat)
  case atStart => exact ⟨0, by omega, by omega, rfl, hu, hB⟩
  case round =>
    clear hu hB
    obtain ⟨d, hd0, hd2, rfl, hu, hB⟩ := hrel
    by_cases hlt : d ≤ 1
    · go_wp2_with fail
      have hB1 := below_al hB (.cells (cellsB (List.replicate M false)) 4)
      have hu1 := hu.al (.cells (cellsB (List.replicate M false)) 4)
      have hS1 := Blk.new wr 4 (cellsB (List.replicate M false))
      have HG := Lib.hid hB.size
      obtain ⟨w5, hw5⟩ : ∃ w5, w5 = wr.alloc (.cells (cellsB (List.replicate M false)) 4) := ⟨_, rfl⟩
      rw [← hw5] at hB1 hu1 hS1 ⊢
      obtain ⟨gs, hgs⟩ : ∃ gs, gs = wr.heap.size := ⟨_, rfl⟩
      rw [← hgs] at hS1 HG ⊢
      clear hw5 hgs hu hB
      have HL0 := Lib.hid (show (List.replicate M false).length = M by simp)
      have HS0 := Lib.hid (plSeen_none M d f M)
      go_loopw [10] (fun s10 wr => ∃ (i : Int) (l : List Bool), 0 ≤ i ∧ i ≤ (M : Int) ∧ s10 = .int .i64 i ∧ Hid (l.length = M) ∧ Blk wr gs 4 (cellsB l) ∧ Hid (PlSeen M d f i l) ∧ Ways wr ∧ Below w.heap.size w wr) (fun s10 _ => ((M : Int) - intOf s10).toNat)
      case atStart => exact ⟨0, _, by omega, by omega, rfl, HL0, hS1, HS0, hu1, hB1⟩
      case round =>
        clear hu1 hB1 hS1 HL0 HS0
        obtain ⟨i, l, hi0, hi1, rfl, HL, hS, HSn, hu, hB⟩ := hrel
        by_cases hil : i < (M : Int)
        · have hM : 4 ≤ (M : Int) ∧ (M : Int) ≤ 16 ∧ 0 ≤ d ∧ d < 2 ∧ 0 ≤ f ∧ f < (M : Int) ∧ 0 ≤ i ∧ i < (M : Int) := ⟨hm1, hm2, hd0, by omega, hf0, hf1, hi0, hil⟩
          have hpi := place_in hM
          obtain ⟨P, eP⟩ : ∃ P : Nat, placeM M d f i = P := ⟨(placeM M d f i).toNat, by omega⟩
          have hpb := fun t ht hp => place_back (t := t) hM ht hp
          rw [eP] at hpi hpb
          have hP1 : (P : Int) < (M : Int) := hpi.2
          have hP2 : P < M := by omega
          have HP := Lib.hid (place_is M d f i P eP _ hu (by omega) (by omega))
          have HNot := Lib.hid (plSeen_not HSn.out hM eP)
          have HNew := Lib.hid (plSeen_new HSn.out hi0 eP)
          have HPB := Lib.hid hpb
          have HLn := Lib.hid (show (l.set P true).length = M by rw [List.length_set]; exact HL.out)
          have HC := Lib.hid (show (cellsB l)[P]? = some (.bool false) by rw [cellsB_at _ _ (by rw [HL.out]; omega), HNot.out])
          have hgw := hS.lt
          clear hpi hpb eP hM
          have c1 : decide ((P : Int) < 0) = false := by simp
          have c2 : decide (M ≤ P) = false := by simpa using hP2
          go_wp2_with (go_at_call 24; (with_reducible refine HP.out.mono ?_); rintro e w6 ⟨rfl, b6⟩; have hS6 := hS.below b6 hgw; have hc6 := (hS6.cell P).trans HC.out; have hf6 := hS6.frozen P; have hu6 := hu.on b6; clear HP)
          have hS7 := hS6.set_ P (.bool true)
          rw [cellsB_set] at hS7
          have hB7 := (below_then hB b6).setCell HG.out (p := ⟨gs, P, none⟩) (.bool true)
          obtain ⟨w7, hw7⟩ : ∃ w7, w7 = w6.setCell ⟨gs, P, none⟩ (.bool true) := ⟨_, rfl⟩
          rw [← hw7] at hS7 hB7 ⊢
          clear hw7 hS6 hc6 hf6 hu6 b6 hS hu hB HC HNot c1 c2
          go_loopw [12] (fun s12 wr => ∃ t : Int, 1 ≤ t ∧ t ≤ 3 ∧ s12 = .int .i64 t ∧ Below w7.heap.size w7 wr) (fun s12 _ => (3 - intOf s12).toNat)
          case atStart => exact ⟨1, by omega, by omega, rfl, Below.refl _ _⟩
          case round =>
            obtain ⟨t, ht1, ht3, rfl, hb⟩ := hrel
            by_cases ht : t ≤ 2
            · by_cases htp : t ≤ (P : Int)
              · have HSo := Lib.hid (fun W hW => source_is M d i t _ rfl W hW (by omega) (by omega))
                have HPl := Lib.hid (fun W hW => place_is M d f _ _ (HPB.out t (by omega) htp) W hW (by omega) (by omega))
                obtain ⟨sv, esv⟩ : ∃ sv, sv = sourceM M d i t := ⟨_, rfl⟩
                rw [← esv] at HSo HPl
                have hu8 := hw.on (below_then hB7 hb)
                clear esv
                go_wp2_with (first
                  | (go_at_call 17; (with_reducible refine (HSo.out _ hu8).mono ?_); rintro e w8 ⟨rfl, b8⟩; have hu9 := hu8.on b8)
                  | (go_at_call 24; (with_reducible refine (HPl.out _ hu9).mono ?_); rintro e w9 ⟨rfl, b9⟩))
                go_roundw
                case rel => exact ⟨t + 1, by omega, by omega, rfl, below_then (below_then hb b8) b9⟩
                case measure => simp [intOf]; omega
              · have c1 : decide (t ≤ (P : Int)) = false := by simpa using htp
                go_wp2_with fail
                go_roundw
                case rel => exact ⟨t + 1, by omega, by omega, rfl, hb⟩
                case measure => simp [intOf]; omega
            · go_wp2_with fail
              go_roundw
              case rel => exact ⟨i + 1, _, by omega, by omega, rfl, HLn, hS7.below hb hS7.lt, HNew, hw.on (below_then hB7 hb), below_then hB7 hb⟩
              case measure => simp [intOf]; omega
        · go_wp2_with fail
          go_roundw
          case rel => exact ⟨d + 1, by omega, by omega, rfl, hu, hB⟩
          case measure => simp [intOf]; omega
    · go_wp2_with (go_at_call 14; (with_reducible refine (lives_any _ hu).mono ?_); rintro e w5 ⟨rfl, b5⟩)
      go_ret
      exact ⟨rfl, below_then hB b5⟩
end Go.Proofs.YthjplgiinkijcaaDoor
