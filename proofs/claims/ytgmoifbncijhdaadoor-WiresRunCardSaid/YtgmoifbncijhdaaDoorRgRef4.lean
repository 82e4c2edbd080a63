/-
  The contracts of the document's Link and Source: what the mathematics says; memory is left alone. Conditions: the numbers are of their kinds.
-/
import Derived.Test.YtgmoifbncijhdaaDoorRgRef3
namespace Go.Proofs.YtgmoifbncijhdaaDoor
open Go.RowKit Rg

set_option maxRecDepth 100000 in
theorem refLink_any (n d x h : Int) (w : World) (hd : 0 ≤ d) :
    Calls Tryd.prog 31 #[.int .i64 n, .int .u8 d, .int .i64 x, .int .i64 h] w fun e w' => e = .returned (.int .i64 (linkM n d x h)) ∧ w = w' := by
  have HT := Lib.hid (link_lt (n := n) (d := d) (x := x) (h := h) hd)
  have HHit := Lib.hid (fun k hk => link_hit (n := n) (d := d) (x := x) (h := h) (k := k) hd hk)
  obtain ⟨T, eT⟩ : ∃ T, T = linkM n d x h := ⟨_, rfl⟩
  rw [← eT] at HT HHit ⊢
  clear eT
  go_enter Tryd.func31, Tryd.ntmps31
  go_wp2_with fail
  go_loop [9] (fun s9 => ∃ k : Int, 0 ≤ k ∧ k ≤ 64 ∧ s9 = .int .i64 k ∧ Hid (T = -1 ∨ k ≤ T)) (fun s9 => (64 - intOf s9).toNat)
  case atStart => exact ⟨0, by omega, by omega, rfl, Lib.hid (by have := HT.out; omega)⟩
  case round =>
    obtain ⟨k, hk0, hk1, rfl, HL⟩ := hrel
    by_cases hlt : k < 64
    · have HEn := Lib.hid (fun W => refEnds_any n k W)
      have hhit := HHit.out k hk0
      obtain ⟨p, ep⟩ : ∃ p, p = endFrom n k := ⟨_, rfl⟩
      obtain ⟨t, et⟩ : ∃ t, t = endTo n k := ⟨_, rfl⟩
      obtain ⟨ee, ee'⟩ : ∃ ee, ee = endDir n k := ⟨_, rfl⟩
      obtain ⟨g, eg⟩ : ∃ g, g = endHop n k := ⟨_, rfl⟩
      rw [← ep, ← et, ← ee', ← eg] at HEn
      rw [← ep, ← ee', ← eg] at hhit
      clear ep et ee' eg
      by_cases hp : 0 ≤ p
      · by_cases hx : p = x
        · by_cases he : ee = d
          · by_cases hg : g = h
            · have HTk := Lib.hid (hhit.1 ⟨hp, hx, he, hg⟩)
              have c2 : (p == x) = true := by simpa using hx
              have c3 : (ee == d) = true := by simpa using he
              have c4 : (g == h) = true := by simpa using hg
              clear hx he hg hhit
              go_wp2_with (go_at_call 41; (with_reducible refine (HEn.out _).mono ?_); rintro e w' ⟨rfl, rfl⟩)
              go_ret
              exact ⟨ret_int HTk.out.symm, rfl⟩
            · have HNx : Hid (T = -1 ∨ k + 1 ≤ T) := Lib.hid (by have := HL.out; have : T ≠ k := fun q => hg (hhit.2 q).2.2.2; omega)
              have c2 : (p == x) = true := by simpa using hx
              have c3 : (ee == d) = true := by simpa using he
              have c4 : (g == h) = false := by simpa using hg
              clear hx he hg hhit
              go_wp2_with (go_at_call 41; (with_reducible refine (HEn.out _).mono ?_); rintro e w' ⟨rfl, rfl⟩)
              go_round
              case rel => exact ⟨k + 1, by omega, by omega, rfl, HNx⟩
              case measure => simp [intOf]; omega
          · have HNx : Hid (T = -1 ∨ k + 1 ≤ T) := Lib.hid (by have := HL.out; have : T ≠ k := fun q => he (hhit.2 q).2.2.1; omega)
            have c2 : (p == x) = true := by simpa using hx
            have c3 : (ee == d) = false := by simpa using he
            clear hx he hhit
            go_wp2_with (go_at_call 41; (with_reducible refine (HEn.out _).mono ?_); rintro e w' ⟨rfl, rfl⟩)
            go_round
            case rel => exact ⟨k + 1, by omega, by omega, rfl, HNx⟩
            case measure => simp [intOf]; omega
        · have HNx : Hid (T = -1 ∨ k + 1 ≤ T) := Lib.hid (by have := HL.out; have : T ≠ k := fun q => hx (hhit.2 q).2.1; omega)
          have c2 : (p == x) = false := by simpa using hx
          clear hx hhit
          go_wp2_with (go_at_call 41; (with_reducible refine (HEn.out _).mono ?_); rintro e w' ⟨rfl, rfl⟩)
          go_round
          case rel => exact ⟨k + 1, by omega, by omega, rfl, HNx⟩
          case measure => simp [intOf]; omega
      · have HNx : Hid (T = -1 ∨ k + 1 ≤ T) := Lib.hid (by have := HL.out; have : T ≠ k := fun q => hp (hhit.2 q).1; omega)
        have c1 : decide (0 ≤ p) = false := by simpa using hp
        clear hp hhit
        go_wp2_with (go_at_call 41; (with_reducible refine (HEn.out _).mono ?_); rintro e w' ⟨rfl, rfl⟩)
        go_round
        case rel => exact ⟨k + 1, by omega, by omega, rfl, HNx⟩
        case measure => simp [intOf]; omega
    · have HR := Lib.hid (show T = -1 by have := HT.out; have := HL.out; omega)
      go_wp2_with fail
      go_ret
      exact ⟨ret_int HR.out.symm, rfl⟩

set_option maxRecDepth 100000 in
theorem refSource_any (n d x h : Int) (w : World) (hd : 0 ≤ d) :
    Calls Tryd.prog 32 #[.int .i64 n, .int .u8 d, .int .i64 x, .int .i64 h] w fun e w' => e = .returned (.int .i64 (sourceM n d x h)) ∧ w = w' := by
  have HT := Lib.hid (src_lt (n := n) (d := d) (x := x) (h := h) hd)
  have HHit := Lib.hid (fun k hk => src_hit (n := n) (d := d) (x := x) (h := h) (k := k) hd hk)
  have HFr := Lib.hid (fun k hk hs => src_from (n := n) (d := d) (x := x) (h := h) (k := k) hk hs hd)
  obtain ⟨T, eT⟩ : ∃ T, T = srcK n d x h := ⟨_, rfl⟩
  rw [← eT] at HT HHit HFr
  obtain ⟨R, eR⟩ : ∃ R, R = sourceM n d x h := ⟨_, rfl⟩
  rw [← eR] at HT HFr ⊢
  clear eR
  clear eT
  go_enter Tryd.func32, Tryd.ntmps32
  go_wp2_with fail
  go_loop [9] (fun s9 => ∃ k : Int, 0 ≤ k ∧ k ≤ 64 ∧ s9 = .int .i64 k ∧ Hid (T = -1 ∨ k ≤ T)) (fun s9 => (64 - intOf s9).toNat)
  case atStart => exact ⟨0, by omega, by omega, rfl, Lib.hid (by have := HT.out; omega)⟩
  case round =>
    obtain ⟨k, hk0, hk1, rfl, HL⟩ := hrel
    by_cases hlt : k < 64
    · have HEn := Lib.hid (fun W => refEnds_any n k W)
      have hhit := HHit.out k hk0
      have hfr := HFr.out k hk0
      obtain ⟨p, ep⟩ : ∃ p, p = endFrom n k := ⟨_, rfl⟩
      obtain ⟨t, et⟩ : ∃ t, t = endTo n k := ⟨_, rfl⟩
      obtain ⟨ee, ee'⟩ : ∃ ee, ee = endDir n k := ⟨_, rfl⟩
      obtain ⟨g, eg⟩ : ∃ g, g = endHop n k := ⟨_, rfl⟩
      rw [← ep, ← et, ← ee', ← eg] at HEn
      rw [← ep, ← ee', ← eg, ← et] at hhit
      rw [← ep] at hfr
      clear ep et ee' eg
      by_cases hp : 0 ≤ p
      · by_cases hx : t = x
        · by_cases he : ee = d
          · by_cases hg : g = h
            · have HTk := Lib.hid (hhit.1 ⟨hp, hx, he, hg⟩)
              have HR := Lib.hid (hfr HTk.out)
              have c2 : (t == x) = true := by simpa using hx
              have c3 : (ee == d) = true := by simpa using he
              have c4 : (g == h) = true := by simpa using hg
              clear hx he hg hhit hfr
              go_wp2_with (go_at_call 41; (with_reducible refine (HEn.out _).mono ?_); rintro e w' ⟨rfl, rfl⟩)
              go_ret
              exact ⟨ret_int HR.out, rfl⟩
            · have HNx : Hid (T = -1 ∨ k + 1 ≤ T) := Lib.hid (by have := HL.out; have : T ≠ k := fun q => hg (hhit.2 q).2.2.2; omega)
              have c2 : (t == x) = true := by simpa using hx
              have c3 : (ee == d) = true := by simpa using he
              have c4 : (g == h) = false := by simpa using hg
              clear hx he hg hhit hfr
              go_wp2_with (go_at_call 41; (with_reducible refine (HEn.out _).mono ?_); rintro e w' ⟨rfl, rfl⟩)
              go_round
              case rel => exact ⟨k + 1, by omega, by omega, rfl, HNx⟩
              case measure => simp [intOf]; omega
          · have HNx : Hid (T = -1 ∨ k + 1 ≤ T) := Lib.hid (by have := HL.out; have : T ≠ k := fun q => he (hhit.2 q).2.2.1; omega)
            have c2 : (t == x) = true := by simpa using hx
            have c3 : (ee == d) = false := by simpa using he
            clear hx he hhit hfr
            go_wp2_with (go_at_call 41; (with_reducible refine (HEn.out _).mono ?_); rintro e w' ⟨rfl, rfl⟩)
            go_round
            case rel => exact ⟨k + 1, by omega, by omega, rfl, HNx⟩
            case measure => simp [intOf]; omega
        · have HNx : Hid (T = -1 ∨ k + 1 ≤ T) := Lib.hid (by have := HL.out; have : T ≠ k := fun q => hx (hhit.2 q).2.1; omega)
          have c2 : (t == x) = false := by simpa using hx
          clear hx hhit hfr
          go_wp2_with (go_at_call 41; (with_reducible refine (HEn.out _).mono ?_); rintro e w' ⟨rfl, rfl⟩)
          go_round
          case rel => exact ⟨k + 1, by omega, by omega, rfl, HNx⟩
          case measure => simp [intOf]; omega
      · have HNx : Hid (T = -1 ∨ k + 1 ≤ T) := Lib.hid (by have := HL.out; have : T ≠ k := fun q => hp (hhit.2 q).1; omega)
        have c1 : decide (0 ≤ p) = false := by simpa using hp
        clear hp hhit hfr
        go_wp2_with (go_at_call 41; (with_reducible refine (HEn.out _).mono ?_); rintro e w' ⟨rfl, rfl⟩)
        go_round
        case rel => exact ⟨k + 1, by omega, by omega, rfl, HNx⟩
        case measure => simp [intOf]; omega
    · have HR := Lib.hid (show R = -1 by have := HT.out; have := HL.out; omega)
      go_wp2_with fail
      go_ret
      exact ⟨ret_int HR.out.symm, rfl⟩
end Go.Proofs.YtgmoifbncijhdaaDoor
