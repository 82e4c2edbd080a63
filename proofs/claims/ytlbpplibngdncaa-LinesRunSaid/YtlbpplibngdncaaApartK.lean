/-
  The contract of the law's book's Apart once more: besides, which blocks alone it writes: those of the book's lists. Conditions: what the book holds.
-/
import Derived.Test.YtlbpplibngdncaaApart
namespace Go.Proofs.Ytlbpplibngdncaa
open Go.RowKit

/-- What was there has turned in these blocks alone. -/
def Only (E : Nat → Prop) (w w' : World) : Prop := ∀ g, g < w.heap.size → ¬ E g → w'.heap[g]? = w.heap[g]?
/-- The blocks of a book's lists are among these. -/
def OfEnts (E : Nat → Prop) (l : List (Option Addr × Nat)) : Prop := ∀ i, i < l.length → ∀ g m, ((some ⟨g, 0, none⟩ : Option Addr), m) = l.getD i (none, 0) → 0 < m → E g
structure SimE (base : Nat) (E : Nat → Prop) (w wr : World) : Prop extends Sim base w wr where
  only : Only E w wr
section
variable {base : Nat} {E : Nat → Prop} {w wr wx : World}
theorem SimE.refl (base : Nat) (E : Nat → Prop) (w : World) : SimE base E w w := ⟨Sim.refl _ _, fun _ _ _ => rfl⟩
theorem SimE.trans (h : SimE base E w wr) (k : SimE base E wr wx) : SimE base E w wx := ⟨h.toSim.trans k.toSim, fun g hg he => (k.only g (Nat.lt_of_lt_of_le hg h.below.size) he).trans (h.only g hg he)⟩
theorem SimE.of_below (h : Below wr.heap.size wr wx) (hb : base ≤ wr.heap.size) : SimE base E wr wx := ⟨Sim.of_below h hb, fun g hg _ => h.block g hg⟩
theorem SimE.drew (h : SimE base E w wr) : SimE base E w wr.drew := ⟨h.toSim.drew, h.only⟩
theorem SimE.store {g j : Nat} {t : TypeId} {cs : Array Value} (hB : Blk wr g t cs) (ht : t ∈ dataTypes) (hg : base ≤ g) (he : E g) (u : Value) : SimE base E wr (wr.setCell ⟨g, j, none⟩ u) :=
  ⟨Sim.store hB ht hg u, fun g' _ hn => Below.heap_setCell wr ⟨g, j, none⟩ u g' (fun e => by subst e; exact hn he)⟩
end

set_option maxRecDepth 100000 in
set_option maxHeartbeats 1000000 in
theorem apart_only (E : Nat → Prop) (w : World) (kb base : Nat) (vb vn vs : Value) (lb ln ls : List (Option Addr × Nat)) (h : BookIs w kb base vb vn vs lb ln ls) (hlb : lb.length ≤ 65536) (hln : ln.length ≤ 65536) (hls : ls.length ≤ 65536)
    (hsb : ∀ p ∈ lb, p.2 ≤ 65536) (hsn : ∀ p ∈ ln, p.2 ≤ 65536) (hss : ∀ p ∈ ls, p.2 ≤ 65536) (eb : Ents w 5 base lb) (en : Ents w 3 base ln) (es : Ents w 83 base ls) (db : Dist lb) (dn : Dist ln) (ds : Dist ls) (hEb : OfEnts E lb) (hEn : OfEnts E ln) (hEs : OfEnts E ls) :
    Calls Try.prog 17 #[.pointer (some ⟨kb, 0, none⟩)] w fun e w' => e = .returned (.bool true) ∧ SimE base E w w' := by
  obtain ⟨Ab, cb, hvb⟩ := owns_len h.ob
  obtain ⟨An, cn, hvn⟩ := owns_len h.on
  obtain ⟨As, cs, hvs⟩ := owns_len h.os
  subst hvb hvn hvs
  have HSB := Lib.hid hsb
  have HSN := Lib.hid hsn
  have HSS := Lib.hid hss
  clear hsb hsn hss
  have hEb := Lib.hid hEb
  have hEn := Lib.hid hEn
  have hEs := Lib.hid hEs
  have hk3 := h.blk.cell 3
  simp at hk3
  go_enter Try.func17, Try.ntmps17
  go_wp2_with fail
  go_loopw [3] (fun v wt => ∃ t : Nat, t ≤ 2 ∧ v = .int .i64 t ∧ SimE base E w wt) (fun v _ => 2 - (intOf v).toNat)
  case atStart => exact ⟨0, Nat.zero_le _, rfl, SimE.refl _ _ _⟩
  case round =>
    obtain ⟨t, ht, rfl, hst⟩ := hrel
    clear hk3
    by_cases ht2 : t < 2
    · have ht1 : (t : Int) < 2 := by omega
      go_wp2_with fail
      go_loopw [4] (fun v wr => ∃ i : Nat, i ≤ lb.length ∧ v = .int .i64 i ∧ SimE base E w wr ∧ ∀ i', i' < i → Full .u8 wr (lb.getD i' (none, 0)) (markN i' t)) (fun v _ => lb.length - (intOf v).toNat)
      case atStart => exact ⟨0, Nat.zero_le _, rfl, hst, fun _ h => absurd h (by omega)⟩
      case round =>
        obtain ⟨i, hi, rfl, hs, hfill⟩ := hrel
        have hbk := h.kept hs.other (by decide) (by decide) (by decide) (by decide)
        have hk := hbk.blk.cell 0
        simp at hk
        by_cases hlt : i < lb.length
        · have HF := Lib.hid hfill
          clear hfill
          have hlti : (i : Int) < (lb.length : Int) := by omega
          obtain ⟨gh, hA, _, hgh, _, hch⟩ := owns_at hbk.ob hlt
          have hghB : ∃ cs, Blk w gh 55 cs := by
            rcases h.ob.2 with ⟨_, h0⟩ | ⟨g, cap, cur, hv, _, hh, _⟩
            · omega
            · rw [hA] at hv
              injection hv with h1
              injection h1 with h1
              injection h1 with h1
              subst h1
              exact ⟨cur, hh⟩
          have hpm := HSB.out (lb.getD i (none, 0)) (by rw [List.getD, List.getElem?_eq_getElem hlt]; exact List.getElem_mem _)
          have hent := Lib.hid (eb i hlt)
          have hD := Lib.hid (fun i' (h : i' < lb.length) => db i' i h hlt)
          obtain ⟨p, hp⟩ : ∃ p, p = lb.getD i (none, 0) := ⟨_, rfl⟩
          rw [← hp] at hch hpm hent hD
          have HP := Lib.hid hp
          clear hp
          obtain ⟨Ap, m⟩ := p
          simp only at hch hpm
          obtain ⟨mk, hmk⟩ : ∃ mk, mk = markN i t := ⟨_, rfl⟩
          have hmk9 : mk < 200 := by rw [hmk]; exact markN_lt i t
          have hM := mark_any i t
          rw [← hmk] at hM
          have HE := Lib.hid hmk
          clear hmk
          have HMK := Lib.hid hM
          clear hM
          subst hA
          have hKB := hs.other _ _ _ (by decide) h.blk
          obtain ⟨csh, hcsh⟩ := hghB
          have hGH := hs.other _ _ _ (by decide) hcsh
          go_wp2_with fail
          go_loopw [5] (fun v wx => ∃ j : Nat, j ≤ m ∧ v = .int .i64 j ∧ SimE base E w wx ∧ Hid (∀ i', i' < i → Full .u8 wx (lb.getD i' (none, 0)) (markN i' t)) ∧ Part .u8 wx Ap mk j) (fun v _ => m - (intOf v).toNat)
          case atStart => exact ⟨0, Nat.zero_le _, rfl, hs, HF, fun h => absurd h (by omega)⟩
          case round =>
            obtain ⟨j, hj, rfl, hsx, HFx, hpart⟩ := hrel
            have hKBx := hsx.other _ _ _ (by decide) h.blk
            have hGHx := hsx.other _ _ _ (by decide) hcsh
            have hk' := hKBx.cell 0
            simp at hk'
            have hch' := (hGHx.cell i).trans ((hGH.cell i).symm.trans hch)
            by_cases hjm : j < m
            · have hjmi : (j : Int) < (m : Int) := by omega
              have hi0 : (0 : Int) ≤ (i : Int) := by omega
              have hj0 : (0 : Int) ≤ (j : Int) := by omega
              obtain ⟨g, csd, hg, hgb, hBw, hcd⟩ := hent.out (by simp only; omega)
              simp only at hg hcd
              subst hg
              obtain ⟨csx, hBx, hsz⟩ := hsx.data _ _ _ hBw
              have hcell := hBx.cell j
              rw [Array.getElem?_eq_getElem (by omega)] at hcell
              obtain ⟨old, hold⟩ : ∃ old, old = csx[j]'(by omega) := ⟨_, rfl⟩
              rw [← hold] at hcell
              clear hold
              have hfz := hBx.frozen j
              have hne1 : kb ≠ g := hKBx.ne hBx (by decide)
              have hne2 : gh ≠ g := hGHx.ne hBx (by decide)
              have hwr : IntKind.u8.wrap (mk : Int) = (mk : Int) := by rw [IntKind.wrap_u8]; omega
              have HKS := Lib.hid ((World.cell?_setCell_other _ ⟨g, j, none⟩ ⟨kb, 0, none⟩ (.int .u8 (mk : Int)) (fun e' => by injection e' with e1; exact hne1 e1.symm)).trans hk')
              have HCS := Lib.hid ((World.cell?_setCell_other _ ⟨g, j, none⟩ ⟨gh, i, none⟩ (.int .u8 (mk : Int)) (fun e' => by injection e' with e1; exact hne2 e1.symm)).trans hch')
              clear hk hch
              go_wp2_with fail
              go_region_held3 (fun w' => w'.cell? ⟨kb, 0, none⟩ = some (.slice (some ⟨gh, 0, none⟩) lb.length cb) ∧ w'.cell? ⟨gh, i, none⟩ = some (.slice (some ⟨g, 0, none⟩) m m))
                (first
                  | exact ⟨HKS.out, HCS.out⟩
                  | go_keep)
                (first
                  | (go_at_call 35; with_reducible refine (HMK.out _ (by omega) (by omega)).mono ?_; rintro e w' ⟨rfl, rfl⟩))
              all_goals go_wp2_with fail
              go_roundw
              case rel => exact ⟨j + 1, by omega, by go_num, (hsx.trans (SimE.store hBx (by decide) hgb (hEb.out _ (by assumption) _ _ HP.out (by omega)) _)).drew, Lib.hid (fun i' hi' => (HFx.out i' hi').far (fun h0 e' => hD.out i' (by omega) (by omega) h0 (by omega) e') _), hpart.store hBx (by omega)⟩
              case measure => simp [intOf]; omega
            · have hjmi : (m : Int) ≤ (j : Int) := by omega
              obtain rfl : j = m := by omega
              go_wp2_with fail
              go_roundw
              case rel =>
                refine ⟨i + 1, by omega, by go_num, hsx, fun i' hi' => ?_⟩
                by_cases e : i' = i
                · subst e
                  rw [← HP.out, ← HE.out]
                  exact hpart
                · exact HFx.out i' (by omega)
              case measure => simp [intOf]; omega
        · have hlti : (lb.length : Int) ≤ (i : Int) := by omega
          obtain rfl : i = lb.length := by omega
          clear hbk
          have fb : FullAll .u8 wr lb t := hfill
          clear hfill
          go_wp2_with fail
          go_loopw [6] (fun v wr => ∃ i : Nat, i ≤ ln.length ∧ v = .int .i64 i ∧ SimE base E w wr ∧ FullAll .u8 wr lb t ∧ ∀ i', i' < i → Full .i64 wr (ln.getD i' (none, 0)) (markN i' t)) (fun v _ => ln.length - (intOf v).toNat)
          case atStart => exact ⟨0, Nat.zero_le _, rfl, hs, fb, fun _ h => absurd h (by omega)⟩
          case round =>
            obtain ⟨i, hi, rfl, hs, fb, hfill⟩ := hrel
            have hbk := h.kept hs.other (by decide) (by decide) (by decide) (by decide)
            have hk := hbk.blk.cell 1
            simp at hk
            by_cases hlt : i < ln.length
            · have HF := Lib.hid hfill
              clear hfill
              have hlti : (i : Int) < (ln.length : Int) := by omega
              obtain ⟨gh, hA, _, hgh, _, hch⟩ := owns_at hbk.on hlt
              have hghB : ∃ cs, Blk w gh 31 cs := by
                rcases h.on.2 with ⟨_, h0⟩ | ⟨g, cap, cur, hv, _, hh, _⟩
                · omega
                · rw [hA] at hv
                  injection hv with h1
                  injection h1 with h1
                  injection h1 with h1
                  subst h1
                  exact ⟨cur, hh⟩
              have hpm := HSN.out (ln.getD i (none, 0)) (by rw [List.getD, List.getElem?_eq_getElem hlt]; exact List.getElem_mem _)
              have hent := Lib.hid (en i hlt)
              have hD := Lib.hid (fun i' (h : i' < ln.length) => dn i' i h hlt)
              obtain ⟨p, hp⟩ : ∃ p, p = ln.getD i (none, 0) := ⟨_, rfl⟩
              rw [← hp] at hch hpm hent hD
              have HP := Lib.hid hp
              clear hp
              obtain ⟨Ap, m⟩ := p
              simp only at hch hpm
              obtain ⟨mk, hmk⟩ : ∃ mk, mk = markN i t := ⟨_, rfl⟩
              have hmk9 : mk < 200 := by rw [hmk]; exact markN_lt i t
              have hM := mark_any i t
              rw [← hmk] at hM
              have HE := Lib.hid hmk
              clear hmk
              have HMK := Lib.hid hM
              clear hM
              subst hA
              have hKB := hs.other _ _ _ (by decide) h.blk
              obtain ⟨csh, hcsh⟩ := hghB
              have hGH := hs.other _ _ _ (by decide) hcsh
              go_wp2_with fail
              go_loopw [7] (fun v wx => ∃ j : Nat, j ≤ m ∧ v = .int .i64 j ∧ SimE base E w wx ∧ FullAll .u8 wx lb t ∧ Hid (∀ i', i' < i → Full .i64 wx (ln.getD i' (none, 0)) (markN i' t)) ∧ Part .i64 wx Ap mk j) (fun v _ => m - (intOf v).toNat)
              case atStart => exact ⟨0, Nat.zero_le _, rfl, hs, fb, HF, fun h => absurd h (by omega)⟩
              case round =>
                obtain ⟨j, hj, rfl, hsx, fbx, HFx, hpart⟩ := hrel
                have hKBx := hsx.other _ _ _ (by decide) h.blk
                have hGHx := hsx.other _ _ _ (by decide) hcsh
                have hk' := hKBx.cell 1
                simp at hk'
                have hch' := (hGHx.cell i).trans ((hGH.cell i).symm.trans hch)
                by_cases hjm : j < m
                · have hjmi : (j : Int) < (m : Int) := by omega
                  have hi0 : (0 : Int) ≤ (i : Int) := by omega
                  have hj0 : (0 : Int) ≤ (j : Int) := by omega
                  obtain ⟨g, csd, hg, hgb, hBw, hcd⟩ := hent.out (by simp only; omega)
                  simp only at hg hcd
                  subst hg
                  obtain ⟨csx, hBx, hsz⟩ := hsx.data _ _ _ hBw
                  have hcell := hBx.cell j
                  rw [Array.getElem?_eq_getElem (by omega)] at hcell
                  obtain ⟨old, hold⟩ : ∃ old, old = csx[j]'(by omega) := ⟨_, rfl⟩
                  rw [← hold] at hcell
                  clear hold
                  have hfz := hBx.frozen j
                  have hne1 : kb ≠ g := hKBx.ne hBx (by decide)
                  have hne2 : gh ≠ g := hGHx.ne hBx (by decide)
                  have HKS := Lib.hid ((World.cell?_setCell_other _ ⟨g, j, none⟩ ⟨kb, 1, none⟩ (.int .i64 (mk : Int)) (fun e' => by injection e' with e1; exact hne1 e1.symm)).trans hk')
                  have HCS := Lib.hid ((World.cell?_setCell_other _ ⟨g, j, none⟩ ⟨gh, i, none⟩ (.int .i64 (mk : Int)) (fun e' => by injection e' with e1; exact hne2 e1.symm)).trans hch')
                  clear hk hch
                  go_wp2_with fail
                  go_region_held3 (fun w' => w'.cell? ⟨kb, 1, none⟩ = some (.slice (some ⟨gh, 0, none⟩) ln.length cn) ∧ w'.cell? ⟨gh, i, none⟩ = some (.slice (some ⟨g, 0, none⟩) m m))
                    (first
                      | exact ⟨HKS.out, HCS.out⟩
                      | go_keep)
                    (first
                      | (go_at_call 35; with_reducible refine (HMK.out _ (by omega) (by omega)).mono ?_; rintro e w' ⟨rfl, rfl⟩))
                  all_goals go_wp2_with fail
                  go_roundw
                  case rel => exact ⟨j + 1, by omega, by go_num, (hsx.trans (SimE.store hBx (by decide) hgb (hEn.out _ (by assumption) _ _ HP.out (by omega)) _)).drew, fbx.far eb hsx.toSim hBx (by decide) _, Lib.hid (fun i' hi' => (HFx.out i' hi').far (fun h0 e' => hD.out i' (by omega) (by omega) h0 (by omega) e') _), hpart.store hBx (by omega)⟩
                  case measure => simp [intOf]; omega
                · have hjmi : (m : Int) ≤ (j : Int) := by omega
                  obtain rfl : j = m := by omega
                  go_wp2_with fail
                  go_roundw
                  case rel =>
                    refine ⟨i + 1, by omega, by go_num, hsx, fbx, fun i' hi' => ?_⟩
                    by_cases e : i' = i
                    · subst e
                      rw [← HP.out, ← HE.out]
                      exact hpart
                    · exact HFx.out i' (by omega)
                  case measure => simp [intOf]; omega
            · have hlti : (ln.length : Int) ≤ (i : Int) := by omega
              obtain rfl : i = ln.length := by omega
              clear hbk
              have fn : FullAll .i64 wr ln t := hfill
              clear hfill
              go_wp2_with fail
              go_loopw [8] (fun v wr => ∃ i : Nat, i ≤ ls.length ∧ v = .int .i64 i ∧ SimE base E w wr ∧ FullAll .u8 wr lb t ∧ FullAll .i64 wr ln t ∧ ∀ i', i' < i → Full .u8 wr (ls.getD i' (none, 0)) (markN i' t)) (fun v _ => ls.length - (intOf v).toNat)
              case atStart => exact ⟨0, Nat.zero_le _, rfl, hs, fb, fn, fun _ h => absurd h (by omega)⟩
              case round =>
                obtain ⟨i, hi, rfl, hs, fb, fn, hfill⟩ := hrel
                have hbk := h.kept hs.other (by decide) (by decide) (by decide) (by decide)
                have hk := hbk.blk.cell 2
                simp at hk
                by_cases hlt : i < ls.length
                · have HF := Lib.hid hfill
                  clear hfill
                  have hlti : (i : Int) < (ls.length : Int) := by omega
                  obtain ⟨gh, hA, _, hgh, _, hch⟩ := owns_at hbk.os hlt
                  have hghB : ∃ cs, Blk w gh 82 cs := by
                    rcases h.os.2 with ⟨_, h0⟩ | ⟨g, cap, cur, hv, _, hh, _⟩
                    · omega
                    · rw [hA] at hv
                      injection hv with h1
                      injection h1 with h1
                      injection h1 with h1
                      subst h1
                      exact ⟨cur, hh⟩
                  have hpm := HSS.out (ls.getD i (none, 0)) (by rw [List.getD, List.getElem?_eq_getElem hlt]; exact List.getElem_mem _)
                  have hent := Lib.hid (es i hlt)
                  have hD := Lib.hid (fun i' (h : i' < ls.length) => ds i' i h hlt)
                  obtain ⟨p, hp⟩ : ∃ p, p = ls.getD i (none, 0) := ⟨_, rfl⟩
                  rw [← hp] at hch hpm hent hD
                  have HP := Lib.hid hp
                  clear hp
                  obtain ⟨Ap, m⟩ := p
                  simp only at hch hpm
                  obtain ⟨mk, hmk⟩ : ∃ mk, mk = markN i t := ⟨_, rfl⟩
                  have hmk9 : mk < 200 := by rw [hmk]; exact markN_lt i t
                  have hM := mark_any i t
                  rw [← hmk] at hM
                  have HE := Lib.hid hmk
                  clear hmk
                  have HMK := Lib.hid hM
                  clear hM
                  subst hA
                  have hKB := hs.other _ _ _ (by decide) h.blk
                  obtain ⟨csh, hcsh⟩ := hghB
                  have hGH := hs.other _ _ _ (by decide) hcsh
                  go_wp2_with fail
                  go_loopw [9] (fun v wx => ∃ j : Nat, j ≤ m ∧ v = .int .i64 j ∧ SimE base E w wx ∧ FullAll .u8 wx lb t ∧ FullAll .i64 wx ln t ∧ Hid (∀ i', i' < i → Full .u8 wx (ls.getD i' (none, 0)) (markN i' t)) ∧ Part .u8 wx Ap mk j) (fun v _ => m - (intOf v).toNat)
                  case atStart => exact ⟨0, Nat.zero_le _, rfl, hs, fb, fn, HF, fun h => absurd h (by omega)⟩
                  case round =>
                    obtain ⟨j, hj, rfl, hsx, fbx, fnx, HFx, hpart⟩ := hrel
                    have hKBx := hsx.other _ _ _ (by decide) h.blk
                    have hGHx := hsx.other _ _ _ (by decide) hcsh
                    have hk' := hKBx.cell 2
                    simp at hk'
                    have hch' := (hGHx.cell i).trans ((hGH.cell i).symm.trans hch)
                    by_cases hjm : j < m
                    · have hjmi : (j : Int) < (m : Int) := by omega
                      have hi0 : (0 : Int) ≤ (i : Int) := by omega
                      have hj0 : (0 : Int) ≤ (j : Int) := by omega
                      obtain ⟨g, csd, hg, hgb, hBw, hcd⟩ := hent.out (by simp only; omega)
                      simp only at hg hcd
                      subst hg
                      obtain ⟨csx, hBx, hsz⟩ := hsx.data _ _ _ hBw
                      have hcell := hBx.cell j
                      rw [Array.getElem?_eq_getElem (by omega)] at hcell
                      obtain ⟨old, hold⟩ : ∃ old, old = csx[j]'(by omega) := ⟨_, rfl⟩
                      rw [← hold] at hcell
                      clear hold
                      have hfz := hBx.frozen j
                      have hne1 : kb ≠ g := hKBx.ne hBx (by decide)
                      have hne2 : gh ≠ g := hGHx.ne hBx (by decide)
                      have hwr : IntKind.u8.wrap (mk : Int) = (mk : Int) := by rw [IntKind.wrap_u8]; omega
                      have HKS := Lib.hid ((World.cell?_setCell_other _ ⟨g, j, none⟩ ⟨kb, 2, none⟩ (.int .u8 (mk : Int)) (fun e' => by injection e' with e1; exact hne1 e1.symm)).trans hk')
                      have HCS := Lib.hid ((World.cell?_setCell_other _ ⟨g, j, none⟩ ⟨gh, i, none⟩ (.int .u8 (mk : Int)) (fun e' => by injection e' with e1; exact hne2 e1.symm)).trans hch')
                      clear hk hch
                      go_wp2_with fail
                      go_region_held3 (fun w' => w'.cell? ⟨kb, 2, none⟩ = some (.slice (some ⟨gh, 0, none⟩) ls.length cs) ∧ w'.cell? ⟨gh, i, none⟩ = some (.slice (some ⟨g, 0, none⟩) m m))
                        (first
                          | exact ⟨HKS.out, HCS.out⟩
                          | go_keep)
                        (first
                          | (go_at_call 35; with_reducible refine (HMK.out _ (by omega) (by omega)).mono ?_; rintro e w' ⟨rfl, rfl⟩))
                      all_goals go_wp2_with fail
                      go_roundw
                      case rel => exact ⟨j + 1, by omega, by go_num, (hsx.trans (SimE.store hBx (by decide) hgb (hEs.out _ (by assumption) _ _ HP.out (by omega)) _)).drew, fbx.far eb hsx.toSim hBx (by decide) _, fnx.far en hsx.toSim hBx (by decide) _, Lib.hid (fun i' hi' => (HFx.out i' hi').far (fun h0 e' => hD.out i' (by omega) (by omega) h0 (by omega) e') _), hpart.store hBx (by omega)⟩
                      case measure => simp [intOf]; omega
                    · have hjmi : (m : Int) ≤ (j : Int) := by omega
                      obtain rfl : j = m := by omega
                      go_wp2_with fail
                      go_roundw
                      case rel =>
                        refine ⟨i + 1, by omega, by go_num, hsx, fbx, fnx, fun i' hi' => ?_⟩
                        by_cases e : i' = i
                        · subst e
                          rw [← HP.out, ← HE.out]
                          exact hpart
                        · exact HFx.out i' (by omega)
                      case measure => simp [intOf]; omega
                · have hlti : (ls.length : Int) ≤ (i : Int) := by omega
                  obtain rfl : i = ls.length := by omega
                  clear hbk
                  have fs : FullAll .u8 wr ls t := hfill
                  clear hfill
                  go_wp2_with fail
                  with_reducible refine (kept_any wr kb base t _ _ _ lb ln ls (h.kept hs.other (by decide) (by decide) (by decide) (by decide)) (by omega) hlb hln hls HSB.out HSN.out HSS.out fb fn fs).mono ?_
                  rintro e w9 ⟨rfl, hb9⟩
                  have hs9 := hs.trans (SimE.of_below hb9 (by have := h.lo; have := h.blk.lt; have := hs.below.size; omega))
                  clear hb9 hs fb fn fs hk
                  go_wp2_with fail
                  go_roundw
                  case rel => exact ⟨t + 1, by omega, by go_num, hs9⟩
                  case measure => simp [intOf]; omega
    · have ht1 : (2 : Int) ≤ (t : Int) := by omega
      go_wp2_with fail
      go_ret
      exact ⟨rfl, hst⟩
end Go.Proofs.Ytlbpplibngdncaa
