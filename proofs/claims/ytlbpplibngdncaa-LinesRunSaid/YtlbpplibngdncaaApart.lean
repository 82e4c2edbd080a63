/-
  The contract of the law's book's Apart: it returns true where each list has memory of its own and no room behind; it writes into these lists alone. Conditions: what the book holds.
-/
import Derived.Test.YtlbpplibngdncaaKept
import Derived.Deep.RegionHeld3
namespace Go.Proofs.Ytlbpplibngdncaa
open Go.RowKit

def dataTypes : List TypeId := [5, 3, 83]
/-- wr is w, but for what stands in the lists' own blocks. -/
structure Sim (base : Nat) (w wr : World) : Prop where
  below : Below base w wr
  other : KeptBut w wr dataTypes
  data : ∀ g t cs, Blk w g t cs → ∃ cs', Blk wr g t cs' ∧ cs'.size = cs.size
section
variable {base : Nat} {w wr wx : World}
theorem Sim.refl (base : Nat) (w : World) : Sim base w w := ⟨Below.refl _ _, KeptBut.refl _ _, fun _ _ cs h => ⟨cs, h, rfl⟩⟩
theorem Sim.trans (h : Sim base w wr) (k : Sim base wr wx) : Sim base w wx := ⟨h.below.trans k.below, h.other.trans k.other, fun g t cs hB => by
  obtain ⟨c1, h1, e1⟩ := h.data g t cs hB
  obtain ⟨c2, h2, e2⟩ := k.data g t c1 h1
  exact ⟨c2, h2, e2.trans e1⟩⟩
theorem Sim.of_below (h : Below wr.heap.size wr wx) (hb : base ≤ wr.heap.size) : Sim base wr wx := ⟨h.mono hb, KeptBut.below h _, fun _ _ cs hB => ⟨cs, hB.on h, rfl⟩⟩
theorem Sim.drew (h : Sim base w wr) : Sim base w wr.drew := ⟨h.below.drew, h.other, h.data⟩
theorem Sim.store {g j : Nat} {t : TypeId} {cs : Array Value} (hB : Blk wr g t cs) (ht : t ∈ dataTypes) (hg : base ≤ g) (u : Value) : Sim base wr (wr.setCell ⟨g, j, none⟩ u) :=
  ⟨(Below.refl _ _).setCell hg u, (KeptBut.setCell hB u).mono (by intro x hx; simp at hx; subst hx; exact ht), fun g' t' cs' hB' => by
    by_cases e : g' = g
    · subst e
      exact ⟨_, hB'.set_ j u, by simp⟩
    · exact ⟨cs', (Below.heap_setCell wr ⟨g, j, none⟩ u g' e).trans hB', rfl⟩⟩
end

/-- A list of the book: memory of its own. -/
def Ent (w : World) (T : TypeId) (base : Nat) (p : Option Addr × Nat) : Prop := 0 < p.2 → ∃ g cs, p.1 = some ⟨g, 0, none⟩ ∧ base ≤ g ∧ Blk w g T cs ∧ p.2 ≤ cs.size
def Ents (w : World) (T : TypeId) (base : Nat) (l : List (Option Addr × Nat)) : Prop := ∀ i, i < l.length → Ent w T base (l.getD i (none, 0))
def Dist (l : List (Option Addr × Nat)) : Prop := ∀ i j, i < l.length → j < l.length → i ≠ j → 0 < (l.getD i (none, 0)).2 → 0 < (l.getD j (none, 0)).2 → (l.getD i (none, 0)).1 ≠ (l.getD j (none, 0)).1
theorem Ent.sim {w wr : World} {T : TypeId} {base b : Nat} {p : Option Addr × Nat} (h : Ent w T base p) (hs : Sim b w wr) : Ent wr T base p := fun h0 => by
  obtain ⟨g, cs, e, hb, hB, hl⟩ := h h0
  obtain ⟨cs', hB', e'⟩ := hs.data g T cs hB
  exact ⟨g, cs', e, hb, hB', by omega⟩
theorem Ent.kept {w wr : World} {T : TypeId} {base : Nat} {ts : List TypeId} {p : Option Addr × Nat} (h : Ent w T base p) (hs : KeptBut w wr ts) (ht : T ∉ ts) : Ent wr T base p := fun h0 => by
  obtain ⟨g, cs, e, hb, hB, hl⟩ := h h0
  exact ⟨g, cs, e, hb, hs g T cs ht hB, hl⟩
theorem Full.far {k : IntKind} {w : World} {p : Option Addr × Nat} {v g j : Nat} (h : Full k w p v) (hne : 0 < p.2 → p.1 ≠ some ⟨g, 0, none⟩) (u : Value) : Full k (w.setCell ⟨g, j, none⟩ u) p v := fun h0 => by
  obtain ⟨g', e, hg, hc⟩ := h h0
  have hgg : g' ≠ g := fun e' => hne h0 (by rw [e, e'])
  exact ⟨g', e, by simpa [World.setCell] using hg, fun i hi => (World.cell?_setCell_other w ⟨g, j, none⟩ ⟨g', i, none⟩ u (fun e' => by injection e' with e1; exact hgg e1.symm)).trans (hc i hi)⟩
theorem FullAll.far {k : IntKind} {w wr : World} {T T' : TypeId} {base b : Nat} {l : List (Option Addr × Nat)} {t g j : Nat} {cs : Array Value} (h : FullAll k wr l t) (he : Ents w T base l) (hs : Sim b w wr) (hB : Blk wr g T' cs) (hne : T ≠ T') (u : Value) :
    FullAll k (wr.setCell ⟨g, j, none⟩ u) l t := fun i hi => (h i hi).far (fun h0 e => by
  obtain ⟨g', cs', e', _, hB', _⟩ := (he i hi).sim hs h0
  rw [e'] at e
  injection e with e
  injection e with e
  subst e
  exact hB'.ne hB hne rfl) u
/-- The first m places of a list hold v. -/
def Part (k : IntKind) (w : World) (A : Option Addr) (v m : Nat) : Prop := 0 < m → ∃ g, A = some ⟨g, 0, none⟩ ∧ g < w.heap.size ∧ ∀ j, j < m → w.cell? ⟨g, j, none⟩ = some (.int k (v : Int))
theorem Part.store {k : IntKind} {w : World} {g v m : Nat} {t : TypeId} {cs : Array Value} (h : Part k w (some ⟨g, 0, none⟩) v m) (hB : Blk w g t cs) (hm : m < cs.size) :
    Part k (w.setCell ⟨g, m, none⟩ (.int k (v : Int))) (some ⟨g, 0, none⟩) v (m + 1) := fun _ => by
  have hB' := hB.set_ m (.int k (v : Int))
  refine ⟨g, rfl, hB'.lt, fun j hj => ?_⟩
  rw [hB'.cell j]
  by_cases e : j = m
  · subst e; simp [hm]
  · obtain ⟨g', e', _, hc⟩ := h (by omega)
    injection e' with e'
    injection e' with e'
    subst e'
    have := hc j (by omega)
    rw [hB.cell j] at this
    rw [Array.getElem?_setIfInBounds_ne (fun e' => e e'.symm)]
    exact this

set_option maxRecDepth 100000 in
set_option maxHeartbeats 1000000 in
theorem apart_any (w : World) (kb base : Nat) (vb vn vs : Value) (lb ln ls : List (Option Addr × Nat)) (h : BookIs w kb base vb vn vs lb ln ls) (hlb : lb.length ≤ 65536) (hln : ln.length ≤ 65536) (hls : ls.length ≤ 65536)
    (hsb : ∀ p ∈ lb, p.2 ≤ 65536) (hsn : ∀ p ∈ ln, p.2 ≤ 65536) (hss : ∀ p ∈ ls, p.2 ≤ 65536) (eb : Ents w 5 base lb) (en : Ents w 3 base ln) (es : Ents w 83 base ls) (db : Dist lb) (dn : Dist ln) (ds : Dist ls) :
    Calls Try.prog 17 #[.pointer (some ⟨kb, 0, none⟩)] w fun e w' => e = .returned (.bool true) ∧ Below base w w' := by
  obtain ⟨Ab, cb, hvb⟩ := owns_len h.ob
  obtain ⟨An, cn, hvn⟩ := owns_len h.on
  obtain ⟨As, cs, hvs⟩ := owns_len h.os
  subst hvb hvn hvs
  have HSB := Lib.hid hsb
  have HSN := Lib.hid hsn
  have HSS := Lib.hid hss
  clear hsb hsn hss
  have hk3 := h.blk.cell 3
  simp at hk3
  go_enter Try.func17, Try.ntmps17
  go_wp2_with fail
  go_loopw [3] (fun v wt => ∃ t : Nat, t ≤ 2 ∧ v = .int .i64 t ∧ Sim base w wt) (fun v _ => 2 - (intOf v).toNat)
  case atStart => exact ⟨0, Nat.zero_le _, rfl, Sim.refl _ _⟩
  case round =>
    obtain ⟨t, ht, rfl, hst⟩ := hrel
    clear hk3
    by_cases ht2 : t < 2
    · have ht1 : (t : Int) < 2 := by omega
      go_wp2_with fail
      go_loopw [4] (fun v wr => ∃ i : Nat, i ≤ lb.length ∧ v = .int .i64 i ∧ Sim base w wr ∧ ∀ i', i' < i → Full .u8 wr (lb.getD i' (none, 0)) (markN i' t)) (fun v _ => lb.length - (intOf v).toNat)
      case atStart => exact ⟨0, Nat.zero_le _, rfl, hst, fun _ h => absurd h (by omega)⟩
      case round =>
        obtain ⟨i, hi, rfl, hs, hfill⟩ := hrel
        have hbk := h.kept hs.other (by decide) (by decide) (by decide) (by decide)
        have hk := hbk.blk.cell 0
        simp at hk
        by_cases hlt : i < lb.length
        · have HF := Lib.hid hfill
          clear hfill
          have hlti : (i : Int) < (lb.length : Int) := by omega
          obtain ⟨gh, hA, _, hgh, _, hch⟩ := owns_at hbk.ob hlt
          have hghB : ∃ cs, Blk w gh 55 cs := by
            rcases h.ob.2 with ⟨_, h0⟩ | ⟨g, cap, cur, hv, _, hh, _⟩
            · omega
            · rw [hA] at hv
              injection hv with h1
              injection h1 with h1
              injection h1 with h1
              subst h1
              exact ⟨cur, hh⟩
          have hpm := HSB.out (lb.getD i (none, 0)) (by rw [List.getD, List.getElem?_eq_getElem hlt]; exact List.getElem_mem _)
          have hent := Lib.hid (eb i hlt)
          have hD := Lib.hid (fun i' (h : i' < lb.length) => db i' i h hlt)
          obtain ⟨p, hp⟩ : ∃ p, p = lb.getD i (none, 0) := ⟨_, rfl⟩
          rw [← hp] at hch hpm hent hD
          have HP := Lib.hid hp
          clear hp
          obtain ⟨Ap, m⟩ := p
          simp only at hch hpm
          obtain ⟨mk, hmk⟩ : ∃ mk, mk = markN i t := ⟨_, rfl⟩
          have hmk9 : mk < 200 := by rw [hmk]; exact markN_lt i t
          have hM := mark_any i t
          rw [← hmk] at hM
          have HE := Lib.hid hmk
          clear hmk
          have HMK := Lib.hid hM
          clear hM
          subst hA
          have hKB := hs.other _ _ _ (by decide) h.blk
          obtain ⟨csh, hcsh⟩ := hghB
          have hGH := hs.other _ _ _ (by decide) hcsh
          go_wp2_with fail
          go_loopw [5] (fun v wx => ∃ j : Nat, j ≤ m ∧ v = .int .i64 j ∧ Sim base w wx ∧ Hid (∀ i', i' < i → Full .u8 wx (lb.getD i' (none, 0)) (markN i' t)) ∧ Part .u8 wx Ap mk j) (fun v _ => m - (intOf v).toNat)
          case atStart => exact ⟨0, Nat.zero_le _, rfl, hs, HF, fun h => absurd h (by omega)⟩
          case round =>
            obtain ⟨j, hj, rfl, hsx, HFx, hpart⟩ := hrel
            have hKBx := hsx.other _ _ _ (by decide) h.blk
            have hGHx := hsx.other _ _ _ (by decide) hcsh
            have hk' := hKBx.cell 0
            simp at hk'
            have hch' := (hGHx.cell i).trans ((hGH.cell i).symm.trans hch)
            by_cases hjm : j < m
            · have hjmi : (j : Int) < (m : Int) := by omega
              have hi0 : (0 : Int) ≤ (i : Int) := by omega
              have hj0 : (0 : Int) ≤ (j : Int) := by omega
              obtain ⟨g, csd, hg, hgb, hBw, hcd⟩ := hent.out (by simp only; omega)
              simp only at hg hcd
              subst hg
              obtain ⟨csx, hBx, hsz⟩ := hsx.data _ _ _ hBw
              have hcell := hBx.cell j
              rw [Array.getElem?_eq_getElem (by omega)] at hcell
              obtain ⟨old, hold⟩ : ∃ old, old = csx[j]'(by omega) := ⟨_, rfl⟩
              rw [← hold] at hcell
              clear hold
              have hfz := hBx.frozen j
              have hne1 : kb ≠ g := hKBx.ne hBx (by decide)
              have hne2 : gh ≠ g := hGHx.ne hBx (by decide)
              have hwr : IntKind.u8.wrap (mk : Int) = (mk : Int) := by rw [IntKind.wrap_u8]; omega
              have HKS := Lib.hid ((World.cell?_setCell_other _ ⟨g, j, none⟩ ⟨kb, 0, none⟩ (.int .u8 (mk : Int)) (fun e' => by injection e' with e1; exact hne1 e1.symm)).trans hk')
              have HCS := Lib.hid ((World.cell?_setCell_other _ ⟨g, j, none⟩ ⟨gh, i, none⟩ (.int .u8 (mk : Int)) (fun e' => by injection e' with e1; exact hne2 e1.symm)).trans hch')
              clear hk hch
              go_wp2_with fail
              go_region_held3 (fun w' => w'.cell? ⟨kb, 0, none⟩ = some (.slice (some ⟨gh, 0, none⟩) lb.length cb) ∧ w'.cell? ⟨gh, i, none⟩ = some (.slice (some ⟨g, 0, none⟩) m m))
                (first
                  | exact ⟨HKS.out, HCS.out⟩
                  | go_keep)
                (first
                  | (go_at_call 35; with_reducible refine (HMK.out _ (by omega) (by omega)).mono ?_; rintro e w' ⟨rfl, rfl⟩))
              all_goals go_wp2_with fail
              go_roundw
              case rel => exact ⟨j + 1, by omega, by go_num, (hsx.trans (Sim.store hBx (by decide) hgb _)).drew, Lib.hid (fun i' hi' => (HFx.out i' hi').far (fun h0 e' => hD.out i' (by omega) (by omega) h0 (by omega) e') _), hpart.store hBx (by omega)⟩
              case measure => simp [intOf]; omega
            · have hjmi : (m : Int) ≤ (j : Int) := by omega
              obtain rfl : j = m := by omega
              go_wp2_with fail
              go_roundw
              case rel =>
                refine ⟨i + 1, by omega, by go_num, hsx, fun i' hi' => ?_⟩
                by_cases e : i' = i
                · subst e
                  rw [← HP.out, ← HE.out]
                  exact hpart
                · exact HFx.out i' (by omega)
              case measure => simp [intOf]; omega
        · have hlti : (lb.length : Int) ≤ (i : Int) := by omega
          obtain rfl : i = lb.length := by omega
          clear hbk
          have fb : FullAll .u8 wr lb t := hfill
          clear hfill
          go_wp2_with fail
          go_loopw [6] (fun v wr => ∃ i : Nat, i ≤ ln.length ∧ v = .int .i64 i ∧ Sim base w wr ∧ FullAll .u8 wr lb t ∧ ∀ i', i' < i → Full .i64 wr (ln.getD i' (none, 0)) (markN i' t)) (fun v _ => ln.length - (intOf v).toNat)
          case atStart => exact ⟨0, Nat.zero_le _, rfl, hs, fb, fun _ h => absurd h (by omega)⟩
          case round =>
            obtain ⟨i, hi, rfl, hs, fb, hfill⟩ := hrel
            have hbk := h.kept hs.other (by decide) (by decide) (by decide) (by decide)
            have hk := hbk.blk.cell 1
            simp at hk
            by_cases hlt : i < ln.length
            · have HF := Lib.hid hfill
              clear hfill
              have hlti : (i : Int) < (ln.length : Int) := by omega
              obtain ⟨gh, hA, _, hgh, _, hch⟩ := owns_at hbk.on hlt
              have hghB : ∃ cs, Blk w gh 31 cs := by
                rcases h.on.2 with ⟨_, h0⟩ | ⟨g, cap, cur, hv, _, hh, _⟩
                · omega
                · rw [hA] at hv
                  injection hv with h1
                  injection h1 with h1
                  injection h1 with h1
                  subst h1
                  exact ⟨cur, hh⟩
              have hpm := HSN.out (ln.getD i (none, 0)) (by rw [List.getD, List.getElem?_eq_getElem hlt]; exact List.getElem_mem _)
              have hent := Lib.hid (en i hlt)
              have hD := Lib.hid (fun i' (h : i' < ln.length) => dn i' i h hlt)
              obtain ⟨p, hp⟩ : ∃ p, p = ln.getD i (none, 0) := ⟨_, rfl⟩
              rw [← hp] at hch hpm hent hD
              have HP := Lib.hid hp
              clear hp
              obtain ⟨Ap, m⟩ := p
              simp only at hch hpm
              obtain ⟨mk, hmk⟩ : ∃ mk, mk = markN i t := ⟨_, rfl⟩
              have hmk9 : mk < 200 := by rw [hmk]; exact markN_lt i t
              have hM := mark_any i t
              rw [← hmk] at hM
              have HE := Lib.hid hmk
              clear hmk
              have HMK := Lib.hid hM
              clear hM
              subst hA
              have hKB := hs.other _ _ _ (by decide) h.blk
              obtain ⟨csh, hcsh⟩ := hghB
              have hGH := hs.other _ _ _ (by decide) hcsh
              go_wp2_with fail
              go_loopw [7] (fun v wx => ∃ j : Nat, j ≤ m ∧ v = .int .i64 j ∧ Sim base w wx ∧ FullAll .u8 wx lb t ∧ Hid (∀ i', i' < i → Full .i64 wx (ln.getD i' (none, 0)) (markN i' t)) ∧ Part .i64 wx Ap mk j) (fun v _ => m - (intOf v).toNat)
              case atStart => exact ⟨0, Nat.zero_le _, rfl, hs, fb, HF, fun h => absurd h (by omega)⟩
              case round =>
                obtain ⟨j, hj, rfl, hsx, fbx, HFx, hpart⟩ := hrel
                have hKBx := hsx.other _ _ _ (by decide) h.blk
                have hGHx := hsx.other _ _ _ (by decide) hcsh
                have hk' := hKBx.cell 1
                simp at hk'
                have hch' := (hGHx.cell i).trans ((hGH.cell i).symm.trans hch)
                by_cases hjm : j < m
                · have hjmi : (j : Int) < (m : Int) := by omega
                  have hi0 : (0 : Int) ≤ (i : Int) := by omega
                  have hj0 : (0 : Int) ≤ (j : Int) := by omega
                  obtain ⟨g, csd, hg, hgb, hBw, hcd⟩ := hent.out (by simp only; omega)
                  simp only at hg hcd
                  subst hg
                  obtain ⟨csx, hBx, hsz⟩ := hsx.data _ _ _ hBw
                  have hcell := hBx.cell j
                  rw [Array.getElem?_eq_getElem (by omega)] at hcell
                  obtain ⟨old, hold⟩ : ∃ old, old = csx[j]'(by omega) := ⟨_, rfl⟩
                  rw [← hold] at hcell
                  clear hold
                  have hfz := hBx.frozen j
                  have hne1 : kb ≠ g := hKBx.ne hBx (by decide)
                  have hne2 : gh ≠ g := hGHx.ne hBx (by decide)
                  have HKS := Lib.hid ((World.cell?_setCell_other _ ⟨g, j, none⟩ ⟨kb, 1, none⟩ (.int .i64 (mk : Int)) (fun e' => by injection e' with e1; exact hne1 e1.symm)).trans hk')
                  have HCS := Lib.hid ((World.cell?_setCell_other _ ⟨g, j, none⟩ ⟨gh, i, none⟩ (.int .i64 (mk : Int)) (fun e' => by injection e' with e1; exact hne2 e1.symm)).trans hch')
                  clear hk hch
                  go_wp2_with fail
                  go_region_held3 (fun w' => w'.cell? ⟨kb, 1, none⟩ = some (.slice (some ⟨gh, 0, none⟩) ln.length cn) ∧ w'.cell? ⟨gh, i, none⟩ = some (.slice (some ⟨g, 0, none⟩) m m))
                    (first
                      | exact ⟨HKS.out, HCS.out⟩
                      | go_keep)
                    (first
                      | (go_at_call 35; with_reducible refine (HMK.out _ (by omega) (by omega)).mono ?_; rintro e w' ⟨rfl, rfl⟩))
                  all_goals go_wp2_with fail
                  go_roundw
                  case rel => exact ⟨j + 1, by omega, by go_num, (hsx.trans (Sim.store hBx (by decide) hgb _)).drew, fbx.far eb hsx hBx (by decide) _, Lib.hid (fun i' hi' => (HFx.out i' hi').far (fun h0 e' => hD.out i' (by omega) (by omega) h0 (by omega) e') _), hpart.store hBx (by omega)⟩
                  case measure => simp [intOf]; omega
                · have hjmi : (m : Int) ≤ (j : Int) := by omega
                  obtain rfl : j = m := by omega
                  go_wp2_with fail
                  go_roundw
                  case rel =>
                    refine ⟨i + 1, by omega, by go_num, hsx, fbx, fun i' hi' => ?_⟩
                    by_cases e : i' = i
                    · subst e
                      rw [← HP.out, ← HE.out]
                      exact hpart
                    · exact HFx.out i' (by omega)
                  case measure => simp [intOf]; omega
            · have hlti : (ln.length : Int) ≤ (i : Int) := by omega
              obtain rfl : i = ln.length := by omega
              clear hbk
              have fn : FullAll .i64 wr ln t := hfill
              clear hfill
              go_wp2_with fail
              go_loopw [8] (fun v wr => ∃ i : Nat, i ≤ ls.length ∧ v = .int .i64 i ∧ Sim base w wr ∧ FullAll .u8 wr lb t ∧ FullAll .i64 wr ln t ∧ ∀ i', i' < i → Full .u8 wr (ls.getD i' (none, 0)) (markN i' t)) (fun v _ => ls.length - (intOf v).toNat)
              case atStart => exact ⟨0, Nat.zero_le _, rfl, hs, fb, fn, fun _ h => absurd h (by omega)⟩
              case round =>
                obtain ⟨i, hi, rfl, hs, fb, fn, hfill⟩ := hrel
                have hbk := h.kept hs.other (by decide) (by decide) (by decide) (by decide)
                have hk := hbk.blk.cell 2
                simp at hk
                by_cases hlt : i < ls.length
                · have HF := Lib.hid hfill
                  clear hfill
                  have hlti : (i : Int) < (ls.length : Int) := by omega
                  obtain ⟨gh, hA, _, hgh, _, hch⟩ := owns_at hbk.os hlt
                  have hghB : ∃ cs, Blk w gh 82 cs := by
                    rcases h.os.2 with ⟨_, h0⟩ | ⟨g, cap, cur, hv, _, hh, _⟩
                    · omega
                    · rw [hA] at hv
                      injection hv with h1
                      injection h1 with h1
                      injection h1 with h1
                      subst h1
                      exact ⟨cur, hh⟩
                  have hpm := HSS.out (ls.getD i (none, 0)) (by rw [List.getD, List.getElem?_eq_getElem hlt]; exact List.getElem_mem _)
                  have hent := Lib.hid (es i hlt)
                  have hD := Lib.hid (fun i' (h : i' < ls.length) => ds i' i h hlt)
                  obtain ⟨p, hp⟩ : ∃ p, p = ls.getD i (none, 0) := ⟨_, rfl⟩
                  rw [← hp] at hch hpm hent hD
                  have HP := Lib.hid hp
                  clear hp
                  obtain ⟨Ap, m⟩ := p
                  simp only at hch hpm
                  obtain ⟨mk, hmk⟩ : ∃ mk, mk = markN i t := ⟨_, rfl⟩
                  have hmk9 : mk < 200 := by rw [hmk]; exact markN_lt i t
                  have hM := mark_any i t
                  rw [← hmk] at hM
                  have HE := Lib.hid hmk
                  clear hmk
                  have HMK := Lib.hid hM
                  clear hM
                  subst hA
                  have hKB := hs.other _ _ _ (by decide) h.blk
                  obtain ⟨csh, hcsh⟩ := hghB
                  have hGH := hs.other _ _ _ (by decide) hcsh
                  go_wp2_with fail
                  go_loopw [9] (fun v wx => ∃ j : Nat, j ≤ m ∧ v = .int .i64 j ∧ Sim base w wx ∧ FullAll .u8 wx lb t ∧ FullAll .i64 wx ln t ∧ Hid (∀ i', i' < i → Full .u8 wx (ls.getD i' (none, 0)) (markN i' t)) ∧ Part .u8 wx Ap mk j) (fun v _ => m - (intOf v).toNat)
                  case atStart => exact ⟨0, Nat.zero_le _, rfl, hs, fb, fn, HF, fun h => absurd h (by omega)⟩
                  case round =>
                    obtain ⟨j, hj, rfl, hsx, fbx, fnx, HFx, hpart⟩ := hrel
                    have hKBx := hsx.other _ _ _ (by decide) h.blk
                    have hGHx := hsx.other _ _ _ (by decide) hcsh
                    have hk' := hKBx.cell 2
                    simp at hk'
                    have hch' := (hGHx.cell i).trans ((hGH.cell i).symm.trans hch)
                    by_cases hjm : j < m
                    · have hjmi : (j : Int) < (m : Int) := by omega
                      have hi0 : (0 : Int) ≤ (i : Int) := by omega
                      have hj0 : (0 : Int) ≤ (j : Int) := by omega
                      obtain ⟨g, csd, hg, hgb, hBw, hcd⟩ := hent.out (by simp only; omega)
                      simp only at hg hcd
                      subst hg
                      obtain ⟨csx, hBx, hsz⟩ := hsx.data _ _ _ hBw
                      have hcell := hBx.cell j
                      rw [Array.getElem?_eq_getElem (by omega)] at hcell
                      obtain ⟨old, hold⟩ : ∃ old, old = csx[j]'(by omega) := ⟨_, rfl⟩
                      rw [← hold] at hcell
                      clear hold
                      have hfz := hBx.frozen j
                      have hne1 : kb ≠ g := hKBx.ne hBx (by decide)
                      have hne2 : gh ≠ g := hGHx.ne hBx (by decide)
                      have hwr : IntKind.u8.wrap (mk : Int) = (mk : Int) := by rw [IntKind.wrap_u8]; omega
                      have HKS := Lib.hid ((World.cell?_setCell_other _ ⟨g, j, none⟩ ⟨kb, 2, none⟩ (.int .u8 (mk : Int)) (fun e' => by injection e' with e1; exact hne1 e1.symm)).trans hk')
                      have HCS := Lib.hid ((World.cell?_setCell_other _ ⟨g, j, none⟩ ⟨gh, i, none⟩ (.int .u8 (mk : Int)) (fun e' => by injection e' with e1; exact hne2 e1.symm)).trans hch')
                      clear hk hch
                      go_wp2_with fail
                      go_region_held3 (fun w' => w'.cell? ⟨kb, 2, none⟩ = some (.slice (some ⟨gh, 0, none⟩) ls.length cs) ∧ w'.cell? ⟨gh, i, none⟩ = some (.slice (some ⟨g, 0, none⟩) m m))
                        (first
                          | exact ⟨HKS.out, HCS.out⟩
                          | go_keep)
                        (first
                          | (go_at_call 35; with_reducible refine (HMK.out _ (by omega) (by omega)).mono ?_; rintro e w' ⟨rfl, rfl⟩))
                      all_goals go_wp2_with fail
                      go_roundw
                      case rel => exact ⟨j + 1, by omega, by go_num, (hsx.trans (Sim.store hBx (by decide) hgb _)).drew, fbx.far eb hsx hBx (by decide) _, fnx.far en hsx hBx (by decide) _, Lib.hid (fun i' hi' => (HFx.out i' hi').far (fun h0 e' => hD.out i' (by omega) (by omega) h0 (by omega) e') _), hpart.store hBx (by omega)⟩
                      case measure => simp [intOf]; omega
                    · have hjmi : (m : Int) ≤ (j : Int) := by omega
                      obtain rfl : j = m := by omega
                      go_wp2_with fail
                      go_roundw
                      case rel =>
                        refine ⟨i + 1, by omega, by go_num, hsx, fbx, fnx, fun i' hi' => ?_⟩
                        by_cases e : i' = i
                        · subst e
                          rw [← HP.out, ← HE.out]
                          exact hpart
                        · exact HFx.out i' (by omega)
                      case measure => simp [intOf]; omega
                · have hlti : (ls.length : Int) ≤ (i : Int) := by omega
                  obtain rfl : i = ls.length := by omega
                  clear hbk
                  have fs : FullAll .u8 wr ls t := hfill
                  clear hfill
                  go_wp2_with fail
                  with_reducible refine (kept_any wr kb base t _ _ _ lb ln ls (h.kept hs.other (by decide) (by decide) (by decide) (by decide)) (by omega) hlb hln hls HSB.out HSN.out HSS.out fb fn fs).mono ?_
                  rintro e w9 ⟨rfl, hb9⟩
                  have hs9 := hs.trans (Sim.of_below hb9 (by have := h.lo; have := h.blk.lt; have := hs.below.size; omega))
                  clear hb9 hs fb fn fs hk
                  go_wp2_with fail
                  go_roundw
                  case rel => exact ⟨t + 1, by omega, by go_num, hs9⟩
                  case measure => simp [intOf]; omega
    · have ht1 : (2 : Int) ≤ (t : Int) := by omega
      go_wp2_with fail
      go_ret
      exact ⟨rfl, hst.below⟩
end Go.Proofs.Ytlbpplibngdncaa
