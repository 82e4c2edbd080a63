/-
  The contract of package wires' End: all lines end their tick at once, each with what its link was given. Conditions: the wires' reading; ticks are fewer than 2^62.
-/
import Derived.Test.YtgmoifbncijhdaaDoorWr3
import Derived.Deep.RegionLaw
namespace Go.Proofs.YtgmoifbncijhdaaDoor
open Go.RowKit Rg
set_option linter.unusedVariables false

/-- Behind the first k lines' ends. -/
structure Half (L : Lay) (w0 w : World) (k : Nat) (t : Int) (H X G : Nat → Option Int) : Prop where
  blk : Blk w L.g 52 #[.map (some L.m), .int .i64 (L.n : Int), .slice (some ⟨L.a, 0, none⟩) (4 * L.n) (4 * L.n)]
  map : MapW w L.m L.ps
  gfs : Blk w L.a 69 (gfC G (4 * L.n)).toArray
  lns : ∀ i, i < 4 * L.n → OnI w (L.ps.getD i 0) (hopN i) (if i < k then t + 1 else t) (if i < k then nowL (hopN i) (X i) (G i) else H i) (if i < k then nextL (hopN i) (X i) (G i) else X i)
  span : Span L.b0 L.b1 w0 w
  low : L.b0 ≤ w0.heap.size
section
variable {L : Lay} {w0 w w' : World} {k : Nat} {t : Int} {H X G : Nat → Option Int}
theorem Half.on (h : Half L w0 w k t H X G) (hb : Below w.heap.size w w') : Half L w0 w' k t H X G :=
  ⟨h.blk.on hb, h.map.on hb, h.gfs.on hb, fun i hi => (h.lns i hi).on hb, h.span.on h.low hb, h.low⟩
theorem Half.start (h : Wir L w t H X G) (ok : L.Ok) : Half L w w 0 t H X G :=
  ⟨h.blk, h.map, h.gfs, fun i hi => by simpa using h.lns i hi, Span.refl _ _ _, Nat.le_trans ok.gin.1 (Nat.le_of_lt h.lt)⟩
theorem Half.at_ (h : Half L w0 w k t H X G) (hk : k < 4 * L.n) : OnI w (L.ps.getD k 0) (hopN k) t (H k) (X k) := by
  have := h.lns k hk
  simpa using this
theorem Half.send (h : Half L w0 w k t H X G) (ok : L.Ok) (hk : k < 4 * L.n) (hL : OnI w' (L.ps.getD k 0) (hopN k) (t + 1) (nowL (hopN k) (X k) (G k)) (nextL (hopN k) (X k) (G k))) (hB : But (L.ps.getD k 0) w w') : Half L w0 w' (k + 1) t H X G := by
  have hp := ok.pin k hk
  have hkl := h.at_ hk
  obtain ⟨cs, hkb⟩ := hkl.blk
  have ne : ∀ {b : Nat} {ty : TypeId} {c : Array Value}, Blk w b ty c → ty ≠ 85 → b ≠ L.ps.getD k 0 := by
    intro b ty c h1 h2 e
    rw [e] at h1
    unfold Blk at h1 hkb
    rw [hkb] at h1
    injection h1 with h1
    injection h1 with _ h1
    exact h2 h1.symm
  refine ⟨hB.blk h.blk (ne h.blk (by decide)), h.map.but hB (h.map.ne hkb), hB.blk h.gfs (ne h.gfs (by decide)), fun i hi => ?_, h.span.trans (Span.but hB hp.1 hp.2), h.low⟩
  by_cases e : i = k
  · subst e
    simpa using hL
  · have h1 := (h.lns i hi).but hB (fun q => e (ok.inj i k hi hk q))
    have e1 : (i < k) = (i < k + 1) := by apply propext; omega
    simpa only [e1] using h1
theorem Half.done (h : Half L w0 w (4 * L.n) t H X G) (ok : L.Ok) {G' : Nat → Option Int} : Wir L (w.setRow L.a (gfC G' (4 * L.n)).toArray) (t + 1) (fun i => nowL (hopN i) (X i) (G i)) (fun i => nextL (hopN i) (X i) (G i)) G' ∧ Span L.b0 L.b1 w0 (w.setRow L.a (gfC G' (4 * L.n)).toArray) := by
  have ne : ∀ {b : Nat} {ty : TypeId} {c : Array Value}, Blk w b ty c → ty ≠ 69 → b ≠ L.a := by
    intro b ty c h1 h2 e
    have h3 := h.gfs
    rw [e] at h1
    unfold Blk at h1 h3
    rw [h3] at h1
    injection h1 with h1
    injection h1 with _ h1
    exact h2 h1.symm
  refine ⟨⟨h.blk.rowFar (ne h.blk (by decide)), h.map.row (h.map.ne h.gfs), h.gfs.row, fun i hi => ?_⟩, h.span.trans (Span.row h.gfs ok.ain.1 ok.ain.2)⟩
  have h1 := h.lns i hi
  simp only [if_pos hi] at h1
  obtain ⟨cs, h2⟩ := h1.blk
  exact Blk.rowFar h1 (ne h2 (by decide))
end
set_option maxRecDepth 100000 in
theorem endW_is {L : Lay} {w : World} {t : Int} {H X G : Nat → Option Int} (h : Wir L w t H X G) (ok : L.Ok) (ht : 0 ≤ t) (ht' : t < 4611686018427387904) :
    Calls Tryd.prog 14 #[.pointer (some ⟨L.g, 0, none⟩)] w fun e w' => e = .returned (.int .i64 0) ∧ Wir L w' (t + 1) (fun i => nowL (hopN i) (X i) (G i)) (fun i => nextL (hopN i) (X i) (G i)) noneW ∧ Span L.b0 L.b1 w w' := by
  have HM := Lib.hid (made_yes h)
  have HF := Lib.hid (Half.start h ok)
  have HOK := Lib.hid ok
  have HT := Lib.hid (And.intro ht ht')
  have hl : L.ps.length ≤ 64 := by have := ok.len; have := ok.n16; omega
  have HL := Lib.hid hl
  have HLEN := Lib.hid ok.len
  have c0 := h.blk.cell 0
  have c2 := h.blk.cell 2
  have cl := h.blk.lt
  simp only [List.getElem?_toArray, List.getElem?_cons_zero, List.getElem?_cons_succ] at c0 c2
  obtain ⟨N, hN⟩ : ∃ N, N = 4 * L.n := ⟨_, rfl⟩
  have HN := Lib.hid hN
  have hNb : N ≤ 64 := by have := ok.n16; omega
  rw [← hN] at c2
  clear h ok ht ht' hl hN
  go_enter Tryd.func14, Tryd.ntmps14
  go_wp2_with (go_at_call 28; (with_reducible refine HM.out.mono ?_); rintro e w1 ⟨rfl, rfl⟩)
  clear c0 c2 cl
  go_loopw [13] (fun s13 wr => ∃ k : Nat, k ≤ N ∧ s13 = .int .i64 (k : Int) ∧ Hid (Half L w wr k t H X G)) (fun s13 _ => N - (intOf s13).toNat)
  case atStart => exact ⟨0, by omega, rfl, HF⟩
  case round =>
    obtain ⟨k, hk, rfl, HH⟩ := hrel
    clear HF
    by_cases hlt : k < N
    · have hk4 : k < 4 * L.n := by have := HN.out; omega
      obtain ⟨x0, x1⟩ := gfC_cell HH.out.gfs hk4
      have xl : L.a < wr.heap.size := HH.out.gfs.lt
      have hix := fun W => idxGf (n := N) L.a N hlt W
      have hdl : decide ((k : Int) < (N : Int)) = true := decide_eq_true (by omega)
      have hdn : decide (k < N) = true := decide_eq_true hlt
      have hwk : IntKind.i64.wrap ((k : Int) + 1) = ((k + 1 : Nat) : Int) := by rw [IntWalk.i64_in _ (by omega)]; omega
      obtain ⟨o, ho⟩ : ∃ o, o = G k := ⟨_, rfl⟩
      rw [← ho] at x0 x1
      have HO := Lib.hid ho
      have HK4 := Lib.hid hk4
      have HS := Lib.hid (fun (u : World) (A : Option Addr) (n c : Nat) (hu : Half L w u k t H X G) (h1 : OneI u A n o) => sendI_is (L.ps.getD k 0) (hopN k) t (H k) (X k) o _ _ A n c rfl rfl (t + 1) rfl u (hu.at_ hk4) (hopN_ok k) HT.out.1 HT.out.2 h1)
      obtain ⟨p, ep⟩ : ∃ p, p = L.ps.getD k 0 := ⟨_, rfl⟩
      have HLK := Lib.hid (fun (W : World) (hm : MapW W L.m L.ps) => look_in hm HL.out (i := k) (by have := HLEN.out; omega))
      rw [← ep] at HS HLK
      have HEP := Lib.hid ep
      clear ho hk4 hk ep
      cases o with
      | none =>
        simp only [Option.getD_none, Option.isSome_none] at x0 x1
        have H1 := Lib.hid (HH.out.on ((Below.refl _ _).alloc (Nat.le_refl _) (.cells #[.int .i64 0, .bool false] 69)))
        have hN1 := Blk.new wr 69 #[.int .i64 0, .bool false]
        have n0 := hN1.cell 0
        have n1 := hN1.cell 1
        have c0 := H1.out.blk.cell 0
        have cl := H1.out.blk.lt
        simp only [List.getElem?_toArray, List.getElem?_cons_zero, List.getElem?_cons_succ] at n0 n1 c0
        have hlk := HLK.out _ H1.out.map
        clear hN1
        have HE := Lib.hid (show ∀ u : World, OneI u none 0 none from fun _ => rfl)
        go_wp2_with (go_at_call 29; (with_reducible refine (HS.out _ none 0 0 H1.out (HE.out _)).mono ?_); rintro e w2 ⟨rfl, hL2, hB2⟩; have HQ := Lib.hid (H1.out.send HOK.out HK4.out (by rw [← HEP.out, ← HO.out]; exact hL2) (by rw [← HEP.out]; exact hB2)); clear hL2 hB2)
        go_roundw
        case rel => exact ⟨k + 1, by omega, rfl, HQ⟩
        case measure => simp [intOf]; omega
      | some x =>
        simp only [Option.getD_some, Option.isSome_some] at x0 x1
        obtain ⟨W, hW⟩ : ∃ W, W = wr.alloc (.cells #[.int .i64 x, .bool true] 69) := ⟨_, rfl⟩
        have H1 := Lib.hid (HH.out.on ((Below.refl _ _).alloc (Nat.le_refl _) (.cells #[.int .i64 x, .bool true] 69)))
        have hN1 := Blk.new wr 69 #[.int .i64 x, .bool true]
        rw [← hW] at H1 hN1
        have n0 := hN1.cell 0
        have n1 := hN1.cell 1
        have nl := hN1.lt
        have c0 := H1.out.blk.cell 0
        have cl := H1.out.blk.lt
        simp only [List.getElem?_toArray, List.getElem?_cons_zero, List.getElem?_cons_succ] at n0 n1 c0
        have hlk : (Instr.lookup 49 (.map (some L.m)) (.int .i64 (k : Int)) false).run Tryd.prog W.drew = .ok (.pointer (some ⟨p, 0, none⟩)) W.drew := HLK.out W.drew H1.out.map
        have H2 := Lib.hid (H1.out.on (show Below W.heap.size W (W.alloc (.cells #[.int .i64 x] 3)).drew from (below_al (Below.refl _ _) _).drew))
        have hlk2 := HLK.out _ H2.out.map
        have hc2 := H2.out.blk.cell 0
        have hl2 := H2.out.blk.lt
        simp only [List.getElem?_toArray, List.getElem?_cons_zero] at hc2
        have HON := Lib.hid (show OneI (W.alloc (.cells #[.int .i64 x] 3)).drew (some ⟨W.heap.size, 0, none⟩) 1 (some x) from ⟨rfl, _, _, rfl, by simp, by simp⟩)
        clear hN1
        go_wp2_with fail
        rw [← hW]
        clear hW x0 x1 hix xl
        go_region_law (go_simp; go_at_call 29; (with_reducible refine (HS.out _ (some ⟨W.heap.size, 0, none⟩) 1 1 H2.out HON.out).mono ?_); rintro e w2 ⟨rfl, hL2, hB2⟩; have HQ := Lib.hid (H2.out.send HOK.out HK4.out (by rw [← HEP.out, ← HO.out]; exact hL2) (by rw [← HEP.out]; exact hB2)); clear hL2 hB2)
        all_goals (
          go_wp2_with fail
          go_roundw
          case rel => exact ⟨k + 1, by omega, rfl, HQ⟩
          case measure => simp [intOf]; omega)
    · obtain rfl : k = N := by omega
      have hdl : decide ((k : Int) < (k : Int)) = false := decide_eq_false (by omega)
      have hdn : decide (k < k) = false := decide_eq_false (by omega)
      have hb := HH.out.blk
      have hgf := HH.out.gfs
      rw [← HN.out] at hb hgf
      have c0 := hb.cell 2
      have cl := hb.lt
      simp only [List.getElem?_toArray, List.getElem?_cons_zero, List.getElem?_cons_succ] at c0
      have hcl := fun ty => clearGf hgf (gfC_len _ _) (by have := HN.out; have := HOK.out.n4; omega) k ty
      have HQ := Lib.hid (Half.done (G' := noneW) (by rw [← HN.out]; exact HH.out) HOK.out)
      rw [← HN.out] at HQ
      clear hb hgf
      go_wp2_with fail
      go_ret
      exact ⟨rfl, HQ.out.1, HQ.out.2⟩
end Go.Proofs.YtgmoifbncijhdaaDoor
