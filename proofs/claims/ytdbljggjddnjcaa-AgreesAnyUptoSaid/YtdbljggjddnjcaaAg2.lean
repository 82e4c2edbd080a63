/-
  Package agrees: what is agreed of a source, by counting in a map. Conditions: the rows' readings; the cells' numbers are such as their kinds may be.
-/
import Derived.Test.YtdbljggjddnjcaaAg1
namespace Go.Proofs.Ytdbljggjddnjcaa
open Go.RowKit
set_option linter.unusedVariables false
set_option linter.unusedSimpArgs false

/-- Where memory stands while a count rises: operations 3 (it is looked up), 5 (its entry is there), 7 (the store). -/
def MMc (E0 E1 E2 : World) (f : Nat → Bool) (u : World) : Prop := (f 7 = true → f 5 = true ∧ f 3 = true) ∧ u = if f 7 = true then E2 else if f 5 = true then E1 else E0
section
variable {E0 E1 E2 u : World} {f : Nat → Bool}
theorem mc_cong (f g : Nat → Bool) (w : World) (h : ∀ k, k ∈ [3, 5, 7] → f k = g k) (hM : MMc E0 E1 E2 f w) : MMc E0 E1 E2 g w := by
  unfold MMc at hM ⊢
  rw [← h 3 (by decide), ← h 5 (by decide), ← h 7 (by decide)]
  exact hM
theorem mc_0 : MMc E0 E1 E2 (fun _ => false) E0 := ⟨fun h => (by cases h), (by simp)⟩
theorem mc_3 (hM : MMc E0 E1 E2 f u) (h : f 3 = false) : (u = E0 ∨ u = E1) ∧ MMc E0 E1 E2 (Reg.mark f 3) u := by
  obtain ⟨h1, h2⟩ := hM
  have h7 : f 7 = false := by
    cases e : f 7 with
    | false => rfl
    | true => have := (h1 e).2; rw [h] at this; cases this
  rw [h7] at h2
  refine ⟨?_, fun e => ?_, ?_⟩
  · cases h5 : f 5 with
    | false => rw [h5] at h2; exact .inl (by simpa using h2)
    | true => rw [h5] at h2; exact .inr (by simpa using h2)
  · simp [Reg.mark, h7] at e
  · simpa [Reg.mark, h7] using h2
theorem mc_5 (hM : MMc E0 E1 E2 f u) (h : f 5 = false) : u = E0 ∧ MMc E0 E1 E2 (Reg.mark f 5) E1 := by
  obtain ⟨h1, h2⟩ := hM
  have h7 : f 7 = false := by
    cases e : f 7 with
    | false => rfl
    | true => have := (h1 e).1; rw [h] at this; cases this
  rw [h7, h] at h2
  refine ⟨by simpa using h2, fun e => ?_, ?_⟩
  · simp [Reg.mark, h7] at e
  · simp [Reg.mark, h7]
theorem mc_7 (hM : MMc E0 E1 E2 f u) (h : f 7 = false) (h5 : f 5 = true) (h3 : f 3 = true) : u = E1 ∧ MMc E0 E1 E2 (Reg.mark f 7) E2 := by
  obtain ⟨h1, h2⟩ := hM
  rw [h, h5] at h2
  refine ⟨by simpa using h2, fun _ => ?_, ?_⟩
  · simp [Reg.mark, h5, h3]
  · simp [Reg.mark]
theorem mc_any (hM : MMc E0 E1 E2 f u) : u = E0 ∨ u = E1 ∨ u = E2 := by
  obtain ⟨_, h⟩ := hM
  split at h
  · exact .inr (.inr h)
  · split at h
    · exact .inr (.inl h)
    · exact .inl h
theorem mc_end (hM : MMc E0 E1 E2 (fun _ => true) u) : u = E2 := by
  obtain ⟨_, h⟩ := hM
  simpa using h
end
/-- What is known of memory: the result's box, the map, what is told. -/
structure AG (w : World) (g6 gm : Nat) (l : List (Ce × Nat)) (U : World) : Prop where
  z : ∃ Z : List Value, Z.length = 56 ∧ PIn U g6 0 118 [] [] Z
  m : MapC U gm l
  lt : w.heap.size ≤ g6 ∧ g6 < gm
  b : Below w.heap.size w U
theorem AG.on {w U V : World} {g6 gm : Nat} {l : List (Ce × Nat)} (h : AG w g6 gm l U) (hb : Below U.heap.size U V) : AG w g6 gm l V := by
  obtain ⟨Z, h1, h2⟩ := h.z
  exact ⟨⟨Z, h1, h2.on hb⟩, h.m.on hb, h.lt, below_then h.b hb⟩
theorem AG.set {w U V : World} {g6 gm : Nat} {l l' : List (Ce × Nat)} (h : AG w g6 gm l U) (hb : But gm U V) (hm : MapC V gm l') : AG w g6 gm l' V := by
  obtain ⟨Z, h1, h2⟩ := h.z
  have := h.lt
  exact ⟨⟨Z, h1, h2.but hb (by omega)⟩, hm, h.lt, h.b.trans (hb.low (by omega))⟩
theorem AG.but {w U V : World} {g6 gm x : Nat} {l : List (Ce × Nat)} (h : AG w g6 gm l U) (hb : But x U V) (hx : gm < x) : AG w g6 gm l V := by
  obtain ⟨Z, h1, h2⟩ := h.z
  have := h.lt
  exact ⟨⟨Z, h1, h2.but hb (by omega)⟩, h.m.but hb (by omega), h.lt, h.b.trans (hb.low (by omega))⟩
set_option maxRecDepth 100000 in
theorem run_makeMapC (W : World) : (Instr.makeMap 168 none).run Try.prog W = .ok (.map (some W.heap.size)) (W.alloc (.map #[] 0)) := by kernel_rfl
theorem heldCellR {w : World} {g : Nat} {h : He} (hB : Blk w g 118 (heL h).toArray) : w.rangeAt g 1 (ceL h.c) := range_of _ [.bool h.i] [] (by simpa [heL] using hB) rfl
set_option maxRecDepth 100000 in
set_option maxHeartbeats 4000000 in
theorem agreed_is (N s : Nat) (hN : 4 ≤ N ∧ N ≤ 16) (hs : s ≤ 65536) (A : Option Addr) (m c : Nat) (R : Nat → Rw) (hm : m ≤ 16) (hRn : ∀ k, k < m → (R k).n ≤ 9223372036854775807) (hW : ∀ k, k < m → CeW (tolM s (R k).ro).c) (w : World) (hR : LiesR w w.heap.size A m R) :
    Calls Try.prog 62 #[.int .i64 (N : Int), .int .i64 (s : Int), .slice A m c] w fun e w' => e = .returned (.agg (heL (agM N s (fun k => (R k).ro) m)).toArray) ∧ Below w.heap.size w w' := by
  have HR := Lib.hid hR
  have HRN := Lib.hid hRn
  have HW := Lib.hid hW
  have HBT := Lib.hid builtHeld0
  clear hR hRn hW
  go_enter Try.func62, Try.ntmps62
  go_upto_region 1 with fail
  refine wp_at (fun U => (∃ Z : List Value, Z.length = 56 ∧ PIn U w.heap.size 0 118 [] [] Z) ∧ Below w.heap.size w U) ⟨?_, below_al (Below.refl _ w) _⟩ ?_
  · exact ⟨heL heN, heL_len _, Blk.pin (Blk.new w _ _)⟩
  rintro U0 ⟨hz, hb⟩
  have hmk := fun W => run_makeMapC W
  go_upto_region 2 with fail
  refine wp_at (AG w w.heap.size U0.heap.size []) ?_ ?_
  · obtain ⟨Z, h1, h2⟩ := hz
    exact ⟨⟨Z, h1, h2.on (below_al (Below.refl _ _) _)⟩, MapC.new U0, ⟨Nat.le_refl _, h2.lt⟩, below_al hb _⟩
  intro U hU
  obtain ⟨g6, hg6⟩ : ∃ g6, g6 = w.heap.size := ⟨_, rfl⟩
  obtain ⟨gm, hgm⟩ : ∃ gm, gm = U0.heap.size := ⟨_, rfl⟩
  rw [← hg6, ← hgm] at hU
  rw [← hg6, ← hgm]
  have HU := Lib.hid hU
  clear hz hb hmk hU hg6 hgm
  go_upto_region 3 with fail
  go_loopw [14] (fun iv wr => ∃ k : Nat, k ≤ m ∧ iv = .int .i64 (k : Int) ∧ Hid (agS N s (fun j => (R j).ro) k = none) ∧ Hid (AG w g6 gm (mapA s (fun j => (R j).ro) k) wr)) (fun iv _ => m - (intOf iv).toNat)
  case atStart => exact ⟨0, by omega, rfl, Lib.hid rfl, HU⟩
  case round =>
    clear HU
    obtain ⟨k, hk, rfl, HS, HA⟩ := hrel
    by_cases hlt : k < m
    · obtain ⟨ba, oa, rfl, hba, hca⟩ := (HR.out.on HA.out.b).f (by omega)
      have HRG := Lib.hid (hca k hlt)
      have hix := fun W => idxRows (A := some ⟨ba, oa, none⟩) (n := m) c rfl hlt W
      have dk : decide ((k : Int) < (m : Int)) = true := decide_eq_true (by omega)
      have HZN : Hid (∀ Z : Array Value, Z.size = 57 → PIn (wr.alloc (.cells Z 54)) wr.heap.size 0 54 [] [] Z.toList ∧ Z.toList.length = 57) := Lib.hid (fun Z hZ => ⟨Blk.pin (by simpa using Blk.new wr 54 Z), by simpa using hZ⟩)
      clear hca
      go_upto_region 5 with (first
        | (refine wpList_load_mid rfl 54 (.tmp 17) rfl ba (oa + k * 57) (by simp [Act.eval, Act.put]) (R k).l _ HRG.out Try.underlying54 rfl (by rw [size_row, Rw.l_len]) ?_)
        | (refine wpList_store_pin rfl 54 (.tmp 9) (.tmp 18) rfl (HZN.out _ rfl).1 (R k).l (by simp [Act.eval, Act.put]) (by simp [Act.eval, Act.put]) 57 size_row (HZN.out _ rfl).2 (Rw.l_len _) (roL_one _ _ _ _ _) ?_; intro w2 p1 b1; have HP1 := Lib.hid p1; have HB1 := Lib.hid b1; clear p1 b1))
      refine wp_at (fun V => AG w g6 gm (mapA s (fun j => (R j).ro) k) V ∧ Blk V wr.heap.size 54 (R k).l.toArray ∧ gm < wr.heap.size) ⟨(HA.out.on (below_al (Below.refl _ _) _)).but HB1.out HA.out.m.lt, HP1.out.blk_, HA.out.m.lt⟩ ?_
      rintro V ⟨v1, v2, v3⟩
      obtain ⟨g9, hg9⟩ : ∃ g9, g9 = wr.heap.size := ⟨_, rfl⟩
      rw [← hg9] at v2 v3 ⊢
      have V1 := Lib.hid v1
      have V2 := Lib.hid v2
      have V3 := Lib.hid v3
      clear v1 v2 v3 hg9 HZN HP1 HB1 HRG hix HA
      obtain ⟨t, ht⟩ : ∃ t, t = tolM s (R k).ro := ⟨_, rfl⟩
      have HTE := Lib.hid ht
      have HTO : Hid (∀ u, Below V.heap.size V u → Calls Try.prog 78 #[.int .i64 (s : Int), .agg (R k).l.toArray] u fun e w' => e = .returned (.agg (heL t).toArray) ∧ Below u.heap.size u w') := Lib.hid (fun u hu => by rw [ht]; exact toldOf_is s (R k) hs (HRN.out k hlt) u ((HR.out.on (below_then V1.out.b hu)).t k hlt))
      have HCW : Hid (CeW t.c) := Lib.hid (by rw [ht]; exact HW.out k hlt)
      clear ht
      go_upto_region 6 with (first
        | (refine wpList_load_mid rfl 54 (.tmp 9) rfl g9 0 (by simp [Act.eval, Act.put]) (R k).l _ V2.out.pin.range Try.underlying54 rfl (by rw [size_row, Rw.l_len]) ?_)
        | (go_at_call 78; (with_reducible refine (HTO.out _ (Below.refl _ _)).mono ?_); rintro e w3 ⟨rfl, q1⟩; have Q1 := Lib.hid q1; have HZ2 : Hid (∀ Z : Array Value, Z.size = 56 → PIn (w3.alloc (.cells Z 118)) w3.heap.size 0 118 [] [] Z.toList ∧ Z.toList.length = 56) := Lib.hid (fun Z hZ => ⟨Blk.pin (by simpa using Blk.new w3 118 Z), by simpa using hZ⟩); clear q1)
        | (refine wpList_store_pin rfl 118 (.tmp 10) (.tmp 21) rfl (HZ2.out _ rfl).1 (heL t) (by simp [Act.eval, Act.put]) (by simp [Act.eval, Act.put]) 56 size_he (HZ2.out _ rfl).2 (heL_len _) (heL_one _) ?_; intro w4 p1 b1; have HP1 := Lib.hid p1; have HB1 := Lib.hid b1; clear p1 b1))
      refine wp_at (fun Y => AG w g6 gm (mapA s (fun j => (R j).ro) k) Y ∧ Blk Y w3.heap.size 118 (heL t).toArray ∧ gm < w3.heap.size) ⟨((V1.out.on Q1.out).on (below_al (Below.refl _ _) _)).but HB1.out (V1.out.on Q1.out).m.lt, HP1.out.blk_, (V1.out.on Q1.out).m.lt⟩ ?_
      rintro Y ⟨v1, v2, v3⟩
      obtain ⟨g10, hg10⟩ : ∃ g10, g10 = w3.heap.size := ⟨_, rfl⟩
      rw [← hg10] at v2 v3 ⊢
      have Y1 := Lib.hid v1
      have Y2 := Lib.hid v2
      have Y3 := Lib.hid v3
      clear v1 v2 v3 hg10 HZ2 HP1 HB1 Q1 V1 V2 V3 HTO
      have c10 : Y.cell? ⟨g10, 0, none⟩ = some (.bool t.i) := Y2.out.cell 0
      have l10 := Y2.out.lt
      by_cases hks : k = s
      · have dks : ((k : Int) == (s : Int)) = true := by simp [hks]
        have HNX : Hid (agS N s (fun j => (R j).ro) (k + 1) = none ∧ mapA s (fun j => (R j).ro) (k + 1) = mapA s (fun j => (R j).ro) k) := Lib.hid (by
          have hok : okA s k (tolM s (R k).ro) = false := by simp [okA, hks]
          simp [agS, mapA, HS.out, hok])
        go_wp2_with fail
        go_roundw
        case rel => exact ⟨k + 1, by omega, by go_num, Lib.hid HNX.out.1, Lib.hid (by rw [HNX.out.2]; exact Y1.out)⟩
        case measure => simp [intOf]; omega
      · have dks : ((k : Int) == (s : Int)) = false := by simp; omega
        obtain ⟨ti, hti⟩ : ∃ ti, ti = t.i := ⟨_, rfl⟩
        rw [← hti] at c10
        have HTI := Lib.hid hti
        clear hti
        cases ti with
        | false =>
          have HNX : Hid (agS N s (fun j => (R j).ro) (k + 1) = none ∧ mapA s (fun j => (R j).ro) (k + 1) = mapA s (fun j => (R j).ro) k) := Lib.hid (by
            have hok : okA s k (tolM s (R k).ro) = false := by rw [← HTE.out]; simp [okA, ← HTI.out]
            simp [agS, mapA, HS.out, hok])
          go_wp2_with fail
          go_roundw
          case rel => exact ⟨k + 1, by omega, by go_num, Lib.hid HNX.out.1, Lib.hid (by rw [HNX.out.2]; exact Y1.out)⟩
          case measure => simp [intOf]; omega
        | true =>
          have hok : okA s k (tolM s (R k).ro) = true := by rw [← HTE.out]; simp [okA, ← HTI.out, hks]
          have HMP : Hid (mapA s (fun j => (R j).ro) (k + 1) = incC (mapA s (fun j => (R j).ro) k) t.c) := Lib.hid (by rw [mapA]; simp only [hok, if_true]; rw [← HTE.out])
          have HAS : Hid (agS N s (fun j => (R j).ro) (k + 1) = if N - 1 < 2 * look (mapA s (fun j => (R j).ro) (k + 1)) t.c then some t else none) := Lib.hid (by rw [agS, HS.out]; simp only [hok, true_and]; rw [← HTE.out])
          have HLE : Hid (look (mapA s (fun j => (R j).ro) k) t.c ≤ 16) := Lib.hid (Nat.le_trans (look_le _ _ _ _) (by omega))
          clear hok
          obtain ⟨l, hl⟩ : ∃ l, l = mapA s (fun j => (R j).ro) k := ⟨_, rfl⟩
          rw [← hl] at HMP HLE Y1
          clear hl HS
          have HM0 : Hid (MapC Y.drew gm l) := Lib.hid (Y1.out.m.on (Below.refl _ Y).drew)
          obtain ⟨E1, hE1⟩ : ∃ E1, E1 = setMap Y.drew gm (touch l t.c) := ⟨_, rfl⟩
          obtain ⟨E2, hE2⟩ : ∃ E2, E2 = setMap E1 gm (incC l t.c) := ⟨_, rfl⟩
          obtain ⟨n0, hn0⟩ : ∃ n0, n0 = look l t.c := ⟨_, rfl⟩
          obtain ⟨n1, hn1⟩ : ∃ n1, n1 = look l t.c + 1 := ⟨_, rfl⟩
          obtain ⟨pp, hpp⟩ : ∃ pp, pp = posC l t.c := ⟨_, rfl⟩
          have HM1 : Hid (MapC E1 gm (touch l t.c)) := Lib.hid (by rw [hE1]; exact setMap_is HM0.out.lt (touch_dis HM0.out.d HM0.out.w HCW.out).1 (touch_dis HM0.out.d HM0.out.w HCW.out).2)
          have HM2 : Hid (MapC E2 gm (incC l t.c)) := Lib.hid (by rw [hE2]; exact setMap_is HM1.out.lt (inc_dis HM0.out.d HM0.out.w HCW.out).1 (inc_dis HM0.out.d HM0.out.w HCW.out).2)
          have HB12 : Hid (But gm Y.drew E1 ∧ But gm E1 E2) := Lib.hid ⟨by rw [hE1]; exact setMap_but _ _ _, by rw [hE2]; exact setMap_but _ _ _⟩
          have HL0 : Hid (∀ u, u = Y.drew ∨ u = E1 → (Instr.lookup 168 (.map (some gm)) (kyC t.c) false).run Try.prog u = .ok (.int .i64 (n0 : Int)) u) := Lib.hid (fun u hu => by
            rw [hn0]
            rcases hu with rfl | rfl
            · exact look_cell HM0.out HCW.out
            · rw [← look_touch l t.c t.c]; exact look_cell HM1.out HCW.out)
          have HEN : Hid ((Instr.mapEntry 168 (.map (some gm)) (kyC t.c)).run Try.prog Y.drew = .ok (.tuple #[.int .i64 (n0 : Int), .int .i64 (pp : Int)]) E1) := Lib.hid (by rw [hn0, hpp, hE1]; exact entry_cell HM0.out HCW.out)
          have HST : Hid ((Instr.entryStore 168 (.map (some gm)) (.int .i64 (pp : Int)) (.int .i64 (n1 : Int))).run Try.prog E1 = .ok () E2) := Lib.hid (by rw [hn1, hpp, hE2]; exact store_cell HM1.out)
          have HY2 : Hid (∀ u, (u = Y.drew ∨ u = E1 ∨ u = E2) → Blk u g10 118 (heL t).toArray) := Lib.hid (fun u hu => by
            have h0 : Blk Y.drew g10 118 (heL t).toArray := Y2.out.on (Below.refl _ Y).drew
            have hne : g10 ≠ gm := by have := Y3.out; omega
            have h1 := HB12.out.1.blk h0 hne
            rcases hu with rfl | rfl | rfl
            · exact h0
            · exact h1
            · exact HB12.out.2.blk h1 hne)
          have HY1 : Hid (AG w g6 gm (incC l t.c) E2) := Lib.hid (((Y1.out.on (Below.refl _ Y).drew).set HB12.out.1 HM1.out).set HB12.out.2 HM2.out)
          have HLL : Hid (IntKind.i64.wrap ((n0 : Int) + 1) = (n1 : Int)) := Lib.hid (by rw [IntWalk.i64_in _ (by have := HLE.out; omega)]; omega)
          have HN1 : Hid (n1 = look l t.c + 1) := Lib.hid hn1
          have HNL : Hid (n1 ≤ 17) := Lib.hid (by have := HLE.out; omega)
          clear hE1 hE2 hn0 hn1 hpp
          go_upto_region 7 with fail
          clear c10 l10
          refine Reg.wp_marks7 ?fr (fun tt => decide (30 ≤ tt) && decide (tt ≤ 36)) (fun x => ?hf) [3, 5, 7] (MMc Y.drew E1 E2) mc_cong mc_0 (by kernel_rfl) (by kernel_rfl) (by kernel_rfl) (by kernel_rfl) (fun zz => Reg.tblM [
            (30, fun v => v = .map (some gm)),
            (31, fun v => v = .pointer (some ⟨g10, 1, none⟩)),
            (32, fun v => v = kyC t.c),
            (33, fun v => v = .int .i64 (n0 : Int)),
            (34, fun v => v = .int .i64 (n1 : Int)),
            (35, fun v => v = .tuple #[.int .i64 (n0 : Int), .int .i64 (pp : Int)]),
            (36, fun v => v = .int .i64 (pp : Int))] zz) ?hs ?he
          case hf =>
            simp only [Reg.frame, Reg.over, Nat.reduceAdd, Nat.reduceLeDiff, decide_true, decide_false, if_true, Bool.false_eq_true, if_false, Bool.and_true, Bool.and_false]
            exact rfl
          case hs =>
            refine ⟨?_, ?_, ?_, ?_, ?_, ?_, ?_, ?_, trivial⟩
            · intro x f u hM hfi hfd hd
              refine wpOp_step rfl fun KK hK => ?_
              go_simp
              exact hK _ _ ⟨_, rfl, fun h => absurd h (by decide), fun _ => rfl, fun d hd => by cases hd; exact rfl⟩
            · intro x f u hM hfi hfd hd
              have hx := HY2.out u (mc_any hM)
              have lx := hx.lt
              refine wpOp_step rfl fun KK hK => ?_
              go_simp
              exact hK _ _ ⟨_, rfl, fun h => absurd h (by decide), fun _ => rfl, fun d hd => by cases hd; exact rfl⟩
            · intro x f u hM hfi hfd hd
              have h31 : x 31 = .pointer (some ⟨g10, 1, none⟩) := hd 1 (by decide)
              have hx := HY2.out u (mc_any hM)
              have lx := hx.lt
              refine wpOp_step rfl fun KK hK => ?_
              refine Reg.step_load_mid (by rfl) 51 (.tmp 31) (by rfl) g10 1 (by exact h31) (ceL t.c) (heldCellR hx) _ Try.underlying51 rfl (by rw [size_ce, ceL_len]) ?_
              exact hK _ _ ⟨_, rfl, fun h => absurd h (by decide), fun _ => rfl, fun d hd => by cases hd; exact rfl⟩
            · intro x f u hM hfi hfd hd
              have h30 : x 30 = .map (some gm) := hd 0 (by decide)
              have h32 : x 32 = kyC t.c := hd 2 (by decide)
              obtain ⟨hu, hM'⟩ := mc_3 hM (hfi (by decide))
              have hlk := HL0.out u hu
              clear hu
              refine wpOp_step rfl fun KK hK => ?_
              simp only [h30, h32] at hK ⊢
              go_simp
              skip
              exact hK _ _ ⟨_, rfl, fun _ => hM', fun h => absurd (by decide) h, fun d hd => by cases hd; exact rfl⟩
            · intro x f u hM hfi hfd hd
              have h33 : x 33 = .int .i64 (n0 : Int) := hd 3 (by decide)
              have hw1 := HLL.out
              refine wpOp_step rfl fun KK hK => ?_
              simp only [h33] at hK ⊢
              go_simp
              exact hK _ _ ⟨_, rfl, fun h => absurd h (by decide), fun _ => rfl, fun d hd => by cases hd; exact rfl⟩
            · intro x f u hM hfi hfd hd
              have h30 : x 30 = .map (some gm) := hd 0 (by decide)
              have h32 : x 32 = kyC t.c := hd 2 (by decide)
              obtain ⟨hu, hM'⟩ := mc_5 hM (hfi (by decide))
              subst hu
              have hen := HEN.out
              refine wpOp_step rfl fun KK hK => ?_
              simp only [h30, h32] at hK ⊢
              go_simp
              skip
              exact hK _ _ ⟨_, rfl, fun _ => hM', fun h => absurd (by decide) h, fun d hd => by cases hd; exact rfl⟩
            · intro x f u hM hfi hfd hd
              have h35 : x 35 = .tuple #[.int .i64 (n0 : Int), .int .i64 (pp : Int)] := hd 5 (by decide)
              refine wpOp_step rfl fun KK hK => ?_
              simp only [h35] at hK ⊢
              go_simp
              exact hK _ _ ⟨_, rfl, fun h => absurd h (by decide), fun _ => rfl, fun d hd => by cases hd; exact rfl⟩
            · intro x f u hM hfi hfd hd
              have h30 : x 30 = .map (some gm) := hd 0 (by decide)
              have h36 : x 36 = .int .i64 (pp : Int) := hd 6 (by decide)
              have h34 : x 34 = .int .i64 (n1 : Int) := hd 4 (by decide)
              obtain ⟨hu, hM'⟩ := mc_7 hM (hfi (by decide)) (hfd 5 (by decide)) (hfd 3 (by decide))
              subst hu
              have hst := HST.out
              refine wpOp_step rfl fun KK hK => ?_
              simp only [h30, h36, h34] at hK ⊢
              go_simp
              exact hK _ _ ⟨.int .i64 0, rfl, fun _ => hM', fun h => absurd (by decide) h, fun d hd => by cases hd⟩
          case he =>
            intro y u2 hM hall
            have hu := mc_end hM
            subst hu
            clear hM hall HM0 HM1 HB12 HL0 HEN HST HLL
            have c10 := (HY2.out _ (.inr (.inr rfl)))
            have l10 := c10.lt
            have HRC := Lib.hid (heldCellR c10)
            have HRH := Lib.hid c10.pin.range
            have HLK : Hid ((Instr.lookup 168 (.map (some gm)) (.agg (ceL t.c).toArray) false).run Try.prog u2 = .ok (.int .i64 (n1 : Int)) u2) := Lib.hid (by
              have := look_cell HM2.out HCW.out
              rw [look_inc, if_pos (ceE_refl _)] at this
              rw [HN1.out]
              exact this)
            have hlk := HLK.out
            obtain ⟨n2, hn2⟩ : ∃ n2, n2 = 2 * n1 := ⟨_, rfl⟩
            obtain ⟨n3, hn3⟩ : ∃ n3, n3 = N - 1 := ⟨_, rfl⟩
            have hw2 : IntKind.i64.wrap (2 * (n1 : Int)) = (n2 : Int) := by rw [IntWalk.i64_in _ (by have := HNL.out; omega)]; omega
            have hw3 : IntKind.i64.wrap ((N : Int) - 1) = (n3 : Int) := by rw [IntWalk.i64_in _ (by omega)]; omega
            have HAS2 : Hid (agS N s (fun j => (R j).ro) (k + 1) = if n3 < n2 then some t else none) := Lib.hid (by rw [HAS.out, HMP.out, look_inc, if_pos (ceE_refl _), ← HN1.out, hn2, hn3])
            clear c10 hn2 hn3
            by_cases h32 : n3 < n2
            · have d32 : decide ((n3 : Int) < (n2 : Int)) = true := decide_eq_true (by omega)
              obtain ⟨Z, hZl, hZ⟩ := HY1.out.z
              have HZ := Lib.hid hZ
              have HZL := Lib.hid hZl
              have HBF := Lib.hid HY1.out.b
              have HLT := Lib.hid HY1.out.lt
              clear hZl hZ
              go_wp2_with (first
                | (refine wpList_load_mid rfl 51 (.tmp 38) rfl g10 1 (by simp [Act.eval, Act.put]) (ceL t.c) _ HRC.out Try.underlying51 rfl (by rw [size_ce, ceL_len]) ?_)
                | (refine wpList_load_mid rfl 118 (.tmp 10) rfl g10 0 (by simp [Act.eval, Act.put]) (heL t) _ HRH.out Try.underlying118 rfl (by rw [size_he, heL_len]) ?_)
                | (refine wpList_store_pin rfl 118 (.tmp 6) (.tmp 45) rfl HZ.out (heL t) (by simp [Act.eval, Act.put]) (by simp [Act.eval, Act.put]) 56 size_he HZL.out (heL_len _) (heL_one _) ?_; intro w9 p1 b1))
              have hld := p1.var 118 _ Try.underlying118 rfl 56 size_he (heL_len _)
              exact bodyPost_ret (v := .agg (heL t).toArray) (by simp [results, Try.results62, asAddr, Act.put, hld]) rfl ⟨by unfold agM; rw [agS_stays (by rw [HAS2.out, if_pos h32]) (by omega : k + 1 ≤ m)]; rfl, HBF.out.trans (b1.low HLT.out.1)⟩
            · have d32 : decide ((n3 : Int) < (n2 : Int)) = false := decide_eq_false (by omega)
              have HAS3 : Hid (agS N s (fun j => (R j).ro) (k + 1) = none) := Lib.hid (by rw [HAS2.out, if_neg h32])
              clear HAS2 HAS
              go_wp2_with (refine wpList_load_mid rfl 51 (.tmp 38) rfl g10 1 (by simp [Act.eval, Act.put]) (ceL t.c) _ HRC.out Try.underlying51 rfl (by rw [size_ce, ceL_len]) ?_)
              go_roundw
              case rel => exact ⟨k + 1, by omega, by go_num, HAS3, Lib.hid (by rw [HMP.out]; exact HY1.out)⟩
              case measure => simp [intOf]; omega
    · obtain rfl : k = m := by omega
      obtain ⟨Z, hZl, hZ⟩ := HA.out.z
      have HZ := Lib.hid hZ
      have HZL := Lib.hid hZl
      have HBF := Lib.hid HA.out.b
      have HLT := Lib.hid HA.out.lt
      clear hZl hZ
      go_wp2_with (first
        | (refine wpList_build rfl 118 _ rfl (heL heN).toArray (by simpa [Act.eval, Act.put] using HBT.out) ?_)
        | (refine wpList_store_pin rfl 118 (.tmp 6) (.tmp 47) rfl HZ.out (heL heN) (by simp [Act.eval, Act.put]) (by simp [Act.eval, Act.put]) 56 size_he HZL.out (heL_len _) (heL_one _) ?_; intro w1 p1 b1))
      have hld := p1.var 118 _ Try.underlying118 rfl 56 size_he (heL_len _)
      exact bodyPost_ret (v := .agg (heL heN).toArray) (by simp [results, Try.results62, asAddr, Act.put, hld]) rfl ⟨by unfold agM; rw [HS.out]; rfl, HBF.out.trans (b1.low HLT.out.1)⟩
end Go.Proofs.Ytdbljggjddnjcaa

