/-
  The law WordsChange returns true, whatever the row, the part and the place. Conditions: the arguments' reading.
-/
import Derived.Test.YtiglnfefnhoogaaWdC1
namespace Go.Proofs.Ytiglnfefnhoogaa
open Go.RowKit
set_option linter.unusedVariables false
set_option linter.unusedSimpArgs false

/-- Behind the change: the row, and what it was changed to, another one. -/
structure WC (w : World) (r : Rw) (g : Nat) (Q : Rw) (U : World) : Prop where
  x : Blk U w.heap.size 54 r.l.toArray
  q : Blk U g 54 Q.l.toArray
  t : LiesH U U.heap.size Q.A Q.n Q.T
  m : Q.n ≤ 65536
  n : eqR r.ro Q.ro = false ∧ eqR Q.ro r.ro = false
  b : Below w.heap.size w U
/-- The copy's table: none, or a block of its own. -/
def TabQ (U : World) (b g : Nat) (A : Option Addr) (n p : Nat) (T : Nat → He) : Prop := (A = none ∧ n = 0 ∧ p = 0) ∨ ∃ g', A = some ⟨g', 0, none⟩ ∧ p = n ∧ b < g' ∧ g' ≠ g ∧ Blk U g' 69 (hesL T n).toArray
theorem TabQ.on {U V : World} {b g : Nat} {A : Option Addr} {n p : Nat} {T : Nat → He} (h : TabQ U b g A n p T) (k : Below U.heap.size U V) : TabQ V b g A n p T := by
  rcases h with h | ⟨g', h1, h2, h3, h4, h5⟩
  · exact .inl h
  · exact .inr ⟨g', h1, h2, h3, h4, h5.on k⟩
theorem TabQ.but {U V : World} {b g : Nat} {A : Option Addr} {n p : Nat} {T : Nat → He} (h : TabQ U b g A n p T) (k : But g U V) : TabQ V b g A n p T := by
  rcases h with h | ⟨g', h1, h2, h3, h4, h5⟩
  · exact .inl h
  · exact .inr ⟨g', h1, h2, h3, h4, k.blk h5 h4⟩
theorem TabQ.lies {U : World} {b g : Nat} {A : Option Addr} {n p : Nat} {T : Nat → He} (h : TabQ U b g A n p T) : LiesH U U.heap.size A n T := by
  rcases h with ⟨_, h, _⟩ | ⟨g', h1, h2, h3, h4, h5⟩
  · rw [h]; exact LiesH.nil_
  · rw [h1]; exact h5.liesH_
theorem Blk.ownsB {w : World} {g n size B : Nat} {e : TypeId} {xs : List Value} (h : Blk w g e xs.toArray) (hb : B ≤ g) (hl : xs.length = n * size) (hm : n ≤ maxLen) : w.ownsRow B e size (.slice (some ⟨g, 0, none⟩) n n) n xs :=
  ⟨hl, .inr ⟨g, n, xs.toArray, rfl, hb, h, Nat.le_refl _, hm, by simp [hl], by simp [← hl]⟩⟩
theorem built_held0 : (Try.prog).built 69 [] = some (heL heN).toArray := by kernel_rfl
theorem TabQ.owns {U : World} {b g : Nat} {A : Option Addr} {n p : Nat} {T : Nat → He} (h : TabQ U b g A n p T) (hm : n ≤ maxLen) : U.ownsRow b 69 56 (.slice A n p) n (hesL T n) := by
  rcases h with ⟨h1, h2, h3⟩ | ⟨g', h1, h2, h3, h4, h5⟩
  · subst h1 h2 h3; exact ownsF_nil
  · rw [h1, h2]; exact h5.ownsB (Nat.le_of_lt h3) (by rw [hesL_len]) hm
theorem WC.cell {w Y : World} {r : Rw} {g p : Nat} {A : Option Addr} (x : Blk Y w.heap.size 54 r.l.toArray) (q : Blk Y g 54 (roL r.b r.c A r.n p).toArray) (b : Below w.heap.size w Y) (t : TabQ Y w.heap.size g A r.n p r.T) (hg : w.heap.size < g) (hm : r.n ≤ 65536) (i o : Nat) (hi : i < 55) (ho : o = i + 1) (v : Value) (d : Ce) (e : (ceL r.c).set i v = ceL d) (hd : r.c ≠ d) :
    ∃ Q, WC w r g Q (Y.setCell ⟨g, o, none⟩ v) := by
  subst ho
  have k : But g Y (Y.setCell ⟨g, i + 1, none⟩ v) := But.one _ _
  refine ⟨⟨r.b, d, A, r.n, p, r.T⟩, k.blk x (by omega), ?_, (t.but k).lies, hm, eqR_no (.inr (.inl hd)), b.trans (k.low (by omega))⟩
  have h := q.pin.set_ (i + 1) v (by rw [roL_len]; omega)
  rw [ro_set _ _ _ _ _ _ _ _ hi e, Nat.zero_add] at h
  exact h.blk_
theorem WC.is {w Y : World} {r : Rw} {g p : Nat} {A : Option Addr} (x : Blk Y w.heap.size 54 r.l.toArray) (q : Blk Y g 54 (roL r.b r.c A r.n p).toArray) (b : Below w.heap.size w Y) (t : TabQ Y w.heap.size g A r.n p r.T) (hg : w.heap.size < g) (hm : r.n ≤ 65536) :
    ∃ Q, WC w r g Q (Y.setCell ⟨g, 0, none⟩ (.bool (!r.b))) := by
  have k : But g Y (Y.setCell ⟨g, 0, none⟩ (.bool (!r.b))) := But.one _ _
  refine ⟨⟨!r.b, r.c, A, r.n, p, r.T⟩, k.blk x (by omega), ?_, (t.but k).lies, hm, eqR_no (.inl (by cases h : r.b <;> simp [Rw.ro, h])), b.trans (k.low (by omega))⟩
  exact (q.pin.set_ 0 (.bool (!r.b)) (by rw [roL_len]; omega)).blk_
theorem WC.app {w Y : World} {r : Rw} {g p : Nat} {A : Option Addr} (x : Blk Y w.heap.size 54 r.l.toArray) (q : Blk Y g 54 (roL r.b r.c A r.n p).toArray) (b : Below w.heap.size w Y) {A2 : Option Addr} {p2 : Nat} (o : Y.ownsRow w.heap.size 69 56 (.slice A2 (r.n + 1) p2) (r.n + 1) (hesL r.T r.n ++ heL heN)) (hg : w.heap.size < g) (hm : r.n + 1 ≤ 65536) :
    ∃ Q, WC w r g Q (Y.setCell ⟨g, 56, none⟩ (.slice A2 (r.n + 1) p2)) := by
  have k : But g Y (Y.setCell ⟨g, 56, none⟩ (.slice A2 (r.n + 1) p2)) := But.one _ _
  have e : hesL r.T r.n ++ heL heN = hesL (fitH r.T r.n) (r.n + 1) := by
    rw [hesL_succ, hesL_congr (T := fitH r.T r.n) (T' := r.T) (fun i hi => by simp [fitH, hi])]
    simp [fitH]
  rw [e] at o
  have hne : ∀ x, A2 = some ⟨x, 0, none⟩ → x ≠ g := fun x hx => by
    obtain ⟨x', h1, h2, h3, h4⟩ := ownsF_get o (by omega)
    rcases o.2 with ⟨_, h0⟩ | ⟨x2, cap, cur, hv, hb, hh, _⟩
    · omega
    · injection hv with hv
      rw [hv] at hx
      injection hx with hx
      injection hx with hx
      rw [← hx]
      exact Blk.ne (cs := cur) hh q (by decide)
  refine ⟨⟨r.b, r.c, A2, r.n + 1, p2, fitH r.T r.n⟩, k.blk x (by omega), ?_, ?_, hm, eqR_no (.inr (.inr (.inl (by simp [Rw.ro])))), b.trans (k.low (by omega))⟩
  · have h := q.pin.set_ 56 (.slice A2 (r.n + 1) p2) (by rw [roL_len]; omega)
    rw [ro_setTab, Nat.zero_add] at h
    exact h.blk_
  · exact owns_liesF (f := fun i => heL (fitH r.T r.n i)) (fun i => heL_len _) (ownsF_but o k hne)
def scoreT (T : Nat → He) (i j : Nat) (z : Int) : Nat → He := fun t => if t = i then ⟨(T i).i, (T i).c.score j z⟩ else T t
theorem hesL_score (T : Nat → He) {n i j : Nat} (hi : i < n) (hj : j < 8) (z : Int) : (hesL T n).set (i * 56 + (38 + j)) (.int .u16 z) = hesL (scoreT T i j z) n := by
  rw [hesL_at T hi, hesL_at (scoreT T i j z) hi, List.set_append_right _ _ (by rw [hesL_len]; omega), hesL_len, Nat.add_sub_cancel_left, List.set_append_left _ _ (by rw [heL_len]; omega)]
  rw [hesL_congr (T := scoreT T i j z) (T' := T) (fun t ht => by simp [scoreT, show t ≠ i by omega]), hesL_congr (T := fun t => scoreT T i j z (i + 1 + t)) (T' := fun t => T (i + 1 + t)) (fun t ht => by simp [scoreT, show i + 1 + t ≠ i by omega])]
  congr 2
  unfold heL
  rw [show 38 + j = (37 + j) + 1 by omega, List.set_cons_succ, ce_score _ _ hj]
  simp [scoreT]
theorem hesL_score_at (T : Nat → He) {n i j : Nat} (hi : i < n) (hj : j < 8) : (hesL T n)[i * 56 + (38 + j)]? = some (.int .u16 ((T i).c.v.s.toList.getD j 0)) := by
  rw [hesL_get T hi (38 + j) (by omega), heL, show 38 + j = (37 + j) + 1 by omega, List.getElem?_cons_succ]
  exact ce_score_at _ _ hj
theorem WC.tab {w Y : World} {r : Rw} {g tb p : Nat} (x : Blk Y w.heap.size 54 r.l.toArray) (q : Blk Y g 54 (roL r.b r.c (some ⟨tb, 0, none⟩) r.n p).toArray) (b : Below w.heap.size w Y) (t : Blk Y tb 69 (hesL r.T r.n).toArray) (hm : r.n ≤ 65536) (htb : w.heap.size < tb) (i j o : Nat) (hi : i < r.n) (hj : j < 8) (ho : o = i * 56 + (38 + j)) (z : Int) (hz : z ≠ (r.T i).c.v.s.toList.getD j 0) :
    ∃ Q, WC w r g Q (Y.setCell ⟨tb, o, none⟩ (.int .u16 z)) := by
  subst ho
  have k : But tb Y (Y.setCell ⟨tb, i * 56 + (38 + j), none⟩ (.int .u16 z)) := But.one _ _
  refine ⟨⟨r.b, r.c, some ⟨tb, 0, none⟩, r.n, p, scoreT r.T i j z⟩, k.blk x (by omega), k.blk q (q.ne t (by decide)), ?_, hm, eqR_no (.inr (.inr (.inr ⟨i, hi, fun h => ?_⟩))), b.trans (k.low (by omega))⟩
  · have h := t.pin.set_ (i * 56 + (38 + j)) (.int .u16 z) (by rw [hesL_len]; omega)
    rw [hesL_score r.T hi hj, Nat.zero_add] at h
    exact h.blk_.liesH_
  · have h : r.T i = scoreT r.T i j z i := h
    unfold scoreT at h
    rw [if_pos rfl] at h
    exact setV_ne _ _ hj _ hz (congrArg (fun h : He => h.c.v.s) h).symm
theorem wrap64_ne (x : Int) : wrap64 (x + 1) ≠ x := by unfold wrap64; omega
theorem lenB {x : Nat} : x % 8 < 8 := Nat.mod_lt _ (by decide)
theorem miss_idx (g : Nat) {j : Nat} (hj : j < 8) (w : World) : (Instr.indexAt 44 (.pointer (some ⟨g, 22, none⟩)) (.int .u8 (j : Int))).run Try.prog w = .ok (.pointer (some ⟨g, 22 + j, none⟩)) w := by
  rw [run_indexAt_array (h := by kernel_rfl), show Try.prog.arrayLen 44 = 8 by kernel_rfl, if_pos (by omega), show (sizeOf (Try.prog.elem 44)).run Try.prog w = .ok 1 w by kernel_rfl]
  simp [Result.andThen, Addr.add_lit]
theorem score_idx (g o : Nat) {j : Nat} (hj : j < 8) (w : World) : (Instr.indexAt 46 (.pointer (some ⟨g, o, none⟩)) (.int .u8 (j : Int))).run Try.prog w = .ok (.pointer (some ⟨g, o + j, none⟩)) w := by
  rw [run_indexAt_array (h := by kernel_rfl), show Try.prog.arrayLen 46 = 8 by kernel_rfl, if_pos (by omega), show (sizeOf (Try.prog.elem 46)).run Try.prog w = .ok 1 w by kernel_rfl]
  simp [Result.andThen, Addr.add_lit]
set_option maxRecDepth 100000 in
set_option maxHeartbeats 8000000 in
theorem wordsChange_walk (r : Rw) (x1 x2 : Int) (w : World) (hT : LiesH w w.heap.size r.A r.n r.T) (hN : r.A = none → r.n = 0 ∧ r.p = 0) (hm : r.n ≤ 9223372036854775807) (f1 : 0 ≤ x1 ∧ x1 ≤ 255) (f2 : 0 ≤ x2 ∧ x2 ≤ 255) :
    Calls Try.prog 6 #[.agg r.l.toArray, .int .u8 x1, .int .u8 x2] w fun e w' => e = .returned (.bool true) ∧ Below w.heap.size w w' := by
  obtain ⟨f10, f11⟩ := f1
  obtain ⟨f20, f21⟩ := f2
  have HT := Lib.hid hT
  have HN := Lib.hid hN
  clear hT hN
  have HBX : Hid (Blk (w.alloc (.cells r.l.toArray 54)) w.heap.size 54 r.l.toArray ∧ Below w.heap.size w (w.alloc (.cells r.l.toArray 54))) := Lib.hid ⟨Blk.new w _ _, below_al (Below.refl _ w) _⟩
  go_enter Try.func6, Try.ntmps6
  go_upto_region 1 with fail
  refine wp_at (fun U => Blk U w.heap.size 54 r.l.toArray ∧ Below w.heap.size w U) HBX.out ?_
  rintro U ⟨hX, hB⟩
  clear HBX
  have c56 : U.cell? ⟨w.heap.size, 56, none⟩ = some (.slice r.A r.n r.p) := hX.rowTab
  have lx := hX.lt
  have HX := Lib.hid hX
  have HB := Lib.hid hB
  have HTU := Lib.hid (HT.out.on hB)
  clear hX hB
  by_cases h40 : 40 < r.n
  · go_wp2_with (go_at_call 8; (with_reducible refine (lives_wd _).mono ?_); rintro e w1 ⟨rfl, b1⟩)
    go_ret
    exact ⟨rfl, below_then HB.out b1⟩
  have HC : Hid (∀ u, Below U.heap.size U u → Calls Try.prog 17 #[.agg r.l.toArray] u fun e w' => ∃ L : List Value, e = .returned (.agg L.toArray) ∧ RowO w' u.heap.size r.ro L ∧ Below u.heap.size u w') := Lib.hid (fun u hu => copy_any r HN.out (by omega) u (HTU.out.on hu))
  go_upto_region 4 with (first
    | (refine wpList_load_pin rfl 54 (.tmp 3) rfl HX.out.pin (by simp [Act.eval, Act.put]) _ Try.underlying54 rfl 57 size_row r.l_len ?_)
    | (go_at_call 17; (with_reducible refine (HC.out _ (Below.refl _ _)).mono ?_); rintro e w1 ⟨L, rfl, q1, q2⟩; have HQ1 := Lib.hid q1; have HQ2 := Lib.hid q2; have HZN : Hid (∀ Z : Array Value, Z.size = 57 → PIn (w1.alloc (.cells Z 54)) w1.heap.size 0 54 [] [] Z.toList ∧ Z.toList.length = 57) := Lib.hid (fun Z hZ => ⟨Blk.pin (by simpa using Blk.new w1 54 Z), by simpa using hZ⟩); clear q1 q2)
    | (refine wpList_store_pin rfl 54 (.tmp 7) (.tmp 15) rfl (HZN.out _ rfl).1 L (by simp [Act.eval, Act.put]) (by simp [Act.eval, Act.put]) 57 size_row (HZN.out _ rfl).2 HQ1.out.len HQ1.out.one ?_; intro w2 p2 b2; have HP2 := Lib.hid p2; have HB2 := Lib.hid b2; clear p2 b2))
  refine wp_at (fun V => Blk V w.heap.size 54 r.l.toArray ∧ Blk V w1.heap.size 54 L.toArray ∧ RowO V U.heap.size r.ro L ∧ Below w.heap.size w V ∧ w.heap.size < w1.heap.size ∧ w.heap.size < U.heap.size) (by
    have hl := (HX.out.on HQ2.out).lt
    refine ⟨HB2.out.blk ((HX.out.on HQ2.out).alloc _) (by omega), HP2.out.blk_, ?_, (below_al (below_then HB.out HQ2.out) _).trans (HB2.out.low (by omega)), hl, HX.out.lt⟩
    obtain ⟨A, p, e, h⟩ := HQ1.out
    refine ⟨A, p, e, ?_⟩
    rcases h with h | ⟨g, z1, z2, z3, z4⟩
    · exact .inl h
    · exact .inr ⟨g, z1, z2, z3, HB2.out.blk (z4.alloc _) (by have := z4.lt; omega)⟩) ?_
  rintro V ⟨v1, v2, v3, v5, v6, v7⟩
  obtain ⟨A, p, eL, hRO⟩ := v3
  obtain ⟨Q, hQ⟩ : ∃ Q : Rw, Q = ⟨r.b, r.c, A, r.n, p, r.T⟩ := ⟨_, rfl⟩
  obtain rfl : L = Q.l := by rw [hQ]; exact eL
  obtain ⟨g, hg⟩ : ∃ g, g = w1.heap.size := ⟨_, rfl⟩
  rw [← hg] at v2 v6 ⊢
  have HQ : Hid (Q.ro = r.ro) := Lib.hid (by rw [hQ]; rfl)
  have HQE := Lib.hid hQ
  have HQT : Hid (LiesH V V.heap.size Q.A Q.n Q.T) := Lib.hid (by
    rw [hQ]
    rcases hRO with ⟨_, h, _⟩ | ⟨g', h1, h2, h3, h4⟩
    · show LiesH _ _ A r.n r.T; rw [show r.n = 0 from h]; exact LiesH.nil_
    · show LiesH _ _ A r.n r.T; rw [h1]; exact h4.liesH_)
  have HQN : Hid (Q.n = r.n) := Lib.hid (by rw [hQ])
  have HRO : Hid (TabQ V w.heap.size g A r.n p r.T) := Lib.hid (by
    rcases hRO with h | ⟨g', h1, h2, h3, h4⟩
    · exact .inl h
    · exact .inr ⟨g', h1, h2, by omega, h4.ne v2 (by decide), h4⟩)
  have HV1 := Lib.hid v1
  have HV2 := Lib.hid v2
  have HV5 := Lib.hid v5
  have HG := Lib.hid v6
  have HTV := Lib.hid (HT.out.on v5)
  have h40' : r.n ≤ 40 := by omega
  clear v1 v2 v5 v6 v7 hRO hQ hg eL HQ1 HQ2 HZN HP2 HB2 HC HB HX HTU c56 lx h40
  have HS1 : Hid (∀ u, Below V.heap.size V u → Calls Try.prog 22 #[.agg r.l.toArray, .agg Q.l.toArray] u fun e w' => e = .returned (.bool true) ∧ Below u.heap.size u w') := Lib.hid (fun u hu => by
    have := same_rows r Q (by omega) (by rw [HQN.out]; omega) u (HTV.out.on hu) (HQT.out.on hu)
    rw [HQ.out, eqR_self] at this
    exact this)
  have HS2 : Hid (∀ u, Below V.heap.size V u → Calls Try.prog 22 #[.agg Q.l.toArray, .agg r.l.toArray] u fun e w' => e = .returned (.bool true) ∧ Below u.heap.size u w') := Lib.hid (fun u hu => by
    have := same_rows Q r (by rw [HQN.out]; omega) (by omega) u (HQT.out.on hu) (HTV.out.on hu)
    rw [HQ.out, eqR_self] at this
    exact this)
  go_upto_region 6 with (first
    | (refine wpList_load_pin rfl 54 (.tmp 3) rfl HV1.out.pin (by simp [Act.eval, Act.put]) _ Try.underlying54 rfl 57 size_row r.l_len ?_)
    | (refine wpList_load_pin rfl 54 (.tmp 7) rfl HV2.out.pin (by simp [Act.eval, Act.put]) _ Try.underlying54 rfl 57 size_row Q.l_len ?_)
    | (go_at_call 22; (with_reducible refine (HS1.out _ (Below.refl _ _)).mono ?_); rintro e w3 ⟨rfl, b3⟩; have HB3 := Lib.hid b3; clear b3)
    | (refine wpList_load_want 54 (.tmp 7) rfl g 0 Q.l (HV2.out.on HB3.out).pin.range (by simp [Act.eval, Act.put]) (by kernel_rfl) _ Try.underlying54 rfl (by rw [size_row, Q.l_len]) ?_)
    | (refine wpList_load_want 54 (.tmp 3) rfl w.heap.size 0 r.l (HV1.out.on HB3.out).pin.range (by simp [Act.eval, Act.put]) (by kernel_rfl) _ Try.underlying54 rfl (by rw [size_row, r.l_len]) ?_)
    | (go_at_call 22; (with_reducible refine (HS2.out _ HB3.out).mono ?_); rintro e w4 ⟨rfl, b4⟩; have HB4 := Lib.hid b4; clear b4))
  refine wp_at (fun Y => Blk Y w.heap.size 54 r.l.toArray ∧ Blk Y g 54 (roL r.b r.c A r.n p).toArray ∧ Below w.heap.size w Y ∧ TabQ Y w.heap.size g A r.n p r.T) ⟨(HV1.out.on HB3.out).on HB4.out, by have := (HV2.out.on HB3.out).on HB4.out; rw [HQE.out] at this; exact this, (below_then (below_then HV5.out HB3.out) HB4.out), (HRO.out.on HB3.out).on HB4.out⟩ ?_
  rintro Y ⟨y1, y2, y3, y4⟩
  have HY1 := Lib.hid y1
  have HY2 := Lib.hid y2
  have HY3 := Lib.hid y3
  have HY4 := Lib.hid y4
  have lg := y2.lt
  have fz := fun i => y2.frozen i
  have cQ := fun i (hi : i < 57) => (y2.pin.cell i (by rw [roL_len]; exact hi))
  simp only [Nat.zero_add] at cQ
  have HCQ := Lib.hid cQ
  have HFZ := Lib.hid fz
  clear y1 y2 y3 y4 HRO HV1 HV2 HQ HQE HQT HQN HTV HS1 HS2 HB3 HB4 HV5 cQ fz
  obtain ⟨m2, rfl⟩ : ∃ m : Nat, x2 = (m : Int) := ⟨x2.toNat, by omega⟩
  obtain ⟨m1, rfl⟩ : ∃ m : Nat, x1 = (m : Int) := ⟨x1.toNat, by omega⟩
  have e7 : ((m1 : Int).tmod 7) = ((m1 % 7 : Nat) : Int) := rfl
  have e8 : ((m2 : Int).tmod 8) = ((m2 % 8 : Nat) : Int) := rfl
  have l7 : m1 % 7 < 7 := Nat.mod_lt _ (by decide)
  rcases (show m1 % 7 = 0 ∨ m1 % 7 = 1 ∨ m1 % 7 = 2 ∨ m1 % 7 = 3 ∨ m1 % 7 = 4 ∨ m1 % 7 = 5 ∨ m1 % 7 = 6 by omega) with h0 | h0 | h0 | h0 | h0 | h0 | h0
  · have c0 : Y.cell? ⟨g, 1, none⟩ = some (.int .i64 r.c.a) := HCQ.out 1 (by decide)
    have f0 := HFZ.out (1)
    
    go_upto_region 23 with fail
    refine wp_at (fun U => ∃ Q, WC w r g Q U) (WC.cell HY1.out HY2.out HY3.out HY4.out HG.out (by omega) (0) (1) (by omega) (by omega) (.int .i64 _) ({ r.c with a := _ }) (rfl) (fun h => wrap64_ne _ (congrArg Ce.a h).symm)) ?_
    rintro Z ⟨Q2, hZ⟩
    have HZ := Lib.hid hZ
    clear hZ
    have HS1 : Hid (∀ u, Below Z.heap.size Z u → Calls Try.prog 22 #[.agg r.l.toArray, .agg Q2.l.toArray] u fun e w' => e = .returned (.bool false) ∧ Below u.heap.size u w') := Lib.hid (fun u hu => by
      have := same_rows r Q2 (by omega) HZ.out.m u (((HT.out.on HZ.out.b).on hu)) (HZ.out.t.on hu)
      rw [HZ.out.n.1] at this
      exact this)
    have HS2 : Hid (∀ u, Below Z.heap.size Z u → Calls Try.prog 22 #[.agg Q2.l.toArray, .agg r.l.toArray] u fun e w' => e = .returned (.bool false) ∧ Below u.heap.size u w') := Lib.hid (fun u hu => by
      have := same_rows Q2 r HZ.out.m (by omega) u (HZ.out.t.on hu) ((HT.out.on HZ.out.b).on hu)
      rw [HZ.out.n.2] at this
      exact this)
    go_wp2_with (first
      | (refine wpList_load_pin rfl 54 (.tmp 3) rfl HZ.out.x.pin (by simp [Act.eval, Act.put]) _ Try.underlying54 rfl 57 size_row r.l_len ?_)
      | (refine wpList_load_pin rfl 54 (.tmp 7) rfl HZ.out.q.pin (by simp [Act.eval, Act.put]) _ Try.underlying54 rfl 57 size_row Q2.l_len ?_)
      | (go_at_call 22; (with_reducible refine (HS1.out _ (Below.refl _ _)).mono ?_); rintro e w5 ⟨rfl, b5⟩; have HB5 := Lib.hid b5; clear b5)
      | (refine wpList_load_want 54 (.tmp 7) rfl g 0 Q2.l (HZ.out.q.on HB5.out).pin.range (by simp [Act.eval, Act.put]) (by kernel_rfl) _ Try.underlying54 rfl (by rw [size_row, Q2.l_len]) ?_)
      | (refine wpList_load_want 54 (.tmp 3) rfl w.heap.size 0 r.l (HZ.out.x.on HB5.out).pin.range (by simp [Act.eval, Act.put]) (by kernel_rfl) _ Try.underlying54 rfl (by rw [size_row, r.l_len]) ?_)
      | (go_at_call 22; (with_reducible refine (HS2.out _ HB5.out).mono ?_); rintro e w6 ⟨rfl, b6⟩; have HB6 := Lib.hid b6; clear b6)
      | (go_at_call 8; (with_reducible refine (lives_wd _).mono ?_); rintro e w7 ⟨rfl, b7⟩))
    go_ret
    exact ⟨rfl, below_then (below_then (below_then HZ.out.b HB5.out) HB6.out) b7⟩
  · have c0 : Y.cell? ⟨g, 7, none⟩ = some (.int .u32 r.c.o.v) := HCQ.out 7 (by decide)
    have f0 := HFZ.out (7)
    
    go_upto_region 23 with fail
    refine wp_at (fun U => ∃ Q, WC w r g Q U) (WC.cell HY1.out HY2.out HY3.out HY4.out HG.out (by omega) (6) (7) (by omega) (by omega) (.int .u32 _) ({ r.c with o := { r.c.o with v := _ } }) (rfl) (fun h => wrap_ne .u32 (by simp) _ (congrArg (fun c : Ce => c.o.v) h).symm)) ?_
    rintro Z ⟨Q2, hZ⟩
    have HZ := Lib.hid hZ
    clear hZ
    have HS1 : Hid (∀ u, Below Z.heap.size Z u → Calls Try.prog 22 #[.agg r.l.toArray, .agg Q2.l.toArray] u fun e w' => e = .returned (.bool false) ∧ Below u.heap.size u w') := Lib.hid (fun u hu => by
      have := same_rows r Q2 (by omega) HZ.out.m u (((HT.out.on HZ.out.b).on hu)) (HZ.out.t.on hu)
      rw [HZ.out.n.1] at this
      exact this)
    have HS2 : Hid (∀ u, Below Z.heap.size Z u → Calls Try.prog 22 #[.agg Q2.l.toArray, .agg r.l.toArray] u fun e w' => e = .returned (.bool false) ∧ Below u.heap.size u w') := Lib.hid (fun u hu => by
      have := same_rows Q2 r HZ.out.m (by omega) u (HZ.out.t.on hu) ((HT.out.on HZ.out.b).on hu)
      rw [HZ.out.n.2] at this
      exact this)
    go_wp2_with (first
      | (refine wpList_load_pin rfl 54 (.tmp 3) rfl HZ.out.x.pin (by simp [Act.eval, Act.put]) _ Try.underlying54 rfl 57 size_row r.l_len ?_)
      | (refine wpList_load_pin rfl 54 (.tmp 7) rfl HZ.out.q.pin (by simp [Act.eval, Act.put]) _ Try.underlying54 rfl 57 size_row Q2.l_len ?_)
      | (go_at_call 22; (with_reducible refine (HS1.out _ (Below.refl _ _)).mono ?_); rintro e w5 ⟨rfl, b5⟩; have HB5 := Lib.hid b5; clear b5)
      | (refine wpList_load_want 54 (.tmp 7) rfl g 0 Q2.l (HZ.out.q.on HB5.out).pin.range (by simp [Act.eval, Act.put]) (by kernel_rfl) _ Try.underlying54 rfl (by rw [size_row, Q2.l_len]) ?_)
      | (refine wpList_load_want 54 (.tmp 3) rfl w.heap.size 0 r.l (HZ.out.x.on HB5.out).pin.range (by simp [Act.eval, Act.put]) (by kernel_rfl) _ Try.underlying54 rfl (by rw [size_row, r.l_len]) ?_)
      | (go_at_call 22; (with_reducible refine (HS2.out _ HB5.out).mono ?_); rintro e w6 ⟨rfl, b6⟩; have HB6 := Lib.hid b6; clear b6)
      | (go_at_call 8; (with_reducible refine (lives_wd _).mono ?_); rintro e w7 ⟨rfl, b7⟩))
    go_ret
    exact ⟨rfl, below_then (below_then (below_then HZ.out.b HB5.out) HB6.out) b7⟩
  · have c0 : Y.cell? ⟨g, 12, none⟩ = some (.int .u32 r.c.r.q) := HCQ.out 12 (by decide)
    have f0 := HFZ.out (12)
    
    go_upto_region 23 with fail
    refine wp_at (fun U => ∃ Q, WC w r g Q U) (WC.cell HY1.out HY2.out HY3.out HY4.out HG.out (by omega) (11) (12) (by omega) (by omega) (.int .u32 _) ({ r.c with r := { r.c.r with q := _ } }) (rfl) (fun h => wrap_ne .u32 (by simp) _ (congrArg (fun c : Ce => c.r.q) h).symm)) ?_
    rintro Z ⟨Q2, hZ⟩
    have HZ := Lib.hid hZ
    clear hZ
    have HS1 : Hid (∀ u, Below Z.heap.size Z u → Calls Try.prog 22 #[.agg r.l.toArray, .agg Q2.l.toArray] u fun e w' => e = .returned (.bool false) ∧ Below u.heap.size u w') := Lib.hid (fun u hu => by
      have := same_rows r Q2 (by omega) HZ.out.m u (((HT.out.on HZ.out.b).on hu)) (HZ.out.t.on hu)
      rw [HZ.out.n.1] at this
      exact this)
    have HS2 : Hid (∀ u, Below Z.heap.size Z u → Calls Try.prog 22 #[.agg Q2.l.toArray, .agg r.l.toArray] u fun e w' => e = .returned (.bool false) ∧ Below u.heap.size u w') := Lib.hid (fun u hu => by
      have := same_rows Q2 r HZ.out.m (by omega) u (HZ.out.t.on hu) ((HT.out.on HZ.out.b).on hu)
      rw [HZ.out.n.2] at this
      exact this)
    go_wp2_with (first
      | (refine wpList_load_pin rfl 54 (.tmp 3) rfl HZ.out.x.pin (by simp [Act.eval, Act.put]) _ Try.underlying54 rfl 57 size_row r.l_len ?_)
      | (refine wpList_load_pin rfl 54 (.tmp 7) rfl HZ.out.q.pin (by simp [Act.eval, Act.put]) _ Try.underlying54 rfl 57 size_row Q2.l_len ?_)
      | (go_at_call 22; (with_reducible refine (HS1.out _ (Below.refl _ _)).mono ?_); rintro e w5 ⟨rfl, b5⟩; have HB5 := Lib.hid b5; clear b5)
      | (refine wpList_load_want 54 (.tmp 7) rfl g 0 Q2.l (HZ.out.q.on HB5.out).pin.range (by simp [Act.eval, Act.put]) (by kernel_rfl) _ Try.underlying54 rfl (by rw [size_row, Q2.l_len]) ?_)
      | (refine wpList_load_want 54 (.tmp 3) rfl w.heap.size 0 r.l (HZ.out.x.on HB5.out).pin.range (by simp [Act.eval, Act.put]) (by kernel_rfl) _ Try.underlying54 rfl (by rw [size_row, r.l_len]) ?_)
      | (go_at_call 22; (with_reducible refine (HS2.out _ HB5.out).mono ?_); rintro e w6 ⟨rfl, b6⟩; have HB6 := Lib.hid b6; clear b6)
      | (go_at_call 8; (with_reducible refine (lives_wd _).mono ?_); rintro e w7 ⟨rfl, b7⟩))
    go_ret
    exact ⟨rfl, below_then (below_then (below_then HZ.out.b HB5.out) HB6.out) b7⟩
  · obtain ⟨y, hy⟩ : ∃ y, y = r.c.v.m.toList.getD (m2 % 8) 0 := ⟨_, rfl⟩
    have HYV := Lib.hid hy
    clear hy
    have c0 : Y.cell? ⟨g, 22 + m2 % 8, none⟩ = some (.int .u8 y) := (HCQ.out (22 + m2 % 8) (by omega)).trans ((by rw [show 22 + m2 % 8 = (21 + m2 % 8) + 1 by omega]; exact ro_at _ _ _ _ _ _ (by omega) : (roL r.b r.c A r.n p)[22 + m2 % 8]? = (ceL r.c)[21 + m2 % 8]?).trans (by rw [HYV.out]; exact ce_miss_at _ _ (Nat.mod_lt _ (by decide))))
    have f0 := HFZ.out (22 + m2 % 8)
    have hix := fun W => miss_idx g (j := m2 % 8) (Nat.mod_lt _ (by decide)) W
    go_upto_region 23 with fail
    refine wp_at (fun U => ∃ Q, WC w r g Q U) (WC.cell HY1.out HY2.out HY3.out HY4.out HG.out (by omega) (21 + m2 % 8) (22 + m2 % 8) (by omega) (by omega) (.int .u8 _) (r.c.miss (m2 % 8) _) (ce_miss _ _ (Nat.mod_lt _ (by decide)) _) (fun h => setV_ne _ _ (Nat.mod_lt _ (by decide)) _ (by rw [← HYV.out]; omega) (congrArg (fun c : Ce => c.v.m) h).symm)) ?_
    rintro Z ⟨Q2, hZ⟩
    have HZ := Lib.hid hZ
    clear hZ
    have HS1 : Hid (∀ u, Below Z.heap.size Z u → Calls Try.prog 22 #[.agg r.l.toArray, .agg Q2.l.toArray] u fun e w' => e = .returned (.bool false) ∧ Below u.heap.size u w') := Lib.hid (fun u hu => by
      have := same_rows r Q2 (by omega) HZ.out.m u (((HT.out.on HZ.out.b).on hu)) (HZ.out.t.on hu)
      rw [HZ.out.n.1] at this
      exact this)
    have HS2 : Hid (∀ u, Below Z.heap.size Z u → Calls Try.prog 22 #[.agg Q2.l.toArray, .agg r.l.toArray] u fun e w' => e = .returned (.bool false) ∧ Below u.heap.size u w') := Lib.hid (fun u hu => by
      have := same_rows Q2 r HZ.out.m (by omega) u (HZ.out.t.on hu) ((HT.out.on HZ.out.b).on hu)
      rw [HZ.out.n.2] at this
      exact this)
    go_wp2_with (first
      | (refine wpList_load_pin rfl 54 (.tmp 3) rfl HZ.out.x.pin (by simp [Act.eval, Act.put]) _ Try.underlying54 rfl 57 size_row r.l_len ?_)
      | (refine wpList_load_pin rfl 54 (.tmp 7) rfl HZ.out.q.pin (by simp [Act.eval, Act.put]) _ Try.underlying54 rfl 57 size_row Q2.l_len ?_)
      | (go_at_call 22; (with_reducible refine (HS1.out _ (Below.refl _ _)).mono ?_); rintro e w5 ⟨rfl, b5⟩; have HB5 := Lib.hid b5; clear b5)
      | (refine wpList_load_want 54 (.tmp 7) rfl g 0 Q2.l (HZ.out.q.on HB5.out).pin.range (by simp [Act.eval, Act.put]) (by kernel_rfl) _ Try.underlying54 rfl (by rw [size_row, Q2.l_len]) ?_)
      | (refine wpList_load_want 54 (.tmp 3) rfl w.heap.size 0 r.l (HZ.out.x.on HB5.out).pin.range (by simp [Act.eval, Act.put]) (by kernel_rfl) _ Try.underlying54 rfl (by rw [size_row, r.l_len]) ?_)
      | (go_at_call 22; (with_reducible refine (HS2.out _ HB5.out).mono ?_); rintro e w6 ⟨rfl, b6⟩; have HB6 := Lib.hid b6; clear b6)
      | (go_at_call 8; (with_reducible refine (lives_wd _).mono ?_); rintro e w7 ⟨rfl, b7⟩))
    go_ret
    exact ⟨rfl, below_then (below_then (below_then HZ.out.b HB5.out) HB6.out) b7⟩
  · have c0 : Y.cell? ⟨g, 0, none⟩ = some (.bool r.b) := HCQ.out 0 (by decide)
    have f0 := HFZ.out (0)
    
    go_upto_region 23 with fail
    refine wp_at (fun U => ∃ Q, WC w r g Q U) (WC.is HY1.out HY2.out HY3.out HY4.out HG.out (by omega)) ?_
    rintro Z ⟨Q2, hZ⟩
    have HZ := Lib.hid hZ
    clear hZ
    have HS1 : Hid (∀ u, Below Z.heap.size Z u → Calls Try.prog 22 #[.agg r.l.toArray, .agg Q2.l.toArray] u fun e w' => e = .returned (.bool false) ∧ Below u.heap.size u w') := Lib.hid (fun u hu => by
      have := same_rows r Q2 (by omega) HZ.out.m u (((HT.out.on HZ.out.b).on hu)) (HZ.out.t.on hu)
      rw [HZ.out.n.1] at this
      exact this)
    have HS2 : Hid (∀ u, Below Z.heap.size Z u → Calls Try.prog 22 #[.agg Q2.l.toArray, .agg r.l.toArray] u fun e w' => e = .returned (.bool false) ∧ Below u.heap.size u w') := Lib.hid (fun u hu => by
      have := same_rows Q2 r HZ.out.m (by omega) u (HZ.out.t.on hu) ((HT.out.on HZ.out.b).on hu)
      rw [HZ.out.n.2] at this
      exact this)
    go_wp2_with (first
      | (refine wpList_load_pin rfl 54 (.tmp 3) rfl HZ.out.x.pin (by simp [Act.eval, Act.put]) _ Try.underlying54 rfl 57 size_row r.l_len ?_)
      | (refine wpList_load_pin rfl 54 (.tmp 7) rfl HZ.out.q.pin (by simp [Act.eval, Act.put]) _ Try.underlying54 rfl 57 size_row Q2.l_len ?_)
      | (go_at_call 22; (with_reducible refine (HS1.out _ (Below.refl _ _)).mono ?_); rintro e w5 ⟨rfl, b5⟩; have HB5 := Lib.hid b5; clear b5)
      | (refine wpList_load_want 54 (.tmp 7) rfl g 0 Q2.l (HZ.out.q.on HB5.out).pin.range (by simp [Act.eval, Act.put]) (by kernel_rfl) _ Try.underlying54 rfl (by rw [size_row, Q2.l_len]) ?_)
      | (refine wpList_load_want 54 (.tmp 3) rfl w.heap.size 0 r.l (HZ.out.x.on HB5.out).pin.range (by simp [Act.eval, Act.put]) (by kernel_rfl) _ Try.underlying54 rfl (by rw [size_row, r.l_len]) ?_)
      | (go_at_call 22; (with_reducible refine (HS2.out _ HB5.out).mono ?_); rintro e w6 ⟨rfl, b6⟩; have HB6 := Lib.hid b6; clear b6)
      | (go_at_call 8; (with_reducible refine (lives_wd _).mono ?_); rintro e w7 ⟨rfl, b7⟩))
    go_ret
    exact ⟨rfl, below_then (below_then (below_then HZ.out.b HB5.out) HB6.out) b7⟩
  · obtain ⟨i0, hi0, hz0, hz1, hz2⟩ := info_parts infoHeld
    have HI := Lib.hid hi0
    have HZ0 := Lib.hid hz0
    have HZ1 := Lib.hid hz1
    have HZ2 := Lib.hid hz2
    have HBH := Lib.hid built_held0
    have HOW : Hid (Y.ownsRow w.heap.size 69 56 (.slice A r.n p) r.n (hesL r.T r.n)) := Lib.hid (HY4.out.owns (by unfold maxLen; omega))
    clear hi0 hz0 hz1 hz2
    have c0 : Y.cell? ⟨g, 56, none⟩ = some (.slice A r.n p) := (HCQ.out 56 (by decide)).trans (ro_tab _ _ _ _ _)
    have f0 := HFZ.out 56
    go_upto_region 23 with (first
      | (refine wpList_build rfl 69 _ rfl (heL heN).toArray (by simpa [Act.eval, Act.put] using HBH.out) ?_)
      | (refine wpList_bsl rfl 52 1 _ rfl #[(0, .agg (heL heN).toArray)] (by simp [Act.eval, Act.put]) _ _ (run_bsl_one (P := Try.prog) Y 52 69 i0 (heL heN) 56 elemHelds HI.out HZ0.out HZ1.out (heL_len _) (by decide) (by decide) (heL heN) (heL_len _)) ?_; have HGB : Hid (Blk (Y.alloc (.cells (heL heN).toArray 69)) Y.heap.size 69 (heL heN).toArray) := Lib.hid (Blk.new Y _ _))
      | (at_builtin; refine wpList_append_G rfl (.tmp 111) (.tmp 113) 52 rfl w.heap.size 69 i0 _ 56 136 elemHelds HI.out HZ0.out HZ1.out HZ2.out (by simp [Value.cells, heL_len]) (by decide) A r.n p (hesL r.T r.n) (by simp [Act.eval, Act.put]) (ownsF_on HOW.out (below_al (Below.refl _ Y) _)) Y.heap.size 1 1 (heL heN) (by simp [Act.eval, Act.put]) HGB.out (heL_len _) (heL_one _) (by decide) (by unfold maxLen; omega) (by omega) (Nat.le_trans HY3.out.size (below_al (Below.refl _ Y) (.cells (heL heN).toArray 69)).size) ?_; intro A2 p2 w2 hO2 hb2 hx2; have HO2 := Lib.hid hO2; have HB2 := Lib.hid hb2; have HX2 := Lib.hid (hx2 _ _ _ (by decide) (HY1.out.alloc _)); have hq2 := hx2 _ _ _ (by decide) (HY2.out.alloc _); have HQ2 := Lib.hid hq2; have c56 : w2.cell? ⟨g, 56, none⟩ = some (.slice A r.n p) := hq2.rowTab; have f56 := hq2.frozen 56; have lq := hq2.lt; clear hO2 hb2 hx2 hq2))
    refine wp_at (fun U => ∃ Q, WC w r g Q U) (WC.app HX2.out HQ2.out ((below_al HY3.out _).trans HB2.out) HO2.out HG.out (by omega)) ?_
    rintro Z ⟨Q2, hZ⟩
    have HZ := Lib.hid hZ
    clear hZ
    have HS1 : Hid (∀ u, Below Z.heap.size Z u → Calls Try.prog 22 #[.agg r.l.toArray, .agg Q2.l.toArray] u fun e w' => e = .returned (.bool false) ∧ Below u.heap.size u w') := Lib.hid (fun u hu => by
      have := same_rows r Q2 (by omega) HZ.out.m u (((HT.out.on HZ.out.b).on hu)) (HZ.out.t.on hu)
      rw [HZ.out.n.1] at this
      exact this)
    have HS2 : Hid (∀ u, Below Z.heap.size Z u → Calls Try.prog 22 #[.agg Q2.l.toArray, .agg r.l.toArray] u fun e w' => e = .returned (.bool false) ∧ Below u.heap.size u w') := Lib.hid (fun u hu => by
      have := same_rows Q2 r HZ.out.m (by omega) u (HZ.out.t.on hu) ((HT.out.on HZ.out.b).on hu)
      rw [HZ.out.n.2] at this
      exact this)
    go_wp2_with (first
      | (refine wpList_load_pin rfl 54 (.tmp 3) rfl HZ.out.x.pin (by simp [Act.eval, Act.put]) _ Try.underlying54 rfl 57 size_row r.l_len ?_)
      | (refine wpList_load_pin rfl 54 (.tmp 7) rfl HZ.out.q.pin (by simp [Act.eval, Act.put]) _ Try.underlying54 rfl 57 size_row Q2.l_len ?_)
      | (go_at_call 22; (with_reducible refine (HS1.out _ (Below.refl _ _)).mono ?_); rintro e w5 ⟨rfl, b5⟩; have HB5 := Lib.hid b5; clear b5)
      | (refine wpList_load_want 54 (.tmp 7) rfl g 0 Q2.l (HZ.out.q.on HB5.out).pin.range (by simp [Act.eval, Act.put]) (by kernel_rfl) _ Try.underlying54 rfl (by rw [size_row, Q2.l_len]) ?_)
      | (refine wpList_load_want 54 (.tmp 3) rfl w.heap.size 0 r.l (HZ.out.x.on HB5.out).pin.range (by simp [Act.eval, Act.put]) (by kernel_rfl) _ Try.underlying54 rfl (by rw [size_row, r.l_len]) ?_)
      | (go_at_call 22; (with_reducible refine (HS2.out _ HB5.out).mono ?_); rintro e w6 ⟨rfl, b6⟩; have HB6 := Lib.hid b6; clear b6)
      | (go_at_call 8; (with_reducible refine (lives_wd _).mono ?_); rintro e w7 ⟨rfl, b7⟩))
    go_ret
    exact ⟨rfl, below_then (below_then (below_then HZ.out.b HB5.out) HB6.out) b7⟩
  · have c0 : Y.cell? ⟨g, 56, none⟩ = some (.slice A r.n p) := (HCQ.out 56 (by decide)).trans (ro_tab _ _ _ _ _)
    by_cases hz : r.n = 0
    · rw [hz] at c0
      go_wp2_with (go_at_call 8; (with_reducible refine (lives_wd _).mono ?_); rintro e w7 ⟨rfl, b7⟩)
      go_ret
      exact ⟨rfl, below_then HY3.out b7⟩
    · obtain ⟨tb, rfl, rfl, htb, htg, hbt⟩ : ∃ tb, A = some ⟨tb, 0, none⟩ ∧ p = r.n ∧ w.heap.size < tb ∧ tb ≠ g ∧ Blk Y tb 69 (hesL r.T r.n).toArray := by
        rcases HY4.out with ⟨_, h, _⟩ | h
        · exact absurd h hz
        · exact h
      have HTB := Lib.hid hbt
      obtain ⟨i, hi⟩ : ∃ i, i = m2 % r.n := ⟨_, rfl⟩
      obtain ⟨j, hj⟩ : ∃ j, j = m2 % 8 := ⟨_, rfl⟩
      have hi' : i < r.n := by rw [hi]; exact Nat.mod_lt _ (by omega)
      have hj' : j < 8 := by rw [hj]; exact Nat.mod_lt _ (by decide)
      have en : ((m2 : Int).tmod (r.n : Int)) = (i : Int) := by rw [hi]; rfl
      have en' : ((m2 : Int) % (r.n : Int)) = (i : Int) := by rw [hi]; rfl
      have ej : ((m2 : Int).tmod 8) = (j : Int) := by rw [hj]; rfl
      have ej' : ((m2 : Int) % 8) = (j : Int) := by rw [hj]; rfl
      clear hi hj e8
      have nz : (r.n : Int) ≠ 0 := by omega
      have nb : ((r.n : Int) == 0) = false := beq_false_of_ne nz
      obtain ⟨O, hO⟩ : ∃ O, O = i * 56 := ⟨_, rfl⟩
      have hix : ∀ W, (Instr.indexAt 52 (.slice (some ⟨tb, 0, none⟩) r.n r.n) (.int .i64 (i : Int))).run Try.prog W = .ok (.pointer (some ⟨tb, O, none⟩)) W := fun W => by
        rw [idxHelds (A := some ⟨tb, 0, none⟩) (n := r.n) r.n rfl hi' W, hO, Nat.zero_add]
      have hjx := fun W => score_idx tb (O + 38) (j := j) hj' W
      obtain ⟨y, hy⟩ : ∃ y, y = (r.T i).c.v.s.toList.getD j 0 := ⟨_, rfl⟩
      have HYV := Lib.hid hy
      clear hy
      have HTC : Hid ((hesL r.T r.n)[O + 38 + j]? = some (.int .u16 y)) := Lib.hid (by rw [hO, HYV.out, Nat.add_assoc]; exact hesL_score_at _ hi' hj')
      have HOO := Lib.hid hO
      clear hbt hO
      go_upto_region 10 with fail
      refine Reg.wp_prefix 17 (by kernel_rfl) (fun t => decide (39 ≤ t) && decide (t ≤ 55)) (Reg.KJ Y.heap.size [] []) (Reg.KJ.drew _ (by simp)) Reg.KJ.trans (by kernel_rfl) (by kernel_rfl) (by kernel_rfl) (by kernel_rfl) (fun zz => (Reg.tblK [
        (39, .is (.pointer (some ⟨g, 56, none⟩))),
        (40, .is (.slice (some ⟨tb, 0, none⟩) r.n r.n)),
        (41, .is (.int .i64 (i : Int))),
        (42, .is (.int .u8 (m2 : Int))),
        (43, .is (.int .u8 (j : Int))),
        (44, .is (.pointer (some ⟨tb, O, none⟩))),
        (45, .is (.pointer (some ⟨tb, O + 1, none⟩))),
        (46, .is (.pointer (some ⟨tb, O + 14, none⟩))),
        (47, .is (.pointer (some ⟨tb, O + 38, none⟩))),
        (48, .is (.pointer (some ⟨tb, O + 38 + j, none⟩))),
        (49, .is (.int .u16 y)),
        (50, .is (.int .u16 ((y + 1) % 65536))),
        (51, .is (.pointer (some ⟨tb, O, none⟩))),
        (52, .is (.pointer (some ⟨tb, O + 1, none⟩))),
        (53, .is (.pointer (some ⟨tb, O + 14, none⟩))),
        (54, .is (.pointer (some ⟨tb, O + 38, none⟩))),
        (55, .is (.pointer (some ⟨tb, O + 38 + j, none⟩)))] zz).P) (fun zz => (Reg.tblK _ zz).on) (fun zz => (Reg.memK [] zz).P) (fun zz => (Reg.memK _ zz).on) ?_ ?_
      · simp only [Reg.frame, Reg.over, Nat.reduceAdd, Nat.reduceLeDiff, decide_true, decide_false, if_true, Bool.false_eq_true, if_false, Bool.and_true, Bool.and_false]
        refine ⟨?_, ?_, ?_, ?_, ?_, ?_, ?_, ?_, ?_, ?_, ?_, ?_, ?_, ?_, ?_, ?_, ?_, trivial⟩
        · intro x u hku hd
          refine wpOp_step rfl fun KK hK => ?_
          go_simp
          exact hK _ _ ⟨_, rfl, Reg.KJ.refl _, fun d hd => by cases hd; exact rfl, fun h => by cases h⟩
        · intro x u hku hd
          have h39 : x 39 = .pointer (some ⟨g, 56, none⟩) := hd 0 (by decide)
          have cu : u.cell? ⟨g, 56, none⟩ = some (.slice (some ⟨tb, 0, none⟩) r.n r.n) := (hku.blk (by simp) HY2.out).rowTab
          have lu := (hku.blk (by simp) HY2.out).lt
          refine wpOp_step rfl fun KK hK => ?_
          simp only [h39] at hK ⊢
          go_simp
          exact hK _ _ ⟨_, rfl, Reg.KJ.refl _, fun d hd => by cases hd; exact rfl, fun h => by cases h⟩
        · intro x u hku hd
          refine wpOp_step rfl fun KK hK => ?_
          go_simp
          exact hK _ _ ⟨_, rfl, Reg.KJ.refl _, fun d hd => by cases hd; exact rfl, fun h => by cases h⟩
        · intro x u hku hd
          refine wpOp_step rfl fun KK hK => ?_
          go_simp
          exact hK _ _ ⟨_, rfl, Reg.KJ.refl _, fun d hd => by cases hd; exact rfl, fun h => by cases h⟩
        · intro x u hku hd
          have h42 : x 42 = .int .u8 (m2 : Int) := hd 3 (by decide)
          refine wpOp_step rfl fun KK hK => ?_
          simp only [h42] at hK ⊢
          go_simp
          exact hK _ _ ⟨_, rfl, Reg.KJ.refl _, fun d hd => by cases hd; exact rfl, fun h => by cases h⟩
        · intro x u hku hd
          have h40 : x 40 = .slice (some ⟨tb, 0, none⟩) r.n r.n := hd 1 (by decide)
          have h41 : x 41 = .int .i64 (i : Int) := hd 2 (by decide)
          refine wpOp_step rfl fun KK hK => ?_
          simp only [h40, h41] at hK ⊢
          go_simp
          exact hK _ _ ⟨_, rfl, Reg.KJ.refl _, fun d hd => by cases hd; exact rfl, fun h => by cases h⟩
        · intro x u hku hd
          have h44 : x 44 = .pointer (some ⟨tb, O, none⟩) := hd 5 (by decide)
          refine wpOp_step rfl fun KK hK => ?_
          simp only [h44] at hK ⊢
          go_simp
          exact hK _ _ ⟨_, rfl, Reg.KJ.refl _, fun d hd => by cases hd; exact rfl, fun h => by cases h⟩
        · intro x u hku hd
          have h45 : x 45 = .pointer (some ⟨tb, O + 1, none⟩) := hd 6 (by decide)
          refine wpOp_step rfl fun KK hK => ?_
          simp only [h45] at hK ⊢
          go_simp
          exact hK _ _ ⟨_, rfl, Reg.KJ.refl _, fun d hd => by cases hd; exact rfl, fun h => by cases h⟩
        · intro x u hku hd
          have h46 : x 46 = .pointer (some ⟨tb, O + 14, none⟩) := hd 7 (by decide)
          refine wpOp_step rfl fun KK hK => ?_
          simp only [h46] at hK ⊢
          go_simp
          exact hK _ _ ⟨_, rfl, Reg.KJ.refl _, fun d hd => by cases hd; exact rfl, fun h => by cases h⟩
        · intro x u hku hd
          have h47 : x 47 = .pointer (some ⟨tb, O + 38, none⟩) := hd 8 (by decide)
          have h43 : x 43 = .int .u8 (j : Int) := hd 4 (by decide)
          refine wpOp_step rfl fun KK hK => ?_
          simp only [h47, h43] at hK ⊢
          go_simp
          exact hK _ _ ⟨_, rfl, Reg.KJ.refl _, fun d hd => by cases hd; exact rfl, fun h => by cases h⟩
        · intro x u hku hd
          have h48 : x 48 = .pointer (some ⟨tb, O + 38 + j, none⟩) := hd 9 (by decide)
          have cu : u.cell? ⟨tb, O + 38 + j, none⟩ = some (.int .u16 y) := by rw [(hku.blk (by simp) HTB.out).cell]; simpa using HTC.out
          have lu := (hku.blk (by simp) HTB.out).lt
          refine wpOp_step rfl fun KK hK => ?_
          simp only [h48] at hK ⊢
          go_simp
          exact hK _ _ ⟨_, rfl, Reg.KJ.refl _, fun d hd => by cases hd; exact rfl, fun h => by cases h⟩
        · intro x u hku hd
          have h49 : x 49 = .int .u16 y := hd 10 (by decide)
          refine wpOp_step rfl fun KK hK => ?_
          simp only [h49] at hK ⊢
          go_simp
          exact hK _ _ ⟨_, rfl, Reg.KJ.refl _, fun d hd => by cases hd; exact rfl, fun h => by cases h⟩
        · intro x u hku hd
          have h40 : x 40 = .slice (some ⟨tb, 0, none⟩) r.n r.n := hd 1 (by decide)
          have h41 : x 41 = .int .i64 (i : Int) := hd 2 (by decide)
          refine wpOp_step rfl fun KK hK => ?_
          simp only [h40, h41] at hK ⊢
          go_simp
          exact hK _ _ ⟨_, rfl, Reg.KJ.refl _, fun d hd => by cases hd; exact rfl, fun h => by cases h⟩
        · intro x u hku hd
          have h51 : x 51 = .pointer (some ⟨tb, O, none⟩) := hd 12 (by decide)
          refine wpOp_step rfl fun KK hK => ?_
          simp only [h51] at hK ⊢
          go_simp
          exact hK _ _ ⟨_, rfl, Reg.KJ.refl _, fun d hd => by cases hd; exact rfl, fun h => by cases h⟩
        · intro x u hku hd
          have h52 : x 52 = .pointer (some ⟨tb, O + 1, none⟩) := hd 13 (by decide)
          refine wpOp_step rfl fun KK hK => ?_
          simp only [h52] at hK ⊢
          go_simp
          exact hK _ _ ⟨_, rfl, Reg.KJ.refl _, fun d hd => by cases hd; exact rfl, fun h => by cases h⟩
        · intro x u hku hd
          have h53 : x 53 = .pointer (some ⟨tb, O + 14, none⟩) := hd 14 (by decide)
          refine wpOp_step rfl fun KK hK => ?_
          simp only [h53] at hK ⊢
          go_simp
          exact hK _ _ ⟨_, rfl, Reg.KJ.refl _, fun d hd => by cases hd; exact rfl, fun h => by cases h⟩
        · intro x u hku hd
          have h54 : x 54 = .pointer (some ⟨tb, O + 38, none⟩) := hd 15 (by decide)
          have h43 : x 43 = .int .u8 (j : Int) := hd 4 (by decide)
          refine wpOp_step rfl fun KK hK => ?_
          simp only [h54, h43] at hK ⊢
          go_simp
          exact hK _ _ ⟨_, rfl, Reg.KJ.refl _, fun d hd => by cases hd; exact rfl, fun h => by cases h⟩
      · intro x u hku hd
        have e55 : x 55 = .pointer (some ⟨tb, O + 38 + j, none⟩) := hd 16 (by decide)
        have e50 : x 50 = .int .u16 ((y + 1) % 65536) := hd 11 (by decide)
        have htu := hku.blk (by simp) HTB.out
        have HTU := Lib.hid htu
        have cu : u.cell? ⟨tb, O + 38 + j, none⟩ = some (.int .u16 y) := by rw [htu.cell]; simpa using HTC.out
        have fu := htu.frozen (O + 38 + j)
        have lu := htu.lt
        have HXU := Lib.hid (hku.blk (by simp) HY1.out)
        have HQU := Lib.hid (hku.blk (by simp) HY2.out)
        have HKU := Lib.hid hku.below
        clear htu
        simp only [Reg.frame, Reg.over, Nat.reduceAdd, Nat.reduceLeDiff, decide_true, decide_false, if_true, Bool.false_eq_true, if_false, Bool.and_true, Bool.and_false, e50, e55, List.drop_succ_cons, List.drop_zero]
        go_upto_region 23 with fail
        refine wp_at (fun U => ∃ Q, WC w r g Q U) (WC.tab HXU.out HQU.out (below_then HY3.out HKU.out) HTU.out (by omega) htb i j _ hi' hj' (by rw [HOO.out]; omega) _ (by rw [← HYV.out]; omega)) ?_
        rintro Z ⟨Q2, hZ⟩
        have HZ := Lib.hid hZ
        clear hZ
        have HS1 : Hid (∀ u, Below Z.heap.size Z u → Calls Try.prog 22 #[.agg r.l.toArray, .agg Q2.l.toArray] u fun e w' => e = .returned (.bool false) ∧ Below u.heap.size u w') := Lib.hid (fun u hu => by
          have := same_rows r Q2 (by omega) HZ.out.m u (((HT.out.on HZ.out.b).on hu)) (HZ.out.t.on hu)
          rw [HZ.out.n.1] at this
          exact this)
        have HS2 : Hid (∀ u, Below Z.heap.size Z u → Calls Try.prog 22 #[.agg Q2.l.toArray, .agg r.l.toArray] u fun e w' => e = .returned (.bool false) ∧ Below u.heap.size u w') := Lib.hid (fun u hu => by
          have := same_rows Q2 r HZ.out.m (by omega) u (HZ.out.t.on hu) ((HT.out.on HZ.out.b).on hu)
          rw [HZ.out.n.2] at this
          exact this)
        go_wp2_with (first
          | (refine wpList_load_pin rfl 54 (.tmp 3) rfl HZ.out.x.pin (by simp [Act.eval, Act.put]) _ Try.underlying54 rfl 57 size_row r.l_len ?_)
          | (refine wpList_load_pin rfl 54 (.tmp 7) rfl HZ.out.q.pin (by simp [Act.eval, Act.put]) _ Try.underlying54 rfl 57 size_row Q2.l_len ?_)
          | (go_at_call 22; (with_reducible refine (HS1.out _ (Below.refl _ _)).mono ?_); rintro e w5 ⟨rfl, b5⟩; have HB5 := Lib.hid b5; clear b5)
          | (refine wpList_load_want 54 (.tmp 7) rfl g 0 Q2.l (HZ.out.q.on HB5.out).pin.range (by simp [Act.eval, Act.put]) (by kernel_rfl) _ Try.underlying54 rfl (by rw [size_row, Q2.l_len]) ?_)
          | (refine wpList_load_want 54 (.tmp 3) rfl w.heap.size 0 r.l (HZ.out.x.on HB5.out).pin.range (by simp [Act.eval, Act.put]) (by kernel_rfl) _ Try.underlying54 rfl (by rw [size_row, r.l_len]) ?_)
          | (go_at_call 22; (with_reducible refine (HS2.out _ HB5.out).mono ?_); rintro e w6 ⟨rfl, b6⟩; have HB6 := Lib.hid b6; clear b6)
          | (go_at_call 8; (with_reducible refine (lives_wd _).mono ?_); rintro e w7 ⟨rfl, b7⟩))
        go_ret
        exact ⟨rfl, below_then (below_then (below_then HZ.out.b HB5.out) HB6.out) b7⟩
end Go.Proofs.Ytiglnfefnhoogaa

