/-
  A lane's held rows: what is certified of the oldest tick; nothing, while that is ahead of the first one. Conditions: the lane's reading.
-/
import Derived.Test.YtcangipaoancnaaTk7
import Derived.Test.YtcangipaoancnaaTk4
import Derived.BigQuiet
namespace Go.Proofs.Ytcangipaoancnaa
open Go.RowKit
set_option linter.unusedVariables false
set_option linter.unusedSimpArgs false

/-- A row that may be read, compared and copied. -/
structure Good (w : World) (r : Rw) : Prop where
  n : r.A = none → r.n = 0 ∧ r.p = 0
  m : r.n ≤ 65536
  t : LiesH w w.heap.size r.A r.n r.T
theorem Good.on {w u : World} {r : Rw} (h : Good w r) (hb : Below w.heap.size w u) : Good u r := ⟨h.n, h.m, h.t.on hb⟩
theorem Good.zero (w : World) : Good w rwN := ⟨fun _ => ⟨rfl, rfl⟩, by decide, LiesH.nil_⟩
/-- The copies as a list of rows. -/
def cpR (N me : Nat) (t : Nat → Tk) (k d s : Nat) : List Rw := if distM N me d s = k then (t k).at k d s :: (if 2 ≤ k then [(t k).nR d s] else []) else []
def cpsR (N me : Nat) (t : Nat → Tk) (ks : List Nat) (s : Nat) : List Rw := ks.flatMap fun k => cpR N me t k 0 s ++ cpR N me t k 1 s
theorem cpR_l (N me : Nat) (t : Nat → Tk) (k d s : Nat) : (cpR N me t k d s).flatMap Rw.l = cpL N me t k d s := by
  unfold cpR cpL copL
  split
  · split <;> simp
  · rfl
theorem cpR_n (N me : Nat) (t : Nat → Tk) (k d s : Nat) : (cpR N me t k d s).length = cpN N me k d s := by
  unfold cpR cpN copN
  split
  · split <;> simp
  · rfl
theorem cpsR_l (N me : Nat) (t : Nat → Tk) (ks : List Nat) (s : Nat) : (cpsR N me t ks s).flatMap Rw.l = cpsL N me t ks s := by
  induction ks with
  | nil => rfl
  | cons k l ih =>
    simp only [cpsR, cpsL, List.flatMap_cons, List.flatMap_append] at ih ⊢
    rw [ih, cpR_l, cpR_l]
theorem cpsR_n (N me : Nat) (t : Nat → Tk) (ks : List Nat) (s : Nat) : (cpsR N me t ks s).length = cpsN N me ks s := by
  induction ks with
  | nil => rfl
  | cons k l ih =>
    simp only [cpsR, cpsN, List.flatMap_cons, List.length_append, List.map_cons, List.sum_cons] at ih ⊢
    rw [ih, cpR_n, cpR_n]
theorem flat_getD (l : List Rw) : l.flatMap Rw.l = flL (fun i => (l.getD i rwN).l) l.length := by
  have e : l = (List.range l.length).map fun i => l.getD i rwN := by
    apply List.ext_getElem (by simp)
    intro i h1 h2
    simp only [List.getElem_map, List.getElem_range]
    rw [List.getD_eq_getElem?_getD, List.getElem?_eq_getElem h1, Option.getD_some]
  conv => lhs; rw [e]
  rw [List.flatMap_map]
  rfl
/-- The copies by their places. -/
def cpsF (N me : Nat) (t : Nat → Tk) (s : Nat) : Nat → Rw := fun i => (cpsR N me t (List.range N) s).getD i rwN
theorem cpsL_F (N me : Nat) (t : Nat → Tk) (s : Nat) : cpsL N me t (List.range N) s = flL (fun i => (cpsF N me t s i).l) (cpsN N me (List.range N) s) := by
  rw [← cpsR_l, flat_getD, cpsR_n]; rfl
theorem cpsN_mem (N me : Nat) {k : Nat} (s : Nat) : ∀ ks : List Nat, k ∈ ks → cpN N me k 0 s ≤ cpsN N me ks s
  | x :: l, h => by
    simp only [cpsN, List.map_cons, List.sum_cons]
    rcases List.mem_cons.1 h with e | e
    · subst e; omega
    · have := cpsN_mem N me s l e
      simp only [cpsN] at this
      omega
theorem cpsN_pos {N me : Nat} (hN : 4 ≤ N) (hm : me < N) (s : Nat) : 1 ≤ cpsN N me (List.range N) s := by
  have h := cpsN_mem N me (k := distM N me 0 s) s (List.range N) (List.mem_range.2 (distM_lt hN hm 0 s))
  have : 1 ≤ cpN N me (distM N me 0 s) 0 s := by unfold cpN copN; simp; split <;> omega
  omega
/-- What is certified is one of the copies, or nothing. -/
theorem certS_mem (R : Nat → Rw) : ∀ (m : Nat) (o : Rw), certS R m = some o → o = rwN ∨ ∃ i, i < m ∧ o = R i
  | 0, o, h => by simp only [certS, Option.some.injEq] at h; exact .inl h.symm
  | m + 1, o, h => by
    rw [certS] at h
    split at h
    · cases h
    · rename_i o' ho'
      have ih := certS_mem R m o' ho'
      split at h
      · split at h
        · cases h
        · injection h with h; exact .inr ⟨m, by omega, h.symm⟩
      · injection h with h
        subst h
        rcases ih with e | ⟨i, hi, e⟩
        · exact .inl e
        · exact .inr ⟨i, by omega, e⟩
theorem certM_mem (R : Nat → Rw) (m : Nat) : certM R m = rwN ∨ ∃ i, i < m ∧ certM R m = R i := by
  unfold certM
  cases h : certS R m with
  | none => exact .inl rfl
  | some o => exact certS_mem R m o h
theorem cpR_mem {N me : Nat} {t : Nat → Tk} {k d s : Nat} {r : Rw} (h : r ∈ cpR N me t k d s) : r = (t k).o ∨ r = (t k).nR d s ∨ r = (t k).fR d s := by
  unfold cpR at h
  split at h
  · rcases List.mem_cons.1 h with e | e
    · rw [e]; unfold Tk.at; split
      · exact .inl rfl
      · split
        · exact .inr (.inl rfl)
        · exact .inr (.inr rfl)
    · split at e
      · exact .inr (.inl (List.mem_singleton.1 e))
      · cases e
  · cases h
theorem cpsF_mem {N me : Nat} {t : Nat → Tk} {s i : Nat} (hi : i < cpsN N me (List.range N) s) : ∃ k d, k < N ∧ d < 2 ∧ (cpsF N me t s i = (t k).o ∨ cpsF N me t s i = (t k).nR d s ∨ cpsF N me t s i = (t k).fR d s) := by
  rw [← cpsR_n N me t] at hi
  have hm : cpsF N me t s i ∈ cpsR N me t (List.range N) s := by
    unfold cpsF
    rw [List.getD_eq_getElem?_getD, List.getElem?_eq_getElem hi, Option.getD_some]
    exact List.getElem_mem hi
  unfold cpsR at hm
  obtain ⟨k, hk, hm⟩ := List.mem_flatMap.1 hm
  rcases List.mem_append.1 hm with h | h
  · exact ⟨k, 0, List.mem_range.1 hk, by omega, cpR_mem h⟩
  · exact ⟨k, 1, List.mem_range.1 hk, by omega, cpR_mem h⟩
/-- The rows of ticks are good. -/
structure GoodTk (w : World) (N : Nat) (t : Tk) : Prop where
  o : Good w t.o
  n : ∀ d s, d < 2 → s < N → Good w (t.nR d s)
  f : ∀ d s, d < 2 → s < N → Good w (t.fR d s)
theorem GoodTk.on {w u : World} {N : Nat} {t : Tk} (h : GoodTk w N t) (hb : Below w.heap.size w u) : GoodTk u N t := ⟨h.o.on hb, fun d s hd hs => (h.n d s hd hs).on hb, fun d s hd hs => (h.f d s hd hs).on hb⟩
theorem cpsF_good {w : World} {N me : Nat} {t : Nat → Tk} (h : ∀ k, k < N → GoodTk w N (t k)) {s i : Nat} (hs : s < N) (hi : i < cpsN N me (List.range N) s) : Good w (cpsF N me t s i) := by
  obtain ⟨k, d, hk, hd, e | e | e⟩ := cpsF_mem (t := t) hi
  · rw [e]; exact (h k hk).o
  · rw [e]; exact (h k hk).n d s hd hs
  · rw [e]; exact (h k hk).f d s hd hs
theorem certM_good {w : World} {N me : Nat} {t : Nat → Tk} (h : ∀ k, k < N → GoodTk w N (t k)) {s : Nat} (hs : s < N) : Good w (certM (cpsF N me t s) (cpsN N me (List.range N) s)) := by
  rcases certM_mem (cpsF N me t s) (cpsN N me (List.range N) s) with e | ⟨i, hi, e⟩
  · rw [e]; exact Good.zero w
  · rw [e]; exact cpsF_good h hs hi
theorem Cps.read {w : World} {base G N : Nat} {V : Nat → Value} {m : Nat → Nat} {X : Nat → List Value} (h : Cps w base G N V m X) {s : Nat} (hs : s < N) (R : Nat → Rw) (hX : X s = flL (fun i => (R i).l) (m s)) (hm : 1 ≤ m s) (hT : ∀ i, i < m s → LiesH w w.heap.size (R i).A (R i).n (R i).T) :
    ∃ ga c, V s = .slice (some ⟨ga, 0, none⟩) (m s) c ∧ m s ≤ c ∧ LiesR w w.heap.size (some ⟨ga, 0, none⟩) (m s) R := by
  have ho := h.o s hs
  have hl := ho.1
  rcases ho.2 with ⟨hv0, hL⟩ | ⟨g, cap, cur, hv0, _, hh, hc, _⟩
  · exfalso
    rw [hL] at hl
    simp at hl
    omega
  · have hcell := ho.cells (g := g) (by rw [hv0]; rfl)
    refine ⟨g, cap, hv0, hc, fun _ => ⟨g, 0, rfl, Blk.lt (t := 54) (cs := cur) hh, fun i hi j v hv => ?_⟩, hT⟩
    have hj : j < 57 := by have := (List.getElem?_eq_some_iff.1 hv).1; rwa [Rw.l_len] at this
    have := hcell (i * 57 + j) v (by rw [hX, flL_get (fun i => Rw.l_len _) hi j hj]; exact hv)
    rw [Addr.add_lit] at this
    rw [← this, Nat.add_assoc]
theorem Cps.but {w w' : World} {base G N g : Nat} {V : Nat → Value} {m : Nat → Nat} {X : Nat → List Value} (h : Cps w base G N V m X) (hb : But g w w') (hg : g < base) (hG : G ≠ g) : Cps w' base G N V m X :=
  ⟨hb.blk h.g hG, fun s hs => ownsRow_blk (h.o s hs) fun q hq => by
    have := (h.o s hs).lt q hq
    exact hb.2 q this.2 (by omega), h.d⟩
set_option maxRecDepth 100000 in
theorem idxLstV (G : Nat) {N j : Nat} (V : Nat → Value) (hj : j < N) (w : World) (h : Blk w G 32 ((List.range N).map V).toArray) : w.cell? ⟨G, j, none⟩ = some (V j) := (h.cell j).trans (lst_cell V hj)
theorem LaneIn.on {w u : World} {b N me o : Nat} {t : Nat → Tk} (h : LaneIn w b N me o t) (hb : Below w.heap.size w u) : LaneIn u b N me o t :=
  ⟨belowW hb h.hn, belowW hb h.hm, belowW hb h.ho, fun k hk => (h.ht k hk).on hb⟩
set_option maxRecDepth 100000 in
set_option maxHeartbeats 4000000 in
theorem held_no (b N o : Nat) (hN : 4 ≤ N ∧ N ≤ 16) (ho : o < N) (w : World) (h0 : w.cell? ⟨b, 0, none⟩ = some (.int .i64 (N : Int))) (h4 : w.cell? ⟨b, 1056, none⟩ = some (.int .i64 (o : Int))) (hg : w.cell? ⟨b, 64 + o * 62, none⟩ = some (.bool false)) :
    Calls Try.prog 54 #[.pointer (some ⟨b, 0, none⟩)] w fun e w' => e = .returned (.slice (some ⟨w.heap.size, 0, none⟩) N N) ∧ Blk w' w.heap.size 54 (flL (fun _ => roL false ceN none 0 0) N).toArray ∧ Below w.heap.size w w' := by
  obtain ⟨i0, hi0, hz0, hz1, hz2⟩ := info_parts infoRow
  have HI := Lib.hid hi0
  have HZ0 := Lib.hid hz0
  have HZ1 := Lib.hid hz1
  have HZ2 := Lib.hid hz2
  have HC0 := Lib.hid h0
  have HC4 := Lib.hid h4
  have HCG := Lib.hid hg
  have lb := cell_ltT h0
  have hix := fun W => idxTick b o (by omega) W
  clear hi0 hz0 hz1 hz2 hg h4
  go_enter Try.func54, Try.ntmps54
  go_upto_region 2 with (refine wpList_make_flat rfl (.tmp 9) (.tmp 9) 32 rfl 54 i0 _ (roL false ceN none 0 0) 160 57 elemRows HI.out HZ0.out rfl HZ1.out HZ2.out (roL_len _ _ _ _ _) (by decide) N N (by simp [Act.eval]) (by simp [Act.eval]) (Nat.le_refl _) (by omega) (by omega) ?_; intro w1 hB1 hb1 hs1; have HB1 := Lib.hid hB1; have Hb1 := Lib.hid hb1; clear hB1 hb1 hs1)
  clear h0
  have c4 := belowW Hb1.out HC4.out
  have cg := belowW Hb1.out HCG.out
  have lb1 : b < w1.heap.size := cell_ltT c4
  go_quiet (fail)
  obtain ⟨W1, hW1⟩ : ∃ W1, W1 = w1.drewN nq := ⟨_, rfl⟩
  have HBW : Hid (Below w1.heap.size w1 W1) := Lib.hid (by rw [hW1]; exact below_drewN (Below.refl _ w1) _)
  rw [← hW1]
  clear hW1
  go_wp2_with fail
  go_ret
  exact ⟨rfl, HB1.out.on HBW.out, below_then Hb1.out HBW.out⟩
set_option maxRecDepth 100000 in
set_option maxHeartbeats 4000000 in
theorem held_yes (b N me o : Nat) (t : Nat → Tk) (hN : 4 ≤ N ∧ N ≤ 16) (hm : me < N) (ho : o < N) (w : World) (hL : LaneIn w b N me o t) (hGT : ∀ k, k < N → GoodTk w N (t k)) (hg : w.cell? ⟨b, 64 + o * 62, none⟩ = some (.bool true)) :
    Calls Try.prog 54 #[.pointer (some ⟨b, 0, none⟩)] w fun e w' => ∃ Ls : Nat → List Value, e = .returned (.slice (some ⟨w.heap.size, 0, none⟩) N N) ∧ (∀ i, (Ls i).length = 57) ∧ Blk w' w.heap.size 54 (flL Ls N).toArray ∧ RowsO w' (w.heap.size + 1) N (fun s => (certM (cpsF N me t s) (cpsN N me (List.range N) s)).ro) Ls ∧ Below w.heap.size w w' := by
  have h0 := hL.hn
  have h4 := hL.ho
  have HL := Lib.hid hL
  have HGT := Lib.hid hGT
  clear hL hGT
  obtain ⟨i0, hi0, hz0, hz1, hz2⟩ := info_parts infoRow
  have HI := Lib.hid hi0
  have HZ0 := Lib.hid hz0
  have HZ1 := Lib.hid hz1
  have HZ2 := Lib.hid hz2
  have HC0 := Lib.hid h0
  have HC4 := Lib.hid h4
  have HCG := Lib.hid hg
  have lb := cell_ltT h0
  have hix := fun W => idxTick b o (by omega) W
  clear hi0 hz0 hz1 hz2 hg h4
  go_enter Try.func54, Try.ntmps54
  go_upto_region 2 with (refine wpList_make_flat rfl (.tmp 9) (.tmp 9) 32 rfl 54 i0 _ (roL false ceN none 0 0) 160 57 elemRows HI.out HZ0.out rfl HZ1.out HZ2.out (roL_len _ _ _ _ _) (by decide) N N (by simp [Act.eval]) (by simp [Act.eval]) (Nat.le_refl _) (by omega) (by omega) ?_; intro w1 hB1 hb1 hs1; have HB1 := Lib.hid hB1; have Hb1 := Lib.hid hb1; clear hB1 hb1 hs1)
  clear h0
  have c4 := belowW Hb1.out HC4.out
  have cg := belowW Hb1.out HCG.out
  have lb1 : b < w1.heap.size := cell_ltT c4
  go_quiet (fail)
  obtain ⟨W1, hW1⟩ : ∃ W1, W1 = w1.drewN nq := ⟨_, rfl⟩
  have HBW : Hid (Below w1.heap.size w1 W1) := Lib.hid (by rw [hW1]; exact below_drewN (Below.refl _ w1) _)
  rw [← hW1]
  clear hW1
  obtain ⟨g, hgq⟩ : ∃ g, g = w.heap.size := ⟨_, rfl⟩
  have HG := Lib.hid hgq
  rw [← hgq] at HB1 ⊢
  clear hgq c4 cg lb1
  have HBD : Hid (Below w.heap.size w W1) := Lib.hid (below_then Hb1.out HBW.out)
  have HB2 : Hid (Blk W1 g 54 (flL (fun _ => roL false ceN none 0 0) N).toArray) := Lib.hid (HB1.out.on HBW.out)
  have HLU : Hid (∀ u, Below w.heap.size w u → LaneIn u b N me o t) := Lib.hid (fun u hu => HL.out.on hu)
  clear HB1 Hb1 HBW
  go_upto_region 5 with (go_at_call 77; (with_reducible refine (copies_is b N me o t hN hm ho _ (HLU.out _ HBD.out)).mono ?_); rintro e w2 ⟨G, V, rfl, q1, q2⟩; have HCP := Lib.hid q1; have HB3 := Lib.hid (HB2.out.on q2); have HBE := Lib.hid (below_then HBD.out q2); have HGL : Hid (g < W1.heap.size) := Lib.hid HB2.out.lt; clear q1 q2)
  obtain ⟨base, hbase⟩ : ∃ base, base = W1.heap.size := ⟨_, rfl⟩
  rw [← hbase] at HCP HGL
  clear hbase HB2 HBD
  go_loopw [26] (fun s wr => ∃ k : Nat, k ≤ N ∧ s = .int .i64 (k : Int) ∧ ∃ Ls : Nat → List Value, Hid (∀ i, (Ls i).length = 57) ∧ Hid (∀ i, k ≤ i → Ls i = roL false ceN none 0 0) ∧ Hid (RowsO wr (g + 1) k (fun s => (certM (cpsF N me t s) (cpsN N me (List.range N) s)).ro) Ls) ∧ Hid (Blk wr g 54 (flL Ls N).toArray) ∧ Hid (Cps wr base G N V (cpsN N me (List.range N)) (cpsL N me t (List.range N))) ∧ Hid (Below w.heap.size w wr)) (fun s _ => N - (intOf s).toNat)
  case atStart => exact ⟨0, by omega, rfl, _, Lib.hid fun i => roL_len _ _ _ _ _, Lib.hid fun i _ => rfl, Lib.hid fun i hi => absurd hi (by omega), HB3, HCP, HBE⟩
  case round =>
    clear HB3 HCP HBE
    obtain ⟨k, hk, rfl, Ls, HLN, HE, HO, HB, HC, HU⟩ := hrel
    have hlr := HB.out.lt
    by_cases hlt' : k < N
    · have HP : Hid (PIn wr g (k * 57) 54 (flL Ls k) (flL (fun j => Ls (k + 1 + j)) (N - (k + 1))) (roL false ceN none 0 0)) := Lib.hid ⟨by have := HB.out; rw [flL_at _ hlt', HE.out k (Nat.le_refl _)] at this; exact this, flL_len HLN.out _⟩
      have hix1 := fun W => idxRows (A := some ⟨g, 0, none⟩) (n := N) N rfl hlt' W
      simp only [Nat.zero_add] at hix1
      have hix2 := fun W => idxLst G hlt' W
      have HGW : Hid (∀ j, j < N → GoodTk wr N (t j)) := Lib.hid (fun j hj => (HGT.out j hj).on HU.out)
      obtain ⟨ga, c, hV, hmc, hR⟩ := HC.out.read hlt' (cpsF N me t k) (cpsL_F N me t k) (cpsN_pos hN.1 hm k) (fun i hi => (cpsF_good HGW.out hlt' hi).t)
      have cV := (HC.out.g.cell k).trans (lst_cell V hlt')
      rw [hV] at cV
      have lG := HC.out.g.lt
      obtain ⟨M, hM⟩ : ∃ M, M = cpsN N me (List.range N) k := ⟨_, rfl⟩
      obtain ⟨r, hr⟩ : ∃ r, r = certM (cpsF N me t k) M := ⟨_, rfl⟩
      have HRR : Hid (Good wr r) := Lib.hid (by rw [hr, hM]; exact certM_good HGW.out hlt')
      have HME := Lib.hid hM
      have HRE := Lib.hid hr
      rw [← hM] at hR hmc cV
      have HCE : Hid (Calls Try.prog 79 #[.slice (some ⟨ga, 0, none⟩) M c] wr fun e w' => e = .returned (.agg r.l.toArray) ∧ Below wr.heap.size wr w') := Lib.hid (by rw [hr]; exact certified_is ga 0 _ rfl M c (by rw [hM]; have := cpsN_le N me (List.range N) k; rw [List.length_range] at this; omega) hmc (cpsF N me t k) (fun i hi => (cpsF_good HGW.out hlt' (by rw [← hM]; exact hi)).m) wr hR)
      clear hR hmc hV hM hr HGW
      go_upto_region 7 with fail
      clear cV lG
      go_wp2_with (first
        | (go_at_call 79; (with_reducible refine HCE.out.mono ?_); rintro e w3 ⟨rfl, q1⟩; have Q1 := Lib.hid q1; have HR3 : Hid (Good w3 r) := Lib.hid (HRR.out.on q1); clear q1)
        | (go_at_call 78; (with_reducible refine (copy_any r HR3.out.n HR3.out.m _ HR3.out.t).mono ?_); rintro e w4 ⟨L, rfl, q1, q2⟩; have QL := Lib.hid q1; have Q2 := Lib.hid (Q1.out.trans (q2.mono Q1.out.size)); have HP4 := Lib.hid (HP.out.on Q2.out); have hl4 := HP4.out.lt; have HS3 := Lib.hid Q1.out.size; clear q1 q2)
        | (refine wpList_store_pin rfl 54 (.tmp 36) (.tmp 35) rfl HP4.out L (by simp [Act.eval, Act.put]) (by simp [Act.eval, Act.put]) 57 size_row (roL_len _ _ _ _ _) QL.out.len QL.out.one ?_; intro w5 p1 b1; have HP5 := Lib.hid p1; have HB5 := Lib.hid b1; clear p1 b1))
      go_roundw
      case rel =>
        have hg3 : g + 1 ≤ w3.heap.size := by have := HS3.out; omega
        refine ⟨k + 1, by omega, by go_num, fun i => if i = k then L else Ls i, Lib.hid fun i => ?_, Lib.hid fun i hi => ?_, Lib.hid fun i hi => ?_, Lib.hid ?_, Lib.hid ?_, Lib.hid ?_⟩
        · show (if i = k then L else Ls i).length = 57
          split
          · exact QL.out.len
          · exact HLN.out i
        · show (if i = k then L else Ls i) = _
          rw [if_neg (by omega)]; exact HE.out i (by omega)
        · by_cases e : i = k
          · subst e
            simp only [if_true]
            rw [← HME.out, ← HRE.out]
            exact (QL.out.mono hg3).but HB5.out (by omega)
          · simp only [e, if_false]
            exact ((HO.out i (by omega)).on Q2.out).but HB5.out (by omega)
        · rw [← flL_upd Ls k L hlt']; exact HP5.out.blk
        · exact (HC.out.on Q2.out).but HB5.out HGL.out (Blk.ne HC.out.g HB.out (by decide))
        · exact (below_then HU.out Q2.out).trans (HB5.out.low (by rw [HG.out]; exact Nat.le_refl _))
      case measure => simp [intOf]; omega
    · go_wp2_with fail
      go_ret
      obtain rfl : k = N := by omega
      have h1 := HB.out
      have h2 := HU.out
      have h3 := HO.out
      rw [← HG.out] at h2 ⊢
      exact ⟨Ls, rfl, HLN.out, h1, h3, h2⟩
end Go.Proofs.Ytcangipaoancnaa

