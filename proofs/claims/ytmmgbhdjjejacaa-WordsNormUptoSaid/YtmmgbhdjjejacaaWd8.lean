/-
  Rows in a list, in memory; the contracts of package words' filled, of rows, and of Norm. Conditions: the rows' reading, their tables' lengths.
-/
import Derived.Test.YtmmgbhdjjejacaaWd7
namespace Go.Proofs.Ytmmgbhdjjejacaa
open Go.RowKit
set_option linter.unusedVariables false

/-- Lists of m cells each, one behind the other. -/
def flL (f : Nat → List Value) (n : Nat) : List Value := (List.range n).flatMap f
section
variable {f h : Nat → List Value} {m n : Nat}
theorem flL_len (hf : ∀ i, (f i).length = m) (n : Nat) : (flL f n).length = n * m := by rw [flL, flat_len _ m hf, List.length_range]
theorem flL_one (hf : ∀ i, i < n → ∀ v ∈ f i, v.oneCell' = true) : ∀ x ∈ flL f n, x.oneCell' = true := by
  intro x hx; obtain ⟨i, hi, hi'⟩ := List.mem_flatMap.1 hx; exact hf i (by simpa using hi) x hi'
theorem flL_zero (f : Nat → List Value) : flL f 0 = [] := rfl
theorem flL_succ (f : Nat → List Value) (n : Nat) : flL f (n + 1) = flL f n ++ f n := by simp [flL, List.range_succ]
theorem flL_congr (hh : ∀ i, i < n → f i = h i) : flL f n = flL h n := by
  induction n with
  | zero => rfl
  | succ n ih => rw [flL_succ, flL_succ, ih fun i hi => hh i (by omega), hh n (by omega)]
theorem flL_add (f : Nat → List Value) (n k : Nat) : flL f (n + k) = flL f n ++ flL (fun i => f (n + i)) k := by
  induction k with
  | zero => simp [flL_zero]
  | succ k ih => rw [← Nat.add_assoc, flL_succ, ih, flL_succ, List.append_assoc]
theorem flL_at (f : Nat → List Value) {n i : Nat} (hi : i < n) : flL f n = flL f i ++ (f i ++ flL (fun j => f (i + 1 + j)) (n - (i + 1))) := by
  have e : n = i + 1 + (n - (i + 1)) := by omega
  conv => lhs; rw [e]
  rw [flL_add, flL_succ, List.append_assoc]
theorem flL_get (hf : ∀ i, (f i).length = m) {n i : Nat} (hi : i < n) (j : Nat) (hj : j < m) : (flL f n)[i * m + j]? = (f i)[j]? := by
  rw [flL_at f hi, List.getElem?_append_right (by rw [flL_len hf]; omega), flL_len hf, Nat.add_sub_cancel_left, List.getElem?_append_left (by rw [hf]; omega)]
theorem flL_upd (f : Nat → List Value) (k : Nat) (y : List Value) (hk : k < n) : flL f k ++ (y ++ flL (fun j => f (k + 1 + j)) (n - (k + 1))) = flL (fun i => if i = k then y else f i) n := by
  rw [flL_at (fun i => if i = k then y else f i) hk]
  congr 1
  · exact flL_congr fun i hi => by rw [if_neg (by omega)]
  · congr 1
    · rw [if_pos rfl]
    · exact flL_congr fun i hi => by rw [if_neg (by omega)]
theorem flL_split (hm : 0 < m) (hf : ∀ i, (f i).length = m) {n j : Nat} (hj : j < n * m) : (flL f n)[j]? = (f (j / m))[j % m]? := by
  have hq : j / m < n := (Nat.div_lt_iff_lt_mul hm).2 hj
  rw [← flL_get hf hq (j % m) (Nat.mod_lt _ hm), Nat.div_add_mod']
end
/-- The slice at A of n lists of m cells reads as f. -/
def LiesF (w : World) (B : Nat) (A : Option Addr) (n m : Nat) (f : Nat → List Value) : Prop :=
  0 < n → ∃ b off, A = some ⟨b, off, none⟩ ∧ b < B ∧ ∀ i, i < n → w.rangeAt b (off + i * m) (f i)
section
variable {w w' : World} {B B' n m : Nat} {A : Option Addr} {f : Nat → List Value}
theorem LiesF.keep (h : LiesF w B A n m f) (hB : B ≤ B') (hk : ∀ p : Addr, p.block < B → w'.cell? p = w.cell? p) : LiesF w' B' A n m f := fun hn => by
  obtain ⟨b, off, e, hb, hc⟩ := h hn
  exact ⟨b, off, e, by omega, fun i hi j v hv => (hk _ hb).trans (hc i hi j v hv)⟩
theorem LiesF.on (h : LiesF w w.heap.size A n m f) (hb : Below w.heap.size w w') : LiesF w' w'.heap.size A n m f := h.keep hb.size fun _ hp => hb.cell hp
theorem LiesF.low (h : LiesF w B A n m f) (hb : Below B w w') : LiesF w' B A n m f := h.keep (Nat.le_refl _) fun _ hp => hb.cell hp
theorem LiesF.up (h : LiesF w B A n m f) (hB : B ≤ B') : LiesF w B' A n m f := h.keep hB fun _ _ => rfl
theorem LiesF.less {k : Nat} (h : LiesF w B A n m f) (hk : k ≤ n) : LiesF w B A k m f := fun h0 => by
  obtain ⟨b, off, e, hb, hc⟩ := h (by omega)
  exact ⟨b, off, e, hb, fun i hi => hc i (by omega)⟩
theorem LiesF.src (hm : 0 < m) (hf : ∀ i, (f i).length = m) (h : LiesF w B A n m f) : 0 < (flL f n).length → ∃ ad, A = some ad ∧ ∀ j v, (flL f n)[j]? = some v → w.cell? (ad.add j) = some v := by
  intro h0
  rw [flL_len hf] at h0
  obtain ⟨b, off, e, hb, hc⟩ := h (by rcases Nat.eq_zero_or_pos n with h | h
                                      · rw [h, Nat.zero_mul] at h0; omega
                                      · exact h)
  refine ⟨_, e, fun j v hv => ?_⟩
  have hj : j < n * m := by have := (List.getElem?_eq_some_iff.1 hv).1; rwa [flL_len hf] at this
  rw [flL_split hm hf hj] at hv
  have := hc (j / m) ((Nat.div_lt_iff_lt_mul hm).2 hj) (j % m) v hv
  rw [Addr.add_lit, ← this, Nat.add_assoc, Nat.div_add_mod']
end
theorem Blk.liesF {w : World} {g n m : Nat} {t : TypeId} {f : Nat → List Value} (hm : 0 < m) (hf : ∀ i, (f i).length = m) (h : Blk w g t (flL f n).toArray) : LiesF w w.heap.size (some ⟨g, 0, none⟩) n m f := fun hn =>
  ⟨g, 0, rfl, h.lt, fun i hi j v hv => by
    have hj : j < m := by have := (List.getElem?_eq_some_iff.1 hv).1; rwa [hf] at this
    rw [h.cell, Nat.zero_add, List.getElem?_toArray, flL_get hf hi j hj]; exact hv⟩
/-- A list cut, or filled up. -/
def fitF {α : Type} (f : Nat → α) (m : Nat) (z : α) : Nat → α := fun i => if i < m then f i else z
theorem fitF_cells {f : Nat → List Value} {z : List Value} {s : Nat} (hf : ∀ i, (f i).length = s) (hz : z.length = s) (n m k : Nat) (hk : Nat.min m n = k) : flL f k ++ (flL (fun _ => z) n).drop (flL f k).length = flL (fitF f m z) n := by
  have hkn : k ≤ n := by rw [← hk]; exact Nat.min_le_right _ _
  have hkm : k ≤ m := by rw [← hk]; exact Nat.min_le_left _ _
  have e : n = k + (n - k) := by omega
  rw [flL_len hf]
  conv => lhs; rw [e]
  rw [flL_add, List.drop_append_of_le_length (by rw [flL_len fun _ => hz]; omega), List.drop_of_length_le (by rw [flL_len fun _ => hz]; omega), List.nil_append]
  conv => rhs; rw [e]
  rw [flL_add]
  congr 1
  · exact flL_congr fun i hi => by unfold fitF; rw [if_pos (by omega)]
  · refine flL_congr fun i hi => ?_
    unfold fitF
    rw [if_neg]
    have : k = m ∨ k = n := by rw [← hk]; rcases Nat.le_total m n with h | h
                               · left; exact Nat.min_eq_left h
                               · right; exact Nat.min_eq_right h
    omega
theorem fitF_le {f : Nat → List Value} {z : List Value} {s : Nat} (hf : ∀ i, (f i).length = s) (hz : z.length = s) {n m k : Nat} (hk : Nat.min m n = k) : (flL f k).length ≤ (flL (fun _ => z) n).toArray.size := by
  have : k ≤ n := by rw [← hk]; exact Nat.min_le_right _ _
  rw [List.size_toArray, flL_len hf, flL_len fun _ => hz]; exact Nat.mul_le_mul_right _ this

set_option maxRecDepth 100000 in
theorem elemRows : Try.prog.underlying 22 = some (.slice 54) := by kernel_rfl
set_option maxRecDepth 100000 in
theorem sizeRows (w : World) : (sizeOf 54).run Try.prog w = .ok 57 w := by kernel_rfl
set_option maxRecDepth 100000 in
theorem idxRows {A : Option Addr} {n : Nat} (c : Nat) {k b off : Nat} (hA : A = some ⟨b, off, none⟩) (hk : k < n) (w : World) :
    (Instr.indexAt 22 (.slice A n c) (.int .i64 (k : Int))).run Try.prog w = .ok (.pointer (some ⟨b, off + k * 57, none⟩)) w := by
  subst hA
  rw [run_indexAt_slice (h := elemRows), if_pos (by omega), show Try.prog.elem 22 = 54 by kernel_rfl, sizeRows]
  simp [Result.andThen, Addr.add_lit]
theorem Rw.l_len (r : Rw) : r.l.length = 57 := roL_len _ _ _ _ _
/-- Rows in memory: their cells, their tables. -/
structure LiesR (w : World) (B : Nat) (A : Option Addr) (m : Nat) (R : Nat → Rw) : Prop where
  f : LiesF w B A m 57 fun i => (R i).l
  t : ∀ i, i < m → LiesH w B (R i).A (R i).n (R i).T
theorem LiesR.on {w w' : World} {A : Option Addr} {m : Nat} {R : Nat → Rw} (h : LiesR w w.heap.size A m R) (hb : Below w.heap.size w w') : LiesR w' w'.heap.size A m R := ⟨h.f.on hb, fun i hi => (h.t i hi).on hb⟩
theorem LiesR.low {w w' : World} {B : Nat} {A : Option Addr} {m : Nat} {R : Nat → Rw} (h : LiesR w B A m R) (hb : Below B w w') : LiesR w' B A m R := ⟨h.f.low hb, fun i hi => (h.t i hi).low hb⟩
theorem LiesR.up {w : World} {B B' : Nat} {A : Option Addr} {m : Nat} {R : Nat → Rw} (h : LiesR w B A m R) (hb : B ≤ B') : LiesR w B' A m R := ⟨h.f.up hb, fun i hi => (h.t i hi).up hb⟩
/-- The cells Ls are rows of memory of their own. -/
def RowsO (w : World) (lo n : Nat) (P : Nat → Ro) (Ls : Nat → List Value) : Prop := ∀ i, i < n → RowO w lo (P i) (Ls i)
theorem fit_tab {w : World} {B m : Nat} {A : Option Addr} {R : Nat → Rw} (h : LiesR w B A m R) (k : Nat) : LiesH w B (fitF R m rwN k).A (fitF R m rwN k).n (fitF R m rwN k).T := by
  unfold fitF
  split
  · exact h.t k ‹_›
  · exact LiesH.nil_
theorem fit_l (R : Nat → Rw) (m : Nat) : (fun i => (fitF R m rwN i).l) = fitF (fun i => (R i).l) m (roL false ceN none 0 0) := by
  funext i; unfold fitF; split <;> rfl
set_option maxRecDepth 100000 in
set_option maxHeartbeats 1000000 in
theorem filledRow_is (n : Nat) (hn : n ≤ 16) (A : Option Addr) (m c nb : Nat) (R : Nat → Rw) (w : World) (hR : LiesR w w.heap.size A m R) (hnb : w.cell? ⟨nb, 0, none⟩ = some (.int .i64 (n : Int))) (hlt : nb < w.heap.size) :
    Calls Try.prog 51 #[.int .i64 (n : Int), .slice A m c, .func (.func 52) #[] #[.pointer (some ⟨nb, 0, none⟩)]] w
      fun e w' => ∃ Ls : Nat → List Value, e = .returned (.slice (some ⟨w.heap.size, 0, none⟩) n n) ∧ (∀ i, (Ls i).length = 57) ∧ Blk w' w.heap.size 54 (flL Ls n).toArray ∧ RowsO w' (w.heap.size + 1) n (fun i => plR n (fitF R m rwN i).ro) Ls ∧ Below w.heap.size w w' := by
  obtain ⟨i0, hi0, hz0, hz1, hz2⟩ := info_parts infoRow
  obtain ⟨k0, hk0⟩ : ∃ k0, Nat.min m n = k0 := ⟨_, rfl⟩
  have HK := Lib.hid hk0
  have hkm : k0 ≤ m := by rw [← hk0]; exact Nat.min_le_left _ _
  have HSRC := Lib.hid (fun (x : World) (h : LiesR x x.heap.size A m R) => LiesF.src (by decide) (fun i => (R i).l_len) (h.f.less hkm))
  have HR := Lib.hid hR
  have HI := Lib.hid hi0
  have HZ0 := Lib.hid hz0
  have HZ1 := Lib.hid hz1
  have HZ2 := Lib.hid hz2
  have HNB := Lib.hid hnb
  have HLT := Lib.hid hlt
  have HN16 := Lib.hid hn
  clear hR hk0 hi0 hz0 hz1 hz2 hnb hkm
  go_enter Try.func51, Try.ntmps51
  go_wp2_with (first
    | (refine wpList_make_flat rfl (.tmp 9) (.tmp 9) 22 rfl 54 i0 _ (roL false ceN none 0 0) 160 57 elemRows HI.out HZ0.out rfl HZ1.out HZ2.out (roL_len _ _ _ _ _) (by decide) n n (by simp [Act.eval]) (by simp [Act.eval]) (Nat.le_refl _) (by omega) (by omega) ?_; intro w1 hB1 hb1 hs1; have HB1 := Lib.hid hB1; have Hb1 := Lib.hid hb1; have hlt1 := hB1.lt; clear hB1 hb1 hs1)
    | (refine wpList_copy_part rfl (.tmp 11) (.tmp 12) 22 22 rfl 54 elemRows 57 size_row A n m k0 n c w.heap.size HK.out (by simp [Act.eval]) (by simp [Act.eval]) _ _ HB1.out (flL (fun i => (R i).l) k0) (flL_len (fun i => (R i).l_len) _) (fitF_le (fun i => (R i).l_len) (roL_len false ceN none 0 0) HK.out) (HSRC.out w1 (HR.out.on Hb1.out)) (flL_one fun i _ => roL_one _ _ _ _ _) ?_; intro w2 hB2 hb2; have HB2 : Hid (Blk w2 w.heap.size 54 (flL (fun i => (fitF R m rwN i).l) n).toArray) := Lib.hid (by rw [fit_l, ← fitF_cells (fun i => (R i).l_len) (roL_len false ceN none 0 0) n m k0 HK.out]; exact hB2); have Hb2 := Lib.hid (Hb1.out.trans (hb2.low (Nat.le_refl _))); have hlt2 := hB2.lt; clear hB2 hb2))
  obtain ⟨g, hg⟩ : ∃ g, g = w.heap.size := ⟨_, rfl⟩
  have HG := Lib.hid hg
  rw [← hg] at HB2 hlt2 ⊢
  clear hg HB1 hlt1
  go_loopw [16] (fun s wr => ∃ k : Nat, k ≤ n ∧ s = .int .i64 (k : Int) ∧ ∃ Ls : Nat → List Value, Hid (∀ i, (Ls i).length = 57) ∧ Hid (∀ i, k ≤ i → Ls i = (fitF R m rwN i).l) ∧ Hid (RowsO wr (g + 1) k (fun i => plR n (fitF R m rwN i).ro) Ls) ∧ Hid (Blk wr g 54 (flL Ls n).toArray) ∧ Hid (Below w.heap.size w wr)) (fun s _ => n - (intOf s).toNat)
  case atStart => exact ⟨0, by omega, rfl, _, Lib.hid fun i => Rw.l_len _, Lib.hid fun i _ => rfl, Lib.hid fun i hi => absurd hi (by omega), HB2, Hb2⟩
  case round =>
    clear HB2 Hb2 Hb1 hlt2
    obtain ⟨k, hk, rfl, Ls, HL, HE, HO, HB, HU⟩ := hrel
    have hlr := HB.out.lt
    by_cases hlt' : k < n
    · have HP : Hid (PIn wr g (k * 57) 54 (flL Ls k) (flL (fun j => Ls (k + 1 + j)) (n - (k + 1))) (fitF R m rwN k).l) := Lib.hid ⟨by have := HB.out; rw [flL_at _ hlt', HE.out k (Nat.le_refl _)] at this; exact this, flL_len HL.out _⟩
      have hix := fun W => idxRows (A := some ⟨g, 0, none⟩) (n := n) n rfl hlt' W
      simp only [Nat.zero_add] at hix
      have HC : Hid (wr.cell? ⟨nb, 0, none⟩ = some (.int .i64 (n : Int))) := Lib.hid ((HU.out.cell (p := ⟨nb, 0, none⟩) HLT.out).trans HNB.out)
      have HTB : Hid (LiesH wr g (fitF R m rwN k).A (fitF R m rwN k).n (fitF R m rwN k).T) := Lib.hid (by rw [HG.out]; exact fit_tab (HR.out.low HU.out) k)
      have hgb : g < wr.heap.size := hlr
      have HGN := Lib.hid (show nb < g by rw [HG.out]; exact HLT.out)
      go_wp2_with (go_at_call 52; (with_reducible refine (norm1_is n HN16.out _ nb g _ _ _ _ _ HP.out HC.out HGN.out HTB.out).mono ?_); rintro e w3 ⟨rfl, p1, b1⟩)
      obtain ⟨L, hLO, hLP⟩ := p1
      have HLO := Lib.hid hLO
      have HLP := Lib.hid hLP
      have HB1 := Lib.hid b1
      clear hLO hLP b1
      go_roundw
      case rel =>
        refine ⟨k + 1, by omega, by go_num, fun i => if i = k then L else Ls i, Lib.hid fun i => ?_, Lib.hid fun i hi => ?_, Lib.hid fun i hi => ?_, Lib.hid ?_, Lib.hid (HU.out.trans (HB1.out.low (by rw [HG.out]; exact Nat.le_refl _)))⟩
        · show (if i = k then L else Ls i).length = 57
          split
          · exact HLO.out.len
          · exact HL.out i
        · show (if i = k then L else Ls i) = _
          rw [if_neg (by omega)]; exact HE.out i (by omega)
        · by_cases e : i = k
          · simp only [e, if_true]
            exact HLO.out.mono (by omega)
          · simp only [e, if_false]
            exact (HO.out i (by omega)).but HB1.out (by omega)
        · rw [← flL_upd Ls k L hlt']; exact HLP.out.blk
      case measure => simp [intOf]; omega
    · go_wp2_with fail
      go_ret
      obtain rfl : k = n := by omega
      have h1 := HB.out
      have h2 := HU.out
      have h3 := HO.out
      rw [← HG.out] at h2 ⊢
      exact ⟨Ls, rfl, HL.out, h1, h3, h2⟩
set_option maxRecDepth 100000 in
theorem norm_bad (N : Int) (hN : nmB N = false) (A : Option Addr) (m c : Nat) (w : World) :
    Calls Try.prog 14 #[.int .i64 N, .agg #[.slice A m c]] w fun e w' => e = .returned (.agg #[.slice none 0 0]) ∧ Below w.heap.size w w' := by
  have HC : Hid (∀ W, Calls Try.prog 50 #[.int .i64 N] W fun e w' => e = .returned (.bool false) ∧ W = w') := Lib.hid (by rw [← hN]; exact isNumber_is N)
  clear hN
  go_enter Try.func14, Try.ntmps14
  go_wp2_with (go_at_call 50; (with_reducible refine (HC.out _).mono ?_); rintro e w1 ⟨rfl, rfl⟩)
  exact bodyPost_ret (v := .agg #[.slice none 0 0]) (by simp [results, Try.results14, go_sem]) rfl ⟨rfl, by simpa using below_al (below_al (below_al (Below.refl _ w) _) _) _⟩
set_option maxRecDepth 100000 in
set_option maxHeartbeats 1000000 in
theorem norm_is (n : Nat) (hn : n ≤ 16) (A : Option Addr) (m c : Nat) (R : Nat → Rw) (w : World) (hR : LiesR w w.heap.size A m R) :
    Calls Try.prog 14 #[.int .i64 (n : Int), .agg #[.slice A m c]] w fun e w' => ∃ (G : Nat) (Ls : Nat → List Value), e = .returned (.agg #[.slice (some ⟨G, 0, none⟩) n n]) ∧ w.heap.size ≤ G ∧ (∀ i, (Ls i).length = 57) ∧ Blk w' G 54 (flL Ls n).toArray ∧ RowsO w' (G + 1) n (fun i => plR n (fitF R m rwN i).ro) Ls ∧ Below w.heap.size w w' := by
  have HC : Hid (∀ W, Calls Try.prog 50 #[.int .i64 (n : Int)] W fun e w' => e = .returned (.bool true) ∧ W = w') := Lib.hid (by
    have : nmB (n : Int) = true := by unfold nmB; simp; omega
    rw [← this]; exact isNumber_is _)
  have HR := Lib.hid hR
  have HN := Lib.hid hn
  clear hR hn
  go_enter Try.func14, Try.ntmps14
  go_upto_region 1 with fail
  refine wp_at (fun U => Blk U w.heap.size 3 #[.int .i64 (n : Int)] ∧ Blk U (w.heap.size + 1) 24 #[.slice A m c] ∧ Blk U (w.heap.size + 1 + 1) 24 #[.slice none 0 0] ∧ Below w.heap.size w U) ?_ ?_
  · refine ⟨((Blk.new w 3 _).alloc _).alloc _, ?_, ?_, below_al (below_al (below_al (Below.refl _ w) _) _) _⟩
    · have := (Blk.new (w.alloc (.cells #[.int .i64 (n : Int)] 3)) 24 #[.slice A m c]).alloc (.cells #[.slice none 0 0] 24)
      rwa [alloc_size] at this
    · have := Blk.new ((w.alloc (.cells #[.int .i64 (n : Int)] 3)).alloc (.cells #[.slice A m c] 24)) 24 #[.slice none 0 0]
      rwa [alloc_size, alloc_size] at this
  · rintro U ⟨h0, h1, h2, h3⟩
    have c0 : U.cell? ⟨w.heap.size, 0, none⟩ = some (.int .i64 (n : Int)) := (h0.cell 0).trans rfl
    have c1 : U.cell? ⟨w.heap.size + 1, 0, none⟩ = some (.slice A m c) := (h1.cell 0).trans rfl
    have l0 := h0.lt
    have l1 := h1.lt
    have l2 := h2.lt
    have H2 := Lib.hid h2
    have HC0 := Lib.hid c0
    have HL0 := Lib.hid l0
    have HB := Lib.hid h3
    have HL := Lib.hid h3.size
    have HL2 := Lib.hid l2
    clear h0 h1 h2 h3
    go_wp2_with (first
      | (go_at_call 50; (with_reducible refine (HC.out _).mono ?_); rintro e w1 ⟨rfl, rfl⟩)
      | (go_at_call 51; (with_reducible refine (filledRow_is n HN.out A m c w.heap.size R U (HR.out.on HB.out) HC0.out HL0.out).mono ?_); rintro e w1 ⟨Ls, rfl, q1, q2, q3, q4⟩; have hL := Lib.hid q1; have hB := Lib.hid q2; have hO := Lib.hid q3; have hU := Lib.hid q4; have hz := H2.out.on q4; have z0 : w1.cell? ⟨w.heap.size + 1 + 1, 0, none⟩ = some (.slice none 0 0) := (hz.cell 0).trans rfl; have zf := hz.frozen 0; clear q1 q2 q3 q4 hz))
    have q := But.one (u := w1) (g := w.heap.size + 1 + 1) 0 (.slice (some ⟨U.heap.size, 0, none⟩) n n)
    exact bodyPost_ret (v := .agg #[.slice (some ⟨U.heap.size, 0, none⟩) n n]) (by simp [results, Try.results14, go_sem, z0]) rfl ⟨U.heap.size, Ls, rfl, HL.out, hL.out, q.blk hB.out (by have := HL2.out; omega), fun i hi => (hO.out i hi).but q (by have := HL2.out; omega), (HB.out.trans (hU.out.mono HL.out)).trans (q.low (by omega))⟩
end Go.Proofs.Ytmmgbhdjjejacaa

