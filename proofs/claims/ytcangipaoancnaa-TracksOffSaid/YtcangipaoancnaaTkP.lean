/-
  The phases of a drawn region in which a call makes a list, append hands it on to another one, and the new header is stored: what is known of memory at each. No condition; nothing of the program is named here.
-/
import Derived.Test.YtcangipaoancnaaTk2
import Derived.Test.YtcangipaoancnaaOwF
import Derived.Test.YtcangipaoancnaaWd4
import Derived.Test.YtcangipaoancnaaRegXI
namespace Go.Proofs.Ytcangipaoancnaa
open Go.RowKit
set_option linter.unusedVariables false
set_option linter.unusedSimpArgs false

theorem Blk.ownsB {w : World} {base g n size : Nat} {e : TypeId} {xs : List Value} (h : Blk w g e xs.toArray) (hg : base ≤ g) (hl : xs.length = n * size) (hm : n ≤ maxLen) : w.ownsRow base e size (.slice (some ⟨g, 0, none⟩) n n) n xs :=
  ⟨hl, .inr ⟨g, n, xs.toArray, rfl, hg, h, Nat.le_refl _, hm, by simp [hl], by simp [← hl]⟩⟩
/-- How many copies, at a distance; their cells. -/
def copN (r : Nat) : Nat := if 2 ≤ r then 2 else 1
def copL (t : Tk) (r d s : Nat) : List Value := (t.at r d s).l ++ (if 2 ≤ r then (t.nR d s).l else [])
set_option maxRecDepth 100000 in
set_option maxHeartbeats 4000000 in
theorem copiesAt_is (b off N me : Nat) (t : Tk) (d s r : Nat) (hN : 4 ≤ N ∧ N ≤ 16) (hm : me < N) (hd : d < 2) (hs : s < N) (hr : distM N me d s = r) (w : World) (h0 : w.cell? ⟨b, 0, none⟩ = some (.int .i64 (N : Int))) (h1 : w.cell? ⟨b, 1, none⟩ = some (.int .i64 (me : Int))) (hT : TkIn w w.heap.size b off N t) :
    Calls Try.prog 99 #[.pointer (some ⟨b, 0, none⟩), .pointer (some ⟨b, off, none⟩), .int .u8 (d : Int), .int .i64 (s : Int)] w fun e w' => ∃ A c, e = .returned (.slice A (copN r) c) ∧ w'.ownsRow w.heap.size 54 57 (.slice A (copN r) c) (copN r) (copL t r d s) ∧ Below w.heap.size w w' := by
  have HD : Hid (∀ u, Below w.heap.size w u → Calls Try.prog 98 #[.pointer (some ⟨b, 0, none⟩), .int .u8 (d : Int), .int .i64 (s : Int)] u fun e w' => e = .returned (.int .i64 (r : Int)) ∧ Below u.heap.size u w') := Lib.hid (fun u hu => distance_is b N me d s r hN hm hs hr u (belowW hu h0) (belowW hu h1))
  have HTR : Hid (Calls Try.prog 84 #[.pointer (some ⟨b, 0, none⟩), .pointer (some ⟨b, off, none⟩), .int .u8 (d : Int), .int .i64 (s : Int)] w fun e w' => e = .returned (.agg (t.at r d s).l.toArray) ∧ Below w.heap.size w w') := Lib.hid (track_is b off N me t d s r hN hm hd hs hr w h0 h1 hT)
  have HTN := Lib.hid (hT.n d hd).1
  have HTL := Lib.hid (hT.nl d hd).f
  have HLT := Lib.hid hT.lt
  obtain ⟨i0, hi0, hz0, hz1, hz2⟩ := info_parts infoRow
  have HI := Lib.hid hi0
  have HZ0 := Lib.hid hz0
  have HZ1 := Lib.hid hz1
  have HZ2 := Lib.hid hz2
  have HBS := Lib.hid (fun (u : World) (X : Rw) => run_bsl_one (P := Try.prog) u 32 54 i0 (roL false ceN none 0 0) 57 elemRows HI.out HZ0.out HZ1.out (roL_len _ _ _ _ _) (by decide) (by decide) X.l X.l_len)
  clear hr h0 h1 hT hi0 hz0 hz1 hz2
  go_enter Try.func99, Try.ntmps99
  go_upto_region 2 with (first
    | (go_at_call 84; (with_reducible refine HTR.out.mono ?_); rintro e U ⟨rfl, q1⟩; have HU0 := Lib.hid q1; clear q1)
    | (refine wpList_bsl rfl 32 1 _ rfl #[(0, .agg (t.at r d s).l.toArray)] (by simp [Act.eval, Act.put]) _ _ (HBS.out _ (t.at r d s)) ?_))
  refine wp_at (fun V => Blk V U.heap.size 54 (t.at r d s).l.toArray ∧ Below w.heap.size w V) ⟨Blk.new U _ _, below_then HU0.out (below_al (Below.refl _ U) _)⟩ ?_
  have HG : Hid (w.heap.size ≤ U.heap.size) := Lib.hid HU0.out.size
  obtain ⟨g, hg⟩ : ∃ g, g = U.heap.size := ⟨_, rfl⟩
  rw [← hg] at HG
  rw [← hg]
  clear hg HU0 HTR
  rintro V ⟨v1, v2⟩
  have HV1 := Lib.hid v1
  have HV2 := Lib.hid v2
  clear v1 v2
  by_cases h2 : 2 ≤ r
  · have e2 : decide ((2 : Int) ≤ (r : Int)) = true := decide_eq_true (by omega)
    have HCN : Hid (copN r = 2 ∧ copL t r d s = (t.at r d s).l ++ (t.nR d s).l) := Lib.hid ⟨by rw [copN, if_pos h2], by rw [copL, if_pos h2]⟩
    have hiw := fun W => idxWay b (off + 1) d hd W
    obtain ⟨gb, go, hA, hgb, hcs⟩ := HTL.out (by omega)
    have HX := Lib.hid (And.intro hgb (hcs s hs))
    have hix := fun W => idxRows (A := t.nA d) (n := N) (t.nc d) hA hs W
    clear hcs hA hgb
    go_wp2_with (first
      | (go_at_call 98; (with_reducible refine (HD.out _ HV2.out).mono ?_); rintro e V2 ⟨rfl, q1⟩; have HB2 := Lib.hid (below_then HV2.out q1); have HG2 := Lib.hid (HV1.out.on q1); have c1 := belowW HB2.out HTN.out; have lb := cell_ltT c1; have lg : gb < V2.heap.size := Nat.lt_of_lt_of_le HX.out.1 HB2.out.size; have HRG : Hid (V2.rangeAt gb (go + s * 57) (t.nR d s).l) := Lib.hid (fun j v hv => (HB2.out.cell (p := ⟨gb, _, none⟩) HX.out.1).trans (HX.out.2 j v hv)); clear q1)
      | (refine wpList_load_mid rfl 54 (.tmp 30) rfl gb (go + s * 57) (by simp [Act.eval, Act.put]) (t.nR d s).l _ HRG.out Try.underlying54 rfl (by rw [size_row, Rw.l_len]) ?_)
      | (refine wpList_bsl rfl 32 1 _ rfl #[(0, .agg (t.nR d s).l.toArray)] (by simp [Act.eval, Act.put]) _ _ (HBS.out _ (t.nR d s)) ?_)
      | (at_builtin; refine wpList_append_G rfl (.tmp 21) (.tmp 32) 32 rfl w.heap.size 54 i0 _ 57 160 elemRows HI.out HZ0.out HZ1.out HZ2.out (by simp [Value.cells, roL_len]) (by decide) (some ⟨g, 0, none⟩) 1 1 (t.at r d s).l (by simp [Act.eval, Act.put]) ((HG2.out.on (below_al (Below.refl _ V2) _)).ownsB HG.out (Rw.l_len _) (by decide)) V2.heap.size 1 1 (t.nR d s).l (by simp [Act.eval, Act.put]) (Blk.new V2 54 (t.nR d s).l.toArray) (Rw.l_len _) (roL_one _ _ _ _ _) (by decide) (by decide) (by decide) (Nat.le_trans HB2.out.size (by simp)) ?_; intro A2 c2 w2 hO2 hb2 hk2; have HO2 := Lib.hid hO2; have Hb2 := Lib.hid hb2; clear hO2 hb2 hk2))
    go_ret
    refine ⟨A2, c2, congrArg (fun n => Ending.returned (.slice A2 n c2)) HCN.out.1.symm, ?_, (below_then HB2.out (below_al (Below.refl _ V2) _)).trans Hb2.out⟩
    rw [HCN.out.1, HCN.out.2]
    exact HO2.out
  · have e2 : decide ((2 : Int) ≤ (r : Int)) = false := decide_eq_false (by omega)
    have HCN : Hid (copN r = 1 ∧ copL t r d s = (t.at r d s).l) := Lib.hid ⟨by rw [copN, if_neg h2], by rw [copL, if_neg h2, List.append_nil]⟩
    go_wp2_with (go_at_call 98; (with_reducible refine (HD.out _ HV2.out).mono ?_); rintro e V2 ⟨rfl, q1⟩; have HB2 := Lib.hid (below_then HV2.out q1); have HG2 := Lib.hid (HV1.out.on q1); clear q1)
    go_ret
    refine ⟨some ⟨g, 0, none⟩, 1, congrArg (fun n => Ending.returned (.slice (some ⟨g, 0, none⟩) n 1)) HCN.out.1.symm, ?_, HB2.out⟩
    rw [HCN.out.1, HCN.out.2]
    exact HG2.out.ownsB HG.out (Rw.l_len _) (by decide)
end Go.Proofs.Ytcangipaoancnaa

namespace Go.Proofs.Ytcangipaoancnaa
open Go.RowKit
set_option linter.unusedVariables false
set_option linter.unusedSimpArgs false

section
variable {P : Program} {w w' : World} {base e size : Nat}
/-- A block of cells stays while what turns is none. -/
theorem Blk.grown {w w' : World} {g : Nat} {t : TypeId} {cs : Array Value} {row : Option Nat} (h : Blk w g t cs) (hg : w.grownBy w' row) (hr : ∀ r, row = some r → ∃ o : Obj, w.heap[r]? = some o ∧ o.isCells = false) : Blk w' g t cs := by
  refine (hg.block g h.lt fun e => ?_).trans h
  obtain ⟨o, ho, hc⟩ := hr g e.symm
  have h' : w.heap[g]? = some (.cells cs t (0, 0)) := h
  rw [h'] at ho
  cases ho
  cases hc
theorem ownsRow_grown {w w' : World} {base size n : Nat} {e : TypeId} {v : Value} {xs : List Value} {row : Option Nat} (h : w.ownsRow base e size v n xs) (hg : w.grownBy w' row) (hr : ∀ r, row = some r → ∃ o : Obj, w.heap[r]? = some o ∧ o.isCells = false) : w'.ownsRow base e size v n xs := by
  refine ⟨h.1, ?_⟩
  rcases h.2 with h0 | ⟨g, cap, cur, hv, hb, hh, h1⟩
  · exact .inl h0
  · exact .inr ⟨g, cap, cur, hv, hb, Blk.grown (t := e) (cs := cur) hh hg hr, h1⟩
/-- It stays, too, while its own block does. -/
theorem ownsRow_blk {w w' : World} {base size n : Nat} {e : TypeId} {v : Value} {xs : List Value} (h : w.ownsRow base e size v n xs) (hk : ∀ g, v.ownBlock = some g → w'.heap[g]? = w.heap[g]?) : w'.ownsRow base e size v n xs := by
  refine ⟨h.1, ?_⟩
  rcases h.2 with h0 | ⟨g, cap, cur, hv, hb, hh, h1⟩
  · exact .inl h0
  · exact .inr ⟨g, cap, cur, hv, hb, (hk g (by rw [hv]; rfl)).trans hh, h1⟩
end
/-- N lists of rows, each of a block of its own, from base on; their headers lie in block G. -/
structure Cps (w : World) (base G N : Nat) (V : Nat → Value) (m : Nat → Nat) (X : Nat → List Value) : Prop where
  g : Blk w G 32 ((List.range N).map V).toArray
  o : ∀ s, s < N → w.ownsRow base 54 57 (V s) (m s) (X s)
  d : ∀ s s' q, s < N → s' < N → (V s).ownBlock = some q → (V s').ownBlock = some q → s = s'
theorem Cps.grown {w w' : World} {base G N : Nat} {V : Nat → Value} {m : Nat → Nat} {X : Nat → List Value} {row : Option Nat} (h : Cps w base G N V m X) (hg : w.grownBy w' row) (hr : ∀ r, row = some r → ∃ o : Obj, w.heap[r]? = some o ∧ o.isCells = false) : Cps w' base G N V m X :=
  ⟨h.g.grown hg hr, fun s hs => ownsRow_grown (h.o s hs) hg hr, h.d⟩
theorem Cps.on {w w' : World} {base G N : Nat} {V : Nat → Value} {m : Nat → Nat} {X : Nat → List Value} (h : Cps w base G N V m X) (hb : Below w.heap.size w w') : Cps w' base G N V m X :=
  ⟨h.g.on hb, fun s hs => ownsRow_blk (h.o s hs) fun g hg => by
    rcases (h.o s hs).2 with ⟨hv, _⟩ | ⟨g', cap, cur, hv, _, hh, _⟩
    · rw [hv] at hg; cases hg
    · rw [hv] at hg
      obtain rfl : g' = g := by injection hg
      exact hb.block g' (Blk.lt (t := 54) (cs := cur) hh), h.d⟩
/-- One of the lists has grown: its header's value is still to be stored. -/
theorem Cps.grow {w w' : World} {base G N : Nat} {V : Nat → Value} {m : Nat → Nat} {X : Nat → List Value} (h : Cps w base G N V m X) {s n' : Nat} {v' : Value} {xs : List Value} (hs : s < N) (hg : w.grownBy w' (V s).ownBlock) (ho : w'.ownsRow base 54 57 v' n' xs) (hv : v'.ownBlock = (V s).ownBlock ∨ v'.ownBlock = some w.heap.size) :
    Cps (w'.setCell ⟨G, s, none⟩ v') base G N (fun i => if i = s then v' else V i) (fun i => if i = s then n' else m i) (fun i => if i = s then xs else X i) := by
  have hlt : ∀ i, i < N → ∀ q, (V i).ownBlock = some q → q < w.heap.size ∧ q ≠ G := fun i hi q hq => by
    rcases (h.o i hi).2 with ⟨hv, _⟩ | ⟨g', cap, cur, hv, _, hh, _⟩
    · rw [hv] at hq; cases hq
    · rw [hv] at hq
      obtain rfl : g' = q := by injection hq
      exact ⟨Blk.lt (t := 54) (cs := cur) hh, Blk.ne (t' := 32) (cs := cur) hh h.g (by decide)⟩
  have hG : Blk w' G 32 ((List.range N).map V).toArray := (hg.block G h.g.lt fun e => (hlt s hs G e.symm).2 rfl).trans h.g
  have hb2 : ∀ k, k ≠ G → (w'.setCell ⟨G, s, none⟩ v').heap[k]? = w'.heap[k]? := fun k hk => by
    by_cases hkl : k < w'.heap.size
    · exact (But.one (u := w') (g := G) s v').2 k hkl hk
    · rw [Array.getElem?_eq_none (by simp; omega), Array.getElem?_eq_none (by omega)]
  have hv' : ∀ q, v'.ownBlock = some q → q ≠ G := fun q hq => by
    rcases hv with e | e
    · exact (hlt s hs q (e ▸ hq)).2
    · rw [e] at hq
      have := h.g.lt
      injection hq
      omega
  refine ⟨?_, fun i hi => ?_, fun i i' q hi hi' h1 h2 => ?_⟩
  · have hset := Blk.set_ hG s v'
    have e : ((List.range N).map V).toArray.setIfInBounds s v' = ((List.range N).map (fun i => if i = s then v' else V i)).toArray := by
      apply Array.ext
      · simp
      · intro i h1 h2
        simp only [Array.size_setIfInBounds, List.size_toArray, List.length_map, List.length_range] at h1
        by_cases e : s = i
        · subst e; simp
        · simp [Array.getElem_setIfInBounds, e, Ne.symm e]
    rw [e] at hset
    exact hset
  · by_cases e : i = s
    · subst e
      simp only [if_true]
      exact ownsRow_blk ho fun q hq => hb2 q (hv' q hq)
    · simp only [e, if_false]
      have h1 : w'.ownsRow base 54 57 (V i) (m i) (X i) := (h.o i hi).kept hg (by
        cases hq : (V i).ownBlock with
        | none => exact .inl rfl
        | some q => exact .inr fun e2 => e (h.d i s q hi hs hq e2.symm))
      exact ownsRow_blk h1 fun q hq => hb2 q (hlt i hi q hq).2
  · by_cases e : i = s
    · by_cases e' : i' = s
      · rw [e, e']
      · exfalso
        simp only [e, if_true] at h1
        simp only [e', if_false] at h2
        rcases hv with e3 | e3
        · exact e' (h.d i' s q hi' hs h2 (e3 ▸ h1))
        · rw [e3] at h1
          have := (hlt i' hi' q h2).1
          injection h1
          omega
    · by_cases e' : i' = s
      · exfalso
        simp only [e, if_false] at h1
        simp only [e', if_true] at h2
        rcases hv with e3 | e3
        · exact e (h.d i s q hi hs h1 (e3 ▸ h2))
        · rw [e3] at h2
          have := (hlt i hi q h1).1
          injection h2
          omega
      · simp only [e, if_false] at h1
        simp only [e', if_false] at h2
        exact h.d i i' q hi hi' h1 h2
end Go.Proofs.Ytcangipaoancnaa

namespace Go.Proofs.Ytcangipaoancnaa
open Go.RowKit
set_option linter.unusedVariables false
set_option linter.unusedSimpArgs false

/-- Operations 5 (the list is read), 10 (the call, into slot 41), 11 (append, into slot 42), 13 (the store). -/
def PhM (S0 : World → Prop) (S1 S2 : Value → World → Prop) (S3 : World → Prop) (f : Nat → Bool) (x : Nat → Value) (w : World) : Prop :=
  (f 13 = true → f 11 = true) ∧ (f 11 = true → f 10 = true ∧ f 5 = true) ∧ (if f 13 = true then S3 w else if f 11 = true then S2 (x 42) w else if f 10 = true then S1 (x 41) w else S0 w)
section
variable {S0 : World → Prop} {S1 S2 : Value → World → Prop} {S3 : World → Prop} {f : Nat → Bool} {x : Nat → Value} {w : World}
theorem ph_cong (f g : Nat → Bool) (x y : Nat → Value) (w : World) (h : ∀ k, k ∈ [5, 10, 11, 13] → f k = g k) (hd : ∀ d, d ∈ [41, 42] → x d = y d) (hM : PhM S0 S1 S2 S3 f x w) : PhM S0 S1 S2 S3 g y w := by
  unfold PhM at hM ⊢
  rw [← h 5 (by decide), ← h 10 (by decide), ← h 11 (by decide), ← h 13 (by decide), ← hd 41 (by decide), ← hd 42 (by decide)]
  exact hM
theorem ph_0 (h : S0 w) (x : Nat → Value) : PhM S0 S1 S2 S3 (fun _ => false) x w := ⟨fun h => (by cases h), fun h => (by cases h), by simpa using h⟩
theorem ph_any {T : World → Prop} (h0 : ∀ w, S0 w → T w) (h1 : ∀ v w, S1 v w → T w) (h2 : ∀ v w, S2 v w → T w) (h3 : ∀ w, S3 w → T w) (hM : PhM S0 S1 S2 S3 f x w) : T w := by
  obtain ⟨_, _, h⟩ := hM
  split at h
  · exact h3 _ h
  · split at h
    · exact h2 _ _ h
    · split at h
      · exact h1 _ _ h
      · exact h0 _ h
theorem ph_5 (hM : PhM S0 S1 S2 S3 f x w) (h : f 5 = false) {T : World → Prop} (h0 : ∀ w, S0 w → T w) (h1 : ∀ v w, S1 v w → T w) : T w ∧ ∀ v, PhM S0 S1 S2 S3 (Reg.mark f 5) (Reg.updO x (some 36) v) w := by
  obtain ⟨q1, q2, q3⟩ := hM
  have h11 : f 11 = false := by
    cases e : f 11 with
    | false => rfl
    | true => have := (q2 e).2; rw [h] at this; cases this
  have h13 : f 13 = false := by
    cases e : f 13 with
    | false => rfl
    | true => have := q1 e; rw [h11] at this; cases this
  rw [h13, h11] at q3
  simp only [Bool.false_eq_true, if_false] at q3
  refine ⟨?_, fun v => ⟨fun e => ?_, fun e => ?_, ?_⟩⟩
  · split at q3
    · exact h1 _ _ q3
    · exact h0 _ q3
  · simp [Reg.mark, h13] at e
  · simp [Reg.mark, h11] at e
  · simpa [Reg.mark, h13, h11, Reg.updO, Reg.upd] using q3
theorem ph_10 (hM : PhM S0 S1 S2 S3 f x w) (h : f 10 = false) : S0 w ∧ ∀ v w', S1 v w' → PhM S0 S1 S2 S3 (Reg.mark f 10) (Reg.updO x (some 41) v) w' := by
  obtain ⟨q1, q2, q3⟩ := hM
  have h11 : f 11 = false := by
    cases e : f 11 with
    | false => rfl
    | true => have := (q2 e).1; rw [h] at this; cases this
  have h13 : f 13 = false := by
    cases e : f 13 with
    | false => rfl
    | true => have := q1 e; rw [h11] at this; cases this
  rw [h13, h11, h] at q3
  simp only [Bool.false_eq_true, if_false] at q3
  refine ⟨q3, fun v w' hs => ⟨fun e => ?_, fun e => ?_, ?_⟩⟩
  · simp [Reg.mark, h13] at e
  · simp [Reg.mark, h11] at e
  · simpa [Reg.mark, h13, h11, Reg.updO, Reg.upd] using hs
theorem ph_11 (hM : PhM S0 S1 S2 S3 f x w) (h : f 11 = false) (h10 : f 10 = true) (h5 : f 5 = true) : S1 (x 41) w ∧ ∀ v w', S2 v w' → PhM S0 S1 S2 S3 (Reg.mark f 11) (Reg.updO x (some 42) v) w' := by
  obtain ⟨q1, q2, q3⟩ := hM
  have h13 : f 13 = false := by
    cases e : f 13 with
    | false => rfl
    | true => have := q1 e; rw [h] at this; cases this
  rw [h13, h, h10] at q3
  simp only [Bool.false_eq_true, if_false, if_true] at q3
  refine ⟨q3, fun v w' hs => ⟨fun e => ?_, fun e => ?_, ?_⟩⟩
  · simp [Reg.mark, h13] at e
  · simp [Reg.mark, h10, h5]
  · simpa [Reg.mark, h13, Reg.updO, Reg.upd] using hs
theorem ph_13 (hM : PhM S0 S1 S2 S3 f x w) (h : f 13 = false) (h11 : f 11 = true) : S2 (x 42) w ∧ ∀ v w', S3 w' → PhM S0 S1 S2 S3 (Reg.mark f 13) (Reg.updO x none v) w' := by
  obtain ⟨q1, q2, q3⟩ := hM
  rw [h, h11] at q3
  simp only [Bool.false_eq_true, if_false, if_true] at q3
  refine ⟨q3, fun v w' hs => ⟨fun e => ?_, fun e => ?_, ?_⟩⟩
  · simp [Reg.mark, h11]
  · simpa [Reg.mark] using q2 h11
  · simpa [Reg.mark] using hs
theorem ph_end (hM : PhM S0 S1 S2 S3 (fun _ => true) x w) : S3 w := by
  obtain ⟨_, _, h⟩ := hM
  simpa using h
end
/-- append as one step of a region inside a fence, its run known ahead. -/
theorem step_append_runI {F : Fence} {n : Nat} {P : Program} {ops : Array Oper} {o : Oper} {a : Act} {w : World} {K : Act → World → Prop} {Q : Exit → Act → World → Prop} {E : Prop} (hgd : o.guard = none) (s x : Operand) (t ty : TypeId)
    (ho : o.op = .call { callee := .builtin .append, args := #[s, x], argTypes := #[t, t] }) (hty : o.type = ty) (v1 v2 v : Value) (w' : World) (hs : a.eval s = v1) (hx : a.eval x = v2) (hrun : (Builtin.append_ #[t, t] ty #[v1, v2]).run P w = .ok v w')
    (h : K (a.put o.dst v) w') : if Region.wanted o (yielded ops a.tmps) = true then Oper.wpIn F n P o a w K Q else E := by
  have hw : Region.wanted o (yielded ops a.tmps) = true := by simp [Region.wanted, hgd]
  rw [if_pos hw]
  subst hty
  unfold Oper.wpIn
  refine ⟨by simp [Oper.about, ho, resolve, Target.leads, Sem.run_pure], ?_⟩
  rw [Oper.semAt_plain F _ _ (by rw [ho]; intro c hc'; cases hc')]
  simp [execOp, ho, resolve, invoke, builtin, hs, hx, hrun, Result.andThen]
  exact h
theorem ownsRow_base {w : World} {base base' size n : Nat} {e : TypeId} {v : Value} {xs : List Value} (h : w.ownsRow base e size v n xs) (hb : base' ≤ base) : w.ownsRow base' e size v n xs := by
  refine ⟨h.1, ?_⟩
  rcases h.2 with h0 | ⟨g, cap, cur, hv, hg, r⟩
  · exact .inl h0
  · exact .inr ⟨g, cap, cur, hv, Nat.le_trans hb hg, r⟩
theorem Cps.base {w : World} {base base' G N : Nat} {V : Nat → Value} {m : Nat → Nat} {X : Nat → List Value} (h : Cps w base G N V m X) (hb : base' ≤ base) : Cps w base' G N V m X := ⟨h.g, fun s hs => ownsRow_base (h.o s hs) hb, h.d⟩
/-- The headers' block stays while a list grows. -/
theorem Cps.head {w w' : World} {base G N : Nat} {V : Nat → Value} {m : Nat → Nat} {X : Nat → List Value} (h : Cps w base G N V m X) {s : Nat} (hs : s < N) (hg : w.grownBy w' (V s).ownBlock) : Blk w' G 32 ((List.range N).map V).toArray := by
  refine (hg.block G h.g.lt fun e => ?_).trans h.g
  rcases (h.o s hs).2 with ⟨hv, _⟩ | ⟨g', cap, cur, hv, _, hh, _⟩
  · rw [hv] at e; cases e
  · rw [hv] at e
    obtain rfl : G = g' := by injection e
    exact Blk.ne (t := 54) (t' := 32) (cs := cur) hh h.g (by decide) rfl
end Go.Proofs.Ytcangipaoancnaa

