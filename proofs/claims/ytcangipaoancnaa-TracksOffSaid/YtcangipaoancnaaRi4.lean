/-
  The ring: a tick of all ends. Conditions: the ring's reading.
-/
import Derived.Test.YtcangipaoancnaaRiR
import Derived.Test.YtcangipaoancnaaRi3
namespace Go.Proofs.Ytcangipaoancnaa
open Go.RowKit
set_option linter.unusedVariables false
set_option linter.unusedSimpArgs false

/-- Say's region, ahead of the call, behind it. -/
def SP0 (w : World) (B gr gl cl go N : Nat) (F : Fa) (VS : Value) (Tn : Nat) (S : Nat → Nat → Nat → Wo) (o : Nat → Bool) (L : Nat → Ln) (ow : Nat → Rw) (k : Nat) (A : Option Addr) (c : Nat) (L' : Nat → Ln) (Z : Nat → Nat → Wo) (g6 : Nat) (u : World) : Prop := SJ w B gr gl cl go N F VS Tn S o L ow k A c L' Z u ∧ PIn u g6 0 161 [] [] (wo4 fun _ => woN)
def SP1 (w : World) (B gr gl cl go N : Nat) (F : Fa) (VS : Value) (Tn : Nat) (S : Nat → Nat → Nat → Wo) (o : Nat → Bool) (L : Nat → Ln) (ow : Nat → Rw) (k : Nat) (A : Option Addr) (c : Nat) (L' : Nat → Ln) (Z : Nat → Nat → Wo) (g6 : Nat) (v : Value) (u : World) : Prop := ∃ Y C D t R, v = .tuple #[.agg #[Wo.v C], .agg #[Wo.v D]] ∧ SJ w B gr gl cl go N F VS Tn S o L ow k A c (updL L' k Y) Z u ∧ Y.b = (L' k).b ∧ Said1 u N k (L' k) Y (ow k) C D t R ∧ PIn u g6 0 161 [] [] (wo4 fun _ => woN)
/-- What Say knows behind its first loop. -/
structure SO (w : World) (B gr gl cl go N : Nat) (F : Fa) (VS : Value) (Tn : Nat) (S : Nat → Nat → Nat → Wo) (o : Nat → Bool) (L : Nat → Ln) (ow : Nat → Rw) (gO : Nat) (L' : Nat → Ln) (Z W : Nat → Nat → Wo) (u : World) : Prop where
  r : RiS B u gr gl cl go N F VS L' o Tn S
  g : ∃ Zt, Blk u gO 161 (flL (fun i => wo4 (W i)) N ++ Zt).toArray
  lo : w.heap.size ≤ gO
  s : ∀ j, j < N → SStep u N j (o j) (L j) (L' j) (ow j) (Z j)
  sw : ∀ j q, j < N → q < 4 → SW B u (W j q)
  kr : KR B w u
  kt : KeptBut w u [138]
section
variable {w u v : World} {B gr gl cl go N Tn gO : Nat} {F : Fa} {VS : Value} {S : Nat → Nat → Nat → Wo} {o : Nat → Bool} {L L' : Nat → Ln} {ow : Nat → Rw} {Z W : Nat → Nat → Wo}
theorem SO.up (h : SO w B gr gl cl go N F VS Tn S o L ow gO L' Z W u) (b : Below u.heap.size u v) : SO w B gr gl cl go N F VS Tn S o L ow gO L' Z W v := by
  have kr := KR.below h.r.B.2.2.2 b
  obtain ⟨Zt, q⟩ := h.g
  exact ⟨h.r.on b, ⟨Zt, q.on b⟩, h.lo, fun j hj => (h.s j hj).kr kr, fun j q a b => (h.sw j q a b).on kr, h.kr.trans kr, fun g t cs ht hB => (h.kt g t cs ht hB).on b⟩
theorem SO.box {g : Nat} {t : TypeId} (h : SO w B gr gl cl go N F VS Tn S o L ow gO L' Z W u) (hg : w.heap.size ≤ g) (hB : B ≤ w.heap.size) (q : ∃ cs, Blk u g t cs) (b : But g u v) (ht : t ≠ 158 ∧ t ≠ 25 ∧ t ≠ 4 ∧ t ≠ 138 ∧ t ≠ 160 ∧ t ≠ 161) (h1 : t ≠ 54) (h2 : t ≠ 102) : SO w B gr gl cl go N F VS Tn S o L ow gO L' Z W v := by
  obtain ⟨cs, q⟩ := q
  obtain ⟨Zt, p⟩ := h.g
  have kr := KR.but q b (by omega : B ≤ g) h1 h2
  refine ⟨h.r.kept (b.kept q) kr (fun t' m => by simp at m; subst m; exact ht), ⟨Zt, b.blk p (p.ne q (Ne.symm ht.2.2.2.2.2))⟩, h.lo, fun j hj => (h.s j hj).kr kr, fun j q a b => (h.sw j q a b).on kr, h.kr.trans kr, fun x t' cs' ht' hx => ?_⟩
  have := hx.lt
  exact b.blk (h.kt x t' cs' ht' hx) (by omega)
/-- One word is another one. -/
theorem SO.set {i q : Nat} {X : Wo} (h : SO w B gr gl cl go N F VS Tn S o L ow gO L' Z W u) (hs : SentS B w VS N Tn S) (hB : B ≤ w.heap.size) (hi : i < N) (hq : q < 4) (hX : SW B u X) :
    ∃ A Zt, PIn u gO (i * 4 + q) 161 A Zt [(W i q).v] ∧ ∀ v, PIn v gO (i * 4 + q) 161 A Zt [X.v] → But gO u v → SO w B gr gl cl go N F VS Tn S o L ow gO L' Z (updZ W i (fun p => if p = q then X else W i p)) v := by
  obtain ⟨Zt, p⟩ := h.g
  have e4 : wo4 (W i) = (wo4 (W i)).take q ++ ([(W i q).v] ++ (wo4 (W i)).drop (q + 1)) := by
    rcases (show q = 0 ∨ q = 1 ∨ q = 2 ∨ q = 3 by omega) with rfl | rfl | rfl | rfl <;> rfl
  have lt4 : ((wo4 (W i)).take q).length = q := by rw [List.length_take, wo4_len]; omega
  refine ⟨flL (fun i => wo4 (W i)) i ++ (wo4 (W i)).take q, (wo4 (W i)).drop (q + 1) ++ (flL (fun j => wo4 (W (i + 1 + j))) (N - (i + 1)) ++ Zt), ⟨?_, by rw [List.length_append, flL_len (fun _ => wo4_len _), lt4]⟩, fun v hv b => ?_⟩
  · have p2 := p
    rw [flL_at _ hi] at p2
    conv at p2 => rw [e4]
    simpa only [List.append_assoc] using p2
  · have kr := KR.but p b (by have := h.lo; omega : B ≤ gO) (by decide) (by decide)
    have hb : Below w.heap.size u v := b.low h.lo
    have hsv : SentS B v VS N Tn S := hs.later (fun g ty cs e q => by
      have h1 := h.kt g ty cs (by rcases e with rfl | rfl <;> decide) q
      have hg := q.lt
      unfold Blk at h1 ⊢
      rw [hb.block g hg]; exact h1) (h.kr.trans kr)
    refine ⟨h.r.re (b.kept p) kr (fun t m => by simp at m; subst m; decide) hsv, ⟨Zt, ?_⟩, h.lo, fun j hj => (h.s j hj).kr kr, fun j p' hj hp => ?_, h.kr.trans kr, fun x t' cs' ht' hx => ?_⟩
    · have e5 : wo4 (fun p => if p = q then X else W i p) = (wo4 (W i)).take q ++ ([X.v] ++ (wo4 (W i)).drop (q + 1)) := by
        rcases (show q = 0 ∨ q = 1 ∨ q = 2 ∨ q = 3 by omega) with rfl | rfl | rfl | rfl <;> rfl
      rw [show flL (fun j => wo4 (updZ W i (fun p => if p = q then X else W i p) j)) N = flL (fun j => if j = i then wo4 (fun p => if p = q then X else W i p) else wo4 (W j)) N from flL_congr fun j _ => by unfold updZ; split <;> rfl, ← flL_upd (fun j => wo4 (W j)) i _ hi, e5]
      simpa only [List.append_assoc] using hv.blk
    · unfold updZ
      by_cases hji : j = i
      · rw [if_pos hji]
        by_cases hpq : p' = q
        · rw [if_pos hpq]; exact hX.on kr
        · rw [if_neg hpq]; exact (h.sw i p' hi hp).on kr
      · rw [if_neg hji]; exact (h.sw j p' hj hp).on kr
    · have := hx.lt
      have := h.lo
      exact b.blk (h.kt x t' cs' ht' hx) (by omega)
theorem SO.at {i q : Nat} (h : SO w B gr gl cl go N F VS Tn S o L ow gO L' Z W u) (hi : i < N) (hq : q < 4) : u.rangeAt gO (i * 4 + q) [(W i q).v] := fun j v hv => by
  obtain ⟨Zt, p⟩ := h.g
  have hj : j = 0 := by have := (List.getElem?_eq_some_iff.1 hv).1; simp at this; exact this
  subst hj
  have hv2 : (W i q).v = v := by simpa using hv
  have h4 : i * 4 + q < N * 4 := by have : i * 4 + 4 ≤ N * 4 := by rw [← Nat.succ_mul]; exact Nat.mul_le_mul_right _ hi
                                    omega
  rw [Nat.add_zero, p.cell, List.getElem?_toArray, List.getElem?_append_left (by rw [flL_len (fun _ => wo4_len _)]; exact h4), flL_get (f := fun i => wo4 (W i)) (fun _ => wo4_len _) hi q hq, wo4_at _ hq, hv2]
theorem out_blk {lo n p : Nat} {A : Option Addr} {f : Nat → List Value} (h : u.ownsRow lo 161 4 (.slice A n p) n (flL f n)) (h0 : 0 < n) : ∃ g, ∃ Z : List Value, A = some ⟨g, 0, none⟩ ∧ lo ≤ g ∧ Blk u g 161 (flL f n ++ Z).toArray := by
  rcases h.2 with ⟨_, h0'⟩ | ⟨g, cap, cur, hv, hb, hh, hnc, _, hcs, htk⟩
  · omega
  · injection hv with hA _ hp
    refine ⟨g, cur.toList.drop (n * 4), hA, hb, ?_⟩
    rw [← htk, List.take_append_drop]
    exact hh
end
set_option maxRecDepth 100000 in
theorem run_bsl_out (A : Option Addr) (n p : Nat) (u : World) : (Instr.buildSlice 156 1 #[(0, .slice A n p)]).run Try.prog u = .ok (.slice (some ⟨u.heap.size, 0, none⟩) 1 1) (u.alloc (.cells #[.slice A n p] 160)) := by kernel_rfl
set_option maxRecDepth 100000 in
theorem infoOut : (Try.prog.info? 160).map (fun i => (i.zero, i.size, i.bytes)) = some (some (.slice none 0 0), 1, 24) := by kernel_rfl
/-- Behind Say. -/
structure SaidR (w : World) (B gr gl cl go N : Nat) (F : Fa) (VS : Value) (Tn : Nat) (S : Nat → Nat → Nat → Wo) (o : Nat → Bool) (L : Nat → Ln) (ow : Nat → Rw) (v : World) : Prop where
  x : ∃ (VS' : Value) (L' : Nat → Ln) (Z W : Nat → Nat → Wo), RiS B v gr gl cl go N F VS' L' o (Tn + 1) (fun t => if t = Tn then W else S t) ∧ (∀ j, j < N → SStep v N j (o j) (L j) (L' j) (ow j) (Z j)) ∧ ∀ j q, j < N → q < 4 → clB N j q F = true → W j q = Z j q
  kr : KR B w v
  kt : KeptBut w v [138, 158, 160]
theorem SO.fin {w u w2 : World} {B gr gl cl go N Tn gO c c2 cs0 : Nat} {F : Fa} {S : Nat → Nat → Nat → Wo} {o : Nat → Bool} {L L' : Nat → Ln} {ow : Nat → Rw} {Z W : Nat → Nat → Wo} {A0 A2 : Option Addr} {g0 p0 : Nat → Nat}
    (h : SO w B gr gl cl go N F (.slice A0 Tn cs0) Tn S o L ow gO L' Z W u) (hB : B ≤ w.heap.size) (h2 : ∀ t, t < Tn → ∃ Zt, Blk u (g0 t) 161 (flL (fun i => wo4 (S t i)) N ++ Zt).toArray) (b : Below B u w2) (k : KeptBut u w2 [160])
    (ho : w2.ownsRow B 160 1 (.slice A2 (Tn + 1) c2) (Tn + 1) (flL (fun t => [.slice (some ⟨g0 t, 0, none⟩) N (p0 t)]) Tn ++ [.slice (some ⟨gO, 0, none⟩) N c])) (hc : ∀ j p, j < N → p < 4 → clB N j p F = true → W j p = Z j p) :
    SaidR w B gr gl cl go N F (.slice A0 Tn cs0) Tn S o L ow (w2.setCell ⟨gr, 7, none⟩ (.slice A2 (Tn + 1) c2)) := by
  have hr2 := k _ _ _ (by decide) h.r.r
  have bb : But gr w2 (w2.setCell ⟨gr, 7, none⟩ (.slice A2 (Tn + 1) c2)) := But.one _ _
  have kr1 : KR B u w2 := KR.kept b k (by decide) (by decide)
  have kr2 : KR B w2 (w2.setCell ⟨gr, 7, none⟩ (.slice A2 (Tn + 1) c2)) := KR.but hr2 bb h.r.B.1 (by decide) (by decide)
  have kr := kr1.trans kr2
  have kg : KeptBut w2 (w2.setCell ⟨gr, 7, none⟩ (.slice A2 (Tn + 1) c2)) [158] := bb.kept hr2
  have kk : KeptBut u (w2.setCell ⟨gr, 7, none⟩ (.slice A2 (Tn + 1) c2)) [160, 158] := fun g t cs ht hX => kg g t cs (fun m => ht (by simp at m ⊢; exact .inr m)) (k g t cs (fun m => ht (by simp at m ⊢; exact .inl m)) hX)
  obtain ⟨Zp, hp⟩ := h.r.p
  obtain ⟨Zt, hg⟩ := h.g
  obtain ⟨b1, b2, b3, b4⟩ := h.r.B
  refine ⟨⟨.slice A2 (Tn + 1) c2, L', Z, W, ⟨?_, ⟨Zp, kk _ _ _ (by decide) hp⟩, kk _ _ _ (by decide) h.r.o, fun i hi => (h.r.l i hi).kept kr kk (by decide), h.r.d, h.r.lo, ⟨⟨A2, c2, fun t => if t = Tn then gO else g0 t, fun t => if t = Tn then c else p0 t, rfl, ?_, fun t ht => ?_⟩, fun t i q ht hi hq => ?_⟩, b1, b2, b3, Nat.le_trans b4 kr.b.size⟩, fun j hj => (h.s j hj).kr kr, hc⟩, h.kr.trans kr, fun g t cs ht hX => kk g t cs (fun m => ht (by simp at m ⊢; rcases m with m | m <;> simp [m])) (h.kt g t cs (fun m => ht (by simp at m ⊢; exact .inl m)) hX)⟩
  · have hP : PIn w2 gr 0 158 [] [] (rgL N F (.slice (some ⟨gl, 0, none⟩) N cl) (.slice (some ⟨go, 0, none⟩) N N) (.slice A0 Tn cs0)) := Blk.pin hr2
    have h3 := (hP.set_ 7 (.slice A2 (Tn + 1) c2) (by show 7 < 8; decide)).blk_
    rw [Nat.zero_add] at h3
    exact h3
  · rw [flL_succ, show flL (fun t => [Value.slice (some ⟨if t = Tn then gO else g0 t, 0, none⟩) N (if t = Tn then c else p0 t)]) Tn = flL (fun t => [Value.slice (some ⟨g0 t, 0, none⟩) N (p0 t)]) Tn from flL_congr fun t ht => by show [Value.slice (some ⟨if t = Tn then gO else g0 t, 0, none⟩) N (if t = Tn then c else p0 t)] = _; rw [if_neg (by omega), if_neg (by omega)]]
    show World.ownsRow _ _ _ _ _ _ (flL _ Tn ++ [Value.slice (some ⟨if Tn = Tn then gO else g0 Tn, 0, none⟩) N (if Tn = Tn then c else p0 Tn)])
    rw [if_pos rfl, if_pos rfl]
    exact ownsF_kept ho kg (by decide)
  · by_cases e : t = Tn
    · refine ⟨Zt, ?_⟩
      simp only [e, if_true]
      exact kk _ _ _ (by decide) hg
    · obtain ⟨Z2, q⟩ := h2 t (by omega)
      refine ⟨Z2, ?_⟩
      simp only [e, if_false]
      exact kk _ _ _ (by decide) q
  · by_cases e : t = Tn
    · simp only [e, if_true]
      exact (h.sw i q hi hq).on kr
    · simp only [e, if_false]
      exact (h.r.s.s t i q (by omega) hi hq).on kr
def Reg.FactK.sw {B0 B : Nat} (N k q : Nat) (F : Fa) (x : Wo) : Reg.FactK (Reg.KJ B0 [] []) := ⟨fun v w => ∃ X : Wo, v = .agg #[X.v] ∧ B ≤ w.heap.size ∧ SW B w X ∧ (clB N k q F = true → X = x), fun _ _ w' hb h => by
  obtain ⟨X, e, h1, h2, h3⟩ := h
  exact ⟨X, e, Nat.le_trans h1 hb.size, h2.on (KR.below h1 hb.top), h3⟩⟩
set_option maxRecDepth 100000 in
set_option maxHeartbeats 16000000 in
theorem ring_say (B gr gl cl go N Tn : Nat) (ga : Addr) (F : Fa) (VS : Value) (L : Nat → Ln) (o : Nat → Bool) (S : Nat → Nat → Nat → Wo) (ow : Nat → Rw) (hN : 4 ≤ N ∧ N ≤ 16) (hT : Tn ≤ 900) (w : World) (hB : B ≤ w.heap.size) (h : RiS B w gr gl cl go N F VS L o Tn S) (hF : FaIn B w F) (ho : SR B w (some ga) N ow) (hnw : ∀ i, i < N → o i = true → ∃ t, (L i).nw = some t) :
    Calls Try.prog 34 #[.pointer (some ⟨gr, 0, none⟩), .slice (some ga) N N] w fun e v => e = .returned (.tuple #[]) ∧ SaidR w B gr gl cl go N F VS Tn S o L ow v := by
  obtain ⟨i0, hi0, hz0, hz1, hz2⟩ := info_parts infoW4
  have HI := Lib.hid hi0
  have HZ0 := Lib.hid hz0
  have HZ1 := Lib.hid hz1
  have HZ2 := Lib.hid hz2
  have HBB := Lib.hid hB
  have HSW := Lib.hid h.s
  have HFW := Lib.hid hF
  have HOW := Lib.hid ho
  have HNW := Lib.hid hnw
  have HBS4 := Lib.hid (fun (u : World) (X : Nat → Wo) => run_bsl_one (P := Try.prog) u 160 161 i0 (wo4 (fun _ => woN)) 4 elemOut HI.out HZ0.out HZ1.out (wo4_len _) (by decide) (by decide) (wo4 X) (wo4_len _))
  have HBW4 := Lib.hid (fun a b c d => built_w4 a b c d)
  have H0 : Hid (SJ w B gr gl cl go N F VS Tn S o L ow 0 none 0 L (fun _ _ => woN) w) := Lib.hid ⟨h, ownsF_nil, fun j hj => absurd hj (by omega), KR.refl _, fun _ _ _ _ h => h⟩
  have hga : ∃ ab ao, ga = ⟨ab, ao, none⟩ := by
    obtain ⟨ab, ao, e, _⟩ := ho.now.f (by omega)
    exact ⟨ab, ao, by injection e⟩
  obtain ⟨ab, ao, rfl⟩ := hga
  clear hi0 hz0 hz1 hz2 h hF ho hnw
  go_enter Try.func34, Try.ntmps34
  go_wp2_with fail
  go_loopw [4, 5] (fun sv iv wr => ∃ k : Nat, k ≤ N ∧ iv = .int .i64 (k : Int) ∧ ∃ (A : Option Addr) (c : Nat) (L' : Nat → Ln) (Z : Nat → Nat → Wo), sv = .slice A k c ∧ Hid (SJ w B gr gl cl go N F VS Tn S o L ow k A c L' Z wr) ∧ Hid (∀ j, k ≤ j → L' j = L j)) (fun _ iv _ => N - (intOf iv).toNat)
  case atStart => exact ⟨0, by omega, rfl, none, 0, L, _, rfl, H0, Lib.hid fun _ _ => rfl⟩
  case round =>
    clear H0
    obtain ⟨k, hk, rfl, A, c, L', Z, rfl, HJ0, HLL⟩ := hrel
    have c0 : wr.cell? ⟨gr, 0, none⟩ = some (.int .i64 (N : Int)) := HJ0.out.r.r.cell 0
    have l0 : gr < wr.heap.size := HJ0.out.r.r.lt
    by_cases hlt : k < N
    · have dk : decide ((k : Int) < (N : Int)) = true := decide_eq_true (by omega)
      go_upto_region 5 with fail
      refine wp_at (fun U => SJ w B gr gl cl go N F VS Tn S o L ow k A c L' Z U ∧ PIn U wr.heap.size 0 161 [] [] (wo4 fun _ => woN) ∧ w.heap.size ≤ wr.heap.size) ⟨HJ0.out.up (below_al (Below.refl _ wr) _), Blk.pin (L := wo4 fun _ => woN) (Blk.new wr _ _), HJ0.out.kr.b.size⟩ ?_
      obtain ⟨g6, hg6⟩ : ∃ g, g = wr.heap.size := ⟨_, rfl⟩
      have HNE : Hid (∀ g, A = some ⟨g, 0, none⟩ → g ≠ g6) := Lib.hid (fun g hg => by have := (ownsF_lt HJ0.out.h hg).2; omega)
      rw [← hg6]
      clear c0 l0 HJ0 hg6
      rintro V ⟨v1, v2, v3⟩
      have HV := Lib.hid v1
      have HP6 := Lib.hid v2
      have HG6 := Lib.hid v3
      have c6 := (v1.r.cells hlt).2.2.1
      have cgo := (v1.r.cells hlt).2.2.2.2
      have l0 := v1.r.lts.1
      have lgo := v1.r.lts.2.2
      clear v1 v2 v3
      have hix2 := fun W => idxTruths (A := some ⟨go, 0, none⟩) (n := N) N rfl hlt W
      simp only [Nat.zero_add] at hix2
      obtain ⟨b, hb⟩ : ∃ b, b = o k := ⟨_, rfl⟩
      rw [← hb] at cgo
      have HBK := Lib.hid hb
      clear hb
      cases b with
      | false =>
        go_upto_region 8 with fail
        clear c6 cgo l0 lgo hix2
        have HT : Hid (∃ (L1 : Nat → Ln) (X : Nat → Wo), SJ w B gr gl cl go N F VS Tn S o L ow k A c L1 Z V ∧ PIn V g6 0 161 [] [] (wo4 X) ∧ (∀ j, k + 1 ≤ j → L1 j = L j) ∧ SStep V N k (o k) (L k) (L1 k) (ow k) X) := Lib.hid ⟨L', _, HV.out, HP6.out, fun j hj => HLL.out j (by omega), ⟨fun _ => ⟨HLL.out k (Nat.le_refl _), rfl⟩, fun e => (by rw [← HBK.out] at e; cases e)⟩⟩
        obtain ⟨L1, X, x1, x2, x3, x4⟩ := HT.out
        have HJ1 := Lib.hid (x1.up (below_al (Below.refl V.heap.size V) (.cells (wo4 X).toArray 161)))
        have HL1 := Lib.hid x3
        have HSS := Lib.hid x4
        have HRX := Lib.hid x2.range
        have HNR := Lib.hid (Blk.new V 161 (wo4 X).toArray)
        have HSZ : Hid (w.heap.size ≤ V.heap.size + 1) := Lib.hid (by have := x1.kr.b.size; omega)
        have HBS := Lib.hid (HBS4.out V X)
        have HMX := Lib.hid (show k + 1 ≤ maxLen by unfold maxLen; omega)
        have HV0 : Hid (w.heap.size ≤ V.heap.size) := Lib.hid x1.kr.b.size
        clear x1 x2 x3 x4 HT HV HP6
        go_wp2_with (first
          | (refine wpList_load_mid rfl 161 (.tmp 6) rfl g6 0 (by simp [Act.eval, Act.put]) (wo4 X) _ HRX.out Try.underlying161 rfl (by rw [size_w4, wo4_len]) ?_)
          | (refine wpList_bsl rfl 160 1 _ rfl #[(0, .agg (wo4 X).toArray)] (by simp [Act.eval, Act.put]) _ _ HBS.out ?_)
          | (at_builtin; refine wpList_append_G rfl (.tmp 48) (.tmp 50) 160 rfl w.heap.size 161 i0 _ 4 96 elemOut HI.out HZ0.out HZ1.out HZ2.out rfl (by decide) A k c (flL (fun i => wo4 (Z i)) k) (by simp [Act.eval, Act.put]) HJ1.out.h V.heap.size 1 1 (wo4 X) (by simp [Act.eval, Act.put]) HNR.out rfl (wo4_one _) (by decide) HMX.out (by omega) (by simpa using HSZ.out) ?_; intro A2 c2 w2 hO2 hb2 hk2; have HO2 := Lib.hid hO2; have HB2 := Lib.hid hb2; have HK2 := Lib.hid hk2; clear hO2 hb2 hk2))
        go_roundw
        case rel => exact ⟨k + 1, by omega, by go_num, A2, c2, L1, updZ Z k X, rfl, Lib.hid (HJ1.out.app HSW.out HBB.out HB2.out HK2.out HO2.out (HSS.out.kr (KR.trans (KR.below (Nat.le_trans HBB.out HV0.out) (below_al (Below.refl V.heap.size V) (.cells (wo4 X).toArray 161))) (KR.kept (HB2.out.mono HBB.out) HK2.out (by decide) (by decide))))), HL1⟩
        case measure => simp [intOf]; omega
      | true =>
        go_upto_region 6 with fail
        clear c6 cgo l0 lgo hix2
        obtain ⟨bb, hbb⟩ : ∃ bb, bb = (L' k).b := ⟨_, rfl⟩
        have HQB := Lib.hid hbb
        clear hbb
        have HTT : Hid (∀ (L2 : Nat → Ln) (u : World), SJ w B gr gl cl go N F VS Tn S o L ow k A c L2 Z u → (L2 k).b = bb → u.cell? ⟨gr, 5, none⟩ = some (.slice (some ⟨gl, 0, none⟩) N cl) ∧ u.cell? ⟨gl, k, none⟩ = some (.pointer (some ⟨bb, 0, none⟩)) ∧ gr < u.heap.size ∧ gl < u.heap.size ∧ u.rangeAt ab (ao + k * 57) (ow k).l) := Lib.hid (fun L2 u h e => ⟨(h.r.cells hlt).2.1, by rw [← e]; exact (h.r.cells hlt).2.2.2.1, h.r.lts.1, h.r.lts.2.1, by
          obtain ⟨b', o', e', _, hc⟩ := (HOW.out u h.kr).f (by omega)
          injection e' with e'
          injection e' with e1 e2
          subst e1 e2
          exact hc k hlt⟩)
        have HHS : Hid (∀ u, SP0 w B gr gl cl go N F VS Tn S o L ow k A c L' Z g6 u → Calls Try.prog 23 #[.pointer (some ⟨bb, 0, none⟩), .agg (ow k).l.toArray] u fun e v => ∃ z, e = .returned z ∧ SP1 w B gr gl cl go N F VS Tn S o L ow k A c L' Z g6 z v ∧ KeptBut u v [138]) := Lib.hid (fun u hu => by
          obtain ⟨t, ht⟩ := HNW.out k hlt HBK.out.symm
          rw [HQB.out]
          refine (say_rg hu.1.r hlt (by rw [HLL.out k (Nat.le_refl _)]; exact ht) (fun v hv => (HOW.out v (hu.1.kr.trans hv)).t k hlt)).mono ?_
          rintro e v ⟨Y, C, D, R, e1, e2, e3, e4, e5⟩
          obtain ⟨cs, q⟩ := (hu.1.r.l k hlt).blk
          exact ⟨_, e1, ⟨Y, C, D, t, R, rfl, hu.1.lane hlt e4 e2 e3, e3, e5, hu.2.but e4 (hu.2.blk.ne q (by decide))⟩, e4.kept q⟩)
        have HG0 : Hid (∀ u u', Below u.heap.size u u' → SP0 w B gr gl cl go N F VS Tn S o L ow k A c L' Z g6 u → SP0 w B gr gl cl go N F VS Tn S o L ow k A c L' Z g6 u') := Lib.hid (fun u u' b h => ⟨h.1.up b, h.2.on b⟩)
        have HG1 : Hid (∀ v u u', Below u.heap.size u u' → SP1 w B gr gl cl go N F VS Tn S o L ow k A c L' Z g6 v u → SP1 w B gr gl cl go N F VS Tn S o L ow k A c L' Z g6 v u') := Lib.hid (fun v u u' b h => by
          obtain ⟨Y, C, D, t, R, e, h1, h2, h3, h4⟩ := h
          exact ⟨Y, C, D, t, R, e, h1.up b, h2, h3.kr (KR.below h1.r.B.2.2.2 b), h4.on b⟩)
        have HX0 : Hid (∀ g u u', w.heap.size ≤ g → (∃ cs, Blk u g 34 cs) → But g u u' → SP0 w B gr gl cl go N F VS Tn S o L ow k A c L' Z g6 u → SP0 w B gr gl cl go N F VS Tn S o L ow k A c L' Z g6 u') := Lib.hid (fun g u u' hg q b h => ⟨h.1.box hg HBB.out q b (by decide) (by decide) (by decide), by obtain ⟨cs, q⟩ := q; exact h.2.but b (h.2.blk.ne q (by decide))⟩)
        have HX1 : Hid (∀ v g u u', w.heap.size ≤ g → (∃ cs, Blk u g 34 cs) → But g u u' → SP1 w B gr gl cl go N F VS Tn S o L ow k A c L' Z g6 v u → SP1 w B gr gl cl go N F VS Tn S o L ow k A c L' Z g6 v u') := Lib.hid (fun v g u u' hg q b h => by
          obtain ⟨Y, C, D, t, R, e, h1, h2, h3, h4⟩ := h
          obtain ⟨cs, q'⟩ := q
          exact ⟨Y, C, D, t, R, e, h1.box hg HBB.out ⟨cs, q'⟩ b (by decide) (by decide) (by decide), h2, h3.kr (KR.but q' b (Nat.le_trans HBB.out hg) (by decide) (by decide)), h4.but b (h4.blk.ne q' (by decide))⟩)
        have HLZ : Hid (∀ u, SP0 w B gr gl cl go N F VS Tn S o L ow k A c L' Z g6 u → w.heap.size ≤ u.heap.size) := Lib.hid (fun u h => h.1.kr.b.size)
        have HLZ1 : Hid (∀ v u, SP1 w B gr gl cl go N F VS Tn S o L ow k A c L' Z g6 v u → w.heap.size ≤ u.heap.size) := Lib.hid (fun v u h => by obtain ⟨Y, C, D, t, R, e, h1, _⟩ := h; exact h1.kr.b.size)
        refine Reg.wp_marksY ?fr (fun tt => decide (28 ≤ tt) && decide (tt ≤ 42) || tt == 7 || tt == 8) (fun x => ?hf) [11, 12, 13, 14, 15, 16, 17, 18] [7, 8, 28, 40, 41, 42] (SM (SP0 w B gr gl cl go N F VS Tn S o L ow k A c L' Z g6) (SP1 w B gr gl cl go N F VS Tn S o L ow k A c L' Z g6) w.heap.size) SM.cong (SM.zero ⟨HV.out.up (Below.refl _ _).drew, HP6.out.on (Below.refl _ _).drew⟩ _) (by kernel_rfl) (by kernel_rfl) (by kernel_rfl) (by kernel_rfl) (by kernel_rfl) (fun zz => Reg.tblM [
          (29, fun v => v = .pointer (some ⟨gr, 0, none⟩)),
          (30, fun v => v = .pointer (some ⟨gr, 0, none⟩)),
          (31, fun v => v = .pointer (some ⟨gr, 5, none⟩)),
          (32, fun v => v = .slice (some ⟨gl, 0, none⟩) N cl),
          (33, fun v => v = .int .i64 (k : Int)),
          (34, fun v => v = .pointer (some ⟨gl, k, none⟩)),
          (35, fun v => v = .pointer (some ⟨bb, 0, none⟩)),
          (36, fun v => v = .slice (some ⟨ab, ao, none⟩) N N),
          (37, fun v => v = .int .i64 (k : Int)),
          (38, fun v => v = .pointer (some ⟨ab, ao + k * 57, none⟩)),
          (39, fun v => v = .agg (ow k).l.toArray),
          (40, fun v => True),
          (28, fun v => True),
          (41, fun v => True),
          (42, fun v => True),
          (7, fun v => True),
          (8, fun v => True)] zz) ?hs ?he
        case hf =>
          simp only [Reg.frame, Reg.over, Nat.reduceAdd, Nat.reduceBEq, Nat.reduceLeDiff, decide_true, decide_false, Bool.or_true, Bool.or_false, if_true, Bool.false_eq_true, if_false, Bool.and_true, Bool.and_false]
          exact rfl
        case hs =>
          refine ⟨?_, ?_, ?_, ?_, ?_, ?_, ?_, ?_, ?_, ?_, ?_, ?_, ?_, ?_, ?_, ?_, ?_, ?_, ?_, trivial⟩
          · intro y f u hM hfi hfd hd
            refine wpOp_step rfl fun KK hK => ?_
            go_simp
            exact hK _ _ ⟨_, rfl, fun h => absurd h (by decide), fun _ => rfl, fun d hd => by cases hd; exact rfl⟩
          · intro y f u hM hfi hfd hd
            have h29 : y 29 = .pointer (some ⟨gr, 0, none⟩) := hd 0 (by decide)
            obtain ⟨cr, cg, lr, lg, ho'⟩ := SM.any (T := fun u => u.cell? ⟨gr, 5, none⟩ = some (.slice (some ⟨gl, 0, none⟩) N cl) ∧ u.cell? ⟨gl, k, none⟩ = some (.pointer (some ⟨bb, 0, none⟩)) ∧ gr < u.heap.size ∧ gl < u.heap.size ∧ u.rangeAt ab (ao + k * 57) (ow k).l) (fun u q => HTT.out _ u q.1 HQB.out.symm) (fun v u q => by obtain ⟨Y, C, D, t, R, _, q1, q2, _⟩ := q; exact HTT.out _ u q1 (by rw [updL_self, q2]; exact HQB.out.symm)) hM
            refine wpOp_step rfl fun KK hK => ?_
            simp only [h29] at hK ⊢
            go_simp
            exact hK _ _ ⟨_, rfl, fun h => absurd h (by decide), fun _ => rfl, fun d hd => by cases hd; exact rfl⟩
          · intro y f u hM hfi hfd hd
            have h30 : y 30 = .pointer (some ⟨gr, 0, none⟩) := hd 1 (by decide)
            refine wpOp_step rfl fun KK hK => ?_
            simp only [h30] at hK ⊢
            go_simp
            exact hK _ _ ⟨_, rfl, fun h => absurd h (by decide), fun _ => rfl, fun d hd => by cases hd; exact rfl⟩
          · intro y f u hM hfi hfd hd
            have h31 : y 31 = .pointer (some ⟨gr, 5, none⟩) := hd 2 (by decide)
            obtain ⟨cr, cg, lr, lg, ho'⟩ := SM.any (T := fun u => u.cell? ⟨gr, 5, none⟩ = some (.slice (some ⟨gl, 0, none⟩) N cl) ∧ u.cell? ⟨gl, k, none⟩ = some (.pointer (some ⟨bb, 0, none⟩)) ∧ gr < u.heap.size ∧ gl < u.heap.size ∧ u.rangeAt ab (ao + k * 57) (ow k).l) (fun u q => HTT.out _ u q.1 HQB.out.symm) (fun v u q => by obtain ⟨Y, C, D, t, R, _, q1, q2, _⟩ := q; exact HTT.out _ u q1 (by rw [updL_self, q2]; exact HQB.out.symm)) hM
            refine wpOp_step rfl fun KK hK => ?_
            simp only [h31] at hK ⊢
            go_simp
            exact hK _ _ ⟨_, rfl, fun h => absurd h (by decide), fun _ => rfl, fun d hd => by cases hd; exact rfl⟩
          · intro y f u hM hfi hfd hd
            refine wpOp_step rfl fun KK hK => ?_
            go_simp
            exact hK _ _ ⟨_, rfl, fun h => absurd h (by decide), fun _ => rfl, fun d hd => by cases hd; exact rfl⟩
          · intro y f u hM hfi hfd hd
            have h32 : y 32 = .slice (some ⟨gl, 0, none⟩) N cl := hd 3 (by decide)
            have h33 : y 33 = .int .i64 (k : Int) := hd 4 (by decide)
            have hix := fun W => idxLanes (A := some ⟨gl, 0, none⟩) (n := N) cl rfl hlt W
            simp only [Nat.zero_add] at hix
            refine wpOp_step rfl fun KK hK => ?_
            simp only [h32, h33] at hK ⊢
            go_simp
            exact hK _ _ ⟨_, rfl, fun h => absurd h (by decide), fun _ => rfl, fun d hd => by cases hd; exact rfl⟩
          · intro y f u hM hfi hfd hd
            have h34 : y 34 = .pointer (some ⟨gl, k, none⟩) := hd 5 (by decide)
            obtain ⟨cr, cg, lr, lg, ho'⟩ := SM.any (T := fun u => u.cell? ⟨gr, 5, none⟩ = some (.slice (some ⟨gl, 0, none⟩) N cl) ∧ u.cell? ⟨gl, k, none⟩ = some (.pointer (some ⟨bb, 0, none⟩)) ∧ gr < u.heap.size ∧ gl < u.heap.size ∧ u.rangeAt ab (ao + k * 57) (ow k).l) (fun u q => HTT.out _ u q.1 HQB.out.symm) (fun v u q => by obtain ⟨Y, C, D, t, R, _, q1, q2, _⟩ := q; exact HTT.out _ u q1 (by rw [updL_self, q2]; exact HQB.out.symm)) hM
            refine wpOp_step rfl fun KK hK => ?_
            simp only [h34] at hK ⊢
            go_simp
            exact hK _ _ ⟨_, rfl, fun h => absurd h (by decide), fun _ => rfl, fun d hd => by cases hd; exact rfl⟩
          · intro y f u hM hfi hfd hd
            refine wpOp_step rfl fun KK hK => ?_
            go_simp
            exact hK _ _ ⟨_, rfl, fun h => absurd h (by decide), fun _ => rfl, fun d hd => by cases hd; exact rfl⟩
          · intro y f u hM hfi hfd hd
            refine wpOp_step rfl fun KK hK => ?_
            go_simp
            exact hK _ _ ⟨_, rfl, fun h => absurd h (by decide), fun _ => rfl, fun d hd => by cases hd; exact rfl⟩
          · intro y f u hM hfi hfd hd
            have h36 : y 36 = .slice (some ⟨ab, ao, none⟩) N N := hd 7 (by decide)
            have h37 : y 37 = .int .i64 (k : Int) := hd 8 (by decide)
            have hix := fun W => idxRows (A := some ⟨ab, ao, none⟩) (n := N) N rfl hlt W
            refine wpOp_step rfl fun KK hK => ?_
            simp only [h36, h37] at hK ⊢
            go_simp
            exact hK _ _ ⟨_, rfl, fun h => absurd h (by decide), fun _ => rfl, fun d hd => by cases hd; exact rfl⟩
          · intro y f u hM hfi hfd hd
            have h38 : y 38 = .pointer (some ⟨ab, ao + k * 57, none⟩) := hd 9 (by decide)
            obtain ⟨cr, cg, lr, lg, ho'⟩ := SM.any (T := fun u => u.cell? ⟨gr, 5, none⟩ = some (.slice (some ⟨gl, 0, none⟩) N cl) ∧ u.cell? ⟨gl, k, none⟩ = some (.pointer (some ⟨bb, 0, none⟩)) ∧ gr < u.heap.size ∧ gl < u.heap.size ∧ u.rangeAt ab (ao + k * 57) (ow k).l) (fun u q => HTT.out _ u q.1 HQB.out.symm) (fun v u q => by obtain ⟨Y, C, D, t, R, _, q1, q2, _⟩ := q; exact HTT.out _ u q1 (by rw [updL_self, q2]; exact HQB.out.symm)) hM
            refine wpOp_step rfl fun KK hK => ?_
            refine Reg.step_load_mid (by rfl) 54 (.tmp 38) (by rfl) ab (ao + k * 57) (by exact h38) (ow k).l ho' _ Try.underlying54 rfl (by rw [size_row, Rw.l_len]) ?_
            exact hK _ _ ⟨_, rfl, fun h => absurd h (by decide), fun _ => rfl, fun d hd => by cases hd; exact rfl⟩
          · intro y f u hM hfi hfd hd
            have h35 : y 35 = .pointer (some ⟨bb, 0, none⟩) := hd 6 (by decide)
            have h39 : y 39 = .agg (ow k).l.toArray := hd 10 (by decide)
            obtain ⟨hP, hM1⟩ := SM.call hM (hfi (by decide))
            refine wpOp_step rfl fun KK hK => ?_
            simp only [h35, h39] at hK ⊢
            go_simp
            (with_reducible refine (HHS.out _ hP).mono ?_)
            rintro e u' ⟨z, rfl, q1, q2⟩
            exact hK _ _ ⟨_, rfl, fun _ => hM1 _ u' q1 q2, fun h => absurd (by decide) h, fun d hd => by cases hd; exact trivial⟩
          · intro y f u hM hfi hfd hd
            have hM1 := SM.hand hM (hfi (by decide)) (hfd 11 (by decide))
            refine wpOp_step rfl fun KK hK => ?_
            go_simp
            exact hK _ _ ⟨_, rfl, fun _ => hM1, fun h => absurd (by decide) h, fun d hd => by cases hd; exact trivial⟩
          · intro y f u hM hfi hfd hd
            obtain ⟨Y, C, D, t, R, e40, _⟩ := hM.p1 (hM.d3 (hfd 12 (by decide))).1
            have h28 : y 28 = .tuple #[.agg #[Wo.v C], .agg #[Wo.v D]] := (hM.d3 (hfd 12 (by decide))).2.trans e40
            clear e40
            have hM1 := SM.take1 hM (hfi (by decide)) (hfd 12 (by decide)) h28
            refine wpOp_step rfl fun KK hK => ?_
            simp only [h28] at hK ⊢
            go_simp
            exact hK _ _ ⟨_, rfl, fun _ => hM1, fun h => absurd (by decide) h, fun d hd => by cases hd; exact trivial⟩
          · intro y f u hM hfi hfd hd
            obtain ⟨Y, C, D, t, R, e40, _⟩ := hM.p1 (hM.d3 (hfd 12 (by decide))).1
            have h28 : y 28 = .tuple #[.agg #[Wo.v C], .agg #[Wo.v D]] := (hM.d3 (hfd 12 (by decide))).2.trans e40
            clear e40
            have hM1 := SM.take2 hM (hfi (by decide)) (hfd 12 (by decide)) h28
            refine wpOp_step rfl fun KK hK => ?_
            simp only [h28] at hK ⊢
            go_simp
            exact hK _ _ ⟨_, rfl, fun _ => hM1, fun h => absurd (by decide) h, fun d hd => by cases hd; exact trivial⟩
          · intro y f u hM hfi hfd hd
            have hzn : ∀ Z : Array Value, Z.size = 1 → PIn (u.alloc (.cells Z 34)) u.heap.size 0 34 [] [] Z.toList ∧ Z.toList.length = 1 := fun Z hZ => ⟨Blk.pin (by simpa using Blk.new u 34 Z), by simpa using hZ⟩
            have hsz : w.heap.size ≤ u.heap.size := SM.any (T := fun u => w.heap.size ≤ u.heap.size) (fun u q => HLZ.out u q) (fun v u q => HLZ1.out v u q) hM
            refine wpOp_step rfl fun KK hK => ?_
            go_simp
            exact hK _ _ ⟨_, rfl, fun _ => SM.al7 hM (hfi (by decide)) HG0.out HG1.out (Nat.le_refl _) hsz (hzn _ rfl).2 (below_al (Below.refl _ u) _) (hzn _ rfl).1, fun h => absurd (by decide) h, fun d hd => by cases hd; exact trivial⟩
          · intro y f u hM hfi hfd hd
            have hzn : ∀ Z : Array Value, Z.size = 1 → PIn (u.alloc (.cells Z 34)) u.heap.size 0 34 [] [] Z.toList ∧ Z.toList.length = 1 := fun Z hZ => ⟨Blk.pin (by simpa using Blk.new u 34 Z), by simpa using hZ⟩
            have hsz : w.heap.size ≤ u.heap.size := SM.any (T := fun u => w.heap.size ≤ u.heap.size) (fun u q => HLZ.out u q) (fun v u q => HLZ1.out v u q) hM
            refine wpOp_step rfl fun KK hK => ?_
            go_simp
            exact hK _ _ ⟨_, rfl, fun _ => SM.al8 hM (hfi (by decide)) HG0.out HG1.out (Nat.le_refl _) hsz (hzn _ rfl).2 (below_al (Below.refl _ u) _) (hzn _ rfl).1, fun h => absurd (by decide) h, fun d hd => by cases hd; exact trivial⟩
          · intro y f u hM hfi hfd hd
            obtain ⟨Y, C, D, t, R, e40, _⟩ := hM.p1 (hM.d3 (hM.d4 (hfd 13 (by decide))).1).1
            have h28 : y 28 = .tuple #[.agg #[Wo.v C], .agg #[Wo.v D]] := (hM.d3 (hM.d4 (hfd 13 (by decide))).1).2.trans e40
            have hv : y 41 = .agg #[Wo.v C] := (hM.d4 (hfd 13 (by decide))).2 _ _ h28
            obtain ⟨g, ZZ, hbx, hzl, hzp, hnx⟩ := SM.st7 hM (hfd 13 (by decide)) (hfd 15 (by decide)) HX0.out HX1.out
            refine wpOp_step rfl fun KK hK => ?_
            refine Reg.step_store_mid (by rfl) 34 (.tmp 7) (.tmp 41) (by rfl) g 0 [Wo.v C] ZZ [] [] 34 (by exact hbx) (by exact hv) hzp.blk (by rw [hzl]; rfl) rfl (by rw [size_word]; rfl) (by simp [Wo.v, Value.oneCell']) ?_
            obtain ⟨p1, b1⟩ := hzp.put [Wo.v C] (by rw [hzl]; rfl)
            exact hK _ _ ⟨undef, rfl, fun _ => hnx _ _ rfl hv p1 b1, fun h => absurd (by decide) h, fun d hd => by cases hd⟩
          · intro y f u hM hfi hfd hd
            obtain ⟨Y, C, D, t, R, e40, _⟩ := hM.p1 (hM.d3 (hM.d5 (hfd 14 (by decide))).1).1
            have h28 : y 28 = .tuple #[.agg #[Wo.v C], .agg #[Wo.v D]] := (hM.d3 (hM.d5 (hfd 14 (by decide))).1).2.trans e40
            have hv : y 42 = .agg #[Wo.v D] := (hM.d5 (hfd 14 (by decide))).2 _ _ h28
            obtain ⟨g, ZZ, hbx, hzl, hzp, hnx⟩ := SM.st8 hM (hfd 14 (by decide)) (hfd 16 (by decide)) HX0.out HX1.out
            refine wpOp_step rfl fun KK hK => ?_
            refine Reg.step_store_mid (by rfl) 34 (.tmp 8) (.tmp 42) (by rfl) g 0 [Wo.v D] ZZ [] [] 34 (by exact hbx) (by exact hv) hzp.blk (by rw [hzl]; rfl) rfl (by rw [size_word]; rfl) (by simp [Wo.v, Value.oneCell']) ?_
            obtain ⟨p1, b1⟩ := hzp.put [Wo.v D] (by rw [hzl]; rfl)
            exact hK _ _ ⟨undef, rfl, fun _ => hnx _ _ rfl hv p1 b1, fun h => absurd (by decide) h, fun d hd => by cases hd⟩
        case he =>
          intro y u3 hM hall
          obtain ⟨Y, C, D, t, R, e40, h5, hYb, hS, hP⟩ := hM.p1 rfl
          obtain ⟨g7, g8, e7, e8, p7, p8⟩ := SM.end_ (C := [Wo.v C]) (D := [Wo.v D]) hM e40
          have H5 := Lib.hid h5
          have HS5 := Lib.hid hS
          have HP5 := Lib.hid hP
          have HR7 := Lib.hid p7.range
          have HR8 := Lib.hid p8.range
          clear hM hall h5 hS hP e40 p7 p8 HV HP6 HHS HG0 HG1 HX0 HX1 HTT HLZ HLZ1
          simp only [e7, e8]
          go_upto_region 8 with (first
            | (refine wpList_load_mid rfl 34 (.tmp 7) rfl g7 0 (by simp [Act.eval, Act.put]) [Wo.v C] _ HR7.out Try.underlying34 rfl (by rw [size_word]; rfl) ?_)
            | (refine wpList_load_mid rfl 34 (.tmp 8) rfl g8 0 (by simp [Act.eval, Act.put]) [Wo.v D] _ HR8.out Try.underlying34 rfl (by rw [size_word]; rfl) ?_)
            | (refine wpList_build rfl 161 _ rfl #[Wo.v C, Wo.v C, Wo.v D, Wo.v D] (by simpa [Act.eval, Act.put] using HBW4.out (Wo.v C) (Wo.v C) (Wo.v D) (Wo.v D)) ?_)
            | (refine wpList_store_pin rfl 161 (.tmp 6) (.tmp 47) rfl HP5.out [Wo.v C, Wo.v C, Wo.v D, Wo.v D] (by simp [Act.eval, Act.put]) (by simp [Act.eval, Act.put]) 4 size_w4 rfl rfl (wo4_one (cd4 C D)) ?_; intro w4 p4 b4; have HP4 := Lib.hid p4; have HB4 := Lib.hid b4; clear p4 b4))
          refine wp_at (fun V => SJ w B gr gl cl go N F VS Tn S o L ow k A c (updL L' k Y) Z V ∧ PIn V g6 0 161 [] [] (wo4 (cd4 C D)) ∧ Said1 V N k (L' k) Y (ow k) C D t R) (by
            have kr := KR.but HP5.out.blk HB4.out (Nat.le_trans HBB.out HG6.out) (by decide) (by decide)
            have kt := HB4.out.kept HP5.out.blk
            have hb := HB4.out.low HG6.out
            exact ⟨⟨H5.out.r.re kt kr (fun t m => by simp at m; subst m; decide) (H5.out.sent HSW.out hb HBB.out kr), ownsF_but H5.out.h HB4.out HNE.out, fun j hj => (H5.out.s j hj).kr kr, H5.out.kr.trans kr, fun x t' cs' ht' hx => (by have := hx.lt; have := HG6.out; exact HB4.out.blk (H5.out.kt x t' cs' ht' hx) (by omega))⟩, HP4.out, HS5.out.kr kr⟩) ?_
          clear H5 HS5 HP5 HR7 HR8 HP4 HB4 e7 e8
          rintro V ⟨v1, v2, v3⟩
          have HT : Hid (∃ (L1 : Nat → Ln) (X : Nat → Wo), SJ w B gr gl cl go N F VS Tn S o L ow k A c L1 Z V ∧ PIn V g6 0 161 [] [] (wo4 X) ∧ (∀ j, k + 1 ≤ j → L1 j = L j) ∧ SStep V N k (o k) (L k) (L1 k) (ow k) X) := Lib.hid ⟨updL L' k Y, _, v1, v2, fun j hj => by rw [updL_ne _ _ (by omega)]; exact HLL.out j (by omega), ⟨fun e => (by rw [← HBK.out] at e; cases e), fun _ => ⟨C, D, t, R, by rw [updL_self, ← HLL.out k (Nat.le_refl _)]; exact v3, rfl⟩⟩⟩
          clear v1 v2 v3
          obtain ⟨L1, X, x1, x2, x3, x4⟩ := HT.out
          have HJ1 := Lib.hid (x1.up (below_al (Below.refl V.heap.size V) (.cells (wo4 X).toArray 161)))
          have HL1 := Lib.hid x3
          have HSS := Lib.hid x4
          have HRX := Lib.hid x2.range
          have HNR := Lib.hid (Blk.new V 161 (wo4 X).toArray)
          have HSZ : Hid (w.heap.size ≤ V.heap.size + 1) := Lib.hid (by have := x1.kr.b.size; omega)
          have HBS := Lib.hid (HBS4.out V X)
          have HMX := Lib.hid (show k + 1 ≤ maxLen by unfold maxLen; omega)
          have HV0 : Hid (w.heap.size ≤ V.heap.size) := Lib.hid x1.kr.b.size
          clear x1 x2 x3 x4 HT
          go_wp2_with (first
            | (refine wpList_load_mid rfl 161 (.tmp 6) rfl g6 0 (by simp [Act.eval, Act.put]) (wo4 X) _ HRX.out Try.underlying161 rfl (by rw [size_w4, wo4_len]) ?_)
            | (refine wpList_bsl rfl 160 1 _ rfl #[(0, .agg (wo4 X).toArray)] (by simp [Act.eval, Act.put]) _ _ HBS.out ?_)
            | (at_builtin; refine wpList_append_G rfl (.tmp 48) (.tmp 50) 160 rfl w.heap.size 161 i0 _ 4 96 elemOut HI.out HZ0.out HZ1.out HZ2.out rfl (by decide) A k c (flL (fun i => wo4 (Z i)) k) (by simp [Act.eval, Act.put]) HJ1.out.h V.heap.size 1 1 (wo4 X) (by simp [Act.eval, Act.put]) HNR.out rfl (wo4_one _) (by decide) HMX.out (by omega) (by simpa using HSZ.out) ?_; intro A2 c2 w2 hO2 hb2 hk2; have HO2 := Lib.hid hO2; have HB2 := Lib.hid hb2; have HK2 := Lib.hid hk2; clear hO2 hb2 hk2))
          go_roundw
          case rel => exact ⟨k + 1, by omega, by go_num, A2, c2, L1, updZ Z k X, rfl, Lib.hid (HJ1.out.app HSW.out HBB.out HB2.out HK2.out HO2.out (HSS.out.kr (KR.trans (KR.below (Nat.le_trans HBB.out HV0.out) (below_al (Below.refl V.heap.size V) (.cells (wo4 X).toArray 161))) (KR.kept (HB2.out.mono HBB.out) HK2.out (by decide) (by decide))))), HL1⟩
          case measure => simp [intOf]; omega
    · obtain rfl : N = k := by omega
      have dk : decide ((N : Int) < (N : Int)) = false := decide_eq_false (by omega)
      obtain ⟨gO, Zt, rfl, lgO, hgO⟩ := out_blk HJ0.out.h (by omega)
      have HO : Hid (SO w B gr gl cl go N F VS Tn S o L ow gO L' Z Z wr) := Lib.hid ⟨HJ0.out.r, ⟨Zt, hgO⟩, lgO, HJ0.out.s, fun j q hj hq => ((HJ0.out.s j hj).ws q).1, HJ0.out.kr, HJ0.out.kt⟩
      clear lgO hgO HJ0 HLL
      go_wp2_with fail
      go_loopw [9] (fun iv wr => ∃ k : Nat, k ≤ N ∧ iv = .int .i64 (k : Int) ∧ ∃ W : Nat → Nat → Wo, Hid (SO w B gr gl cl go N F VS Tn S o L ow gO L' Z W wr) ∧ Hid (∀ j, k ≤ j → W j = Z j) ∧ Hid (∀ j p, j < k → p < 4 → clB N j p F = true → W j p = Z j p)) (fun iv _ => N - (intOf iv).toNat)
      case atStart => exact ⟨0, by omega, rfl, Z, HO, Lib.hid fun _ _ => rfl, Lib.hid fun j p hj => absurd hj (by omega)⟩
      case round =>
        clear HO
        obtain ⟨k, hk, rfl, W, HO, HWA, HWB⟩ := hrel
        have c0 : wr.cell? ⟨gr, 0, none⟩ = some (.int .i64 (N : Int)) := HO.out.r.r.cell 0
        have l0 : gr < wr.heap.size := HO.out.r.r.lt
        by_cases hlt : k < N
        · have dk : decide ((k : Int) < (N : Int)) = true := decide_eq_true (by omega)
          have hix := fun W => idxOut (A := some ⟨gO, 0, none⟩) (n := N) c rfl hlt W
          simp only [Nat.zero_add] at hix
          have hi0 : ∀ W, (Instr.indexAt 161 (.pointer (some ⟨gO, k * 4, none⟩)) (.int .i64 0)).run Try.prog W = .ok (.pointer (some ⟨gO, k * 4, none⟩)) W := fun W => idxW4 gO (k * 4) 0 (by decide) W
          have hi2 : ∀ W, (Instr.indexAt 161 (.pointer (some ⟨gO, k * 4, none⟩)) (.int .i64 2)).run Try.prog W = .ok (.pointer (some ⟨gO, k * 4 + 2, none⟩)) W := fun W => idxW4 gO (k * 4) 2 (by decide) W
          have HR0 : Hid (∀ u, Below wr.heap.size wr u → u.rangeAt gO (k * 4) [(Z k 0).v]) := Lib.hid (fun u hu => by
            have h := (HO.out.up hu).at (q := 0) hlt (by decide)
            rw [HWA.out k (Nat.le_refl _)] at h
            exact h)
          have HR2 : Hid (∀ u, Below wr.heap.size wr u → u.rangeAt gO (k * 4 + 2) [(Z k 2).v]) := Lib.hid (fun u hu => by
            have h := (HO.out.up hu).at (q := 2) hlt (by decide)
            rw [HWA.out k (Nat.le_refl _)] at h
            exact h)
          have HZN : Hid (∀ (u : World) (Z : Array Value), Z.size = 1 → PIn (u.alloc (.cells Z 34)) u.heap.size 0 34 [] [] Z.toList ∧ Z.toList.length = 1) := Lib.hid (fun u Z hZ => ⟨Blk.pin (by simpa using Blk.new u 34 Z), by simpa using hZ⟩)
          go_upto_region 14 with (first
            | (refine wpList_load_mid rfl 34 (.tmp 63) rfl gO (k * 4) (by simp [Act.eval, Act.put]) [(Z k 0).v] _ (HR0.out _ (Below.refl _ _)) Try.underlying34 rfl (by rw [size_word]; rfl) ?_)
            | (refine wpList_store_pin rfl 34 (.tmp 10) (.tmp 64) rfl (HZN.out wr _ rfl).1 [(Z k 0).v] (by simp [Act.eval, Act.put]) (by simp [Act.eval, Act.put]) 1 size_word (HZN.out wr _ rfl).2 rfl (by simp [Wo.v, Value.oneCell']) ?_; intro w4 p4 b4; have HP4 := Lib.hid p4; have HB4 : Hid (Below wr.heap.size wr w4) := Lib.hid ((below_al (Below.refl _ _) _).trans (b4.low (Nat.le_refl _))); clear p4 b4)
            | (refine wpList_load_mid rfl 34 (.tmp 68) rfl gO (k * 4 + 2) (by simp [Act.eval, Act.put]) [(Z k 2).v] _ (HR2.out _ HB4.out) Try.underlying34 rfl (by rw [size_word]; rfl) ?_)
            | (refine wpList_store_pin rfl 34 (.tmp 11) (.tmp 69) rfl (HZN.out w4 _ rfl).1 [(Z k 2).v] (by simp [Act.eval, Act.put]) (by simp [Act.eval, Act.put]) 1 size_word (HZN.out w4 _ rfl).2 rfl (by simp [Wo.v, Value.oneCell']) ?_; intro w5 p5 b5; have HP5 := Lib.hid p5; have HB5 := Lib.hid b5; clear p5 b5))
          have l4 := HP4.out.lt
          have hb5 : Below wr.heap.size wr w5 := HB4.out.trans ((below_al (Below.refl w4.heap.size w4) _).mono HB4.out.size |>.trans (HB5.out.low HB4.out.size))
          refine wp_at (fun U => SO w B gr gl cl go N F VS Tn S o L ow gO L' Z W U ∧ Blk U wr.heap.size 34 #[(Z k 0).v] ∧ Blk U w4.heap.size 34 #[(Z k 2).v]) ⟨HO.out.up hb5, HB5.out.blk (HP4.out.blk_.alloc _) (by omega), HP5.out.blk_⟩ ?_
          obtain ⟨g10, hg10⟩ : ∃ g, g = wr.heap.size := ⟨_, rfl⟩
          obtain ⟨g11, hg11⟩ : ∃ g, g = w4.heap.size := ⟨_, rfl⟩
          rw [← hg11, ← hg10]
          clear hb5 hg10 hg11 c0 l0 HO HR0 HR2 hi0 hi2 hix HP4 HB4 HP5 HB5 l4
          rintro V ⟨v1, v2, v3⟩
          have HO := Lib.hid v1
          have HG10 := Lib.hid v2
          have HG11 := Lib.hid v3
          clear v1 v2 v3
          go_wp2_with fail
          go_loopw [12] (fun iv wq => ∃ q : Nat, q ≤ 4 ∧ iv = .int .i64 (q : Int) ∧ ∃ W' : Nat → Nat → Wo, Hid (SO w B gr gl cl go N F VS Tn S o L ow gO L' Z W' wq) ∧ Hid (∀ j, j ≠ k → W' j = W j) ∧ Hid (∀ p, q ≤ p → W' k p = Z k p) ∧ Hid (∀ p, p < q → p < 4 → clB N k p F = true → W' k p = Z k p) ∧ Hid (Blk wq g10 34 #[(Z k 0).v]) ∧ Hid (Blk wq g11 34 #[(Z k 2).v])) (fun iv _ => 4 - (intOf iv).toNat)
          case atStart => exact ⟨0, by omega, rfl, W, HO, Lib.hid fun _ _ => rfl, Lib.hid fun p _ => by rw [HWA.out k (Nat.le_refl _)], Lib.hid fun p hp => absurd hp (by omega), HG10, HG11⟩
          case round =>
            clear HO HG10 HG11
            obtain ⟨q, hq, rfl, W', HO, HWO, HWH, HWL, HG10, HG11⟩ := hrel
            obtain ⟨wq, hwq⟩ : ∃ wq, wq = wr := ⟨_, rfl⟩
            subst hwq
            by_cases hq4 : q < 4
            · have dq : decide ((q : Int) < 4) = true := decide_eq_true (by omega)
              have HBV : Hid (B ≤ wq.heap.size) := Lib.hid (HO.out.r.B.2.2.2)
              have HSD : Hid (∀ (u : World) (x y : Wo), Below wq.heap.size wq u → SW B wq x → SW B wq y → x.m ≤ 65536 → Calls Try.prog 64 #[.pointer (some ⟨gr, 0, none⟩), .int .i64 (k : Int), .int .i64 (q : Int), .agg #[x.v], .agg #[y.v]] u fun e v => ∃ X : Wo, e = .returned (.agg #[X.v]) ∧ SW B v X ∧ (clB N k q F = true → X = x) ∧ Below u.heap.size u v) := Lib.hid (fun u x y hu h1 h2 h3 => by
                have kr := KR.below HO.out.r.B.2.2.2 hu
                exact said_is B gr N Tn F _ _ VS S k q x y hN (by omega) hlt hq4 u (Nat.le_trans HO.out.r.B.2.2.2 hu.size) (HO.out.r.r.on hu) ((HO.out.r.s).on HO.out.r.B.2.2.2 hu) (HFW.out.low ((HO.out.kr.trans kr).b)) (h1.on kr) (h2.on kr) h3)
              have hz0 := (HO.out.s k hlt).ws (B := B) 0
              have hz2 := (HO.out.s k hlt).ws (B := B) 2
              by_cases hq2 : q < 2
              · have dq2 : decide ((q : Int) < 2) = true := decide_eq_true (by omega)
                have HSA := Lib.hid (fun (u : World) hu => HSD.out u (Z k 0) (Z k 2) hu hz0.1 hz2.1 (by have := hz0.2; omega))
                clear hz0 hz2 HSD
                go_upto_region 18 with fail
                refine Reg.wp_prefix 11 (by kernel_rfl) (fun tt => decide (76 ≤ tt) && decide (tt ≤ 86)) (Reg.KJ wq.heap.size [] []) (Reg.KJ.drew _ (by simp)) Reg.KJ.trans (by kernel_rfl) (by kernel_rfl) (by kernel_rfl) (by kernel_rfl) (fun zz => (Reg.tblK [
                  (76, .is (.slice (some ⟨gO, 0, none⟩) N c)),
                  (77, .is (.int .i64 (k : Int))),
                  (78, .is (.int .i64 (q : Int))),
                  (79, .is (.pointer (some ⟨gr, 0, none⟩))),
                  (80, .is (.int .i64 (k : Int))),
                  (81, .is (.int .i64 (q : Int))),
                  (82, .is (.agg #[(Z k 0).v])),
                  (83, .is (.agg #[(Z k 2).v])),
                  (84, .sw (B := B) N k q F (Z k 0)),
                  (85, .is (.pointer (some ⟨gO, k * 4, none⟩))),
                  (86, .is (.pointer (some ⟨gO, k * 4 + q, none⟩)))] zz).P) (fun zz => (Reg.tblK _ zz).on) (fun zz => (Reg.memK [] zz).P) (fun zz => (Reg.memK _ zz).on) ?_ ?_
                · simp only [Reg.frame, Reg.over, Nat.reduceAdd, Nat.reduceLeDiff, decide_true, decide_false, if_true, Bool.false_eq_true, if_false, Bool.and_true, Bool.and_false]
                  refine ⟨?_, ?_, ?_, ?_, ?_, ?_, ?_, ?_, ?_, ?_, ?_, trivial⟩
                  · intro y u hku hd
                    refine wpOp_step rfl fun KK hK => ?_
                    go_simp
                    exact hK _ _ ⟨_, rfl, Reg.KJ.refl _, fun d hd => by cases hd; exact rfl, fun h => by cases h⟩
                  · intro y u hku hd
                    refine wpOp_step rfl fun KK hK => ?_
                    go_simp
                    exact hK _ _ ⟨_, rfl, Reg.KJ.refl _, fun d hd => by cases hd; exact rfl, fun h => by cases h⟩
                  · intro y u hku hd
                    refine wpOp_step rfl fun KK hK => ?_
                    go_simp
                    exact hK _ _ ⟨_, rfl, Reg.KJ.refl _, fun d hd => by cases hd; exact rfl, fun h => by cases h⟩
                  · intro y u hku hd
                    refine wpOp_step rfl fun KK hK => ?_
                    go_simp
                    exact hK _ _ ⟨_, rfl, Reg.KJ.refl _, fun d hd => by cases hd; exact rfl, fun h => by cases h⟩
                  · intro y u hku hd
                    refine wpOp_step rfl fun KK hK => ?_
                    go_simp
                    exact hK _ _ ⟨_, rfl, Reg.KJ.refl _, fun d hd => by cases hd; exact rfl, fun h => by cases h⟩
                  · intro y u hku hd
                    refine wpOp_step rfl fun KK hK => ?_
                    go_simp
                    exact hK _ _ ⟨_, rfl, Reg.KJ.refl _, fun d hd => by cases hd; exact rfl, fun h => by cases h⟩
                  · intro y u hku hd
                    refine wpOp_step rfl fun KK hK => ?_
                    refine Reg.step_load_mid (by rfl) 34 (.tmp 10) (by rfl) g10 0 (by rfl) [(Z k 0).v] (hku.blk (by simp) HG10.out).pin.range _ Try.underlying34 rfl (by rw [size_word]; rfl) ?_
                    exact hK _ _ ⟨_, rfl, Reg.KJ.refl _, fun d hd => by cases hd; exact rfl, fun h => by cases h⟩
                  · intro y u hku hd
                    refine wpOp_step rfl fun KK hK => ?_
                    refine Reg.step_load_mid (by rfl) 34 (.tmp 11) (by rfl) g11 0 (by rfl) [(Z k 2).v] (hku.blk (by simp) HG11.out).pin.range _ Try.underlying34 rfl (by rw [size_word]; rfl) ?_
                    exact hK _ _ ⟨_, rfl, Reg.KJ.refl _, fun d hd => by cases hd; exact rfl, fun h => by cases h⟩
                  · intro y u hku hd
                    have h79 : y 79 = .pointer (some ⟨gr, 0, none⟩) := hd 3 (by decide)
                    have h80 : y 80 = .int .i64 (k : Int) := hd 4 (by decide)
                    have h81 : y 81 = .int .i64 (q : Int) := hd 5 (by decide)
                    have h82 : y 82 = .agg #[(Z k 0).v] := hd 6 (by decide)
                    have h83 : y 83 = .agg #[(Z k 2).v] := hd 7 (by decide)
                    refine wpOp_step rfl fun KK hK => ?_
                    simp only [h79, h80, h81, h82, h83] at hK ⊢
                    go_simp
                    (with_reducible refine (HSA.out u hku.below).mono ?_)
                    rintro e u' ⟨X, rfl, hs, hc, hb'⟩
                    exact hK _ _ ⟨_, rfl, Reg.KJ.grow (by simp) hku.size hb', fun d hd => by cases hd; exact ⟨X, rfl, Nat.le_trans HBV.out (Nat.le_trans hku.size hb'.size), hs, hc⟩, fun h => by cases h⟩
                  · intro y u hku hd
                    have h76 : y 76 = .slice (some ⟨gO, 0, none⟩) N c := hd 0 (by decide)
                    have h77 : y 77 = .int .i64 (k : Int) := hd 1 (by decide)
                    have hix := fun W => idxOut (A := some ⟨gO, 0, none⟩) (n := N) c rfl hlt W
                    simp only [Nat.zero_add] at hix
                    refine wpOp_step rfl fun KK hK => ?_
                    simp only [h76, h77] at hK ⊢
                    go_simp
                    exact hK _ _ ⟨_, rfl, Reg.KJ.refl _, fun d hd => by cases hd; exact rfl, fun h => by cases h⟩
                  · intro y u hku hd
                    have h85 : y 85 = .pointer (some ⟨gO, k * 4, none⟩) := hd 9 (by decide)
                    have h78 : y 78 = .int .i64 (q : Int) := hd 2 (by decide)
                    have hix := fun W => idxW4 gO (k * 4) q hq4 W
                    refine wpOp_step rfl fun KK hK => ?_
                    simp only [h85, h78] at hK ⊢
                    go_simp
                    exact hK _ _ ⟨_, rfl, Reg.KJ.refl _, fun d hd => by cases hd; exact rfl, fun h => by cases h⟩
                · intro y u hku hd
                  obtain ⟨X, eX, _, hXs, hXc⟩ : (∃ X : Wo, y 84 = .agg #[X.v] ∧ B ≤ u.heap.size ∧ SW B u X ∧ (clB N k q F = true → X = Z k 0)) := hd 8 (by decide)
                  have eP : y 86 = .pointer (some ⟨gO, k * 4 + q, none⟩) := hd 10 (by decide)
                  obtain ⟨PA, PZ, hP, hnx⟩ := (HO.out.up hku.below).set HSW.out HBB.out hlt hq4 hXs
                  have HP := Lib.hid hP
                  have HNX := Lib.hid hnx
                  have HXC := Lib.hid hXc
                  have H10 := Lib.hid (HG10.out.on hku.below)
                  have H11 := Lib.hid (HG11.out.on hku.below)
                  clear hku hd hP hnx hXc hXs
                  simp only [Reg.frame, Reg.over, Nat.reduceAdd, Nat.reduceLeDiff, decide_true, decide_false, if_true, Bool.false_eq_true, if_false, Bool.and_true, Bool.and_false, eX, eP, List.drop_succ_cons, List.drop_zero]
                  go_wp2_with (refine wpList_store_pin rfl 34 (.tmp 86) (.tmp 84) rfl HP.out [X.v] (by simp [Act.eval, Act.put]) (by simp [Act.eval, Act.put]) 1 size_word rfl rfl (by simp [Wo.v, Value.oneCell']) ?_; intro w5 p5 b5; have HP5 := Lib.hid p5; have HB5 := Lib.hid b5; clear p5 b5)
                  go_roundw
                  case rel =>
                    refine ⟨q + 1, by omega, by go_num, _, Lib.hid (HNX.out w5 HP5.out HB5.out), Lib.hid fun j hj => ?_, Lib.hid fun p hp => ?_, Lib.hid fun p hp hp4 hc => ?_, Lib.hid (HB5.out.blk H10.out (H10.out.ne HP.out.blk (by decide))), Lib.hid (HB5.out.blk H11.out (H11.out.ne HP.out.blk (by decide)))⟩
                    · show updZ W' k _ j = W j
                      unfold updZ
                      rw [if_neg hj]; exact HWO.out j hj
                    · show updZ W' k _ k p = Z k p
                      unfold updZ
                      rw [if_pos rfl, if_neg (by omega)]; exact HWH.out p (by omega)
                    · show updZ W' k _ k p = Z k p
                      unfold updZ
                      rw [if_pos rfl]
                      by_cases e : p = q
                      · rw [if_pos e]
                        subst e
                        rw [HXC.out hc]
                        have h2 := (HO.out.s k hlt).two
                        rcases (show p = 0 ∨ p = 1 by omega) with rfl | rfl
                        · rfl
                        · exact h2.1.symm
                      · rw [if_neg e]; exact HWL.out p (by omega) hp4 hc
                  case measure => simp [intOf]; omega
              · have dq2 : decide ((q : Int) < 2) = false := decide_eq_false (by omega)
                have HSA := Lib.hid (fun (u : World) hu => HSD.out u (Z k 2) (Z k 0) hu hz2.1 hz0.1 (by have := hz2.2; omega))
                clear hz0 hz2 HSD
                go_upto_region 19 with fail
                refine Reg.wp_prefix 11 (by kernel_rfl) (fun tt => decide (87 ≤ tt) && decide (tt ≤ 97)) (Reg.KJ wq.heap.size [] []) (Reg.KJ.drew _ (by simp)) Reg.KJ.trans (by kernel_rfl) (by kernel_rfl) (by kernel_rfl) (by kernel_rfl) (fun zz => (Reg.tblK [
                  (87, .is (.slice (some ⟨gO, 0, none⟩) N c)),
                  (88, .is (.int .i64 (k : Int))),
                  (89, .is (.int .i64 (q : Int))),
                  (90, .is (.pointer (some ⟨gr, 0, none⟩))),
                  (91, .is (.int .i64 (k : Int))),
                  (92, .is (.int .i64 (q : Int))),
                  (93, .is (.agg #[(Z k 2).v])),
                  (94, .is (.agg #[(Z k 0).v])),
                  (95, .sw (B := B) N k q F (Z k 2)),
                  (96, .is (.pointer (some ⟨gO, k * 4, none⟩))),
                  (97, .is (.pointer (some ⟨gO, k * 4 + q, none⟩)))] zz).P) (fun zz => (Reg.tblK _ zz).on) (fun zz => (Reg.memK [] zz).P) (fun zz => (Reg.memK _ zz).on) ?_ ?_
                · simp only [Reg.frame, Reg.over, Nat.reduceAdd, Nat.reduceLeDiff, decide_true, decide_false, if_true, Bool.false_eq_true, if_false, Bool.and_true, Bool.and_false]
                  refine ⟨?_, ?_, ?_, ?_, ?_, ?_, ?_, ?_, ?_, ?_, ?_, trivial⟩
                  · intro y u hku hd
                    refine wpOp_step rfl fun KK hK => ?_
                    go_simp
                    exact hK _ _ ⟨_, rfl, Reg.KJ.refl _, fun d hd => by cases hd; exact rfl, fun h => by cases h⟩
                  · intro y u hku hd
                    refine wpOp_step rfl fun KK hK => ?_
                    go_simp
                    exact hK _ _ ⟨_, rfl, Reg.KJ.refl _, fun d hd => by cases hd; exact rfl, fun h => by cases h⟩
                  · intro y u hku hd
                    refine wpOp_step rfl fun KK hK => ?_
                    go_simp
                    exact hK _ _ ⟨_, rfl, Reg.KJ.refl _, fun d hd => by cases hd; exact rfl, fun h => by cases h⟩
                  · intro y u hku hd
                    refine wpOp_step rfl fun KK hK => ?_
                    go_simp
                    exact hK _ _ ⟨_, rfl, Reg.KJ.refl _, fun d hd => by cases hd; exact rfl, fun h => by cases h⟩
                  · intro y u hku hd
                    refine wpOp_step rfl fun KK hK => ?_
                    go_simp
                    exact hK _ _ ⟨_, rfl, Reg.KJ.refl _, fun d hd => by cases hd; exact rfl, fun h => by cases h⟩
                  · intro y u hku hd
                    refine wpOp_step rfl fun KK hK => ?_
                    go_simp
                    exact hK _ _ ⟨_, rfl, Reg.KJ.refl _, fun d hd => by cases hd; exact rfl, fun h => by cases h⟩
                  · intro y u hku hd
                    refine wpOp_step rfl fun KK hK => ?_
                    refine Reg.step_load_mid (by rfl) 34 (.tmp 11) (by rfl) g11 0 (by rfl) [(Z k 2).v] (hku.blk (by simp) HG11.out).pin.range _ Try.underlying34 rfl (by rw [size_word]; rfl) ?_
                    exact hK _ _ ⟨_, rfl, Reg.KJ.refl _, fun d hd => by cases hd; exact rfl, fun h => by cases h⟩
                  · intro y u hku hd
                    refine wpOp_step rfl fun KK hK => ?_
                    refine Reg.step_load_mid (by rfl) 34 (.tmp 10) (by rfl) g10 0 (by rfl) [(Z k 0).v] (hku.blk (by simp) HG10.out).pin.range _ Try.underlying34 rfl (by rw [size_word]; rfl) ?_
                    exact hK _ _ ⟨_, rfl, Reg.KJ.refl _, fun d hd => by cases hd; exact rfl, fun h => by cases h⟩
                  · intro y u hku hd
                    have h90 : y 90 = .pointer (some ⟨gr, 0, none⟩) := hd 3 (by decide)
                    have h91 : y 91 = .int .i64 (k : Int) := hd 4 (by decide)
                    have h92 : y 92 = .int .i64 (q : Int) := hd 5 (by decide)
                    have h93 : y 93 = .agg #[(Z k 2).v] := hd 6 (by decide)
                    have h94 : y 94 = .agg #[(Z k 0).v] := hd 7 (by decide)
                    refine wpOp_step rfl fun KK hK => ?_
                    simp only [h90, h91, h92, h93, h94] at hK ⊢
                    go_simp
                    (with_reducible refine (HSA.out u hku.below).mono ?_)
                    rintro e u' ⟨X, rfl, hs, hc, hb'⟩
                    exact hK _ _ ⟨_, rfl, Reg.KJ.grow (by simp) hku.size hb', fun d hd => by cases hd; exact ⟨X, rfl, Nat.le_trans HBV.out (Nat.le_trans hku.size hb'.size), hs, hc⟩, fun h => by cases h⟩
                  · intro y u hku hd
                    have h87 : y 87 = .slice (some ⟨gO, 0, none⟩) N c := hd 0 (by decide)
                    have h88 : y 88 = .int .i64 (k : Int) := hd 1 (by decide)
                    have hix := fun W => idxOut (A := some ⟨gO, 0, none⟩) (n := N) c rfl hlt W
                    simp only [Nat.zero_add] at hix
                    refine wpOp_step rfl fun KK hK => ?_
                    simp only [h87, h88] at hK ⊢
                    go_simp
                    exact hK _ _ ⟨_, rfl, Reg.KJ.refl _, fun d hd => by cases hd; exact rfl, fun h => by cases h⟩
                  · intro y u hku hd
                    have h96 : y 96 = .pointer (some ⟨gO, k * 4, none⟩) := hd 9 (by decide)
                    have h89 : y 89 = .int .i64 (q : Int) := hd 2 (by decide)
                    have hix := fun W => idxW4 gO (k * 4) q hq4 W
                    refine wpOp_step rfl fun KK hK => ?_
                    simp only [h96, h89] at hK ⊢
                    go_simp
                    exact hK _ _ ⟨_, rfl, Reg.KJ.refl _, fun d hd => by cases hd; exact rfl, fun h => by cases h⟩
                · intro y u hku hd
                  obtain ⟨X, eX, _, hXs, hXc⟩ : (∃ X : Wo, y 95 = .agg #[X.v] ∧ B ≤ u.heap.size ∧ SW B u X ∧ (clB N k q F = true → X = Z k 2)) := hd 8 (by decide)
                  have eP : y 97 = .pointer (some ⟨gO, k * 4 + q, none⟩) := hd 10 (by decide)
                  obtain ⟨PA, PZ, hP, hnx⟩ := (HO.out.up hku.below).set HSW.out HBB.out hlt hq4 hXs
                  have HP := Lib.hid hP
                  have HNX := Lib.hid hnx
                  have HXC := Lib.hid hXc
                  have H10 := Lib.hid (HG10.out.on hku.below)
                  have H11 := Lib.hid (HG11.out.on hku.below)
                  clear hku hd hP hnx hXc hXs
                  simp only [Reg.frame, Reg.over, Nat.reduceAdd, Nat.reduceLeDiff, decide_true, decide_false, if_true, Bool.false_eq_true, if_false, Bool.and_true, Bool.and_false, eX, eP, List.drop_succ_cons, List.drop_zero]
                  go_wp2_with (refine wpList_store_pin rfl 34 (.tmp 97) (.tmp 95) rfl HP.out [X.v] (by simp [Act.eval, Act.put]) (by simp [Act.eval, Act.put]) 1 size_word rfl rfl (by simp [Wo.v, Value.oneCell']) ?_; intro w5 p5 b5; have HP5 := Lib.hid p5; have HB5 := Lib.hid b5; clear p5 b5)
                  go_roundw
                  case rel =>
                    refine ⟨q + 1, by omega, by go_num, _, Lib.hid (HNX.out w5 HP5.out HB5.out), Lib.hid fun j hj => ?_, Lib.hid fun p hp => ?_, Lib.hid fun p hp hp4 hc => ?_, Lib.hid (HB5.out.blk H10.out (H10.out.ne HP.out.blk (by decide))), Lib.hid (HB5.out.blk H11.out (H11.out.ne HP.out.blk (by decide)))⟩
                    · show updZ W' k _ j = W j
                      unfold updZ
                      rw [if_neg hj]; exact HWO.out j hj
                    · show updZ W' k _ k p = Z k p
                      unfold updZ
                      rw [if_pos rfl, if_neg (by omega)]; exact HWH.out p (by omega)
                    · show updZ W' k _ k p = Z k p
                      unfold updZ
                      rw [if_pos rfl]
                      by_cases e : p = q
                      · rw [if_pos e]
                        subst e
                        rw [HXC.out hc]
                        have h2 := (HO.out.s k hlt).two
                        rcases (show p = 2 ∨ p = 3 by omega) with rfl | rfl
                        · rfl
                        · exact h2.2.symm
                      · rw [if_neg e]; exact HWL.out p (by omega) hp4 hc
                  case measure => simp [intOf]; omega
            · obtain rfl : q = 4 := by omega
              have dq : decide (((4 : Nat) : Int) < 4) = false := by decide
              go_wp2_with fail
              go_roundw
              case rel =>
                refine ⟨k + 1, by omega, by go_num, W', HO, Lib.hid fun j hj => ?_, Lib.hid fun j p hj hp hc => ?_⟩
                · rw [HWO.out j (by omega)]; exact HWA.out j (by omega)
                · by_cases e : j = k
                  · subst e; exact HWL.out p hp hp hc
                  · rw [HWO.out j e]; exact HWB.out j p (by omega) hp hc
              case measure => simp [intOf]; omega
        · obtain rfl : N = k := by omega
          have dk : decide ((N : Int) < (N : Int)) = false := decide_eq_false (by omega)
          obtain ⟨A0, cs0, g0, p0, rfl, hs1, hs2⟩ := HO.out.r.s.l
          obtain ⟨j0, hj0, jz0, jz1, jz2⟩ := info_parts infoOut
          have JI := Lib.hid hj0
          have JZ0 := Lib.hid jz0
          have JZ1 := Lib.hid jz1
          have JZ2 := Lib.hid jz2
          have c7 : wr.cell? ⟨gr, 7, none⟩ = some (.slice A0 Tn cs0) := HO.out.r.r.cell 7
          have HBO := Lib.hid (run_bsl_out (some ⟨gO, 0, none⟩) N c wr)
          have hal := below_al (Below.refl wr.heap.size wr) (.cells #[.slice (some ⟨gO, 0, none⟩) N c] 160)
          have HOA := Lib.hid (HO.out.up hal)
          have HS1 := Lib.hid (ownsF_on hs1 hal)
          have HS2 : Hid (∀ t, t < Tn → ∃ Zt, Blk (wr.alloc (.cells #[.slice (some ⟨gO, 0, none⟩) N c] 160)) (g0 t) 161 (flL (fun i => wo4 (S t i)) N ++ Zt).toArray) := Lib.hid (fun t ht => by obtain ⟨Zt, q⟩ := hs2 t ht; exact ⟨Zt, q.on hal⟩)
          have HNR := Lib.hid (Blk.new wr 160 #[.slice (some ⟨gO, 0, none⟩) N c])
          have HBV : Hid (B ≤ wr.heap.size) := Lib.hid (HO.out.r.B.2.2.2)
          clear hal hs1 hs2 hj0 jz0 jz1 jz2
          go_wp2_with (first
            | (refine wpList_bsl rfl 156 1 _ rfl #[(0, .slice (some ⟨gO, 0, none⟩) N c)] (by simp [Act.eval, Act.put]) _ _ HBO.out ?_)
            | (at_builtin; refine wpList_append_G rfl (.tmp 102) (.tmp 104) 156 rfl B 160 j0 _ 1 24 elemSent JI.out JZ0.out JZ1.out JZ2.out rfl (by decide) A0 Tn cs0 (flL (fun t => [.slice (some ⟨g0 t, 0, none⟩) N (p0 t)]) Tn) (by simp [Act.eval, Act.put]) HS1.out wr.heap.size 1 1 [.slice (some ⟨gO, 0, none⟩) N c] (by simp [Act.eval, Act.put]) HNR.out rfl (by simp [Value.oneCell']) (by decide) (by unfold maxLen; omega) (by omega) (by have := HBV.out; simp; omega) ?_; intro A2 c2 w2 hO2 hb2 hk2; have HO2 := Lib.hid hO2; have HB2 := Lib.hid hb2; have HK2 := Lib.hid hk2; have hr2 := hk2 _ _ _ (by decide) HOA.out.r.r; have c7' : w2.cell? ⟨gr, 7, none⟩ = some (.slice A0 Tn cs0) := hr2.cell 7; have f7' := hr2.frozen 7; have l7' := hr2.lt; clear hO2 hb2 hk2 hr2))
          exact bodyPost_end (v := .tuple #[]) (by simp [results, Try.results34]) rfl ⟨rfl, HOA.out.fin HBB.out HS2.out HB2.out HK2.out HO2.out HWB.out⟩
end Go.Proofs.Ytcangipaoancnaa

