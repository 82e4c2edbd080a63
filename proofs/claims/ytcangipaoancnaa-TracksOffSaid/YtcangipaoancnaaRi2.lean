/-
  The ring: a tick of all begins. Conditions: the ring's reading.
-/
import Derived.Test.YtcangipaoancnaaRiS
import Derived.Deep.DeepAppendRoom
namespace Go.Proofs.Ytcangipaoancnaa
open Go.RowKit
set_option linter.unusedVariables false
set_option linter.unusedSimpArgs false

/-- A word of N rows, each with a table of its own. -/
structure RowsW (u : World) (N : Nat) (H : Wo) (P : Nat → Ro) : Prop where
  A : ∃ G, H.A = some ⟨G, 0, none⟩ ∧ Blk u G 54 (flL (fun s => (H.R s).l) N).toArray
  t : ∀ s, s < N → TabS u (H.R s)
  m : H.m = N
  c : H.c = N
  r : ∀ s, s < N → (H.R s).ro = P s
section
variable {u v : World} {N B : Nat} {H : Wo} {P : Nat → Ro}
theorem RowsW.kr (h : RowsW u N H P) (k : KR B u v) : RowsW v N H P := by
  obtain ⟨G, e, q⟩ := h.A
  exact ⟨⟨G, e, k.t _ _ _ (.inl rfl) q⟩, fun s hs => (h.t s hs).on k, h.m, h.c, h.r⟩
theorem RowsW.sw (h : RowsW u N H P) : SW B u H := by
  obtain ⟨G, e, q⟩ := h.A
  unfold SW
  rw [e, h.m]
  exact SR.rows q h.t
theorem RowsO.rowsW {lo G : Nat} {Ls : Nat → List Value} (h : RowsO u lo N P Ls) (hB : Blk u G 54 (flL Ls N).toArray) : ∃ R : Nat → Rw, RowsW u N ⟨some ⟨G, 0, none⟩, N, N, R⟩ P := by
  obtain ⟨R, h1, h2, h3⟩ := h.sr hB
  exact ⟨R, ⟨G, rfl, h1⟩, h2, rfl, rfl, h3⟩
end
/-- A lane ahead of Hear: the one that is there, or a new one. -/
def on0E (o : Bool) (X : Ln) : Nat := if o = true then endE X.nw X.E else 0
def on0T (o : Bool) (X : Ln) : Nat → Tk := if o = true then endT X.nw X.E X.T else fun _ => tkN
/-- What a lane has heard, and what it holds. -/
structure Heard (u : World) (N i Tn : Nat) (S : Nat → Nat → Nat → Wo) (E : Nat) (T : Nat → Tk) (Y : Ln) (H : Wo) : Prop where
  qe : Y.E = E
  qt : Y.T = T
  qk : ∃ t, Y.nw = some t ∧ TkOf N (fun k => (insM N Tn S i k).m) (fun k => (insM N Tn S i k).R) t
  qh : RowsW u N H (heldR N i E T)
structure HStep (u : World) (N i Tn : Nat) (S : Nat → Nat → Nat → Wo) (o on : Bool) (X Y : Ln) (H : Wo) : Prop where
  off : on = false → Y = X ∧ H = woN
  yes : on = true → Heard u N i Tn S (on0E o X) (on0T o X) Y H
theorem HStep.kr {u v : World} {N i Tn B : Nat} {S : Nat → Nat → Nat → Wo} {o on : Bool} {X Y : Ln} {H : Wo} (h : HStep u N i Tn S o on X Y H) (k : KR B u v) : HStep v N i Tn S o on X Y H := ⟨h.off, fun e => ⟨(h.yes e).qe, (h.yes e).qt, (h.yes e).qk, (h.yes e).qh.kr k⟩⟩
theorem insM_w {B N Tn i k : Nat} {u : World} {VS : Value} {S : Nat → Nat → Nat → Wo} (h : SentS B u VS N Tn S) (hN : 0 < N) : SW B u (insM N Tn S i k) := by
  unfold insM
  split
  · exact sentM_w h hN (by decide) (by decide)
  · split
    · exact sentM_w h hN (by decide) (by decide)
    · split
      · exact sentM_w h hN (by decide) (by decide)
      · exact sentM_w h hN (by decide) (by decide)
theorem hear_rg {B gr gl cl go N Tn i : Nat} {u : World} {F : Fa} {VS : Value} {L : Nat → Ln} {o : Nat → Bool} {S : Nat → Nat → Nat → Wo} (h : RiS B u gr gl cl go N F VS L o Tn S) (hi : i < N) :
    Calls Try.prog 19 #[.pointer (some ⟨(L i).b, 0, none⟩), .agg #[(insM N Tn S i 0).v, (insM N Tn S i 1).v, (insM N Tn S i 2).v, (insM N Tn S i 3).v]] u fun e v => ∃ Y H, e = .returned H.v ∧ Y.S v N i ∧ Y.b = (L i).b ∧ But (L i).b u v ∧ Heard v N i Tn S (endE (L i).nw (L i).E) (endT (L i).nw (L i).E (L i).T) Y H := by
  have hl := h.l i hi
  refine (hear_is (L i).own (L i).b N i (L i).E (L i).T (L i).nw (fun k => (insM N Tn S i k).A) (fun k => (insM N Tn S i k).m) (fun k => (insM N Tn S i k).c) (fun k => (insM N Tn S i k).R) u hl.1 (fun v hv k hk => insM_w h.s (by omega) v (h.lane_kr hi hv))).mono ?_
  rintro e v ⟨lo, mid, t, G, Ls, q1, q2, q3, q4, q5, q6, q7, q8, q9, q10⟩
  obtain ⟨R, hR⟩ := q9.rowsW q8
  exact ⟨⟨(L i).b, _, _, _, some t⟩, ⟨some ⟨G, 0, none⟩, N, N, R⟩, q6, ⟨q5.ty, fun g hg => hg.2⟩, rfl, q10, ⟨rfl, rfl, ⟨t, rfl, q4⟩, hR⟩⟩
def woL1 (H : Nat → Wo) (i : Nat) : List Value := [(H i).v]
def updW (H : Nat → Wo) (i : Nat) (X : Wo) : Nat → Wo := fun j => if j = i then X else H j
/-- What Hear knows of memory, k nodes through. -/
structure HJ (w : World) (B gr gl cl go N : Nat) (F : Fa) (VS : Value) (Tn : Nat) (S : Nat → Nat → Nat → Wo) (on o : Nat → Bool) (L : Nat → Ln) (k : Nat) (A : Option Addr) (c : Nat) (L' : Nat → Ln) (H : Nat → Wo) (oo : Nat → Bool) (u : World) : Prop where
  r : RiS B u gr gl cl go N F VS L' oo Tn S
  h : u.ownsRow w.heap.size 32 1 (.slice A k c) k (flL (woL1 H) k)
  s : ∀ j, j < k → HStep u N j Tn S (o j) (on j) (L j) (L' j) (H j)
  kr : KR B w u
  kt : KeptBut w u [138, 25, 4]
  kb : ∀ g cs, g ≠ go → Blk w g 4 cs → Blk u g 4 cs
section
variable {w u v : World} {B gr gl cl go N Tn k c : Nat} {F : Fa} {VS : Value} {S : Nat → Nat → Nat → Wo} {on o oo : Nat → Bool} {L L' : Nat → Ln} {A : Option Addr} {H : Nat → Wo} {Y : Ln}
theorem HJ.up (h : HJ w B gr gl cl go N F VS Tn S on o L k A c L' H oo u) (b : Below u.heap.size u v) : HJ w B gr gl cl go N F VS Tn S on o L k A c L' H oo v := by
  have kr := KR.below h.r.B.2.2.2 b
  exact ⟨h.r.on b, ownsF_on h.h b, fun j hj => (h.s j hj).kr kr, h.kr.trans kr, fun g t cs ht hB => (h.kt g t cs ht hB).on b, fun g cs hg hB => (h.kb g cs hg hB).on b⟩
theorem HJ.lane (h : HJ w B gr gl cl go N F VS Tn S on o L k A c L' H oo u) (hk : k < N) (b : But (L' k).b u v) (hY : Y.S v N k) (e : Y.b = (L' k).b) : HJ w B gr gl cl go N F VS Tn S on o L k A c (updL L' k Y) H oo v := by
  obtain ⟨cs, q⟩ := (h.r.l k hk).blk
  have kr := h.r.lane_kr hk b
  refine ⟨h.r.lane hk b hY e, ownsF_kept h.h (b.kept q) (by decide), fun j hj => by rw [updL_ne _ _ (by omega)]; exact (h.s j hj).kr kr, h.kr.trans kr, fun g t cs ht hB => b.kept q g t cs (fun m => ht (by simp at m ⊢; exact .inl m)) (h.kt g t cs ht hB), fun g cs hg hB => b.kept q g _ cs (by decide) (h.kb g cs hg hB)⟩
theorem HJ.put (h : HJ w B gr gl cl go N F VS Tn S on o L k A c L' H oo u) (hk : k < N) (hY : Y.S u N k) (hB : B ≤ Y.b) (hd : ∀ j, j < N → j ≠ k → Y.b ≠ (L' j).b) : HJ w B gr gl cl go N F VS Tn S on o L k A c (updL L' k Y) H oo (u.setCell ⟨gl, k, none⟩ (.pointer (some ⟨Y.b, 0, none⟩))) := by
  obtain ⟨r, kr, b⟩ := h.r.put hk hY hB hd
  obtain ⟨Z, q⟩ := h.r.p
  exact ⟨r, ownsF_kept h.h (b.kept q) (by decide), fun j hj => by rw [updL_ne _ _ (by omega)]; exact (h.s j hj).kr kr, h.kr.trans kr, fun g t cs ht hB => b.kept q g t cs (fun m => ht (by simp at m ⊢; exact .inr (.inl m))) (h.kt g t cs ht hB), fun g cs hg hB => b.kept q g _ cs (by decide) (h.kb g cs hg hB)⟩
theorem HJ.turn (h : HJ w B gr gl cl go N F VS Tn S on o L k A c L' H oo u) (hk : k < N) (x : Bool) : HJ w B gr gl cl go N F VS Tn S on o L k A c L' H (updB oo k x) (u.setCell ⟨go, k, none⟩ (.bool x)) := by
  obtain ⟨r, kr, b⟩ := h.r.turn hk x
  have q := h.r.o
  exact ⟨r, ownsF_kept h.h (b.kept q) (by decide), fun j hj => (h.s j hj).kr kr, h.kr.trans kr, fun g t cs ht hB => b.kept q g t cs (fun m => ht (by simp at m ⊢; exact .inr (.inr m))) (h.kt g t cs ht hB), fun g cs hg hB => b.blk (h.kb g cs hg hB) hg⟩
theorem HJ.app {A2 : Option Addr} {c2 : Nat} {X : Wo} (h : HJ w B gr gl cl go N F VS Tn S on o L k A c L' H oo u) (hB : B ≤ w.heap.size) (b : Below w.heap.size u v) (kt : KeptBut u v [32]) (ho : v.ownsRow w.heap.size 32 1 (.slice A2 (k + 1) c2) (k + 1) (flL (woL1 H) k ++ [X.v])) (hs : HStep v N k Tn S (o k) (on k) (L k) (L' k) X) : HJ w B gr gl cl go N F VS Tn S on o L (k + 1) A2 c2 L' (updW H k X) oo v := by
  have kr : KR B u v := KR.kept (b.mono hB) kt (by decide) (by decide)
  have e : ∀ j, j ≠ k → updW H k X j = H j := fun j hj => if_neg hj
  have e2 : updW H k X k = X := if_pos rfl
  refine ⟨h.r.kept kt kr (fun t ht => by simp at ht; subst ht; decide), ?_, fun j hj => ?_, h.kr.trans kr, fun g t cs ht hB => ?_, fun g cs hg hB => kt _ _ _ (by decide) (h.kb g cs hg hB)⟩
  · rw [flL_succ, show flL (woL1 (updW H k X)) k = flL (woL1 H) k from flL_congr fun j hj => by unfold woL1; rw [e j (by omega)], show woL1 (updW H k X) k = [X.v] by unfold woL1; rw [e2]]
    exact ho
  · by_cases hj2 : j = k
    · subst hj2; rw [e2]; exact hs
    · rw [e j hj2]; exact (h.s j (by omega)).kr kr
  · by_cases ht2 : t = 32
    · subst ht2
      have := h.kt g _ cs ht hB
      have hg : g < w.heap.size := hB.lt
      unfold Blk at this ⊢
      rw [b.block g hg]; exact this
    · exact kt g t cs (by simpa using ht2) (h.kt g t cs ht hB)
end
set_option maxRecDepth 100000 in
theorem run_bsl_rows (A : Option Addr) (n p : Nat) (u : World) : (Instr.buildSlice 78 1 #[(0, .slice A n p)]).run Try.prog u = .ok (.slice (some ⟨u.heap.size, 0, none⟩) 1 1) (u.alloc (.cells #[.slice A n p] 32)) := by kernel_rfl
set_option maxRecDepth 100000 in
theorem infoRowsE : (Try.prog.info? 32).map (fun i => (i.zero, i.size, i.bytes)) = some (some (.slice none 0 0), 1, 24) := by kernel_rfl
set_option maxRecDepth 100000 in
theorem elemRowsL : Try.prog.underlying 78 = some (.slice 32) := by kernel_rfl
set_option maxRecDepth 100000 in
theorem elemTruths : Try.prog.underlying 87 = some (.slice 4) := by kernel_rfl
set_option maxRecDepth 100000 in
theorem idxTruths {A : Option Addr} {n : Nat} (c : Nat) {k b off : Nat} (hA : A = some ⟨b, off, none⟩) (hk : k < n) (w : World) :
    (Instr.indexAt 87 (.slice A n c) (.int .i64 (k : Int))).run Try.prog w = .ok (.pointer (some ⟨b, off + k, none⟩)) w := by
  subst hA
  rw [run_indexAt_slice (h := elemTruths), if_pos (by omega), show Try.prog.elem 87 = 4 by kernel_rfl, show (sizeOf 4).run Try.prog w = .ok 1 w by kernel_rfl]
  simp [Result.andThen, Addr.add_lit]
set_option maxRecDepth 100000 in
theorem elemLanes : Try.prog.underlying 155 = some (.slice 25) := by kernel_rfl
set_option maxRecDepth 100000 in
theorem idxLanes {A : Option Addr} {n : Nat} (c : Nat) {k b off : Nat} (hA : A = some ⟨b, off, none⟩) (hk : k < n) (w : World) :
    (Instr.indexAt 155 (.slice A n c) (.int .i64 (k : Int))).run Try.prog w = .ok (.pointer (some ⟨b, off + k, none⟩)) w := by
  subst hA
  rw [run_indexAt_slice (h := elemLanes), if_pos (by omega), show Try.prog.elem 155 = 25 by kernel_rfl, show (sizeOf 25).run Try.prog w = .ok 1 w by kernel_rfl]
  simp [Result.andThen, Addr.add_lit]
/-- Hear's last region, phase by phase. -/
def HP0 (w : World) (B gr gl cl go N : Nat) (F : Fa) (VS : Value) (Tn : Nat) (S : Nat → Nat → Nat → Wo) (on o : Nat → Bool) (L : Nat → Ln) (k : Nat) (A : Option Addr) (c : Nat) (L1 : Nat → Ln) (H : Nat → Wo) (oo : Nat → Bool) (u : World) : Prop := HJ w B gr gl cl go N F VS Tn S on o L k A c L1 H oo u
def HP1 (w : World) (B gr gl cl go N : Nat) (F : Fa) (VS : Value) (Tn : Nat) (S : Nat → Nat → Nat → Wo) (on o : Nat → Bool) (L : Nat → Ln) (k : Nat) (A : Option Addr) (c : Nat) (L1 : Nat → Ln) (H : Nat → Wo) (oo : Nat → Bool) (bb : Nat) (v : Value) (u : World) : Prop := ∃ Y X, v = Wo.v X ∧ HJ w B gr gl cl go N F VS Tn S on o L k A c (updL L1 k Y) H oo u ∧ Y.b = bb ∧ Heard u N k Tn S (on0E (o k) (L k)) (on0T (o k) (L k)) Y X
def HP2 (w : World) (B gr gl cl go N : Nat) (F : Fa) (VS : Value) (Tn : Nat) (S : Nat → Nat → Nat → Wo) (on o : Nat → Bool) (L : Nat → Ln) (k : Nat) (A : Option Addr) (c : Nat) (L1 : Nat → Ln) (H : Nat → Wo) (oo : Nat → Bool) (bb : Nat) (v : Value) (u : World) : Prop := ∃ Y X g, v = .slice (some ⟨g, 0, none⟩) 1 1 ∧ Blk u g 32 #[Wo.v X] ∧ HJ w B gr gl cl go N F VS Tn S on o L k A c (updL L1 k Y) H oo u ∧ Y.b = bb ∧ Heard u N k Tn S (on0E (o k) (L k)) (on0T (o k) (L k)) Y X
def HP3 (w : World) (B gr gl cl go N : Nat) (F : Fa) (VS : Value) (Tn : Nat) (S : Nat → Nat → Nat → Wo) (on o : Nat → Bool) (L : Nat → Ln) (k : Nat) (L1 : Nat → Ln) (H : Nat → Wo) (oo : Nat → Bool) (bb : Nat) (v : Value) (u : World) : Prop := ∃ Y X A2 c2, v = .slice A2 (k + 1) c2 ∧ HJ w B gr gl cl go N F VS Tn S on o L (k + 1) A2 c2 (updL L1 k Y) (updW H k X) oo u ∧ Y.b = bb ∧ True
set_option maxRecDepth 100000 in
set_option maxHeartbeats 8000000 in
theorem ring_hear (B gr gl cl go N Tn ga : Nat) (F : Fa) (VS : Value) (L : Nat → Ln) (on o : Nat → Bool) (S : Nat → Nat → Nat → Wo) (hN : 4 ≤ N ∧ N ≤ 16) (hT : Tn ≤ 1000) (w : World) (hB : B ≤ w.heap.size) (h : RiS B w gr gl cl go N F VS L o Tn S) (hA : Blk w ga 4 (flL (trL on) N).toArray) (hga : ga ≠ go) :
    Calls Try.prog 33 #[.pointer (some ⟨gr, 0, none⟩), .slice (some ⟨ga, 0, none⟩) N N] w fun e v => ∃ (A : Option Addr) (c : Nat) (L' : Nat → Ln) (H : Nat → Wo), e = .returned (.slice A N c) ∧ HJ w B gr gl cl go N F VS Tn S on o L N A c L' H on v := by
  obtain ⟨i0, hi0, hz0, hz1, hz2⟩ := info_parts infoRowsE
  have HI := Lib.hid hi0
  have HZ0 := Lib.hid hz0
  have HZ1 := Lib.hid hz1
  have HZ2 := Lib.hid hz2
  have HBB := Lib.hid hB
  have HGA := Lib.hid hga
  have HON := Lib.hid hA
  have HNW : Hid (∀ (u : World) (k : Nat), k < N → Calls Try.prog 15 #[.int .i64 (N : Int), .int .i64 (k : Int)] u fun e w' => e = .returned (.tuple #[.pointer (some ⟨u.heap.size, 0, none⟩), .int .i64 0]) ∧ LaneS w' (fun _ => False) u.heap.size N k 0 (fun _ => tkN) none ∧ Below u.heap.size u w') := Lib.hid (fun u k hk => new_yes N k hN hk u)
  have HOFF : Hid (flL (trL on) N ++ [] = flL (trL on) N) := Lib.hid (List.append_nil _)
  have H0 : Hid (HJ w B gr gl cl go N F VS Tn S on o L 0 none 0 L (fun _ => woN) (fun j => if j < 0 then on j else o j) w) := Lib.hid ⟨by simpa using h, ownsF_nil, fun j hj => absurd hj (by omega), KR.refl _, fun _ _ _ _ h => h, fun _ _ _ h => h⟩
  clear hi0 hz0 hz1 hz2 h hA hga
  go_enter Try.func33, Try.ntmps33
  go_wp2_with fail
  go_loopw [5, 6] (fun sv iv wr => ∃ k : Nat, k ≤ N ∧ iv = .int .i64 (k : Int) ∧ ∃ (A : Option Addr) (c : Nat) (L' : Nat → Ln) (H : Nat → Wo), sv = .slice A k c ∧ Hid (HJ w B gr gl cl go N F VS Tn S on o L k A c L' H (fun j => if j < k then on j else o j) wr) ∧ Hid (∀ j, k ≤ j → L' j = L j)) (fun _ iv _ => N - (intOf iv).toNat)
  case atStart => exact ⟨0, by omega, rfl, none, 0, L, _, rfl, H0, Lib.hid fun _ _ => rfl⟩
  case round =>
    clear H0
    obtain ⟨k, hk, rfl, A, c, L', H, rfl, HJ0, HLL⟩ := hrel
    have c0 : wr.cell? ⟨gr, 0, none⟩ = some (.int .i64 (N : Int)) := HJ0.out.r.r.cell 0
    have l0 : gr < wr.heap.size := HJ0.out.r.r.lt
    by_cases hlt : k < N
    · have dk : decide ((k : Int) < (N : Int)) = true := decide_eq_true (by omega)
      obtain ⟨oo, hoo⟩ : ∃ oo : Nat → Bool, oo = fun j => if j < k then on j else o j := ⟨_, rfl⟩
      have HOO := Lib.hid hoo
      rw [← hoo] at HJ0
      have hook : oo k = o k := by rw [hoo]; simp
      clear hoo
      have hca : wr.cell? ⟨ga, k, none⟩ = some (.bool (on k)) := by
        have h1 := HJ0.out.kb ga _ HGA.out HON.out
        rw [← HOFF.out] at h1
        exact flL1_cell h1 (fun _ => rfl) hlt rfl
      have lga : ga < wr.heap.size := (HJ0.out.kb ga _ HGA.out HON.out).lt
      have c6 := (HJ0.out.r.cells hlt).2.2.1
      have cgo := (HJ0.out.r.cells hlt).2.2.2.2
      rw [hook] at cgo
      have lgo := HJ0.out.r.lts.2.2
      have fgo := HJ0.out.r.o.frozen k
      have HHK := Lib.hid hook
      clear hook
      have hix1 := fun W => idxTruths (A := some ⟨ga, 0, none⟩) (n := N) N rfl hlt W
      have hix2 := fun W => idxTruths (A := some ⟨go, 0, none⟩) (n := N) N rfl hlt W
      simp only [Nat.zero_add] at hix1 hix2
      obtain ⟨b, hb⟩ : ∃ b, b = on k := ⟨_, rfl⟩
      rw [← hb] at hca
      have HBK := Lib.hid hb
      clear hb
      cases b with
      | false =>
        go_upto_region 7 with fail
        refine wp_at (HJ w B gr gl cl go N F VS Tn S on o L k A c L' H (updB oo k false)) (HJ0.out.turn hlt false) ?_
        clear c0 l0 hca lga c6 cgo lgo fgo hix1 hix2
        intro V hV
        have HV := Lib.hid hV
        clear hV
        have HBS := Lib.hid (run_bsl_rows none 0 0 V)
        have HOV := Lib.hid (HV.out.up (below_al (Below.refl V.heap.size V) (.cells #[.slice none 0 0] 32)))
        have HNR := Lib.hid (Blk.new V 32 #[.slice none 0 0])
        have HSZ : Hid (w.heap.size ≤ V.heap.size) := Lib.hid HV.out.kr.b.size
        go_wp2_with (first
          | (refine wpList_bsl rfl 78 1 _ rfl #[(0, .slice none 0 0)] (by simp [Act.eval, Act.put]) _ _ HBS.out ?_)
          | (at_builtin; refine wpList_append_G rfl (.tmp 28) (.tmp 29) 78 rfl w.heap.size 32 i0 _ 1 24 elemRowsL HI.out HZ0.out HZ1.out HZ2.out rfl (by decide) A k c (flL (woL1 H) k) (by simp [Act.eval, Act.put]) HOV.out.h V.heap.size 1 1 [.slice none 0 0] (by simp [Act.eval, Act.put]) HNR.out rfl (by simp [Value.oneCell']) (by decide) (by unfold maxLen; omega) (by omega) (by have := HSZ.out; simp; omega) ?_; intro A2 c2 w2 hO2 hb2 hk2; have HO2 := Lib.hid hO2; have HB2 := Lib.hid hb2; have HK2 := Lib.hid hk2; clear hO2 hb2 hk2))
        go_roundw
        case rel =>
          refine ⟨k + 1, by omega, by go_num, A2, c2, L', updW H k woN, rfl, Lib.hid ?_, Lib.hid fun j hj => HLL.out j (by omega)⟩
          rw [show (fun j => if j < k + 1 then on j else o j) = updB oo k false by
            funext j
            unfold updB
            by_cases e : j = k
            · rw [if_pos (by omega), if_pos e, e]; exact HBK.out.symm
            · rw [if_neg e, HOO.out]
              by_cases e2 : j < k
              · simp [e2, show j < k + 1 by omega]
              · simp [e2, show ¬ j < k + 1 by omega]]
          exact HOV.out.app HBB.out HB2.out HK2.out HO2.out ⟨fun _ => ⟨HLL.out k (Nat.le_refl _), rfl⟩, fun e => (by rw [← HBK.out] at e; cases e)⟩
        case measure => simp [intOf]; omega
      | true =>
        have c5 := (HJ0.out.r.cells hlt).2.1
        have lgl := HJ0.out.r.lts.2.1
        have hix3 := fun W => idxLanes (A := some ⟨gl, 0, none⟩) (n := N) cl rfl hlt W
        simp only [Nat.zero_add] at hix3
        obtain ⟨b, hb⟩ : ∃ b, b = o k := ⟨_, rfl⟩
        rw [← hb] at cgo
        have HB2 := Lib.hid hb
        clear hb
        cases b with
        | true =>
          go_upto_region 12 with fail
          have HX : Hid (∃ (L1 : Nat → Ln) (oo1 : Nat → Bool), HJ w B gr gl cl go N F VS Tn S on o L k A c L1 H oo1 wr ∧ (fun j => if j < k + 1 then on j else o j) = oo1 ∧ (∀ j, k + 1 ≤ j → L1 j = L j) ∧ endE (L1 k).nw (L1 k).E = on0E (o k) (L k) ∧ endT (L1 k).nw (L1 k).E (L1 k).T = on0T (o k) (L k)) := Lib.hid ⟨L', oo, HJ0.out, by
            rw [HOO.out]
            funext j
            by_cases e : j = k
            · subst e; simp [← HBK.out, ← HB2.out]
            · by_cases e2 : j < k
              · simp [e2, show j < k + 1 by omega]
              · simp [e2, show ¬ j < k + 1 by omega], fun j hj => HLL.out j (by omega), by unfold on0E; rw [← HB2.out, if_pos rfl, HLL.out k (Nat.le_refl _)], by unfold on0T; rw [← HB2.out, if_pos rfl, HLL.out k (Nat.le_refl _)]⟩
          refine wp_at (fun U => U = wr) rfl ?_
          rintro V rfl
          obtain ⟨L1, oo1, x1, x2, x3, x4, x5⟩ := HX.out
          have HJ1 := Lib.hid x1
          have HO1 := Lib.hid x2
          have HL1 := Lib.hid x3
          have HE1 := Lib.hid x4
          have HT1 := Lib.hid x5
          obtain ⟨bb, hbb⟩ : ∃ bb, bb = (L1 k).b := ⟨_, rfl⟩
          have HQB := Lib.hid hbb
          have HTT : Hid (∀ (L2 : Nat → Ln) (k2 : Nat) (A2 : Option Addr) (c2 : Nat) (H2 : Nat → Wo) (u : World), HJ w B gr gl cl go N F VS Tn S on o L k2 A2 c2 L2 H2 oo1 u → (L2 k).b = bb → u.cell? ⟨gr, 5, none⟩ = some (.slice (some ⟨gl, 0, none⟩) N cl) ∧ u.cell? ⟨gl, k, none⟩ = some (.pointer (some ⟨bb, 0, none⟩)) ∧ gr < u.heap.size ∧ gl < u.heap.size) := Lib.hid (fun L2 k2 A2 c2 H2 u h e => ⟨(h.r.cells hlt).2.1, by rw [← e]; exact (h.r.cells hlt).2.2.2.1, h.r.lts.1, h.r.lts.2.1⟩)
          have HIN : Hid (∀ u, HJ w B gr gl cl go N F VS Tn S on o L k A c L1 H oo1 u → Calls Try.prog 63 #[.pointer (some ⟨gr, 0, none⟩), .int .i64 (k : Int)] u fun e w' => e = .returned (.agg #[(insM N Tn S k 0).v, (insM N Tn S k 1).v, (insM N Tn S k 2).v, (insM N Tn S k 3).v]) ∧ Below u.heap.size u w') := Lib.hid (fun u hu => ins_is B gr N Tn F _ _ VS S k hN hT hlt u hu.r.B.2.2.2 hu.r.r hu.r.s)
          have HHE : Hid (∀ u, HJ w B gr gl cl go N F VS Tn S on o L k A c L1 H oo1 u → Calls Try.prog 19 #[.pointer (some ⟨bb, 0, none⟩), .agg #[(insM N Tn S k 0).v, (insM N Tn S k 1).v, (insM N Tn S k 2).v, (insM N Tn S k 3).v]] u fun e v => ∃ Y X, e = .returned X.v ∧ HJ w B gr gl cl go N F VS Tn S on o L k A c (updL L1 k Y) H oo1 v ∧ Y.b = bb ∧ Heard v N k Tn S (on0E (o k) (L k)) (on0T (o k) (L k)) Y X) := Lib.hid (fun u hu => by
            rw [hbb]
            refine (hear_rg hu.r hlt).mono ?_
            rintro e v ⟨Y, X, e1, e2, e3, e4, e5⟩
            exact ⟨Y, X, e1, hu.lane hlt e4 e2 e3, e3, by rw [← HE1.out, ← HT1.out]; exact e5⟩)
          obtain ⟨IV, hIV⟩ : ∃ v : Value, v = .agg #[(insM N Tn S k 0).v, (insM N Tn S k 1).v, (insM N Tn S k 2).v, (insM N Tn S k 3).v] := ⟨_, rfl⟩
          rw [← hIV] at HIN HHE
          clear x1 x2 x3 x4 x5 HX hIV hbb
          clear c0 l0 hca lga c6 cgo lgo fgo hix1 hix2 c5 lgl hix3 HJ0 HLL HOO
          refine Reg.wp_marksY ?fr (fun tt => decide (61 ≤ tt) && decide (tt ≤ 74) || tt == 5) (fun x => ?hf) [0, 10, 11, 12, 13, 14] [5, 72, 73, 74] (Reg.Ph5 0 10 11 12 13 14 5 72 73 74 (.slice A k c) (HP0 w B gr gl cl go N F VS Tn S on o L k A c L1 H oo1) (HP1 w B gr gl cl go N F VS Tn S on o L k A c L1 H oo1 bb) (HP2 w B gr gl cl go N F VS Tn S on o L k A c L1 H oo1 bb) (HP3 w B gr gl cl go N F VS Tn S on o L k L1 H oo1 bb)) Reg.ph5_cong (Reg.ph5_0 (HJ1.out.up (Below.refl _ _).drew) rfl) (by kernel_rfl) (by kernel_rfl) (by kernel_rfl) (by kernel_rfl) (by kernel_rfl) (fun zz => Reg.tblM [
            (61, fun v => v = .slice A k c),
            (62, fun v => v = .pointer (some ⟨gr, 0, none⟩)),
            (63, fun v => v = .pointer (some ⟨gr, 0, none⟩)),
            (64, fun v => v = .pointer (some ⟨gr, 5, none⟩)),
            (65, fun v => v = .slice (some ⟨gl, 0, none⟩) N cl),
            (66, fun v => v = .int .i64 (k : Int)),
            (67, fun v => v = .pointer (some ⟨gl, k, none⟩)),
            (68, fun v => v = .pointer (some ⟨bb, 0, none⟩)),
            (69, fun v => v = .pointer (some ⟨gr, 0, none⟩)),
            (70, fun v => v = .int .i64 (k : Int)),
            (71, fun v => v = IV),
            (72, fun v => True),
            (73, fun v => True),
            (74, fun v => True),
            (5, fun v => True)] zz) ?hs ?he
          case hf =>
            simp only [Reg.frame, Reg.over, Nat.reduceAdd, Nat.reduceBEq, Nat.reduceLeDiff, decide_true, decide_false, Bool.or_true, Bool.or_false, if_true, Bool.false_eq_true, if_false, Bool.and_true, Bool.and_false]
            exact rfl
          case hs =>
            refine ⟨?_, ?_, ?_, ?_, ?_, ?_, ?_, ?_, ?_, ?_, ?_, ?_, ?_, ?_, ?_, trivial⟩
            · intro y f u hM hfi hfd hd
              obtain ⟨hv5, hz⟩ := Reg.ph5_z (by decide) (by decide) (by decide) (by decide) (by decide) hM (hfi (by decide))
              refine wpOp_step rfl fun KK hK => ?_
              simp only [hv5] at hK ⊢
              go_simp
              exact hK _ _ ⟨_, rfl, fun _ => hz 61 _ (by decide) (by decide) (by decide) (by decide), fun h => absurd (by decide) h, fun d hd => by cases hd; exact rfl⟩
            · intro y f u hM hfi hfd hd
              refine wpOp_step rfl fun KK hK => ?_
              go_simp
              exact hK _ _ ⟨_, rfl, fun h => absurd h (by decide), fun _ => rfl, fun d hd => by cases hd; exact rfl⟩
            · intro y f u hM hfi hfd hd
              have h62 : y 62 = .pointer (some ⟨gr, 0, none⟩) := hd 1 (by decide)
              obtain ⟨cr, cg, lr, lg⟩ := Reg.ph5_any (T := fun u => u.cell? ⟨gr, 5, none⟩ = some (.slice (some ⟨gl, 0, none⟩) N cl) ∧ u.cell? ⟨gl, k, none⟩ = some (.pointer (some ⟨bb, 0, none⟩)) ∧ gr < u.heap.size ∧ gl < u.heap.size) (fun u q => HTT.out _ _ _ _ _ u q HQB.out.symm) (fun v u q => by obtain ⟨Y, X, _, q1, q2, _⟩ := q; exact HTT.out _ _ _ _ _ u q1 (by rw [updL_self]; exact q2)) (fun v u q => by obtain ⟨Y, X, g, _, _, q1, q2, _⟩ := q; exact HTT.out _ _ _ _ _ u q1 (by rw [updL_self]; exact q2)) (fun v u q => by obtain ⟨Y, X, A2, c2, _, q1, q2, _⟩ := q; exact HTT.out _ _ _ _ _ u q1 (by rw [updL_self]; exact q2)) hM
              refine wpOp_step rfl fun KK hK => ?_
              simp only [h62] at hK ⊢
              go_simp
              exact hK _ _ ⟨_, rfl, fun h => absurd h (by decide), fun _ => rfl, fun d hd => by cases hd; exact rfl⟩
            · intro y f u hM hfi hfd hd
              have h63 : y 63 = .pointer (some ⟨gr, 0, none⟩) := hd 2 (by decide)
              refine wpOp_step rfl fun KK hK => ?_
              simp only [h63] at hK ⊢
              go_simp
              exact hK _ _ ⟨_, rfl, fun h => absurd h (by decide), fun _ => rfl, fun d hd => by cases hd; exact rfl⟩
            · intro y f u hM hfi hfd hd
              have h64 : y 64 = .pointer (some ⟨gr, 5, none⟩) := hd 3 (by decide)
              obtain ⟨cr, cg, lr, lg⟩ := Reg.ph5_any (T := fun u => u.cell? ⟨gr, 5, none⟩ = some (.slice (some ⟨gl, 0, none⟩) N cl) ∧ u.cell? ⟨gl, k, none⟩ = some (.pointer (some ⟨bb, 0, none⟩)) ∧ gr < u.heap.size ∧ gl < u.heap.size) (fun u q => HTT.out _ _ _ _ _ u q HQB.out.symm) (fun v u q => by obtain ⟨Y, X, _, q1, q2, _⟩ := q; exact HTT.out _ _ _ _ _ u q1 (by rw [updL_self]; exact q2)) (fun v u q => by obtain ⟨Y, X, g, _, _, q1, q2, _⟩ := q; exact HTT.out _ _ _ _ _ u q1 (by rw [updL_self]; exact q2)) (fun v u q => by obtain ⟨Y, X, A2, c2, _, q1, q2, _⟩ := q; exact HTT.out _ _ _ _ _ u q1 (by rw [updL_self]; exact q2)) hM
              refine wpOp_step rfl fun KK hK => ?_
              simp only [h64] at hK ⊢
              go_simp
              exact hK _ _ ⟨_, rfl, fun h => absurd h (by decide), fun _ => rfl, fun d hd => by cases hd; exact rfl⟩
            · intro y f u hM hfi hfd hd
              refine wpOp_step rfl fun KK hK => ?_
              go_simp
              exact hK _ _ ⟨_, rfl, fun h => absurd h (by decide), fun _ => rfl, fun d hd => by cases hd; exact rfl⟩
            · intro y f u hM hfi hfd hd
              have h65 : y 65 = .slice (some ⟨gl, 0, none⟩) N cl := hd 4 (by decide)
              have h66 : y 66 = .int .i64 (k : Int) := hd 5 (by decide)
              have hix := fun W => idxLanes (A := some ⟨gl, 0, none⟩) (n := N) cl rfl hlt W
              simp only [Nat.zero_add] at hix
              refine wpOp_step rfl fun KK hK => ?_
              simp only [h65, h66] at hK ⊢
              go_simp
              exact hK _ _ ⟨_, rfl, fun h => absurd h (by decide), fun _ => rfl, fun d hd => by cases hd; exact rfl⟩
            · intro y f u hM hfi hfd hd
              have h67 : y 67 = .pointer (some ⟨gl, k, none⟩) := hd 6 (by decide)
              obtain ⟨cr, cg, lr, lg⟩ := Reg.ph5_any (T := fun u => u.cell? ⟨gr, 5, none⟩ = some (.slice (some ⟨gl, 0, none⟩) N cl) ∧ u.cell? ⟨gl, k, none⟩ = some (.pointer (some ⟨bb, 0, none⟩)) ∧ gr < u.heap.size ∧ gl < u.heap.size) (fun u q => HTT.out _ _ _ _ _ u q HQB.out.symm) (fun v u q => by obtain ⟨Y, X, _, q1, q2, _⟩ := q; exact HTT.out _ _ _ _ _ u q1 (by rw [updL_self]; exact q2)) (fun v u q => by obtain ⟨Y, X, g, _, _, q1, q2, _⟩ := q; exact HTT.out _ _ _ _ _ u q1 (by rw [updL_self]; exact q2)) (fun v u q => by obtain ⟨Y, X, A2, c2, _, q1, q2, _⟩ := q; exact HTT.out _ _ _ _ _ u q1 (by rw [updL_self]; exact q2)) hM
              refine wpOp_step rfl fun KK hK => ?_
              simp only [h67] at hK ⊢
              go_simp
              exact hK _ _ ⟨_, rfl, fun h => absurd h (by decide), fun _ => rfl, fun d hd => by cases hd; exact rfl⟩
            · intro y f u hM hfi hfd hd
              refine wpOp_step rfl fun KK hK => ?_
              go_simp
              exact hK _ _ ⟨_, rfl, fun h => absurd h (by decide), fun _ => rfl, fun d hd => by cases hd; exact rfl⟩
            · intro y f u hM hfi hfd hd
              refine wpOp_step rfl fun KK hK => ?_
              go_simp
              exact hK _ _ ⟨_, rfl, fun h => absurd h (by decide), fun _ => rfl, fun d hd => by cases hd; exact rfl⟩
            · intro y f u hM hfi hfd hd
              have h69 : y 69 = .pointer (some ⟨gr, 0, none⟩) := hd 8 (by decide)
              have h70 : y 70 = .int .i64 (k : Int) := hd 9 (by decide)
              obtain ⟨hP0, hM10⟩ := Reg.ph5_a (by decide) (by decide) (by decide) (by decide) (by decide) hM (hfi (by decide))
              have hP : HJ w B gr gl cl go N F VS Tn S on o L k A c L1 H oo1 u := hP0
              refine wpOp_step rfl fun KK hK => ?_
              simp only [h69, h70] at hK ⊢
              go_simp
              (with_reducible refine (HIN.out _ hP).mono ?_)
              rintro e u' ⟨rfl, hb'⟩
              exact hK _ _ ⟨_, rfl, fun _ => hM10 71 _ u' (by decide) (by decide) (hP.up hb'), fun h => absurd (by decide) h, fun d hd => by cases hd; exact rfl⟩
            · intro y f u hM hfi hfd hd
              have h68 : y 68 = .pointer (some ⟨bb, 0, none⟩) := hd 7 (by decide)
              have h71 : y 71 = IV := hd 10 (by decide)
              obtain ⟨hP0, hM11⟩ := Reg.ph5_b (by decide) (by decide) (by decide) (by decide) (by decide) (by decide) hM (hfi (by decide)) (hfd 10 (by decide))
              have hP : HJ w B gr gl cl go N F VS Tn S on o L k A c L1 H oo1 u := hP0
              refine wpOp_step rfl fun KK hK => ?_
              simp only [h68, h71] at hK ⊢
              go_simp
              (with_reducible refine (HHE.out _ hP).mono ?_)
              rintro e u' ⟨Y, X, rfl, q1, q2, q3⟩
              exact hK _ _ ⟨_, rfl, fun _ => hM11 _ u' ⟨Y, X, rfl, q1, q2, q3⟩, fun h => absurd (by decide) h, fun d hd => by cases hd; exact trivial⟩
            · intro y f u hM hfi hfd hd
              obtain ⟨⟨Y, X, h72, q1, q2, q3⟩, hM12⟩ := Reg.ph5_c (by decide) (by decide) (by decide) (by decide) (by decide) (by decide) hM (hfi (by decide)) (hfd 11 (by decide))
              refine wpOp_step rfl fun KK hK => ?_
              refine Reg.step_bsl (by rfl) 78 1 _ (by rfl) #[(0, X.v)] (by simp [Act.eval, h72]) _ _ (run_bsl_rows X.A X.m X.c u) ?_
              exact hK _ _ ⟨_, rfl, fun _ => hM12 _ _ ⟨Y, X, u.heap.size, rfl, Blk.new u _ _, q1.up (below_al (Below.refl _ u) _), q2, ⟨q3.qe, q3.qt, q3.qk, q3.qh.kr (KR.below q1.r.B.2.2.2 (below_al (Below.refl _ u) _))⟩⟩, fun h => absurd (by decide) h, fun d hd => by cases hd; exact trivial⟩
            · intro y f u hM hfi hfd hd
              have h61 : y 61 = .slice A k c := hd 0 (by decide)
              obtain ⟨⟨Y, X, gb, h73, hgb, q1, q2, q3⟩, hM13⟩ := Reg.ph5_d (by decide) (by decide) (by decide) (by decide) (by decide) (by decide) hM (hfi (by decide)) (hfd 12 (by decide)) (hfd 0 (by decide))
              refine wpOp_step rfl fun KK hK => ?_
              refine Reg.step_append_G (by rfl) (.tmp 61) (.tmp 73) 78 (by rfl) w.heap.size 32 i0 _ 1 24 elemRowsL HI.out HZ0.out HZ1.out HZ2.out rfl (by decide) A k c (flL (woL1 H) k) (by exact h61) q1.h gb 1 1 [X.v] (by exact h73) hgb rfl (by simp [Wo.v, Value.oneCell']) (by decide) (by unfold maxLen; omega) (by omega) q1.kr.b.size ?_
              intro A2 c2 u' hO hb' hkt
              exact hK _ _ ⟨_, rfl, fun _ => hM13 _ u' ⟨Y, X, A2, c2, rfl, q1.app HBB.out hb' hkt hO ⟨fun e => (by rw [← HBK.out] at e; cases e), fun _ => by rw [updL_self]; exact ⟨q3.qe, q3.qt, q3.qk, q3.qh.kr (KR.kept (B := B) (hb'.mono HBB.out) hkt (by decide) (by decide))⟩⟩, q2, trivial⟩, fun h => absurd (by decide) h, fun d hd => by cases hd; exact trivial⟩
            · intro y f u hM hfi hfd hd
              have hM14 := Reg.ph5_e (by decide) (by decide) (by decide) (by decide) (by decide) (by decide) (by decide) (by decide) hM (hfd 13 (by decide))
              refine wpOp_step rfl fun KK hK => ?_
              go_simp
              exact hK _ _ ⟨_, rfl, fun _ => hM14, fun h => absurd (by decide) h, fun d hd => by cases hd; exact trivial⟩
          case he =>
            intro y u3 hM hall
            obtain ⟨Y, X, A2, c2, e5, h5, hYb, hS⟩ := Reg.ph5_end hM
            have HE5 := Lib.hid h5
            clear hM hall hS h5 HJ1
            simp only [e5]
            go_wp2_with fail
            go_roundw
            case rel => exact ⟨k + 1, by omega, by go_num, A2, c2, updL L1 k Y, updW H k X, rfl, Lib.hid (by rw [HO1.out]; exact HE5.out), Lib.hid fun j hj => by rw [updL_ne _ _ (by omega)]; exact HL1.out j (by omega)⟩
            case measure => simp [intOf]; omega
        | false =>
          go_upto_region 10 with (go_at_call 15; (with_reducible refine (HNW.out _ k hlt).mono ?_); rintro e w1 ⟨rfl, q1, q2⟩; have HQ1 := Lib.hid q1; have HQ2 := Lib.hid q2; clear q1 q2)
          obtain ⟨X, hX⟩ : ∃ X : Ln, X = ⟨wr.heap.size, fun _ => False, 0, fun _ => tkN, none⟩ := ⟨_, rfl⟩
          have hXb : wr.heap.size = X.b := by rw [hX]
          refine wp_at (fun U => HJ w B gr gl cl go N F VS Tn S on o L k A c L' H oo U ∧ X.S U N k ∧ B ≤ X.b ∧ ∀ j, j < N → j ≠ k → X.b ≠ (L' j).b) ⟨HJ0.out.up HQ2.out, by rw [hX]; exact ⟨HQ1.out, fun g hg => hg.elim⟩, by rw [← hXb]; exact HJ0.out.r.B.2.2.2, fun j hj _ => by
            obtain ⟨cs, q⟩ := (HJ0.out.r.l j hj).blk
            have := q.lt
            rw [← hXb]; omega⟩ ?_
          rw [hXb]
          have HXX := Lib.hid hX
          clear c0 l0 hca lga c6 cgo lgo fgo c5 lgl HJ0 HQ1 HQ2 hX hXb
          rintro U1 ⟨u1, u2, u3, u4⟩
          have c5 := (u1.r.cells hlt).2.1
          have l0 := u1.r.lts.1
          have lgl := u1.r.lts.2.1
          have cl0 := (u1.r.cells hlt).2.2.2.1
          have HU1 := Lib.hid u1
          have HU2 := Lib.hid u2
          have HU3 := Lib.hid u3
          have HU4 := Lib.hid u4
          have fl0 : U1.frozen? ⟨gl, k, none⟩ = false := by obtain ⟨Z, hp⟩ := u1.r.p; exact hp.frozen k
          clear u1 u2 u3 u4
          go_upto_region 11 with fail
          refine wp_at (HJ w B gr gl cl go N F VS Tn S on o L k A c (updL L' k X) H oo) (HU1.out.put hlt HU2.out HU3.out HU4.out) ?_
          clear c5 l0 lgl cl0 fl0 HU1 HU2 HU3 HU4
          intro U2 hU2
          have c6 := (hU2.r.cells hlt).2.2.1
          have cgo := (hU2.r.cells hlt).2.2.2.2
          have l0 := hU2.r.lts.1
          have lgo := hU2.r.lts.2.2
          have fgo := hU2.r.o.frozen k
          have HU2 := Lib.hid hU2
          clear hU2
          go_upto_region 12 with fail
          refine wp_at (HJ w B gr gl cl go N F VS Tn S on o L k A c (updL L' k X) H (updB oo k true)) (HU2.out.turn hlt true) ?_
          clear c6 cgo l0 lgo fgo HU2
          intro V hV
          have HX : Hid (∃ (L1 : Nat → Ln) (oo1 : Nat → Bool), HJ w B gr gl cl go N F VS Tn S on o L k A c L1 H oo1 V ∧ (fun j => if j < k + 1 then on j else o j) = oo1 ∧ (∀ j, k + 1 ≤ j → L1 j = L j) ∧ endE (L1 k).nw (L1 k).E = on0E (o k) (L k) ∧ endT (L1 k).nw (L1 k).E (L1 k).T = on0T (o k) (L k)) := Lib.hid ⟨updL L' k X, updB oo k true, hV, by
            funext j
            unfold updB
            by_cases e : j = k
            · rw [if_pos (by omega), if_pos e, e]; exact HBK.out.symm
            · rw [if_neg e, HOO.out]
              by_cases e2 : j < k
              · simp [e2, show j < k + 1 by omega]
              · simp [e2, show ¬ j < k + 1 by omega], fun j hj => by rw [updL_ne _ _ (by omega)]; exact HLL.out j (by omega), by unfold on0E; rw [← HB2.out, if_neg (by decide), updL_self, HXX.out]; rfl, by unfold on0T; rw [← HB2.out, if_neg (by decide), updL_self, HXX.out]; rfl⟩
          clear hV
          obtain ⟨L1, oo1, x1, x2, x3, x4, x5⟩ := HX.out
          have HJ1 := Lib.hid x1
          have HO1 := Lib.hid x2
          have HL1 := Lib.hid x3
          have HE1 := Lib.hid x4
          have HT1 := Lib.hid x5
          obtain ⟨bb, hbb⟩ : ∃ bb, bb = (L1 k).b := ⟨_, rfl⟩
          have HQB := Lib.hid hbb
          have HTT : Hid (∀ (L2 : Nat → Ln) (k2 : Nat) (A2 : Option Addr) (c2 : Nat) (H2 : Nat → Wo) (u : World), HJ w B gr gl cl go N F VS Tn S on o L k2 A2 c2 L2 H2 oo1 u → (L2 k).b = bb → u.cell? ⟨gr, 5, none⟩ = some (.slice (some ⟨gl, 0, none⟩) N cl) ∧ u.cell? ⟨gl, k, none⟩ = some (.pointer (some ⟨bb, 0, none⟩)) ∧ gr < u.heap.size ∧ gl < u.heap.size) := Lib.hid (fun L2 k2 A2 c2 H2 u h e => ⟨(h.r.cells hlt).2.1, by rw [← e]; exact (h.r.cells hlt).2.2.2.1, h.r.lts.1, h.r.lts.2.1⟩)
          have HIN : Hid (∀ u, HJ w B gr gl cl go N F VS Tn S on o L k A c L1 H oo1 u → Calls Try.prog 63 #[.pointer (some ⟨gr, 0, none⟩), .int .i64 (k : Int)] u fun e w' => e = .returned (.agg #[(insM N Tn S k 0).v, (insM N Tn S k 1).v, (insM N Tn S k 2).v, (insM N Tn S k 3).v]) ∧ Below u.heap.size u w') := Lib.hid (fun u hu => ins_is B gr N Tn F _ _ VS S k hN hT hlt u hu.r.B.2.2.2 hu.r.r hu.r.s)
          have HHE : Hid (∀ u, HJ w B gr gl cl go N F VS Tn S on o L k A c L1 H oo1 u → Calls Try.prog 19 #[.pointer (some ⟨bb, 0, none⟩), .agg #[(insM N Tn S k 0).v, (insM N Tn S k 1).v, (insM N Tn S k 2).v, (insM N Tn S k 3).v]] u fun e v => ∃ Y X, e = .returned X.v ∧ HJ w B gr gl cl go N F VS Tn S on o L k A c (updL L1 k Y) H oo1 v ∧ Y.b = bb ∧ Heard v N k Tn S (on0E (o k) (L k)) (on0T (o k) (L k)) Y X) := Lib.hid (fun u hu => by
            rw [hbb]
            refine (hear_rg hu.r hlt).mono ?_
            rintro e v ⟨Y, X, e1, e2, e3, e4, e5⟩
            exact ⟨Y, X, e1, hu.lane hlt e4 e2 e3, e3, by rw [← HE1.out, ← HT1.out]; exact e5⟩)
          obtain ⟨IV, hIV⟩ : ∃ v : Value, v = .agg #[(insM N Tn S k 0).v, (insM N Tn S k 1).v, (insM N Tn S k 2).v, (insM N Tn S k 3).v] := ⟨_, rfl⟩
          rw [← hIV] at HIN HHE
          clear x1 x2 x3 x4 x5 HX hIV hbb
          clear hix1 hix2 hix3 HLL HOO
          refine Reg.wp_marksY ?frB (fun tt => decide (61 ≤ tt) && decide (tt ≤ 74) || tt == 5) (fun x => ?hfB) [0, 10, 11, 12, 13, 14] [5, 72, 73, 74] (Reg.Ph5 0 10 11 12 13 14 5 72 73 74 (.slice A k c) (HP0 w B gr gl cl go N F VS Tn S on o L k A c L1 H oo1) (HP1 w B gr gl cl go N F VS Tn S on o L k A c L1 H oo1 bb) (HP2 w B gr gl cl go N F VS Tn S on o L k A c L1 H oo1 bb) (HP3 w B gr gl cl go N F VS Tn S on o L k L1 H oo1 bb)) Reg.ph5_cong (Reg.ph5_0 (HJ1.out.up (Below.refl _ _).drew) rfl) (by kernel_rfl) (by kernel_rfl) (by kernel_rfl) (by kernel_rfl) (by kernel_rfl) (fun zz => Reg.tblM [
            (61, fun v => v = .slice A k c),
            (62, fun v => v = .pointer (some ⟨gr, 0, none⟩)),
            (63, fun v => v = .pointer (some ⟨gr, 0, none⟩)),
            (64, fun v => v = .pointer (some ⟨gr, 5, none⟩)),
            (65, fun v => v = .slice (some ⟨gl, 0, none⟩) N cl),
            (66, fun v => v = .int .i64 (k : Int)),
            (67, fun v => v = .pointer (some ⟨gl, k, none⟩)),
            (68, fun v => v = .pointer (some ⟨bb, 0, none⟩)),
            (69, fun v => v = .pointer (some ⟨gr, 0, none⟩)),
            (70, fun v => v = .int .i64 (k : Int)),
            (71, fun v => v = IV),
            (72, fun v => True),
            (73, fun v => True),
            (74, fun v => True),
            (5, fun v => True)] zz) ?hsB ?heB
          case hfB =>
            simp only [Reg.frame, Reg.over, Nat.reduceAdd, Nat.reduceBEq, Nat.reduceLeDiff, decide_true, decide_false, Bool.or_true, Bool.or_false, if_true, Bool.false_eq_true, if_false, Bool.and_true, Bool.and_false]
            exact rfl
          case hsB =>
            refine ⟨?_, ?_, ?_, ?_, ?_, ?_, ?_, ?_, ?_, ?_, ?_, ?_, ?_, ?_, ?_, trivial⟩
            · intro y f u hM hfi hfd hd
              obtain ⟨hv5, hz⟩ := Reg.ph5_z (by decide) (by decide) (by decide) (by decide) (by decide) hM (hfi (by decide))
              refine wpOp_step rfl fun KK hK => ?_
              simp only [hv5] at hK ⊢
              go_simp
              exact hK _ _ ⟨_, rfl, fun _ => hz 61 _ (by decide) (by decide) (by decide) (by decide), fun h => absurd (by decide) h, fun d hd => by cases hd; exact rfl⟩
            · intro y f u hM hfi hfd hd
              refine wpOp_step rfl fun KK hK => ?_
              go_simp
              exact hK _ _ ⟨_, rfl, fun h => absurd h (by decide), fun _ => rfl, fun d hd => by cases hd; exact rfl⟩
            · intro y f u hM hfi hfd hd
              have h62 : y 62 = .pointer (some ⟨gr, 0, none⟩) := hd 1 (by decide)
              obtain ⟨cr, cg, lr, lg⟩ := Reg.ph5_any (T := fun u => u.cell? ⟨gr, 5, none⟩ = some (.slice (some ⟨gl, 0, none⟩) N cl) ∧ u.cell? ⟨gl, k, none⟩ = some (.pointer (some ⟨bb, 0, none⟩)) ∧ gr < u.heap.size ∧ gl < u.heap.size) (fun u q => HTT.out _ _ _ _ _ u q HQB.out.symm) (fun v u q => by obtain ⟨Y, X, _, q1, q2, _⟩ := q; exact HTT.out _ _ _ _ _ u q1 (by rw [updL_self]; exact q2)) (fun v u q => by obtain ⟨Y, X, g, _, _, q1, q2, _⟩ := q; exact HTT.out _ _ _ _ _ u q1 (by rw [updL_self]; exact q2)) (fun v u q => by obtain ⟨Y, X, A2, c2, _, q1, q2, _⟩ := q; exact HTT.out _ _ _ _ _ u q1 (by rw [updL_self]; exact q2)) hM
              refine wpOp_step rfl fun KK hK => ?_
              simp only [h62] at hK ⊢
              go_simp
              exact hK _ _ ⟨_, rfl, fun h => absurd h (by decide), fun _ => rfl, fun d hd => by cases hd; exact rfl⟩
            · intro y f u hM hfi hfd hd
              have h63 : y 63 = .pointer (some ⟨gr, 0, none⟩) := hd 2 (by decide)
              refine wpOp_step rfl fun KK hK => ?_
              simp only [h63] at hK ⊢
              go_simp
              exact hK _ _ ⟨_, rfl, fun h => absurd h (by decide), fun _ => rfl, fun d hd => by cases hd; exact rfl⟩
            · intro y f u hM hfi hfd hd
              have h64 : y 64 = .pointer (some ⟨gr, 5, none⟩) := hd 3 (by decide)
              obtain ⟨cr, cg, lr, lg⟩ := Reg.ph5_any (T := fun u => u.cell? ⟨gr, 5, none⟩ = some (.slice (some ⟨gl, 0, none⟩) N cl) ∧ u.cell? ⟨gl, k, none⟩ = some (.pointer (some ⟨bb, 0, none⟩)) ∧ gr < u.heap.size ∧ gl < u.heap.size) (fun u q => HTT.out _ _ _ _ _ u q HQB.out.symm) (fun v u q => by obtain ⟨Y, X, _, q1, q2, _⟩ := q; exact HTT.out _ _ _ _ _ u q1 (by rw [updL_self]; exact q2)) (fun v u q => by obtain ⟨Y, X, g, _, _, q1, q2, _⟩ := q; exact HTT.out _ _ _ _ _ u q1 (by rw [updL_self]; exact q2)) (fun v u q => by obtain ⟨Y, X, A2, c2, _, q1, q2, _⟩ := q; exact HTT.out _ _ _ _ _ u q1 (by rw [updL_self]; exact q2)) hM
              refine wpOp_step rfl fun KK hK => ?_
              simp only [h64] at hK ⊢
              go_simp
              exact hK _ _ ⟨_, rfl, fun h => absurd h (by decide), fun _ => rfl, fun d hd => by cases hd; exact rfl⟩
            · intro y f u hM hfi hfd hd
              refine wpOp_step rfl fun KK hK => ?_
              go_simp
              exact hK _ _ ⟨_, rfl, fun h => absurd h (by decide), fun _ => rfl, fun d hd => by cases hd; exact rfl⟩
            · intro y f u hM hfi hfd hd
              have h65 : y 65 = .slice (some ⟨gl, 0, none⟩) N cl := hd 4 (by decide)
              have h66 : y 66 = .int .i64 (k : Int) := hd 5 (by decide)
              have hix := fun W => idxLanes (A := some ⟨gl, 0, none⟩) (n := N) cl rfl hlt W
              simp only [Nat.zero_add] at hix
              refine wpOp_step rfl fun KK hK => ?_
              simp only [h65, h66] at hK ⊢
              go_simp
              exact hK _ _ ⟨_, rfl, fun h => absurd h (by decide), fun _ => rfl, fun d hd => by cases hd; exact rfl⟩
            · intro y f u hM hfi hfd hd
              have h67 : y 67 = .pointer (some ⟨gl, k, none⟩) := hd 6 (by decide)
              obtain ⟨cr, cg, lr, lg⟩ := Reg.ph5_any (T := fun u => u.cell? ⟨gr, 5, none⟩ = some (.slice (some ⟨gl, 0, none⟩) N cl) ∧ u.cell? ⟨gl, k, none⟩ = some (.pointer (some ⟨bb, 0, none⟩)) ∧ gr < u.heap.size ∧ gl < u.heap.size) (fun u q => HTT.out _ _ _ _ _ u q HQB.out.symm) (fun v u q => by obtain ⟨Y, X, _, q1, q2, _⟩ := q; exact HTT.out _ _ _ _ _ u q1 (by rw [updL_self]; exact q2)) (fun v u q => by obtain ⟨Y, X, g, _, _, q1, q2, _⟩ := q; exact HTT.out _ _ _ _ _ u q1 (by rw [updL_self]; exact q2)) (fun v u q => by obtain ⟨Y, X, A2, c2, _, q1, q2, _⟩ := q; exact HTT.out _ _ _ _ _ u q1 (by rw [updL_self]; exact q2)) hM
              refine wpOp_step rfl fun KK hK => ?_
              simp only [h67] at hK ⊢
              go_simp
              exact hK _ _ ⟨_, rfl, fun h => absurd h (by decide), fun _ => rfl, fun d hd => by cases hd; exact rfl⟩
            · intro y f u hM hfi hfd hd
              refine wpOp_step rfl fun KK hK => ?_
              go_simp
              exact hK _ _ ⟨_, rfl, fun h => absurd h (by decide), fun _ => rfl, fun d hd => by cases hd; exact rfl⟩
            · intro y f u hM hfi hfd hd
              refine wpOp_step rfl fun KK hK => ?_
              go_simp
              exact hK _ _ ⟨_, rfl, fun h => absurd h (by decide), fun _ => rfl, fun d hd => by cases hd; exact rfl⟩
            · intro y f u hM hfi hfd hd
              have h69 : y 69 = .pointer (some ⟨gr, 0, none⟩) := hd 8 (by decide)
              have h70 : y 70 = .int .i64 (k : Int) := hd 9 (by decide)
              obtain ⟨hP0, hM10⟩ := Reg.ph5_a (by decide) (by decide) (by decide) (by decide) (by decide) hM (hfi (by decide))
              have hP : HJ w B gr gl cl go N F VS Tn S on o L k A c L1 H oo1 u := hP0
              refine wpOp_step rfl fun KK hK => ?_
              simp only [h69, h70] at hK ⊢
              go_simp
              (with_reducible refine (HIN.out _ hP).mono ?_)
              rintro e u' ⟨rfl, hb'⟩
              exact hK _ _ ⟨_, rfl, fun _ => hM10 71 _ u' (by decide) (by decide) (hP.up hb'), fun h => absurd (by decide) h, fun d hd => by cases hd; exact rfl⟩
            · intro y f u hM hfi hfd hd
              have h68 : y 68 = .pointer (some ⟨bb, 0, none⟩) := hd 7 (by decide)
              have h71 : y 71 = IV := hd 10 (by decide)
              obtain ⟨hP0, hM11⟩ := Reg.ph5_b (by decide) (by decide) (by decide) (by decide) (by decide) (by decide) hM (hfi (by decide)) (hfd 10 (by decide))
              have hP : HJ w B gr gl cl go N F VS Tn S on o L k A c L1 H oo1 u := hP0
              refine wpOp_step rfl fun KK hK => ?_
              simp only [h68, h71] at hK ⊢
              go_simp
              (with_reducible refine (HHE.out _ hP).mono ?_)
              rintro e u' ⟨Y, X, rfl, q1, q2, q3⟩
              exact hK _ _ ⟨_, rfl, fun _ => hM11 _ u' ⟨Y, X, rfl, q1, q2, q3⟩, fun h => absurd (by decide) h, fun d hd => by cases hd; exact trivial⟩
            · intro y f u hM hfi hfd hd
              obtain ⟨⟨Y, X, h72, q1, q2, q3⟩, hM12⟩ := Reg.ph5_c (by decide) (by decide) (by decide) (by decide) (by decide) (by decide) hM (hfi (by decide)) (hfd 11 (by decide))
              refine wpOp_step rfl fun KK hK => ?_
              refine Reg.step_bsl (by rfl) 78 1 _ (by rfl) #[(0, X.v)] (by simp [Act.eval, h72]) _ _ (run_bsl_rows X.A X.m X.c u) ?_
              exact hK _ _ ⟨_, rfl, fun _ => hM12 _ _ ⟨Y, X, u.heap.size, rfl, Blk.new u _ _, q1.up (below_al (Below.refl _ u) _), q2, ⟨q3.qe, q3.qt, q3.qk, q3.qh.kr (KR.below q1.r.B.2.2.2 (below_al (Below.refl _ u) _))⟩⟩, fun h => absurd (by decide) h, fun d hd => by cases hd; exact trivial⟩
            · intro y f u hM hfi hfd hd
              have h61 : y 61 = .slice A k c := hd 0 (by decide)
              obtain ⟨⟨Y, X, gb, h73, hgb, q1, q2, q3⟩, hM13⟩ := Reg.ph5_d (by decide) (by decide) (by decide) (by decide) (by decide) (by decide) hM (hfi (by decide)) (hfd 12 (by decide)) (hfd 0 (by decide))
              refine wpOp_step rfl fun KK hK => ?_
              refine Reg.step_append_G (by rfl) (.tmp 61) (.tmp 73) 78 (by rfl) w.heap.size 32 i0 _ 1 24 elemRowsL HI.out HZ0.out HZ1.out HZ2.out rfl (by decide) A k c (flL (woL1 H) k) (by exact h61) q1.h gb 1 1 [X.v] (by exact h73) hgb rfl (by simp [Wo.v, Value.oneCell']) (by decide) (by unfold maxLen; omega) (by omega) q1.kr.b.size ?_
              intro A2 c2 u' hO hb' hkt
              exact hK _ _ ⟨_, rfl, fun _ => hM13 _ u' ⟨Y, X, A2, c2, rfl, q1.app HBB.out hb' hkt hO ⟨fun e => (by rw [← HBK.out] at e; cases e), fun _ => by rw [updL_self]; exact ⟨q3.qe, q3.qt, q3.qk, q3.qh.kr (KR.kept (B := B) (hb'.mono HBB.out) hkt (by decide) (by decide))⟩⟩, q2, trivial⟩, fun h => absurd (by decide) h, fun d hd => by cases hd; exact trivial⟩
            · intro y f u hM hfi hfd hd
              have hM14 := Reg.ph5_e (by decide) (by decide) (by decide) (by decide) (by decide) (by decide) (by decide) (by decide) hM (hfd 13 (by decide))
              refine wpOp_step rfl fun KK hK => ?_
              go_simp
              exact hK _ _ ⟨_, rfl, fun _ => hM14, fun h => absurd (by decide) h, fun d hd => by cases hd; exact trivial⟩
          case heB =>
            intro y u3 hM hall
            obtain ⟨Y, X, A2, c2, e5, h5, hYb, hS⟩ := Reg.ph5_end hM
            have HE5 := Lib.hid h5
            clear hM hall hS h5 HJ1
            simp only [e5]
            go_wp2_with fail
            go_roundw
            case rel => exact ⟨k + 1, by omega, by go_num, A2, c2, updL L1 k Y, updW H k X, rfl, Lib.hid (by rw [HO1.out]; exact HE5.out), Lib.hid fun j hj => by rw [updL_ne _ _ (by omega)]; exact HL1.out j (by omega)⟩
            case measure => simp [intOf]; omega
    · obtain rfl : k = N := by omega
      have dk : decide ((k : Int) < (k : Int)) = false := decide_eq_false (by omega)
      go_wp2_with fail
      go_ret
      refine ⟨A, c, L', H, rfl, ?_⟩
      have h1 := HJ0.out
      exact ⟨⟨h1.r.r, h1.r.p, by rw [show flL (trL on) k = flL (trL (fun j => if j < k then on j else o j)) k from flL_congr fun j hj => by show [Value.bool (on j)] = [Value.bool (if j < k then on j else o j)]; rw [if_pos hj]]; exact h1.r.o, h1.r.l, h1.r.d, h1.r.lo, h1.r.s, h1.r.B⟩, h1.h, h1.s, h1.kr, h1.kt, h1.kb⟩
end Go.Proofs.Ytcangipaoancnaa

