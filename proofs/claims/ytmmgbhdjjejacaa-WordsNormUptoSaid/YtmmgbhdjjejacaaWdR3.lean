/-
  The document's words: the contract of the reference's Norm. Conditions: the rows' reading, their tables' lengths.
-/
import Derived.Test.YtmmgbhdjjejacaaWdR2
namespace Go.Proofs.Ytmmgbhdjjejacaa
open Go.RowKit
set_option linter.unusedVariables false
set_option linter.unusedSimpArgs false

set_option maxRecDepth 100000 in
theorem elemRRows : Try.prog.underlying 29 = some (.slice 61) := by kernel_rfl
set_option maxRecDepth 100000 in
theorem sizeRRows (w : World) : (sizeOf 61).run Try.prog w = .ok 57 w := by kernel_rfl
set_option maxRecDepth 100000 in
theorem idxRRows {A : Option Addr} {n : Nat} (c : Nat) {k b off : Nat} (hA : A = some ⟨b, off, none⟩) (hk : k < n) (w : World) :
    (Instr.indexAt 29 (.slice A n c) (.int .i64 (k : Int))).run Try.prog w = .ok (.pointer (some ⟨b, off + k * 57, none⟩)) w := by
  subst hA
  rw [run_indexAt_slice (h := elemRRows), if_pos (by omega), show Try.prog.elem 29 = 61 by kernel_rfl, sizeRRows]
  simp [Result.andThen, Addr.add_lit]
/-- Rows whose tables are their own, in a list. -/
def OwnTs (w : World) (k : Nat) (Q : Nat → Rw) : Prop := ∀ i, i < k → OwnT w (Q i)
theorem OwnTs.on {w w' : World} {k : Nat} {Q : Nat → Rw} (h : OwnTs w k Q) (hb : Below w.heap.size w w') : OwnTs w' k Q := fun i hi => (h i hi).on hb
theorem OwnTs.kept {w w' : World} {k : Nat} {Q : Nat → Rw} {ts : List TypeId} (h : OwnTs w k Q) (hk : KeptBut w w' ts) (ht : 133 ∉ ts) : OwnTs w' k Q := fun i hi => (h i hi).kept hk ht
/-- The boxes of Norm: the word, the result, what is to be; its rows. -/
structure NB (w : World) (A : Option Addr) (m c k : Nat) (A' : Option Addr) (c' : Nat) (Q : Nat → Rw) (U : World) : Prop where
  x : Blk U w.heap.size 31 #[.slice A m c]
  z : Blk U (w.heap.size + 1) 31 #[.slice none 0 0]
  q : Blk U (w.heap.size + 1 + 1) 31 #[.slice A' k c']
  r : U.ownsRow (w.heap.size + 3) 61 57 (.slice A' k c') k (flL (fun i => (Q i).l) k)
  t : OwnTs U k Q
  b : Below w.heap.size w U
theorem NB.on {w U V : World} {A A' : Option Addr} {m c k c' : Nat} {Q : Nat → Rw} (h : NB w A m c k A' c' Q U) (b : Below U.heap.size U V) : NB w A m c k A' c' Q V := ⟨h.x.on b, h.z.on b, h.q.on b, ownsF_on h.r b, h.t.on b, below_then h.b b⟩
theorem NB.lt {w U : World} {A A' : Option Addr} {m c k c' : Nat} {Q : Nat → Rw} (h : NB w A m c k A' c' Q U) : w.heap.size + 2 < U.heap.size := h.q.lt
theorem NB.but {w U V : World} {A A' : Option Addr} {m c k c' g : Nat} {Q : Nat → Rw} {cs : Array Value} (h : NB w A m c k A' c' Q U) (hB : Blk U g 61 cs) (b : But g U V) (hg : w.heap.size + 2 < g) (hne : ∀ q, A' = some ⟨q, 0, none⟩ → q ≠ g) : NB w A m c k A' c' Q V :=
  ⟨b.blk h.x (by omega), b.blk h.z (by omega), b.blk h.q (by omega), ownsF_but h.r b hne, h.t.kept (b.kept hB) (by decide), h.b.trans (b.low (by omega))⟩
/-- .. and a row in a block of its own. -/
structure NH (w : World) (A : Option Addr) (m c k : Nat) (A' : Option Addr) (c' : Nat) (Q : Nat → Rw) (h : Nat) (X : List Value) (U : World) : Prop where
  n : NB w A m c k A' c' Q U
  s : PIn U h 0 61 [] [] X
  ne : ∀ q, A' = some ⟨q, 0, none⟩ → q ≠ h
  lo : w.heap.size + 2 < h
theorem NB.start (w : World) (A : Option Addr) (m c : Nat) (Q : Nat → Rw) : NB w A m c 0 none 0 Q (((w.alloc (.cells #[.slice A m c] 31)).alloc (.cells #[.slice none 0 0] 31)).alloc (.cells #[.slice none 0 0] 31)) := by
  refine ⟨((Blk.new w _ _).alloc _).alloc _, ?_, ?_, ownsF_nil, fun i hi => absurd hi (by omega), below_al (below_al (below_al (Below.refl _ w) _) _) _⟩
  · have := (Blk.new (w.alloc (.cells #[.slice A m c] 31)) 31 #[.slice none 0 0]).alloc (.cells #[.slice none 0 0] 31)
    rwa [alloc_size] at this
  · have := Blk.new ((w.alloc (.cells #[.slice A m c] 31)).alloc (.cells #[.slice none 0 0] 31)) 31 #[.slice none 0 0]
    rwa [alloc_size, alloc_size] at this
theorem NB.set_ {w U : World} {A A' : Option Addr} {m c k c' : Nat} {Q2 : Nat → Rw} (hx : Blk U w.heap.size 31 #[.slice A m c]) (hz : Blk U (w.heap.size + 1) 31 #[.slice none 0 0]) (hq : Blk U (w.heap.size + 1 + 1) 31 #[.slice A' k c']) (hb : Below w.heap.size w U) (A2 : Option Addr) (c2 j : Nat) (h2 : U.ownsRow (w.heap.size + 3) 61 57 (.slice A2 j c2) j (flL (fun i => (Q2 i).l) j)) (ht : OwnTs U j Q2) : NB w A m c j A2 c2 Q2 (U.setCell ⟨w.heap.size + 1 + 1, 0, none⟩ (.slice A2 j c2)) := by
  have b := But.one (u := U) (g := w.heap.size + 1 + 1) 0 (.slice A2 j c2)
  exact ⟨b.blk hx (by omega), b.blk hz (by omega), hq.set_ 0 _, ownsF_but h2 b (fun g hg => by have := ownsF_lt h2 hg; omega), ht.kept (b.kept hq) (by decide), hb.trans (b.low (by omega))⟩
set_option maxRecDepth 100000 in
set_option maxHeartbeats 1000000 in
theorem rnorm_bad (N : Int) (hN : nmB N = false) (A : Option Addr) (m c : Nat) (w : World) :
    Calls Try.prog 15 #[.int .i64 N, .agg #[.slice A m c]] w fun e w' => e = .returned (.agg #[.slice none 0 0]) ∧ Below w.heap.size w w' := by
  have HN := Lib.hid hN
  clear hN
  go_enter Try.func15, Try.ntmps15
  go_upto_region 2 with fail
  refine wp_at (NB w A m c 0 none 0 (fun _ => rwN)) (NB.start _ _ _ _ _) ?_
  intro U hU
  have HU := Lib.hid hU
  clear hU
  go_wp2_with fail
  go_loopw [6] (fun s wr => s = .int .i64 0 ∧ Hid (NB w A m c 0 none 0 (fun _ => rwN) wr)) (fun s _ => 0)
  case atStart => exact ⟨rfl, HU⟩
  case round =>
    obtain ⟨rfl, HB⟩ := hrel
    have cq : wr.cell? ⟨w.heap.size + 1 + 1, 0, none⟩ = some (.slice none 0 0) := (HB.out.q.cell 0).trans rfl
    have cz : wr.cell? ⟨w.heap.size + 1, 0, none⟩ = some (.slice none 0 0) := (HB.out.z.cell 0).trans rfl
    have fz := HB.out.z.frozen 0
    have lq := HB.out.q.lt
    have lz := HB.out.z.lt
    have b := But.one (u := wr) (g := w.heap.size + 1) 0 (.slice none 0 0)
    have HBL := Lib.hid (HB.out.b.trans (b.low (by omega)))
    clear b
    by_cases h0 : 0 < N
    · have h1 : ¬ N ≤ 16 := by have := HN.out; unfold nmB at this; simp at this; omega
      go_wp2_with fail
      exact bodyPost_ret (v := .agg #[.slice none 0 0]) (by simp [results, Try.results15, go_sem, cz, lz]) rfl ⟨rfl, HBL.out⟩
    · go_wp2_with fail
      exact bodyPost_ret (v := .agg #[.slice none 0 0]) (by simp [results, Try.results15, go_sem, cz, lz]) rfl ⟨rfl, HBL.out⟩
set_option maxRecDepth 100000 in
set_option maxHeartbeats 4000000 in
theorem rnorm_yes (n : Nat) (hn : n ≤ 16) (A : Option Addr) (m c : Nat) (hm : m ≤ 65536) (R : Nat → Rw) (hRn : ∀ i, i < m → (R i).n ≤ 65536) (w : World) (hR : LiesR w w.heap.size A m R) :
    Calls Try.prog 15 #[.int .i64 (n : Int), .agg #[.slice A m c]] w fun e w' => ∃ A' c' Q, e = .returned (.agg #[.slice A' n c']) ∧ w'.ownsRow w.heap.size 61 57 (.slice A' n c') n (flL (fun i => (Q i).l) n) ∧ OwnTs w' n Q ∧ (∀ i, i < n → (Q i).ro = plR n (fitF R m rwN i).ro) ∧ Below w.heap.size w w' := by
  have HR := Lib.hid hR
  have HRN := Lib.hid hRn
  have HN := Lib.hid hn
  have HM := Lib.hid hm
  obtain ⟨i0, hi0, hz0, hz1, hz2⟩ := info_parts infoRRow
  have HI := Lib.hid hi0
  have HZ0 := Lib.hid hz0
  have HZ1 := Lib.hid hz1
  have HZ2 := Lib.hid hz2
  clear hR hRn hm hi0 hz0 hz1 hz2
  go_enter Try.func15, Try.ntmps15
  go_upto_region 2 with fail
  refine wp_at (NB w A m c 0 none 0 (fun _ => rwN)) (NB.start _ _ _ _ _) ?_
  intro U hU
  have HU := Lib.hid hU
  clear hU
  go_wp2_with fail
  go_loopw [6] (fun s wr => ∃ k : Nat, k ≤ n ∧ s = .int .i64 (k : Int) ∧ ∃ (A' : Option Addr) (c' : Nat) (Q : Nat → Rw), Hid (NB w A m c k A' c' Q wr) ∧ Hid (∀ i, i < k → (Q i).ro = plR n (fitF R m rwN i).ro)) (fun s _ => n - (intOf s).toNat)
  case atStart => exact ⟨0, by omega, rfl, none, 0, _, HU, Lib.hid fun i hi => absurd hi (by omega)⟩
  case round =>
    clear HU
    obtain ⟨k, hk, rfl, A', c', Q, HB, HQ⟩ := hrel
    by_cases hlt : k < n
    · have HZN : Hid (∀ Z : Array Value, Z.size = 57 → PIn (wr.alloc (.cells Z 61)) wr.heap.size 0 61 [] [] Z.toList ∧ Z.toList.length = 57) := Lib.hid (fun Z hZ => ⟨Blk.pin (by simpa using Blk.new wr 61 Z), by simpa using hZ⟩)
      have hlo := HB.out.lt
      have e1 : (n : Int) ≤ 16 := by omega
      go_upto_region 6 with (refine wpList_store_pin rfl 61 (.tmp 7) (.tmp 18) rfl (HZN.out _ rfl).1 (roL false ceN none 0 0) (by simp [Act.eval, Act.put]) (by kernel_rfl) 57 size_rrow (HZN.out _ rfl).2 (roL_len _ _ _ _ _) (roL_one _ _ _ _ _) ?_; intro w1 p1 b1; have HP1 := Lib.hid p1; have HB1 := Lib.hid b1; clear p1 b1)
      refine wp_at (NH w A m c k A' c' Q wr.heap.size (roL false ceN none 0 0)) (by
        have hne : ∀ q, A' = some ⟨q, 0, none⟩ → q ≠ wr.heap.size := fun q hq => by have := ownsF_lt HB.out.r hq; omega
        exact ⟨(HB.out.on (below_al (Below.refl _ wr) _)).but (Blk.new wr 61 _) HB1.out hlo hne, HP1.out, hne, hlo⟩) ?_
      intro U hU
      obtain ⟨h, hh⟩ : ∃ h, h = wr.heap.size := ⟨_, rfl⟩
      rw [← hh] at hU ⊢
      clear hh HZN HP1 HB1 hlo HB
      have HU := Lib.hid hU
      have cx : U.cell? ⟨w.heap.size, 0, none⟩ = some (.slice A m c) := (hU.n.x.cell 0).trans rfl
      have lx := hU.n.x.lt
      have lq := hU.n.q.lt
      have lh := hU.s.lt
      clear hU
      by_cases hkm : k < m
      · obtain ⟨tb, toff, rfl, htb, hct⟩ := HR.out.f (by omega)
        have hix := fun W => idxRRows (A := some ⟨tb, toff, none⟩) (n := m) c rfl hkm W
        have HRG : Hid (U.rangeAt tb (toff + k * 57) (R k).l) := Lib.hid (fun j v hv => (HU.out.n.b.cell (p := ⟨tb, _, none⟩) htb).trans (hct k hkm j v hv))
        have HTR : Hid (LiesH U U.heap.size (R k).A (R k).n (R k).T) := Lib.hid (((HR.out.t k hkm).low HU.out.n.b).up HU.out.n.b.size)
        have HRK := Lib.hid (HRN.out k hkm)
        clear hct htb
        go_upto_region 8 with (first
          | (refine wpList_load_mid rfl 61 (.tmp 28) rfl tb (toff + k * 57) (by simp [Act.eval, Act.put]) (R k).l _ HRG.out Try.underlying61 rfl (by rw [size_rrow, Rw.l_len]) ?_)
          | (go_at_call 25; (with_reducible refine (rplain_any _ n rfl HN.out (R k) HRK.out _ HTR.out).mono ?_); rintro e w1 ⟨X, rfl, x1, x2, x3⟩; have HX1 := Lib.hid x1; have HX2 := Lib.hid x2; have HX3 := Lib.hid x3; have hs1 := (HU.out.s.on x3).lt; clear x1 x2 x3)
          | (refine wpList_store_pin rfl 61 (.tmp 7) (.tmp 30) rfl (HU.out.s.on HX3.out) X.l (by simp [Act.eval, Act.put]) (by simp [Act.eval, Act.put]) 57 size_rrow (roL_len _ _ _ _ _) X.l_len (roL_one _ _ _ _ _) ?_; intro w2 p2 b2; have HP2 := Lib.hid p2; have HB2 := Lib.hid b2; clear p2 b2 hs1))
        refine wp_at (fun V => ∃ X : Rw, NH w (some ⟨tb, toff, none⟩) m c k A' c' Q h X.l V ∧ X.ro = plR n (fitF R m rwN k).ro ∧ OwnT V X) ⟨X, ⟨(HU.out.n.on HX3.out).but (HU.out.s.on HX3.out).blk HB2.out HU.out.lo HU.out.ne, HP2.out, HU.out.ne, HU.out.lo⟩, by rw [HX1.out]; simp [fitF, hkm], HX2.out.kept (HB2.out.kept (HU.out.s.on HX3.out).blk) (by decide)⟩ ?_
        clear cx lx lq lh HU HRG HTR HRK HX1 HX2 HX3 HP2 HB2
        intro U2 hU2
        obtain ⟨X, hX⟩ := hU2
        have HU2 := Lib.hid hX.1
        have HX2 := Lib.hid hX.2.1
        have HX3 := Lib.hid hX.2.2
        have cq : U2.cell? ⟨w.heap.size + 1 + 1, 0, none⟩ = some (.slice A' k c') := (hX.1.n.q.cell 0).trans rfl
        have lq2 := hX.1.n.q.lt
        have lh2 := hX.1.s.lt
        clear hX
        have HBS := Lib.hid (run_bsl_one (P := Try.prog) U2 29 61 i0 (roL false ceN none 0 0) 57 elemRRows HI.out HZ0.out HZ1.out (roL_len _ _ _ _ _) (by decide) (by decide) X.l X.l_len)
        have HNB := Lib.hid (HU2.out.n.on (below_al (Below.refl _ U2) (.cells X.l.toArray 61)))
        have HNR := Lib.hid (Blk.new U2 61 X.l.toArray)
        have HXT := Lib.hid (OwnT.on HX3.out (below_al (Below.refl _ U2) (.cells X.l.toArray 61)))
        go_wp2_with (first
          | (refine wpList_load_pin rfl 61 (.tmp 7) rfl HU2.out.s (by simp [Act.eval, Act.put]) _ Try.underlying61 rfl 57 size_rrow X.l_len ?_)
          | (refine wpList_bsl rfl 29 1 _ rfl #[(0, .agg X.l.toArray)] (by simp [Act.eval, Act.put]) _ _ HBS.out ?_)
          | (at_builtin; refine wpList_append_G rfl (.tmp 32) (.tmp 34) 29 rfl (w.heap.size + 3) 61 i0 _ 57 160 elemRRows HI.out HZ0.out HZ1.out HZ2.out (by simp [Value.cells, roL_len]) (by decide) A' k c' _ (by simp [Act.eval, Act.put]) HNB.out.r U2.heap.size 1 1 X.l (by simp [Act.eval, Act.put]) HNR.out X.l_len (roL_one _ _ _ _ _) (by decide) (by unfold maxLen; omega) (by omega) (by simp; omega) ?_; intro A2 c2 w2 hO2 hb2 hk2; have HO2 := Lib.hid hO2; have HB2 := Lib.hid hb2; have HK2 := Lib.hid hk2; have cq' : w2.cell? ⟨w.heap.size + 1 + 1, 0, none⟩ = some (.slice A' k c') := ((HNB.out.q.below hb2 (by omega)).cell 0).trans rfl; have fq' := (HNB.out.q.below hb2 (by omega)).frozen 0; have lq' := (HNB.out.q.below hb2 (by omega)).lt; clear hO2 hb2 hk2))
        go_roundw
        case rel =>
          refine ⟨k + 1, by omega, by go_num, A2, c2, fun i => if i = k then X else Q i, Lib.hid (NB.set_ (HNB.out.x.below HB2.out (by omega)) (HNB.out.z.below HB2.out (by omega)) (HNB.out.q.below HB2.out (by omega)) (HNB.out.b.trans (HB2.out.mono (by omega))) A2 c2 (k + 1) ?_ ?_), Lib.hid ?_⟩
          · have := HO2.out
            rw [show flL (fun i => (Q i).l) k ++ X.l = flL (fun i => ((if i = k then X else Q i : Rw)).l) (k + 1) by rw [flL_succ, if_pos rfl]; congr 1; exact flL_congr fun i hi => by rw [if_neg (by omega)]] at this
            exact this
          · intro i hi
            by_cases e : i = k
            · simp only [e, if_true]; exact HXT.out.kept HK2.out (by decide)
            · simp only [e, if_false]; exact (HNB.out.t i (by omega)).kept HK2.out (by decide)
          · intro i hi
            by_cases e : i = k
            · simp only [e, if_true]; exact HX2.out
            · simp only [e, if_false]; exact HQ.out i (by omega)
        case measure => simp [intOf]; omega
      · go_upto_region 8 with fail
        refine wp_at (fun V => ∃ X : Rw, NH w _ m c k A' c' Q h X.l V ∧ X.ro = plR n (fitF R m rwN k).ro ∧ OwnT V X) ⟨rwN, HU.out, by simp [fitF, hkm, plR, rwN, Rw.ro, roN], OwnT.nil_ _ _ _⟩ ?_
        clear cx lx lq lh HU
        intro U2 hU2
        obtain ⟨X, hX⟩ := hU2
        have HU2 := Lib.hid hX.1
        have HX2 := Lib.hid hX.2.1
        have HX3 := Lib.hid hX.2.2
        have cq : U2.cell? ⟨w.heap.size + 1 + 1, 0, none⟩ = some (.slice A' k c') := (hX.1.n.q.cell 0).trans rfl
        have lq2 := hX.1.n.q.lt
        have lh2 := hX.1.s.lt
        clear hX
        have HBS := Lib.hid (run_bsl_one (P := Try.prog) U2 29 61 i0 (roL false ceN none 0 0) 57 elemRRows HI.out HZ0.out HZ1.out (roL_len _ _ _ _ _) (by decide) (by decide) X.l X.l_len)
        have HNB := Lib.hid (HU2.out.n.on (below_al (Below.refl _ U2) (.cells X.l.toArray 61)))
        have HNR := Lib.hid (Blk.new U2 61 X.l.toArray)
        have HXT := Lib.hid (OwnT.on HX3.out (below_al (Below.refl _ U2) (.cells X.l.toArray 61)))
        go_wp2_with (first
          | (refine wpList_load_pin rfl 61 (.tmp 7) rfl HU2.out.s (by simp [Act.eval, Act.put]) _ Try.underlying61 rfl 57 size_rrow X.l_len ?_)
          | (refine wpList_bsl rfl 29 1 _ rfl #[(0, .agg X.l.toArray)] (by simp [Act.eval, Act.put]) _ _ HBS.out ?_)
          | (at_builtin; refine wpList_append_G rfl (.tmp 32) (.tmp 34) 29 rfl (w.heap.size + 3) 61 i0 _ 57 160 elemRRows HI.out HZ0.out HZ1.out HZ2.out (by simp [Value.cells, roL_len]) (by decide) A' k c' _ (by simp [Act.eval, Act.put]) HNB.out.r U2.heap.size 1 1 X.l (by simp [Act.eval, Act.put]) HNR.out X.l_len (roL_one _ _ _ _ _) (by decide) (by unfold maxLen; omega) (by omega) (by simp; omega) ?_; intro A2 c2 w2 hO2 hb2 hk2; have HO2 := Lib.hid hO2; have HB2 := Lib.hid hb2; have HK2 := Lib.hid hk2; have cq' : w2.cell? ⟨w.heap.size + 1 + 1, 0, none⟩ = some (.slice A' k c') := ((HNB.out.q.below hb2 (by omega)).cell 0).trans rfl; have fq' := (HNB.out.q.below hb2 (by omega)).frozen 0; have lq' := (HNB.out.q.below hb2 (by omega)).lt; clear hO2 hb2 hk2))
        go_roundw
        case rel =>
          refine ⟨k + 1, by omega, by go_num, A2, c2, fun i => if i = k then X else Q i, Lib.hid (NB.set_ (HNB.out.x.below HB2.out (by omega)) (HNB.out.z.below HB2.out (by omega)) (HNB.out.q.below HB2.out (by omega)) (HNB.out.b.trans (HB2.out.mono (by omega))) A2 c2 (k + 1) ?_ ?_), Lib.hid ?_⟩
          · have := HO2.out
            rw [show flL (fun i => (Q i).l) k ++ X.l = flL (fun i => ((if i = k then X else Q i : Rw)).l) (k + 1) by rw [flL_succ, if_pos rfl]; congr 1; exact flL_congr fun i hi => by rw [if_neg (by omega)]] at this
            exact this
          · intro i hi
            by_cases e : i = k
            · simp only [e, if_true]; exact HXT.out.kept HK2.out (by decide)
            · simp only [e, if_false]; exact (HNB.out.t i (by omega)).kept HK2.out (by decide)
          · intro i hi
            by_cases e : i = k
            · simp only [e, if_true]; exact HX2.out
            · simp only [e, if_false]; exact HQ.out i (by omega)
        case measure => simp [intOf]; omega
    · obtain rfl : k = n := by omega
      have cq : wr.cell? ⟨w.heap.size + 1 + 1, 0, none⟩ = some (.slice A' k c') := (HB.out.q.cell 0).trans rfl
      have cz : wr.cell? ⟨w.heap.size + 1, 0, none⟩ = some (.slice none 0 0) := (HB.out.z.cell 0).trans rfl
      have fz := HB.out.z.frozen 0
      have lq := HB.out.q.lt
      have lz := HB.out.z.lt
      go_wp2_with fail
      have b := But.one (u := wr) (g := w.heap.size + 1) 0 (.slice A' k c')
      exact bodyPost_ret (v := .agg #[.slice A' k c']) (by simp [results, Try.results15, go_sem, cz, lz]) rfl ⟨A', c', Q, rfl, ownsF_mono (ownsF_but HB.out.r b (fun g hg => by have := ownsF_lt HB.out.r hg; omega)) (by omega), HB.out.t.kept (b.kept HB.out.z) (by decide), HQ.out, HB.out.b.trans (b.low (by omega))⟩
end Go.Proofs.Ytmmgbhdjjejacaa

