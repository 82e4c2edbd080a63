/-
  The law's words on words: the contracts of TwinWord, LeftWord. Conditions: the words' readings, their lengths.
-/
import Derived.Test.YtdbljggjddnjcaaWdN1
namespace Go.Proofs.Ytdbljggjddnjcaa
open Go.RowKit
set_option linter.unusedVariables false
set_option linter.unusedSimpArgs false

def twl (a : Rw) (g : Nat) : List Value := roL a.b a.c (some ⟨g, 0, none⟩) a.n (a.n + 2)
def twr (a : Rw) (g : Nat) : Rw := ⟨a.b, a.c, some ⟨g, 0, none⟩, a.n, a.n + 2, a.T⟩
theorem twl_len (a : Rw) (g : Nat) : (twl a g).length = 57 := roL_len _ _ _ _ _
theorem twl_one (a : Rw) (g : Nat) : ∀ v ∈ twl a g, v.oneCell' = true := roL_one _ _ _ _ _
/-- Twins of rows, each table in a block from lo on. -/
def Tws (w : World) (lo k : Nat) (R : Nat → Rw) (G : Nat → Nat) : Prop := ∀ i, i < k → TwH w (G i) (R i).n (R i).T ∧ lo ≤ G i
theorem Tws.on {w w' : World} {lo k : Nat} {R : Nat → Rw} {G : Nat → Nat} (h : Tws w lo k R G) (hb : Below w.heap.size w w') : Tws w' lo k R G := fun i hi => ⟨(h i hi).1.on hb, (h i hi).2⟩
theorem TwH.kept {w w' : World} {g n : Nat} {T : Nat → He} {ts : List TypeId} (h : TwH w g n T) (hk : KeptBut w w' ts) (ht : 118 ∉ ts) : TwH w' g n T := ownsF_kept h hk ht
/-- The boxes of TwinWord: the word, the result, what is to be; its rows. -/
structure TB (w : World) (A : Option Addr) (m c k : Nat) (A' : Option Addr) (c' : Nat) (R : Nat → Rw) (G : Nat → Nat) (U : World) : Prop where
  x : Blk U w.heap.size 34 #[.slice A m c]
  z : Blk U (w.heap.size + 1) 34 #[.slice none 0 0]
  q : Blk U (w.heap.size + 1 + 1) 34 #[.slice A' k c']
  r : U.ownsRow (w.heap.size + 3) 54 57 (.slice A' k c') k (flL (fun i => twl (R i) (G i)) k)
  t : Tws U w.heap.size k R G
  b : Below w.heap.size w U
theorem TB.on {w U V : World} {A A' : Option Addr} {m c k c' : Nat} {R : Nat → Rw} {G : Nat → Nat} (h : TB w A m c k A' c' R G U) (b : Below U.heap.size U V) : TB w A m c k A' c' R G V := ⟨h.x.on b, h.z.on b, h.q.on b, ownsF_on h.r b, h.t.on b, below_then h.b b⟩
theorem TB.lt {w U : World} {A A' : Option Addr} {m c k c' : Nat} {R : Nat → Rw} {G : Nat → Nat} (h : TB w A m c k A' c' R G U) : w.heap.size + 2 < U.heap.size := h.q.lt
theorem TB.start (w : World) (A : Option Addr) (m c : Nat) (R : Nat → Rw) (G : Nat → Nat) : TB w A m c 0 none 0 R G (((w.alloc (.cells #[.slice A m c] 34)).alloc (.cells #[.slice none 0 0] 34)).alloc (.cells #[.slice none 0 0] 34)) := by
  refine ⟨((Blk.new w _ _).alloc _).alloc _, ?_, ?_, ownsF_nil, fun i hi => absurd hi (by omega), below_al (below_al (below_al (Below.refl _ w) _) _) _⟩
  · have := (Blk.new (w.alloc (.cells #[.slice A m c] 34)) 34 #[.slice none 0 0]).alloc (.cells #[.slice none 0 0] 34)
    rwa [alloc_size] at this
  · have := Blk.new ((w.alloc (.cells #[.slice A m c] 34)).alloc (.cells #[.slice none 0 0] 34)) 34 #[.slice none 0 0]
    rwa [alloc_size, alloc_size] at this
theorem TB.set_ {w U : World} {A A' : Option Addr} {m c k c' : Nat} {R : Nat → Rw} {G : Nat → Nat} (hx : Blk U w.heap.size 34 #[.slice A m c]) (hz : Blk U (w.heap.size + 1) 34 #[.slice none 0 0]) (hq : Blk U (w.heap.size + 1 + 1) 34 #[.slice A' k c']) (hb : Below w.heap.size w U) (A2 : Option Addr) (c2 j : Nat) (h2 : U.ownsRow (w.heap.size + 3) 54 57 (.slice A2 j c2) j (flL (fun i => twl (R i) (G i)) j)) (ht : Tws U w.heap.size j R G) : TB w A m c j A2 c2 R G (U.setCell ⟨w.heap.size + 1 + 1, 0, none⟩ (.slice A2 j c2)) := by
  have b := But.one (u := U) (g := w.heap.size + 1 + 1) 0 (.slice A2 j c2)
  exact ⟨b.blk hx (by omega), b.blk hz (by omega), hq.set_ 0 _, ownsF_but h2 b (fun g hg => by have := ownsF_lt h2 hg; omega), fun i hi => ⟨(ht i hi).1.kept (b.kept hq) (by decide), (ht i hi).2⟩, hb.trans (b.low (by omega))⟩
def Reg.FactK.twr {B : Nat} {Js : List (World → Prop)} (r : Rw) (lo : Nat) : Reg.FactK (Reg.KJ B [] Js) := ⟨fun v w => ∃ g, v = .agg (twl r g).toArray ∧ lo ≤ g ∧ TwH w g r.n r.T, fun _ _ _ hb h => by
  obtain ⟨g, e, hg, ht⟩ := h
  exact ⟨g, e, hg, ht.on hb.top⟩⟩
def Reg.FactK.bx1 {B : Nat} {Js : List (World → Prop)} (r : Rw) (lo : Nat) : Reg.FactK (Reg.KJ B [] Js) := ⟨fun v w => ∃ b g, v = .slice (some ⟨b, 0, none⟩) 1 1 ∧ Blk w b 54 (twl r g).toArray ∧ lo ≤ g ∧ TwH w g r.n r.T, fun _ _ _ hb h => by
  obtain ⟨b, g, e, hB, hg, ht⟩ := h
  exact ⟨b, g, e, hB.on hb.top, hg, ht.on hb.top⟩⟩
set_option maxRecDepth 100000 in
set_option maxHeartbeats 4000000 in
theorem twinword_is (A : Option Addr) (m c : Nat) (hm : m ≤ 65536) (R : Nat → Rw) (hRn : ∀ i, i < m → (R i).n ≤ 65536) (w : World) (hR : LiesR w w.heap.size A m R) :
    Calls Try.prog 15 #[.agg #[.slice A m c]] w fun e w' => ∃ (A' : Option Addr) (c' : Nat) (G : Nat → Nat), e = .returned (.agg #[.slice A' m c']) ∧ w'.ownsRow w.heap.size 54 57 (.slice A' m c') m (flL (fun i => twl (R i) (G i)) m) ∧ Tws w' w.heap.size m R G ∧ Below w.heap.size w w' := by
  have HR := Lib.hid hR
  have HRN := Lib.hid hRn
  obtain ⟨i0, hi0, hz0, hz1, hz2⟩ := info_parts infoRow
  have HI := Lib.hid hi0
  have HZ0 := Lib.hid hz0
  have HZ1 := Lib.hid hz1
  have HZ2 := Lib.hid hz2
  clear hR hRn hi0 hz0 hz1 hz2
  go_enter Try.func15, Try.ntmps15
  go_upto_region 2 with fail
  refine wp_at (TB w A m c 0 none 0 R (fun _ => 0)) (TB.start _ _ _ _ _ _) ?_
  intro U hU
  have HU := Lib.hid hU
  clear hU
  go_wp2_with fail
  go_loopw [4] (fun s wr => ∃ k : Nat, k ≤ m ∧ s = .int .i64 (k : Int) ∧ ∃ (A' : Option Addr) (c' : Nat) (G : Nat → Nat), Hid (TB w A m c k A' c' R G wr)) (fun s _ => m - (intOf s).toNat)
  case atStart => exact ⟨0, by omega, rfl, none, 0, _, HU⟩
  case round =>
    clear HU
    obtain ⟨k, hk, rfl, A', c', G, HB⟩ := hrel
    have cx : wr.cell? ⟨w.heap.size, 0, none⟩ = some (.slice A m c) := (HB.out.x.cell 0).trans rfl
    have lx := HB.out.x.lt
    by_cases hlt : k < m
    · obtain ⟨tb, toff, rfl, htb, hct⟩ := HR.out.f (by omega)
      have HLO := Lib.hid HB.out.lt
      have HRG : Hid (∀ u, Below wr.heap.size wr u → u.rangeAt tb (toff + k * 57) (R k).l) := Lib.hid (fun u hu j v hv => ((HB.out.b.trans (hu.mono HB.out.b.size)).cell (p := ⟨tb, _, none⟩) htb).trans (hct k hlt j v hv))
      have HTW : Hid (∀ u, Below wr.heap.size wr u → Calls Try.prog 16 #[.agg (R k).l.toArray] u fun e w' => ∃ g : Nat, e = .returned (.agg (twl (R k) g).toArray) ∧ w.heap.size ≤ g ∧ TwH w' g (R k).n (R k).T ∧ Below u.heap.size u w') := Lib.hid (fun u hu => (twin_is (R k) (HRN.out k hlt) u ((((HR.out.t k hlt).low HB.out.b).up HB.out.b.size).on hu)).mono fun e w' ⟨g, h1, h2, h3, h4⟩ => ⟨g, h1, by have h5 := HB.out.b.size; have h6 := hu.size; omega, h3, h4⟩)
      have hix := fun W => idxRows (A := some ⟨tb, toff, none⟩) (n := m) c rfl hlt W
      clear hct htb
      go_wp2_with fail
      refine Reg.wp_prefix 9 (by kernel_rfl) (fun t => decide (12 ≤ t) && decide (t ≤ 20)) (Reg.KJ wr.heap.size [] []) (Reg.KJ.drew _ (by simp)) Reg.KJ.trans (by kernel_rfl) (by kernel_rfl) (by kernel_rfl) (by kernel_rfl) (fun zz => (Reg.tblK [
        (12, .is (.pointer (some ⟨w.heap.size + 1 + 1, 0, none⟩))),
        (13, .is (.slice A' k c')),
        (14, .is (.pointer (some ⟨w.heap.size, 0, none⟩))),
        (15, .is (.slice (some ⟨tb, toff, none⟩) m c)),
        (16, .is (.int .i64 (k : Int))),
        (17, .is (.pointer (some ⟨tb, toff + k * 57, none⟩))),
        (18, .is (.agg (R k).l.toArray)),
        (19, .twr (R k) w.heap.size),
        (20, .bx1 (R k) w.heap.size)] zz).P) (fun zz => (Reg.tblK _ zz).on) (fun zz => (Reg.memK [] zz).P) (fun zz => (Reg.memK _ zz).on) ?_ ?_
      · simp only [Reg.frame, Reg.over, Nat.reduceAdd, Nat.reduceLeDiff, decide_true, decide_false, if_true, Bool.false_eq_true, if_false, Bool.and_true, Bool.and_false]
        refine ⟨?_, ?_, ?_, ?_, ?_, ?_, ?_, ?_, ?_, trivial⟩
        · intro x u hku hd
          refine wpOp_step rfl fun KK hK => ?_
          go_simp
          exact hK _ _ ⟨_, rfl, Reg.KJ.refl _, fun d hd => by cases hd; exact rfl, fun h => by cases h⟩
        · intro x u hku hd
          have h12 : x 12 = .pointer (some ⟨w.heap.size + 1 + 1, 0, none⟩) := hd 0 (by decide)
          have co : u.cell? ⟨w.heap.size + 1 + 1, 0, none⟩ = some (.slice A' k c') := ((HB.out.on hku.top).q.cell 0).trans rfl
          have lo2 := (HB.out.on hku.top).q.lt
          refine wpOp_step rfl fun KK hK => ?_
          simp only [h12] at hK ⊢
          go_simp
          exact hK _ _ ⟨_, rfl, Reg.KJ.refl _, fun d hd => by cases hd; exact rfl, fun h => by cases h⟩
        · intro x u hku hd
          refine wpOp_step rfl fun KK hK => ?_
          go_simp
          exact hK _ _ ⟨_, rfl, Reg.KJ.refl _, fun d hd => by cases hd; exact rfl, fun h => by cases h⟩
        · intro x u hku hd
          have h14 : x 14 = .pointer (some ⟨w.heap.size, 0, none⟩) := hd 2 (by decide)
          have co : u.cell? ⟨w.heap.size, 0, none⟩ = some (.slice (some ⟨tb, toff, none⟩) m c) := ((HB.out.on hku.top).x.cell 0).trans rfl
          have lo2 := (HB.out.on hku.top).x.lt
          refine wpOp_step rfl fun KK hK => ?_
          simp only [h14] at hK ⊢
          go_simp
          exact hK _ _ ⟨_, rfl, Reg.KJ.refl _, fun d hd => by cases hd; exact rfl, fun h => by cases h⟩
        · intro x u hku hd
          refine wpOp_step rfl fun KK hK => ?_
          go_simp
          exact hK _ _ ⟨_, rfl, Reg.KJ.refl _, fun d hd => by cases hd; exact rfl, fun h => by cases h⟩
        · intro x u hku hd
          have h15 : x 15 = .slice (some ⟨tb, toff, none⟩) m c := hd 3 (by decide)
          have h16 : x 16 = .int .i64 (k : Int) := hd 4 (by decide)
          refine wpOp_step rfl fun KK hK => ?_
          simp only [h15, h16] at hK ⊢
          go_simp
          exact hK _ _ ⟨_, rfl, Reg.KJ.refl _, fun d hd => by cases hd; exact rfl, fun h => by cases h⟩
        · intro x u hku hd
          have h17 : x 17 = .pointer (some ⟨tb, toff + k * 57, none⟩) := hd 5 (by decide)
          refine wpOp_step rfl fun KK hK => ?_
          refine Reg.step_load_mid (by rfl) 54 (.tmp 17) (by rfl) tb (toff + k * 57) (by exact h17) (R k).l (HRG.out u hku.top) _ Try.underlying54 rfl (by rw [size_row, Rw.l_len]) ?_
          exact hK _ _ ⟨_, rfl, Reg.KJ.refl _, fun d hd => by cases hd; exact rfl, fun h => by cases h⟩
        · intro x u hku hd
          have h18 : x 18 = .agg (R k).l.toArray := hd 6 (by decide)
          refine wpOp_step rfl fun KK hK => ?_
          simp only [h18] at hK ⊢
          go_simp
          (with_reducible refine (HTW.out _ hku.top).mono ?_)
          rintro e u' ⟨g, rfl, q1, q2, hb'⟩
          exact hK _ _ ⟨_, rfl, Reg.KJ.grow (by simp) hku.size hb', fun d hd => by cases hd; exact ⟨g, rfl, q1, q2⟩, fun h => by cases h⟩
        · intro x u hku hd
          have k19 : (Reg.FactK.twr (R k) w.heap.size : Reg.FactK (Reg.KJ wr.heap.size [] [])).P (x 19) u := hd 7 (by decide)
          obtain ⟨g19, h19, hg19, ht19⟩ := k19
          refine wpOp_step rfl fun KK hK => ?_
          refine Reg.step_bsl (by rfl) 32 1 _ (by rfl) #[(0, .agg (twl (R k) g19).toArray)] (by simp [Act.eval, h19]) _ _ (run_bsl_one (P := Try.prog) u 32 54 i0 (roL false ceN none 0 0) 57 elemRows HI.out HZ0.out HZ1.out (roL_len _ _ _ _ _) (by decide) (by decide) (twl (R k) g19) (twl_len _ _)) ?_
          exact hK _ _ ⟨_, rfl, Reg.KJ.grow (by simp) hku.size (below_al (Below.refl _ u) _), fun d hd => by cases hd; exact ⟨_, g19, rfl, Blk.new u _ _, hg19, ht19.on (below_al (Below.refl _ u) _)⟩, fun h => by cases h⟩
      · intro x u hku hd
        obtain ⟨gb, gt, e20, hgb, hlo, htw⟩ : (∃ b g, x 20 = .slice (some ⟨b, 0, none⟩) 1 1 ∧ Blk u b 54 (twl (R k) g).toArray ∧ w.heap.size ≤ g ∧ TwH u g (R k).n (R k).T) := hd 8 (by decide)
        have e13 : x 13 = .slice A' k c' := hd 1 (by decide)
        have HGB := Lib.hid hgb
        have HTW2 := Lib.hid htw
        have HGT := Lib.hid hlo
        have HKU := Lib.hid hku.top
        have HBU := Lib.hid (HB.out.on hku.top)
        have HOU := Lib.hid (ownsF_on HB.out.r hku.top)
        have lo1 := HBU.out.lt
        have hku' := hku.size
        clear hgb htw hlo cx lx
        simp only [Reg.frame, Reg.over, Nat.reduceAdd, Nat.reduceLeDiff, decide_true, decide_false, if_true, Bool.false_eq_true, if_false, Bool.and_true, Bool.and_false, e20, e13, List.drop_succ_cons, List.drop_zero]
        go_wp2_with (at_builtin; refine wpList_append_G rfl (.tmp 13) (.tmp 20) 32 rfl (w.heap.size + 3) 54 i0 _ 57 160 elemRows HI.out HZ0.out HZ1.out HZ2.out (by simp [Value.cells, roL_len]) (by decide) A' k c' _ (by simp [Act.eval, Act.put]) HOU.out gb 1 1 (twl (R k) gt) (by simp [Act.eval, Act.put]) HGB.out (twl_len _ _) (twl_one _ _) (by decide) (by unfold maxLen; omega) (by omega) (by omega) ?_; intro A2 p2 w2 hO2 hb2 hk2; have HO2 := Lib.hid hO2; have HB2 := Lib.hid hb2; have HK2 := Lib.hid hk2; have cq' : w2.cell? ⟨w.heap.size + 1 + 1, 0, none⟩ = some (.slice A' k c') := ((HBU.out.q.below hb2 (by omega)).cell 0).trans rfl; have fq' := (HBU.out.q.below hb2 (by omega)).frozen 0; have lq' := (HBU.out.q.below hb2 (by omega)).lt; clear hO2 hb2 hk2)
        go_roundw
        case rel =>
          refine ⟨k + 1, by omega, by go_num, A2, p2, fun i => if i = k then gt else G i, Lib.hid (TB.set_ (HBU.out.x.below HB2.out (by omega)) (HBU.out.z.below HB2.out (by omega)) (HBU.out.q.below HB2.out (by omega)) (HBU.out.b.trans (HB2.out.mono (by omega))) A2 p2 (k + 1) ?_ ?_)⟩
          · have := HO2.out
            rw [show flL (fun i => twl (R i) (G i)) k ++ twl (R k) gt = flL (fun i => twl (R i) (if i = k then gt else G i)) (k + 1) by rw [flL_succ, if_pos rfl]; congr 1; exact flL_congr fun i hi => by rw [if_neg (by omega)]] at this
            exact this
          · intro i hi
            by_cases e : i = k
            · subst e
              simp only [if_true]
              exact ⟨HTW2.out.kept HK2.out (by decide), HGT.out⟩
            · simp only [e, if_false]
              have := HBU.out.t i (by omega)
              exact ⟨this.1.kept HK2.out (by decide), this.2⟩
        case measure => simp [intOf]; omega
    · obtain rfl : k = m := by omega
      have cq : wr.cell? ⟨w.heap.size + 1 + 1, 0, none⟩ = some (.slice A' k c') := (HB.out.q.cell 0).trans rfl
      have cz : wr.cell? ⟨w.heap.size + 1, 0, none⟩ = some (.slice none 0 0) := (HB.out.z.cell 0).trans rfl
      have fz := HB.out.z.frozen 0
      have lq := HB.out.q.lt
      have lz := HB.out.z.lt
      go_wp2_with fail
      have b := But.one (u := wr) (g := w.heap.size + 1) 0 (.slice A' k c')
      exact bodyPost_ret (v := .agg #[.slice A' k c']) (by simp [results, Try.results15, go_sem, cz, lz]) rfl ⟨A', c', G, rfl, ownsF_mono (ownsF_but HB.out.r b (fun g hg => by have := ownsF_lt HB.out.r hg; omega)) (by omega), fun i hi => ⟨(HB.out.t i hi).1.kept (b.kept HB.out.z) (by decide), (HB.out.t i hi).2⟩, HB.out.b.trans (b.low (by omega))⟩
/-- Two words in their boxes. -/
structure LW (w : World) (A A' : Option Addr) (m c c' : Nat) (U : World) : Prop where
  x : Blk U w.heap.size 34 #[.slice A' m c']
  y : Blk U (w.heap.size + 1) 34 #[.slice A m c]
  b : Below w.heap.size w U
theorem LW.on {w U V : World} {A A' : Option Addr} {m c c' : Nat} (h : LW w A A' m c c' U) (k : Below U.heap.size U V) : LW w A A' m c c' V := ⟨h.x.on k, h.y.on k, h.b.trans (k.mono h.b.size)⟩
set_option maxRecDepth 100000 in
set_option maxHeartbeats 4000000 in
theorem leftword_is (A A' : Option Addr) (m c c' : Nat) (hm : m ≤ 65536) (R : Nat → Rw) (G : Nat → Nat) (hRn : ∀ i, i < m → (R i).n ≤ 65536) (w : World) (hR : LiesR w w.heap.size A m R) (hT : LiesF w w.heap.size A' m 57 fun i => twl (R i) (G i)) (hW : ∀ i, i < m → TwH w (G i) (R i).n (R i).T) :
    Calls Try.prog 24 #[.agg #[.slice A' m c'], .agg #[.slice A m c]] w fun e w' => e = .returned (.bool true) ∧ Below w.heap.size w w' := by
  have HR := Lib.hid hR
  have HT := Lib.hid hT
  have HW := Lib.hid hW
  have HRN := Lib.hid hRn
  have hnn : ((m : Int) != (m : Int)) = false := by simp
  clear hR hT hW hRn
  go_enter Try.func24, Try.ntmps24
  go_upto_region 1 with fail
  refine wp_at (LW w A A' m c c') (by
    have hb := box_two w 34 34 #[.slice A' m c'] #[.slice A m c]
    exact ⟨hb.1, hb.2.1, hb.2.2⟩) ?_
  intro U hU
  have c1 : U.cell? ⟨w.heap.size, 0, none⟩ = some (.slice A' m c') := (hU.x.cell 0).trans rfl
  have c2 : U.cell? ⟨w.heap.size + 1, 0, none⟩ = some (.slice A m c) := (hU.y.cell 0).trans rfl
  have l1 := hU.x.lt
  have l2 := hU.y.lt
  have HU := Lib.hid hU
  clear hU
  go_wp2_with fail
  go_loopw [5] (fun s wr => ∃ k : Nat, k ≤ m ∧ s = .int .i64 (k : Int) ∧ Hid (LW w A A' m c c' wr)) (fun s _ => m - (intOf s).toNat)
  case atStart => exact ⟨0, by omega, rfl, HU⟩
  case round =>
    clear HU c1 c2 l1 l2
    obtain ⟨k, hk, rfl, HB⟩ := hrel
    have c1 : wr.cell? ⟨w.heap.size, 0, none⟩ = some (.slice A' m c') := (HB.out.x.cell 0).trans rfl
    have c2 : wr.cell? ⟨w.heap.size + 1, 0, none⟩ = some (.slice A m c) := (HB.out.y.cell 0).trans rfl
    have l1 := HB.out.x.lt
    have l2 := HB.out.y.lt
    by_cases hlt : k < m
    · obtain ⟨ba, oa, rfl, hba, hca⟩ := HR.out.f (by omega)
      obtain ⟨bt, ot, rfl, hbt, hct⟩ := HT.out (by omega)
      have hix := fun W => idxRows (A := some ⟨ba, oa, none⟩) (n := m) c rfl hlt W
      have hix2 := fun W => idxRows (A := some ⟨bt, ot, none⟩) (n := m) c' rfl hlt W
      have HRA : Hid (∀ u, Below wr.heap.size wr u → u.rangeAt ba (oa + k * 57) (R k).l) := Lib.hid (fun u hu j v hv => ((HB.out.b.trans (hu.mono HB.out.b.size)).cell (p := ⟨ba, _, none⟩) hba).trans (hca k hlt j v hv))
      have HRT : Hid (∀ u, Below wr.heap.size wr u → u.rangeAt bt (ot + k * 57) (twl (R k) (G k))) := Lib.hid (fun u hu j v hv => ((HB.out.b.trans (hu.mono HB.out.b.size)).cell (p := ⟨bt, _, none⟩) hbt).trans (hct k hlt j v hv))
      have HLF : Hid (∀ u, Below wr.heap.size wr u → Calls Try.prog 25 #[.agg (twl (R k) (G k)).toArray, .agg (R k).l.toArray] u fun e w' => e = .returned (.bool true) ∧ Below u.heap.size u w') := Lib.hid (fun u hu => left_is (R k) (HRN.out k hlt) (G k) u (((HR.out.t k hlt).on HB.out.b).on hu) (((HW.out k hlt).on HB.out.b).on hu))
      clear hca hct hba hbt
      go_wp2_with fail
      refine Reg.wp_slots2 (fun t => decide (20 ≤ t) && decide (t ≤ 31)) (Reg.KJ wr.heap.size [] []) (Reg.KJ.drew _ (by simp)) Reg.KJ.trans (by kernel_rfl) (by kernel_rfl) (by kernel_rfl) (fun zz => (Reg.tblK [
        (20, .is (.pointer (some ⟨w.heap.size, 0, none⟩))),
        (21, .is (.slice (some ⟨bt, ot, none⟩) m c')),
        (22, .is (.int .i64 (k : Int))),
        (23, .is (.pointer (some ⟨bt, ot + k * 57, none⟩))),
        (24, .is (.agg (twl (R k) (G k)).toArray)),
        (25, .is (.pointer (some ⟨w.heap.size + 1, 0, none⟩))),
        (26, .is (.slice (some ⟨ba, oa, none⟩) m c)),
        (27, .is (.int .i64 (k : Int))),
        (28, .is (.pointer (some ⟨ba, oa + k * 57, none⟩))),
        (29, .is (.agg (R k).l.toArray)),
        (30, .is (.bool true)),
        (31, .is (.bool false))] zz).P) (fun zz => (Reg.tblK _ zz).on) (fun zz => (Reg.memK [] zz).P) (fun zz => (Reg.memK _ zz).on) ?_ ?_
      · simp only [Reg.frame, Reg.over, Nat.reduceAdd, Nat.reduceLeDiff, decide_true, decide_false, if_true, Bool.false_eq_true, if_false, Bool.and_true, Bool.and_false]
        refine ⟨?_, ?_, ?_, ?_, ?_, ?_, ?_, ?_, ?_, ?_, ?_, ?_, trivial⟩
        · intro x u hku hd
          refine wpOp_step rfl fun KK hK => ?_
          go_simp
          exact hK _ _ ⟨_, rfl, Reg.KJ.refl _, fun d hd => by cases hd; exact rfl, fun h => by cases h⟩
        · intro x u hku hd
          have h20 : x 20 = .pointer (some ⟨w.heap.size, 0, none⟩) := hd 0 (by decide)
          have co : u.cell? ⟨w.heap.size, 0, none⟩ = some (.slice (some ⟨bt, ot, none⟩) m c') := ((HB.out.on hku.top).x.cell 0).trans rfl
          have lo2 := (HB.out.on hku.top).x.lt
          refine wpOp_step rfl fun KK hK => ?_
          simp only [h20] at hK ⊢
          go_simp
          exact hK _ _ ⟨_, rfl, Reg.KJ.refl _, fun d hd => by cases hd; exact rfl, fun h => by cases h⟩
        · intro x u hku hd
          refine wpOp_step rfl fun KK hK => ?_
          go_simp
          exact hK _ _ ⟨_, rfl, Reg.KJ.refl _, fun d hd => by cases hd; exact rfl, fun h => by cases h⟩
        · intro x u hku hd
          have h21 : x 21 = .slice (some ⟨bt, ot, none⟩) m c' := hd 1 (by decide)
          have h22 : x 22 = .int .i64 (k : Int) := hd 2 (by decide)
          refine wpOp_step rfl fun KK hK => ?_
          simp only [h21, h22] at hK ⊢
          go_simp
          exact hK _ _ ⟨_, rfl, Reg.KJ.refl _, fun d hd => by cases hd; exact rfl, fun h => by cases h⟩
        · intro x u hku hd
          have h23 : x 23 = .pointer (some ⟨bt, ot + k * 57, none⟩) := hd 3 (by decide)
          refine wpOp_step rfl fun KK hK => ?_
          refine Reg.step_load_mid (by rfl) 54 (.tmp 23) (by rfl) bt (ot + k * 57) (by exact h23) (twl (R k) (G k)) (HRT.out u hku.top) _ Try.underlying54 rfl (by rw [size_row, twl_len]) ?_
          exact hK _ _ ⟨_, rfl, Reg.KJ.refl _, fun d hd => by cases hd; exact rfl, fun h => by cases h⟩
        · intro x u hku hd
          refine wpOp_step rfl fun KK hK => ?_
          go_simp
          exact hK _ _ ⟨_, rfl, Reg.KJ.refl _, fun d hd => by cases hd; exact rfl, fun h => by cases h⟩
        · intro x u hku hd
          have h25 : x 25 = .pointer (some ⟨w.heap.size + 1, 0, none⟩) := hd 5 (by decide)
          have co : u.cell? ⟨w.heap.size + 1, 0, none⟩ = some (.slice (some ⟨ba, oa, none⟩) m c) := ((HB.out.on hku.top).y.cell 0).trans rfl
          have lo2 := (HB.out.on hku.top).y.lt
          refine wpOp_step rfl fun KK hK => ?_
          simp only [h25] at hK ⊢
          go_simp
          exact hK _ _ ⟨_, rfl, Reg.KJ.refl _, fun d hd => by cases hd; exact rfl, fun h => by cases h⟩
        · intro x u hku hd
          refine wpOp_step rfl fun KK hK => ?_
          go_simp
          exact hK _ _ ⟨_, rfl, Reg.KJ.refl _, fun d hd => by cases hd; exact rfl, fun h => by cases h⟩
        · intro x u hku hd
          have h26 : x 26 = .slice (some ⟨ba, oa, none⟩) m c := hd 6 (by decide)
          have h27 : x 27 = .int .i64 (k : Int) := hd 7 (by decide)
          refine wpOp_step rfl fun KK hK => ?_
          simp only [h26, h27] at hK ⊢
          go_simp
          exact hK _ _ ⟨_, rfl, Reg.KJ.refl _, fun d hd => by cases hd; exact rfl, fun h => by cases h⟩
        · intro x u hku hd
          have h28 : x 28 = .pointer (some ⟨ba, oa + k * 57, none⟩) := hd 8 (by decide)
          refine wpOp_step rfl fun KK hK => ?_
          refine Reg.step_load_mid (by rfl) 54 (.tmp 28) (by rfl) ba (oa + k * 57) (by exact h28) (R k).l (HRA.out u hku.top) _ Try.underlying54 rfl (by rw [size_row, Rw.l_len]) ?_
          exact hK _ _ ⟨_, rfl, Reg.KJ.refl _, fun d hd => by cases hd; exact rfl, fun h => by cases h⟩
        · intro x u hku hd
          have h24 : x 24 = .agg (twl (R k) (G k)).toArray := hd 4 (by decide)
          have h29 : x 29 = .agg (R k).l.toArray := hd 9 (by decide)
          refine wpOp_step rfl fun KK hK => ?_
          simp only [h24, h29] at hK ⊢
          go_simp
          (with_reducible refine (HLF.out _ hku.top).mono ?_)
          rintro e u' ⟨rfl, hb'⟩
          exact hK _ _ ⟨_, rfl, Reg.KJ.grow (by simp) hku.size hb', fun d hd => by cases hd; exact rfl, fun h => by cases h⟩
        · intro x u hku hd
          have h30 : x 30 = .bool true := hd 10 (by decide)
          refine wpOp_step rfl fun KK hK => ?_
          simp only [h30] at hK ⊢
          go_simp
          exact hK _ _ ⟨_, rfl, Reg.KJ.refl _, fun d hd => by cases hd; exact rfl, fun h => by cases h⟩
      · intro x u hku hd
        have e31 : x 31 = .bool false := hd 11 (by decide)
        have HKU := Lib.hid hku.top
        clear c1 c2
        simp only [Reg.frame, Reg.over, Nat.reduceAdd, Nat.reduceLeDiff, decide_true, decide_false, if_true, Bool.false_eq_true, if_false, Bool.and_true, Bool.and_false, e31]
        go_wp2_with fail
        go_roundw
        case rel => exact ⟨k + 1, by omega, by go_num, Lib.hid (HB.out.on HKU.out)⟩
        case measure => simp [intOf]; omega
    · obtain rfl : k = m := by omega
      go_wp2_with fail
      go_ret
      exact ⟨rfl, HB.out.b⟩
end Go.Proofs.Ytdbljggjddnjcaa

