/-
  The law CatchesChain: it returns true, and nothing that was there has turned. Conditions: numbers of their kinds.
-/
import Derived.Test.YtpjcbfapkjipjaaCaOwn
import Derived.Deep.Cut
import Derived.Deep.CutRange
import Derived.Lib.MinMax
namespace Go.Proofs.Ytpjcbfapkjipjaa
open Go.RowKit Crc
set_option linter.unusedVariables false

/-- What stays through the law: the payload, the numbers, the frame's symbols. -/
def CW (w0 wx : World) (gs : Nat) (X : List Int) (f : Fr) (a b c e : Int) : Prop := Blk wx w0.heap.size 40 #[.int .u8 f.k, .int .u8 f.s, .int .u32 f.q, .int .u32 f.v] ∧ Blk wx (w0.heap.size + 1) 66 #[.int .u8 a, .int .u8 b, .int .u8 c, .int .u8 e] ∧ Own1 wx gs 114 X ∧ Below w0.heap.size w0 wx
/-- The row of what was given. -/
def CR (w0 wx : World) (A : Option Addr) (L c : Nat) (hs : List Value) : Prop := wx.ownsRow w0.heap.size 22 1 (.slice A L c) L hs
section
variable {w0 w w' : World} {gs L cc : Nat} {X : List Int} {f : Fr} {a b c e : Int} {A : Option Addr} {hs : List Value}
theorem CW.on (h : CW w0 w gs X f a b c e) (hb : Below w.heap.size w w') : CW w0 w' gs X f a b c e := ⟨h.1.on hb, h.2.1.on hb, h.2.2.1.on hb, below_then h.2.2.2 hb⟩
theorem CW.far {gl : Nat} (h : CW w0 w gs X f a b c e) (h1 : gs < gl) (h3 : w0.heap.size + 2 ≤ gl) (i : Nat) (v : Value) : CW w0 (w.setCell ⟨gl, i, none⟩ v) gs X f a b c e :=
  ⟨h.1.far (p := ⟨gl, i, none⟩) (by show w0.heap.size ≠ gl; omega) v, h.2.1.far (p := ⟨gl, i, none⟩) (by show w0.heap.size + 1 ≠ gl; omega) v, h.2.2.1.far (Nat.ne_of_lt h1) i v, h.2.2.2.setCell (p := ⟨gl, i, none⟩) (by show w0.heap.size ≤ gl; omega) v⟩
theorem Own1.kept {g n : Nat} {xs : List Int} (h : Own1 w g n xs) (hk : KeptBut w w' [22]) : Own1 w' g n xs := by
  obtain ⟨h0, cur, hB, h1, h2⟩ := h
  exact ⟨h0, cur, hk _ _ _ (by decide) hB, h1, h2⟩
theorem CW.kept (h : CW w0 w gs X f a b c e) (hk : KeptBut w w' [22]) (hb : Below w0.heap.size w0 w') : CW w0 w' gs X f a b c e := ⟨hk _ _ _ (by decide) h.1, hk _ _ _ (by decide) h.2.1, h.2.2.1.kept hk, hb⟩
theorem CR.on (h : CR w0 w A L cc hs) (hb : Below w.heap.size w w') : CR w0 w' A L cc hs := owns_kept h (KeptBut.below hb []) (by simp)
theorem CR.far {gl n : Nat} {xs : List Int} (h : CR w0 w A L cc hs) (i : Nat) (v : Int) (hO : Own1 w gl n xs) : CR w0 (w.setCell ⟨gl, i, none⟩ (.int .u8 v)) A L cc hs := by
  obtain ⟨_, cur, hB, _⟩ := hO
  exact owns_kept h (KeptBut.setCell hB _) (by decide)
theorem CR.cells (h : CR w0 w A L cc hs) : ∃ go, (0 < L → A = some ⟨go, 0, none⟩ ∧ go < w.heap.size ∧ ∀ j, j < L → w.cell? ⟨go, j, none⟩ = hs[j]?) := by
  rcases h.2 with ⟨_, h0⟩ | ⟨go, cap, cur, hv, hb, hh, hnc, _, hcs, htk⟩
  · exact ⟨0, fun h => absurd h (by omega)⟩
  · injection hv with e1 e2 e3
    refine ⟨go, fun _ => ⟨e1, Blk.lt (t := 22) (cs := cur) hh, fun j hj => ?_⟩⟩
    rw [Blk.cell (t := 22) (cs := cur) hh, ← htk, List.getElem?_take_of_lt (by omega)]
    simp
end
theorem elemRow : Try.prog.underlying 68 = some (.slice (Try.prog.elem 68)) := by kernel_rfl
theorem idxRow {A : Option Addr} {n : Nat} (c : Nat) {k b : Nat} (hA : A = some ⟨b, 0, none⟩) (hk : k < n) (w : World) :
    (Instr.indexAt 68 (.slice A n c) (.int .i64 (k : Int))).run Try.prog w = .ok (.pointer (some ⟨b, k, none⟩)) w := by
  subst hA
  rw [run_indexAt_slice (h := elemRow), if_pos (by omega), show (sizeOf (Try.prog.elem 68)).run Try.prog w = .ok 1 w by kernel_rfl]
  simp [Result.andThen, Addr.add_lit]
theorem infoRow : (Try.prog.info? 22).map (fun i => (i.zero, i.size, i.bytes)) = some (some (.slice none 0 0), 1, 24) := by kernel_rfl
theorem hi_ne {N F : List Int} (o : Int) (hN : N.length = 114) (hF : F.length = 114) (h : N ≠ F) : hiB (knF N) (knF F) o 114 = false := by
  rw [high_iff o hN hF, show (N == F) = false from beq_eq_false_iff_ne.2 h]
  rfl
theorem hi_bad {N F : List Int} (o : Int) (hN : N.length = 114) (hF : F.length = 114) (h : N.getD 113 0 = 0 ∨ N.getD 113 0 = 2) : hiB (knF N) (knF F) o 114 = false := by
  rw [high_iff o hN hF]
  have := last_bad h
  cases N == F
  · rfl
  · rw [Bool.true_and, this, Bool.false_and]
theorem set_ne {X : List Int} {p : Nat} (hX : p < X.length) (v : Int) (h : v ≠ X.getD p 0) : X.set p v ≠ X := fun e => h (by
  have : (X.set p v).getD p 0 = v := by rw [List.getD, List.getElem?_set_self hX]; rfl
  rw [← this, e])
set_option maxRecDepth 100000 in
set_option maxHeartbeats 3000000 in
theorem chain_main (ow ky : Int) (f : Fr) (a b c e : Int) (w : World) (ho : ow % 8 = f.o) (hk : 1 + ky % 2 = f.k) (hf : f.Fit) (hm : mayB f.o f.k = true) (o0 : 0 ≤ ow) (o1 : ow ≤ 255) (k0 : 0 ≤ ky) (k1 : ky ≤ 255) (a0 : 0 ≤ a) (a1 : a ≤ 255) (b0 : 0 ≤ b) (b1 : b ≤ 255) (cc0 : 0 ≤ c) (cc1 : c ≤ 255) :
    Calls Try.prog 6 #[.int .u8 ow, .agg #[.int .u8 ky, .int .u8 f.s, .int .u32 f.q, .int .u32 f.v], .agg #[.int .u8 a, .int .u8 b, .int .u8 c, .int .u8 e]] w fun e w' => e = .returned (.bool true) ∧ Below w.heap.size w w' := by
  obtain ⟨i0, hi0, hz0, hz1, hz2⟩ := info_parts infoSyms
  obtain ⟨j0, hj0, hy0, hy1, hy2⟩ := info_parts infoRow
  obtain ⟨M, hM⟩ : ∃ M : Nat, 3 + a % 16 = (M : Int) := ⟨(3 + a % 16).toNat, by omega⟩
  have hM1 : 3 ≤ M := by omega
  have hM2 : M ≤ 18 := by omega
  have hr0 : 0 ≤ b % ((M : Int) + 1) := Int.emod_nonneg _ (by omega)
  have hr1 : b % ((M : Int) + 1) < (M : Int) + 1 := Int.emod_lt_of_pos _ (by omega)
  obtain ⟨bd, hbd⟩ : ∃ bd : Nat, b % ((M : Int) + 1) = (bd : Int) := ⟨(b % ((M : Int) + 1)).toNat, by omega⟩
  have hbd' : b.tmod ((M : Int) + 1) = (bd : Int) := by rw [Int.tmod_eq_emod_of_nonneg b0]; exact hbd
  have hbM : bd ≤ M := by omega
  have hne0 : ((M : Int) + 1 == 0) = false := beq_eq_false_iff_ne.2 (by omega)
  have hne1 : (M : Int) + 1 ≠ 0 := by omega
  have hwM : IntKind.i64.wrap ((M : Int) + 1) = (M : Int) + 1 := IntWalk.i64_in _ (by omega)
  have hwb : IntKind.i64.wrap (bd : Int) = (bd : Int) := IntWalk.i64_in _ (by omega)
  obtain ⟨p, hp⟩ : ∃ p : Nat, c % 114 = (p : Int) := ⟨(c % 114).toNat, by omega⟩
  have hp1 : p < 114 := by omega
  have hoo := (mayB_iff _ _).1 hm
  have HG := Lib.hid (fun u => good_is f u hf hm)
  have HXL := Lib.hid (goodL_length f)
  have HXW := Lib.hid (goodL_whole f)
  have g1' := goodL_high hf hm
  have g2' := goodL_frame hf hm
  have g3' := goodL_out hf hm
  have HOF := Lib.hid (fun u => law5_of_any f u)
  obtain ⟨X, hX⟩ : ∃ X, X = goodL f := ⟨_, rfl⟩
  rw [← hX] at HG HXL HXW g1' g2' g3'
  have HGG := Lib.hid (And.intro g1' (And.intro g2' g3'))
  have hxp := wh_at HXW.out (j := p) (by rw [HXL.out]; exact hp1)
  obtain ⟨xp, exp⟩ : ∃ xp, xp = X.getD p 0 := ⟨_, rfl⟩
  rw [← exp] at hxp
  have HXP := Lib.hid exp
  obtain ⟨xd, exd⟩ : ∃ xd, 3 - xp = xd := ⟨_, rfl⟩
  have xd0 : 0 ≤ xd := by omega
  have xd1 : xd ≤ 255 := by omega
  have HNE1 := Lib.hid (show hiB (knF (X.set p xd)) (knF X) f.o 114 = false ∧ hiB (knF X) (knF (X.set p xd)) f.o 114 = false from by
    have h := set_ne (X := X) (p := p) (by rw [HXL.out]; exact hp1) xd (by rw [← exp]; omega)
    exact ⟨hi_ne _ (by simp [HXL.out]) HXL.out h, hi_ne _ HXL.out (by simp [HXL.out]) h.symm⟩)
  have HNE2 := Lib.hid (show hiB (knF ((X.set p xd).set p 0)) (knF X) f.o 114 = false ∧ hiB (knF X) (knF ((X.set p xd).set p 0)) f.o 114 = false from by
    rw [List.set_set]
    have h := set_ne (X := X) (p := p) (by rw [HXL.out]; exact hp1) 0 (by rw [← exp]; omega)
    exact ⟨hi_ne _ (by simp [HXL.out]) HXL.out h, hi_ne _ HXL.out (by simp [HXL.out]) h.symm⟩)
  have HRUN := Lib.hid (fun (A B : Option Addr) (c d : Nat) (N F : List Int) (u : World) (h1 : Lies .u8 u u.heap.size A 114 N) (h2 : Lies .u8 u u.heap.size B 114 F) (r : Bool) (hr : hiB (knF N) (knF F) f.o 114 = r) (G : Fr) (hG : hiF (knF N) (knF F) f.o 114 = G) (Y : List Int) (hY : outL (knF N) (knF F) f.o 114 = Y) =>
    run_is f.o A B 114 114 c d 114 N F u h1 h2 hoo.1 hoo.2.1 rfl (Nat.le_refl _) _ _ rfl rfl r hr G hG Y hY)
  obtain ⟨t2, ht2⟩ : ∃ t2, (bits .and .u8 e 2 == 2) = t2 := ⟨_, rfl⟩
  obtain ⟨t1, ht1⟩ : ∃ t1, (bits .and .u8 e 1 == 1) = t1 := ⟨_, rfl⟩
  have hbe := below_al (below_al (Below.refl w.heap.size w) (.cells #[.int .u8 f.k, .int .u8 f.s, .int .u32 f.q, .int .u32 f.v] 40)) (.cells #[.int .u8 a, .int .u8 b, .int .u8 c, .int .u8 e] 66)
  have HP2 := (Blk.new w 40 #[.int .u8 f.k, .int .u8 f.s, .int .u32 f.q, .int .u32 f.v]).alloc (.cells #[.int .u8 a, .int .u8 b, .int .u8 c, .int .u8 e] 66)
  have HZ2 := Blk.new (w.alloc (.cells #[.int .u8 f.k, .int .u8 f.s, .int .u32 f.q, .int .u32 f.v] 40)) 66 #[.int .u8 a, .int .u8 b, .int .u8 c, .int .u8 e]
  rw [alloc_size] at HZ2
  clear hX hm hf g1' g2' g3' exp
  go_enter Try.func6, Try.ntmps6
  go_wp2_with (go_at_call 24; (with_reducible refine (HG.out _).mono ?_); rintro e' w1 ⟨gs, rfl, hgs, hS, b1'⟩; have hP := HP2.on b1'; have hz := HZ2.on b1'; have z0 := (hz.cell 0).trans (show _ = some (Value.int .u8 a) from rfl); have z1 := (hz.cell 1).trans (show _ = some (Value.int .u8 b) from rfl); have z2 := (hz.cell 2).trans (show _ = some (Value.int .u8 c) from rfl); have z3 := (hz.cell 3).trans (show _ = some (Value.int .u8 e) from rfl); have zl := hz.lt; have HSZ := Lib.hid (show w.heap.size + 2 ≤ w1.heap.size from by have := b1'.size; simp only [alloc_size] at this; omega))
  rw [hp]
  have HP1 := Lib.hid hp1
  have hOX : Own1 w1 gs 114 X := ⟨HXL.out, _, hS, by rw [cellsOf_size, HXL.out]; exact Nat.le_refl _, by rw [cellsOf]; exact List.take_of_length_le (by simp [HXL.out])⟩
  have hCW0 : CW w w1 gs X f a b c e := ⟨hP, hz, hOX, below_then hbe b1'⟩
  have hCWI := hCW0.on (below_al (Below.refl _ _) (.cells #[.slice (some ⟨gs, 0, none⟩) 114 114, .slice (some ⟨gs, 0, none⟩) 114 114] 22))
  have hOXI := hOX.on (below_al (Below.refl _ _) (.cells #[.slice (some ⟨gs, 0, none⟩) 114 114, .slice (some ⟨gs, 0, none⟩) 114 114] 22))
  have hRI : CR w (w1.alloc (.cells #[.slice (some ⟨gs, 0, none⟩) 114 114, .slice (some ⟨gs, 0, none⟩) 114 114] 22)) (some ⟨w1.heap.size, 0, none⟩) 2 2 ([] ++ [.slice (some ⟨gs, 0, none⟩) 114 114, .slice (some ⟨gs, 0, none⟩) 114 114]) :=
    ⟨rfl, .inr ⟨w1.heap.size, 2, #[.slice (some ⟨gs, 0, none⟩) 114 114, .slice (some ⟨gs, 0, none⟩) 114 114], rfl, hCW0.2.2.2.size, Blk.new _ _ _, Nat.le_refl _, by unfold maxLen; omega, rfl, rfl⟩⟩
  have HI := Lib.hid (And.intro hCWI (And.intro hOXI hRI))
  have HGS0 := Lib.hid hOX.lt
  clear hCW0 hCWI hOXI hRI hOX hS hP hz z0 z1 z2 z3 zl hbe HP2 HZ2 hM hbd hbd' hr0 hr1 hne0 hne1 hwM hwb hp ho hk HG b1'
  have hM1 := HSZ
  go_loopw [12, 13] (fun ov kv wr => ∃ (k : Nat) (A' : Option Addr) (c' : Nat) (pre : List Value) (g0 c0' : Nat) (Y0 : List Int) (g1 c1' : Nat) (Y1 : List Int), k ≤ M ∧ kv = .int .i64 k ∧ ov = .slice A' (k + 2) c' ∧ CR w wr A' (k + 2) c' (pre ++ [.slice (some ⟨g0, 0, none⟩) 114 c0', .slice (some ⟨g1, 0, none⟩) 114 c1']) ∧ Own1 wr g0 114 Y0 ∧ 114 ≤ c0' ∧ Own1 wr g1 114 Y1 ∧ 114 ≤ c1' ∧ (k ≤ bd → Y0 = X ∧ Y1 = X) ∧ (bd < k → Y1.getD 113 0 = 0 ∨ Y1.getD 113 0 = 2) ∧ CW w wr gs X f a b c e) (fun _ kv _ => M - (intOf kv).toNat)
  case atStart => exact ⟨0, _, _, [], gs, 114, X, gs, 114, X, Nat.zero_le _, rfl, rfl, HI.out.2.2, HI.out.2.1, Nat.le_refl _, HI.out.2.1, Nat.le_refl _, fun _ => ⟨rfl, rfl⟩, fun h => absurd h (by omega), HI.out.1⟩
  case round =>
    obtain ⟨k, A', c', pre, g0, c0', Y0, g1, c1', Y1, hkM, rfl, rfl, HROW, HY0, hc0', HY1, hc1', hle, hgt, hCW⟩ := hrel
    by_cases hlt : k < M
    · have hlti : (k : Int) < (M : Int) := by omega
      obtain ⟨hs, ehs⟩ : ∃ hs, hs = pre ++ [Value.slice (some ⟨g0, 0, none⟩) 114 c0', .slice (some ⟨g1, 0, none⟩) 114 c1'] := ⟨_, rfl⟩
      rw [← ehs] at HROW
      have HHS := Lib.hid ehs
      have hpl : pre.length = k := by have := HROW.1; rw [ehs] at this; simp at this; omega
      obtain ⟨go, hgo⟩ := HROW.cells
      obtain ⟨eA, hgol, hcells⟩ := hgo (by omega)
      subst eA
      have cA : wr.cell? ⟨go, k + 1, none⟩ = some (.slice (some ⟨g1, 0, none⟩) 114 c1') := by
        rw [hcells (k + 1) (by omega), ehs, List.getElem?_append_right (by omega), hpl, show k + 1 - k = 1 by omega]; rfl
      have cB : wr.cell? ⟨go, k, none⟩ = some (.slice (some ⟨g0, 0, none⟩) 114 c0') := by
        rw [hcells k (by omega), ehs, List.getElem?_append_right (by omega), hpl, Nat.sub_self]; rfl
      obtain ⟨L, hL⟩ : ∃ L, L = k + 2 := ⟨_, rfl⟩
      obtain ⟨i1, hi1⟩ : ∃ i1, i1 = k + 1 := ⟨_, rfl⟩
      have hixA := fun W => idxRow (n := L) c' (b := go) (k := i1) rfl (by omega) W
      have hixB := fun W => idxRow (n := L) c' (b := go) (k := k) rfl (by omega) W
      rw [← hL] at HROW ⊢
      rw [← hi1] at cA
      have eL1 : (L : Int) - 1 = (i1 : Int) := by omega
      have eL2 : (L : Int) - 2 = (k : Int) := by omega
      have wL1 : IntKind.i64.wrap (i1 : Int) = (i1 : Int) := IntWalk.i64_in _ (by omega)
      have wL2 : IntKind.i64.wrap (k : Int) = (k : Int) := IntWalk.i64_in _ (by omega)
      have HL := Lib.hid hL
      have HGS := Lib.hid hCW.2.2.1.lt
      have HPZ := Lib.hid (show w.heap.size + 2 ≤ wr.heap.size from hCW.2.1.lt)
      have HG0 := Lib.hid HY0.lt
      have HG1 := Lib.hid HY1.lt
      have HLE := Lib.hid hle
      have HGT := Lib.hid hgt
      clear ehs hpl hcells hgo hL hi1 hle hgt
      go_upto_if 71 with fail
      go_cut [14, 15, 16] from 52 to 133 (fun s14 s15 s16 wx => ∃ (gN cN : Nat) (N : List Int) (gF cF : Nat) (F : List Int), s14 = .slice (some ⟨gN, 0, none⟩) 114 cN ∧ s15 = .slice (some ⟨gF, 0, none⟩) 114 cF ∧ Own1 wx gN 114 N ∧ 114 ≤ cN ∧ Own1 wx gF 114 F ∧ 114 ≤ cF ∧ (k < bd → N = X ∧ F = X) ∧ (bd ≤ k → hiB (knF N) (knF F) f.o 114 = false) ∧ CR w wx (some ⟨go, 0, none⟩) L c' hs ∧ CW w wx gs X f a b c e ∧ Own1 wx g1 114 Y1)
      case first =>
        clear cA cB hixA hixB eL1 eL2 wL1 wL2
        by_cases hkb : k = bd
        · have q1 : ((k : Int) == (bd : Int)) = true := by rw [hkb]; simp
          have q2 : (k == bd) = true := by rw [hkb]; simp
          have hE := HLE.out (by omega)
          rw [hE.1] at HY0
          rw [hE.2] at HY1
          have HEQ := Lib.hid hE.2
          have HKB := Lib.hid hkb
          clear hE HLE HGT hkb
          cases t2
          · cases t1
            · skip
              have hlN := HY1.lies
              go_wp2_with (first
                | (at_builtin; with_reducible refine wpList_append_lies rfl (.const (.slice none 0 0)) (.tmp 72) 22 rfl wr.heap.size 31 i0 _ 1 Try.underlying22 hi0 hz0 hz1 hz2 rfl .u8 (.slice none 0 0) 0 [] rfl owns_none _ 114 _ X rfl hlN 114 rfl (by unfold maxLen; omega) (by omega) (Nat.le_refl _) ?_))
              intro A2 c2 w2 hown2 hg2 _
              have hbb2 : Below wr.heap.size wr w2 := (Below.refl _ _).grown hg2 (Nat.le_refl _) (fun r hr => by cases hr)
              obtain ⟨gl2, rfl, hgl2, hO2, hc2⟩ := own1_of hown2 (by omega)
              have hCW2 := hCW.on hbb2
              have hB0 := HY0.on hbb2
              have hB1 := HY1.on hbb2
              have hR2 := HROW.on hbb2
              have zB := hCW2.2.1
              have z0 := (zB.cell 0).trans (show _ = some (Value.int .u8 a) from rfl)
              have z1 := (zB.cell 1).trans (show _ = some (Value.int .u8 b) from rfl)
              have z2 := (zB.cell 2).trans (show _ = some (Value.int .u8 c) from rfl)
              have z3 := (zB.cell 3).trans (show _ = some (Value.int .u8 e) from rfl)
              have zl := zB.lt
              have hgl : wr.heap.size ≤ gl2 := hgl2
              have HLS := Nat.lt_of_lt_of_le HGS.out hgl
              have HLZ := Nat.le_trans HPZ.out hgl
              have HL0 := Nat.ne_of_lt (Nat.lt_of_lt_of_le HG0.out hgl)
              have HL1 := Nat.ne_of_lt (Nat.lt_of_lt_of_le HG1.out hgl)
              have n1 := (hO2.cell (j := p) (by omega))
              rw [← HXP.out] at n1
              have fn1 := hO2.frozen p
              have nl := hO2.lt
              have hixl := fun W => idxSym (n := 114) c2 (b := gl2) (off := 0) (k := p) rfl (by omega) W
              simp only [Nat.zero_add] at hixl
              have K1 := Lib.hid (hO2.set p xd)
              have K2 := Lib.hid (hCW2.far HLS HLZ p (.int .u8 xd))
              have K3 := Lib.hid (hB0.far HL0 p (.int .u8 xd))
              have K4 := Lib.hid (hB1.far HL1 p (.int .u8 xd))
              have K5 := Lib.hid (hR2.far (gl := gl2) p xd hO2)
              clear hO2 hCW2 hB0 hB1 hR2 hown2 hg2 hlN
              go_upto_region 20 with fail
              obtain ⟨w5, hw5⟩ : ∃ w5, w5 = w2.setCell ⟨gl2, p, none⟩ (.int .u8 xd) := ⟨_, rfl⟩
              rw [← hw5] at K1 K2 K3 K4 K5 ⊢
              clear hw5 n1 fn1 nl
              clear z0 z1 z2 z3 zl zB
              have zB := K2.out.2.1
              have z0 := (zB.cell 0).trans (show _ = some (Value.int .u8 a) from rfl)
              have z1 := (zB.cell 1).trans (show _ = some (Value.int .u8 b) from rfl)
              have z2 := (zB.cell 2).trans (show _ = some (Value.int .u8 c) from rfl)
              have z3 := (zB.cell 3).trans (show _ = some (Value.int .u8 e) from rfl)
              have zl := zB.lt
              go_wp2_with fail
              go_meet
              exact ⟨gl2, c2, X.set p xd, g0, c0', X, rfl, rfl, K1.out, hc2, K3.out, hc0', fun hk => absurd hk (by have := HKB.out; omega), fun _ => HNE1.out.1, K5.out, K2.out, (by rw [HEQ.out]; exact K4.out)⟩
            · skip
              have hlN := HY1.lies
              go_wp2_with (first
                | (at_builtin; with_reducible refine wpList_append_lies rfl (.const (.slice none 0 0)) (.tmp 72) 22 rfl wr.heap.size 31 i0 _ 1 Try.underlying22 hi0 hz0 hz1 hz2 rfl .u8 (.slice none 0 0) 0 [] rfl owns_none _ 114 _ X rfl hlN 114 rfl (by unfold maxLen; omega) (by omega) (Nat.le_refl _) ?_))
              intro A2 c2 w2 hown2 hg2 _
              have hbb2 : Below wr.heap.size wr w2 := (Below.refl _ _).grown hg2 (Nat.le_refl _) (fun r hr => by cases hr)
              obtain ⟨gl2, rfl, hgl2, hO2, hc2⟩ := own1_of hown2 (by omega)
              have hCW2 := hCW.on hbb2
              have hB0 := HY0.on hbb2
              have hB1 := HY1.on hbb2
              have hR2 := HROW.on hbb2
              have zB := hCW2.2.1
              have z0 := (zB.cell 0).trans (show _ = some (Value.int .u8 a) from rfl)
              have z1 := (zB.cell 1).trans (show _ = some (Value.int .u8 b) from rfl)
              have z2 := (zB.cell 2).trans (show _ = some (Value.int .u8 c) from rfl)
              have z3 := (zB.cell 3).trans (show _ = some (Value.int .u8 e) from rfl)
              have zl := zB.lt
              have hgl : wr.heap.size ≤ gl2 := hgl2
              have HLS := Nat.lt_of_lt_of_le HGS.out hgl
              have HLZ := Nat.le_trans HPZ.out hgl
              have HL0 := Nat.ne_of_lt (Nat.lt_of_lt_of_le HG0.out hgl)
              have HL1 := Nat.ne_of_lt (Nat.lt_of_lt_of_le HG1.out hgl)
              have n1 := (hO2.cell (j := p) (by omega))
              rw [← HXP.out] at n1
              have fn1 := hO2.frozen p
              have nl := hO2.lt
              have hixl := fun W => idxSym (n := 114) c2 (b := gl2) (off := 0) (k := p) rfl (by omega) W
              simp only [Nat.zero_add] at hixl
              have K1 := Lib.hid (hO2.set p xd)
              have K2 := Lib.hid (hCW2.far HLS HLZ p (.int .u8 xd))
              have K3 := Lib.hid (hB0.far HL0 p (.int .u8 xd))
              have K4 := Lib.hid (hB1.far HL1 p (.int .u8 xd))
              have K5 := Lib.hid (hR2.far (gl := gl2) p xd hO2)
              clear hO2 hCW2 hB0 hB1 hR2 hown2 hg2 hlN
              go_upto_region 20 with fail
              obtain ⟨w5, hw5⟩ : ∃ w5, w5 = w2.setCell ⟨gl2, p, none⟩ (.int .u8 xd) := ⟨_, rfl⟩
              rw [← hw5] at K1 K2 K3 K4 K5 ⊢
              clear hw5 n1 fn1 nl
              clear z0 z1 z2 z3 zl zB
              have zB := K2.out.2.1
              have z0 := (zB.cell 0).trans (show _ = some (Value.int .u8 a) from rfl)
              have z1 := (zB.cell 1).trans (show _ = some (Value.int .u8 b) from rfl)
              have z2 := (zB.cell 2).trans (show _ = some (Value.int .u8 c) from rfl)
              have z3 := (zB.cell 3).trans (show _ = some (Value.int .u8 e) from rfl)
              have zl := zB.lt
              have n1 := K1.out.cell (j := p) (by omega)
              have fn1 := K1.out.frozen p
              have nl := K1.out.lt
              have L1 := Lib.hid (K1.out.set p 0)
              have L2 := Lib.hid (K2.out.far HLS HLZ p (.int .u8 0))
              have L3 := Lib.hid (K3.out.far HL0 p (.int .u8 0))
              have L4 := Lib.hid (K4.out.far HL1 p (.int .u8 0))
              have L5 := Lib.hid (K5.out.far (gl := gl2) p 0 K1.out)
              clear K1 K2 K3 K4 K5
              go_upto_region 22 with fail
              obtain ⟨w6, hw6⟩ : ∃ w6, w6 = w5.setCell ⟨gl2, p, none⟩ (.int .u8 0) := ⟨_, rfl⟩
              rw [← hw6] at L1 L2 L3 L4 L5 ⊢
              clear hw6 n1 fn1 nl z0 z1 z2 z3 zl zB
              have zB := L2.out.2.1
              have z0 := (zB.cell 0).trans (show _ = some (Value.int .u8 a) from rfl)
              have z1 := (zB.cell 1).trans (show _ = some (Value.int .u8 b) from rfl)
              have z2 := (zB.cell 2).trans (show _ = some (Value.int .u8 c) from rfl)
              have z3 := (zB.cell 3).trans (show _ = some (Value.int .u8 e) from rfl)
              have zl := zB.lt
              go_wp2_with fail
              go_meet
              exact ⟨gl2, c2, (X.set p xd).set p 0, g0, c0', X, rfl, rfl, L1.out, hc2, L3.out, hc0', fun hk => absurd hk (by have := HKB.out; omega), fun _ => HNE2.out.1, L5.out, L2.out, (by rw [HEQ.out]; exact L4.out)⟩
          · cases t1
            · skip
              have hlN := HY1.lies
              go_wp2_with (first
                | (at_builtin; with_reducible refine wpList_append_lies rfl (.const (.slice none 0 0)) (.tmp 72) 22 rfl wr.heap.size 31 i0 _ 1 Try.underlying22 hi0 hz0 hz1 hz2 rfl .u8 (.slice none 0 0) 0 [] rfl owns_none _ 114 _ X rfl hlN 114 rfl (by unfold maxLen; omega) (by omega) (Nat.le_refl _) ?_))
              intro A2 c2 w2 hown2 hg2 _
              have hbb2 : Below wr.heap.size wr w2 := (Below.refl _ _).grown hg2 (Nat.le_refl _) (fun r hr => by cases hr)
              obtain ⟨gl2, rfl, hgl2, hO2, hc2⟩ := own1_of hown2 (by omega)
              have hCW2 := hCW.on hbb2
              have hB0 := HY0.on hbb2
              have hB1 := HY1.on hbb2
              have hR2 := HROW.on hbb2
              have zB := hCW2.2.1
              have z0 := (zB.cell 0).trans (show _ = some (Value.int .u8 a) from rfl)
              have z1 := (zB.cell 1).trans (show _ = some (Value.int .u8 b) from rfl)
              have z2 := (zB.cell 2).trans (show _ = some (Value.int .u8 c) from rfl)
              have z3 := (zB.cell 3).trans (show _ = some (Value.int .u8 e) from rfl)
              have zl := zB.lt
              have hlF := hB0.lies
              clear hown2 hg2
              go_wp2_with (first
                | (at_builtin; with_reducible refine wpList_append_lies rfl (.const (.slice none 0 0)) (.tmp 78) 22 rfl w2.heap.size 31 i0 _ 1 Try.underlying22 hi0 hz0 hz1 hz2 rfl .u8 (.slice none 0 0) 0 [] rfl owns_none _ 114 _ X rfl hlF 114 rfl (by unfold maxLen; omega) (by omega) (Nat.le_refl _) ?_))
              intro A3 c3 w3 hown3 hg3 _
              have hbb3 : Below w2.heap.size w2 w3 := (Below.refl _ _).grown hg3 (Nat.le_refl _) (fun r hr => by cases hr)
              obtain ⟨gl3, rfl, hgl3, hO3, hc3⟩ := own1_of hown3 (by omega)
              have hCW3 := hCW2.on hbb3
              have hB0 := hB0.on hbb3
              have hB1 := hB1.on hbb3
              have hR3 := hR2.on hbb3
              have hgl : wr.heap.size ≤ gl3 := Nat.le_trans hbb2.size hgl3
              clear z0 z1 z2 z3 zl zB hlF hO2
              have HLS := Nat.lt_of_lt_of_le HGS.out hgl
              have HLZ := Nat.le_trans HPZ.out hgl
              have HL0 := Nat.ne_of_lt (Nat.lt_of_lt_of_le HG0.out hgl)
              have HL1 := Nat.ne_of_lt (Nat.lt_of_lt_of_le HG1.out hgl)
              have n1 := (hO3.cell (j := p) (by omega))
              rw [← HXP.out] at n1
              have fn1 := hO3.frozen p
              have nl := hO3.lt
              have hixl := fun W => idxSym (n := 114) c3 (b := gl3) (off := 0) (k := p) rfl (by omega) W
              simp only [Nat.zero_add] at hixl
              have K1 := Lib.hid (hO3.set p xd)
              have K2 := Lib.hid (hCW3.far HLS HLZ p (.int .u8 xd))
              have K3 := Lib.hid (hB0.far HL0 p (.int .u8 xd))
              have K4 := Lib.hid (hB1.far HL1 p (.int .u8 xd))
              have K5 := Lib.hid (hR3.far (gl := gl3) p xd hO3)
              clear hO3 hCW3 hB0 hB1 hR3 hown3 hg3 hlN
              go_upto_region 20 with fail
              obtain ⟨w5, hw5⟩ : ∃ w5, w5 = w3.setCell ⟨gl3, p, none⟩ (.int .u8 xd) := ⟨_, rfl⟩
              rw [← hw5] at K1 K2 K3 K4 K5 ⊢
              clear hw5 n1 fn1 nl
              have zB := K2.out.2.1
              have z0 := (zB.cell 0).trans (show _ = some (Value.int .u8 a) from rfl)
              have z1 := (zB.cell 1).trans (show _ = some (Value.int .u8 b) from rfl)
              have z2 := (zB.cell 2).trans (show _ = some (Value.int .u8 c) from rfl)
              have z3 := (zB.cell 3).trans (show _ = some (Value.int .u8 e) from rfl)
              have zl := zB.lt
              go_wp2_with fail
              go_meet
              exact ⟨g1, c1', X, gl3, c3, X.set p xd, rfl, rfl, K4.out, hc1', K1.out, hc3, fun hk => absurd hk (by have := HKB.out; omega), fun _ => HNE1.out.2, K5.out, K2.out, (by rw [HEQ.out]; exact K4.out)⟩
            · skip
              have hlN := HY1.lies
              go_wp2_with (first
                | (at_builtin; with_reducible refine wpList_append_lies rfl (.const (.slice none 0 0)) (.tmp 72) 22 rfl wr.heap.size 31 i0 _ 1 Try.underlying22 hi0 hz0 hz1 hz2 rfl .u8 (.slice none 0 0) 0 [] rfl owns_none _ 114 _ X rfl hlN 114 rfl (by unfold maxLen; omega) (by omega) (Nat.le_refl _) ?_))
              intro A2 c2 w2 hown2 hg2 _
              have hbb2 : Below wr.heap.size wr w2 := (Below.refl _ _).grown hg2 (Nat.le_refl _) (fun r hr => by cases hr)
              obtain ⟨gl2, rfl, hgl2, hO2, hc2⟩ := own1_of hown2 (by omega)
              have hCW2 := hCW.on hbb2
              have hB0 := HY0.on hbb2
              have hB1 := HY1.on hbb2
              have hR2 := HROW.on hbb2
              have zB := hCW2.2.1
              have z0 := (zB.cell 0).trans (show _ = some (Value.int .u8 a) from rfl)
              have z1 := (zB.cell 1).trans (show _ = some (Value.int .u8 b) from rfl)
              have z2 := (zB.cell 2).trans (show _ = some (Value.int .u8 c) from rfl)
              have z3 := (zB.cell 3).trans (show _ = some (Value.int .u8 e) from rfl)
              have zl := zB.lt
              have hlF := hB0.lies
              clear hown2 hg2
              go_wp2_with (first
                | (at_builtin; with_reducible refine wpList_append_lies rfl (.const (.slice none 0 0)) (.tmp 78) 22 rfl w2.heap.size 31 i0 _ 1 Try.underlying22 hi0 hz0 hz1 hz2 rfl .u8 (.slice none 0 0) 0 [] rfl owns_none _ 114 _ X rfl hlF 114 rfl (by unfold maxLen; omega) (by omega) (Nat.le_refl _) ?_))
              intro A3 c3 w3 hown3 hg3 _
              have hbb3 : Below w2.heap.size w2 w3 := (Below.refl _ _).grown hg3 (Nat.le_refl _) (fun r hr => by cases hr)
              obtain ⟨gl3, rfl, hgl3, hO3, hc3⟩ := own1_of hown3 (by omega)
              have hCW3 := hCW2.on hbb3
              have hB0 := hB0.on hbb3
              have hB1 := hB1.on hbb3
              have hR3 := hR2.on hbb3
              have hgl : wr.heap.size ≤ gl3 := Nat.le_trans hbb2.size hgl3
              clear z0 z1 z2 z3 zl zB hlF hO2
              have HLS := Nat.lt_of_lt_of_le HGS.out hgl
              have HLZ := Nat.le_trans HPZ.out hgl
              have HL0 := Nat.ne_of_lt (Nat.lt_of_lt_of_le HG0.out hgl)
              have HL1 := Nat.ne_of_lt (Nat.lt_of_lt_of_le HG1.out hgl)
              have n1 := (hO3.cell (j := p) (by omega))
              rw [← HXP.out] at n1
              have fn1 := hO3.frozen p
              have nl := hO3.lt
              have hixl := fun W => idxSym (n := 114) c3 (b := gl3) (off := 0) (k := p) rfl (by omega) W
              simp only [Nat.zero_add] at hixl
              have K1 := Lib.hid (hO3.set p xd)
              have K2 := Lib.hid (hCW3.far HLS HLZ p (.int .u8 xd))
              have K3 := Lib.hid (hB0.far HL0 p (.int .u8 xd))
              have K4 := Lib.hid (hB1.far HL1 p (.int .u8 xd))
              have K5 := Lib.hid (hR3.far (gl := gl3) p xd hO3)
              clear hO3 hCW3 hB0 hB1 hR3 hown3 hg3 hlN
              go_upto_region 20 with fail
              obtain ⟨w5, hw5⟩ : ∃ w5, w5 = w3.setCell ⟨gl3, p, none⟩ (.int .u8 xd) := ⟨_, rfl⟩
              rw [← hw5] at K1 K2 K3 K4 K5 ⊢
              clear hw5 n1 fn1 nl
              have zB := K2.out.2.1
              have z0 := (zB.cell 0).trans (show _ = some (Value.int .u8 a) from rfl)
              have z1 := (zB.cell 1).trans (show _ = some (Value.int .u8 b) from rfl)
              have z2 := (zB.cell 2).trans (show _ = some (Value.int .u8 c) from rfl)
              have z3 := (zB.cell 3).trans (show _ = some (Value.int .u8 e) from rfl)
              have zl := zB.lt
              have n1 := K1.out.cell (j := p) (by omega)
              have fn1 := K1.out.frozen p
              have nl := K1.out.lt
              have L1 := Lib.hid (K1.out.set p 0)
              have L2 := Lib.hid (K2.out.far HLS HLZ p (.int .u8 0))
              have L3 := Lib.hid (K3.out.far HL0 p (.int .u8 0))
              have L4 := Lib.hid (K4.out.far HL1 p (.int .u8 0))
              have L5 := Lib.hid (K5.out.far (gl := gl3) p 0 K1.out)
              clear K1 K2 K3 K4 K5
              go_upto_region 22 with fail
              obtain ⟨w6, hw6⟩ : ∃ w6, w6 = w5.setCell ⟨gl3, p, none⟩ (.int .u8 0) := ⟨_, rfl⟩
              rw [← hw6] at L1 L2 L3 L4 L5 ⊢
              clear hw6 n1 fn1 nl z0 z1 z2 z3 zl zB
              have zB := L2.out.2.1
              have z0 := (zB.cell 0).trans (show _ = some (Value.int .u8 a) from rfl)
              have z1 := (zB.cell 1).trans (show _ = some (Value.int .u8 b) from rfl)
              have z2 := (zB.cell 2).trans (show _ = some (Value.int .u8 c) from rfl)
              have z3 := (zB.cell 3).trans (show _ = some (Value.int .u8 e) from rfl)
              have zl := zB.lt
              go_wp2_with fail
              go_meet
              exact ⟨g1, c1', X, gl3, c3, (X.set p xd).set p 0, rfl, rfl, L4.out, hc1', L1.out, hc3, fun hk => absurd hk (by have := HKB.out; omega), fun _ => HNE2.out.2, L5.out, L2.out, (by rw [HEQ.out]; exact L4.out)⟩
        · have q1 : ((k : Int) == (bd : Int)) = false := beq_eq_false_iff_ne.2 (by omega)
          have q2 : (k == bd) = false := beq_eq_false_iff_ne.2 hkb
          go_wp2_with fail
          go_meet
          exact ⟨g1, c1', Y1, g0, c0', Y0, rfl, rfl, HY1, hc1', HY0, hc0', fun h => ⟨(HLE.out (by omega)).2, (HLE.out (by omega)).1⟩, fun h => hi_bad _ HY1.len HY0.len (HGT.out (by omega)), HROW, hCW, HY1⟩
      case rest =>
        obtain ⟨gN, cN, N, gF, cF, F, rfl, rfl, hN, hcN, hFF, hcF, hlo', hhi', hROW, hCW, hY1⟩ := hcut
        clear cA cB hixA hixB eL1 eL2 wL1 wL2 HROW HY0 HY1
        by_cases hkb : k < bd
        · skip
          obtain ⟨Y, hY⟩ : ∃ Y, outL (knF N) (knF F) f.o 114 = Y := ⟨_, rfl⟩
          have HY := Lib.hid hY
          obtain ⟨eN, eF⟩ := hlo' hkb
          have e1 := HGG.out.1
          have e2 := HGG.out.2.1
          have e3 := HGG.out.2.2
          rw [eN, eF, e3] at hY
          rw [eN] at hN
          rw [eF] at hFF
          have HRN := Lib.hid (HRUN.out (some ⟨gN, 0, none⟩) (some ⟨gF, 0, none⟩) cN cF X X wc hN.lies hFF.lies true e1 f e2 X e3)
          have HYX := Lib.hid hY.symm
          clear e1 e2 e3
          have hkbi : (k : Int) < (bd : Int) := by omega
          clear hY hlo' hhi' hN hFF
          go_wp2_with (go_at_call 20; (with_reducible refine HRN.out.mono ?_); rintro e' w2 ⟨A2, c2, rfl, hown2, b2⟩)
          obtain ⟨g2, rfl, hg2, hO2, hc2⟩ := own1_of hown2 (by omega)
          have hO2 := hO2.on (below_al (Below.refl _ _) (.cells #[.int .i64 f.o, .int .u8 f.k, .int .u8 f.s, .int .u32 f.q, .int .u32 f.v] 42))
          have hfr := Blk.new w2 42 #[.int .i64 f.o, .int .u8 f.k, .int .u8 f.s, .int .u32 f.q, .int .u32 f.v]
          have hb2 := below_al b2 (.cells #[.int .i64 f.o, .int .u8 f.k, .int .u8 f.s, .int .u32 f.q, .int .u32 f.v] 42)
          have hCW2 := hCW.on hb2
          have hR2 := hROW.on hb2
          have hY1 := hY1.on hb2
          obtain ⟨w3, hw3⟩ : ∃ w3, w3 = w2.alloc (.cells #[.int .i64 f.o, .int .u8 f.k, .int .u8 f.s, .int .u32 f.q, .int .u32 f.v] 42) := ⟨_, rfl⟩
          rw [← hw3] at hO2 hfr hCW2 hR2 hY1 ⊢
          clear hw3 hown2 b2 hb2 hCW hROW
          refine Reg.wp_slots (fun t => decide (109 ≤ t) && decide (t ≤ 129)) (by kernel_rfl) (by kernel_rfl) (by kernel_rfl) (fun zz => (Reg.tbl [
            (109, .is (.bool true)),
            (110, .is (.int .i64 (k : Int))),
            (111, .is (.int .i64 (bd : Int))),
            (112, .is (.bool true)),
            (113, .is (.bool false)),
            (114, .is (.bool false)),
            (115, .is (.bool true)),
            (116, .is (.bool true)),
            (117, .is (.agg #[.int .i64 f.o, .int .u8 f.k, .int .u8 f.s, .int .u32 f.q, .int .u32 f.v])),
            (118, .is (.int .i64 f.o)),
            (119, .is (.agg #[.int .u8 f.k, .int .u8 f.s, .int .u32 f.q, .int .u32 f.v])),
            (120, .is (.agg #[.int .i64 f.o, .int .u8 f.k, .int .u8 f.s, .int .u32 f.q, .int .u32 f.v])),
            (121, .is (.bool false)),
            (122, .is (.bool false)),
            (123, .is (.slice (some ⟨g2, 0, none⟩) 114 c2)),
            (124, .is (.slice (some ⟨gs, 0, none⟩) 114 114)),
            (125, .is (.bool true)),
            (126, .is (.bool false)),
            (127, .is (.bool false)),
            (128, .is (.bool false)),
            (129, .is (.bool false))] zz).P) (fun zz => (Reg.tbl _ zz).on) ?_ ?_
          · simp only [Reg.frame, Reg.over, Nat.reduceAdd, Nat.reduceLeDiff, decide_true, decide_false, if_true, Bool.false_eq_true, if_false, Bool.and_true, Bool.and_false]
            refine ⟨?_, ?_, ?_, ?_, ?_, ?_, ?_, ?_, ?_, ?_, ?_, ?_, ?_, ?_, ?_, ?_, ?_, ?_, ?_, ?_, ?_, trivial⟩
            · intro x u hbu hd
              refine wpOp_step rfl fun K hK => ?_
              go_simp
              exact hK _ _ ⟨_, rfl, Below.refl _ _, fun d hd => by cases hd; exact rfl⟩
            · intro x u hbu hd
              refine wpOp_step rfl fun K hK => ?_
              go_simp
              exact hK _ _ ⟨_, rfl, Below.refl _ _, fun d hd => by cases hd; exact rfl⟩
            · intro x u hbu hd
              refine wpOp_step rfl fun K hK => ?_
              go_simp
              exact hK _ _ ⟨_, rfl, Below.refl _ _, fun d hd => by cases hd; exact rfl⟩
            · intro x u hbu hd
              have h110 : x 110 = .int .i64 (k : Int) := hd 1 (by decide)
              have h111 : x 111 = .int .i64 (bd : Int) := hd 2 (by decide)
              refine wpOp_step rfl fun K hK => ?_
              simp only [h110, h111] at hK ⊢
              go_simp
              exact hK _ _ ⟨_, rfl, Below.refl _ _, fun d hd => by cases hd; exact rfl⟩
            · intro x u hbu hd
              have h109 : x 109 = .bool true := hd 0 (by decide)
              have h112 : x 112 = .bool true := hd 3 (by decide)
              refine wpOp_step rfl fun K hK => ?_
              simp only [h109, h112] at hK ⊢
              go_simp
              exact hK _ _ ⟨_, rfl, Below.refl _ _, fun d hd => by cases hd; exact rfl⟩
            · intro x u hbu hd
              have h113 : x 113 = .bool false := hd 4 (by decide)
              refine wpOp_step rfl fun K hK => ?_
              simp only [h113] at hK ⊢
              go_simp
              exact hK _ _ ⟨_, rfl, Below.refl _ _, fun d hd => by cases hd; exact rfl⟩
            · intro x u hbu hd
              have h114 : x 114 = .bool false := hd 5 (by decide)
              refine wpOp_step rfl fun K hK => ?_
              simp only [h114] at hK ⊢
              go_simp
              exact hK _ _ ⟨_, rfl, Below.refl _ _, fun d hd => by cases hd; exact rfl⟩
            · intro x u hbu hd
              have h115 : x 115 = .bool true := hd 6 (by decide)
              have h114 : x 114 = .bool false := hd 5 (by decide)
              refine wpOp_step rfl fun K hK => ?_
              simp only [h115, h114] at hK ⊢
              go_simp
              exact hK _ _ ⟨_, rfl, Below.refl _ _, fun d hd => by cases hd; exact rfl⟩
            · intro x u hbu hd
              have h116 : x 116 = .bool true := hd 7 (by decide)
              have hq := hfr.on hbu
              have hlq := hq.lt
              have q0 := hq.cell 0
              have q1 := hq.cell 1
              have q2 := hq.cell 2
              have q3 := hq.cell 3
              have q4 := hq.cell 4
              simp only [List.getElem?_toArray, List.getElem?_cons_zero, List.getElem?_cons_succ] at q0 q1 q2 q3 q4
              refine wpOp_step rfl fun K hK => ?_
              simp only [h116] at hK ⊢
              go_simp
              exact hK _ _ ⟨_, rfl, Below.refl _ _, fun d hd => by cases hd; exact rfl⟩
            · intro x u hbu hd
              have h116 : x 116 = .bool true := hd 7 (by decide)
              refine wpOp_step rfl fun K hK => ?_
              simp only [h116] at hK ⊢
              go_simp
              exact hK _ _ ⟨_, rfl, Below.refl _ _, fun d hd => by cases hd; exact rfl⟩
            · intro x u hbu hd
              have h116 : x 116 = .bool true := hd 7 (by decide)
              have hq := (hCW2.on hbu).1
              have hlq := hq.lt
              have q0 := hq.cell 0
              have q1 := hq.cell 1
              have q2 := hq.cell 2
              have q3 := hq.cell 3
              simp only [List.getElem?_toArray, List.getElem?_cons_zero, List.getElem?_cons_succ] at q0 q1 q2 q3
              refine wpOp_step rfl fun K hK => ?_
              simp only [h116] at hK ⊢
              go_simp
              exact hK _ _ ⟨_, rfl, Below.refl _ _, fun d hd => by cases hd; exact rfl⟩
            · intro x u hbu hd
              have h118 : x 118 = .int .i64 f.o := hd 9 (by decide)
              have h119 : x 119 = .agg #[.int .u8 f.k, .int .u8 f.s, .int .u32 f.q, .int .u32 f.v] := hd 10 (by decide)
              have h116 : x 116 = .bool true := hd 7 (by decide)
              refine wpOp_step rfl fun K hK => ?_
              simp only [h118, h119, h116] at hK ⊢
              go_simp
              refine (HOF.out _).mono ?_
              rintro e' w9 ⟨rfl, b9⟩
              exact hK _ _ ⟨_, rfl, b9, fun d hd => by cases hd; exact rfl⟩
            · intro x u hbu hd
              have h117 : x 117 = .agg #[.int .i64 f.o, .int .u8 f.k, .int .u8 f.s, .int .u32 f.q, .int .u32 f.v] := hd 8 (by decide)
              have h120 : x 120 = .agg #[.int .i64 f.o, .int .u8 f.k, .int .u8 f.s, .int .u32 f.q, .int .u32 f.v] := hd 11 (by decide)
              have h116 : x 116 = .bool true := hd 7 (by decide)
              have hne := fr_neq f.o f.k f.s f.q f.v f.o f.k f.s f.q f.v u
              simp only [beq_self_eq_true, Bool.and_self, Bool.not_true] at hne
              refine wpOp_step rfl fun K hK => ?_
              simp only [h117, h120, h116] at hK ⊢
              go_simp
              exact hK _ _ ⟨_, rfl, Below.refl _ _, fun d hd => by cases hd; exact rfl⟩
            · intro x u hbu hd
              have h121 : x 121 = .bool false := hd 12 (by decide)
              have h116 : x 116 = .bool true := hd 7 (by decide)
              refine wpOp_step rfl fun K hK => ?_
              simp only [h121, h116] at hK ⊢
              go_simp
              exact hK _ _ ⟨_, rfl, Below.refl _ _, fun d hd => by cases hd; exact rfl⟩
            · intro x u hbu hd
              have h122 : x 122 = .bool false := hd 13 (by decide)
              refine wpOp_step rfl fun K hK => ?_
              simp only [h122] at hK ⊢
              go_simp
              exact hK _ _ ⟨_, rfl, Below.refl _ _, fun d hd => by cases hd; exact rfl⟩
            · intro x u hbu hd
              have h122 : x 122 = .bool false := hd 13 (by decide)
              refine wpOp_step rfl fun K hK => ?_
              simp only [h122] at hK ⊢
              go_simp
              exact hK _ _ ⟨_, rfl, Below.refl _ _, fun d hd => by cases hd; exact rfl⟩
            · intro x u hbu hd
              have h123 : x 123 = .slice (some ⟨g2, 0, none⟩) 114 c2 := hd 14 (by decide)
              have h124 : x 124 = .slice (some ⟨gs, 0, none⟩) 114 114 := hd 15 (by decide)
              have h122 : x 122 = .bool false := hd 13 (by decide)
              refine wpOp_step rfl fun K hK => ?_
              simp only [h123, h124, h122] at hK ⊢
              go_simp
              refine (same_true _ _ 114 114 _ _ X X u (hO2.on hbu).lies (hCW2.on hbu).2.2.1.lies (by omega) (by omega) rfl).mono ?_
              rintro e' w9 ⟨rfl, b9⟩
              exact hK _ _ ⟨_, rfl, b9, fun d hd => by cases hd; exact rfl⟩
            · intro x u hbu hd
              have h125 : x 125 = .bool true := hd 16 (by decide)
              have h122 : x 122 = .bool false := hd 13 (by decide)
              refine wpOp_step rfl fun K hK => ?_
              simp only [h125, h122] at hK ⊢
              go_simp
              exact hK _ _ ⟨_, rfl, Below.refl _ _, fun d hd => by cases hd; exact rfl⟩
            · intro x u hbu hd
              have h122 : x 122 = .bool false := hd 13 (by decide)
              have h126 : x 126 = .bool false := hd 17 (by decide)
              have h116 : x 116 = .bool true := hd 7 (by decide)
              refine wpOp_step rfl fun K hK => ?_
              simp only [h122, h126, h116] at hK ⊢
              go_simp
              exact hK _ _ ⟨_, rfl, Below.refl _ _, fun d hd => by cases hd; exact rfl⟩
            · intro x u hbu hd
              have h116 : x 116 = .bool true := hd 7 (by decide)
              have h127 : x 127 = .bool false := hd 18 (by decide)
              have h114 : x 114 = .bool false := hd 5 (by decide)
              refine wpOp_step rfl fun K hK => ?_
              simp only [h116, h127, h114] at hK ⊢
              go_simp
              exact hK _ _ ⟨_, rfl, Below.refl _ _, fun d hd => by cases hd; exact rfl⟩
            · intro x u hbu hd
              have h114 : x 114 = .bool false := hd 5 (by decide)
              have h128 : x 128 = .bool false := hd 19 (by decide)
              refine wpOp_step rfl fun K hK => ?_
              simp only [h114, h128] at hK ⊢
              go_simp
              exact hK _ _ ⟨_, rfl, Below.refl _ _, fun d hd => by cases hd; exact rfl⟩
          · intro x u hbu hall
            have h129 : x 129 = .bool false := hall 20 (by decide)
            simp only [Reg.frame, Reg.over, Nat.reduceAdd, Nat.reduceLeDiff, decide_true, decide_false, if_true, Bool.false_eq_true, if_false, Bool.and_true, Bool.and_false, h129]
            have hO3 := hO2.on hbu
            have hCW3 := hCW2.on hbu
            have hR3 := hR2.on hbu
            have hY3 := hY1.on hbu
            clear hO2 hCW2 hR2 hY1 hfr hbu hall
            have hown' : (u.alloc (.cells #[.slice (some ⟨g2, 0, none⟩) 114 c2] 22)).ownsRow w.heap.size 22 1 (.slice (some ⟨go, 0, none⟩) L c') L hs := hR3.on (below_al (Below.refl _ _) _)
            have hcu : (u.alloc (.cells #[.slice (some ⟨g2, 0, none⟩) 114 c2] 22)).cell? ⟨u.heap.size, 0, none⟩ = some (.slice (some ⟨g2, 0, none⟩) 114 c2) := by simp
            go_wp2_with (first
              | (at_builtin; refine wpList_append_one rfl (.tmp 130) (.tmp 132) 68 rfl w.heap.size 22 j0 _ 24 Try.underlying68 hj0 hy0 hy1 hy2 rfl (.slice (some ⟨go, 0, none⟩) L c') L hs rfl hown' u.heap.size (.slice (some ⟨g2, 0, none⟩) 114 c2) rfl hcu rfl (by have := HL.out; unfold maxLen; omega) (by have := HL.out; omega) (Nat.le_trans hCW3.2.2.2.size (by simp)) ?_))
            intro A3 c3 w5 hown5 hg5
            have hk5 : KeptBut u w5 [22] := (KeptBut.alloc u _ _).trans (KeptBut.grown hown' hg5)
            have hb5 := (below_al hCW3.2.2.2 (.cells #[.slice (some ⟨g2, 0, none⟩) 114 c2] 22)).grown hg5 (Nat.le_trans hCW3.2.2.2.size (by simp)) (fun r hr => (hown'.lt r hr).1)
            have hCW5 := hCW3.kept hk5 hb5
            have hO5 := hO3.kept hk5
            have hY5 := hY3.kept hk5
            have hR5 : CR w w5 A3 (k + 1 + 2) c3 ((pre ++ [.slice (some ⟨g0, 0, none⟩) 114 c0']) ++ [.slice (some ⟨g1, 0, none⟩) 114 c1', .slice (some ⟨g2, 0, none⟩) 114 c2]) := by
              have e9 : hs ++ [.slice (some ⟨g2, 0, none⟩) 114 c2] = (pre ++ [.slice (some ⟨g0, 0, none⟩) 114 c0']) ++ [.slice (some ⟨g1, 0, none⟩) 114 c1', .slice (some ⟨g2, 0, none⟩) 114 c2] := by rw [HHS.out]; simp
              rw [← e9, show k + 1 + 2 = L + 1 by have := HL.out; omega]
              exact hown5
            clear hown' hcu hown5 hg5 hk5 hb5 hCW3 hR3 hO3 hY3
            have e7 : k + 1 + 2 = L + 1 := by have := HL.out; omega
            go_wp2_with fail
            go_roundw
            case rel => exact ⟨k + 1, A3, c3, pre ++ [.slice (some ⟨g0, 0, none⟩) 114 c0'], g1, c1', Y1, g2, c2, X, by omega, by go_num, by rw [e7], hR5, hY5, hc1', hO5, hc2, fun h => ⟨(HLE.out (by omega)).2, rfl⟩, fun h => absurd h (by omega), hCW5⟩
            case measure => simp [intOf]; omega
        · skip
          obtain ⟨Y, hY⟩ : ∃ Y, outL (knF N) (knF F) f.o 114 = Y := ⟨_, rfl⟩
          have HY := Lib.hid hY
          have hh := hhi' (by omega)
          obtain ⟨G, hG⟩ : ∃ G, hiF (knF N) (knF F) f.o 114 = G := ⟨_, rfl⟩
          have HRN := Lib.hid (HRUN.out (some ⟨gN, 0, none⟩) (some ⟨gF, 0, none⟩) cN cF N F wc hN.lies hFF.lies false hh G hG Y hY)
          have HLAST := Lib.hid (show Y.getD 113 0 = 0 ∨ Y.getD 113 0 = 2 by rw [← hY]; exact low_last _ _ _ hh)
          clear hh hG
          have hkbi : (bd : Int) ≤ (k : Int) := by omega
          clear hY hlo' hhi' hN hFF
          go_wp2_with (go_at_call 20; (with_reducible refine HRN.out.mono ?_); rintro e' w2 ⟨A2, c2, rfl, hown2, b2⟩)
          obtain ⟨g2, rfl, hg2, hO2, hc2⟩ := own1_of hown2 (by omega)
          have hO2 := hO2.on (below_al (Below.refl _ _) (.cells #[.int .i64 G.o, .int .u8 G.k, .int .u8 G.s, .int .u32 G.q, .int .u32 G.v] 42))
          have hfr := Blk.new w2 42 #[.int .i64 G.o, .int .u8 G.k, .int .u8 G.s, .int .u32 G.q, .int .u32 G.v]
          have hb2 := below_al b2 (.cells #[.int .i64 G.o, .int .u8 G.k, .int .u8 G.s, .int .u32 G.q, .int .u32 G.v] 42)
          have hCW2 := hCW.on hb2
          have hR2 := hROW.on hb2
          have hY1 := hY1.on hb2
          obtain ⟨w3, hw3⟩ : ∃ w3, w3 = w2.alloc (.cells #[.int .i64 G.o, .int .u8 G.k, .int .u8 G.s, .int .u32 G.q, .int .u32 G.v] 42) := ⟨_, rfl⟩
          rw [← hw3] at hO2 hfr hCW2 hR2 hY1 ⊢
          clear hw3 hown2 b2 hb2 hCW hROW
          refine Reg.wp_slots (fun t => decide (109 ≤ t) && decide (t ≤ 129)) (by kernel_rfl) (by kernel_rfl) (by kernel_rfl) (fun zz => (Reg.tbl [
            (109, .is (.bool false)),
            (110, .is (.int .i64 (k : Int))),
            (111, .is (.int .i64 (bd : Int))),
            (112, .is (.bool false)),
            (113, .is (.bool false)),
            (114, .is (.bool false)),
            (115, .is (.bool false)),
            (116, .is (.bool false)),
            (117, .is (undef)),
            (118, .is (undef)),
            (119, .is (undef)),
            (120, .is (undef)),
            (121, .is (undef)),
            (122, .is (undef)),
            (123, .is (undef)),
            (124, .is (undef)),
            (125, .is (undef)),
            (126, .is (undef)),
            (127, .is (undef)),
            (128, .is (.bool false)),
            (129, .is (.bool false))] zz).P) (fun zz => (Reg.tbl _ zz).on) ?_ ?_
          · simp only [Reg.frame, Reg.over, Nat.reduceAdd, Nat.reduceLeDiff, decide_true, decide_false, if_true, Bool.false_eq_true, if_false, Bool.and_true, Bool.and_false]
            refine ⟨?_, ?_, ?_, ?_, ?_, ?_, ?_, ?_, ?_, ?_, ?_, ?_, ?_, ?_, ?_, ?_, ?_, ?_, ?_, ?_, ?_, trivial⟩
            · intro x u hbu hd
              refine wpOp_step rfl fun K hK => ?_
              go_simp
              exact hK _ _ ⟨_, rfl, Below.refl _ _, fun d hd => by cases hd; exact rfl⟩
            · intro x u hbu hd
              refine wpOp_step rfl fun K hK => ?_
              go_simp
              exact hK _ _ ⟨_, rfl, Below.refl _ _, fun d hd => by cases hd; exact rfl⟩
            · intro x u hbu hd
              refine wpOp_step rfl fun K hK => ?_
              go_simp
              exact hK _ _ ⟨_, rfl, Below.refl _ _, fun d hd => by cases hd; exact rfl⟩
            · intro x u hbu hd
              have h110 : x 110 = .int .i64 (k : Int) := hd 1 (by decide)
              have h111 : x 111 = .int .i64 (bd : Int) := hd 2 (by decide)
              refine wpOp_step rfl fun K hK => ?_
              simp only [h110, h111] at hK ⊢
              go_simp
              exact hK _ _ ⟨_, rfl, Below.refl _ _, fun d hd => by cases hd; exact rfl⟩
            · intro x u hbu hd
              have h109 : x 109 = .bool false := hd 0 (by decide)
              have h112 : x 112 = .bool false := hd 3 (by decide)
              refine wpOp_step rfl fun K hK => ?_
              simp only [h109, h112] at hK ⊢
              go_simp
              exact hK _ _ ⟨_, rfl, Below.refl _ _, fun d hd => by cases hd; exact rfl⟩
            · intro x u hbu hd
              have h113 : x 113 = .bool false := hd 4 (by decide)
              refine wpOp_step rfl fun K hK => ?_
              simp only [h113] at hK ⊢
              go_simp
              exact hK _ _ ⟨_, rfl, Below.refl _ _, fun d hd => by cases hd; exact rfl⟩
            · intro x u hbu hd
              have h114 : x 114 = .bool false := hd 5 (by decide)
              refine wpOp_step rfl fun K hK => ?_
              simp only [h114] at hK ⊢
              go_simp
              exact hK _ _ ⟨_, rfl, Below.refl _ _, fun d hd => by cases hd; exact rfl⟩
            · intro x u hbu hd
              have h115 : x 115 = .bool false := hd 6 (by decide)
              have h114 : x 114 = .bool false := hd 5 (by decide)
              refine wpOp_step rfl fun K hK => ?_
              simp only [h115, h114] at hK ⊢
              go_simp
              exact hK _ _ ⟨_, rfl, Below.refl _ _, fun d hd => by cases hd; exact rfl⟩
            · intro x u hbu hd
              have h116 : x 116 = .bool false := hd 7 (by decide)
              refine wpOp_step rfl fun K hK => ?_
              simp only [h116] at hK ⊢
              go_simp
              exact hK _ _ ⟨_, rfl, Below.refl _ _, fun d hd => by cases hd; exact rfl⟩
            · intro x u hbu hd
              have h116 : x 116 = .bool false := hd 7 (by decide)
              refine wpOp_step rfl fun K hK => ?_
              simp only [h116] at hK ⊢
              go_simp
              exact hK _ _ ⟨_, rfl, Below.refl _ _, fun d hd => by cases hd; exact rfl⟩
            · intro x u hbu hd
              have h116 : x 116 = .bool false := hd 7 (by decide)
              refine wpOp_step rfl fun K hK => ?_
              simp only [h116] at hK ⊢
              go_simp
              exact hK _ _ ⟨_, rfl, Below.refl _ _, fun d hd => by cases hd; exact rfl⟩
            · intro x u hbu hd
              have h118 : x 118 = undef := hd 9 (by decide)
              have h119 : x 119 = undef := hd 10 (by decide)
              have h116 : x 116 = .bool false := hd 7 (by decide)
              refine wpOp_step rfl fun K hK => ?_
              simp only [h118, h119, h116] at hK ⊢
              go_simp
              exact hK _ _ ⟨_, rfl, Below.refl _ _, fun d hd => by cases hd; exact rfl⟩
            · intro x u hbu hd
              have h117 : x 117 = undef := hd 8 (by decide)
              have h120 : x 120 = undef := hd 11 (by decide)
              have h116 : x 116 = .bool false := hd 7 (by decide)
              refine wpOp_step rfl fun K hK => ?_
              simp only [h117, h120, h116] at hK ⊢
              go_simp
              exact hK _ _ ⟨_, rfl, Below.refl _ _, fun d hd => by cases hd; exact rfl⟩
            · intro x u hbu hd
              have h121 : x 121 = undef := hd 12 (by decide)
              have h116 : x 116 = .bool false := hd 7 (by decide)
              refine wpOp_step rfl fun K hK => ?_
              simp only [h121, h116] at hK ⊢
              go_simp
              exact hK _ _ ⟨_, rfl, Below.refl _ _, fun d hd => by cases hd; exact rfl⟩
            · intro x u hbu hd
              have h122 : x 122 = undef := hd 13 (by decide)
              refine wpOp_step rfl fun K hK => ?_
              simp only [h122] at hK ⊢
              go_simp
              exact hK _ _ ⟨_, rfl, Below.refl _ _, fun d hd => by cases hd; exact rfl⟩
            · intro x u hbu hd
              have h122 : x 122 = undef := hd 13 (by decide)
              refine wpOp_step rfl fun K hK => ?_
              simp only [h122] at hK ⊢
              go_simp
              exact hK _ _ ⟨_, rfl, Below.refl _ _, fun d hd => by cases hd; exact rfl⟩
            · intro x u hbu hd
              have h123 : x 123 = undef := hd 14 (by decide)
              have h124 : x 124 = undef := hd 15 (by decide)
              have h122 : x 122 = undef := hd 13 (by decide)
              refine wpOp_step rfl fun K hK => ?_
              simp only [h123, h124, h122] at hK ⊢
              go_simp
              exact hK _ _ ⟨_, rfl, Below.refl _ _, fun d hd => by cases hd; exact rfl⟩
            · intro x u hbu hd
              have h125 : x 125 = undef := hd 16 (by decide)
              have h122 : x 122 = undef := hd 13 (by decide)
              refine wpOp_step rfl fun K hK => ?_
              simp only [h125, h122] at hK ⊢
              go_simp
              exact hK _ _ ⟨_, rfl, Below.refl _ _, fun d hd => by cases hd; exact rfl⟩
            · intro x u hbu hd
              have h122 : x 122 = undef := hd 13 (by decide)
              have h126 : x 126 = undef := hd 17 (by decide)
              have h116 : x 116 = .bool false := hd 7 (by decide)
              refine wpOp_step rfl fun K hK => ?_
              simp only [h122, h126, h116] at hK ⊢
              go_simp
              exact hK _ _ ⟨_, rfl, Below.refl _ _, fun d hd => by cases hd; exact rfl⟩
            · intro x u hbu hd
              have h116 : x 116 = .bool false := hd 7 (by decide)
              have h127 : x 127 = undef := hd 18 (by decide)
              have h114 : x 114 = .bool false := hd 5 (by decide)
              refine wpOp_step rfl fun K hK => ?_
              simp only [h116, h127, h114] at hK ⊢
              go_simp
              exact hK _ _ ⟨_, rfl, Below.refl _ _, fun d hd => by cases hd; exact rfl⟩
            · intro x u hbu hd
              have h114 : x 114 = .bool false := hd 5 (by decide)
              have h128 : x 128 = .bool false := hd 19 (by decide)
              refine wpOp_step rfl fun K hK => ?_
              simp only [h114, h128] at hK ⊢
              go_simp
              exact hK _ _ ⟨_, rfl, Below.refl _ _, fun d hd => by cases hd; exact rfl⟩
          · intro x u hbu hall
            have h129 : x 129 = .bool false := hall 20 (by decide)
            simp only [Reg.frame, Reg.over, Nat.reduceAdd, Nat.reduceLeDiff, decide_true, decide_false, if_true, Bool.false_eq_true, if_false, Bool.and_true, Bool.and_false, h129]
            have hO3 := hO2.on hbu
            have hCW3 := hCW2.on hbu
            have hR3 := hR2.on hbu
            have hY3 := hY1.on hbu
            clear hO2 hCW2 hR2 hY1 hfr hbu hall
            have hown' : (u.alloc (.cells #[.slice (some ⟨g2, 0, none⟩) 114 c2] 22)).ownsRow w.heap.size 22 1 (.slice (some ⟨go, 0, none⟩) L c') L hs := hR3.on (below_al (Below.refl _ _) _)
            have hcu : (u.alloc (.cells #[.slice (some ⟨g2, 0, none⟩) 114 c2] 22)).cell? ⟨u.heap.size, 0, none⟩ = some (.slice (some ⟨g2, 0, none⟩) 114 c2) := by simp
            go_wp2_with (first
              | (at_builtin; refine wpList_append_one rfl (.tmp 130) (.tmp 132) 68 rfl w.heap.size 22 j0 _ 24 Try.underlying68 hj0 hy0 hy1 hy2 rfl (.slice (some ⟨go, 0, none⟩) L c') L hs rfl hown' u.heap.size (.slice (some ⟨g2, 0, none⟩) 114 c2) rfl hcu rfl (by have := HL.out; unfold maxLen; omega) (by have := HL.out; omega) (Nat.le_trans hCW3.2.2.2.size (by simp)) ?_))
            intro A3 c3 w5 hown5 hg5
            have hk5 : KeptBut u w5 [22] := (KeptBut.alloc u _ _).trans (KeptBut.grown hown' hg5)
            have hb5 := (below_al hCW3.2.2.2 (.cells #[.slice (some ⟨g2, 0, none⟩) 114 c2] 22)).grown hg5 (Nat.le_trans hCW3.2.2.2.size (by simp)) (fun r hr => (hown'.lt r hr).1)
            have hCW5 := hCW3.kept hk5 hb5
            have hO5 := hO3.kept hk5
            have hY5 := hY3.kept hk5
            have hR5 : CR w w5 A3 (k + 1 + 2) c3 ((pre ++ [.slice (some ⟨g0, 0, none⟩) 114 c0']) ++ [.slice (some ⟨g1, 0, none⟩) 114 c1', .slice (some ⟨g2, 0, none⟩) 114 c2]) := by
              have e9 : hs ++ [.slice (some ⟨g2, 0, none⟩) 114 c2] = (pre ++ [.slice (some ⟨g0, 0, none⟩) 114 c0']) ++ [.slice (some ⟨g1, 0, none⟩) 114 c1', .slice (some ⟨g2, 0, none⟩) 114 c2] := by rw [HHS.out]; simp
              rw [← e9, show k + 1 + 2 = L + 1 by have := HL.out; omega]
              exact hown5
            clear hown' hcu hown5 hg5 hk5 hb5 hCW3 hR3 hO3 hY3
            have e7 : k + 1 + 2 = L + 1 := by have := HL.out; omega
            go_wp2_with fail
            go_roundw
            case rel => exact ⟨k + 1, A3, c3, pre ++ [.slice (some ⟨g0, 0, none⟩) 114 c0'], g1, c1', Y1, g2, c2, Y, by omega, by go_num, by rw [e7], hR5, hY5, hc1', hO5, hc2, fun h => absurd h (by omega), fun _ => HLAST.out, hCW5⟩
            case measure => simp [intOf]; omega
    · have hlti : (M : Int) ≤ (k : Int) := by omega
      have HB := Lib.hid hCW.2.2.2
      clear HROW HY0 HY1 hle hgt hCW hlt
      go_wp2_with (go_at_call 8; (with_reducible refine (lives_ca _).mono ?_); rintro e' w9 ⟨rfl, b9⟩)
      go_ret
      exact ⟨rfl, below_then HB.out b9⟩
theorem catchesChain.catchesChain_walk (x ky sy qy zy a b c e : Int) (w : World) (hx : (Lit.int .u8 x).wf = true) (hp : (Lit.int .u8 ky).wf = true ∧ (Lit.int .u8 sy).wf = true ∧ (Lit.int .u32 qy).wf = true ∧ (Lit.int .u32 zy).wf = true) (ha : (Lit.int .u8 a).wf = true) (hb : (Lit.int .u8 b).wf = true) (hc : (Lit.int .u8 c).wf = true) (_ : (Lit.int .u8 e).wf = true) :
    Calls Try.prog 6 #[.int .u8 x, .agg #[.int .u8 ky, .int .u8 sy, .int .u32 qy, .int .u32 zy], .agg #[.int .u8 a, .int .u8 b, .int .u8 c, .int .u8 e]] w fun e' w' => e' = .returned (.bool true) ∧ Below w.heap.size w w' := by
  obtain ⟨x0, x1⟩ := bounds_u8 hx
  obtain ⟨k0, k1⟩ := bounds_u8 hp.1
  obtain ⟨s0, s1⟩ := bounds_u8 hp.2.1
  obtain ⟨q0, q1⟩ := bounds_u32 hp.2.2.1
  obtain ⟨z0, z1⟩ := bounds_u32 hp.2.2.2
  obtain ⟨a0, a1⟩ := bounds_u8 ha
  obtain ⟨b0, b1⟩ := bounds_u8 hb
  obtain ⟨c0, c1⟩ := bounds_u8 hc
  exact chain_main x ky ⟨x % 8, 1 + ky % 2, sy, qy, zy⟩ a b c e w rfl rfl ⟨by simp only; omega, by simp only; omega, s0, s1, q0, by simp only; omega, z0, by simp only; omega⟩ ((mayB_iff _ _).2 ⟨by simp only; omega, by simp only; omega, by simp only; omega⟩) x0 x1 k0 k1 a0 a1 b0 b1 c0 c1
end Go.Proofs.Ytpjcbfapkjipjaa

