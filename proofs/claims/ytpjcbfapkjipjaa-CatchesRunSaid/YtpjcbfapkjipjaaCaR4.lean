/-
  The contract of the reference's Step: one more pair is had, and what is given of it. Conditions: the catch's reading; fewer than 114 pairs, or just so many.
-/
import Derived.Test.YtpjcbfapkjipjaaCaR3
import Derived.Deep.RegionLaw
import Derived.Deep.Cut
import Derived.Deep.CutRange
namespace Go.Proofs.Ytpjcbfapkjipjaa
open Go.RowKit Crc
set_option linter.unusedVariables false

/-- append of one symbol onto a row of the call's own, as one step of a region that draws its order. -/
theorem step_append_row {ops : Array Oper} {o : Oper} {a : Act} {w : World} {K : Act → World → Prop} {Q : Exit → Act → World → Prop} {E : Prop} (hgd : o.guard = none) (s x : Operand)
    (ho : o.op = .call { callee := .builtin .append, args := #[s, x], argTypes := #[22, 22] })
    (base : Nat) (A : Option Addr) (n c : Nat) (xs : List Int) (hs : a.eval s = .slice A n c) (hown : w.ownsRow base 31 1 (.slice A n c) n (xs.map (Value.int .u8)))
    (b : Nat) (z : Int) (hx : a.eval x = .slice (some ⟨b, 0, none⟩) 1 1) (hB : Blk w b 31 #[.int .u8 z]) (hn : n ≤ 65536) (hbase : base ≤ w.heap.size)
    (h : ∀ A' c' w', w'.ownsRow base 31 1 (.slice A' (n + 1) c') (n + 1) ((xs ++ [z]).map (Value.int .u8)) → w.grownBy w' (Value.slice A n c).ownBlock → ((Value.slice A' (n + 1) c').ownBlock = (Value.slice A n c).ownBlock ∨ (Value.slice A' (n + 1) c').ownBlock = some w.heap.size) → K (a.put o.dst (.slice A' (n + 1) c')) w') :
    if Region.wanted o (yielded ops a.tmps) = true then Oper.wp Try.prog o a w K Q else E := by
  have hw : Region.wanted o (yielded ops a.tmps) = true := by simp [Region.wanted, hgd]
  rw [if_pos hw]
  obtain ⟨i0, hi0, hz0, hz1, hz2⟩ := info_parts infoSyms
  have hr : Lies .u8 w w.heap.size (some ⟨b, 0, none⟩) 1 [z] := Blk.lies (k := .u8) (xs := [z]) hB rfl
  obtain ⟨A', c', w', hrun, h2, h3, h4⟩ := run_append_lies (P := Try.prog) w base 22 o.type 31 i0 _ 1 Try.underlying22 hi0 hz0 hz1 hz2 rfl .u8 (.slice A n c) n xs hown (some ⟨b, 0, none⟩) 1 1 [z] hr (by unfold maxLen; omega) (by omega) hbase
  unfold Oper.wp
  simp only [execOp, ho, resolve, invoke, builtin, Sem.run_bind, Sem.run_pure, Result.andThen_ok, List.map_toArray, List.map_cons, List.map_nil, hs, hx, hrun]
  exact h A' c' w' h2 h3 h4
section
variable {w w' u : World} {g base n m c d : Nat} {o : Int} {x y : Nat → Int} {A B : Option Addr}
theorem owns_block {base n q : Nat} {e : TypeId} {v : Value} {xs : List Value} (h : w.ownsRow base e 1 v n xs) (hq : v.ownBlock = some q) : base ≤ q ∧ q < w.heap.size := h.lt q hq
theorem owns_grown {base n : Nat} {e : TypeId} {v : Value} {xs : List Value} {row : Option Nat} (h : w.ownsRow base e 1 v n xs) (hg : w.grownBy w' row) (hne : ∀ q, v.ownBlock = some q → row ≠ some q) : w'.ownsRow base e 1 v n xs := by
  refine ⟨h.1, ?_⟩
  rcases h.2 with q | ⟨g', cap, cur, hv, hb, hh, r⟩
  · exact .inl q
  · have hlt : g' < w.heap.size := Blk.lt (t := e) (cs := cur) hh
    exact .inr ⟨g', cap, cur, hv, hb, (hg.block g' hlt (fun q => hne g' (by rw [hv]; rfl) q.symm)).trans hh, r⟩
theorem rc_base (h : RC w g base o x y n m A c B d) : base ≤ w.heap.size := Nat.le_trans h.lo (Nat.le_of_lt h.blk.lt)
/-- One more is had near. -/
theorem rc_pushA (h : RC w g base o x y n m A c B d) (hu : Below w.heap.size w u) {A' : Option Addr} {c' : Nat} (hr : w'.ownsRow base 31 1 (.slice A' (n + 1) c') (n + 1) ((fnL x n ++ [x n]).map (Value.int .u8))) (hg : u.grownBy w' (Value.slice A n c).ownBlock)
    (ho : (Value.slice A' (n + 1) c').ownBlock = (Value.slice A n c).ownBlock ∨ (Value.slice A' (n + 1) c').ownBlock = some u.heap.size) :
    RC (w'.setCell ⟨g, 1, none⟩ (.slice A' (n + 1) c')) g base o x y (n + 1) m A' c' B d ∧ Below base w (w'.setCell ⟨g, 1, none⟩ (.slice A' (n + 1) c')) ∧ KeptBut w (w'.setCell ⟨g, 1, none⟩ (.slice A' (n + 1) c')) [36, 31] ∧ Blk w' g 36 #[.int .i64 o, .slice A n c, .slice B m d] := by
  have hU := h.on hu
  have hk := KeptBut.grown hU.ra hg
  have hB := hk _ _ _ (by decide) hU.blk
  have hS := KeptBut.setCell (i := 1) hB (.slice A' (n + 1) c')
  have hbu := hu.mono (rc_base h)
  refine ⟨⟨h.lo, ?_, ?_, ?_, ?_⟩, (hbu.grown hg (rc_base hU) fun q hq => (owns_block hU.ra hq).1).setCell (p := ⟨g, 1, none⟩) h.lo _, ((KeptBut.below hu _).trans (hk.mono (by decide))).trans (hS.mono (by decide)), hB⟩
  · have := hB.set_ 1 (.slice A' (n + 1) c')
    simpa using this
  · rw [fnL_succ]
    exact owns_kept hr hS (by decide)
  · exact owns_kept (owns_grown hU.rb hg fun q hq e => h.ne q e hq) hS (by decide)
  · intro q hq
    rcases ho with e | e
    · rw [e] at hq; exact h.ne q hq
    · intro hb
      rw [e] at hq
      injection hq with hq
      have := (owns_block hU.rb hb).2
      omega
/-- One more is had far. -/
theorem rc_pushB (h : RC w g base o x y n m A c B d) (hu : Below w.heap.size w u) {B' : Option Addr} {d' : Nat} (hr : w'.ownsRow base 31 1 (.slice B' (m + 1) d') (m + 1) ((fnL y m ++ [y m]).map (Value.int .u8))) (hg : u.grownBy w' (Value.slice B m d).ownBlock)
    (ho : (Value.slice B' (m + 1) d').ownBlock = (Value.slice B m d).ownBlock ∨ (Value.slice B' (m + 1) d').ownBlock = some u.heap.size) :
    RC (w'.setCell ⟨g, 2, none⟩ (.slice B' (m + 1) d')) g base o x y n (m + 1) A c B' d' ∧ Below base w (w'.setCell ⟨g, 2, none⟩ (.slice B' (m + 1) d')) ∧ KeptBut w (w'.setCell ⟨g, 2, none⟩ (.slice B' (m + 1) d')) [36, 31] ∧ Blk w' g 36 #[.int .i64 o, .slice A n c, .slice B m d] := by
  have hU := h.on hu
  have hk := KeptBut.grown hU.rb hg
  have hB := hk _ _ _ (by decide) hU.blk
  have hS := KeptBut.setCell (i := 2) hB (.slice B' (m + 1) d')
  have hbu := hu.mono (rc_base h)
  refine ⟨⟨h.lo, ?_, ?_, ?_, ?_⟩, (hbu.grown hg (rc_base hU) fun q hq => (owns_block hU.rb hq).1).setCell (p := ⟨g, 2, none⟩) h.lo _, ((KeptBut.below hu _).trans (hk.mono (by decide))).trans (hS.mono (by decide)), hB⟩
  · have := hB.set_ 2 (.slice B' (m + 1) d')
    simpa using this
  · exact owns_kept (owns_grown hU.ra hg fun q hq e => h.ne q hq e) hS (by decide)
  · rw [fnL_succ]
    exact owns_kept hr hS (by decide)
  · intro q hq hb
    rcases ho with e | e
    · rw [e] at hb; exact h.ne q hq hb
    · rw [e] at hb
      injection hb with hb
      have := (owns_block hU.ra hq).2
      omega
theorem rStep_done (a b : Int) (h : RC w g base o x y 114 m A c B d) : Calls Try.prog 13 #[.pointer (some ⟨g, 0, none⟩), .int .u8 a, .int .u8 b] w fun e w' => e = .returned (.int .u8 0) ∧ w = w' := by
  obtain ⟨c0, c1, c2, cl⟩ := h.cs
  clear h
  go_enter Try.func13, Try.ntmps13
  go_wp2_with fail
  go_ret
  exact ⟨rfl, rfl⟩
def RPost (w w' : World) (g base : Nat) (o : Int) (x y : Nat → Int) (n m : Nat) : Prop := (∃ A' c' B' d', RC w' g base o x y n m A' c' B' d') ∧ Below base w w' ∧ KeptBut w w' [36, 31]
theorem RPost.on (h : RPost w u g base o x y n m) (hb : Below u.heap.size u w') : RPost w w' g base o x y n m := by
  obtain ⟨⟨A', c', B', d', h1⟩, h2, h3⟩ := h
  exact ⟨⟨A', c', B', d', h1.on hb⟩, h2.trans (hb.mono (Nat.le_trans (rc_base h1) (Nat.le_refl _))), h3.trans (KeptBut.below hb _)⟩
theorem RPost.then {k l : Nat} (h : RPost w u g base o x y n m) (h' : RPost u w' g base o x y k l) : RPost w w' g base o x y k l := ⟨h'.1, h.2.1.trans h'.2.1, h.2.2.trans h'.2.2⟩
set_option maxRecDepth 100000 in
set_option maxHeartbeats 1600000 in
theorem rStep_is (a b : Int) (h : RC w g base o x y n n A c B d) (hn : n < 114) (hx : kn a = x n) (hy : kn b = y n) (r : Int) (hr : outC x y o n = r) :
    Calls Try.prog 13 #[.pointer (some ⟨g, 0, none⟩), .int .u8 a, .int .u8 b] w fun e w' => e = .returned (.int .u8 r) ∧ RPost w w' g base o x y (n + 1) (n + 1) := by
  obtain ⟨c0, c1, c2, cl⟩ := h.cs
  have HX := Lib.hid h
  have hne : ((n : Int) == 114) = false := beq_eq_false_iff_ne.2 (by omega)
  have HKA := Lib.hid (fun u => rknown_is a u _ hx)
  have HKB := Lib.hid (fun u => rknown_is b u _ hy)
  obtain ⟨xa, hxa⟩ : ∃ xa, xa = x n := ⟨_, rfl⟩
  obtain ⟨yb, hyb⟩ : ∃ yb, yb = y n := ⟨_, rfl⟩
  rw [← hxa] at HKA
  rw [← hyb] at HKB
  have HU := Lib.hid (And.intro hxa hyb)
  have HN := Lib.hid hn
  have HR := Lib.hid hr
  have HBS := Lib.hid (rc_base h)
  have HOW := Lib.hid (show ((w.drew).alloc (.cells #[.int .u8 xa] 31)).ownsRow base 31 1 (.slice A n c) n ((fnL x n).map (Value.int .u8)) from owns_on1 h.ra (below_al (Below.refl _ _).drew _))
  have HNB := Lib.hid (show Blk ((w.drew).alloc (.cells #[.int .u8 xa] 31)) w.heap.size 31 #[.int .u8 xa] from Blk.new w.drew 31 #[.int .u8 xa])
  have HD := Lib.hid (show Below w.heap.size w ((w.drew).alloc (.cells #[.int .u8 xa] 31)) from below_al (Below.refl _ _).drew _)
  have HBS1 := Lib.hid (Nat.le_trans HBS.out HD.out.size)
  clear h hx hy hxa hyb hn hr
  go_enter Try.func13, Try.ntmps13
  go_upto_region 4 with fail
  go_cut [17] from 17 to 27 (fun s17 wx => ∃ A' c', RC wx g base o x y (n + 1) n A' c' B d ∧ Below base w wx ∧ KeptBut w wx [36, 31])
  case first =>
    go_region_law (first
      | (go_simp; go_at_call 29; with_reducible refine (HKA.out _).mono ?_; rintro e w2 ⟨rfl, rfl⟩)
      | (refine step_append_row rfl (.tmp 21) (.tmp 24) rfl base A n c (fnL x n) (by simp [Act.eval]) HOW.out w.heap.size xa (by simp [Act.eval]) HNB.out (by have := HN.out; omega) HBS1.out ?_; intro A' c' w' hr hg ho; have hr := hr; rw [HU.out.1] at hr; obtain ⟨q1, q2, q3, q4⟩ := rc_pushA HX.out HD.out hr hg ho; have HQ := Lib.hid (And.intro q1 (And.intro q2 q3)); have f1 := q4.frozen 1; have x1 := (q4.cell 1).trans (show _ = some (Value.slice A n c) from rfl); have xl := q4.lt; clear q1 q2 q3 q4 hr hg ho))
    all_goals (go_wp2_with fail; go_meet; exact ⟨_, _, HQ.out⟩)
  case rest =>
    obtain ⟨A1, e1, hA, hbA, hkA⟩ := hcut
    clear HOW HNB HD HBS1 c0 c1 c2 cl HX
    obtain ⟨c0, c1, c2, cl⟩ := hA.cs
    have HX := Lib.hid hA
    have HBS := Lib.hid (rc_base hA)
    have HOW := Lib.hid (show ((wc.drew).alloc (.cells #[.int .u8 yb] 31)).ownsRow base 31 1 (.slice B n d) n ((fnL y n).map (Value.int .u8)) from owns_on1 hA.rb (below_al (Below.refl _ _).drew _))
    have HNB := Lib.hid (show Blk ((wc.drew).alloc (.cells #[.int .u8 yb] 31)) wc.heap.size 31 #[.int .u8 yb] from Blk.new wc.drew 31 #[.int .u8 yb])
    have HD := Lib.hid (show Below wc.heap.size wc ((wc.drew).alloc (.cells #[.int .u8 yb] 31)) from below_al (Below.refl _ _).drew _)
    have HBS1 := Lib.hid (Nat.le_trans HBS.out HD.out.size)
    have HKP := Lib.hid (And.intro hbA hkA)
    clear hA hbA hkA
    go_upto_region 5 with fail
    go_cut [28] from 28 to 38 (fun s28 wx => RPost w wx g base o x y (n + 1) (n + 1))
    case first =>
      go_region_law (first
        | (go_simp; go_at_call 29; with_reducible refine (HKB.out _).mono ?_; rintro e w2 ⟨rfl, rfl⟩)
        | (refine step_append_row rfl (.tmp 32) (.tmp 35) rfl base B n d (fnL y n) (by simp [Act.eval]) HOW.out wc.heap.size yb (by simp [Act.eval]) HNB.out (by have := HN.out; omega) HBS1.out ?_; intro B' d' w' hr hg ho; have hr := hr; rw [HU.out.2] at hr; obtain ⟨q1, q2, q3, q4⟩ := rc_pushB HX.out HD.out hr hg ho; have HQ := Lib.hid (And.intro q1 (And.intro q2 q3)); have f1 := q4.frozen 2; have x1 := (q4.cell 2).trans (show _ = some (Value.slice B n d) from rfl); have xl := q4.lt; clear q1 q2 q3 q4 hr hg ho))
      all_goals (go_wp2_with fail; go_meet; exact ⟨⟨_, _, _, _, HQ.out.1⟩, HKP.out.1.trans HQ.out.2.1, HKP.out.2.trans HQ.out.2.2⟩)
    case rest =>
      have HP := Lib.hid hcut
      obtain ⟨⟨A2, e2, B2, d2, hR⟩, hbb, hkk⟩ := hcut
      clear HOW HNB HD HBS1 c0 c1 c2 cl HX HKP HBS HKA HKB hbb hkk
      have HR2 := Lib.hid hR
      obtain ⟨c0, c1, c2, cl⟩ := hR.cs
      have hn := HN.out
      have hr := HR.out
      have hw1 : IntKind.i64.wrap ((n : Int) + 1) = (n : Int) + 1 := IntWalk.i64_in _ (by omega)
      have HCT := Lib.hid (fun r hr => show Calls Try.prog 30 #[.pointer (some ⟨g, 0, none⟩), .int .i64 ((n : Int) + 1)] _ fun e w' => e = .returned (.bool r) ∧ _ = w' from rCut_is hR (n + 1) (Nat.le_refl _) (Nat.le_refl _) r hr)
      clear HU HR HN
      cases hct : cutF x y (n + 1) with
      | true =>
        have HC := Lib.hid (HCT.out _ hct)
        have e0 : 0 = r := by rw [← hr]; unfold outC; rw [hct, if_pos rfl]
        subst e0
        clear hr hct hR HCT
        go_wp2_with (go_at_call 30; (with_reducible refine HC.out.mono ?_); rintro e w2 ⟨rfl, rfl⟩)
        go_ret
        exact ⟨rfl, HP.out⟩
      | false =>
        have HC := Lib.hid (HCT.out _ hct)
        clear HCT
        rcases Nat.lt_or_ge n 112 with h1 | h1
        · have hlt : (n : Int) < 112 := by omega
          have e0 : bo x y n = r := by rw [← hr]; unfold outC; rw [hct, if_neg (by decide), if_pos h1]
          have HB := Lib.hid (rBody_is hR n (by omega) (by omega) r e0)
          clear hr hct hR e0
          go_wp2_with (first
            | (go_at_call 30; (with_reducible refine HC.out.mono ?_); rintro e w2 ⟨rfl, rfl⟩)
            | (go_at_call 31; (with_reducible refine HB.out.mono ?_); rintro e w3 ⟨rfl, rfl⟩))
          go_ret
          exact ⟨rfl, HP.out⟩
        · have hlt : (112 : Int) ≤ (n : Int) := by omega
          rcases Nat.lt_or_ge n 113 with h2 | h2
          · obtain rfl : n = 112 := by omega
            rw [outC_112] at hr
            simp only [Nat.reduceAdd, Int.reduceAdd, show ((112 : Nat) : Int) = 112 from rfl] at *
            rw [hct, if_neg (by decide)] at hr
            have HW := Lib.hid (rWhole_is HR2.out (by omega) (by omega) _ rfl)
            cases hwc : wholeC x y o
            all_goals
              rw [hwc] at HW hr
              obtain rfl := hr
              clear hwc hR hct
              go_wp2_with (first
                | (go_at_call 30; (with_reducible refine HC.out.mono ?_); rintro e w2 ⟨rfl, rfl⟩)
                | (go_at_call 32; (with_reducible refine HW.out.mono ?_); rintro e w3 ⟨rfl, b3⟩))
              go_ret
              exact ⟨rfl, HP.out.on b3⟩
          · obtain rfl : n = 113 := by omega
            rw [outC_113] at hr
            simp only [Nat.reduceAdd, Int.reduceAdd, show ((113 : Nat) : Int) = 113 from rfl] at *
            rw [hct, if_neg (by decide)] at hr
            have HH := Lib.hid (rHigh_is HR2.out _ rfl _ rfl)
            have hhi : hiB x y o 114 = highC x y o := by unfold hiB; rw [decide_eq_true (Nat.le_refl 114), Bool.true_and]
            rw [hhi] at HH
            obtain ⟨G, hG⟩ : ∃ G, hiF x y o 114 = G := ⟨_, rfl⟩
            rw [hG] at HH
            cases hwc : highC x y o
            all_goals
              rw [hwc] at HH hr
              obtain rfl := hr
              clear hwc hR hct hhi hG
              go_wp2_with (first
                | (go_at_call 30; (with_reducible refine HC.out.mono ?_); rintro e w2 ⟨rfl, rfl⟩)
                | (go_at_call 16; (with_reducible refine HH.out.mono ?_); rintro e w3 ⟨rfl, b3⟩; have b4 := below_al b3 (.cells #[.int .i64 G.o, .int .u8 G.k, .int .u8 G.s, .int .u32 G.q, .int .u32 G.v] 46)))
              go_ret
              exact ⟨rfl, HP.out.on b4⟩
end
end Go.Proofs.Ytpjcbfapkjipjaa

