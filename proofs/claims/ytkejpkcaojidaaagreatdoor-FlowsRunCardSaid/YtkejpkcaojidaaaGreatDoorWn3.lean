/-
  The contracts of package windows' guardOf and Guards. Conditions: the net's reading; both tables are as the program's text lays them; a direction that is.
-/
import Derived.Test.YtkejpkcaojidaaaGreatDoorWnL
import Derived.Test.YtkejpkcaojidaaaGreatDoorNet3
import Derived.Lib.MinMax
import Derived.Laws.StructEq
import Derived.Test.YtkejpkcaojidaaaGreatDoorRg3
namespace Go.Proofs.YtkejpkcaojidaaaGreatDoor
set_option linter.unusedVariables false
set_option linter.unusedSimpArgs false
open Go.RowKit Rg
set_option linter.unusedVariables false

/-- The pointer v is a net of so many nodes and of these pairs, or none: no nodes, no pairs. -/
def NetP (w : World) (v : Value) (N : Int) (P : List Int) : Prop := ∃ c : Cf, NetIs w v c ∧ c.N = N ∧ c.P = P ∧ (N = 0 ∨ 4 ≤ N ∧ N ≤ 16)
theorem NetP.on {w w' : World} {v : Value} {N : Int} {P : List Int} (h : NetP w v N P) (hb : Below w.heap.size w w') : NetP w' v N P := by
  obtain ⟨c, h1, h2⟩ := h
  exact ⟨c, h1.on hb, h2⟩
theorem NetP.al {w : World} {v : Value} {N : Int} {P : List Int} (h : NetP w v N P) (o : Obj) : NetP (w.alloc o) v N P := h.on ((Below.refl _ _).alloc (Nat.le_refl _) o)
theorem NetP.bd {w : World} {v : Value} {N : Int} {P : List Int} (h : NetP w v N P) : N = 0 ∨ 4 ≤ N ∧ N ≤ 16 := by
  obtain ⟨c, _, _, _, h⟩ := h
  exact h
set_option maxRecDepth 100000 in
theorem field_nodes (c : Cf) (w : World) : (Instr.field 25 (.agg #[.int .i64 c.N, .slice c.pA c.pn c.pc, .slice c.sA c.sn c.sc, .int .i64 c.L, .slice c.bA c.bn c.bc, .slice c.tA c.tn c.tc, .int .i64 c.M, .int .i64 c.G, .int .i64 c.F]) 0).run Tryz.prog w = .ok (.int .i64 c.N) w := rfl

theorem size_is (v : Value) (N : Int) (P : List Int) (w : World) (hn : NetP w v N P) :
    Calls Tryz.prog 51 #[v] w fun e w' => e = .returned (.int .i64 N) ∧ Below w.heap.size w w' := by
  obtain ⟨c, h1, rfl, rfl, h4⟩ := hn
  have hfd := fun (A1 A2 A3 A4 : Option Addr) => field_nodes (c.to A1 A2 A3 A4)
  clear h4
  go_enter Tryz.func51, Tryz.ntmps51
  go_wp2_with (go_at_call 92; (with_reducible refine (net_given v c w h1).mono ?_); rintro e w1 ⟨A1, A2, A3, A4, rfl, o1, b1⟩; have hf := fun W => hfd A1 A2 A3 A4 W)
  go_ret
  exact ⟨rfl, b1⟩

theorem role_at {w : World} (hw : Roles w) (k : Int) (h0 : 0 ≤ k) : ∃ q : Nat, min k 3 = (q : Int) ∧ q < 4 ∧ w.cell? ⟨1, q, none⟩ = some (.int .u8 (roleM k)) := by
  obtain ⟨g0, g1, g2, g3, g4⟩ := hw
  by_cases h3 : 3 ≤ k
  · exact ⟨3, by omega, by omega, by rw [g4, roleM, if_neg (by omega), if_neg (by omega)]⟩
  · have h : k = 0 ∨ k = 1 ∨ k = 2 := by omega
    rcases h with rfl | rfl | rfl
    · exact ⟨0, by omega, by omega, g1⟩
    · exact ⟨1, by omega, by omega, g2⟩
    · exact ⟨2, by omega, by omega, g3⟩
theorem placed_any (k : Int) (w : World) (hw : Roles w) (h0 : 0 ≤ k) (h1 : k ≤ 15) :
    Calls Tryz.prog 53 #[.int .i64 k] w fun e w' => e = .returned (.agg #[.int .u8 (wnM k).r, .int .i64 (wnM k).p, .int .i64 (wnM k).b, .int .i64 (wnM k).e]) ∧ Below w.heap.size w w' := by
  obtain ⟨q, hq, hq4, hc⟩ := role_at (hw.on (below_al (Below.refl w.heap.size w) (.cells #[.int .u8 0, .int .i64 0, .int .i64 0, .int .i64 0] 73))) k h0
  have hg : 1 < w.heap.size := hw.1
  have hb := fun v => below_al (Below.refl w.heap.size w) (.cells v 73)
  have hw1 : IntKind.i64.wrap (1 + k) = 1 + k := IntWalk.i64_in _ (by omega)
  have hw2 : IntKind.i64.wrap (1 + k + 114) = 1 + k + 114 := IntWalk.i64_in _ (by omega)
  obtain ⟨r, hr⟩ : ∃ r, r = roleM k := ⟨_, rfl⟩
  rw [← hr] at hc
  have HR := Lib.hid hr
  clear hr hw
  go_enter Tryz.func53, Tryz.ntmps53
  go_wp2_with fail
  refine bodyPost_ret (v := .agg #[.int .u8 r, .int .i64 k, .int .i64 (1 + k), .int .i64 (1 + k + 114)]) (by simp [results, Tryz.results53, go_sem]) rfl ⟨?_, ?_⟩
  · rw [HR.out]; rfl
  · exact hb _
end Go.Proofs.YtkejpkcaojidaaaGreatDoor

namespace Go.Proofs.YtkejpkcaojidaaaGreatDoor
open Go.RowKit Rg
set_option linter.unusedVariables false

theorem netFirst_is (v : Value) (N : Int) (P : List Int) (x p : Int) (hp : atM P x = p) (w : World) (hn : NetP w v N P) :
    Calls Tryz.prog 43 #[v, .int .i64 x] w fun e w' => e = .returned (.int .i64 p) ∧ Below w.heap.size w w' := by
  obtain ⟨c, h1, rfl, rfl, h4⟩ := hn
  exact first_is v c x p hp w h1
theorem wnPlace_is (n d f x p : Int) (hp : placeM n d f x = p) (w : World) (hw : Ways w) (hd : 0 ≤ d) (hd' : d ≤ 255) :
    Calls Tryz.prog 52 #[.int .i64 n, .int .u8 d, .int .i64 f, .int .i64 x] w fun e w' => e = .returned (.int .i64 p) ∧ Below w.heap.size w w' := by
  subst hp; exact place_any n d f x w hw hd hd'

section
variable {u w : World} {g : Nat} {t : TypeId} {a b c d a' b' c' d' : Value}
/-- A block of four cells, written one by one. -/
def put4 (w : World) (g : Nat) (a b c d : Value) : World := (((w.setCell ⟨g, 0, none⟩ a).setCell ⟨g, 1, none⟩ b).setCell ⟨g, 2, none⟩ c).setCell ⟨g, 3, none⟩ d
theorem Blk.put4 (h : Blk u g t #[a, b, c, d]) (a' b' c' d' : Value) : Blk (put4 u g a' b' c' d') g t #[a', b', c', d'] := by
  have := (((h.set_ 0 a').set_ 1 b').set_ 2 c').set_ 3 d'
  exact this
theorem blk_four (h : Blk u g t #[a, b, c, d]) (a' b' c' d' : Value) : ((((u.setCell ⟨g, 0, none⟩ a').setCell ⟨g, 1, none⟩ b').setCell ⟨g, 2, none⟩ c').setCell ⟨g, 3, none⟩ d').cell? ⟨g, 0, none⟩ = some a' ∧ ((((u.setCell ⟨g, 0, none⟩ a').setCell ⟨g, 1, none⟩ b').setCell ⟨g, 2, none⟩ c').setCell ⟨g, 3, none⟩ d').cell? ⟨g, 1, none⟩ = some b' ∧ ((((u.setCell ⟨g, 0, none⟩ a').setCell ⟨g, 1, none⟩ b').setCell ⟨g, 2, none⟩ c').setCell ⟨g, 3, none⟩ d').cell? ⟨g, 2, none⟩ = some c' ∧ ((((u.setCell ⟨g, 0, none⟩ a').setCell ⟨g, 1, none⟩ b').setCell ⟨g, 2, none⟩ c').setCell ⟨g, 3, none⟩ d').cell? ⟨g, 3, none⟩ = some d' := by
  have k := h.put4 a' b' c' d'
  exact ⟨(k.cell 0).trans rfl, (k.cell 1).trans rfl, (k.cell 2).trans rfl, (k.cell 3).trans rfl⟩
theorem below_four {B : Nat} (h : Below B w u) (hg : B ≤ g) (a b c d : Value) : Below B w ((((u.setCell ⟨g, 0, none⟩ a).setCell ⟨g, 1, none⟩ b).setCell ⟨g, 2, none⟩ c).setCell ⟨g, 3, none⟩ d) :=
  (((h.setCell (p := ⟨g, 0, none⟩) hg a).setCell (p := ⟨g, 1, none⟩) hg b).setCell (p := ⟨g, 2, none⟩) hg c).setCell (p := ⟨g, 3, none⟩) hg d
end

theorem winOf_any (v : Value) (N : Int) (P : List Int) (d o x : Int) (w : World) (hn : NetP w v N P) (hw : Laid2 w) (hd : 0 ≤ d) (hd' : d ≤ 255) :
    Calls Tryz.prog 24 #[v, .int .u8 d, .int .i64 o, .int .i64 x] w fun e w' => e = .returned (.tuple #[.agg #[.int .u8 (ofW N P d o x).r, .int .i64 (ofW N P d o x).p, .int .i64 (ofW N P d o x).b, .int .i64 (ofW N P d o x).e], .int .i64 (ofWE N P d o x)]) ∧ Below w.heap.size w w' := by
  have hb0 := below_al (Below.refl w.heap.size w) (.cells #[.int .u8 0, .int .i64 0, .int .i64 0, .int .i64 0] 73)
  have HN := Lib.hid (hn.on hb0)
  have HW := Lib.hid (hw.on hb0)
  have hZ0 := Blk.new w 73 #[.int .u8 0, .int .i64 0, .int .i64 0, .int .i64 0]
  have HB := hn.bd
  by_cases h0 : N = 0
  · subst h0
    have HX := Lib.hid (of_nil P d o x)
    clear HB hn hw
    go_enter Tryz.func24, Tryz.ntmps24
    go_wp2_with (go_at_call 51; (with_reducible refine (size_is v 0 P _ HN.out).mono ?_); rintro e w1 ⟨rfl, b1⟩; have hZ1 := hZ0.on b1; have z0 := hZ1.cell 0; have z1 := hZ1.cell 1; have z2 := hZ1.cell 2; have z3 := hZ1.cell 3; have zl := hZ1.lt; have hfz := hZ1.frozen; simp only [List.getElem?_toArray, List.getElem?_cons_zero, List.getElem?_cons_succ] at z0 z1 z2 z3)
    obtain ⟨x0, x1, x2, x3⟩ := blk_four hZ1 (.int .u8 0) (.int .i64 0) (.int .i64 0) (.int .i64 0)
    rw [HX.out.1, HX.out.2]
    exact bodyPost_ret (v := .tuple #[.agg #[.int .u8 0, .int .i64 0, .int .i64 0, .int .i64 0], .int .i64 2]) (by simp [results, Tryz.results24, go_sem, x0, x1, x2, x3]) rfl ⟨rfl, below_four (below_then hb0 b1) (Nat.le_refl _) _ _ _ _⟩
  · have hN : 4 ≤ N ∧ N ≤ 16 := by omega
    have hz : (N == 0) = false := by simpa using h0
    obtain ⟨f, hf⟩ : ∃ f, atM P o = f := ⟨_, rfl⟩
    obtain ⟨k, hk⟩ : ∃ k, placeM N d f x = k := ⟨_, rfl⟩
    have hpl : plM N P d o x = k := by rw [plM, hf, hk]
    have hbd := pl_bd N P d o x
    rw [hpl] at hbd
    have HF := Lib.hid hf
    have HK := Lib.hid hk
    have HPL := Lib.hid hpl
    have H0 := Lib.hid h0
    clear hf hk hpl h0 HB hn hw
    by_cases h1 : k = -1
    · subst h1
      have HX := Lib.hid (of_no H0.out HPL.out)
      clear hbd
      go_enter Tryz.func24, Tryz.ntmps24
      go_wp2_with (first
        | (go_at_call 51; (with_reducible refine (size_is v N P _ HN.out).mono ?_); rintro e w1 ⟨rfl, b1⟩)
        | (go_at_call 43; (with_reducible refine (netFirst_is v N P o f HF.out _ (HN.out.on b1)).mono ?_); rintro e w2 ⟨rfl, b2⟩)
        | (go_at_call 52; (with_reducible refine (wnPlace_is N d f x (-1) HK.out _ ((HW.out.on b1).on b2).ways hd hd').mono ?_); rintro e w3 ⟨rfl, b3⟩; have hZ1 := ((hZ0.on b1).on b2).on b3; have z0 := hZ1.cell 0; have z1 := hZ1.cell 1; have z2 := hZ1.cell 2; have z3 := hZ1.cell 3; have zl := hZ1.lt; have hfz := hZ1.frozen; simp only [List.getElem?_toArray, List.getElem?_cons_zero, List.getElem?_cons_succ] at z0 z1 z2 z3))
      obtain ⟨x0, x1, x2, x3⟩ := blk_four hZ1 (.int .u8 0) (.int .i64 0) (.int .i64 0) (.int .i64 0)
      rw [HX.out.1, HX.out.2]
      exact bodyPost_ret (v := .tuple #[.agg #[.int .u8 0, .int .i64 0, .int .i64 0, .int .i64 0], .int .i64 1]) (by simp [results, Tryz.results24, go_sem, x0, x1, x2, x3]) rfl ⟨rfl, below_four (below_then (below_then (below_then hb0 b1) b2) b3) (Nat.le_refl _) _ _ _ _⟩
    · have hz1 : (k == -1) = false := by simpa using h1
      have HX := Lib.hid (of_yes H0.out HPL.out h1)
      have h0k : 0 ≤ k := by omega
      have hk15 : k ≤ 15 := hbd.2
      clear hbd
      go_enter Tryz.func24, Tryz.ntmps24
      go_wp2_with (first
        | (go_at_call 51; (with_reducible refine (size_is v N P _ HN.out).mono ?_); rintro e w1 ⟨rfl, b1⟩)
        | (go_at_call 43; (with_reducible refine (netFirst_is v N P o f HF.out _ (HN.out.on b1)).mono ?_); rintro e w2 ⟨rfl, b2⟩)
        | (go_at_call 52; (with_reducible refine (wnPlace_is N d f x k HK.out _ ((HW.out.on b1).on b2).ways hd hd').mono ?_); rintro e w3 ⟨rfl, b3⟩)
        | (go_at_call 53; (with_reducible refine (placed_any k _ (((HW.out.on b1).on b2).on b3).roles h0k hk15).mono ?_); rintro e w4 ⟨rfl, b4⟩; have hZ1 := (((hZ0.on b1).on b2).on b3).on b4; have z0 := hZ1.cell 0; have z1 := hZ1.cell 1; have z2 := hZ1.cell 2; have z3 := hZ1.cell 3; have zl := hZ1.lt; have hfz := hZ1.frozen; simp only [List.getElem?_toArray, List.getElem?_cons_zero, List.getElem?_cons_succ] at z0 z1 z2 z3))
      obtain ⟨x0, x1, x2, x3⟩ := blk_four hZ1 (.int .u8 (wnM k).r) (.int .i64 (wnM k).p) (.int .i64 (wnM k).b) (.int .i64 (wnM k).e)
      rw [HX.out.1, HX.out.2]
      exact bodyPost_ret (v := .tuple #[.agg #[.int .u8 (wnM k).r, .int .i64 (wnM k).p, .int .i64 (wnM k).b, .int .i64 (wnM k).e], .int .i64 0]) (by simp [results, Tryz.results24, go_sem, x0, x1, x2, x3]) rfl ⟨rfl, below_four (below_then (below_then (below_then (below_then hb0 b1) b2) b3) b4) (Nat.le_refl _) _ _ _ _⟩

theorem winOf_is (v : Value) (N : Int) (P : List Int) (d o x : Int) (X : Wn) (hX : ofW N P d o x = X) (E : Int) (hE : ofWE N P d o x = E) (w : World) (hn : NetP w v N P) (hw : Laid2 w) (hd : 0 ≤ d) (hd' : d ≤ 255) :
    Calls Tryz.prog 24 #[v, .int .u8 d, .int .i64 o, .int .i64 x] w fun e w' => e = .returned (.tuple #[.agg #[.int .u8 X.r, .int .i64 X.p, .int .i64 X.b, .int .i64 X.e], .int .i64 E]) ∧ Below w.heap.size w w' := by
  subst hX hE; exact winOf_any v N P d o x w hn hw hd hd'

/-- A window such as calls answer. -/
def WnFit (X : Wn) : Prop := 0 ≤ X.b ∧ X.b ≤ 1000 ∧ X.b ≤ X.e ∧ X.e ≤ 1000
theorem fit_of (N : Int) (P : List Int) (d o x : Int) : WnFit (ofW N P d o x) := by
  have := pl_bd N P d o x
  unfold ofW
  split
  · exact ⟨by decide, by decide, by decide, by decide⟩
  · refine ⟨?_, ?_, ?_, ?_⟩ <;> simp only [wnM] <;> omega
theorem winAt_is (X : Wn) (q : Int) (i : Int) (hi : opI X q = i) (b : Bool) (hb : opB X q = b) (w : World) (hX : WnFit X) :
    Calls Tryz.prog 132 #[.agg #[.int .u8 X.r, .int .i64 X.p, .int .i64 X.b, .int .i64 X.e], .int .i64 q] w fun e w' => e = .returned (.tuple #[.int .i64 i, .bool b]) ∧ Below w.heap.size w w' := by
  obtain ⟨f1, f2, f3, f4⟩ := hX
  have hb0 := below_al (Below.refl w.heap.size w) (.cells #[.int .u8 X.r, .int .i64 X.p, .int .i64 X.b, .int .i64 X.e] 73)
  obtain ⟨xr, xp, xb, xe⟩ := X
  simp only at f1 f2 f3 f4
  by_cases h1 : q < xb
  · have HB := Lib.hid (show b = false by rw [← hb]; simp [opB]; omega)
    have HI := Lib.hid (show i = 0 by rw [← hi, opI, hb, HB.out]; rfl)
    clear hi hb
    go_enter Tryz.func132, Tryz.ntmps132
    go_wp2_with fail
    rw [HI.out, HB.out]
    exact bodyPost_ret (v := .tuple #[.int .i64 0, .bool false]) (by simp [results, Tryz.results132, go_sem]) rfl ⟨rfl, hb0⟩
  · by_cases h2 : xe ≤ q
    · have HB := Lib.hid (show b = false by rw [← hb]; simp [opB]; omega)
      have HI := Lib.hid (show i = 0 by rw [← hi, opI, hb, HB.out]; rfl)
      have d1 : decide (q < xb) = false := by simpa using h1
      clear hi hb
      go_enter Tryz.func132, Tryz.ntmps132
      go_wp2_with fail
      rw [HI.out, HB.out]
      exact bodyPost_ret (v := .tuple #[.int .i64 0, .bool false]) (by simp [results, Tryz.results132, go_sem]) rfl ⟨rfl, hb0⟩
    · have HB := Lib.hid (show b = true by rw [← hb]; simp [opB]; omega)
      have HI := Lib.hid (show i = q - xb by rw [← hi, opI, hb, HB.out]; rfl)
      have d1 : decide (q < xb) = false := by simpa using h1
      have d2 : decide (xe ≤ q) = false := by simpa using h2
      have hwr : IntKind.i64.wrap (q - xb) = q - xb := IntWalk.i64_in _ (by omega)
      clear hi hb
      go_enter Tryz.func132, Tryz.ntmps132
      go_wp2_with fail
      rw [HI.out, HB.out]
      exact bodyPost_ret (v := .tuple #[.int .i64 (q - xb), .bool true]) (by simp [results, Tryz.results132, go_sem]) rfl ⟨rfl, hb0⟩
end Go.Proofs.YtkejpkcaojidaaaGreatDoor

namespace Go.Proofs.YtkejpkcaojidaaaGreatDoor
open Go.RowKit Rg
set_option linter.unusedVariables false

end Go.Proofs.YtkejpkcaojidaaaGreatDoor

