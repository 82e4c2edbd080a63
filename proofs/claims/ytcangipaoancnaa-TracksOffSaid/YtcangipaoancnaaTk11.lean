/-
  A lane's Hear: a tick begins; what is held. Conditions: the lane's reading, the words' readings.
-/
import Derived.Test.YtcangipaoancnaaTk10
namespace Go.Proofs.Ytcangipaoancnaa
open Go.RowKit
set_option linter.unusedVariables false
set_option linter.unusedSimpArgs false

/-- What is held of a source. -/
def heldR (N me E : Nat) (T : Nat → Tk) (s : Nat) : Ro := if E < N then roN else (certM (cpsF N me (fun k => T (E - N + k)) s) (cpsN N me (List.range N) s)).ro
theorem held_of {w : World} {own : Nat → Prop} {b N me E : Nat} {T : Nat → Tk} {nw : Option Tk} (h : LaneS w own b N me E T nw) :
    Calls Try.prog 54 #[.pointer (some ⟨b, 0, none⟩)] w fun e w' => ∃ Ls : Nat → List Value, e = .returned (.slice (some ⟨w.heap.size, 0, none⟩) N N) ∧ (∀ i, (Ls i).length = 57) ∧ Blk w' w.heap.size 54 (flL Ls N).toArray ∧ RowsO w' (w.heap.size + 1) N (heldR N me E T) Ls ∧ Below w.heap.size w w' := by
  have hN := h.N4
  by_cases hE : E < N
  · obtain ⟨h1, h2, h3⟩ := h.few hE
    refine (held_no b N (E % N) hN (Nat.mod_lt _ (by omega)) w h1 h2 h3).mono ?_
    rintro e w' ⟨rfl, q1, q2⟩
    refine ⟨_, rfl, fun i => roL_len _ _ _ _ _, q1, fun i hi => ⟨none, 0, ?_, .inl ⟨rfl, ?_, rfl⟩⟩, q2⟩
    · simp [heldR, hE, roN]
    · simp [heldR, hE, roN]
  · obtain ⟨h1, h2, h3⟩ := h.full (by omega)
    refine (held_yes b N me (E % N) _ hN h.meN (Nat.mod_lt _ (by omega)) w h1 h2 h3).mono ?_
    rintro e w' ⟨Ls, rfl, q1, q2, q3, q4⟩
    exact ⟨Ls, rfl, q1, q2, fun i hi => by simpa [heldR, hE] using q3 i hi, q4⟩
/-- A tick of what the words m, R bring. -/
structure TkOf (N : Nat) (m : Nat → Nat) (R : Nat → Nat → Rw) (t : Tk) : Prop where
  o : t.o = rwN
  n : ∀ d s, d < 2 → s < N → (t.nR d s).ro = plR N (fitF (R (2 * d)) (m (2 * d)) rwN s).ro
  f : ∀ d s, d < 2 → s < N → (t.fR d s).ro = plR N (fitF (R (2 * d + 1)) (m (2 * d + 1)) rwN s).ro
def endE (nw : Option Tk) (E : Nat) : Nat := match nw with | none => E | some _ => E + 1
def endT (nw : Option Tk) (E : Nat) (T : Nat → Tk) : Nat → Tk := match nw with | none => T | some t => fun i => if i = E then t else T i
def tk4 (N G F G' F' : Nat) (Q S Q' S' : Nat → Rw) : Tk := ⟨true, fun d => if d = 0 then some ⟨G, 0, none⟩ else some ⟨G', 0, none⟩, fun _ => N, fun d s => if d = 0 then Q s else Q' s, fun d => if d = 0 then some ⟨F, 0, none⟩ else some ⟨F', 0, none⟩, fun _ => N, fun d s => if d = 0 then S s else S' s, rwN⟩
theorem tk4_k {w : World} {own : Nat → Prop} {N G F G' F' : Nat} {Q S Q' S' : Nat → Rw} {P X P' X' : Nat → Ro} (h1 : RowsK w own G N Q P) (h2 : RowsK w own F N S X) (h3 : RowsK w own G' N Q' P') (h4 : RowsK w own F' N S' X') : TkK w own N (tk4 N G F G' F' Q S Q' S') := by
  refine ⟨rfl, .inl ⟨rfl, rfl, rfl⟩, fun d hd => ?_, fun d hd => ?_⟩
  · rcases (show d = 0 ∨ d = 1 by omega) with rfl | rfl
    · exact ⟨G, rfl, h1.g, h1.b, fun s hs => (h1.r s hs).1⟩
    · exact ⟨G', rfl, h3.g, h3.b, fun s hs => (h3.r s hs).1⟩
  · rcases (show d = 0 ∨ d = 1 by omega) with rfl | rfl
    · exact ⟨F, rfl, h2.g, h2.b, fun s hs => (h2.r s hs).1⟩
    · exact ⟨F', rfl, h4.g, h4.b, fun s hs => (h4.r s hs).1⟩
theorem tk4_of {w : World} {own : Nat → Prop} {N G F G' F' : Nat} {Q S Q' S' : Nat → Rw} {m : Nat → Nat} {R : Nat → Nat → Rw} (h1 : RowsK w own G N Q (fun i => plR N (fitF (R 0) (m 0) rwN i).ro)) (h2 : RowsK w own F N S (fun i => plR N (fitF (R 1) (m 1) rwN i).ro)) (h3 : RowsK w own G' N Q' (fun i => plR N (fitF (R 2) (m 2) rwN i).ro)) (h4 : RowsK w own F' N S' (fun i => plR N (fitF (R 3) (m 3) rwN i).ro)) : TkOf N m R (tk4 N G F G' F' Q S Q' S') := by
  refine ⟨rfl, fun d s hd hs => ?_, fun d s hd hs => ?_⟩
  · rcases (show d = 0 ∨ d = 1 by omega) with rfl | rfl
    · exact (h1.r s hs).2
    · exact (h3.r s hs).2
  · rcases (show d = 0 ∨ d = 1 by omega) with rfl | rfl
    · exact (h2.r s hs).2
    · exact (h4.r s hs).2
set_option maxRecDepth 100000 in
theorem built_ways (a b c d : Value) : (Try.prog).built 133 [(0, .agg #[a, b]), (1, .agg #[c, d])] = some #[a, b, c, d] := by kernel_rfl
set_option maxRecDepth 100000 in
theorem built_tick4 (N G F G' F' : Nat) (Q S Q' S' : Nat → Rw) : (Try.prog).built 135 [(0, .bool true), (1, .agg #[.slice (some ⟨G, 0, none⟩) N N, .slice (some ⟨F, 0, none⟩) N N, .slice (some ⟨G', 0, none⟩) N N, .slice (some ⟨F', 0, none⟩) N N])] = some (tkL N (tk4 N G F G' F' Q S Q' S')).toArray := by kernel_rfl
def Reg.FactK.w4 {B : Nat} (lo N : Nat) (P Q P' Q' : Nat → Ro) : Reg.FactK (Reg.KJ B [] []) := ⟨fun v w => ∃ G R F S G' R' F' S', v = .agg #[.slice (some ⟨G, 0, none⟩) N N, .slice (some ⟨F, 0, none⟩) N N, .slice (some ⟨G', 0, none⟩) N N, .slice (some ⟨F', 0, none⟩) N N] ∧ RowsK w (From lo w) G N R P ∧ RowsK w (From lo w) F N S Q ∧ RowsK w (From lo w) G' N R' P' ∧ RowsK w (From lo w) F' N S' Q', fun _ _ w' hb h => by
  obtain ⟨G, R, F, S, G', R', F', S', e, h, k, l, m⟩ := h
  have q1 : ∀ w w', Reg.KJ B [] [] w w' → ∀ g, From lo w g → From lo w' g := fun w w' hb g hg => ⟨hg.1, Nat.lt_of_lt_of_le hg.2 hb.size⟩
  have q2 : ∀ w w', Reg.KJ B [] [] w w' → ∀ g, From lo w g → w'.heap[g]? = w.heap[g]? := fun w w' hb g hg => hb.2.1 g hg.2 (by simp)
  exact ⟨G, R, F, S, G', R', F', S', e, h.keep (q1 _ _ hb) (q2 _ _ hb), k.keep (q1 _ _ hb) (q2 _ _ hb), l.keep (q1 _ _ hb) (q2 _ _ hb), m.keep (q1 _ _ hb) (q2 _ _ hb)⟩⟩
def Reg.FactK.tkf {B : Nat} (lo N : Nat) (m : Nat → Nat) (R : Nat → Nat → Rw) : Reg.FactK (Reg.KJ B [] []) := ⟨fun v w => ∃ t, v = .agg (tkL N t).toArray ∧ TkK w (From lo w) N t ∧ TkOf N m R t, fun _ _ w' hb h => by
  obtain ⟨t, e, h, k⟩ := h
  exact ⟨t, e, h.keep (fun g hg => ⟨hg.1, Nat.lt_of_lt_of_le hg.2 hb.size⟩) fun g hg => hb.2.1 g hg.2 (by simp), k⟩⟩
set_option maxRecDepth 100000 in
theorem hear_nil (a b c d : Value) (w : World) : Calls Try.prog 19 #[.pointer none, .agg #[a, b, c, d]] w fun e w' => e = .returned (.slice none 0 0) ∧ Below w.heap.size w w' := by
  go_enter Try.func19, Try.ntmps19
  go_wp2_with (go_at_call 51; (with_reducible refine (made_nil _).mono ?_); rintro e w1 ⟨rfl, rfl⟩)
  go_ret
  exact ⟨rfl, below_al (Below.refl _ w) _⟩
theorem made_zero (l : Nat) (w : World) (h0 : w.cell? ⟨l, 0, none⟩ = some (.int .i64 0)) : Calls Try.prog 51 #[.pointer (some ⟨l, 0, none⟩)] w fun e w' => e = .returned (.bool false) ∧ w = w' := by
  have := made_is l 0 w (by simpa using h0)
  simpa using this
set_option maxRecDepth 100000 in
theorem hear_zero (l : Nat) (a b c d : Value) (w : World) (h0 : w.cell? ⟨l, 0, none⟩ = some (.int .i64 0)) : Calls Try.prog 19 #[.pointer (some ⟨l, 0, none⟩), .agg #[a, b, c, d]] w fun e w' => e = .returned (.slice none 0 0) ∧ Below w.heap.size w w' := by
  have HC0 := Lib.hid h0
  clear h0
  go_enter Try.func19, Try.ntmps19
  go_wp2_with (go_at_call 51; (with_reducible refine (made_zero l _ (belowW (below_al (Below.refl _ w) _) HC0.out)).mono ?_); rintro e w1 ⟨rfl, rfl⟩)
  go_ret
  exact ⟨rfl, below_al (Below.refl _ w) _⟩
/-- Behind Hear: where the lane's new blocks end, the tick, the rows that are handed out. -/
def HearQ (w : World) (own : Nat → Prop) (b N me E : Nat) (T : Nat → Tk) (m : Nat → Nat) (R : Nat → Nat → Rw) (e : Ending) (w' : World) : Prop :=
  ∃ lo mid t G, ∃ Ls : Nat → List Value, w.heap.size ≤ lo ∧ lo ≤ mid ∧ mid ≤ G ∧ TkOf N m R t ∧ LaneS w' (fun g => own g ∨ (lo ≤ g ∧ g < mid)) b N me E T (some t) ∧ e = .returned (.slice (some ⟨G, 0, none⟩) N N) ∧ (∀ i, (Ls i).length = 57) ∧ Blk w' G 54 (flL Ls N).toArray ∧ RowsO w' (G + 1) N (heldR N me E T) Ls ∧ But b w w'
theorem But.grow_ {g : Nat} {w w' : World} (h : Below w.heap.size w w') (hg : g ≤ w.heap.size) : But g w w' := ⟨h.mono hg, fun k hk _ => h.block k hk⟩
theorem hear_store {w1 u U : World} {own : Nat → Prop} {b N me E : Nat} {T : Nat → Tk} {t : Tk} {Lc : Nat → List Value} (hL : LaneS u own b N me E T none) (hb : b < U.heap.size) (ht : TkK u (From U.heap.size u) N t) (hB : Blk w1 b 138 (lnL N me (E % N) (tkL N t) Lc).toArray) (hC : (∀ p, (Lc p).length = 62) ∧ (∀ i, i < E → E ≤ i + N → Lc (i % N) = tkL N (T i)) ∧ (∀ p, E ≤ p → Lc p = tkZ)) (hbut : But b u w1) :
    LaneS w1 (fun g => own g ∨ (U.heap.size ≤ g ∧ g < u.heap.size)) b N me E T (some t) := by
  refine ⟨hL.N4, hL.meN, ⟨Lc, hB, hC.1, hC.2.1, hC.2.2⟩, fun i h1 h2 => ?_, fun t' e => ?_, fun g hg => ?_⟩
  · exact (hL.tk i h1 h2).keep (fun g hg => .inl hg) fun g hg => hbut.2 g (hL.lt g hg).1 (hL.lt g hg).2
  · cases e
    exact ht.keep (fun g hg => .inr ⟨hg.1, hg.2⟩) fun g hg => hbut.2 g hg.2 (by have := hg.1; omega)
  · rcases hg with hg | ⟨h1, h2⟩
    · exact ⟨Nat.lt_of_lt_of_le (hL.lt g hg).1 hbut.1.size, (hL.lt g hg).2⟩
    · exact ⟨Nat.lt_of_lt_of_le h2 hbut.1.size, by omega⟩
set_option maxRecDepth 100000 in
set_option maxHeartbeats 4000000 in
theorem hear_is (own : Nat → Prop) (b N me E : Nat) (T : Nat → Tk) (nw : Option Tk) (A : Nat → Option Addr) (m c : Nat → Nat) (R : Nat → Nat → Rw) (w : World) (hL : LaneS w own b N me E T nw) (hR : ∀ u, But b w u → ∀ i, i < 4 → LiesR u u.heap.size (A i) (m i) (R i)) :
    Calls Try.prog 19 #[.pointer (some ⟨b, 0, none⟩), .agg #[.slice (A 0) (m 0) (c 0), .slice (A 1) (m 1) (c 1), .slice (A 2) (m 2) (c 2), .slice (A 3) (m 3) (c 3)]] w (HearQ w own b N me (endE nw E) (endT nw E T) m R) := by
  have HLW := Lib.hid hL
  have HRW := Lib.hid hR
  have hN := hL.N4
  have HN16 := Lib.hid hN.2
  have hbw := hL.blt
  have HBL := Lib.hid hbw
  have HX0 := Lib.hid (Blk.new w 36 #[.slice (A 0) (m 0) (c 0), .slice (A 1) (m 1) (c 1), .slice (A 2) (m 2) (c 2), .slice (A 3) (m 3) (c 3)])
  have HB0 := Lib.hid (below_al (Below.refl _ w) (.cells #[.slice (A 0) (m 0) (c 0), .slice (A 1) (m 1) (c 1), .slice (A 2) (m 2) (c 2), .slice (A 3) (m 3) (c 3)] 36))
  obtain ⟨W0, hW0⟩ : ∃ W0, W0 = w.alloc (.cells #[.slice (A 0) (m 0) (c 0), .slice (A 1) (m 1) (c 1), .slice (A 2) (m 2) (c 2), .slice (A 3) (m 3) (c 3)] 36) := ⟨_, rfl⟩
  have HWE := Lib.hid hW0
  rw [← hW0] at HX0 HB0
  have HL0 := Lib.hid (hL.on HB0.out)
  have HC0 := Lib.hid (show W0.cell? ⟨b, 0, none⟩ = some (.int .i64 (N : Int)) from by obtain ⟨Lc, h1, _⟩ := HL0.out.blk; exact ln_cell0 h1)
  have HCG := Lib.hid (show W0.cell? ⟨b, 2, none⟩ = some (.bool nw.isSome) from by
    obtain ⟨Lc, h1, _⟩ := HL0.out.blk
    cases nw with
    | none => exact ((ln_pin h1).cell0 (by rw [tkZ_len]; decide)).trans rfl
    | some t => rw [(ln_pin h1).cell0 (by rw [tkL_len]; decide)]; show some (Value.bool t.g) = _; rw [(HL0.out.nk t rfl).g]; rfl)
  have hnd : (!decide (N = 0)) = true := by simp; omega
  clear hL hR hbw
  go_enter Try.func19, Try.ntmps19
  go_upto_region 1 with fail
  rw [← hW0]
  clear hW0 HWE
  have cg := HCG.out
  have lb : b < W0.heap.size := cell_ltT cg
  clear HCG
  have HS : ∀ U, LaneS U own b N me (endE nw E) (endT nw E T) none → But b W0 U → (Hid (LaneS U own b N me (endE nw E) (endT nw E T) none) ∧ Hid (But b w U) ∧ Hid (Blk U w.heap.size 36 #[.slice (A 0) (m 0) (c 0), .slice (A 1) (m 1) (c 1), .slice (A 2) (m 2) (c 2), .slice (A 3) (m 3) (c 3)])) := fun U h1 h2 => ⟨Lib.hid h1, Lib.hid ((But.grow_ HB0.out (Nat.le_of_lt HBL.out)).trans h2), Lib.hid (h2.blk HX0.out (by have := HBL.out; omega))⟩
  cases nw with
  | none =>
    go_upto_region 5 with (go_at_call 51; (with_reducible refine (made_is b N _ HC0.out).mono ?_); rintro e w1 ⟨rfl, rfl⟩)
    refine wp_at (fun U => Hid (LaneS U own b N me (endE none E) (endT none E T) none) ∧ Hid (But b w U) ∧ Hid (Blk U w.heap.size 36 #[.slice (A 0) (m 0) (c 0), .slice (A 1) (m 1) (c 1), .slice (A 2) (m 2) (c 2), .slice (A 3) (m 3) (c 3)])) (HS W0 HL0.out (But.refl _ _)) ?_
    rintro U ⟨HL, HBU, HX⟩
    clear HS HL0 HX0
    have HUS := Lib.hid HBU.out.1.size
    have HLB := Lib.hid HL.out.blt
    have HC0 := Lib.hid (show U.cell? ⟨b, 0, none⟩ = some (.int .i64 (N : Int)) from by obtain ⟨Lc, h1, _⟩ := HL.out.blk; exact ln_cell0 h1)
    have HR : Hid (∀ u, Below U.heap.size U u → ∀ i, i < 4 → LiesR u u.heap.size (A i) (m i) (R i)) := Lib.hid (fun u hu i hi => HRW.out u (HBU.out.trans (But.grow_ hu (Nat.le_of_lt HLB.out))) i hi)
    clear lb cg hnd
    go_wp2_with fail
    refine Reg.wp_prefix 17 (by kernel_rfl) (fun t => decide (15 ≤ t) && decide (t ≤ 31)) (Reg.KJ U.heap.size [] []) (Reg.KJ.drew _ (by simp)) Reg.KJ.trans (by kernel_rfl) (by kernel_rfl) (by kernel_rfl) (by kernel_rfl) (fun zz => (Reg.tblK [
      (15, .is (.pointer (some ⟨b, 0, none⟩))),
      (16, .is (.pointer (some ⟨b, 0, none⟩))),
      (17, .is (.pointer (some ⟨w.heap.size, 0, none⟩))),
      (18, .is (.agg #[.slice (A 0) (m 0) (c 0)])),
      (19, .is (.pointer (some ⟨w.heap.size, 1, none⟩))),
      (20, .is (.agg #[.slice (A 1) (m 1) (c 1)])),
      (21, .wy U.heap.size N (fun i => plR N (fitF (R 0) (m 0) rwN i).ro) (fun i => plR N (fitF (R 1) (m 1) rwN i).ro)),
      (22, .is (.pointer (some ⟨b, 0, none⟩))),
      (23, .is (.pointer (some ⟨w.heap.size, 2, none⟩))),
      (24, .is (.agg #[.slice (A 2) (m 2) (c 2)])),
      (25, .is (.pointer (some ⟨w.heap.size, 3, none⟩))),
      (26, .is (.agg #[.slice (A 3) (m 3) (c 3)])),
      (27, .wy U.heap.size N (fun i => plR N (fitF (R 2) (m 2) rwN i).ro) (fun i => plR N (fitF (R 3) (m 3) rwN i).ro)),
      (28, .w4 U.heap.size N (fun i => plR N (fitF (R 0) (m 0) rwN i).ro) (fun i => plR N (fitF (R 1) (m 1) rwN i).ro) (fun i => plR N (fitF (R 2) (m 2) rwN i).ro) (fun i => plR N (fitF (R 3) (m 3) rwN i).ro)),
      (29, .tkf U.heap.size N m R),
      (30, .is (.pointer (some ⟨b, 0, none⟩))),
      (31, .is (.pointer (some ⟨b, 2, none⟩)))] zz).P) (fun zz => (Reg.tblK _ zz).on) (fun zz => (Reg.memK [] zz).P) (fun zz => (Reg.memK _ zz).on) ?_ ?_
    · simp only [Reg.frame, Reg.over, Nat.reduceAdd, Nat.reduceLeDiff, decide_true, decide_false, if_true, Bool.false_eq_true, if_false, Bool.and_true, Bool.and_false]
      refine ⟨?_, ?_, ?_, ?_, ?_, ?_, ?_, ?_, ?_, ?_, ?_, ?_, ?_, ?_, ?_, ?_, ?_, trivial⟩
      · intro x u hku hd
        refine wpOp_step rfl fun KK hK => ?_
        go_simp
        exact hK _ _ ⟨_, rfl, Reg.KJ.refl _, fun d hd => by cases hd; exact rfl, fun h => by cases h⟩
      · intro x u hku hd
        refine wpOp_step rfl fun KK hK => ?_
        go_simp
        exact hK _ _ ⟨_, rfl, Reg.KJ.refl _, fun d hd => by cases hd; exact rfl, fun h => by cases h⟩
      · intro x u hku hd
        have hx := hku.blk (by simp) HX.out
        have lx := hx.lt
        have c1 := hx.cell 0
        refine wpOp_step rfl fun KK hK => ?_
        go_simp
        exact hK _ _ ⟨_, rfl, Reg.KJ.refl _, fun d hd => by cases hd; exact rfl, fun h => by cases h⟩
      · intro x u hku hd
        have h17 : x 17 = .pointer (some ⟨w.heap.size, 0, none⟩) := hd 2 (by decide)
        have hx := hku.blk (by simp) HX.out
        have lx := hx.lt
        have c1 := hx.cell 0
        refine wpOp_step rfl fun KK hK => ?_
        simp only [h17] at hK ⊢
        go_simp
        exact hK _ _ ⟨_, rfl, Reg.KJ.refl _, fun d hd => by cases hd; exact rfl, fun h => by cases h⟩
      · intro x u hku hd
        have hx := hku.blk (by simp) HX.out
        have lx := hx.lt
        have c1 := hx.cell 1
        refine wpOp_step rfl fun KK hK => ?_
        go_simp
        exact hK _ _ ⟨_, rfl, Reg.KJ.refl _, fun d hd => by cases hd; exact rfl, fun h => by cases h⟩
      · intro x u hku hd
        have h19 : x 19 = .pointer (some ⟨w.heap.size, 1, none⟩) := hd 4 (by decide)
        have hx := hku.blk (by simp) HX.out
        have lx := hx.lt
        have c1 := hx.cell 1
        refine wpOp_step rfl fun KK hK => ?_
        simp only [h19] at hK ⊢
        go_simp
        exact hK _ _ ⟨_, rfl, Reg.KJ.refl _, fun d hd => by cases hd; exact rfl, fun h => by cases h⟩
      · intro x u hku hd
        have h16 : x 16 = .pointer (some ⟨b, 0, none⟩) := hd 1 (by decide)
        have h18 : x 18 = .agg #[.slice (A 0) (m 0) (c 0)] := hd 3 (by decide)
        have h20 : x 20 = .agg #[.slice (A 1) (m 1) (c 1)] := hd 5 (by decide)
        refine wpOp_step rfl fun KK hK => ?_
        simp only [h16, h18, h20] at hK ⊢
        go_simp
        have hbk : Below U.heap.size U u := hku.1
        have hR1 := HR.out _ hbk 0 (by decide)
        have hR2 := HR.out _ hbk 1 (by decide)
        have c0 : u.cell? ⟨b, 0, none⟩ = some (.int .i64 (N : Int)) := (hku.1.cell (p := ⟨b, 0, none⟩) HLB.out).trans HC0.out
        go_at_call 53
        (with_reducible refine (wayOf_is b N HN16.out _ _ _ _ _ _ (R 0) (R 1) _ c0 hR1 hR2).mono ?_)
        rintro e u' ⟨G, Q, F, S, rfl, q1, q2, q3⟩
        exact hK _ _ ⟨_, rfl, Reg.KJ.grow (by simp) hku.size q3, fun d hd => by cases hd; exact ⟨G, Q, F, S, rfl, q1.keep (fun g hg => ⟨Nat.le_trans hku.size hg.1, hg.2⟩) (fun _ _ => rfl), q2.keep (fun g hg => ⟨Nat.le_trans hku.size hg.1, hg.2⟩) fun _ _ => rfl⟩, fun h => by cases h⟩
      · intro x u hku hd
        refine wpOp_step rfl fun KK hK => ?_
        go_simp
        exact hK _ _ ⟨_, rfl, Reg.KJ.refl _, fun d hd => by cases hd; exact rfl, fun h => by cases h⟩
      · intro x u hku hd
        have hx := hku.blk (by simp) HX.out
        have lx := hx.lt
        have c1 := hx.cell 2
        refine wpOp_step rfl fun KK hK => ?_
        go_simp
        exact hK _ _ ⟨_, rfl, Reg.KJ.refl _, fun d hd => by cases hd; exact rfl, fun h => by cases h⟩
      · intro x u hku hd
        have h23 : x 23 = .pointer (some ⟨w.heap.size, 2, none⟩) := hd 8 (by decide)
        have hx := hku.blk (by simp) HX.out
        have lx := hx.lt
        have c1 := hx.cell 2
        refine wpOp_step rfl fun KK hK => ?_
        simp only [h23] at hK ⊢
        go_simp
        exact hK _ _ ⟨_, rfl, Reg.KJ.refl _, fun d hd => by cases hd; exact rfl, fun h => by cases h⟩
      · intro x u hku hd
        have hx := hku.blk (by simp) HX.out
        have lx := hx.lt
        have c1 := hx.cell 3
        refine wpOp_step rfl fun KK hK => ?_
        go_simp
        exact hK _ _ ⟨_, rfl, Reg.KJ.refl _, fun d hd => by cases hd; exact rfl, fun h => by cases h⟩
      · intro x u hku hd
        have h25 : x 25 = .pointer (some ⟨w.heap.size, 3, none⟩) := hd 10 (by decide)
        have hx := hku.blk (by simp) HX.out
        have lx := hx.lt
        have c1 := hx.cell 3
        refine wpOp_step rfl fun KK hK => ?_
        simp only [h25] at hK ⊢
        go_simp
        exact hK _ _ ⟨_, rfl, Reg.KJ.refl _, fun d hd => by cases hd; exact rfl, fun h => by cases h⟩
      · intro x u hku hd
        have h22 : x 22 = .pointer (some ⟨b, 0, none⟩) := hd 7 (by decide)
        have h24 : x 24 = .agg #[.slice (A 2) (m 2) (c 2)] := hd 9 (by decide)
        have h26 : x 26 = .agg #[.slice (A 3) (m 3) (c 3)] := hd 11 (by decide)
        refine wpOp_step rfl fun KK hK => ?_
        simp only [h22, h24, h26] at hK ⊢
        go_simp
        have hbk : Below U.heap.size U u := hku.1
        have hR1 := HR.out _ hbk 2 (by decide)
        have hR2 := HR.out _ hbk 3 (by decide)
        have c0 : u.cell? ⟨b, 0, none⟩ = some (.int .i64 (N : Int)) := (hku.1.cell (p := ⟨b, 0, none⟩) HLB.out).trans HC0.out
        go_at_call 53
        (with_reducible refine (wayOf_is b N HN16.out _ _ _ _ _ _ (R 2) (R 3) _ c0 hR1 hR2).mono ?_)
        rintro e u' ⟨G, Q, F, S, rfl, q1, q2, q3⟩
        exact hK _ _ ⟨_, rfl, Reg.KJ.grow (by simp) hku.size q3, fun d hd => by cases hd; exact ⟨G, Q, F, S, rfl, q1.keep (fun g hg => ⟨Nat.le_trans hku.size hg.1, hg.2⟩) (fun _ _ => rfl), q2.keep (fun g hg => ⟨Nat.le_trans hku.size hg.1, hg.2⟩) fun _ _ => rfl⟩, fun h => by cases h⟩
      · intro x u hku hd
        have k21 : (Reg.FactK.wy U.heap.size N (fun i => plR N (fitF (R 0) (m 0) rwN i).ro) (fun i => plR N (fitF (R 1) (m 1) rwN i).ro) : Reg.FactK (Reg.KJ U.heap.size [] [])).P (x 21) u := hd 6 (by decide)
        obtain ⟨G21, R21, F21, S21, h21, q21, p21⟩ := k21
        have k27 : (Reg.FactK.wy U.heap.size N (fun i => plR N (fitF (R 2) (m 2) rwN i).ro) (fun i => plR N (fitF (R 3) (m 3) rwN i).ro) : Reg.FactK (Reg.KJ U.heap.size [] [])).P (x 27) u := hd 12 (by decide)
        obtain ⟨G27, R27, F27, S27, h27, q27, p27⟩ := k27
        refine wpOp_step rfl fun KK hK => ?_
        refine Reg.step_build (by rfl) 133 _ (by rfl) _ (by simpa [Act.eval, h21, h27] using built_ways _ _ _ _) ?_
        exact hK _ _ ⟨_, rfl, Reg.KJ.refl _, fun d hd => by cases hd; exact ⟨_, _, _, _, _, _, _, _, rfl, q21, p21, q27, p27⟩, fun h => by cases h⟩
      · intro x u hku hd
        have k28 : (Reg.FactK.w4 U.heap.size N (fun i => plR N (fitF (R 0) (m 0) rwN i).ro) (fun i => plR N (fitF (R 1) (m 1) rwN i).ro) (fun i => plR N (fitF (R 2) (m 2) rwN i).ro) (fun i => plR N (fitF (R 3) (m 3) rwN i).ro) : Reg.FactK (Reg.KJ U.heap.size [] [])).P (x 28) u := hd 13 (by decide)
        obtain ⟨G28, R28, F28, S28, G28', R28', F28', S28', h28, q28, p28, r28, s28⟩ := k28
        refine wpOp_step rfl fun KK hK => ?_
        refine Reg.step_build (by rfl) 135 _ (by rfl) _ (by simpa [Act.eval, h28] using built_tick4 N G28 F28 G28' F28' R28 S28 R28' S28') ?_
        exact hK _ _ ⟨_, rfl, Reg.KJ.refl _, fun d hd => by cases hd; exact ⟨_, rfl, tk4_k q28 p28 r28 s28, tk4_of q28 p28 r28 s28⟩, fun h => by cases h⟩
      · intro x u hku hd
        have h15 : x 15 = .pointer (some ⟨b, 0, none⟩) := hd 0 (by decide)
        have c0 : u.cell? ⟨b, 0, none⟩ = some (.int .i64 (N : Int)) := (hku.1.cell (p := ⟨b, 0, none⟩) HLB.out).trans HC0.out
        have lb := cell_ltT c0
        refine wpOp_step rfl fun KK hK => ?_
        simp only [h15] at hK ⊢
        go_simp
        exact hK _ _ ⟨_, rfl, Reg.KJ.refl _, fun d hd => by cases hd; exact rfl, fun h => by cases h⟩
      · intro x u hku hd
        have h30 : x 30 = .pointer (some ⟨b, 0, none⟩) := hd 15 (by decide)
        have c0 : u.cell? ⟨b, 0, none⟩ = some (.int .i64 (N : Int)) := (hku.1.cell (p := ⟨b, 0, none⟩) HLB.out).trans HC0.out
        have lb := cell_ltT c0
        refine wpOp_step rfl fun KK hK => ?_
        simp only [h30] at hK ⊢
        go_simp
        exact hK _ _ ⟨_, rfl, Reg.KJ.refl _, fun d hd => by cases hd; exact rfl, fun h => by cases h⟩
    · intro x u hku hd
      have k29 := hd 14 (by decide)
      obtain ⟨t, h29, qt, qo⟩ := k29
      have h29' : x 29 = .agg (tkL N t).toArray := h29
      have h31 : x 31 = .pointer (some ⟨b, 2, none⟩) := hd 16 (by decide)
      have HKU := Lib.hid hku
      have HT := Lib.hid qt
      have HQO := Lib.hid qo
      have HLu := Lib.hid (HL.out.on ⟨hku.1.os, hku.1.tape, hku.1.output, hku.1.size, fun k hk => hku.2.1 k hk (by simp)⟩)
      clear hku hd h29 qt qo
      obtain ⟨Lc, hb1, hb2, hb3, hb4⟩ := HLu.out.blk
      have HP := Lib.hid (ln_pin hb1)
      have HLC := Lib.hid (And.intro hb2 (And.intro hb3 hb4))
      have HTL := Lib.hid (tkL_len N t)
      clear hb1 hb2 hb3 hb4
      simp only [Reg.frame, Reg.over, Nat.reduceAdd, Nat.reduceLeDiff, decide_true, decide_false, if_true, Bool.false_eq_true, if_false, Bool.and_true, Bool.and_false, h29', h31]
      go_upto_region 6 with (refine wpList_store_pin rfl 135 (.tmp 31) (.tmp 29) rfl HP.out (tkL N t) (by simp [Act.eval, Act.put]) (by simp [Act.eval, Act.put]) 62 size_tick tkZ_len HTL.out (tkL_one _ _) ?_; intro w1 p1 b1; have HP1 := Lib.hid p1; have HB1 := Lib.hid b1; clear p1 b1)
      have HL1 : Hid (LaneS w1 (fun g => own g ∨ (U.heap.size ≤ g ∧ g < u.heap.size)) b N me (endE none E) (endT none E T) (some t)) := Lib.hid (hear_store HLu.out HLB.out HT.out HP1.out.blk HLC.out HB1.out)
      have HBW : Hid (But b w w1) := Lib.hid ((HBU.out.trans (But.of_kj HKU.out (Nat.le_of_lt HLB.out))).trans HB1.out)
      go_wp2_with (go_at_call 54; (with_reducible refine (held_of HL1.out).mono ?_); rintro e w2 ⟨Ls, rfl, q1, q2, q3, q4⟩)
      go_ret
      exact ⟨U.heap.size, u.heap.size, t, w1.heap.size, Ls, HUS.out, HKU.out.size, HB1.out.1.size, HQO.out, HL1.out.on q4, rfl, q1, q2, q3, HBW.out.trans (But.grow_ q4 (Nat.le_of_lt HL1.out.blt))⟩
  | some t0 =>
    go_upto_region 5 with (first
      | (go_at_call 51; (with_reducible refine (made_is b N _ HC0.out).mono ?_); rintro e w1 ⟨rfl, rfl⟩)
      | (go_at_call 52; (with_reducible refine (end_is own b N me E T t0 _ HL0.out).mono ?_); rintro e w1 ⟨rfl, q1, q2⟩; have HQ1 := Lib.hid q1; have HQ2 := Lib.hid q2; clear q1 q2))
    refine wp_at (fun U => Hid (LaneS U own b N me (endE (some t0) E) (endT (some t0) E T) none) ∧ Hid (But b w U) ∧ Hid (Blk U w.heap.size 36 #[.slice (A 0) (m 0) (c 0), .slice (A 1) (m 1) (c 1), .slice (A 2) (m 2) (c 2), .slice (A 3) (m 3) (c 3)])) (HS w1 HQ1.out HQ2.out) ?_
    rintro U ⟨HL, HBU, HX⟩
    clear HS HL0 HX0
    have HUS := Lib.hid HBU.out.1.size
    have HLB := Lib.hid HL.out.blt
    have HC0 := Lib.hid (show U.cell? ⟨b, 0, none⟩ = some (.int .i64 (N : Int)) from by obtain ⟨Lc, h1, _⟩ := HL.out.blk; exact ln_cell0 h1)
    have HR : Hid (∀ u, Below U.heap.size U u → ∀ i, i < 4 → LiesR u u.heap.size (A i) (m i) (R i)) := Lib.hid (fun u hu i hi => HRW.out u (HBU.out.trans (But.grow_ hu (Nat.le_of_lt HLB.out))) i hi)
    clear lb cg hnd
    go_wp2_with fail
    refine Reg.wp_prefix 17 (by kernel_rfl) (fun t => decide (15 ≤ t) && decide (t ≤ 31)) (Reg.KJ U.heap.size [] []) (Reg.KJ.drew _ (by simp)) Reg.KJ.trans (by kernel_rfl) (by kernel_rfl) (by kernel_rfl) (by kernel_rfl) (fun zz => (Reg.tblK [
      (15, .is (.pointer (some ⟨b, 0, none⟩))),
      (16, .is (.pointer (some ⟨b, 0, none⟩))),
      (17, .is (.pointer (some ⟨w.heap.size, 0, none⟩))),
      (18, .is (.agg #[.slice (A 0) (m 0) (c 0)])),
      (19, .is (.pointer (some ⟨w.heap.size, 1, none⟩))),
      (20, .is (.agg #[.slice (A 1) (m 1) (c 1)])),
      (21, .wy U.heap.size N (fun i => plR N (fitF (R 0) (m 0) rwN i).ro) (fun i => plR N (fitF (R 1) (m 1) rwN i).ro)),
      (22, .is (.pointer (some ⟨b, 0, none⟩))),
      (23, .is (.pointer (some ⟨w.heap.size, 2, none⟩))),
      (24, .is (.agg #[.slice (A 2) (m 2) (c 2)])),
      (25, .is (.pointer (some ⟨w.heap.size, 3, none⟩))),
      (26, .is (.agg #[.slice (A 3) (m 3) (c 3)])),
      (27, .wy U.heap.size N (fun i => plR N (fitF (R 2) (m 2) rwN i).ro) (fun i => plR N (fitF (R 3) (m 3) rwN i).ro)),
      (28, .w4 U.heap.size N (fun i => plR N (fitF (R 0) (m 0) rwN i).ro) (fun i => plR N (fitF (R 1) (m 1) rwN i).ro) (fun i => plR N (fitF (R 2) (m 2) rwN i).ro) (fun i => plR N (fitF (R 3) (m 3) rwN i).ro)),
      (29, .tkf U.heap.size N m R),
      (30, .is (.pointer (some ⟨b, 0, none⟩))),
      (31, .is (.pointer (some ⟨b, 2, none⟩)))] zz).P) (fun zz => (Reg.tblK _ zz).on) (fun zz => (Reg.memK [] zz).P) (fun zz => (Reg.memK _ zz).on) ?_ ?_
    · simp only [Reg.frame, Reg.over, Nat.reduceAdd, Nat.reduceLeDiff, decide_true, decide_false, if_true, Bool.false_eq_true, if_false, Bool.and_true, Bool.and_false]
      refine ⟨?_, ?_, ?_, ?_, ?_, ?_, ?_, ?_, ?_, ?_, ?_, ?_, ?_, ?_, ?_, ?_, ?_, trivial⟩
      · intro x u hku hd
        refine wpOp_step rfl fun KK hK => ?_
        go_simp
        exact hK _ _ ⟨_, rfl, Reg.KJ.refl _, fun d hd => by cases hd; exact rfl, fun h => by cases h⟩
      · intro x u hku hd
        refine wpOp_step rfl fun KK hK => ?_
        go_simp
        exact hK _ _ ⟨_, rfl, Reg.KJ.refl _, fun d hd => by cases hd; exact rfl, fun h => by cases h⟩
      · intro x u hku hd
        have hx := hku.blk (by simp) HX.out
        have lx := hx.lt
        have c1 := hx.cell 0
        refine wpOp_step rfl fun KK hK => ?_
        go_simp
        exact hK _ _ ⟨_, rfl, Reg.KJ.refl _, fun d hd => by cases hd; exact rfl, fun h => by cases h⟩
      · intro x u hku hd
        have h17 : x 17 = .pointer (some ⟨w.heap.size, 0, none⟩) := hd 2 (by decide)
        have hx := hku.blk (by simp) HX.out
        have lx := hx.lt
        have c1 := hx.cell 0
        refine wpOp_step rfl fun KK hK => ?_
        simp only [h17] at hK ⊢
        go_simp
        exact hK _ _ ⟨_, rfl, Reg.KJ.refl _, fun d hd => by cases hd; exact rfl, fun h => by cases h⟩
      · intro x u hku hd
        have hx := hku.blk (by simp) HX.out
        have lx := hx.lt
        have c1 := hx.cell 1
        refine wpOp_step rfl fun KK hK => ?_
        go_simp
        exact hK _ _ ⟨_, rfl, Reg.KJ.refl _, fun d hd => by cases hd; exact rfl, fun h => by cases h⟩
      · intro x u hku hd
        have h19 : x 19 = .pointer (some ⟨w.heap.size, 1, none⟩) := hd 4 (by decide)
        have hx := hku.blk (by simp) HX.out
        have lx := hx.lt
        have c1 := hx.cell 1
        refine wpOp_step rfl fun KK hK => ?_
        simp only [h19] at hK ⊢
        go_simp
        exact hK _ _ ⟨_, rfl, Reg.KJ.refl _, fun d hd => by cases hd; exact rfl, fun h => by cases h⟩
      · intro x u hku hd
        have h16 : x 16 = .pointer (some ⟨b, 0, none⟩) := hd 1 (by decide)
        have h18 : x 18 = .agg #[.slice (A 0) (m 0) (c 0)] := hd 3 (by decide)
        have h20 : x 20 = .agg #[.slice (A 1) (m 1) (c 1)] := hd 5 (by decide)
        refine wpOp_step rfl fun KK hK => ?_
        simp only [h16, h18, h20] at hK ⊢
        go_simp
        have hbk : Below U.heap.size U u := hku.1
        have hR1 := HR.out _ hbk 0 (by decide)
        have hR2 := HR.out _ hbk 1 (by decide)
        have c0 : u.cell? ⟨b, 0, none⟩ = some (.int .i64 (N : Int)) := (hku.1.cell (p := ⟨b, 0, none⟩) HLB.out).trans HC0.out
        go_at_call 53
        (with_reducible refine (wayOf_is b N HN16.out _ _ _ _ _ _ (R 0) (R 1) _ c0 hR1 hR2).mono ?_)
        rintro e u' ⟨G, Q, F, S, rfl, q1, q2, q3⟩
        exact hK _ _ ⟨_, rfl, Reg.KJ.grow (by simp) hku.size q3, fun d hd => by cases hd; exact ⟨G, Q, F, S, rfl, q1.keep (fun g hg => ⟨Nat.le_trans hku.size hg.1, hg.2⟩) (fun _ _ => rfl), q2.keep (fun g hg => ⟨Nat.le_trans hku.size hg.1, hg.2⟩) fun _ _ => rfl⟩, fun h => by cases h⟩
      · intro x u hku hd
        refine wpOp_step rfl fun KK hK => ?_
        go_simp
        exact hK _ _ ⟨_, rfl, Reg.KJ.refl _, fun d hd => by cases hd; exact rfl, fun h => by cases h⟩
      · intro x u hku hd
        have hx := hku.blk (by simp) HX.out
        have lx := hx.lt
        have c1 := hx.cell 2
        refine wpOp_step rfl fun KK hK => ?_
        go_simp
        exact hK _ _ ⟨_, rfl, Reg.KJ.refl _, fun d hd => by cases hd; exact rfl, fun h => by cases h⟩
      · intro x u hku hd
        have h23 : x 23 = .pointer (some ⟨w.heap.size, 2, none⟩) := hd 8 (by decide)
        have hx := hku.blk (by simp) HX.out
        have lx := hx.lt
        have c1 := hx.cell 2
        refine wpOp_step rfl fun KK hK => ?_
        simp only [h23] at hK ⊢
        go_simp
        exact hK _ _ ⟨_, rfl, Reg.KJ.refl _, fun d hd => by cases hd; exact rfl, fun h => by cases h⟩
      · intro x u hku hd
        have hx := hku.blk (by simp) HX.out
        have lx := hx.lt
        have c1 := hx.cell 3
        refine wpOp_step rfl fun KK hK => ?_
        go_simp
        exact hK _ _ ⟨_, rfl, Reg.KJ.refl _, fun d hd => by cases hd; exact rfl, fun h => by cases h⟩
      · intro x u hku hd
        have h25 : x 25 = .pointer (some ⟨w.heap.size, 3, none⟩) := hd 10 (by decide)
        have hx := hku.blk (by simp) HX.out
        have lx := hx.lt
        have c1 := hx.cell 3
        refine wpOp_step rfl fun KK hK => ?_
        simp only [h25] at hK ⊢
        go_simp
        exact hK _ _ ⟨_, rfl, Reg.KJ.refl _, fun d hd => by cases hd; exact rfl, fun h => by cases h⟩
      · intro x u hku hd
        have h22 : x 22 = .pointer (some ⟨b, 0, none⟩) := hd 7 (by decide)
        have h24 : x 24 = .agg #[.slice (A 2) (m 2) (c 2)] := hd 9 (by decide)
        have h26 : x 26 = .agg #[.slice (A 3) (m 3) (c 3)] := hd 11 (by decide)
        refine wpOp_step rfl fun KK hK => ?_
        simp only [h22, h24, h26] at hK ⊢
        go_simp
        have hbk : Below U.heap.size U u := hku.1
        have hR1 := HR.out _ hbk 2 (by decide)
        have hR2 := HR.out _ hbk 3 (by decide)
        have c0 : u.cell? ⟨b, 0, none⟩ = some (.int .i64 (N : Int)) := (hku.1.cell (p := ⟨b, 0, none⟩) HLB.out).trans HC0.out
        go_at_call 53
        (with_reducible refine (wayOf_is b N HN16.out _ _ _ _ _ _ (R 2) (R 3) _ c0 hR1 hR2).mono ?_)
        rintro e u' ⟨G, Q, F, S, rfl, q1, q2, q3⟩
        exact hK _ _ ⟨_, rfl, Reg.KJ.grow (by simp) hku.size q3, fun d hd => by cases hd; exact ⟨G, Q, F, S, rfl, q1.keep (fun g hg => ⟨Nat.le_trans hku.size hg.1, hg.2⟩) (fun _ _ => rfl), q2.keep (fun g hg => ⟨Nat.le_trans hku.size hg.1, hg.2⟩) fun _ _ => rfl⟩, fun h => by cases h⟩
      · intro x u hku hd
        have k21 : (Reg.FactK.wy U.heap.size N (fun i => plR N (fitF (R 0) (m 0) rwN i).ro) (fun i => plR N (fitF (R 1) (m 1) rwN i).ro) : Reg.FactK (Reg.KJ U.heap.size [] [])).P (x 21) u := hd 6 (by decide)
        obtain ⟨G21, R21, F21, S21, h21, q21, p21⟩ := k21
        have k27 : (Reg.FactK.wy U.heap.size N (fun i => plR N (fitF (R 2) (m 2) rwN i).ro) (fun i => plR N (fitF (R 3) (m 3) rwN i).ro) : Reg.FactK (Reg.KJ U.heap.size [] [])).P (x 27) u := hd 12 (by decide)
        obtain ⟨G27, R27, F27, S27, h27, q27, p27⟩ := k27
        refine wpOp_step rfl fun KK hK => ?_
        refine Reg.step_build (by rfl) 133 _ (by rfl) _ (by simpa [Act.eval, h21, h27] using built_ways _ _ _ _) ?_
        exact hK _ _ ⟨_, rfl, Reg.KJ.refl _, fun d hd => by cases hd; exact ⟨_, _, _, _, _, _, _, _, rfl, q21, p21, q27, p27⟩, fun h => by cases h⟩
      · intro x u hku hd
        have k28 : (Reg.FactK.w4 U.heap.size N (fun i => plR N (fitF (R 0) (m 0) rwN i).ro) (fun i => plR N (fitF (R 1) (m 1) rwN i).ro) (fun i => plR N (fitF (R 2) (m 2) rwN i).ro) (fun i => plR N (fitF (R 3) (m 3) rwN i).ro) : Reg.FactK (Reg.KJ U.heap.size [] [])).P (x 28) u := hd 13 (by decide)
        obtain ⟨G28, R28, F28, S28, G28', R28', F28', S28', h28, q28, p28, r28, s28⟩ := k28
        refine wpOp_step rfl fun KK hK => ?_
        refine Reg.step_build (by rfl) 135 _ (by rfl) _ (by simpa [Act.eval, h28] using built_tick4 N G28 F28 G28' F28' R28 S28 R28' S28') ?_
        exact hK _ _ ⟨_, rfl, Reg.KJ.refl _, fun d hd => by cases hd; exact ⟨_, rfl, tk4_k q28 p28 r28 s28, tk4_of q28 p28 r28 s28⟩, fun h => by cases h⟩
      · intro x u hku hd
        have h15 : x 15 = .pointer (some ⟨b, 0, none⟩) := hd 0 (by decide)
        have c0 : u.cell? ⟨b, 0, none⟩ = some (.int .i64 (N : Int)) := (hku.1.cell (p := ⟨b, 0, none⟩) HLB.out).trans HC0.out
        have lb := cell_ltT c0
        refine wpOp_step rfl fun KK hK => ?_
        simp only [h15] at hK ⊢
        go_simp
        exact hK _ _ ⟨_, rfl, Reg.KJ.refl _, fun d hd => by cases hd; exact rfl, fun h => by cases h⟩
      · intro x u hku hd
        have h30 : x 30 = .pointer (some ⟨b, 0, none⟩) := hd 15 (by decide)
        have c0 : u.cell? ⟨b, 0, none⟩ = some (.int .i64 (N : Int)) := (hku.1.cell (p := ⟨b, 0, none⟩) HLB.out).trans HC0.out
        have lb := cell_ltT c0
        refine wpOp_step rfl fun KK hK => ?_
        simp only [h30] at hK ⊢
        go_simp
        exact hK _ _ ⟨_, rfl, Reg.KJ.refl _, fun d hd => by cases hd; exact rfl, fun h => by cases h⟩
    · intro x u hku hd
      have k29 := hd 14 (by decide)
      obtain ⟨t, h29, qt, qo⟩ := k29
      have h29' : x 29 = .agg (tkL N t).toArray := h29
      have h31 : x 31 = .pointer (some ⟨b, 2, none⟩) := hd 16 (by decide)
      have HKU := Lib.hid hku
      have HT := Lib.hid qt
      have HQO := Lib.hid qo
      have HLu := Lib.hid (HL.out.on ⟨hku.1.os, hku.1.tape, hku.1.output, hku.1.size, fun k hk => hku.2.1 k hk (by simp)⟩)
      clear hku hd h29 qt qo
      obtain ⟨Lc, hb1, hb2, hb3, hb4⟩ := HLu.out.blk
      have HP := Lib.hid (ln_pin hb1)
      have HLC := Lib.hid (And.intro hb2 (And.intro hb3 hb4))
      have HTL := Lib.hid (tkL_len N t)
      clear hb1 hb2 hb3 hb4
      simp only [Reg.frame, Reg.over, Nat.reduceAdd, Nat.reduceLeDiff, decide_true, decide_false, if_true, Bool.false_eq_true, if_false, Bool.and_true, Bool.and_false, h29', h31]
      go_upto_region 6 with (refine wpList_store_pin rfl 135 (.tmp 31) (.tmp 29) rfl HP.out (tkL N t) (by simp [Act.eval, Act.put]) (by simp [Act.eval, Act.put]) 62 size_tick tkZ_len HTL.out (tkL_one _ _) ?_; intro w1 p1 b1; have HP1 := Lib.hid p1; have HB1 := Lib.hid b1; clear p1 b1)
      have HL1 : Hid (LaneS w1 (fun g => own g ∨ (U.heap.size ≤ g ∧ g < u.heap.size)) b N me (endE (some t0) E) (endT (some t0) E T) (some t)) := Lib.hid (hear_store HLu.out HLB.out HT.out HP1.out.blk HLC.out HB1.out)
      have HBW : Hid (But b w w1) := Lib.hid ((HBU.out.trans (But.of_kj HKU.out (Nat.le_of_lt HLB.out))).trans HB1.out)
      go_wp2_with (go_at_call 54; (with_reducible refine (held_of HL1.out).mono ?_); rintro e w2 ⟨Ls, rfl, q1, q2, q3, q4⟩)
      go_ret
      exact ⟨U.heap.size, u.heap.size, t, w1.heap.size, Ls, HUS.out, HKU.out.size, HB1.out.1.size, HQO.out, HL1.out.on q4, rfl, q1, q2, q3, HBW.out.trans (But.grow_ q4 (Nat.le_of_lt HL1.out.blt))⟩
end Go.Proofs.Ytcangipaoancnaa

