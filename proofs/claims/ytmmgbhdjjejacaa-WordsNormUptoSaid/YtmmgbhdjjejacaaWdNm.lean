/-
  The walk of the law WordsNorm: it returns true, and nothing that was there has turned. Conditions: the word's reading, its lengths.
-/
import Derived.Test.YtmmgbhdjjejacaaWdN2
namespace Go.Proofs.Ytmmgbhdjjejacaa
open Go.RowKit
set_option linter.unusedVariables false
set_option linter.unusedSimpArgs false

/-- All blocks but those from lo to hi stay. -/
def Outs (lo hi : Nat) (w w' : World) : Prop := Below lo w w' ∧ ∀ b, b < w.heap.size → b < lo ∨ hi ≤ b → w'.heap[b]? = w.heap[b]?
/-- What Spoil turns, by bounds: the table's own block, or none. -/
def SpB (w : World) (lo hi : Nat) (A : Option Addr) (n p : Nat) : Prop := (A = none ∧ n = 0 ∧ p = 0) ∨ ∃ g, A = some ⟨g, 0, none⟩ ∧ p = n ∧ lo ≤ g ∧ g < hi ∧ Shape g n w
section
variable {lo hi : Nat} {w w' w2 : World}
theorem Outs.blk (h : Outs lo hi w w') {g : Nat} {t : TypeId} {cs : Array Value} (hB : Blk w g t cs) (hg : g < lo ∨ hi ≤ g) : Blk w' g t cs := (h.2 g hB.lt hg).trans hB
theorem Outs.of_below (h : Below w.heap.size w w') (hl : lo ≤ w.heap.size) : Outs lo hi w w' := ⟨h.mono hl, fun b hb _ => h.block b hb⟩
theorem Outs.of_but {g : Nat} (h : But g w w') (h1 : lo ≤ g) (h2 : g < hi) : Outs lo hi w w' := ⟨h.low h1, fun b hb hne => h.2 b hb (by omega)⟩
theorem KeptBut.of_below {ts : List TypeId} (h : Below w.heap.size w w') : KeptBut w w' ts := fun g t cs _ hB => hB.on h
theorem Shape.lt {g n : Nat} (h : Shape g n w) : g < w.heap.size := by obtain ⟨L, _, h⟩ := h; exact h.lt
theorem Shape.same {g n m : Nat} (h : Shape g n w) (k : Shape g m w) : n = m := by
  obtain ⟨L, h1, h2⟩ := h
  obtain ⟨M, k1, k2⟩ := k
  have e : L.toArray = M.toArray := by
    have := h2.symm.trans k2
    injection this with this
    injection this
  have : L.length = M.length := by rw [← List.size_toArray, ← List.size_toArray, e]
  omega
theorem SpB.on {A : Option Addr} {n p : Nat} (h : SpB w lo hi A n p) (hb : Below w.heap.size w w') : SpB w' lo hi A n p := by
  rcases h with h | ⟨g, h1, h2, h3, h4, L, h5, h6⟩
  · exact .inl h
  · exact .inr ⟨g, h1, h2, h3, h4, L, h5, h6.on hb⟩
end
theorem spoil_out (b : Bool) (c : Ce) (A : Option Addr) (n p lo hi : Nat) (hn : n ≤ 65536) (w : World) (h : SpB w lo hi A n p) (hl : lo ≤ w.heap.size) :
    Calls Try.prog 19 #[.agg (roL b c A n p).toArray] w fun e w' => e = .returned (.tuple #[]) ∧ Outs lo hi w w' ∧ KeptBut w w' [69] ∧ ∀ B m q, SpB w lo hi B m q → SpB w' lo hi B m q := by
  rcases h with ⟨rfl, rfl, rfl⟩ | ⟨g, rfl, rfl, h3, h4, h5⟩
  · exact (spoil_none b c w).mono fun e w' ⟨h1, h2⟩ => ⟨h1, Outs.of_below h2 hl, KeptBut.of_below h2, fun B m q k => k.on h2⟩
  · refine (spoil_is b c g _ hn w h5).mono fun e w' ⟨h1, h6, h7⟩ => ⟨h1, Outs.of_but h7 h3 h4, (by obtain ⟨L, _, hB⟩ := h5; exact h7.kept hB), fun B m q k => ?_⟩
    rcases k with k | ⟨g', k1, k2, k3, k4, k5⟩
    · exact .inl k
    · refine .inr ⟨g', k1, k2, k3, k4, ?_⟩
      by_cases e : g' = g
      · subst e
        rw [k5.same h5]
        exact h6
      · obtain ⟨M, m1, m2⟩ := k5
        exact ⟨M, m1, h7.blk m2 e⟩
/-- How many rows a plain form has; which. -/
def kN (N : Int) : Nat := if nmB N = true then N.toNat else 0
theorem kN_le (N : Int) : kN N ≤ 16 := by
  unfold kN
  split
  · rename_i h
    exact (nmB_nat h).2
  · omega
def rN (N : Int) (R : Nat → Rw) (m : Nat) (i : Nat) : Ro := plR N.toNat (fitF R m rwN i).ro
theorem plR_n (n : Nat) (hn : n ≤ 16) (r : Ro) : (plR n r).n ≤ 65536 := by
  unfold plR
  split
  · show n ≤ 65536
    omega
  · decide
theorem rN_n (N : Int) (h : nmB N = true) (R : Nat → Rw) (m i : Nat) : (rN N R m i).n ≤ 65536 := plR_n _ (nmB_nat h).2 _
theorem fit_ro {R Q : Nat → Rw} {m : Nat} (h : ∀ i, i < m → (Q i).ro = (R i).ro) (i : Nat) : (fitF Q m rwN i).ro = (fitF R m rwN i).ro := by
  unfold fitF
  split
  · rename_i hi
    exact h i hi
  · rfl
theorem rN_same (N : Int) {R Q : Nat → Rw} {m : Nat} (h : ∀ i, i < m → (Q i).ro = (R i).ro) : rN N Q m = rN N R m := by
  funext i
  unfold rN
  rw [fit_ro h]
/-- Rows of memory of their own, from block lo on. -/
def NO (w : World) (lo : Nat) (A : Option Addr) (k : Nat) (r : Nat → Ro) : Prop := 0 < k → ∃ (G : Nat) (Ls : Nat → List Value), A = some ⟨G, 0, none⟩ ∧ lo ≤ G ∧ (∀ i, (Ls i).length = 57) ∧ Blk w G 54 (flL Ls k).toArray ∧ RowsO w (G + 1) k r Ls
theorem NO.on {w w' : World} {lo k : Nat} {A : Option Addr} {r : Nat → Ro} (h : NO w lo A k r) (hb : Below w.heap.size w w') : NO w' lo A k r := fun h0 => by
  obtain ⟨G, Ls, h1, h2, h3, h4, h5⟩ := h h0
  exact ⟨G, Ls, h1, h2, h3, h4.on hb, fun i hi => (h5 i hi).on hb⟩
theorem RowO.outs {w w' : World} {lo hi l : Nat} {r : Ro} {L : List Value} (h : RowO w l r L) (ho : Outs lo hi w w') (hl : hi ≤ l) : RowO w' l r L := by
  obtain ⟨A, p, e, h⟩ := h
  refine ⟨A, p, e, ?_⟩
  rcases h with h | ⟨g, h1, h2, h3, h4⟩
  · exact .inl h
  · exact .inr ⟨g, h1, h2, h3, ho.blk h4 (.inr (by omega))⟩
theorem NO.outs {w w' : World} {lo hi l k : Nat} {A : Option Addr} {r : Nat → Ro} (h : NO w l A k r) (ho : Outs lo hi w w') (hl : hi ≤ l) : NO w' l A k r := fun h0 => by
  obtain ⟨G, Ls, h1, h2, h3, h4, h5⟩ := h h0
  exact ⟨G, Ls, h1, h2, h3, ho.blk h4 (.inr (by omega)), fun i hi' => (h5 i hi').outs ho (by omega)⟩
/-- .. as rows with their addresses: how they read, what Spoil turns. -/
structure NX (w : World) (lo hi G : Nat) (k : Nat) (r : Nat → Ro) (X : Nat → Rw) : Prop where
  lo : lo ≤ G
  b : Blk w G 54 (flL (fun i => (X i).l) k).toArray
  o : ∀ i, i < k → (X i).ro = r i
  t : ∀ i, i < k → LiesH w w.heap.size (X i).A (X i).n (X i).T
  s : ∀ i, i < k → SpB w (G + 1) hi (X i).A (X i).n (X i).p
theorem RowO.x {w : World} {lo : Nat} {r : Ro} {L : List Value} (h : RowO w lo r L) : ∃ X : Rw, L = X.l ∧ X.ro = r ∧ LiesH w w.heap.size X.A X.n X.T ∧ SpB w lo w.heap.size X.A X.n X.p := by
  obtain ⟨A, p, e, h⟩ := h
  refine ⟨⟨r.b, r.c, A, r.n, p, r.T⟩, e, rfl, ?_⟩
  rcases h with ⟨h1, h2, h3⟩ | ⟨g, h1, h2, h3, h4⟩
  · exact ⟨by show LiesH w w.heap.size A r.n r.T; rw [h2]; exact LiesH.nil_, .inl ⟨h1, h2, h3⟩⟩
  · exact ⟨by show LiesH w w.heap.size A r.n r.T; rw [h1]; exact h4.liesH_, .inr ⟨g, h1, h2, h3, h4.lt, hesL r.T r.n, hesL_len _ _, h4⟩⟩
theorem NO.x {w : World} {lo k : Nat} {A : Option Addr} {r : Nat → Ro} (h : NO w lo A k r) (h0 : 0 < k) : ∃ G X, A = some ⟨G, 0, none⟩ ∧ NX w lo w.heap.size G k r X := by
  obtain ⟨G, Ls, h1, h2, h3, h4, h5⟩ := h h0
  have hx : ∀ i, ∃ X : Rw, i < k → (Ls i = X.l ∧ X.ro = r i ∧ LiesH w w.heap.size X.A X.n X.T ∧ SpB w (G + 1) w.heap.size X.A X.n X.p) := fun i => by
    by_cases hi : i < k
    · obtain ⟨X, hX⟩ := (h5 i hi).x
      exact ⟨X, fun _ => hX⟩
    · exact ⟨rwN, fun h => absurd h hi⟩
  refine ⟨G, fun i => (hx i).choose, h1, h2, ?_, fun i hi => ((hx i).choose_spec hi).2.1, fun i hi => ((hx i).choose_spec hi).2.2.1, fun i hi => ((hx i).choose_spec hi).2.2.2⟩
  rw [← flL_congr (f := Ls) (h := fun i => ((hx i).choose).l) (fun i hi => ((hx i).choose_spec hi).1)]
  exact h4
theorem NX.lies {w : World} {lo hi G k : Nat} {r : Nat → Ro} {X : Nat → Rw} (h : NX w lo hi G k r X) : LiesR w w.heap.size (some ⟨G, 0, none⟩) k X := ⟨Blk.liesF (by decide) (fun i => Rw.l_len _) h.b, h.t⟩
theorem NO.lies {w : World} {lo k : Nat} {A : Option Addr} {r : Nat → Ro} (h : NO w lo A k r) : ∃ X : Nat → Rw, LiesR w w.heap.size A k X ∧ ∀ i, i < k → (X i).ro = r i := by
  rcases Nat.eq_zero_or_pos k with h0 | h0
  · subst h0
    exact ⟨fun _ => rwN, ⟨fun h => absurd h (by omega), fun i hi => absurd hi (by omega)⟩, fun i hi => absurd hi (by omega)⟩
  · obtain ⟨G, X, rfl, hX⟩ := h.x h0
    exact ⟨X, hX.lies, hX.o⟩
theorem norm_all (N : Int) (A : Option Addr) (m c : Nat) (R : Nat → Rw) (w : World) (hR : LiesR w w.heap.size A m R) :
    Calls Try.prog 14 #[.int .i64 N, .agg #[.slice A m c]] w fun e w' => ∃ (A' : Option Addr) (c' : Nat), e = .returned (.agg #[.slice A' (kN N) c']) ∧ NO w' w.heap.size A' (kN N) (rN N R m) ∧ Below w.heap.size w w' := by
  cases h : nmB N
  · have e : kN N = 0 := by unfold kN; rw [h]; rfl
    rw [e]
    exact (norm_bad N h A m c w).mono fun e w' ⟨h1, h2⟩ => ⟨none, 0, h1, fun h => absurd h (by omega), h2⟩
  · obtain ⟨e, h16⟩ := nmB_nat h
    have e2 : kN N = N.toNat := by unfold kN; rw [if_pos h]
    rw [e2]
    have := norm_is N.toNat h16 A m c R w hR
    rw [← e] at this
    exact this.mono fun e w' ⟨G, Ls, h1, h2, h3, h4, h5, h6⟩ => ⟨_, _, h1, fun _ => ⟨G, Ls, rfl, h2, h3, h4, h5⟩, h6⟩
theorem rnorm_all (N : Int) (A : Option Addr) (m c : Nat) (hm : m ≤ 65536) (R : Nat → Rw) (hRn : ∀ i, i < m → (R i).n ≤ 65536) (w : World) (hR : LiesR w w.heap.size A m R) :
    Calls Try.prog 15 #[.int .i64 N, .agg #[.slice A m c]] w fun e w' => ∃ (A' : Option Addr) (c' : Nat) (Q : Nat → Rw), e = .returned (.agg #[.slice A' (kN N) c']) ∧ w'.ownsRow 0 61 57 (.slice A' (kN N) c') (kN N) (flL (fun i => (Q i).l) (kN N)) ∧ OwnTs w' (kN N) Q ∧ (∀ i, i < kN N → (Q i).ro = rN N R m i) ∧ Below w.heap.size w w' := by
  cases h : nmB N
  · have e : kN N = 0 := by unfold kN; rw [h]; rfl
    rw [e]
    exact (rnorm_bad N h A m c w).mono fun e w' ⟨h1, h2⟩ => ⟨none, 0, fun _ => rwN, h1, ownsF_nil, fun i hi => absurd hi (by omega), fun i hi => absurd hi (by omega), h2⟩
  · obtain ⟨e, h16⟩ := nmB_nat h
    have e2 : kN N = N.toNat := by unfold kN; rw [if_pos h]
    rw [e2]
    have := rnorm_yes N.toNat h16 A m c hm R hRn w hR
    rw [← e] at this
    exact this.mono fun e w' ⟨A', c', Q, h1, h2, h3, h4, h5⟩ => ⟨A', c', Q, h1, ownsF_mono h2 (Nat.zero_le _), h3, h4, h5⟩
/-- The word in its box, its twin. -/
structure M1 (w : World) (A : Option Addr) (m c : Nat) (R : Nat → Rw) (g5 : Nat) (A1 : Option Addr) (c1 : Nat) (G : Nat → Nat) (U : World) : Prop where
  x : Blk U w.heap.size 24 #[.slice A m c]
  x5 : Blk U g5 24 #[.slice A1 m c1]
  r5 : U.ownsRow 0 54 57 (.slice A1 m c1) m (flL (fun i => twl (R i) (G i)) m)
  t5 : ∀ i, i < m → TwH U (G i) (R i).n (R i).T
  b : Below w.heap.size w U
/-- .. the plain form's box, the document's. -/
structure M3 (w : World) (A : Option Addr) (m c : Nat) (R : Nat → Rw) (g5 : Nat) (A1 : Option Addr) (c1 : Nat) (G : Nat → Nat) (g6 : Nat) (A6 : Option Addr) (c6 k g7 : Nat) (A7 : Option Addr) (c7 : Nat) (Q : Nat → Rw) (U : World) : Prop where
  m : M1 w A m c R g5 A1 c1 G U
  x6 : Blk U g6 24 #[.slice A6 k c6]
  x7 : Blk U g7 31 #[.slice A7 k c7]
  r7 : U.ownsRow 0 61 57 (.slice A7 k c7) k (flL (fun i => (Q i).l) k)
  q7 : OwnTs U k Q
section
variable {w U V : World} {A A1 A6 A7 : Option Addr} {m c g5 c1 g6 c6 k g7 c7 lo hi : Nat} {R Q : Nat → Rw} {G : Nat → Nat}
theorem M1.on (h : M1 w A m c R g5 A1 c1 G U) (b : Below U.heap.size U V) : M1 w A m c R g5 A1 c1 G V := ⟨h.x.on b, h.x5.on b, ownsF_on h.r5 b, fun i hi => (h.t5 i hi).on b, below_then h.b b⟩
theorem M1.outs (h : M1 w A m c R g5 A1 c1 G U) (b : KeptBut U V [69]) (o : Outs lo hi U V) (hw : w.heap.size ≤ lo) (hG : ∀ i, i < m → G i < lo) : M1 w A m c R g5 A1 c1 G V :=
  ⟨b _ _ _ (by decide) h.x, b _ _ _ (by decide) h.x5, ownsF_kept h.r5 b (by decide), fun i hi => (by
    obtain ⟨h1, h2⟩ := h.t5 i hi
    refine ⟨h1, ?_⟩
    rcases h2 with h2 | ⟨g, cap, cur, hv, hb', hh, r⟩
    · exact .inl h2
    · have e : G i = g := by injection hv with hv; injection hv with hv; injection hv
      exact .inr ⟨g, cap, cur, hv, hb', o.blk (t := 69) (cs := cur) hh (.inl (by rw [← e]; exact hG i hi)), r⟩), h.b.trans (o.1.mono hw)⟩
theorem M3.on (h : M3 w A m c R g5 A1 c1 G g6 A6 c6 k g7 A7 c7 Q U) (b : Below U.heap.size U V) : M3 w A m c R g5 A1 c1 G g6 A6 c6 k g7 A7 c7 Q V := ⟨h.m.on b, h.x6.on b, h.x7.on b, ownsF_on h.r7 b, h.q7.on b⟩
theorem M3.outs (h : M3 w A m c R g5 A1 c1 G g6 A6 c6 k g7 A7 c7 Q U) (b : KeptBut U V [69]) (o : Outs lo hi U V) (hw : w.heap.size ≤ lo) (hG : ∀ i, i < m → G i < lo) : M3 w A m c R g5 A1 c1 G g6 A6 c6 k g7 A7 c7 Q V :=
  ⟨h.m.outs b o hw hG, b _ _ _ (by decide) h.x6, b _ _ _ (by decide) h.x7, ownsF_kept h.r7 b (by decide), h.q7.kept b (by decide)⟩
theorem M1.left (h : M1 w A m c R g5 A1 c1 G U) : LiesF U U.heap.size A1 m 57 fun i => twl (R i) (G i) := owns_liesF (f := fun i => twl (R i) (G i)) (fun i => twl_len _ _) h.r5
theorem M1.twr (h : M1 w A m c R g5 A1 c1 G U) : LiesR U U.heap.size A1 m fun i => twr (R i) (G i) := ⟨h.left, fun i hi => (h.t5 i hi).lies⟩
theorem M3.ref (h : M3 w A m c R g5 A1 c1 G g6 A6 c6 k g7 A7 c7 Q U) : LiesR U U.heap.size A7 k Q := own_liesR h.r7 h.q7
end
/-- Of the plain form that is spoilt: its rows, what Spoil turns. -/
structure NT (w : World) (A : Option Addr) (hi G k : Nat) (X : Nat → Rw) (U : World) : Prop where
  b : Blk U G 54 (flL (fun i => (X i).l) k).toArray
  s : ∀ i, i < k → SpB U (G + 1) hi (X i).A (X i).n (X i).p
theorem NT.on {w : World} {A : Option Addr} {hi G k : Nat} {X : Nat → Rw} {U V : World} (h : NT w A hi G k X U) (b : Below U.heap.size U V) : NT w A hi G k X V := ⟨h.b.on b, fun i hi => (h.s i hi).on b⟩
set_option maxRecDepth 100000 in
theorem built_rword (A : Option Addr) (n p : Nat) : (Try.prog).built 31 [(0, .slice A n p)] = some #[.slice A n p] := by kernel_rfl
set_option maxRecDepth 100000 in
set_option maxHeartbeats 8000000 in
theorem wordsNorm_walk (N : Int) (A : Option Addr) (m c : Nat) (R : Nat → Rw) (w : World) (hR : LiesR w w.heap.size A m R) (hm : m ≤ 1099511627776) (hRn : ∀ i, i < m → (R i).n ≤ 1099511627776) :
    Calls Try.prog 3 #[.int .i64 N, .agg #[.slice A m c]] w fun e w' => e = .returned (.bool true) ∧ Below w.heap.size w w' := by
  have HR := Lib.hid hR
  have HGR : Hid (∀ u, Below w.heap.size w u → Calls Try.prog 11 #[.agg #[.slice A m c]] u fun e w' => RetG (fun g => g = false → m ≤ 800 ∧ ∀ i, i < m → (R i).n ≤ 800) e ∧ Below u.heap.size u w') := Lib.hid (fun u hu => great2_is A m c R u (HR.out.on hu) hm hRn)
  clear hR hm hRn
  go_enter Try.func3, Try.ntmps3
  go_upto_region 1 with fail
  refine wp_at (fun U => Blk U w.heap.size 24 #[.slice A m c] ∧ Below w.heap.size w U) ⟨Blk.new w _ _, below_al (Below.refl _ w) _⟩ ?_
  rintro U ⟨h1, h2⟩
  have c0 : U.cell? ⟨w.heap.size, 0, none⟩ = some (.slice A m c) := h1.cell 0
  have l0 := h1.lt
  have HX := Lib.hid h1
  have HB := Lib.hid h2
  clear h1 h2
  go_upto_region 3 with (first
    | (go_at_call 11; (with_reducible refine (HGR.out _ HB.out).mono ?_); rintro e w1 ⟨⟨g, rfl, hg⟩, b1⟩; have HG := Lib.hid hg; have HB1 := Lib.hid b1; clear b1 hg)
    | (go_at_call 12; (with_reducible refine (lives_wd _).mono ?_); rintro e w7 ⟨rfl, b7⟩))
  any_goals (go_ret; exact ⟨rfl, below_then (below_then HB.out HB1.out) b7⟩)
  obtain ⟨hm, hRn⟩ := HG.out (by first | rfl | assumption)
  refine wp_at (fun U => Blk U w.heap.size 24 #[.slice A m c] ∧ Below w.heap.size w U) ⟨HX.out.on HB1.out, below_then HB.out HB1.out⟩ ?_
  clear HX HB c0 l0 HB1 HG HGR
  rintro V ⟨h1, h2⟩
  have c0 : V.cell? ⟨w.heap.size, 0, none⟩ = some (.slice A m c) := h1.cell 0
  have l0 := h1.lt
  have HX := Lib.hid h1
  have HB := Lib.hid h2
  have HRN : Hid (∀ i, i < m → (R i).n ≤ 65536) := Lib.hid (fun i hi => by have := hRn i hi; omega)
  have HM : Hid (m ≤ 65536) := Lib.hid (by omega)
  have HTW := Lib.hid (twinword_is A m c HM.out R HRN.out V (HR.out.on h2))
  clear h1 h2 hRn hm
  go_upto_region 4 with (go_at_call 13; (with_reducible refine HTW.out.mono ?_); rintro e w2 ⟨A1, c1, G, rfl, q1, q2, q3⟩; have HQ1 := Lib.hid q1; have HQ2 := Lib.hid q2; have HQ3 := Lib.hid q3; clear q1 q2 q3)
  have hal := below_al (Below.refl w2.heap.size w2) (.cells #[.slice A1 m c1] 24)
  refine wp_at (M1 w A m c R w2.heap.size A1 c1 G) ⟨(HX.out.on HQ3.out).alloc _, Blk.new w2 _ _, ownsF_mono (ownsF_on HQ1.out hal) (Nat.zero_le _), fun i hi => (HQ2.out i hi).1.on hal, below_al (below_then HB.out HQ3.out) _⟩ ?_
  obtain ⟨g5, hg5⟩ : ∃ g5, g5 = w2.heap.size := ⟨_, rfl⟩
  rw [← hg5]
  clear hal HX HB c0 l0 HTW HQ1 HQ2 HQ3 hg5
  intro X hX
  have c5 : X.cell? ⟨g5, 0, none⟩ = some (.slice A1 m c1) := hX.x5.cell 0
  have l5 := hX.x5.lt
  have HX := Lib.hid hX
  obtain ⟨r, hr⟩ : ∃ r, r = rN N R m := ⟨_, rfl⟩
  have HRR := Lib.hid hr
  have HNT : Hid (∀ u, M1 w A m c R g5 A1 c1 G u → Calls Try.prog 14 #[.int .i64 N, .agg #[.slice A1 m c1]] u fun e w' => ∃ (A' : Option Addr) (c' : Nat), e = .returned (.agg #[.slice A' (kN N) c']) ∧ NO w' u.heap.size A' (kN N) r ∧ Below u.heap.size u w') := Lib.hid (fun u hu => by
    have := norm_all N A1 m c1 _ u hu.twr
    rwa [rN_same N (R := R) (Q := fun i => twr (R i) (G i)) (fun i hi => rfl), ← HRR.out] at this)
  clear hX hr
  go_upto_region 5 with (go_at_call 14; (with_reducible refine (HNT.out _ HX.out).mono ?_); rintro e w3 ⟨A6, c6, rfl, q1, q2⟩; have HQ1 := Lib.hid q1; have HQ2 := Lib.hid q2; clear q1 q2)
  have hal := below_al (Below.refl w3.heap.size w3) (.cells #[.slice A6 (kN N) c6] 24)
  have HGL : Hid (∀ i, i < m → G i < X.heap.size) := Lib.hid (fun i hi => (HX.out.t5 i hi).lt)
  have HXS : Hid (w.heap.size ≤ X.heap.size) := Lib.hid HX.out.b.size
  obtain ⟨lo6, hlo6⟩ : ∃ l, l = X.heap.size := ⟨_, rfl⟩
  obtain ⟨hi6, hhi6⟩ : ∃ l, l = w3.heap.size := ⟨_, rfl⟩
  rw [← hlo6] at HQ1 HGL HXS
  refine wp_at (fun U => M1 w A m c R g5 A1 c1 G U ∧ Blk U w3.heap.size 24 #[.slice A6 (kN N) c6] ∧ (0 < kN N → ∃ (G6 : Nat) (X6 : Nat → Rw), A6 = some ⟨G6, 0, none⟩ ∧ lo6 ≤ G6 ∧ G6 < hi6 ∧ LiesR U U.heap.size A6 (kN N) X6 ∧ (∀ i, i < kN N → (X6 i).ro = r i) ∧ NT w A6 hi6 G6 (kN N) X6 U) ∧ hi6 ≤ U.heap.size) ⟨(HX.out.on HQ2.out).on hal, Blk.new w3 _ _, (fun h0 => by
    obtain ⟨G6, X6, rfl, hx⟩ := HQ1.out.x h0
    exact ⟨G6, X6, rfl, hx.lo, by rw [hhi6]; exact hx.b.lt, hx.lies.on hal, hx.o, ⟨hx.b.on hal, fun i hi => by rw [hhi6]; exact (hx.s i hi).on hal⟩⟩), by rw [hhi6]; exact hal.size⟩ ?_
  obtain ⟨g6, hg6⟩ : ∃ g6, g6 = w3.heap.size := ⟨_, rfl⟩
  rw [← hg6]
  clear hal HX c5 l5 HQ1 HQ2 hg6 hlo6 hhi6
  rintro Y ⟨y1, y2, y3, y4⟩
  have c0 : Y.cell? ⟨w.heap.size, 0, none⟩ = some (.slice A m c) := y1.x.cell 0
  have l0 := y1.x.lt
  have HY1 := Lib.hid y1
  have HY2 := Lib.hid y2
  have HY3 := Lib.hid y3
  have HY4 := Lib.hid y4
  have HOT := Lib.hid (others_is A m c HM.out R HRN.out Y (HR.out.on y1.b))
  have HRN2 : Hid (∀ (u : World) (A' : Option Addr) (c' : Nat) (Q : Nat → Rw), LiesR u u.heap.size A' m Q → (∀ i, i < m → (Q i).ro = (R i).ro) → Calls Try.prog 15 #[.int .i64 N, .agg #[.slice A' m c']] u fun e w' => ∃ (A7 : Option Addr) (c7 : Nat) (Q7 : Nat → Rw), e = .returned (.agg #[.slice A7 (kN N) c7]) ∧ w'.ownsRow 0 61 57 (.slice A7 (kN N) c7) (kN N) (flL (fun i => (Q7 i).l) (kN N)) ∧ OwnTs w' (kN N) Q7 ∧ (∀ i, i < kN N → (Q7 i).ro = r i) ∧ Below u.heap.size u w') := Lib.hid (fun u A' c' Q h1 h2 => by
    have := rnorm_all N A' m c' HM.out Q (fun i hi => by rw [show (Q i).n = (R i).n from congrArg Ro.n (h2 i hi)]; exact HRN.out i hi) u h1
    rwa [rN_same N h2, ← HRR.out] at this)
  clear y1 y2 y3 y4
  go_upto_region 6 with (first
    | (go_at_call 16; (with_reducible refine HOT.out.mono ?_); rintro e w4 ⟨Ao, co, Qo, rfl, q1, q2, q3, q4⟩; have HQ1 := Lib.hid (own_liesR q1 q2); have HQ3 := Lib.hid q3; have HQ4 := Lib.hid q4; clear q1 q2 q3 q4)
    | (refine wpList_build rfl 31 _ rfl #[.slice Ao m co] (by simpa [Act.eval, Act.put] using built_rword Ao m co) ?_)
    | (go_at_call 15; (with_reducible refine (HRN2.out _ _ _ _ HQ1.out HQ3.out).mono ?_); rintro e w5 ⟨A7, c7, Q, rfl, p1, p2, p3, p4⟩; have HP1 := Lib.hid p1; have HP2 := Lib.hid p2; have HP3 := Lib.hid p3; have HP4 := Lib.hid p4; clear p1 p2 p3 p4))
  have hal := below_al (Below.refl w5.heap.size w5) (.cells #[.slice A7 (kN N) c7] 31)
  have hY5 : Below Y.heap.size Y w5 := HQ4.out.trans (HP4.out.mono HQ4.out.size)
  refine wp_at (fun U => M3 w A m c R g5 A1 c1 G g6 A6 c6 (kN N) w5.heap.size A7 c7 Q U ∧ (0 < kN N → ∃ (G6 : Nat) (X6 : Nat → Rw), A6 = some ⟨G6, 0, none⟩ ∧ lo6 ≤ G6 ∧ G6 < hi6 ∧ LiesR U U.heap.size A6 (kN N) X6 ∧ (∀ i, i < kN N → (X6 i).ro = r i) ∧ NT w A6 hi6 G6 (kN N) X6 U) ∧ hi6 ≤ U.heap.size) ⟨⟨(HY1.out.on hY5).on hal, (HY2.out.on hY5).alloc _, Blk.new w5 _ _, ownsF_on HP1.out hal, HP2.out.on hal⟩, (fun h0 => by
    obtain ⟨G6, X6, e1, e2, e3, e4, e5, e6⟩ := HY3.out h0
    exact ⟨G6, X6, e1, e2, e3, (e4.on hY5).on hal, e5, (e6.on hY5).on hal⟩), by have := HY4.out; have h1 := hY5.size; have h2 := hal.size; omega⟩ ?_
  obtain ⟨g7, hg7⟩ : ∃ g7, g7 = w5.heap.size := ⟨_, rfl⟩
  rw [← hg7]
  clear hal hY5 c0 l0 HY1 HY2 HY3 HY4 HQ1 HQ3 HQ4 HP1 HP2 HP4 hg7 HOT HRN2
  rintro Z ⟨z1, z2, z3⟩
  have c6' : Z.cell? ⟨g6, 0, none⟩ = some (.slice A6 (kN N) c6) := z1.x6.cell 0
  have c7' : Z.cell? ⟨g7, 0, none⟩ = some (.slice A7 (kN N) c7) := z1.x7.cell 0
  have l6 := z1.x6.lt
  have l7 := z1.x7.lt
  have HZ1 := Lib.hid z1
  have HZ3 := Lib.hid z3
  have HK : Hid (kN N ≤ 16) := Lib.hid (kN_le N)
  obtain ⟨k, hk⟩ : ∃ k, k = kN N := ⟨_, rfl⟩
  have HKK := Lib.hid hk
  rw [← hk] at z1 z2 c6' c7' HZ1 HK HP3 HNT ⊢
  obtain ⟨G6, X6, HA6, HX6, HO6, HT6⟩ : ∃ (G6 : Nat) (X6 : Nat → Rw), Hid (0 < k → A6 = some ⟨G6, 0, none⟩ ∧ lo6 ≤ G6 ∧ G6 < hi6) ∧ Hid (LiesR Z Z.heap.size A6 k X6) ∧ Hid (∀ i, i < k → (X6 i).ro = r i) ∧ Hid (0 < k → NT w A6 hi6 G6 k X6 Z) := by
    rcases Nat.eq_zero_or_pos k with h0 | h0
    · refine ⟨0, fun _ => rwN, Lib.hid (fun h => absurd h (by omega)), Lib.hid ⟨fun h => absurd h (by omega), fun i hi => absurd hi (by omega)⟩, Lib.hid (fun i hi => absurd hi (by omega)), Lib.hid (fun h => absurd h (by omega))⟩
    · obtain ⟨G6, X6, e1, e2, e3, e4, e5, e6⟩ := z2 h0
      exact ⟨G6, X6, Lib.hid (fun _ => ⟨e1, e2, e3⟩), Lib.hid e4, Lib.hid e5, Lib.hid (fun _ => e6)⟩
  have HRK : Hid (∀ i, i < k → (r i).n ≤ 65536) := Lib.hid (fun i hi => by
    have hb : nmB N = true := by
      cases h : nmB N
      · have : kN N = 0 := by unfold kN; rw [h]; rfl
        omega
      · rfl
    rw [HRR.out]
    exact rN_n N hb R m i)
  have HN6 : Hid (∀ i, i < k → (X6 i).n ≤ 65536) := Lib.hid (fun i hi => by rw [show (X6 i).n = (r i).n from congrArg Ro.n (HO6.out i hi)]; exact HRK.out i hi)
  have HSA : Hid (∀ (u : World) (B : Option Addr) (X : Nat → Rw) (d : Nat), LiesR u u.heap.size B k X → (∀ i, i < k → (X i).ro = r i) → LiesR u u.heap.size A7 k Q → Calls Try.prog 17 #[.slice B k d, .slice A7 k c7] u fun e w' => e = .returned (.bool true) ∧ Below u.heap.size u w') := Lib.hid (fun u B X d h1 h2 h3 => sameall_is B A7 k d c7 (by have := HK.out; omega) X Q (fun i hi => by rw [show (X i).n = (r i).n from congrArg Ro.n (h2 i hi)]; exact HRK.out i hi) (fun i hi => by rw [h2 i hi, HP3.out i hi]) u h1 h3)
  have HLW : Hid (∀ u, M1 w A m c R g5 A1 c1 G u → Calls Try.prog 18 #[.agg #[.slice A1 m c1], .agg #[.slice A m c]] u fun e w' => e = .returned (.bool true) ∧ Below u.heap.size u w') := Lib.hid (fun u h => leftword_is A A1 m c c1 HM.out R G HRN.out u (HR.out.on h.b) h.left h.t5)
  clear z1 z2 z3 hk
  go_upto_region 8 with (first
    | (go_at_call 17; (with_reducible refine (HSA.out _ _ X6 _ HX6.out HO6.out HZ1.out.ref).mono ?_); rintro e w6 ⟨rfl, q1⟩; have HQ1 := Lib.hid q1; have h6 := HZ1.out.on q1; have c5 : w6.cell? ⟨g5, 0, none⟩ = some (.slice A1 m c1) := h6.m.x5.cell 0; have c0 : w6.cell? ⟨w.heap.size, 0, none⟩ = some (.slice A m c) := h6.m.x.cell 0; have l5 := h6.m.x5.lt; have l0 := h6.m.x.lt; have H6 := Lib.hid h6; clear h6 q1)
    | (go_at_call 18; (with_reducible refine (HLW.out _ H6.out.m).mono ?_); rintro e w7 ⟨rfl, q2⟩; have HQ2 := Lib.hid q2; clear q2))
  have h67 : Below Z.heap.size Z w7 := HQ1.out.trans (HQ2.out.mono HQ1.out.size)
  refine wp_at (fun U => M3 w A m c R g5 A1 c1 G g6 A6 c6 k g7 A7 c7 Q U ∧ (0 < k → NT w A6 hi6 G6 k X6 U) ∧ hi6 ≤ U.heap.size) ⟨HZ1.out.on h67, fun h0 => (HT6.out h0).on h67, by have := HZ3.out; have := h67.size; omega⟩ ?_
  clear h67 HZ1 HZ3 HQ1 HQ2 H6 c0 c5 c6' c7' l0 l5 l6 l7 HX6 HO6 HT6
  rintro D ⟨d1, d2, d3⟩
  have c5 : D.cell? ⟨g5, 0, none⟩ = some (.slice A1 m c1) := d1.m.x5.cell 0
  have l5 := d1.m.x5.lt
  have HD1 := Lib.hid d1
  have HD2 := Lib.hid d2
  have HD3 := Lib.hid d3
  clear d1 d2 d3
  go_upto_region 9 with (go_at_call 14; (with_reducible refine (HNT.out _ HD1.out.m).mono ?_); rintro e w8 ⟨A8, c8, rfl, q1, q2⟩; have HQ1 := Lib.hid q1; have HQ2 := Lib.hid q2; clear q1 q2)
  have hal := below_al (Below.refl w8.heap.size w8) (.cells #[.slice A8 k c8] 24)
  refine wp_at (fun U => M3 w A m c R g5 A1 c1 G g6 A6 c6 k g7 A7 c7 Q U ∧ (0 < k → NT w A6 hi6 G6 k X6 U) ∧ Blk U w8.heap.size 24 #[.slice A8 k c8] ∧ NO U hi6 A8 k r ∧ hi6 ≤ U.heap.size) ⟨(HD1.out.on HQ2.out).on hal, fun h0 => ((HD2.out h0).on HQ2.out).on hal, Blk.new w8 _ _, (fun h0 => by
    obtain ⟨Gc, Lc, e1, e2, e3, e4, e5⟩ := HQ1.out h0
    exact ⟨Gc, Lc, e1, by have := HD3.out; omega, e3, e4.on hal, fun i hi => (e5 i hi).on hal⟩), by have := HD3.out; have := HQ2.out.size; have := hal.size; omega⟩ ?_
  obtain ⟨g8, hg8⟩ : ∃ g8, g8 = w8.heap.size := ⟨_, rfl⟩
  rw [← hg8]
  clear hal c5 l5 HD1 HD2 HD3 HQ1 HQ2 hg8 HNT
  rintro E ⟨e1, e2, e3, e4, e5⟩
  have HE1 := Lib.hid e1
  have HE2 := Lib.hid e2
  have HE3 := Lib.hid e3
  have HE4 := Lib.hid e4
  have HE5 := Lib.hid e5
  have c6' : E.cell? ⟨g6, 0, none⟩ = some (.slice A6 k c6) := e1.x6.cell 0
  have l6 := e1.x6.lt
  clear e1 e2 e3 e4 e5
  have hk16 : k ≤ 16 := HK.out
  go_wp2_with fail
  go_loopw [9] (fun s wr => ∃ i : Nat, i ≤ k ∧ s = .int .i64 (i : Int) ∧ Hid (M3 w A m c R g5 A1 c1 G g6 A6 c6 k g7 A7 c7 Q wr) ∧ Hid (0 < k → NT w A6 hi6 G6 k X6 wr) ∧ Hid (Blk wr g8 24 #[.slice A8 k c8]) ∧ Hid (NO wr hi6 A8 k r) ∧ Hid (hi6 ≤ wr.heap.size)) (fun s _ => k - (intOf s).toNat)
  case atStart => exact ⟨0, by omega, rfl, HE1, HE2, HE3, HE4, HE5⟩
  case round =>
    clear HE1 HE2 HE3 HE4 HE5 c6' l6
    obtain ⟨i, hi, rfl, H1, H2, H3, H4, H5⟩ := hrel
    have c6' : wr.cell? ⟨g6, 0, none⟩ = some (.slice A6 k c6) := H1.out.x6.cell 0
    have l6 := H1.out.x6.lt
    by_cases hlt : i < k
    · obtain ⟨hA6, hlo, hhi⟩ := HA6.out (by omega)
      have hnt := H2.out (by omega)
      have hix := fun W => idxRows (A := A6) (n := k) c6 hA6 hlt W
      simp only [Nat.zero_add] at hix
      have HRG : Hid (wr.rangeAt G6 (i * 57) (X6 i).l) := Lib.hid (fun j v hv => by
        have hj : j < 57 := by have := (List.getElem?_eq_some_iff.1 hv).1; rwa [Rw.l_len] at this
        rw [hnt.b.cell, List.getElem?_toArray, flL_get (f := fun i => (X6 i).l) (m := 57) (fun i => Rw.l_len _) hlt j hj]
        exact hv)
      have HXN : Hid ((X6 i).n ≤ 65536) := Lib.hid (by
        rcases hnt.s i hlt with ⟨_, h, _⟩ | ⟨g, _, _, _, _, L, h1, h2⟩
        · omega
        · exact HN6.out i hlt)
      have HSP := Lib.hid (spoil_out (X6 i).b (X6 i).c (X6 i).A (X6 i).n (X6 i).p (G6 + 1) hi6 HXN.out wr (hnt.s i hlt) (by have := hnt.b.lt; omega))
      have HNT := Lib.hid hnt
      have HG6 := Lib.hid hlo
      have HH6 := Lib.hid hhi
      have HSP2 : Hid (Calls Try.prog 19 #[.agg (X6 i).l.toArray] wr fun e w' => e = .returned (.tuple #[]) ∧ Outs (G6 + 1) hi6 wr w' ∧ KeptBut wr w' [69] ∧ ∀ B m q, SpB wr (G6 + 1) hi6 B m q → SpB w' (G6 + 1) hi6 B m q) := Lib.hid HSP.out
      clear hnt hlo hhi HSP hA6
      go_wp2_with (first
        | (refine wpList_load_mid rfl 54 (.tmp 49) rfl G6 (i * 57) (by simp [Act.eval, Act.put]) (X6 i).l _ HRG.out Try.underlying54 rfl (by rw [size_row, Rw.l_len]) ?_)
        | (go_at_call 19; (with_reducible refine HSP2.out.mono ?_); rintro e w9 ⟨rfl, q1, q2, q3⟩; have HQ1 := Lib.hid q1; have HQ2 := Lib.hid q2; have HQ3 := Lib.hid q3; clear q1 q2 q3))
      go_roundw
      case rel =>
        have hz := HQ1.out.1.size
        refine ⟨i + 1, by omega, by go_num, Lib.hid (H1.out.outs HQ2.out HQ1.out (by have := HXS.out; have := HG6.out; omega) (fun j hj => by have := HGL.out j hj; have := HG6.out; omega)), Lib.hid (fun _ => ⟨HQ2.out _ _ _ (by decide) HNT.out.b, fun j hj => HQ3.out _ _ _ (HNT.out.s j hj)⟩), Lib.hid (HQ2.out _ _ _ (by decide) H3.out), Lib.hid (H4.out.outs HQ1.out (Nat.le_refl _)), Lib.hid (by have := H5.out; omega)⟩
      case measure => simp [intOf]; omega
    · obtain rfl : i = k := by omega
      have c8' : wr.cell? ⟨g8, 0, none⟩ = some (.slice A8 i c8) := H3.out.cell 0
      have c7' : wr.cell? ⟨g7, 0, none⟩ = some (.slice A7 i c7) := H1.out.x7.cell 0
      have l8 := H3.out.lt
      have l7 := H1.out.x7.lt
      obtain ⟨X8, x1, x2⟩ := H4.out.lies
      have HX1 := Lib.hid x1
      have HX2 := Lib.hid x2
      clear x1 x2
      go_wp2_with (first
        | (go_at_call 17; (with_reducible refine (HSA.out _ _ X8 _ HX1.out HX2.out H1.out.ref).mono ?_); rintro e v6 ⟨rfl, q1⟩; have h6 := H1.out.on q1; have c5 : v6.cell? ⟨g5, 0, none⟩ = some (.slice A1 m c1) := h6.m.x5.cell 0; have c0 : v6.cell? ⟨w.heap.size, 0, none⟩ = some (.slice A m c) := h6.m.x.cell 0; have l5 := h6.m.x5.lt; have l0 := h6.m.x.lt; have H6 := Lib.hid h6; clear h6 q1)
        | (go_at_call 18; (with_reducible refine (HLW.out _ H6.out.m).mono ?_); rintro e v7 ⟨rfl, q2⟩; have HQ2 := Lib.hid q2; clear q2)
        | (go_at_call 12; (with_reducible refine (lives_wd _).mono ?_); rintro e v8 ⟨rfl, q3⟩; have HQ3 := Lib.hid q3; clear q3))
      go_ret
      exact ⟨rfl, below_then (below_then H6.out.m.b HQ2.out) HQ3.out⟩
end Go.Proofs.Ytmmgbhdjjejacaa

