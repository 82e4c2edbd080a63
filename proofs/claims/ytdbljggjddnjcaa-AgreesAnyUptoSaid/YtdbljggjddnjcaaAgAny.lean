/-
  The walk of the law AgreesAny: it returns true, and nothing that was there has turned. Conditions: the rows' reading, their lengths, the ranges of their cells' numbers.
-/
import Derived.Test.YtdbljggjddnjcaaAgR3
import Derived.Test.YtdbljggjddnjcaaAgR4
import Derived.Test.YtdbljggjddnjcaaOpenAg
import Derived.Test.YtdbljggjddnjcaaAg6
import Derived.Test.YtdbljggjddnjcaaAg7
namespace Go.Proofs.Ytdbljggjddnjcaa
open Go.RowKit
set_option linter.unusedVariables false
set_option linter.unusedSimpArgs false

/-- All blocks but those from lo to hi stay. -/
def OutA (lo hi : Nat) (w w' : World) : Prop := Below lo w w' ∧ ∀ b, b < w.heap.size → b < lo ∨ hi ≤ b → w'.heap[b]? = w.heap[b]?
theorem OutA.blk {lo hi : Nat} {w w' : World} (h : OutA lo hi w w') {g : Nat} {t : TypeId} {cs : Array Value} (hB : Blk w g t cs) (hg : g < lo ∨ hi ≤ g) : Blk w' g t cs := (h.2 g hB.lt hg).trans hB
/-- A vector that was handed out. -/
def Vec (w : World) (lo hi : Nat) (A : Option Addr) (n p : Nat) (T : Nat → He) : Prop := (A = none ∧ n = 0 ∧ p = 0) ∨ ∃ g, A = some ⟨g, 0, none⟩ ∧ p = n ∧ lo ≤ g ∧ g < hi ∧ Blk w g 118 (hesL T n).toArray
section
variable {w w' : World} {lo hi l h n p : Nat} {A : Option Addr} {T : Nat → He}
theorem Vec.on (k : Vec w lo hi A n p T) (b : Below w.heap.size w w') : Vec w' lo hi A n p T := by
  rcases k with k | ⟨g, h1, h2, h3, h4, h5⟩
  · exact .inl k
  · exact .inr ⟨g, h1, h2, h3, h4, h5.on b⟩
theorem Vec.out (k : Vec w lo hi A n p T) (b : OutA l h w w') (hl : h ≤ lo) : Vec w' lo hi A n p T := by
  rcases k with k | ⟨g, h1, h2, h3, h4, h5⟩
  · exact .inl k
  · exact .inr ⟨g, h1, h2, h3, h4, b.blk h5 (.inr (by omega))⟩
theorem Vec.mono (k : Vec w lo hi A n p T) (hl : l ≤ lo) (hh : hi ≤ h) : Vec w l h A n p T := by
  rcases k with k | ⟨g, h1, h2, h3, h4, h5⟩
  · exact .inl k
  · exact .inr ⟨g, h1, h2, by omega, by omega, h5⟩
theorem Vec.lies (k : Vec w lo hi A n p T) : LiesH w w.heap.size A n T := by
  rcases k with ⟨h1, h2, h3⟩ | ⟨g, h1, h2, h3, h4, h5⟩
  · intro h0; omega
  · rw [h1]; exact h5.liesH_
end
theorem spoil_vec (lo hi : Nat) (A : Option Addr) (n p : Nat) (T : Nat → He) (hn : n ≤ 65536) (w : World) (h : Vec w lo hi A n p T) (hl : lo ≤ w.heap.size) :
    Calls Try.prog 45 #[.slice A n p] w fun e w' => e = .returned (.tuple #[]) ∧ OutA lo hi w w' ∧ KeptBut w w' [118] := by
  rcases h with ⟨rfl, rfl, rfl⟩ | ⟨g, rfl, rfl, h3, h4, h5⟩
  · exact (spoil15_none w).mono fun e w' ⟨h1, h2⟩ => ⟨h1, ⟨h2.mono hl, fun b hb _ => h2.block b hb⟩, fun g t cs _ hB => hB.on h2⟩
  · exact (spoil15_is g _ hn T w h5).mono fun e w' ⟨h1, h2⟩ => ⟨h1, ⟨h2.low h3, fun b hb hne => h2.2 b hb (by omega)⟩, h2.kept h5⟩
/-- How many are agreed on. -/
def kA (N : Int) : Nat := if 4 ≤ N ∧ N ≤ 16 then N.toNat else 0
theorem kA_le (N : Int) : kA N ≤ 16 := by
  unfold kA
  split <;> omega
def vecA (N : Int) (R : Nat → Rw) (m s : Nat) : He := agM N.toNat s (fun j => (R j).ro) (min N.toNat m)
theorem agree_vec (N : Int) (A : Option Addr) (m c : Nat) (hA : (A = none ∧ m = 0 ∧ c = 0) ∨ ∃ g o, A = some ⟨g, o, none⟩) (hmc : m ≤ c) (hm : m ≤ 65536) (R : Nat → Rw) (hRn : ∀ i, i < m → (R i).n ≤ 65536) (hW : ∀ i, i < m → ∀ s, CeW (tolM s (R i).ro).c) (w : World) (hR : LiesR w w.heap.size A m R) :
    Calls Try.prog 40 #[.int .i64 N, .slice A m c] w fun e w' => ∃ (A' : Option Addr) (c' : Nat), e = .returned (.slice A' (kA N) c') ∧ Vec w' w.heap.size w'.heap.size A' (kA N) c' (vecA N R m) ∧ Below w.heap.size w w' := by
  by_cases h : 4 ≤ N ∧ N ≤ 16
  · obtain ⟨n, rfl⟩ : ∃ n : Nat, N = (n : Int) := ⟨N.toNat, by omega⟩
    have e : kA (n : Int) = n := by unfold kA; rw [if_pos h]; rfl
    rw [e]
    refine (agree_is n (by omega) A m c (min n m) rfl hA hmc (by omega) R (fun k hk => by have := hRn k (by omega); omega) (fun s k _ hk => hW k (by omega) s) w hR).mono ?_
    rintro e w' ⟨h1, h2, h3⟩
    exact ⟨_, _, h1, .inr ⟨_, rfl, rfl, Nat.le_refl _, h2.lt, h2⟩, h3⟩
  · have e : kA N = 0 := by unfold kA; rw [if_neg h]
    rw [e]
    refine (agree_bad N (by omega) _ w).mono ?_
    rintro e w' ⟨h1, rfl⟩
    exact ⟨none, 0, h1, .inl ⟨rfl, rfl, rfl⟩, Below.refl _ _⟩
theorem hasM_congr {m s : Nat} {F G : Nat → Ro} (h : ∀ i, i < m → F i = G i) : hasM m s F = hasM m s G := by
  funext j
  unfold hasM
  split
  · rename_i hj
    rw [h j hj]
  · rfl
theorem ragree_vec (N : Int) (A : Option Addr) (m c : Nat) (hm : m ≤ 65536) (R Q : Nat → Rw) (hQ : ∀ i, i < m → (Q i).ro = (R i).ro) (hRn : ∀ i, i < m → (R i).n ≤ 65536) (w : World) (hR : LiesR w w.heap.size A m Q) :
    Calls Try.prog 43 #[.int .i64 N, .slice A m c] w fun e w' => ∃ (A' : Option Addr) (c' : Nat), e = .returned (.slice A' (kA N) c') ∧ w'.ownsRow 0 147 56 (.slice A' (kA N) c') (kA N) (hesL (vecA N R m) (kA N)) ∧ Below w.heap.size w w' := by
  by_cases h : 4 ≤ N ∧ N ≤ 16
  · obtain ⟨n, rfl⟩ : ∃ n : Nat, N = (n : Int) := ⟨N.toNat, by omega⟩
    have e : kA (n : Int) = n := by unfold kA; rw [if_pos h]; rfl
    rw [e]
    refine (ragree_is n (by omega) A m c hm Q (fun i hi => by rw [show (Q i).n = (R i).n from congrArg Ro.n (hQ i hi)]; exact hRn i hi) w hR).mono ?_
    rintro e w' ⟨A', c', h1, h2, h3⟩
    refine ⟨A', c', h1, ?_, h3⟩
    have := ownsF_mono h2 (Nat.zero_le _)
    rwa [hesL_congr (T' := vecA (n : Int) R m) (fun s hs => by
      rw [fnd_agM (by omega) hs]
      unfold vecA
      rw [show ((n : Int)).toNat = n from rfl]
      exact agM_congr (fun k hk _ => by rw [hQ k (by omega)]))] at this
  · have e : kA N = 0 := by unfold kA; rw [if_neg h]
    rw [e]
    refine (ragree_bad N (by omega) _ w).mono ?_
    rintro e w' ⟨h1, rfl⟩
    exact ⟨none, 0, h1, ownsF_nil, Below.refl _ _⟩
theorem table_vec (A : Option Addr) (m c : Nat) (hm : m ≤ 65536) (R : Nat → Rw) (w : World) (hR : LiesR w w.heap.size A m R) :
    Calls Try.prog 39 #[.slice A m c] w fun e w' => ∃ (A' : Option Addr) (c' : Nat), e = .returned (.slice A' m c') ∧ Vec w' w.heap.size w'.heap.size A' m c' (fun i => tblM (R i).ro) ∧ Below w.heap.size w w' :=
  (table_is A m c hm R w hR).mono fun e w' ⟨h1, h2, h3⟩ => ⟨_, _, h1, .inr ⟨_, rfl, rfl, Nat.le_refl _, h2.lt, h2⟩, h3⟩
theorem rtable_vec (A : Option Addr) (m c : Nat) (hm : m ≤ 65536) (R Q : Nat → Rw) (hQ : ∀ i, i < m → (Q i).ro = (R i).ro) (w : World) (hR : LiesR w w.heap.size A m Q) :
    Calls Try.prog 41 #[.slice A m c] w fun e w' => ∃ (A' : Option Addr) (c' : Nat), e = .returned (.slice A' m c') ∧ w'.ownsRow 0 147 56 (.slice A' m c') m (hesL (fun i => tblM (R i).ro) m) ∧ Below w.heap.size w w' :=
  (rtable_is A m c hm Q w hR).mono fun e w' ⟨A', c', h1, h2, h3⟩ => ⟨A', c', h1, by
    have := ownsF_mono h2 (Nat.zero_le _)
    rwa [hesL_congr (T' := fun i => tblM (R i).ro) (fun i hi => by show tblM (Q i).ro = tblM (R i).ro; rw [hQ i hi])] at this, h3⟩
theorem owns_vec {w : World} {A : Option Addr} {n c : Nat} {T : Nat → He} (h : w.ownsRow 0 147 56 (.slice A n c) n (hesL T n)) : LiesH w w.heap.size A n T := owns_liesF (f := fun i => heL (T i)) (fun i => heL_len _) h
/-- The rows' twins. -/
structure N1 (w : World) (m : Nat) (R : Nat → Rw) (A1 : Option Addr) (c1 : Nat) (G : Nat → Nat) (U : World) : Prop where
  r5 : U.ownsRow 0 54 57 (.slice A1 m c1) m (flL (fun i => twl (R i) (G i)) m)
  t5 : ∀ i, i < m → TwH U (G i) (R i).n (R i).T
  b : Below w.heap.size w U
/-- .. both vectors of the program's, of the document's. -/
structure N3 (w : World) (m : Nat) (R : Nat → Rw) (A1 : Option Addr) (c1 : Nat) (G : Nat → Nat) (k : Nat) (Ta Tb : Nat → He) (A8 : Option Addr) (c8 : Nat) (A9 : Option Addr) (c9 : Nat) (U : World) : Prop where
  n : N1 w m R A1 c1 G U
  x : U.ownsRow 0 147 56 (.slice A8 m c8) m (hesL Ta m)
  y : U.ownsRow 0 147 56 (.slice A9 k c9) k (hesL Tb k)
section
variable {w U V : World} {A1 A8 A9 : Option Addr} {m c1 k c8 c9 lo hi : Nat} {R : Nat → Rw} {G : Nat → Nat} {Ta Tb : Nat → He}
theorem N1.on (h : N1 w m R A1 c1 G U) (b : Below U.heap.size U V) : N1 w m R A1 c1 G V := ⟨ownsF_on h.r5 b, fun i hi => (h.t5 i hi).on b, below_then h.b b⟩
theorem N1.outs (h : N1 w m R A1 c1 G U) (b : KeptBut U V [118]) (o : OutA lo hi U V) (hw : w.heap.size ≤ lo) (hG : ∀ i, i < m → G i < lo) : N1 w m R A1 c1 G V :=
  ⟨ownsF_kept h.r5 b (by decide), fun i hi => (by
    obtain ⟨h1, h2⟩ := h.t5 i hi
    refine ⟨h1, ?_⟩
    rcases h2 with h2 | ⟨g, cap, cur, hv, hb', hh, r⟩
    · exact .inl h2
    · have e : G i = g := by injection hv with hv; injection hv with hv; injection hv
      exact .inr ⟨g, cap, cur, hv, hb', o.blk (t := 118) (cs := cur) hh (.inl (by rw [← e]; exact hG i hi)), r⟩), h.b.trans (o.1.mono hw)⟩
theorem N1.left (h : N1 w m R A1 c1 G U) : LiesF U U.heap.size A1 m 57 fun i => twl (R i) (G i) := owns_liesF (f := fun i => twl (R i) (G i)) (fun i => twl_len _ _) h.r5
theorem N1.twr (h : N1 w m R A1 c1 G U) : LiesR U U.heap.size A1 m fun i => twr (R i) (G i) := ⟨h.left, fun i hi => (h.t5 i hi).lies⟩
theorem N1.some (h : N1 w m R A1 c1 G U) : ((A1 = none ∧ m = 0 ∧ c1 = 0) ∨ ∃ g o, A1 = some ⟨g, o, none⟩) ∧ m ≤ c1 := by
  rcases h.r5.2 with ⟨hv, h0⟩ | ⟨g, cap, cur, hv, _, _, hc, _⟩
  · injection hv with h1 h2 h3
    exact ⟨.inl ⟨h1, h2, h3⟩, by omega⟩
  · injection hv with h1 h2 h3
    exact ⟨.inr ⟨g, 0, h1⟩, by omega⟩
theorem N3.on (h : N3 w m R A1 c1 G k Ta Tb A8 c8 A9 c9 U) (b : Below U.heap.size U V) : N3 w m R A1 c1 G k Ta Tb A8 c8 A9 c9 V := ⟨h.n.on b, ownsF_on h.x b, ownsF_on h.y b⟩
theorem N3.outs (h : N3 w m R A1 c1 G k Ta Tb A8 c8 A9 c9 U) (b : KeptBut U V [118]) (o : OutA lo hi U V) (hw : w.heap.size ≤ lo) (hG : ∀ i, i < m → G i < lo) : N3 w m R A1 c1 G k Ta Tb A8 c8 A9 c9 V :=
  ⟨h.n.outs b o hw hG, ownsF_kept h.x b (by decide), ownsF_kept h.y b (by decide)⟩
end
set_option maxRecDepth 100000 in
theorem built_wordA (A : Option Addr) (n p : Nat) : (Try.prog).built 34 [(0, .slice A n p)] = some #[.slice A n p] := by kernel_rfl
set_option maxRecDepth 100000 in
theorem field_wordA (A : Option Addr) (n p : Nat) (W : World) : (Instr.field 34 (.agg #[.slice A n p]) 0).run Try.prog W = .ok (.slice A n p) W := by kernel_rfl
set_option maxRecDepth 100000 in
set_option maxHeartbeats 8000000 in
theorem agreesAny_walk (N : Int) (A : Option Addr) (m c : Nat) (R : Nat → Rw) (w : World) (hR : LiesR w w.heap.size A m R) (hm : m ≤ 1099511627776) (hRn : ∀ i, i < m → (R i).n ≤ 1099511627776) (hW : ∀ i, i < m → ∀ s, CeW (tolM s (R i).ro).c) :
    Calls Try.prog 7 #[.int .i64 N, .slice A m c] w fun e w' => e = .returned (.bool true) ∧ Below w.heap.size w w' := by
  have HR := Lib.hid hR
  have HCW := Lib.hid hW
  have HBW := Lib.hid (built_wordA A m c)
  have HGR := Lib.hid (great2_is A m c R w hR hm hRn)
  clear hR hm hRn hW
  go_enter Try.func7, Try.ntmps7
  go_upto_region 3 with (first
    | (refine wpList_build rfl 34 _ rfl #[.slice A m c] (by simpa [Act.eval, Act.put] using HBW.out) ?_)
    | (go_at_call 37; (with_reducible refine HGR.out.mono ?_); rintro e w1 ⟨⟨g, rfl, hg⟩, b1⟩; have HG := Lib.hid hg; have HB1 := Lib.hid b1; clear b1 hg)
    | (go_at_call 38; (with_reducible refine (lives_ag _).mono ?_); rintro e w7 ⟨rfl, b7⟩))
  any_goals (go_ret; exact ⟨rfl, below_then HB1.out b7⟩)
  obtain ⟨hm, hRn⟩ := HG.out (by first | rfl | assumption)
  refine wp_at (fun U => Below w.heap.size w U) HB1.out ?_
  clear HB1 HG HGR
  intro V hV
  have HB := Lib.hid hV
  have HRN : Hid (∀ i, i < m → (R i).n ≤ 65536) := Lib.hid (fun i hi => by have := hRn i hi; omega)
  have HM : Hid (m ≤ 65536) := Lib.hid (by omega)
  have HTW := Lib.hid (twinword_is A m c HM.out R HRN.out V (HR.out.on hV))
  have hfd := fun (B : Option Addr) (W : World) (p : Nat) => field_wordA B m p W
  clear hV hRn hm
  go_upto_region 4 with (first
    | (refine wpList_build rfl 34 _ rfl #[.slice A m c] (by simpa [Act.eval, Act.put] using HBW.out) ?_)
    | (go_at_call 15; (with_reducible refine HTW.out.mono ?_); rintro e w2 ⟨A1, c1, G, rfl, q1, q2, q3⟩; have HQ1 := Lib.hid q1; have HQ2 := Lib.hid q2; have HQ3 := Lib.hid q3; clear q1 q2 q3))
  refine wp_at (N1 w m R A1 c1 G) ⟨ownsF_mono HQ1.out (Nat.zero_le _), fun i hi => (HQ2.out i hi).1, below_then HB.out HQ3.out⟩ ?_
  clear HB HTW HQ1 HQ2 HQ3 hfd
  intro X hX
  have HX := Lib.hid hX
  obtain ⟨Ta, hTa⟩ : ∃ T : Nat → He, T = fun i => tblM (R i).ro := ⟨_, rfl⟩
  obtain ⟨Tb, hTb⟩ : ∃ T : Nat → He, T = vecA N R m := ⟨_, rfl⟩
  have HTA : Hid (∀ u, N1 w m R A1 c1 G u → Calls Try.prog 39 #[.slice A1 m c1] u fun e w' => ∃ (A' : Option Addr) (c' : Nat), e = .returned (.slice A' m c') ∧ Vec w' u.heap.size w'.heap.size A' m c' Ta ∧ Below u.heap.size u w') := Lib.hid (fun u hu => by rw [hTa]; exact table_vec A1 m c1 HM.out (fun i => twr (R i) (G i)) u hu.twr)
  have HAG : Hid (∀ u, N1 w m R A1 c1 G u → Calls Try.prog 40 #[.int .i64 N, .slice A1 m c1] u fun e w' => ∃ (A' : Option Addr) (c' : Nat), e = .returned (.slice A' (kA N) c') ∧ Vec w' u.heap.size w'.heap.size A' (kA N) c' Tb ∧ Below u.heap.size u w') := Lib.hid (fun u hu => by rw [hTb]; exact agree_vec N A1 m c1 hX.some.1 hX.some.2 HM.out (fun i => twr (R i) (G i)) HRN.out HCW.out u hu.twr)
  have HOT : Hid (∀ u, Below w.heap.size w u → Calls Try.prog 42 #[.slice A m c] u fun e w' => ∃ A' c' Q, e = .returned (.slice A' m c') ∧ LiesR w' w'.heap.size A' m Q ∧ (∀ i, i < m → (Q i).ro = (R i).ro) ∧ Below u.heap.size u w') := Lib.hid (fun u hu => (others_is A m c HM.out R HRN.out u (HR.out.on hu)).mono fun e w' ⟨A', c', Q, h1, h2, h3, h4, h5⟩ => ⟨A', c', Q, h1, own_liesR h2 h3, h4, h5⟩)
  have HRT : Hid (∀ (u : World) (A' : Option Addr) (c' : Nat) (Q : Nat → Rw), LiesR u u.heap.size A' m Q → (∀ i, i < m → (Q i).ro = (R i).ro) → Calls Try.prog 41 #[.slice A' m c'] u fun e w' => ∃ (A8 : Option Addr) (c8 : Nat), e = .returned (.slice A8 m c8) ∧ w'.ownsRow 0 147 56 (.slice A8 m c8) m (hesL Ta m) ∧ Below u.heap.size u w') := Lib.hid (fun u A' c' Q h1 h2 => by rw [hTa]; exact rtable_vec A' m c' HM.out R Q h2 u h1)
  have HRA : Hid (∀ (u : World) (A' : Option Addr) (c' : Nat) (Q : Nat → Rw), LiesR u u.heap.size A' m Q → (∀ i, i < m → (Q i).ro = (R i).ro) → Calls Try.prog 43 #[.int .i64 N, .slice A' m c'] u fun e w' => ∃ (A9 : Option Addr) (c9 : Nat), e = .returned (.slice A9 (kA N) c9) ∧ w'.ownsRow 0 147 56 (.slice A9 (kA N) c9) (kA N) (hesL Tb (kA N)) ∧ Below u.heap.size u w') := Lib.hid (fun u A' c' Q h1 h2 => by rw [hTb]; exact ragree_vec N A' m c' HM.out R Q h2 HRN.out u h1)
  have HLW : Hid (∀ u, N1 w m R A1 c1 G u → Calls Try.prog 24 #[.agg #[.slice A1 m c1], .agg #[.slice A m c]] u fun e w' => e = .returned (.bool true) ∧ Below u.heap.size u w') := Lib.hid (fun u h => leftword_is A A1 m c c1 HM.out R G HRN.out u (HR.out.on h.b) h.left h.t5)
  have HSA : Hid (∀ (u : World) (A B : Option Addr) (n c d : Nat) (T : Nat → He), n ≤ 65536 → LiesH u u.heap.size A n T → LiesH u u.heap.size B n T → Calls Try.prog 44 #[.slice A n c, .slice B n d] u fun e w' => e = .returned (.bool true) ∧ Below u.heap.size u w') := Lib.hid (fun u A B n c d T h1 h2 h3 => same15_is A B n c d h1 T u h2 h3)
  have HW1 := Lib.hid (built_wordA A1 m c1)
  obtain ⟨k, hk⟩ : ∃ k, k = kA N := ⟨_, rfl⟩
  rw [← hk] at HAG HRA
  have HK : Hid (k ≤ 65536) := Lib.hid (by rw [hk]; have := kA_le N; omega)
  have HGL : Hid (∀ i, i < m → G i < X.heap.size) := Lib.hid (fun i hi => (hX.t5 i hi).lt)
  have HXS : Hid (w.heap.size ≤ X.heap.size) := Lib.hid hX.b.size
  clear hX hTa hTb hk
  go_upto_region 5 with (go_at_call 39; (with_reducible refine (HTA.out _ HX.out).mono ?_); rintro e w3 ⟨A6, c6, rfl, q1, q2⟩; have HQ1 := Lib.hid q1; have HQ2 := Lib.hid q2; clear q1 q2)
  obtain ⟨la, hla⟩ : ∃ l, l = X.heap.size := ⟨_, rfl⟩
  obtain ⟨ha, hha⟩ : ∃ l, l = w3.heap.size := ⟨_, rfl⟩
  rw [← hla] at HQ1 HGL HXS
  rw [← hha] at HQ1
  refine wp_at (fun U => N1 w m R A1 c1 G U ∧ Vec U la ha A6 m c6 Ta ∧ la ≤ ha ∧ ha ≤ U.heap.size) ⟨HX.out.on HQ2.out, HQ1.out, by rw [hla, hha]; exact HQ2.out.size, by rw [hha]; exact Nat.le_refl _⟩ ?_
  clear HX HQ1 HQ2 hla hha
  rintro Y ⟨y1, y2, y3, y4⟩
  have HY1 := Lib.hid y1
  have HY2 := Lib.hid y2
  have HY3 := Lib.hid y3
  have HY4 := Lib.hid y4
  clear y1 y2 y3 y4
  go_upto_region 6 with (go_at_call 40; (with_reducible refine (HAG.out _ HY1.out).mono ?_); rintro e w4 ⟨A7, c7, rfl, q1, q2⟩; have HQ1 := Lib.hid q1; have HQ2 := Lib.hid q2; clear q1 q2)
  obtain ⟨hb, hhb⟩ : ∃ l, l = w4.heap.size := ⟨_, rfl⟩
  rw [← hhb] at HQ1
  refine wp_at (fun U => N1 w m R A1 c1 G U ∧ Vec U la ha A6 m c6 Ta ∧ Vec U ha hb A7 k c7 Tb ∧ ha ≤ U.heap.size) ⟨HY1.out.on HQ2.out, HY2.out.on HQ2.out, HQ1.out.mono HY4.out (Nat.le_refl _), Nat.le_trans HY4.out HQ2.out.size⟩ ?_
  clear HY1 HY2 HY4 HQ1 HQ2 hhb
  rintro Z ⟨z1, z2, z3, z4⟩
  have HZ1 := Lib.hid z1
  have HZ2 := Lib.hid z2
  have HZ3 := Lib.hid z3
  have HZ4 := Lib.hid z4
  clear z1 z2 z3 z4
  go_upto_region 7 with (first
    | (go_at_call 42; (with_reducible refine (HOT.out _ HZ1.out.b).mono ?_); rintro e w5 ⟨Ao, co, Qo, rfl, q1, q2, q3⟩; have HQ1 := Lib.hid q1; have HQ2 := Lib.hid q2; have HQ3 := Lib.hid q3; clear q1 q2 q3)
    | (go_at_call 41; (with_reducible refine (HRT.out _ _ _ _ HQ1.out HQ2.out).mono ?_); rintro e w6 ⟨A8, c8, rfl, q1, q2⟩; have HP1 := Lib.hid q1; have HP2 := Lib.hid q2; clear q1 q2))
  have hzz : Below Z.heap.size Z w6 := HQ3.out.trans (HP2.out.mono HQ3.out.size)
  refine wp_at (fun U => N1 w m R A1 c1 G U ∧ Vec U la ha A6 m c6 Ta ∧ Vec U ha hb A7 k c7 Tb ∧ ha ≤ U.heap.size ∧ U.ownsRow 0 147 56 (.slice A8 m c8) m (hesL Ta m)) ⟨HZ1.out.on hzz, HZ2.out.on hzz, HZ3.out.on hzz, Nat.le_trans HZ4.out hzz.size, HP1.out⟩ ?_
  clear HZ1 HZ2 HZ3 HZ4 HQ1 HQ2 HQ3 HP1 HP2 hzz
  rintro D ⟨z1, z2, z3, z4, z5⟩
  have HZ1 := Lib.hid z1
  have HZ2 := Lib.hid z2
  have HZ3 := Lib.hid z3
  have HZ4 := Lib.hid z4
  have HZ5 := Lib.hid z5
  clear z1 z2 z3 z4 z5
  go_upto_region 8 with (first
    | (go_at_call 42; (with_reducible refine (HOT.out _ HZ1.out.b).mono ?_); rintro e w5 ⟨Ao, co, Qo, rfl, q1, q2, q3⟩; have HQ1 := Lib.hid q1; have HQ2 := Lib.hid q2; have HQ3 := Lib.hid q3; clear q1 q2 q3)
    | (go_at_call 43; (with_reducible refine (HRA.out _ _ _ _ HQ1.out HQ2.out).mono ?_); rintro e w6 ⟨A9, c9, rfl, q1, q2⟩; have HP1 := Lib.hid q1; have HP2 := Lib.hid q2; clear q1 q2))
  have hzz : Below D.heap.size D w6 := HQ3.out.trans (HP2.out.mono HQ3.out.size)
  refine wp_at (fun U => N3 w m R A1 c1 G k Ta Tb A8 c8 A9 c9 U ∧ Vec U la ha A6 m c6 Ta ∧ Vec U ha hb A7 k c7 Tb ∧ ha ≤ U.heap.size) ⟨⟨HZ1.out.on hzz, ownsF_on HZ5.out hzz, HP1.out⟩, HZ2.out.on hzz, HZ3.out.on hzz, Nat.le_trans HZ4.out hzz.size⟩ ?_
  clear HZ1 HZ2 HZ3 HZ4 HZ5 HQ1 HQ2 HQ3 HP1 HP2 hzz HOT HRT HRA
  rintro E ⟨e1, e2, e3, e4⟩
  have HE1 := Lib.hid e1
  have HE2 := Lib.hid e2
  have HE3 := Lib.hid e3
  have HE4 := Lib.hid e4
  have HL2 := Lib.hid e2.lies
  have HL3 := Lib.hid e3.lies
  have HL4 := Lib.hid (owns_vec e1.x)
  have HL5 := Lib.hid (owns_vec e1.y)
  clear e1 e2 e3 e4
  go_upto_region 10 with (first
    | (go_at_call 44; (with_reducible refine (HSA.out _ A6 A8 m c6 c8 Ta HM.out HL2.out HL4.out).mono ?_); rintro e w5 ⟨rfl, q1⟩; have HQ1 := Lib.hid q1; clear q1)
    | (go_at_call 44; (with_reducible refine (HSA.out _ A7 A9 k c7 c9 Tb HK.out (HL3.out.on HQ1.out) (HL5.out.on HQ1.out)).mono ?_); rintro e w6 ⟨rfl, q2⟩; have HQ2 := Lib.hid q2; clear q2)
    | (refine wpList_build_want 34 _ rfl #[.slice A1 m c1] (by simpa [Act.eval, Act.put] using HW1.out) (by kernel_rfl) ?_)
    | (refine wpList_build_want 34 _ rfl #[.slice A m c] (by simpa [Act.eval, Act.put] using HBW.out) (by kernel_rfl) ?_)
    | (go_at_call 24; (with_reducible refine (HLW.out _ ((HE1.out.n.on HQ1.out).on HQ2.out)).mono ?_); rintro e w7 ⟨rfl, q3⟩; have HQ3 := Lib.hid q3; clear q3))
  have hzz : Below E.heap.size E w7 := below_then (below_then HQ1.out HQ2.out) HQ3.out
  refine wp_at (fun U => N3 w m R A1 c1 G k Ta Tb A8 c8 A9 c9 U ∧ Vec U la ha A6 m c6 Ta ∧ Vec U ha hb A7 k c7 Tb ∧ ha ≤ U.heap.size) ⟨HE1.out.on hzz, HE2.out.on hzz, HE3.out.on hzz, Nat.le_trans HE4.out hzz.size⟩ ?_
  clear HE1 HE2 HE3 HE4 HL2 HL3 HL4 HL5 HQ1 HQ2 HQ3 hzz
  rintro F ⟨e1, e2, e3, e4⟩
  have HF1 := Lib.hid e1
  have HF3 := Lib.hid e3
  have HF4 := Lib.hid e4
  have HSP := Lib.hid (spoil_vec la ha A6 m c6 Ta HM.out F e2 (Nat.le_trans HY3.out e4))
  clear e1 e2 e3 e4
  go_upto_region 11 with (go_at_call 45; (with_reducible refine HSP.out.mono ?_); rintro e w8 ⟨rfl, q1, q2⟩; have HQ1 := Lib.hid q1; have HQ2 := Lib.hid q2; clear q1 q2)
  refine wp_at (fun U => N3 w m R A1 c1 G k Ta Tb A8 c8 A9 c9 U ∧ Vec U ha hb A7 k c7 Tb ∧ ha ≤ U.heap.size) ⟨HF1.out.outs HQ2.out HQ1.out HXS.out HGL.out, HF3.out.out HQ1.out (Nat.le_refl _), Nat.le_trans HF4.out HQ1.out.1.size⟩ ?_
  clear HF1 HF3 HF4 HSP HQ1 HQ2
  rintro J ⟨e1, e2, e3⟩
  have HJ1 := Lib.hid e1
  have HSP := Lib.hid (spoil_vec ha hb A7 k c7 Tb HK.out J e2 e3)
  clear e1 e2 e3
  go_upto_region 12 with (go_at_call 45; (with_reducible refine HSP.out.mono ?_); rintro e w9 ⟨rfl, q1, q2⟩; have HQ1 := Lib.hid q1; have HQ2 := Lib.hid q2; clear q1 q2)
  refine wp_at (N3 w m R A1 c1 G k Ta Tb A8 c8 A9 c9) (HJ1.out.outs HQ2.out HQ1.out (Nat.le_trans HXS.out HY3.out) (fun i hi => by have := HGL.out i hi; have := HY3.out; omega)) ?_
  clear HJ1 HSP HQ1 HQ2
  intro L hL
  have HL := Lib.hid hL
  clear hL
  go_wp2_with (first
    | (go_at_call 39; (with_reducible refine (HTA.out _ HL.out.n).mono ?_); rintro e u1 ⟨B6, d6, rfl, q1, q2⟩; have HQ1 := Lib.hid q1.lies; have HU1 := Lib.hid (HL.out.on q2); clear q1 q2)
    | (go_at_call 44; (with_reducible refine (HSA.out _ B6 A8 m d6 c8 Ta HM.out HQ1.out (owns_vec HU1.out.x)).mono ?_); rintro e u2 ⟨rfl, q1⟩; have HU2 := Lib.hid (HU1.out.on q1); clear q1)
    | (go_at_call 40; (with_reducible refine (HAG.out _ HU2.out.n).mono ?_); rintro e u3 ⟨B7, d7, rfl, q1, q2⟩; have HQ3 := Lib.hid q1.lies; have HU3 := Lib.hid (HU2.out.on q2); clear q1 q2)
    | (go_at_call 44; (with_reducible refine (HSA.out _ B7 A9 k d7 c9 Tb HK.out HQ3.out (owns_vec HU3.out.y)).mono ?_); rintro e u4 ⟨rfl, q1⟩; have HU4 := Lib.hid (HU3.out.on q1); clear q1)
    | (refine wpList_build_want 34 _ rfl #[.slice A1 m c1] (by simpa [Act.eval, Act.put] using HW1.out) (by kernel_rfl) ?_)
    | (refine wpList_build_want 34 _ rfl #[.slice A m c] (by simpa [Act.eval, Act.put] using HBW.out) (by kernel_rfl) ?_)
    | (go_at_call 24; (with_reducible refine (HLW.out _ HU4.out.n).mono ?_); rintro e u5 ⟨rfl, q1⟩; have HU5 := Lib.hid (HU4.out.on q1); clear q1)
    | (go_at_call 38; (with_reducible refine (lives_ag _).mono ?_); rintro e u6 ⟨rfl, q1⟩; have HU6 := Lib.hid (HU5.out.on q1); clear q1))
  go_ret
  exact ⟨rfl, HU6.out.n.b⟩
end Go.Proofs.Ytdbljggjddnjcaa

