/-
  The walk of the law TracksRound: it returns true, and nothing that was there has turned. Conditions: the rows' reading.
-/
import Derived.Test.YtdbljggjddnjcaaRiX
import Derived.Test.YtdbljggjddnjcaaRi6
import Derived.Test.YtdbljggjddnjcaaTk16
import Derived.Deep.CutBlock
namespace Go.Proofs.Ytdbljggjddnjcaa
open Go.RowKit
set_option linter.unusedVariables false
set_option linter.unusedSimpArgs false

def faN : Fa := ⟨false, 0, 0, none, 0, 0, fun _ => ⟨0, 0, rwN⟩⟩
def onT : Nat → Bool := fun _ => true
theorem faN_in (B : Nat) (u : World) : FaIn B u faN := ⟨by decide, by decide, by decide, fun i hi => absurd hi (Nat.not_lt_zero i), fun h => absurd h (Nat.not_lt_zero 0), fun i hi => absurd hi (Nat.not_lt_zero i)⟩
theorem clB_faN (N i k : Nat) : clB N i k faN = true := by unfold clB; simp [faN]
set_option maxRecDepth 100000 in
theorem built_fault0 : (Try.prog).built 83 [] = some (faL faN).toArray := by kernel_rfl
set_option maxRecDepth 100000 in
theorem built_rowZ : (Try.prog).built 54 [] = some rwN.l.toArray := by kernel_rfl
set_option maxRecDepth 100000 in
theorem nilRing (a : Addr) (W : World) : (binOp .eql 85 (.pointer (some a)) (.pointer none)).run Try.prog W = .ok (.bool false) W := by kernel_rfl
set_option maxRecDepth 100000 in
theorem idxRowsL {A : Option Addr} {n : Nat} (c : Nat) {k b off : Nat} (hA : A = some ⟨b, off, none⟩) (hk : k < n) (w : World) :
    (Instr.indexAt 78 (.slice A n c) (.int .i64 (k : Int))).run Try.prog w = .ok (.pointer (some ⟨b, off + k, none⟩)) w := by
  subst hA
  rw [run_indexAt_slice (h := elemRowsL), if_pos (by omega), show Try.prog.elem 78 = 32 by kernel_rfl, show (sizeOf 32).run Try.prog w = .ok 1 w by kernel_rfl]
  simp [Result.andThen, Addr.add_lit]
set_option maxRecDepth 100000 in
set_option maxHeartbeats 2000000 in
theorem at_neg (v : Value) (x : Int) (s : Value) (hx : x < 0) (w : World) :
    Calls Try.prog 36 #[v, .int .i64 x, s] w fun e w' => e = .returned (.agg rwN.l.toArray) ∧ Below w.heap.size w w' := by
  have HZN : Hid (∀ Z : Array Value, Z.size = 57 → PIn (w.alloc (.cells Z 54)) w.heap.size 0 54 [] [] Z.toList ∧ Z.toList.length = 57) := Lib.hid (fun Z hZ => ⟨Blk.pin (by simpa using Blk.new w 54 Z), by simpa using hZ⟩)
  have HBR := Lib.hid built_rowZ
  have d1 : decide (x < 0) = true := decide_eq_true hx
  go_enter Try.func36, Try.ntmps36
  go_upto_region 1 with fail
  refine wp_at (fun U => (∃ Z : List Value, Z.length = 57 ∧ PIn U w.heap.size 0 54 [] [] Z) ∧ Below w.heap.size w U) ⟨⟨_, (HZN.out _ rfl).2, (HZN.out _ rfl).1⟩, below_al (Below.refl _ w) _⟩ ?_
  rintro U ⟨⟨Z, hZl, hZ⟩, hb⟩
  have HZ := Lib.hid hZ
  have HZL := Lib.hid hZl
  have HB := Lib.hid hb
  clear hZ hZl hb HZN
  go_wp2_with (first
    | (refine wpList_build rfl 54 _ rfl rwN.l.toArray (by simpa [Act.eval, Act.put] using HBR.out) ?_)
    | (refine wpList_store_pin rfl 54 (.tmp 6) (.tmp 9) rfl HZ.out rwN.l (by simp [Act.eval, Act.put]) (by simp [Act.eval, Act.put]) 57 size_row HZL.out (Rw.l_len _) (roL_one _ _ _ _ _) ?_; intro w1 p1 b1))
  have hld := p1.var 54 _ Try.underlying54 rfl 57 size_row (Rw.l_len _)
  exact bodyPost_ret (v := .agg rwN.l.toArray) (by simp [results, Try.results36, asAddr, Act.put, hld]) rfl ⟨rfl, HB.out.trans (b1.low (Nat.le_refl _))⟩
set_option maxRecDepth 100000 in
set_option maxHeartbeats 2000000 in
theorem at_yes (ba oa N K c t s : Nat) (H : Nat → Wo) (ht : t < K) (hs : s < N) (w : World) (hl : ba < w.heap.size) (hc : w.cell? ⟨ba, oa + t, none⟩ = some (H t).v) (hm : (H t).m = N) (hR : LiesR w w.heap.size (H t).A N (H t).R) :
    Calls Try.prog 36 #[.slice (some ⟨ba, oa, none⟩) K c, .int .i64 (t : Int), .int .i64 (s : Int)] w fun e w' => e = .returned (.agg ((H t).R s).l.toArray) ∧ Below w.heap.size w w' := by
  have HZN : Hid (∀ Z : Array Value, Z.size = 57 → PIn (w.alloc (.cells Z 54)) w.heap.size 0 54 [] [] Z.toList ∧ Z.toList.length = 57) := Lib.hid (fun Z hZ => ⟨Blk.pin (by simpa using Blk.new w 54 Z), by simpa using hZ⟩)
  have d1 : decide ((t : Int) < 0) = false := decide_eq_false (by omega)
  have hix := fun W => idxRowsL (A := some ⟨ba, oa, none⟩) (n := K) c rfl ht W
  obtain ⟨X, hX⟩ : ∃ X, X = H t := ⟨_, rfl⟩
  rw [← hX] at hc hm hR ⊢
  obtain ⟨xA, xm, xc, xR⟩ := X
  simp only [Wo.v] at hc
  simp only at hm hR ⊢
  subst hm
  have HR := Lib.hid hR
  clear hX hR
  go_enter Try.func36, Try.ntmps36
  go_upto_region 1 with fail
  refine wp_at (fun U => (∃ Z : List Value, Z.length = 57 ∧ PIn U w.heap.size 0 54 [] [] Z) ∧ Below w.heap.size w U) ⟨⟨_, (HZN.out _ rfl).2, (HZN.out _ rfl).1⟩, below_al (Below.refl _ w) _⟩ ?_
  rintro U ⟨⟨Z, hZl, hZ⟩, hb⟩
  have HZ := Lib.hid hZ
  have HZL := Lib.hid hZl
  have HB := Lib.hid hb
  have c1 : U.cell? ⟨ba, oa + t, none⟩ = some (.slice xA xm xc) := belowW hb hc
  have l1 : ba < U.heap.size := Nat.lt_of_lt_of_le hl hb.size
  obtain ⟨rb, ro, rfl, hrb, hrc⟩ := (HR.out.on hb).f (by omega)
  have HRG := Lib.hid (hrc s hs)
  have hix2 := fun W => idxRows (A := some ⟨rb, ro, none⟩) (n := xm) xc rfl hs W
  clear hZ hZl hb HZN hc hl hrb hrc
  go_wp2_with (first
    | (refine wpList_load_mid rfl 54 (.tmp 15) rfl rb (ro + s * 57) (by simp [Act.eval, Act.put]) (xR s).l _ HRG.out Try.underlying54 rfl (by rw [size_row, Rw.l_len]) ?_)
    | (refine wpList_store_pin rfl 54 (.tmp 6) (.tmp 16) rfl HZ.out (xR s).l (by simp [Act.eval, Act.put]) (by simp [Act.eval, Act.put]) 57 size_row HZL.out (Rw.l_len _) (roL_one _ _ _ _ _) ?_; intro w2 p2 b2))
  have hld := p2.var 54 _ Try.underlying54 rfl 57 size_row (Rw.l_len _)
  exact bodyPost_ret (v := .agg (xR s).l.toArray) (by simp [results, Try.results36, asAddr, Act.put, hld]) rfl ⟨rfl, HB.out.trans (b2.low (Nat.le_refl _))⟩
/-- What each says, tick by tick. -/
def owM (m N : Nat) (R : Nat → Rw) (t i : Nat) : Rw := if 0 < m then R ((t * N + i) % m) else rwN
/-- What the law knows of memory, K ticks through. -/
structure TJ (w : World) (B gr gl cl go gA N : Nat) (ow : Nat → Nat → Rw) (K : Nat) (A : Option Addr) (c : Nat) (H : Nat → Wo) (VS : Value) (L : Nat → Ln) (o : Nat → Bool) (S : Nat → Nat → Nat → Wo) (u : World) : Prop where
  r : RiS B u gr gl cl go N faN VS L o K S
  ok : SentOK N K ow S
  a : Blk u gA 4 (flL (trL onT) N).toArray
  na : gA ≠ go
  wl : u.ownsRow B 32 1 (.slice A K c) K (flL (woL1 H) K)
  wt : ∀ t, t < K → OwR u (H t).A N (H t).R ∧ (H t).m = N ∧ ∀ s, s < N → ((H t).R s).ro = plR N (ow t s).ro
  b : Below w.heap.size w u
section
variable {w u v : World} {B gr gl cl go gA N K c : Nat} {ow : Nat → Nat → Rw} {A : Option Addr} {H : Nat → Wo} {VS : Value} {L : Nat → Ln} {o : Nat → Bool} {S : Nat → Nat → Nat → Wo}
theorem TJ.up (h : TJ w B gr gl cl go gA N ow K A c H VS L o S u) (b : Below u.heap.size u v) : TJ w B gr gl cl go gA N ow K A c H VS L o S v :=
  ⟨h.r.on b, h.ok, h.a.on b, h.na, ownsF_on h.wl b, fun t ht => ⟨(h.wt t ht).1.kr (KR.below h.r.B.2.2.2 b), (h.wt t ht).2⟩, below_then h.b b⟩
/-- One more tick is put down. -/
theorem TJ.app {A2 : Option Addr} {c2 : Nat} {X : Wo} (h : TJ w B gr gl cl go gA N ow K A c H VS L o S u) (hB : w.heap.size ≤ B) (bB : Below B u v) (kt : KeptBut u v [32]) (ho : v.ownsRow B 32 1 (.slice A2 (K + 1) c2) (K + 1) (flL (woL1 H) K ++ [X.v])) (hx : OwR u X.A N X.R ∧ X.m = N ∧ ∀ s, s < N → (X.R s).ro = plR N (ow K s).ro) :
    RiS B v gr gl cl go N faN VS L o K S ∧ Blk v gA 4 (flL (trL onT) N).toArray ∧ v.ownsRow B 32 1 (.slice A2 (K + 1) c2) (K + 1) (flL (woL1 (updW H K X)) (K + 1)) ∧ (∀ t, t < K + 1 → OwR v (updW H K X t).A N (updW H K X t).R ∧ (updW H K X t).m = N ∧ ∀ s, s < N → ((updW H K X t).R s).ro = plR N (ow t s).ro) ∧ Below w.heap.size w v := by
  have kr : KR B u v := KR.kept bB kt (by decide) (by decide)
  have e : ∀ j, j ≠ K → updW H K X j = H j := fun j hj => if_neg hj
  have e2 : updW H K X K = X := if_pos rfl
  refine ⟨h.r.kept kt kr (fun t m => by simp at m; subst m; decide), kt _ _ _ (by decide) h.a, ?_, fun t ht => ?_, h.b.trans (bB.mono hB)⟩
  · rw [flL_succ, show flL (woL1 (updW H K X)) K = flL (woL1 H) K from flL_congr fun j hj => by unfold woL1; rw [e j (by omega)], show woL1 (updW H K X) K = [X.v] by unfold woL1; rw [e2]]
    exact ho
  · by_cases ht2 : t = K
    · subst ht2; rw [e2]; exact ⟨hx.1.kr kr, hx.2⟩
    · rw [e t ht2]; exact ⟨(h.wt t (by omega)).1.kr kr, (h.wt t (by omega)).2⟩
end
set_option maxRecDepth 100000 in
set_option maxHeartbeats 16000000 in
theorem tracksRound_walk (nn : Int) (A : Option Addr) (m c : Nat) (Rs : Nat → Rw) (w : World) (h0 : 0 ≤ nn) (h1 : nn < 256) (hR : LiesR w w.heap.size A m Rs) (hm : m ≤ 9223372036854775807) :
    Calls Try.prog 6 #[.int .u8 nn, .slice A m c] w fun e w' => e = .returned (.bool true) ∧ Below w.heap.size w w' := by
  have HR := Lib.hid hR
  have HLI := Lib.hid (light_is A m c Rs w hR hm)
  have HBF := Lib.hid built_fault0
  obtain ⟨z0, rfl, lz0⟩ : ∃ z : Nat, nn = (z : Int) ∧ z < 256 := ⟨nn.toNat, by omega, by omega⟩
  obtain ⟨N3, hN3⟩ : ∃ n, n = z0 % 13 := ⟨_, rfl⟩
  obtain ⟨N, hN⟩ : ∃ n, n = 4 + N3 := ⟨_, rfl⟩
  have lN : 4 ≤ N ∧ N ≤ 16 := by omega
  have HN : Hid (4 ≤ N ∧ N ≤ 16) := Lib.hid lN
  have en : (z0 : Int).tmod 13 = (N3 : Int) := by rw [hN3]; rfl
  have en1 : IntKind.i64.wrap (z0 : Int) = (z0 : Int) := IntWalk.i64_in _ (by omega)
  have en2 : IntKind.i64.wrap (N3 : Int) = (N3 : Int) := IntWalk.i64_in _ (by omega)
  have en' : (4 : Int) + (N3 : Int) = (N : Int) := by omega
  have en3 : IntKind.i64.wrap (N : Int) = (N : Int) := IntWalk.i64_in _ (by omega)
  have HNR : Hid (∀ u : World, Calls Try.prog 29 #[.int .i64 (N : Int), .agg (faL faN).toArray] u fun e v => ∃ gr gl cl go L, e = .returned (.pointer (some ⟨gr, 0, none⟩)) ∧ RiS u.heap.size v gr gl cl go N faN (.slice none 0 0) L onN 0 (fun _ _ _ => woN) ∧ (∀ i, i < N → (L i).nw = none) ∧ Below u.heap.size u v) := Lib.hid (fun u => newRing_is N faN lN u)
  clear hR hN3 hN h0 h1
  go_enter Try.func6, Try.ntmps6
  go_upto_region 3 with (first
    | (go_at_call 28; (with_reducible refine HLI.out.mono ?_); rintro e w1 ⟨⟨g, rfl, hg⟩, b1⟩; have HG := Lib.hid hg; have HB1 := Lib.hid b1; clear b1 hg)
    | (go_at_call 12; (with_reducible refine (lives_tk _).mono ?_); rintro e w7 ⟨rfl, b7⟩))
  any_goals (go_ret; exact ⟨rfl, below_then HB1.out b7⟩)
  have hm2 : m ≤ 200 := HG.out (by first | rfl | assumption | simp_all)
  refine wp_at (fun U => Below w.heap.size w U) HB1.out ?_
  clear HB1 HG HLI hm
  intro V hV
  have HV := Lib.hid hV
  clear hV
  have hnr := fun (a : Addr) (W : World) => nilRing a W
  go_upto_region 7 with (first
    | (refine wpList_build rfl 83 _ rfl (faL faN).toArray (by simpa [Act.eval, Act.put] using HBF.out) ?_)
    | (go_at_call 29; (with_reducible refine (HNR.out _).mono ?_); rintro e w2 ⟨gr, gl, cl, go, L, rfl, q1, q2, q3⟩; have HQ1 := Lib.hid q1; have HQ3 := Lib.hid q3; clear q1 q2 q3))
  obtain ⟨N4, hN4⟩ : ∃ n, n = N + 4 := ⟨_, rfl⟩
  have eN4 : (N : Int) + 4 = (N4 : Int) := by omega
  have lN4 : N4 ≤ 20 := by omega
  have HN4 := Lib.hid hN4
  clear hN4
  obtain ⟨B, hB⟩ : ∃ B, B = V.heap.size := ⟨_, rfl⟩
  rw [← hB] at HQ1
  refine wp_at (fun U => RiS B U gr gl cl go N faN (.slice none 0 0) L onN 0 (fun _ _ _ => woN) ∧ w.heap.size ≤ B ∧ Below w.heap.size w U) ⟨HQ1.out, by rw [hB]; exact HV.out.size, below_then HV.out HQ3.out⟩ ?_
  clear HV HQ1 HQ3 hB hnr en en1 en2 en3 en' HNR HBF
  rintro U ⟨u1, u2, u3⟩
  have HU1 := Lib.hid u1
  have HWB := Lib.hid u2
  have HU3 := Lib.hid u3
  clear u1 u2 u3
  obtain ⟨b0, hb0, bz0, bz1, bz2⟩ := info_parts infoBoolR
  have BI := Lib.hid hb0
  have BZ0 := Lib.hid bz0
  have BZ1 := Lib.hid bz1
  have BZ2 := Lib.hid bz2
  obtain ⟨r0, hr0, rz0, rz1, rz2⟩ := info_parts infoRow
  have RI := Lib.hid hr0
  have RZ0 := Lib.hid rz0
  have RZ1 := Lib.hid rz1
  have RZ2 := Lib.hid rz2
  obtain ⟨l0, hl0, lz0', lz1, lz2⟩ := info_parts infoRowsE
  have LI := Lib.hid hl0
  have LZ0 := Lib.hid lz0'
  have LZ1 := Lib.hid lz1
  have LZ2 := Lib.hid lz2
  clear hb0 bz0 bz1 bz2 hr0 rz0 rz1 rz2 hl0 lz0' lz1 lz2
  go_upto_region 8 with (refine wpList_make_flat rfl (.tmp 32) (.tmp 32) 87 rfl 4 b0 _ [.bool false] 1 1 elemTruths BI.out BZ0.out rfl BZ1.out BZ2.out rfl (by decide) N N (by simp [Act.eval]) (by simp [Act.eval]) (Nat.le_refl _) (by omega) (by omega) ?_; intro w1 hB1 hb1 hs1; have HB1 : Hid (Blk w1 U.heap.size 4 (flL (trL onN) N).toArray) := Lib.hid hB1; have Hb1 := Lib.hid hb1; clear hB1 hb1 hs1)
  obtain ⟨gA, hgA⟩ : ∃ g, g = U.heap.size := ⟨_, rfl⟩
  have HNA : Hid (gA ≠ go) := Lib.hid (by have := HU1.out.lts.2.2; omega)
  have HGA : Hid (U.heap.size ≤ gA) := Lib.hid (by omega)
  rw [← hgA] at HB1 ⊢
  clear hgA
  go_wp2_with fail
  go_loopw [8] (fun iv wr => ∃ k : Nat, k ≤ N ∧ iv = .int .i64 (k : Int) ∧ Hid (Blk wr gA 4 (flL (trL (fun j => decide (j < k))) N).toArray) ∧ Hid (Below U.heap.size U wr)) (fun iv _ => N - (intOf iv).toNat)
  case atStart => exact ⟨0, by omega, rfl, Lib.hid (by rw [show flL (trL fun j => decide (j < 0)) N = flL (trL onN) N from flL_congr fun j _ => by unfold trL onN; simp]; exact HB1.out), Hb1⟩
  case round =>
    clear HB1 Hb1
    obtain ⟨k, hk, rfl, HB, HW⟩ := hrel
    by_cases hlt : k < N
    · have dk : decide ((k : Int) < (N : Int)) = true := decide_eq_true (by omega)
      have hix2 := fun W => idxTruths (A := some ⟨gA, 0, none⟩) (n := N) N rfl hlt W
      simp only [Nat.zero_add] at hix2
      have ck : wr.cell? ⟨gA, k, none⟩ = some (.bool (decide (k < k))) := by
        have h := HB.out
        rw [← List.append_nil (flL (trL fun j => decide (j < k)) N)] at h
        exact flL1_cell h (fun _ => rfl) hlt rfl
      have fk := HB.out.frozen k
      have lk := HB.out.lt
      go_wp2_with fail
      go_roundw
      case rel =>
        refine ⟨k + 1, by omega, by go_num, Lib.hid ?_, Lib.hid (HW.out.trans ((But.one (u := wr) (g := gA) k (.bool true)).low HGA.out))⟩
        have hP : PIn wr gA k 4 (flL (trL fun j => decide (j < k)) k) (flL (fun j => trL (fun j => decide (j < k)) (k + 1 + j)) (N - (k + 1))) (trL (fun j => decide (j < k)) k) := ⟨by
          have := HB.out
          rwa [flL_at _ hlt] at this, by rw [flL_len (m := 1) (fun _ => rfl), Nat.mul_one]⟩
        have h2 := (hP.set0 (.bool true) Nat.one_pos).blk
        rw [show (trL (fun j => decide (j < k)) k).set 0 (.bool true) = [.bool true] from rfl, flL_upd _ _ _ hlt] at h2
        rw [show flL (trL fun j => decide (j < k + 1)) N = flL (fun j => if j = k then [.bool true] else trL (fun j => decide (j < k)) j) N from flL_congr fun j _ => by
          unfold trL
          by_cases e : j = k
          · rw [if_pos e]; simp [e]
          · rw [if_neg e]; show [Value.bool (decide (j < k + 1))] = [Value.bool (decide (j < k))]; rw [show decide (j < k + 1) = decide (j < k) from decide_eq_decide.2 (by omega)]]
        exact h2
      case measure => simp [intOf]; omega
    · obtain rfl : N = k := by omega
      have dk : decide ((N : Int) < (N : Int)) = false := decide_eq_false (by omega)
      obtain ⟨ow, how⟩ : ∃ ow, ow = owM m N Rs := ⟨_, rfl⟩
      have HOWE := Lib.hid how
      have HT0 : Hid (TJ w B gr gl cl go gA N ow 0 none 0 (fun _ => woN) (.slice none 0 0) L onN (fun _ _ _ => woN) wr) := Lib.hid ⟨HU1.out.on HW.out, fun t i k ht => absurd ht (by omega), (by
        have h := HB.out
        rwa [show flL (trL fun j => decide (j < N)) N = flL (trL onT) N from flL_congr fun j hj => by unfold trL onT; simp [hj]] at h), HNA.out, ownsF_nil, fun t ht => absurd ht (by omega), below_then HU3.out HW.out⟩
      have HOT : Hid (∀ (t i : Nat) (u : World), Below B w.drew u ∨ True) := Lib.hid fun _ _ _ => .inr trivial
      clear HB HW HU1 HU3 how
      go_wp2_with fail
      go_loopw [9, 10] (fun sv iv wr => ∃ K : Nat, K ≤ N4 ∧ iv = .int .i64 (K : Int) ∧ ∃ (A1 : Option Addr) (c1 : Nat) (H : Nat → Wo) (VS : Value) (L : Nat → Ln) (o : Nat → Bool) (S : Nat → Nat → Nat → Wo), sv = .slice A1 K c1 ∧ Hid (TJ w B gr gl cl go gA N ow K A1 c1 H VS L o S wr)) (fun _ iv _ => N4 - (intOf iv).toNat)
      case atStart => exact ⟨0, by omega, rfl, none, 0, _, _, _, _, _, rfl, HT0⟩
      case round =>
        clear HT0 HOT
        obtain ⟨K, hK, rfl, A1, c1, H, VS, L1, o1, S, rfl, HT⟩ := hrel
        by_cases hltK : K < N4
        · have dK : decide ((K : Int) < (N4 : Int)) = true := decide_eq_true (by omega)
          go_upto_region 17 with (refine wpList_make_flat rfl (.tmp 48) (.tmp 48) 32 rfl 54 r0 _ rwN.l 160 57 elemRows RI.out RZ0.out rfl RZ1.out RZ2.out (Rw.l_len _) (by decide) N N (by simp [Act.eval]) (by simp [Act.eval]) (Nat.le_refl _) (by omega) (by omega) ?_; intro w1 hB1 hb1 hs1; have HB1 : Hid (Blk w1 wr.heap.size 54 (flL (fun _ => rwN.l) N).toArray) := Lib.hid hB1; have Hb1 := Lib.hid hb1; clear hB1 hb1 hs1)
          obtain ⟨gW, hgW⟩ : ∃ g, g = wr.heap.size := ⟨_, rfl⟩
          have HGW : Hid (wr.heap.size ≤ gW) := Lib.hid (by omega)
          rw [← hgW] at HB1 ⊢
          clear hgW
          obtain ⟨U1, hU1⟩ : ∃ x, x = wr := ⟨_, rfl⟩
          rw [← hU1] at HT Hb1 HGW
          clear hU1
          have HOW : Hid (∀ j, ow K j = if 0 < m then Rs ((K * N + j) % m) else rwN) := Lib.hid (fun j => by rw [HOWE.out]; rfl)
          go_upto_block 4 with fail
          go_cut [12] from 50 to 73 (fun s12 wx => Hid (Below U1.heap.size U1 wx ∧ Blk wx gW 54 (flL (fun j => (ow K j).l) N).toArray))
          case first =>
            go_wp2_with fail
            go_loopw [12] (fun iv wr => ∃ k : Nat, k ≤ N ∧ iv = .int .i64 (k : Int) ∧ Hid (Blk wr gW 54 (flL (fun j => ((if j < k then ow K j else rwN : Rw)).l) N).toArray) ∧ Hid (Below U1.heap.size U1 wr)) (fun iv _ => N - (intOf iv).toNat)
            case atStart => exact ⟨0, by omega, rfl, Lib.hid (by rw [show flL (fun j => ((if j < 0 then ow K j else rwN : Rw)).l) N = flL (fun _ => rwN.l) N from flL_congr fun j _ => by rw [if_neg (by omega)]]; exact HB1.out), Hb1⟩
            case round =>
              clear HB1 Hb1
              obtain ⟨k, hk, rfl, HB, HW⟩ := hrel
              by_cases hlt : k < N
              · have dk : decide ((k : Int) < (N : Int)) = true := decide_eq_true (by omega)
                by_cases h0 : 0 < m
                · have dm : decide (0 < (m : Int)) = true := decide_eq_true (by omega)
                  obtain ⟨p1, hp1⟩ : ∃ n, n = K * N := ⟨_, rfl⟩
                  obtain ⟨p2, hp2⟩ : ∃ n, n = p1 + k := ⟨_, rfl⟩
                  obtain ⟨q, hq⟩ : ∃ n, n = p2 % m := ⟨_, rfl⟩
                  have lp1 : p1 ≤ 400 := by rw [hp1]; exact Nat.le_trans (Nat.mul_le_mul (show K ≤ 20 by omega) (show N ≤ 16 by omega)) (by decide)
                  have hqm : q < m := by rw [hq]; exact Nat.mod_lt _ h0
                  have hw1 : IntKind.i64.wrap ((K : Int) * (N : Int)) = (p1 : Int) := by rw [show (K : Int) * (N : Int) = (p1 : Int) by rw [hp1]; exact (Int.natCast_mul K N).symm]; exact IntWalk.i64_in _ (by omega)
                  have hw2 : IntKind.i64.wrap ((p1 : Int) + (k : Int)) = (p2 : Int) := by rw [IntWalk.i64_in _ (by omega)]; omega
                  have hw3 : IntKind.i64.wrap (q : Int) = (q : Int) := IntWalk.i64_in _ (by omega)
                  have ht1 : (p2 : Int).tmod (m : Int) = (q : Int) := by rw [hq]; rfl
                  have ht2 : (p2 : Int) % (m : Int) = (q : Int) := by rw [hq]; rfl
                  have hm0 : m ≠ 0 := by omega
                  have HE : Hid (ow K k = Rs q) := Lib.hid (by rw [HOW.out, if_pos h0, hq, hp2, hp1])
                  obtain ⟨ba, oa, rfl, hba, hca⟩ := HR.out.f h0
                  have HRG : Hid (wr.rangeAt ba (oa + q * 57) (Rs q).l) := Lib.hid (fun j v hv => ((below_then HT.out.b HW.out).cell (p := ⟨ba, _, none⟩) hba).trans (hca q hqm j v hv))
                  have hix := fun W => idxRows (A := some ⟨ba, oa, none⟩) (n := m) c rfl hqm W
                  have hix2 := fun W => idxRows (A := some ⟨gW, 0, none⟩) (n := N) N rfl hlt W
                  simp only [Nat.zero_add] at hix2
                  have HP : Hid (PIn wr gW (k * 57) 54 (flL (fun j => ((if j < k then ow K j else rwN : Rw)).l) k) (flL (fun j => ((if (k + 1 + j) < k then ow K (k + 1 + j) else rwN : Rw)).l) (N - (k + 1))) rwN.l) := Lib.hid ⟨by
                    have := HB.out
                    rw [flL_at _ hlt] at this
                    rwa [if_neg (Nat.lt_irrefl k)] at this, flL_len (fun _ => Rw.l_len _) _⟩
                  clear hp1 hp2 hq hba hca
                  go_wp2_with (first
                    | (refine wpList_load_mid rfl 54 (.tmp 71) rfl ba (oa + q * 57) (by simp [Act.eval, Act.put]) (Rs q).l _ HRG.out Try.underlying54 rfl (by rw [size_row, Rw.l_len]) ?_)
                    | (refine wpList_store_pin rfl 54 (.tmp 73) (.tmp 72) rfl HP.out (Rs q).l (by simp [Act.eval, Act.put]) (by simp [Act.eval, Act.put]) 57 size_row (Rw.l_len _) (Rw.l_len _) (roL_one _ _ _ _ _) ?_; intro w5 p5 b5; have HP5 := Lib.hid p5; have HB5 := Lib.hid b5; clear p5 b5))
                  go_roundw
                  case rel =>
                    refine ⟨k + 1, by omega, by go_num, Lib.hid ?_, Lib.hid (HW.out.trans (HB5.out.low HGW.out))⟩
                    have h2 := HP5.out.blk
                    rw [flL_upd (fun j => ((if j < k then ow K j else rwN : Rw)).l) k (Rs q).l hlt] at h2
                    rw [show flL (fun j => ((if j < k + 1 then ow K j else rwN : Rw)).l) N = flL (fun j => if j = k then (Rs q).l else ((if j < k then ow K j else rwN : Rw)).l) N from flL_congr fun j _ => by
                      by_cases e : j = k
                      · rw [if_pos e, if_pos (by omega), e, HE.out]
                      · rw [if_neg e]
                        by_cases e2 : j < k
                        · rw [if_pos e2, if_pos (by omega)]
                        · rw [if_neg e2, if_neg (by omega)]]
                    exact h2
                  case measure => simp [intOf]; omega
                · have dm : decide (0 < (m : Int)) = false := decide_eq_false (by omega)
                  have HX : Hid (Blk wr gW 54 (flL (fun j => (ow K j).l) N).toArray) := Lib.hid (by
                    rw [show flL (fun j => (ow K j).l) N = flL (fun j => ((if j < k then ow K j else rwN : Rw)).l) N from flL_congr fun j _ => by rw [HOW.out, if_neg h0]; split <;> rfl]
                    exact HB.out)
                  go_wp2_with fail
                  go_meet
                  exact Lib.hid ⟨HW.out, HX.out⟩
              · obtain rfl : N = k := by omega
                have dk : decide ((N : Int) < (N : Int)) = false := decide_eq_false (by omega)
                have HX : Hid (Blk wr gW 54 (flL (fun j => (ow K j).l) N).toArray) := Lib.hid (by
                  rw [show flL (fun j => (ow K j).l) N = flL (fun j => ((if j < N then ow K j else rwN : Rw)).l) N from flL_congr fun j hj => by rw [if_pos hj]]
                  exact HB.out)
                go_wp2_with fail
                go_meet
                exact Lib.hid ⟨HW.out, HX.out⟩
          case rest =>
            have HC : Hid (Below U1.heap.size U1 wc ∧ Blk wc gW 54 (flL (fun j => (ow K j).l) N).toArray) := hcut
            clear hcut HB1 Hb1
            have HTA : Hid (∀ (i : Nat) (v : World), Below B U1 v → LiesH v v.heap.size (ow K i).A (ow K i).n (ow K i).T) := Lib.hid (fun i v hv => by
              rw [HOW.out]
              split
              · rename_i h0
                have h1 := (HR.out.t _ (Nat.mod_lt (K * N + i) h0))
                have hb : Below w.heap.size w v := HT.out.b.trans (hv.mono HWB.out)
                exact (h1.low hb).up hb.size
              · exact LiesH.nil_)
            have HB1U : Hid (B ≤ U1.heap.size) := Lib.hid HT.out.r.B.2.2.2
            obtain ⟨Y, hY⟩ : ∃ Y, Y = wc := ⟨_, rfl⟩
            have HT2 : Hid (TJ w B gr gl cl go gA N ow K A1 c1 H VS L1 o1 S Y) := Lib.hid (by rw [hY]; exact HT.out.up HC.out.1)
            have HBY : Hid (Below B U1 Y) := Lib.hid (by rw [hY]; exact HC.out.1.mono HB1U.out)
            have HGY : Hid (Blk Y gW 54 (flL (fun j => (ow K j).l) N).toArray) := Lib.hid (by rw [hY]; exact HC.out.2)
            have HPL := Lib.hid (plain14_is N HN.out.2 (some ⟨gW, 0, none⟩) N N (by omega) (ow K) Y ⟨Blk.liesF (by decide) (fun _ => Rw.l_len _) HGY.out, fun i hi => HTA.out i Y HBY.out⟩)
            rw [← hY]
            clear hY HC HT
            have HBS := Lib.hid (fun (A3 : Option Addr) (c3 : Nat) (u : World) => run_bsl_rows A3 N c3 u)
            go_upto_region 22 with (first
              | (go_at_call 30; (with_reducible refine HPL.out.mono ?_); rintro e w1 ⟨A3, c3, Q, rfl, q1, q2, q3⟩; have HQ1 := Lib.hid q1; have HQ2 := Lib.hid q2; have HQ3 := Lib.hid q3; clear q1 q2 q3)
              | (refine wpList_bsl rfl 78 1 _ rfl #[(0, .slice A3 N c3)] (by simp [Act.eval, Act.put]) _ _ (HBS.out A3 c3 w1) ?_)
              | (at_builtin; refine wpList_append_G rfl (.tmp 74) (.tmp 78) 78 rfl B 32 l0 _ 1 24 elemRowsL LI.out LZ0.out LZ1.out LZ2.out rfl (by decide) A1 K c1 (flL (woL1 H) K) (by simp [Act.eval, Act.put]) (ownsF_on (ownsF_on HT2.out.wl HQ3.out) (below_al (Below.refl _ w1) _)) w1.heap.size 1 1 [.slice A3 N c3] (by simp [Act.eval, Act.put]) (Blk.new w1 32 #[.slice A3 N c3]) rfl (by simp [Value.oneCell']) (by decide) (by unfold maxLen; omega) (by omega) (by have h1 := HT2.out.r.B.2.2.2; have h2 := HQ3.out.size; simp; omega) ?_; intro A2 c2 w2 hO2 hb2 hk2; have HO2 := Lib.hid hO2; have HB2 := Lib.hid hb2; have HK2 := Lib.hid hk2; clear hO2 hb2 hk2))
            have hal := below_al (Below.refl w1.heap.size w1) (.cells #[.slice A3 N c3] 32)
            have hYa : Below Y.heap.size Y (w1.alloc (.cells #[.slice A3 N c3] 32)) := below_then HQ3.out hal
            have hap := ((HT2.out.up HQ3.out).up hal).app (X := ⟨A3, N, c3, Q⟩) HWB.out HB2.out HK2.out HO2.out ⟨HQ1.out.kr (B := B) (KR.below (Nat.le_trans HT2.out.r.B.2.2.2 HQ3.out.size) hal), rfl, HQ2.out⟩
            refine wp_at (fun Q2 => (RiS B Q2 gr gl cl go N faN VS L1 o1 K S ∧ Blk Q2 gA 4 (flL (trL onT) N).toArray ∧ Q2.ownsRow B 32 1 (.slice A2 (K + 1) c2) (K + 1) (flL (woL1 (updW H K ⟨A3, N, c3, Q⟩)) (K + 1)) ∧ (∀ t, t < K + 1 → OwR Q2 (updW H K ⟨A3, N, c3, Q⟩ t).A N (updW H K ⟨A3, N, c3, Q⟩ t).R ∧ (updW H K ⟨A3, N, c3, Q⟩ t).m = N ∧ ∀ s, s < N → ((updW H K ⟨A3, N, c3, Q⟩ t).R s).ro = plR N (ow t s).ro) ∧ Below w.heap.size w Q2) ∧ Blk Q2 gW 54 (flL (fun j => (ow K j).l) N).toArray ∧ Below B U1 Q2) ⟨hap, HK2.out _ _ _ (by decide) (HGY.out.on hYa), (HBY.out.trans (hYa.mono HT2.out.r.B.2.2.2)).trans HB2.out⟩ ?_
            obtain ⟨H2, hH2⟩ : ∃ X, X = updW H K ⟨A3, N, c3, Q⟩ := ⟨_, rfl⟩
            rw [← hH2]
            have HOK := Lib.hid HT2.out.ok
            have HNAA := Lib.hid HT2.out.na
            clear hH2 hal hYa hap HQ1 HQ2 HQ3 HO2 HB2 HK2 HT2 HBY HGY HPL HBS
            rintro Q2 ⟨⟨v1, v2, v3, v4, v5⟩, v6, v7⟩
            have HV1 := Lib.hid v1
            have HV2 := Lib.hid v2
            have HV3 := Lib.hid v3
            have HV4 := Lib.hid v4
            have HV5 := Lib.hid v5
            have HV6 := Lib.hid v6
            have HV7 := Lib.hid v7
            have HHR := Lib.hid (ring_hear B gr gl cl go N K gA faN VS L1 onT o1 S HN.out (by omega) Q2 v1.B.2.2.2 v1 v2 HNAA.out)
            clear v1 v2 v3 v4 v5 v6 v7
            go_upto_region 23 with (go_at_call 31; (with_reducible refine HHR.out.mono ?_); rintro e w3 ⟨Ah, ch, L2, Hh, rfl, q1⟩; have HQ1 := Lib.hid q1; clear q1)
            have hSay := ring_say B gr gl cl go N K ⟨gW, 0, none⟩ faN VS L2 onT S (ow K) HN.out (by omega) w3 HQ1.out.r.B.2.2.2 HQ1.out.r (faN_in _ _) (fun x kx => by
              have hB0 := HQ1.out.kr.t _ _ _ (.inl rfl) HV6.out
              have hB1 := kx.t _ _ _ (.inl rfl) hB0
              exact ⟨Blk.liesF (by decide) (fun _ => Rw.l_len _) hB1, fun i hi => HTA.out i x ((HV7.out.trans HQ1.out.kr.b).trans kx.b)⟩) (fun i hi _ => by
              obtain ⟨t, ht, _⟩ := ((HQ1.out.s i hi).yes rfl).qk
              exact ⟨t, ht⟩)
            have HSY := Lib.hid hSay
            clear hSay HHR
            go_upto_region 24 with (go_at_call 32; (with_reducible refine HSY.out.mono ?_); rintro e w4 ⟨rfl, q2⟩; have HQ2 := Lib.hid q2; clear q2)
            obtain ⟨VS2, L3, Z, W, r1, r2, r3⟩ := HQ2.out.x
            have hTJ : TJ w B gr gl cl go gA N ow (K + 1) A2 c2 H2 VS2 L3 onT (fun t => if t = K then W else S t) w4 := by
              have kr := HQ1.out.kr.trans HQ2.out.kr
              refine ⟨r1, fun t i k ht hi hk4 => ?_, HQ2.out.kt _ _ _ (by decide) (HQ1.out.kb _ _ HNAA.out HV2.out), HNAA.out, ownsF_kept (ownsF_kept HV3.out HQ1.out.kt (by decide)) HQ2.out.kt (by decide), fun t ht => ⟨(HV4.out t ht).1.kr kr, (HV4.out t ht).2⟩, HV5.out.trans (kr.b.mono HWB.out)⟩
              by_cases e : t = K
              · subst e
                simp only [if_true]
                rw [r3 i k hi hk4 (clB_faN _ _ _)]
                obtain ⟨C, D, tk, R, hs, hz⟩ := (r2 i hi).yes rfl
                obtain ⟨t2, ht2, hof⟩ := ((HQ1.out.s i hi).yes rfl).qk
                have e2 : t2 = tk := by
                  have := hs.nw
                  rw [ht2] at this
                  injection this
                subst e2
                rw [hz]
                unfold cd4
                by_cases hk2 : k < 2
                · rw [if_pos hk2]
                  refine ⟨hs.qc.m, fun s hs' => ?_⟩
                  rw [hs.qc.r s hs', show k / 2 = 0 by omega]
                  exact out_ok HN.out.1 HOK.out hi hs' (by decide) hof hs.qr
                · rw [if_neg hk2]
                  refine ⟨hs.qd.m, fun s hs' => ?_⟩
                  rw [hs.qd.r s hs', show k / 2 = 1 by omega]
                  exact out_ok HN.out.1 HOK.out hi hs' (by decide) hof hs.qr
              · simp only [e, if_false]
                exact HOK.out t i k (by omega) hi hk4
            obtain ⟨S2, hS2⟩ : ∃ S2 : Nat → Nat → Nat → Wo, S2 = fun t => if t = K then W else S t := ⟨_, rfl⟩
            rw [← hS2] at hTJ
            refine wp_at (TJ w B gr gl cl go gA N ow (K + 1) A2 c2 H2 VS2 L3 onT S2) hTJ ?_
            clear hS2 hTJ r1 r2 r3 HQ1 HQ2 HV1 HV2 HV3 HV4 HV5 HV6 HV7 HSY HOK HNAA HTA HB1U HGW
            intro X hX
            have HX := Lib.hid hX
            obtain ⟨As, cs0, g0, p0, rfl, hs1, hs2⟩ := hX.r.s.l
            obtain ⟨ga, hga, _, lga, hca⟩ := ownsF_get hs1 (by omega)
            subst hga
            obtain ⟨Zt, hgt⟩ := hs2 K (by omega)
            obtain ⟨gt, hgte⟩ : ∃ g, g = g0 K := ⟨_, rfl⟩
            rw [← hgte] at hgt
            obtain ⟨bw, hbw, _, lbw, hcw⟩ := ownsF_get hX.wl (by omega)
            subst hbw
            have HC7 : Hid (X.cell? ⟨gr, 7, none⟩ = some (.slice (some ⟨ga, 0, none⟩) (K + 1) cs0) ∧ X.cell? ⟨ga, K, none⟩ = some (.slice (some ⟨gt, 0, none⟩) N (p0 K)) ∧ gr < X.heap.size ∧ ga < X.heap.size ∧ gt < X.heap.size) := Lib.hid ⟨hX.r.r.cell 7, by
              have h := hca (K * 1 + 0) (.slice (some ⟨g0 K, 0, none⟩) N (p0 K)) (by rw [flL_get (f := fun t => [Value.slice (some ⟨g0 t, 0, none⟩) N (p0 t)]) (fun _ => rfl) (by omega) 0 (by decide)]; rfl)
              rw [show K * 1 + 0 = K by omega, ← hgte] at h
              exact h, hX.r.r.lt, lga, hgt.lt⟩
            have HCZ : Hid (∀ i q, i < N → q < 4 → X.cell? ⟨gt, i * 4 + q, none⟩ = some (S2 K i q).v) := Lib.hid (fun i q hi hq => by
              have h4 : i * 4 + q < N * 4 := by have : i * 4 + 4 ≤ N * 4 := by rw [← Nat.succ_mul]; exact Nat.mul_le_mul_right _ hi
                                                omega
              rw [hgt.cell, List.getElem?_toArray, List.getElem?_append_left (by rw [flL_len (fun _ => wo4_len _)]; exact h4), flL_get (f := fun i => wo4 (S2 K i)) (fun _ => wo4_len _) hi q hq]
              exact wo4_at _ hq)
            have HCW : Hid (∀ t, t < K + 1 → X.cell? ⟨bw, 0 + t, none⟩ = some (H2 t).v) := Lib.hid (fun t ht => by
              have h := hcw (t * 1 + 0) (H2 t).v (by rw [flL_get (f := woL1 H2) (fun _ => rfl) ht 0 (by decide)]; rfl)
              rw [show t * 1 + 0 = 0 + t by omega] at h
              exact h)
            have HLW : Hid (bw < X.heap.size) := Lib.hid lbw
            clear hX hs1 hs2 lga hca hgt hgte hcw lbw
            go_wp2_with fail
            go_loopw [13] (fun iv wr => ∃ i : Nat, i ≤ N ∧ iv = .int .i64 (i : Int) ∧ Hid (Below X.heap.size X wr)) (fun iv _ => N - (intOf iv).toNat)
            case atStart => exact ⟨0, by omega, rfl, Lib.hid (Below.refl _ _)⟩
            case round =>
              obtain ⟨i, hi, rfl, HI⟩ := hrel
              by_cases hil : i < N
              · have di : decide ((i : Int) < (N : Int)) = true := decide_eq_true (by omega)
                go_wp2_with fail
                go_loopw [14] (fun sv wr => ∃ s : Nat, s ≤ N ∧ sv = .int .i64 (s : Int) ∧ Hid (Below X.heap.size X wr)) (fun sv _ => N - (intOf sv).toNat)
                case atStart => exact ⟨0, by omega, rfl, HI⟩
                case round =>
                  clear HI
                  obtain ⟨s, hs, rfl, HW⟩ := hrel
                  by_cases hsl : s < N
                  · have dS : decide ((s : Int) < (N : Int)) = true := decide_eq_true (by omega)
                    obtain ⟨x1, hx1⟩ : ∃ n, n = i + N := ⟨_, rfl⟩
                    obtain ⟨x2, hx2⟩ : ∃ n, n = x1 - s := ⟨_, rfl⟩
                    obtain ⟨D, hD⟩ : ∃ n, n = x2 % N := ⟨_, rfl⟩
                    obtain ⟨y1, hy1⟩ : ∃ n, n = s + N := ⟨_, rfl⟩
                    obtain ⟨y2, hy2⟩ : ∃ n, n = y1 - i := ⟨_, rfl⟩
                    obtain ⟨E, hE⟩ : ∃ n, n = y2 % N := ⟨_, rfl⟩
                    have hDd : D = distM N i ((0 / 2 : Nat) : Int) s := by rw [hD, hx2, hx1]; rfl
                    have hEd : E = distM N i ((2 / 2 : Nat) : Int) s := by rw [hE, hy2, hy1]; rfl
                    have lD : D < N := by rw [hD]; exact Nat.mod_lt _ (by omega)
                    have lE : E < N := by rw [hE]; exact Nat.mod_lt _ (by omega)
                    have a1 : (i : Int) + (N : Int) = (x1 : Int) := by omega
                    have a2 : (x1 : Int) - (s : Int) = (x2 : Int) := by omega
                    have a3 : (x2 : Int).tmod (N : Int) = (D : Int) := by rw [hD]; rfl
                    have a4 : (x2 : Int) % (N : Int) = (D : Int) := by rw [hD]; rfl
                    have b1 : (s : Int) + (N : Int) = (y1 : Int) := by omega
                    have b2 : (y1 : Int) - (i : Int) = (y2 : Int) := by omega
                    have b3 : (y2 : Int).tmod (N : Int) = (E : Int) := by rw [hE]; rfl
                    have b4 : (y2 : Int) % (N : Int) = (E : Int) := by rw [hE]; rfl
                    have n0 : N ≠ 0 := by omega
                    have w1 : IntKind.i64.wrap (x1 : Int) = (x1 : Int) := IntWalk.i64_in _ (by omega)
                    have w2 : IntKind.i64.wrap (x2 : Int) = (x2 : Int) := IntWalk.i64_in _ (by omega)
                    have w3 : IntKind.i64.wrap (D : Int) = (D : Int) := IntWalk.i64_in _ (by omega)
                    have w4' : IntKind.i64.wrap (y1 : Int) = (y1 : Int) := IntWalk.i64_in _ (by omega)
                    have w5 : IntKind.i64.wrap (y2 : Int) = (y2 : Int) := IntWalk.i64_in _ (by omega)
                    have w6 : IntKind.i64.wrap (E : Int) = (E : Int) := IntWalk.i64_in _ (by omega)
                    obtain ⟨x, hx⟩ : ∃ x, x = S2 K i 0 := ⟨_, rfl⟩
                    obtain ⟨y, hy⟩ : ∃ y, y = S2 K i 2 := ⟨_, rfl⟩
                    have ok0 := HX.out.ok K i 0 (by omega) hil (by decide)
                    have ok2 := HX.out.ok K i 2 (by omega) hil (by decide)
                    have sw0 := HX.out.r.s.s K i 0 (by omega) hil (by decide)
                    have sw2 := HX.out.r.s.s K i 2 (by omega) hil (by decide)
                    have cz0 := HCZ.out i 0 hil (by decide)
                    have cz2 := HCZ.out i 2 hil (by decide)
                    rw [← hx] at ok0 sw0 cz0
                    rw [← hy] at ok2 sw2 cz2
                    obtain ⟨xA, xm, xc, xR⟩ := x
                    obtain ⟨yA, ym, yc, yR⟩ := y
                    obtain ⟨e0, ok0⟩ := ok0
                    obtain ⟨e2, ok2⟩ := ok2
                    have e0 : xm = N := e0
                    have e2 : ym = N := e2
                    rw [e0] at cz0 sw0
                    rw [e2] at cz2 sw2
                    have ok0 : (xR s).ro = valM N ow K D s := by rw [hDd]; exact ok0 s hsl
                    have ok2 : (yR s).ro = valM N ow K E s := by rw [hEd]; exact ok2 s hsl
                    have sw0 : SR B X xA N xR := sw0
                    have sw2 : SR B X yA N yR := sw2
                    have HZ0 : Hid (X.cell? ⟨gt, i * 4, none⟩ = some (.slice xA N xc)) := Lib.hid cz0
                    have HZ2 : Hid (X.cell? ⟨gt, i * 4 + 2, none⟩ = some (.slice yA N yc)) := Lib.hid cz2
                    have HBX : Hid (B ≤ X.heap.size) := Lib.hid HX.out.r.B.2.2.2
                    have HXR : Hid (∀ u, Below X.heap.size X u → LiesR u u.heap.size xA N xR) := Lib.hid (fun u hu => sw0 u (KR.below HBX.out hu))
                    have HYR : Hid (∀ u, Below X.heap.size X u → LiesR u u.heap.size yA N yR) := Lib.hid (fun u hu => sw2 u (KR.below HBX.out hu))
                    have hvn : ∀ D, (valM N ow K D s).n ≤ 65536 := fun D => by
                      unfold valM
                      split
                      · exact Nat.zero_le _
                      · split
                        · exact Nat.le_trans (plR_n _ _) (by omega)
                        · exact Nat.le_trans (plR_n _ _) (by omega)
                    obtain ⟨ra, hra⟩ : ∃ r : Nat → Rw, r = fun D => if K < D then rwN else (H2 (K - D)).R s := ⟨_, rfl⟩
                    have hrar : ∀ D, (ra D).ro = if K < D then roN else plR N (ow (K - D) s).ro := fun D => by
                      rw [hra]
                      by_cases h : K < D
                      · simp only [h, if_true]; rfl
                      · simp only [h, if_false]; exact (HX.out.wt (K - D) (by omega)).2.2 s hsl
                    have HAT : Hid (∀ (D : Nat) (u : World), Below X.heap.size X u → Calls Try.prog 36 #[.slice (some ⟨bw, 0, none⟩) (K + 1) c2, .int .i64 ((K : Int) - (D : Int)), .int .i64 (s : Int)] u fun e w' => e = .returned (.agg (ra D).l.toArray) ∧ Below u.heap.size u w') := Lib.hid (fun D u hu => by
                      rw [hra]
                      by_cases h : K < D
                      · simp only [h, if_true]
                        exact at_neg _ _ _ (by omega) u
                      · simp only [h, if_false]
                        rw [show (K : Int) - (D : Int) = ((K - D : Nat) : Int) by omega]
                        have h1 := HX.out.wt (K - D) (by omega)
                        exact at_yes bw 0 N (K + 1) c2 (K - D) s H2 (by omega) hsl u (Nat.lt_of_lt_of_le HLW.out hu.size) (belowW hu (HCW.out (K - D) (by omega))) h1.2.1 ((h1.1.kr (KR.below HBX.out hu)).lies))
                    have hral : ∀ (D : Nat) (u : World), Below X.heap.size X u → LiesH u u.heap.size (ra D).A (ra D).n (ra D).T := fun D u hu => by
                      rw [hra]
                      by_cases h : K < D
                      · simp only [h, if_true]; exact LiesH.nil_
                      · simp only [h, if_false]; exact ((HX.out.wt (K - D) (by omega)).1.kr (KR.below HBX.out hu)).lies.t s hsl
                    have hran : ∀ D, (ra D).n ≤ 65536 := fun D => by
                      have h := congrArg Ro.n (hrar D)
                      rw [show (ra D).n = (ra D).ro.n from rfl, h]
                      split
                      · exact Nat.zero_le _
                      · exact Nat.le_trans (plR_n _ _) (by omega)
                    have heq : ∀ D, eqR (valM N ow K D s) (ra D).ro = true := fun D => by
                      rw [hrar]
                      unfold valM
                      by_cases h : K < D
                      · rw [if_pos h, if_pos h]; exact eqR_self _
                      · rw [if_neg h, if_neg h]
                        by_cases h2 : D = 0
                        · rw [if_pos h2, h2]; exact eqR_self _
                        · rw [if_neg h2]; exact plR2_eq _ _
                    have HS0 : Hid (∀ u : World, Below X.heap.size X u → Calls Try.prog 35 #[.agg (xR s).l.toArray, .agg (ra D).l.toArray] u fun e w' => e = .returned (.bool true) ∧ Below u.heap.size u w') := Lib.hid (fun u hu => by
                      have h := same14_is (xR s) (ra D) (by have h := congrArg Ro.n ok0; rw [show (xR s).n = (xR s).ro.n from rfl, h]; exact hvn D) (hran D) u ((HXR.out u hu).t s hsl) (hral D u hu)
                      rwa [ok0, heq] at h)
                    have HS2 : Hid (∀ u : World, Below X.heap.size X u → Calls Try.prog 35 #[.agg (yR s).l.toArray, .agg (ra E).l.toArray] u fun e w' => e = .returned (.bool true) ∧ Below u.heap.size u w') := Lib.hid (fun u hu => by
                      have h := same14_is (yR s) (ra E) (by have h := congrArg Ro.n ok2; rw [show (yR s).n = (yR s).ro.n from rfl, h]; exact hvn E) (hran E) u ((HYR.out u hu).t s hsl) (hral E u hu)
                      rwa [ok2, heq] at h)
                    obtain ⟨cA, cO, rfl, hcA, hcc⟩ := (HXR.out X (Below.refl _ _)).f (by omega)
                    obtain ⟨dA, dO, rfl, hdA, hdd⟩ := (HYR.out X (Below.refl _ _)).f (by omega)
                    have HRC : Hid (∀ u, Below X.heap.size X u → u.rangeAt cA (cO + s * 57) (xR s).l) := Lib.hid (fun u hu j v hv => (hu.cell (p := ⟨cA, _, none⟩) hcA).trans (hcc s hsl j v hv))
                    have HRD : Hid (∀ u, Below X.heap.size X u → u.rangeAt dA (dO + s * 57) (yR s).l) := Lib.hid (fun u hu j v hv => (hu.cell (p := ⟨dA, _, none⟩) hdA).trans (hdd s hsl j v hv))
                    have HWD : Hid (IntKind.i64.wrap ((K : Int) - (D : Int)) = (K : Int) - (D : Int) ∧ IntKind.i64.wrap ((K : Int) - (E : Int)) = (K : Int) - (E : Int)) := Lib.hid ⟨IntWalk.i64_in _ (by omega), IntWalk.i64_in _ (by omega)⟩
                    have HSI : Hid (s < N) := Lib.hid hsl
                    clear hcc hdd hcA hdA hra hrar hral hran heq hvn ok0 ok2 sw0 sw2 cz0 cz2 hx hy e0 e2 hx1 hx2 hD hy1 hy2 hE hDd hEd
                    have c7 := belowW HW.out HC7.out.1
                    have ca := belowW HW.out HC7.out.2.1
                    have z0' := belowW HW.out HZ0.out
                    have z2' := belowW HW.out HZ2.out
                    have l7 := Nat.lt_of_lt_of_le HC7.out.2.2.1 HW.out.size
                    have la := Nat.lt_of_lt_of_le HC7.out.2.2.2.1 HW.out.size
                    have lt' := Nat.lt_of_lt_of_le HC7.out.2.2.2.2 HW.out.size
                    have ix1 := fun W => idxSent (A := some ⟨ga, 0, none⟩) (n := K + 1) cs0 rfl (Nat.lt_succ_self K) W
                    have ix2 := fun W => idxOut (A := some ⟨gt, 0, none⟩) (n := N) (p0 K) rfl hil W
                    simp only [Nat.zero_add] at ix1 ix2
                    have ix3 : ∀ W, (Instr.indexAt 96 (.pointer (some ⟨gt, i * 4, none⟩)) (.int .i64 0)).run Try.prog W = .ok (.pointer (some ⟨gt, i * 4, none⟩)) W := fun W => idxW4 gt (i * 4) 0 (by decide) W
                    have ix4 : ∀ W, (Instr.indexAt 96 (.pointer (some ⟨gt, i * 4, none⟩)) (.int .i64 2)).run Try.prog W = .ok (.pointer (some ⟨gt, i * 4 + 2, none⟩)) W := fun W => idxW4 gt (i * 4) 2 (by decide) W
                    go_upto_region 34 with fail
                    clear c7 ca z0' z2' l7 la lt' ix1 ix2 ix3 ix4 a1 a2 a3 a4 b1 b2 b3 b4 w1 w2 w3 w4' w5 w6
                    refine Reg.wp_slots2 (fun tt => decide (134 ≤ tt) && decide (tt ≤ 171)) (Reg.KJ wr.heap.size [] []) (Reg.KJ.drew _ (by simp)) Reg.KJ.trans (by kernel_rfl) (by kernel_rfl) (by kernel_rfl) (fun zz => (Reg.tblK [
                      (134, .is (.slice (some ⟨cA, cO, none⟩) N xc)),
                      (135, .is (.int .i64 (N : Int))),
                      (136, .is (.int .i64 (N : Int))),
                      (137, .is (.bool false)),
                      (138, .is (.bool false)),
                      (139, .is (.slice (some ⟨dA, dO, none⟩) N yc)),
                      (140, .is (.int .i64 (N : Int))),
                      (141, .is (.int .i64 (N : Int))),
                      (142, .is (.bool false)),
                      (143, .is (.bool false)),
                      (144, .is (.bool false)),
                      (145, .is (.slice (some ⟨cA, cO, none⟩) N xc)),
                      (146, .is (.int .i64 (s : Int))),
                      (147, .is (.pointer (some ⟨cA, cO + s * 57, none⟩))),
                      (148, .is (.agg (xR s).l.toArray)),
                      (149, .is (.slice (some ⟨bw, 0, none⟩) (K + 1) c2)),
                      (150, .is (.int .i64 (K : Int))),
                      (151, .is (.int .i64 (D : Int))),
                      (152, .is (.int .i64 ((K : Int) - (D : Int)))),
                      (153, .is (.int .i64 (s : Int))),
                      (154, .is (.agg (ra D).l.toArray)),
                      (155, .is (.bool true)),
                      (156, .is (.bool false)),
                      (157, .is (.bool false)),
                      (158, .is (.bool false)),
                      (159, .is (.slice (some ⟨dA, dO, none⟩) N yc)),
                      (160, .is (.int .i64 (s : Int))),
                      (161, .is (.pointer (some ⟨dA, dO + s * 57, none⟩))),
                      (162, .is (.agg (yR s).l.toArray)),
                      (163, .is (.slice (some ⟨bw, 0, none⟩) (K + 1) c2)),
                      (164, .is (.int .i64 (K : Int))),
                      (165, .is (.int .i64 (E : Int))),
                      (166, .is (.int .i64 ((K : Int) - (E : Int)))),
                      (167, .is (.int .i64 (s : Int))),
                      (168, .is (.agg (ra E).l.toArray)),
                      (169, .is (.bool true)),
                      (170, .is (.bool false)),
                      (171, .is (.bool false))] zz).P) (fun zz => (Reg.tblK _ zz).on) (fun zz => (Reg.memK [] zz).P) (fun zz => (Reg.memK _ zz).on) ?_ ?_
                    · simp only [Reg.frame, Reg.over, Nat.reduceAdd, Nat.reduceLeDiff, decide_true, decide_false, if_true, Bool.false_eq_true, if_false, Bool.and_true, Bool.and_false]
                      refine ⟨?_, ?_, ?_, ?_, ?_, ?_, ?_, ?_, ?_, ?_, ?_, ?_, ?_, ?_, ?_, ?_, ?_, ?_, ?_, ?_, ?_, ?_, ?_, ?_, ?_, ?_, ?_, ?_, ?_, ?_, ?_, ?_, ?_, ?_, ?_, ?_, ?_, ?_, trivial⟩
                      · intro y u hku hd
                        refine wpOp_step rfl fun KK hK => ?_
                        go_simp
                        exact hK _ _ ⟨_, rfl, Reg.KJ.refl _, fun d hd => by cases hd; exact rfl, fun h => by cases h⟩
                      · intro y u hku hd
                        have h134 : y 134 = .slice (some ⟨cA, cO, none⟩) N xc := hd 0 (by decide)
                        refine wpOp_step rfl fun KK hK => ?_
                        simp only [h134] at hK ⊢
                        go_simp
                        exact hK _ _ ⟨_, rfl, Reg.KJ.refl _, fun d hd => by cases hd; exact rfl, fun h => by cases h⟩
                      · intro y u hku hd
                        refine wpOp_step rfl fun KK hK => ?_
                        go_simp
                        exact hK _ _ ⟨_, rfl, Reg.KJ.refl _, fun d hd => by cases hd; exact rfl, fun h => by cases h⟩
                      · intro y u hku hd
                        have h135 : y 135 = .int .i64 (N : Int) := hd 1 (by decide)
                        have h136 : y 136 = .int .i64 (N : Int) := hd 2 (by decide)
                        have hne : ((N : Int) != (N : Int)) = false := by simp
                        refine wpOp_step rfl fun KK hK => ?_
                        simp only [h135, h136] at hK ⊢
                        go_simp
                        exact hK _ _ ⟨_, rfl, Reg.KJ.refl _, fun d hd => by cases hd; exact rfl, fun h => by cases h⟩
                      · intro y u hku hd
                        have h137 : y 137 = .bool false := hd 3 (by decide)
                        refine wpOp_step rfl fun KK hK => ?_
                        simp only [h137] at hK ⊢
                        go_simp
                        exact hK _ _ ⟨_, rfl, Reg.KJ.refl _, fun d hd => by cases hd; exact rfl, fun h => by cases h⟩
                      · intro y u hku hd
                        have h138 : y 138 = .bool false := hd 4 (by decide)
                        refine wpOp_step rfl fun KK hK => ?_
                        simp only [h138] at hK ⊢
                        go_simp
                        exact hK _ _ ⟨_, rfl, Reg.KJ.refl _, fun d hd => by cases hd; exact rfl, fun h => by cases h⟩
                      · intro y u hku hd
                        have h139 : y 139 = .slice (some ⟨dA, dO, none⟩) N yc := hd 5 (by decide)
                        have h138 : y 138 = .bool false := hd 4 (by decide)
                        refine wpOp_step rfl fun KK hK => ?_
                        simp only [h139, h138] at hK ⊢
                        go_simp
                        exact hK _ _ ⟨_, rfl, Reg.KJ.refl _, fun d hd => by cases hd; exact rfl, fun h => by cases h⟩
                      · intro y u hku hd
                        have h138 : y 138 = .bool false := hd 4 (by decide)
                        refine wpOp_step rfl fun KK hK => ?_
                        simp only [h138] at hK ⊢
                        go_simp
                        exact hK _ _ ⟨_, rfl, Reg.KJ.refl _, fun d hd => by cases hd; exact rfl, fun h => by cases h⟩
                      · intro y u hku hd
                        have h140 : y 140 = .int .i64 (N : Int) := hd 6 (by decide)
                        have h141 : y 141 = .int .i64 (N : Int) := hd 7 (by decide)
                        have h138 : y 138 = .bool false := hd 4 (by decide)
                        have hne : ((N : Int) != (N : Int)) = false := by simp
                        refine wpOp_step rfl fun KK hK => ?_
                        simp only [h140, h141, h138] at hK ⊢
                        go_simp
                        exact hK _ _ ⟨_, rfl, Reg.KJ.refl _, fun d hd => by cases hd; exact rfl, fun h => by cases h⟩
                      · intro y u hku hd
                        have h138 : y 138 = .bool false := hd 4 (by decide)
                        have h142 : y 142 = .bool false := hd 8 (by decide)
                        refine wpOp_step rfl fun KK hK => ?_
                        simp only [h138, h142] at hK ⊢
                        go_simp
                        exact hK _ _ ⟨_, rfl, Reg.KJ.refl _, fun d hd => by cases hd; exact rfl, fun h => by cases h⟩
                      · intro y u hku hd
                        have h143 : y 143 = .bool false := hd 9 (by decide)
                        refine wpOp_step rfl fun KK hK => ?_
                        simp only [h143] at hK ⊢
                        go_simp
                        exact hK _ _ ⟨_, rfl, Reg.KJ.refl _, fun d hd => by cases hd; exact rfl, fun h => by cases h⟩
                      · intro y u hku hd
                        have h144 : y 144 = .bool false := hd 10 (by decide)
                        refine wpOp_step rfl fun KK hK => ?_
                        simp only [h144] at hK ⊢
                        go_simp
                        exact hK _ _ ⟨_, rfl, Reg.KJ.refl _, fun d hd => by cases hd; exact rfl, fun h => by cases h⟩
                      · intro y u hku hd
                        have h144 : y 144 = .bool false := hd 10 (by decide)
                        refine wpOp_step rfl fun KK hK => ?_
                        simp only [h144] at hK ⊢
                        go_simp
                        exact hK _ _ ⟨_, rfl, Reg.KJ.refl _, fun d hd => by cases hd; exact rfl, fun h => by cases h⟩
                      · intro y u hku hd
                        have h145 : y 145 = .slice (some ⟨cA, cO, none⟩) N xc := hd 11 (by decide)
                        have h146 : y 146 = .int .i64 (s : Int) := hd 12 (by decide)
                        have h144 : y 144 = .bool false := hd 10 (by decide)
                        have hix := fun W => idxRows (A := some ⟨cA, cO, none⟩) (n := N) xc rfl HSI.out W
                        refine wpOp_step rfl fun KK hK => ?_
                        simp only [h145, h146, h144] at hK ⊢
                        go_simp
                        exact hK _ _ ⟨_, rfl, Reg.KJ.refl _, fun d hd => by cases hd; exact rfl, fun h => by cases h⟩
                      · intro y u hku hd
                        have h147 : y 147 = .pointer (some ⟨cA, cO + s * 57, none⟩) := hd 13 (by decide)
                        have h144 : y 144 = .bool false := hd 10 (by decide)
                        refine wpOp_step rfl fun KK hK => ?_
                        refine Reg.step_load_wantT (by simp only [h144]; kernel_rfl) 54 (.tmp 147) (by rfl) cA (cO + s * 57) (by exact h147) (xR s).l (HRC.out u (HW.out.trans (hku.below.mono HW.out.size))) _ Try.underlying54 rfl (by rw [size_row, Rw.l_len]) ?_
                        exact hK _ _ ⟨_, rfl, Reg.KJ.refl _, fun d hd => by cases hd; exact rfl, fun h => by cases h⟩
                      · intro y u hku hd
                        have h144 : y 144 = .bool false := hd 10 (by decide)
                        refine wpOp_step rfl fun KK hK => ?_
                        simp only [h144] at hK ⊢
                        go_simp
                        exact hK _ _ ⟨_, rfl, Reg.KJ.refl _, fun d hd => by cases hd; exact rfl, fun h => by cases h⟩
                      · intro y u hku hd
                        have h144 : y 144 = .bool false := hd 10 (by decide)
                        refine wpOp_step rfl fun KK hK => ?_
                        simp only [h144] at hK ⊢
                        go_simp
                        exact hK _ _ ⟨_, rfl, Reg.KJ.refl _, fun d hd => by cases hd; exact rfl, fun h => by cases h⟩
                      · intro y u hku hd
                        have h144 : y 144 = .bool false := hd 10 (by decide)
                        refine wpOp_step rfl fun KK hK => ?_
                        simp only [h144] at hK ⊢
                        go_simp
                        exact hK _ _ ⟨_, rfl, Reg.KJ.refl _, fun d hd => by cases hd; exact rfl, fun h => by cases h⟩
                      · intro y u hku hd
                        have h150 : y 150 = .int .i64 (K : Int) := hd 16 (by decide)
                        have h151 : y 151 = .int .i64 (D : Int) := hd 17 (by decide)
                        have h144 : y 144 = .bool false := hd 10 (by decide)
                        have hw := HWD.out.1
                        refine wpOp_step rfl fun KK hK => ?_
                        simp only [h150, h151, h144] at hK ⊢
                        go_simp
                        exact hK _ _ ⟨_, rfl, Reg.KJ.refl _, fun d hd => by cases hd; exact rfl, fun h => by cases h⟩
                      · intro y u hku hd
                        have h144 : y 144 = .bool false := hd 10 (by decide)
                        refine wpOp_step rfl fun KK hK => ?_
                        simp only [h144] at hK ⊢
                        go_simp
                        exact hK _ _ ⟨_, rfl, Reg.KJ.refl _, fun d hd => by cases hd; exact rfl, fun h => by cases h⟩
                      · intro y u hku hd
                        have h149 : y 149 = .slice (some ⟨bw, 0, none⟩) (K + 1) c2 := hd 15 (by decide)
                        have h152 : y 152 = .int .i64 ((K : Int) - (D : Int)) := hd 18 (by decide)
                        have h153 : y 153 = .int .i64 (s : Int) := hd 19 (by decide)
                        have h144 : y 144 = .bool false := hd 10 (by decide)
                        refine wpOp_step rfl fun KK hK => ?_
                        simp only [h149, h152, h153, h144] at hK ⊢
                        go_simp
                        (with_reducible refine (HAT.out D u (HW.out.trans (hku.below.mono HW.out.size))).mono ?_)
                        rintro e u' ⟨rfl, hb'⟩
                        exact hK _ _ ⟨_, rfl, Reg.KJ.grow (by simp) hku.size hb', fun d hd => by cases hd; exact rfl, fun h => by cases h⟩
                      · intro y u hku hd
                        have h148 : y 148 = .agg (xR s).l.toArray := hd 14 (by decide)
                        have h154 : y 154 = .agg (ra D).l.toArray := hd 20 (by decide)
                        have h144 : y 144 = .bool false := hd 10 (by decide)
                        refine wpOp_step rfl fun KK hK => ?_
                        simp only [h148, h154, h144] at hK ⊢
                        go_simp
                        (with_reducible refine (HS0.out u (HW.out.trans (hku.below.mono HW.out.size))).mono ?_)
                        rintro e u' ⟨rfl, hb'⟩
                        exact hK _ _ ⟨_, rfl, Reg.KJ.grow (by simp) hku.size hb', fun d hd => by cases hd; exact rfl, fun h => by cases h⟩
                      · intro y u hku hd
                        have h155 : y 155 = .bool true := hd 21 (by decide)
                        have h144 : y 144 = .bool false := hd 10 (by decide)
                        refine wpOp_step rfl fun KK hK => ?_
                        simp only [h155, h144] at hK ⊢
                        go_simp
                        exact hK _ _ ⟨_, rfl, Reg.KJ.refl _, fun d hd => by cases hd; exact rfl, fun h => by cases h⟩
                      · intro y u hku hd
                        have h144 : y 144 = .bool false := hd 10 (by decide)
                        have h156 : y 156 = .bool false := hd 22 (by decide)
                        refine wpOp_step rfl fun KK hK => ?_
                        simp only [h144, h156] at hK ⊢
                        go_simp
                        exact hK _ _ ⟨_, rfl, Reg.KJ.refl _, fun d hd => by cases hd; exact rfl, fun h => by cases h⟩
                      · intro y u hku hd
                        have h157 : y 157 = .bool false := hd 23 (by decide)
                        refine wpOp_step rfl fun KK hK => ?_
                        simp only [h157] at hK ⊢
                        go_simp
                        exact hK _ _ ⟨_, rfl, Reg.KJ.refl _, fun d hd => by cases hd; exact rfl, fun h => by cases h⟩
                      · intro y u hku hd
                        have h158 : y 158 = .bool false := hd 24 (by decide)
                        refine wpOp_step rfl fun KK hK => ?_
                        simp only [h158] at hK ⊢
                        go_simp
                        exact hK _ _ ⟨_, rfl, Reg.KJ.refl _, fun d hd => by cases hd; exact rfl, fun h => by cases h⟩
                      · intro y u hku hd
                        have h158 : y 158 = .bool false := hd 24 (by decide)
                        refine wpOp_step rfl fun KK hK => ?_
                        simp only [h158] at hK ⊢
                        go_simp
                        exact hK _ _ ⟨_, rfl, Reg.KJ.refl _, fun d hd => by cases hd; exact rfl, fun h => by cases h⟩
                      · intro y u hku hd
                        have h159 : y 159 = .slice (some ⟨dA, dO, none⟩) N yc := hd 25 (by decide)
                        have h160 : y 160 = .int .i64 (s : Int) := hd 26 (by decide)
                        have h158 : y 158 = .bool false := hd 24 (by decide)
                        have hix := fun W => idxRows (A := some ⟨dA, dO, none⟩) (n := N) yc rfl HSI.out W
                        refine wpOp_step rfl fun KK hK => ?_
                        simp only [h159, h160, h158] at hK ⊢
                        go_simp
                        exact hK _ _ ⟨_, rfl, Reg.KJ.refl _, fun d hd => by cases hd; exact rfl, fun h => by cases h⟩
                      · intro y u hku hd
                        have h161 : y 161 = .pointer (some ⟨dA, dO + s * 57, none⟩) := hd 27 (by decide)
                        have h158 : y 158 = .bool false := hd 24 (by decide)
                        refine wpOp_step rfl fun KK hK => ?_
                        refine Reg.step_load_wantT (by simp only [h158]; kernel_rfl) 54 (.tmp 161) (by rfl) dA (dO + s * 57) (by exact h161) (yR s).l (HRD.out u (HW.out.trans (hku.below.mono HW.out.size))) _ Try.underlying54 rfl (by rw [size_row, Rw.l_len]) ?_
                        exact hK _ _ ⟨_, rfl, Reg.KJ.refl _, fun d hd => by cases hd; exact rfl, fun h => by cases h⟩
                      · intro y u hku hd
                        have h158 : y 158 = .bool false := hd 24 (by decide)
                        refine wpOp_step rfl fun KK hK => ?_
                        simp only [h158] at hK ⊢
                        go_simp
                        exact hK _ _ ⟨_, rfl, Reg.KJ.refl _, fun d hd => by cases hd; exact rfl, fun h => by cases h⟩
                      · intro y u hku hd
                        have h158 : y 158 = .bool false := hd 24 (by decide)
                        refine wpOp_step rfl fun KK hK => ?_
                        simp only [h158] at hK ⊢
                        go_simp
                        exact hK _ _ ⟨_, rfl, Reg.KJ.refl _, fun d hd => by cases hd; exact rfl, fun h => by cases h⟩
                      · intro y u hku hd
                        have h158 : y 158 = .bool false := hd 24 (by decide)
                        refine wpOp_step rfl fun KK hK => ?_
                        simp only [h158] at hK ⊢
                        go_simp
                        exact hK _ _ ⟨_, rfl, Reg.KJ.refl _, fun d hd => by cases hd; exact rfl, fun h => by cases h⟩
                      · intro y u hku hd
                        have h164 : y 164 = .int .i64 (K : Int) := hd 30 (by decide)
                        have h165 : y 165 = .int .i64 (E : Int) := hd 31 (by decide)
                        have h158 : y 158 = .bool false := hd 24 (by decide)
                        have hw := HWD.out.2
                        refine wpOp_step rfl fun KK hK => ?_
                        simp only [h164, h165, h158] at hK ⊢
                        go_simp
                        exact hK _ _ ⟨_, rfl, Reg.KJ.refl _, fun d hd => by cases hd; exact rfl, fun h => by cases h⟩
                      · intro y u hku hd
                        have h158 : y 158 = .bool false := hd 24 (by decide)
                        refine wpOp_step rfl fun KK hK => ?_
                        simp only [h158] at hK ⊢
                        go_simp
                        exact hK _ _ ⟨_, rfl, Reg.KJ.refl _, fun d hd => by cases hd; exact rfl, fun h => by cases h⟩
                      · intro y u hku hd
                        have h163 : y 163 = .slice (some ⟨bw, 0, none⟩) (K + 1) c2 := hd 29 (by decide)
                        have h166 : y 166 = .int .i64 ((K : Int) - (E : Int)) := hd 32 (by decide)
                        have h167 : y 167 = .int .i64 (s : Int) := hd 33 (by decide)
                        have h158 : y 158 = .bool false := hd 24 (by decide)
                        refine wpOp_step rfl fun KK hK => ?_
                        simp only [h163, h166, h167, h158] at hK ⊢
                        go_simp
                        (with_reducible refine (HAT.out E u (HW.out.trans (hku.below.mono HW.out.size))).mono ?_)
                        rintro e u' ⟨rfl, hb'⟩
                        exact hK _ _ ⟨_, rfl, Reg.KJ.grow (by simp) hku.size hb', fun d hd => by cases hd; exact rfl, fun h => by cases h⟩
                      · intro y u hku hd
                        have h162 : y 162 = .agg (yR s).l.toArray := hd 28 (by decide)
                        have h168 : y 168 = .agg (ra E).l.toArray := hd 34 (by decide)
                        have h158 : y 158 = .bool false := hd 24 (by decide)
                        refine wpOp_step rfl fun KK hK => ?_
                        simp only [h162, h168, h158] at hK ⊢
                        go_simp
                        (with_reducible refine (HS2.out u (HW.out.trans (hku.below.mono HW.out.size))).mono ?_)
                        rintro e u' ⟨rfl, hb'⟩
                        exact hK _ _ ⟨_, rfl, Reg.KJ.grow (by simp) hku.size hb', fun d hd => by cases hd; exact rfl, fun h => by cases h⟩
                      · intro y u hku hd
                        have h169 : y 169 = .bool true := hd 35 (by decide)
                        have h158 : y 158 = .bool false := hd 24 (by decide)
                        refine wpOp_step rfl fun KK hK => ?_
                        simp only [h169, h158] at hK ⊢
                        go_simp
                        exact hK _ _ ⟨_, rfl, Reg.KJ.refl _, fun d hd => by cases hd; exact rfl, fun h => by cases h⟩
                      · intro y u hku hd
                        have h158 : y 158 = .bool false := hd 24 (by decide)
                        have h170 : y 170 = .bool false := hd 36 (by decide)
                        refine wpOp_step rfl fun KK hK => ?_
                        simp only [h158, h170] at hK ⊢
                        go_simp
                        exact hK _ _ ⟨_, rfl, Reg.KJ.refl _, fun d hd => by cases hd; exact rfl, fun h => by cases h⟩
                    · intro y u hku hall
                      have e171 : y 171 = .bool false := hall 37 (by decide)
                      simp only [Reg.frame, Reg.over, Nat.reduceAdd, Nat.reduceLeDiff, decide_true, decide_false, if_true, Bool.false_eq_true, if_false, Bool.and_true, Bool.and_false, e171]
                      have HKU := Lib.hid hku.below
                      clear hku hall
                      go_wp2_with fail
                      go_roundw
                      case rel => exact ⟨s + 1, by omega, by go_num, Lib.hid (HW.out.trans (HKU.out.mono HW.out.size))⟩
                      case measure => simp [intOf]; omega
                  · obtain rfl : N = s := by omega
                    have dS : decide ((N : Int) < (N : Int)) = false := decide_eq_false (by omega)
                    go_wp2_with fail
                    go_roundw
                    case rel => exact ⟨i + 1, by omega, by go_num, HW⟩
                    case measure => simp [intOf]; omega
              · obtain rfl : N = i := by omega
                have di : decide ((N : Int) < (N : Int)) = false := decide_eq_false (by omega)
                go_wp2_with fail
                go_roundw
                case rel => exact ⟨K + 1, by omega, by go_num, _, c2, H2, _, L3, onT, S2, rfl, Lib.hid (HX.out.up HI.out)⟩
                case measure => simp [intOf]; omega
        · obtain rfl : N4 = K := by omega
          have dK : decide ((N4 : Int) < (N4 : Int)) = false := decide_eq_false (by omega)
          go_wp2_with (go_at_call 12; (with_reducible refine (lives_tk _).mono ?_); rintro e w7 ⟨rfl, b7⟩)
          go_ret
          exact ⟨rfl, below_then HT.out.b b7⟩
end Go.Proofs.Ytdbljggjddnjcaa

