/-
  What a law on a ring with one faulty node or link knows of memory, tick by tick. Conditions: the ring's reading.
-/
import Derived.Test.YtcangipaoancnaaRi6
import Derived.Deep.CutBlock
import Derived.Test.YtcangipaoancnaaOpenWd
import Derived.Test.YtcangipaoancnaaRi5
import Derived.Test.YtcangipaoancnaaRi7
import Derived.Test.YtcangipaoancnaaRiH
namespace Go.Proofs.Ytcangipaoancnaa
open Go.RowKit
set_option linter.unusedVariables false
set_option linter.unusedSimpArgs false

/-- Is a node the faulty one? -/
def badB (N : Nat) (F : Fa) (i : Nat) : Bool := !F.l && decide (F.a % N = i)
set_option maxRecDepth 100000 in
set_option maxHeartbeats 2000000 in
theorem bad_is (gr N i : Nat) (F : Fa) (VL VO VS : Value) (hN : 4 ≤ N ∧ N ≤ 16) (ha : F.a < 256) (w : World) (hr : Blk w gr 158 (rgL N F VL VO VS).toArray) :
    Calls Try.prog 35 #[.pointer (some ⟨gr, 0, none⟩), .int .i64 (i : Int)] w fun e w' => e = .returned (.bool (badB N F i)) ∧ Below w.heap.size w w' := by
  have c0 : w.cell? ⟨gr, 0, none⟩ = some (.int .i64 (N : Int)) := hr.cell 0
  have c1 : w.cell? ⟨gr, 1, none⟩ = some (.bool F.l) := hr.cell 1
  have c2 : w.cell? ⟨gr, 2, none⟩ = some (.int .u8 (F.a : Int)) := hr.cell 2
  have lr := hr.lt
  obtain ⟨ra, hra⟩ : ∃ n, n = F.a % N := ⟨_, rfl⟩
  have e1 : (F.a : Int).tmod (N : Int) = (ra : Int) := by rw [hra]; rfl
  have e2 : (F.a : Int) % (N : Int) = (ra : Int) := by rw [hra]; rfl
  have e3 : IntKind.i64.wrap (ra : Int) = (ra : Int) := IntWalk.i64_in _ (by have := Nat.mod_lt F.a (show 0 < N by omega); omega)
  have e4 : IntKind.i64.wrap (F.a : Int) = (F.a : Int) := IntWalk.i64_in _ (by omega)
  have hN0 : (N : Int) ≠ 0 := by omega
  have hN1 : N ≠ 0 := by omega
  have HE : Hid (badB N F i = (!F.l && ((ra : Int) == (i : Int)))) := Lib.hid (by unfold badB; rw [← hra]; congr 1; rw [Bool.eq_iff_iff]; simp; omega)
  obtain ⟨fl, hfl⟩ : ∃ b, b = F.l := ⟨_, rfl⟩
  rw [← hfl] at c1 HE
  obtain ⟨fa, hfa⟩ : ∃ n, n = F.a := ⟨_, rfl⟩
  rw [← hfa] at c2 e1 e2 e4
  clear hr hra hfl hfa ha
  cases fl with
  | true =>
    go_enter Try.func35, Try.ntmps35
    go_upto_region 1 with fail
    go_quiet (fail)
    go_wp2_with fail
    go_ret
    exact ⟨by rw [HE.out]; rfl, below_same _⟩
  | false =>
    go_enter Try.func35, Try.ntmps35
    go_upto_region 1 with fail
    go_quiet (fail)
    go_wp2_with fail
    go_ret
    exact ⟨by rw [HE.out]; rfl, below_same _⟩
set_option maxRecDepth 100000 in
set_option maxHeartbeats 2000000 in
theorem greatF_is (F : Fa) (hn : F.n ≤ 9223372036854775807) (w : World) (hf : LiesF w w.heap.size F.A F.n 59 fun i => (F.K i).l) :
    Calls Try.prog 29 #[.agg (faL F).toArray] w fun e w' => RetL (fun g => g = false → F.n < 900) e ∧ Below w.heap.size w w' := by
  have HR := Lib.hid hf
  clear hf
  obtain ⟨FA, hFA⟩ : ∃ A, A = F.A := ⟨_, rfl⟩
  obtain ⟨fn, hfn⟩ : ∃ A, A = F.n := ⟨_, rfl⟩
  obtain ⟨Z, hZ⟩ : ∃ Z, Z = (faL F).toArray := ⟨_, rfl⟩
  rw [← hFA, ← hfn] at HR
  rw [← hfn] at hn
  rw [← hZ, ← hfn]
  have HZ : Hid (∀ u b, Blk u b 83 Z → u.cell? ⟨b, 3, none⟩ = some (.slice FA fn F.c)) := Lib.hid (fun u b h => by rw [hZ] at h; rw [hFA, hfn]; exact h.cell 3)
  clear hFA hfn hZ
  go_enter Try.func29, Try.ntmps29
  go_upto_region 1 with fail
  refine wp_at (fun U => Blk U w.heap.size 83 Z ∧ Below w.heap.size w U) ⟨Blk.new w _ _, below_al (Below.refl _ w) _⟩ ?_
  rintro U ⟨h1, h2⟩
  have c3 := HZ.out U _ h1
  have l0 := h1.lt
  have HX := Lib.hid h1
  have HB := Lib.hid h2
  clear h1 h2
  have HC3 : Hid (∀ u, Below U.heap.size U u → u.cell? ⟨w.heap.size, 3, none⟩ = some (.slice FA fn F.c) ∧ w.heap.size < u.heap.size) := Lib.hid (fun u hu => ⟨HZ.out u _ (HX.out.on hu), (HX.out.on hu).lt⟩)
  clear HZ
  go_wp2_with fail
  go_loopw [3, 4] (fun sv iv wr => ∃ (k : Nat) (s : Int), k ≤ fn ∧ iv = .int .i64 (k : Int) ∧ sv = .int .i64 s ∧ Hid (900 ≤ fn → s = (fn : Int)) ∧ Hid (Below U.heap.size U wr)) (fun _ iv _ => fn - (intOf iv).toNat)
  case atStart => exact ⟨0, fn, by omega, rfl, rfl, Lib.hid fun _ => rfl, Lib.hid (Below.refl _ _)⟩
  case round =>
    clear c3 l0
    obtain ⟨k, s, hk, rfl, rfl, HS, HBW⟩ := hrel
    obtain ⟨c3, l0⟩ := HC3.out _ HBW.out
    by_cases hlt : k < fn
    · by_cases hs : s < 900
      · have h9 : fn < 900 := by
          by_cases h9 : fn < 900
          · exact h9
          · have := HS.out (by omega); omega
        obtain ⟨ba, oa, rfl, hba, hca⟩ := HR.out (by omega)
        have HL := Lib.hid (HB.out.trans (HBW.out.mono HB.out.size))
        have hix := fun W => idxActs (A := some ⟨ba, oa, none⟩) (n := fn) F.c rfl hlt W
        have cn : wr.cell? ⟨ba, oa + k * 59 + 58, none⟩ = some (.slice (F.K k).r.A (F.K k).r.n (F.K k).r.p) := by
          have := hca k hlt 58 (.slice (F.K k).r.A (F.K k).r.n (F.K k).r.p) (show ((F.K k).l)[58]? = some (.slice (F.K k).r.A (F.K k).r.n (F.K k).r.p) from ro_tab (F.K k).r.b (F.K k).r.c (F.K k).r.A (F.K k).r.n (F.K k).r.p)
          exact (HL.out.cell (p := ⟨ba, _, none⟩) hba).trans this
        have lb : ba < wr.heap.size := Nat.lt_of_lt_of_le hba HL.out.size
        clear hca hba
        go_wp2_with fail
        go_roundw
        case rel => exact ⟨k + 1, _, by omega, by go_num, rfl, Lib.hid fun h => absurd h (by omega), HBW⟩
        case measure => simp [intOf]; omega
      · have hs' : decide (s < 900) = false := by simpa using hs
        go_wp2_with fail
        go_ret
        refine ⟨⟨_, rfl, fun h => ?_⟩, HB.out.trans (HBW.out.mono HB.out.size)⟩
        have := of_decide_eq_false h
        omega
    · have hk' : decide ((k : Int) < fn) = false := by simp; omega
      go_wp2_with fail
      go_ret
      refine ⟨⟨_, rfl, fun h => ?_⟩, HB.out.trans (HBW.out.mono HB.out.size)⟩
      have h8 := of_decide_eq_false h
      by_cases h9 : fn < 900
      · exact h9
      · have := HS.out (by omega); omega
set_option maxRecDepth 100000 in
theorem idxRowsQ {A : Option Addr} {n : Nat} (c : Nat) {k b off : Nat} (hA : A = some ⟨b, off, none⟩) (hk : k < n) (w : World) :
    (Instr.indexAt 78 (.slice A n c) (.int .i64 (k : Int))).run Try.prog w = .ok (.pointer (some ⟨b, off + k, none⟩)) w := by
  subst hA
  rw [run_indexAt_slice (h := elemRowsL), if_pos (by omega), show Try.prog.elem 78 = 32 by kernel_rfl, show (sizeOf 32).run Try.prog w = .ok 1 w by kernel_rfl]
  simp [Result.andThen, Addr.add_lit]
set_option maxRecDepth 100000 in
set_option maxHeartbeats 2000000 in
theorem fits_is (B gr N i c : Nat) (F : Fa) (VL VO VS : Value) (A : Option Addr) (H : Nat → Wo) (hN : 4 ≤ N ∧ N ≤ 16) (hi : i < N) (w : World) (hr : Blk w gr 158 (rgL N F VL VO VS).toArray) (hh : w.ownsRow B 32 1 (.slice A N c) N (flL (woL1 H) N)) :
    Calls Try.prog 36 #[.pointer (some ⟨gr, 0, none⟩), .slice A N c, .int .i64 (i : Int)] w fun e w' => e = .returned (.bool (((H i).m : Int) == (N : Int))) ∧ Below w.heap.size w w' := by
  obtain ⟨ga, hA, _, lga, hga⟩ := ownsF_get hh (by omega)
  subst hA
  have c0 : w.cell? ⟨gr, 0, none⟩ = some (.int .i64 (N : Int)) := hr.cell 0
  have lr := hr.lt
  obtain ⟨X, hX⟩ : ∃ X, X = H i := ⟨_, rfl⟩
  have ci : w.cell? ⟨ga, i, none⟩ = some (.slice X.A X.m X.c) := by
    have h1 := hga (i * 1 + 0) (H i).v (by rw [flL_get (f := woL1 H) (fun _ => rfl) hi 0 (by decide)]; rfl)
    rw [show i * 1 + 0 = i by omega] at h1
    rw [hX]; exact h1
  rw [← hX]
  have hix := fun W => idxRowsQ (A := some ⟨ga, 0, none⟩) (n := N) c rfl hi W
  simp only [Nat.zero_add] at hix
  have d1 : ((N : Int) == (N : Int)) = true := by simp
  clear hr hh hga hX
  go_enter Try.func36, Try.ntmps36
  go_upto_region 1 with fail
  go_quiet (fail)
  go_wp2_with fail
  go_ret
  exact ⟨rfl, below_same _⟩
end Go.Proofs.Ytcangipaoancnaa

namespace Go.Proofs.Ytcangipaoancnaa
open Go.ChangeShapes Go.WideShapes Go.ChangeAt Go.RowKit Go.Deep
set_option linter.unusedVariables false
set_option linter.unusedSimpArgs false

/-- What is known of a fault that came in. -/
structure FaRd (W : World) (F : Fa) : Prop where
  a : F.a < 256
  w : F.w < 256
  n : F.n ≤ 9223372036854775807
  K : ∀ i, i < F.n → (F.K i).k < 256 ∧ (F.K i).s < 256
  f : LiesF W W.heap.size F.A F.n 59 fun i => (F.K i).l
  t : ∀ i, i < F.n → LiesH W W.heap.size (F.K i).r.A (F.K i).r.n (F.K i).r.T
section
variable {H : Type} {enc : TypeId × Value → H} {W : World} {base fuel : Nat} {v : Value} {d : DataW H} {p : List MemPlace} {x : DataW H × List MemPlace} {cs : List Value}
theorem nat_u8 {k : Int} (h : (Lit.int .u8 k).wf = true) : ∃ n : Nat, k = (n : Int) ∧ n < 256 := by
  have := bounds_u8 h
  exact ⟨k.toNat, by omega, by omega⟩
set_option maxRecDepth 100000 in
theorem open_act1 (h : DataW.trod enc Try.prog W 0 (fun _ => true) true fuel 154 cs = some x) : ∃ a : Ak, cs = a.l ∧ (a.k < 256 ∧ a.s < 256 ∧ TabIn W a.r.A a.r.n a.r.p a.r.T) := by
  obtain ⟨xs, m, _, _, hl, hn, hel⟩ := DataW.trod_struct Try.underlying154 h
  have hl : cs.length = 59 := hl.trans (by kernel_rfl)
  have hn3 : xs.length = 3 := hn
  match xs, hn3 with
  | [y0, y1, y2], _ =>
    obtain ⟨k, e0, _, w0⟩ := DataW.trod_int Try.underlying5 (hel 0 _ rfl)
    obtain ⟨s, e1, _, w1⟩ := DataW.trod_int Try.underlying5 (hel 1 _ rfl)
    obtain ⟨r, e2, w2⟩ := open_rowR1 (hel 2 _ rfl)
    rw [show Try.prog.cellsOf _ = 1 by kernel_rfl] at e0 e1
    rw [show Try.prog.cellsOf _ = 57 by kernel_rfl] at e2
    obtain ⟨k, rfl, lk⟩ := nat_u8 w0
    obtain ⟨s, rfl, ls⟩ := nat_u8 w1
    exact ⟨⟨k, s, r⟩, cutR (o := 0) e0 (cutR e1 (cutE e2 (Nat.le_of_eq hl)) rfl) rfl, lk, ls, w2⟩
set_option maxRecDepth 100000 in
theorem open_fault1 (h : DataW.trod enc Try.prog W 0 (fun _ => true) true fuel 83 cs = some x) : ∃ F : Fa, cs = faL F ∧ FaRd W F := by
  obtain ⟨xs, q, _, _, hl, hn, hel⟩ := DataW.trod_struct Try.underlying83 h
  have hl : cs.length = 4 := hl.trans (by kernel_rfl)
  have hn4 : xs.length = 4 := hn
  match cs, hl, xs, hn4 with
  | [v0, v1, v2, v3], _, [y0, y1, y2, y3], _ =>
    have f3 := hel 3 _ rfl
    obtain ⟨l, e0, _⟩ := DataW.trod_bool Try.underlying4 (hel 0 _ rfl)
    obtain ⟨a, e1, _, w1⟩ := DataW.trod_int Try.underlying5 (hel 1 _ rfl)
    obtain ⟨b, e2, _, w2⟩ := DataW.trod_int Try.underlying5 (hel 2 _ rfl)
    rw [show Try.prog.cellsOf _ = 1 by kernel_rfl] at e0 e1 e2 f3
    obtain ⟨a, rfl, la⟩ := nat_u8 w1
    obtain ⟨b, rfl, lb⟩ := nat_u8 w2
    have f3' : DataW.trod enc Try.prog W 0 (fun _ => true) true q 81 [v3] = some y3 := f3
    obtain ⟨A, n, c, K, rfl, h1, h2, h3, _⟩ := open_rowsR (⟨0, 0, rwN⟩ : Ak) Ak.l 59 (by decide) Try.underlying81 (by kernel_rfl) Ak.l_len (Q := fun a => a.k < 256 ∧ a.s < 256 ∧ TabIn W a.r.A a.r.n a.r.p a.r.T) (fun fuel cs x h => open_act1 h) f3'
    have g0 : v0 = .bool l := by simpa using e0
    have g1 : v1 = .int .u8 (a : Int) := by simpa using e1
    have g2 : v2 = .int .u8 (b : Int) := by simpa using e2
    exact ⟨⟨l, a, b, A, n, c, K⟩, by rw [g0, g1, g2]; rfl, la, lb, h3, fun i hi => ⟨(h2 i hi).1, (h2 i hi).2.1⟩, h1, fun i hi => (h2 i hi).2.2.t⟩
set_option maxRecDepth 100000 in
theorem open_fault (hv : Value.okWide Try.prog W .any base 83 v) (h : DataW.Trod enc Try.prog W 0 (fun _ => true) true 83 v d p) :
    ∃ F : Fa, v = .agg (faL F).toArray ∧ FaRd W F := by
  obtain ⟨l, rfl, hl⟩ := agg_strR (n := 4) Try.underlying83 (by kernel_rfl) hv
  obtain ⟨fuel, hf⟩ := h
  obtain ⟨F, e, h1⟩ := open_fault1 (cs := l) (by simpa [Value.cells] using hf)
  exact ⟨F, by rw [e], h1⟩
end
end Go.Proofs.Ytcangipaoancnaa

namespace Go.Proofs.Ytcangipaoancnaa
open Go.RowKit
set_option linter.unusedVariables false
set_option linter.unusedSimpArgs false

theorem badB_no {N : Nat} {F : Fa} {s : Nat} (h : badB N F s = false) : F.l = true ∨ F.a % N ≠ s := by
  unfold badB at h
  by_cases hl : F.l = true
  · exact .inl hl
  · right
    intro e
    simp [hl, e] at h
theorem FaRd.fain {w V : World} {F : Fa} (h : FaRd w F) (hn : F.n < 900) (b : Below w.heap.size w V) : FaIn V.heap.size V F :=
  ⟨h.a, h.w, by omega, h.K, (h.f.low b).up b.size, fun i hi => ((h.t i hi).low b).up b.size⟩
/-- What is known of memory, K ticks through; Q: what is known of the lanes. -/
structure TG (w : World) (B gr gl cl go N : Nat) (F : Fa) (ow : Nat → Nat → Rw) (Q : Nat → (Nat → Ln) → (Nat → Bool) → (Nat → Nat → Nat → Wo) → Prop) (K : Nat) (A : Option Addr) (c : Nat) (H : Nat → Wo) (VS : Value) (L : Nat → Ln) (o : Nat → Bool) (S : Nat → Nat → Nat → Wo) (u : World) : Prop where
  r : RiS B u gr gl cl go N F VS L o K S
  ok : Q K L o S
  f : FaIn B u F
  wl : u.ownsRow B 32 1 (.slice A K c) K (flL (woL1 H) K)
  wt : ∀ t, t < K → OwR u (H t).A N (H t).R ∧ (H t).m = N ∧ ∀ s, s < N → ((H t).R s).ro = plR N (ow t s).ro
  b : Below w.heap.size w u
section
variable {w u v : World} {B gr gl cl go N K c : Nat} {F : Fa} {ow : Nat → Nat → Rw} {Q : Nat → (Nat → Ln) → (Nat → Bool) → (Nat → Nat → Nat → Wo) → Prop} {A : Option Addr} {H : Nat → Wo} {VS : Value} {L : Nat → Ln} {o : Nat → Bool} {S : Nat → Nat → Nat → Wo}
theorem FaIn.on (h : FaIn B u F) (hB : B ≤ u.heap.size) (b : Below u.heap.size u v) : FaIn B v F := h.low (b.mono hB)
theorem TG.up (h : TG w B gr gl cl go N F ow Q K A c H VS L o S u) (b : Below u.heap.size u v) : TG w B gr gl cl go N F ow Q K A c H VS L o S v :=
  ⟨h.r.on b, h.ok, h.f.on h.r.B.2.2.2 b, ownsF_on h.wl b, fun t ht => ⟨(h.wt t ht).1.kr (KR.below h.r.B.2.2.2 b), (h.wt t ht).2⟩, below_then h.b b⟩
/-- One more tick is put down. -/
theorem TG.app {A2 : Option Addr} {c2 : Nat} {X : Wo} (h : TG w B gr gl cl go N F ow Q K A c H VS L o S u) (hB : w.heap.size ≤ B) (bB : Below B u v) (kt : KeptBut u v [32]) (ho : v.ownsRow B 32 1 (.slice A2 (K + 1) c2) (K + 1) (flL (woL1 H) K ++ [X.v])) (hx : OwR u X.A N X.R ∧ X.m = N ∧ ∀ s, s < N → (X.R s).ro = plR N (ow K s).ro) :
    RiS B v gr gl cl go N F VS L o K S ∧ FaIn B v F ∧ v.ownsRow B 32 1 (.slice A2 (K + 1) c2) (K + 1) (flL (woL1 (updW H K X)) (K + 1)) ∧ (∀ t, t < K + 1 → OwR v (updW H K X t).A N (updW H K X t).R ∧ (updW H K X t).m = N ∧ ∀ s, s < N → ((updW H K X t).R s).ro = plR N (ow t s).ro) ∧ Below w.heap.size w v := by
  have kr : KR B u v := KR.kept bB kt (by decide) (by decide)
  have e : ∀ j, j ≠ K → updW H K X j = H j := fun j hj => if_neg hj
  have e2 : updW H K X K = X := if_pos rfl
  refine ⟨h.r.kept kt kr (fun t m => by simp at m; subst m; decide), h.f.low bB, ?_, fun t ht => ?_, h.b.trans (bB.mono hB)⟩
  · rw [flL_succ, show flL (woL1 (updW H K X)) K = flL (woL1 H) K from flL_congr fun j hj => by unfold woL1; rw [e j (by omega)], show woL1 (updW H K X) K = [X.v] by unfold woL1; rw [e2]]
    exact ho
  · by_cases ht2 : t = K
    · subst ht2; rw [e2]; exact ⟨hx.1.kr kr, hx.2⟩
    · rw [e t ht2]; exact ⟨(h.wt t (by omega)).1.kr kr, (h.wt t (by omega)).2⟩
end
end Go.Proofs.Ytcangipaoancnaa

