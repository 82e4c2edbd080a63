/-
  The walk of the law AgesMiddle: it returns true, and nothing that was there has turned. Conditions: the vector's reading.
-/
import Derived.Test.YtcangipaoancnaaAs10
import Derived.Test.YtcangipaoancnaaAsM2
import Derived.Test.YtcangipaoancnaaAsRun
namespace Go.Proofs.Ytcangipaoancnaa
open Go.RowKit
set_option linter.unusedVariables false
set_option linter.unusedSimpArgs false

set_option maxRecDepth 100000 in
theorem elemP3 : Try.prog.underlying 126 = some (.array (Try.prog.arrayLen 126) (Try.prog.elem 126)) := by kernel_rfl
set_option maxRecDepth 100000 in
theorem idxP3 (b o j : Nat) (hj : j < 3) (w : World) :
    (Instr.indexAt 126 (.pointer (some ⟨b, o, none⟩)) (.int .i64 (j : Int))).run Try.prog w = .ok (.pointer (some ⟨b, o + j, none⟩)) w := by
  rw [run_indexAt_array (h := elemP3), show Try.prog.arrayLen 126 = 3 by kernel_rfl, if_pos (by omega), show Try.prog.elem 126 = 5 by kernel_rfl, show (sizeOf 5).run Try.prog w = .ok 1 w by kernel_rfl]
  simp [Result.andThen, Addr.add_lit]
set_option maxRecDepth 100000 in
theorem tailHelds (g off n c l : Nat) (h1 : l < n) (h2 : n ≤ c) (w : World) :
    (Instr.sliceAt 52 (.slice (some ⟨g, off, none⟩) n c) (some (.int .i64 (l : Int))) none none).run Try.prog w = .ok (.slice (some ⟨g, off + l * 56, none⟩) (n - l) (c - l)) w := by
  rw [run_sliceAt_slice w _ _ _ _ _ elemHelds, run_slice_l w 52 _ n c elemHelds .i64 (l : Int) (by omega) (by omega), show Try.prog.elem 52 = 102 by kernel_rfl, sizeHelds]
  simp only [Result.andThen, sliced]
  simp [Addr.add]
  rw [if_neg (by omega)]
  by_cases h0 : l = 0
  · simp [h0] <;> omega
  · simp [h0] <;> omega
/-- append of a list that lies anywhere, as one step of a region that draws its order. -/
theorem Reg.step_append_O {P : Program} {ops : Array Oper} {o : Oper} {a : Act} {w : World} {K : Act → World → Prop} {Q : Exit → Act → World → Prop} {E : Prop} (hgd : o.guard = none) (s x : Operand) (t : TypeId) (ho : o.op = .call { callee := .builtin .append, args := #[s, x], argTypes := #[t, t] })
    (base : Nat) (e : TypeId) (i : TypeInfo) (z : Value) (size bytes : Nat) (ht : P.underlying t = some (.slice e)) (hi : P.info? e = some i) (hz : i.zero = some z) (hsize : i.size = size) (hby : i.bytes = bytes) (hzs : z.cells.size = size) (h0 : 0 < size)
    (v : Value) (n : Nat) (xs : List Value) (hs : a.eval s = v) (hown : w.ownsRow base e size v n xs)
    (ad : Addr) (m p : Nat) (news : List Value) (hx : a.eval x = .slice (some ad) m p) (hl : news.length = m * size) (hB : ∀ j u, news[j]? = some u → w.cell? (ad.add j) = some u) (h1 : ∀ u ∈ news, u.oneCell' = true) (h63 : n + m ≤ maxLen) (hbytes : (n + m) * bytes ≤ 140737488355328) (hbase : base ≤ w.heap.size)
    (q : Nat) (hq : n + m = q) (h : ∀ A' c' w', w'.ownsRow base e size (.slice A' q c') q (xs ++ news) → Below base w w' → K (a.put o.dst (.slice A' q c')) w') : if Region.wanted o (yielded ops a.tmps) = true then Oper.wp P o a w K Q else E := by
  subst hq
  have hw : Region.wanted o (yielded ops a.tmps) = true := by simp [Region.wanted, hgd]
  rw [if_pos hw]
  obtain ⟨v', w', hrun, hown', hgr, _⟩ := run_append_own (P := P) w base t o.type e i z size bytes ht hi hz hsize hby hzs h0 v n xs hown ad m p news hl hB h1 h63 hbytes hbase
  have hb' : Below base w w' := (Below.refl _ w).grown hgr hbase (fun k e => by
    rcases hown.2 with ⟨hv, _⟩ | ⟨g, cap, cur, hv, hb, _⟩
    · rw [hv] at e; cases e
    · rw [hv] at e; simp [Value.ownBlock] at e; omega)
  obtain ⟨A', c', rfl⟩ : ∃ A c, v' = .slice A (n + m) c := by
    rcases hown'.2 with ⟨hv, hz⟩ | ⟨g, cap, cur, hv, _⟩
    · exact ⟨none, 0, by rw [hv]; congr 1; omega⟩
    · exact ⟨_, _, hv⟩
  unfold Oper.wp
  simp [execOp, ho, resolve, invoke, builtin, hs, hx, hrun, Result.andThen]
  exact h A' c' w' hown' hb'
theorem flL_rot (T : Nat → He) {N k : Nat} (hk : k ≤ N) : flL (fun i => heL (rotT T N k i)) N = flL (fun i => heL (T (k + i))) (N - k) ++ flL (fun i => heL (T i)) k := by
  have h : ∀ (f : Nat → List Value) a b, flL f (a + b) = flL f a ++ flL (fun i => f (a + i)) b := fun f a b => by
    unfold flL
    rw [List.range_add, List.flatMap_append, List.flatMap_map]
  have e := h (fun i => heL (rotT T N k i)) (N - k) k
  rw [show N - k + k = N by omega] at e
  rw [e]
  congr 1
  · exact flL_congr fun i hi => by unfold rotT; rw [if_pos hi]
  · exact flL_congr fun i hi => by unfold rotT; rw [if_neg (by omega), show N - k + i - (N - k) = i by omega]
set_option maxRecDepth 100000 in
set_option maxHeartbeats 8000000 in
theorem agesMiddle_walk (y0 y1 y2 : Int) (A : Option Addr) (m c : Nat) (T : Nat → He) (w : World) (f0 : 0 ≤ y0 ∧ y0 < 256) (f1 : 0 ≤ y1 ∧ y1 < 256) (f2 : 0 ≤ y2 ∧ y2 < 256) (hT : LiesH w w.heap.size A m T) (hm : m ≤ 9223372036854775807) (hmc : m ≤ c) (hA : A = none → m = 0 ∧ c = 0) :
    Calls Try.prog 11 #[.agg #[.int .u8 y0, .int .u8 y1, .int .u8 y2], .slice A m c] w fun e w' => e = .returned (.bool true) ∧ Below w.heap.size w w' := by
  obtain ⟨i0, hi0, hz0, hz1, hz2⟩ := info_parts infoHeld
  obtain ⟨z0, rfl, lz0⟩ : ∃ z : Nat, y0 = (z : Int) ∧ z < 256 := ⟨y0.toNat, by omega, by omega⟩
  obtain ⟨z1, rfl, lz1⟩ : ∃ z : Nat, y1 = (z : Int) ∧ z < 256 := ⟨y1.toNat, by omega, by omega⟩
  obtain ⟨z2, rfl, lz2⟩ : ∃ z : Nat, y2 = (z : Int) ∧ z < 256 := ⟨y2.toNat, by omega, by omega⟩
  obtain ⟨N3, hN3⟩ : ∃ n, n = z0 % 13 := ⟨_, rfl⟩
  obtain ⟨N, hN⟩ : ∃ n, n = 4 + N3 := ⟨_, rfl⟩
  have lN : 4 ≤ N ∧ N ≤ 16 := by omega
  have HN := Lib.hid lN
  have en : (z0 : Int).tmod 13 = (N3 : Int) := by rw [hN3]; rfl
  have en1 : IntKind.i64.wrap (z0 : Int) = (z0 : Int) := IntWalk.i64_in _ (by omega)
  have en2 : IntKind.i64.wrap (N3 : Int) = (N3 : Int) := IntWalk.i64_in _ (by omega)
  have en' : (4 : Int) + (N3 : Int) = (N : Int) := by omega
  have en3 : IntKind.i64.wrap (N : Int) = (N : Int) := IntWalk.i64_in _ (by omega)
  obtain ⟨bad, hbad⟩ : ∃ n, n = z1 % N := ⟨_, rfl⟩
  obtain ⟨k, hk⟩ : ∃ n, n = z2 % N := ⟨_, rfl⟩
  have lbad : bad < N := by rw [hbad]; exact Nat.mod_lt _ (by omega)
  have lk : k < N := by rw [hk]; exact Nat.mod_lt _ (by omega)
  have eb1 : (z1 : Int).tmod (N : Int) = (bad : Int) := by rw [hbad]; rfl
  have eb2 : (z1 : Int) % (N : Int) = (bad : Int) := by rw [hbad]; rfl
  have eb3 : IntKind.i64.wrap (z1 : Int) = (z1 : Int) := IntWalk.i64_in _ (by omega)
  have eb4 : IntKind.i64.wrap (bad : Int) = (bad : Int) := IntWalk.i64_in _ (by omega)
  have ek1 : (z2 : Int).tmod (N : Int) = (k : Int) := by rw [hk]; rfl
  have ek2 : (z2 : Int) % (N : Int) = (k : Int) := by rw [hk]; rfl
  have ek3 : IntKind.i64.wrap (z2 : Int) = (z2 : Int) := IntWalk.i64_in _ (by omega)
  have ek4 : IntKind.i64.wrap (k : Int) = (k : Int) := IntWalk.i64_in _ (by omega)
  have hN0 : N ≠ 0 := by omega
  have hN1 : (N : Int) ≠ 0 := by omega
  have HT := Lib.hid hT
  have HAN := Lib.hid hA
  clear hT hN3 hN hbad hk f0 f1 f2 hA
  go_enter Try.func11, Try.ntmps11
  go_upto_region 1 with fail
  refine wp_at (fun U => Blk U w.heap.size 126 #[.int .u8 (z0 : Int), .int .u8 (z1 : Int), .int .u8 (z2 : Int)] ∧ Below w.heap.size w U) ⟨Blk.new w _ _, below_al (Below.refl _ w) _⟩ ?_
  obtain ⟨gz, hgz⟩ : ∃ g, g = w.heap.size := ⟨_, rfl⟩
  rintro U ⟨h1, h2⟩
  have hi0' : ∀ W, (Instr.indexAt 126 (.pointer (some ⟨gz, 0, none⟩)) (.int .i64 0)).run Try.prog W = .ok (.pointer (some ⟨gz, 0, none⟩)) W := fun W => idxP3 gz 0 0 (by decide) W
  have hi1' : ∀ W, (Instr.indexAt 126 (.pointer (some ⟨gz, 0, none⟩)) (.int .i64 1)).run Try.prog W = .ok (.pointer (some ⟨gz, 1, none⟩)) W := fun W => idxP3 gz 0 1 (by decide) W
  have hi2' : ∀ W, (Instr.indexAt 126 (.pointer (some ⟨gz, 0, none⟩)) (.int .i64 2)).run Try.prog W = .ok (.pointer (some ⟨gz, 2, none⟩)) W := fun W => idxP3 gz 0 2 (by decide) W
  rw [← hgz] at h1
  rw [show (Value.pointer (some ⟨w.heap.size, 0, none⟩)) = .pointer (some ⟨gz, 0, none⟩) by rw [hgz]]
  clear hgz
  have HZ := Lib.hid h1
  have HB := Lib.hid h2
  have q0 := h1.cell 0
  have q1 := h1.cell 1
  have q2 := h1.cell 2
  simp at q0 q1 q2
  have lq := h1.lt
  clear h1 h2
  by_cases hmN : m < N
  · have dmN : decide ((m : Int) < (N : Int)) = true := decide_eq_true (by omega)
    go_wp2_with (go_at_call 42; (with_reducible refine (lives16_is _).mono ?_); rintro e w7 ⟨rfl, b7⟩)
    go_ret
    exact ⟨rfl, below_then HB.out b7⟩
  have dmN : decide ((m : Int) < (N : Int)) = false := decide_eq_false (by omega)
  by_cases hm40 : 40 < m
  · have dm40 : decide ((40 : Int) < (m : Int)) = true := decide_eq_true (by omega)
    go_wp2_with (go_at_call 42; (with_reducible refine (lives16_is _).mono ?_); rintro e w7 ⟨rfl, b7⟩)
    go_ret
    exact ⟨rfl, below_then HB.out b7⟩
  have dm40 : decide ((40 : Int) < (m : Int)) = false := decide_eq_false (by omega)
  obtain ⟨g, o, rfl, lg, hc⟩ := HT.out (by omega)
  have HC := Lib.hid hc
  have HLG := Lib.hid lg
  have hsl := fun W => headHeldsO g o m c N (by omega) W
  have HCM := Lib.hid (common_is N HN.out (some ⟨g, o, none⟩) N c N (by omega) (.inr ⟨g, o, rfl⟩) (by omega) (by omega) T U ((HT.out.on HB.out).less (by omega)))
  obtain ⟨com, hcom⟩ : ∃ x, x = comM N N T := ⟨_, rfl⟩
  have HCE := Lib.hid hcom
  rw [← hcom] at HCM
  clear hcom hc lg
  go_upto_region 11 with (go_at_call 43; (with_reducible refine HCM.out.mono ?_); rintro e u1 ⟨rfl, b1⟩; have HB1 := Lib.hid (below_then HB.out b1); have HZ1 := Lib.hid (HZ.out.on b1); clear b1)
  clear en en1 en2 en' eb1 eb2 eb3 eb4 q0 q1 q2 lq dmN dm40 hsl HCM hi0' hi1'
  have HKX : Hid ((z2 : Int).tmod (N : Int) = (k : Int) ∧ (z2 : Int) % (N : Int) = (k : Int) ∧ IntKind.i64.wrap (z2 : Int) = (z2 : Int) ∧ IntKind.i64.wrap (k : Int) = (k : Int)) := Lib.hid ⟨ek1, ek2, ek3, ek4⟩
  clear ek1 ek2 ek3 ek4
  go_wp2_with fail
  go_loopw [11, 8, 9, 10, 12] (fun iv lv hv mv av wr => ∃ i : Nat, i ≤ N ∧ iv = .int .i64 (i : Int) ∧ ∃ lo hi : Int, lv = .int .i64 lo ∧ hv = .int .i64 hi ∧ ∃ n : Nat, mv = .int .i64 (n : Int) ∧ Hid (n = (agesX T bad i).length ∧ n ≤ i ∧ MinMax (agesX T bad i) lo hi) ∧ Hid (Below u1.heap.size u1 wr)) (fun iv _ _ _ _ _ => N - (intOf iv).toNat)
  case atStart => exact ⟨0, by omega, rfl, -1, -1, rfl, rfl, 0, rfl, Lib.hid ⟨rfl, Nat.le_refl _, MinMax.nil⟩, Lib.hid (Below.refl _ _)⟩
  case round =>
    obtain ⟨i, hi, rfl, lo, hi2, rfl, rfl, n, rfl, HM, HW⟩ := hrel
    by_cases hlt : i < N
    · have di : decide ((i : Int) < (N : Int)) = true := decide_eq_true (by omega)
      have hbw := below_then HB1.out HW.out
      obtain ⟨b, hb⟩ : ∃ b, b = (T i).i := ⟨_, rfl⟩
      obtain ⟨a, ha⟩ : ∃ a, a = (T i).c.a := ⟨_, rfl⟩
      have c0 : wr.cell? ⟨g, o + i * 56, none⟩ = some (.bool b) := by
        have := (hbw.cell (p := ⟨g, o + i * 56 + 0, none⟩) HLG.out).trans (HC.out i (by omega) 0 (.bool (T i).i) rfl)
        rw [hb]; exact this
      have c1 : wr.cell? ⟨g, o + i * 56 + 1, none⟩ = some (.int .i64 a) := by
        rw [ha]
        exact (hbw.cell (p := ⟨g, o + i * 56 + 1, none⟩) HLG.out).trans (HC.out i (by omega) 1 (.int .i64 (T i).c.a) rfl)
      have lgw := Nat.lt_of_lt_of_le HLG.out hbw.size
      have hix := fun W => idxHelds (A := some ⟨g, o, none⟩) (n := N) c rfl hlt W
      have HNX : Hid (agesX T bad (i + 1) = agesX T bad i ++ (if (decide (i ≠ bad) && (b && agB a)) = true then [a] else [])) := Lib.hid (by rw [hb, ha]; rfl)
      clear hbw hb ha
      by_cases hb0 : i = bad
      · have db : ((i : Int) == (bad : Int)) = true := by simp [hb0]
        have HNO : Hid (agesX T bad (i + 1) = agesX T bad i) := Lib.hid (by rw [HNX.out]; simp [hb0])
        clear hb0
        go_wp2_with fail
        go_roundw
        case rel => exact ⟨i + 1, by omega, by go_num, lo, hi2, rfl, rfl, n, rfl, Lib.hid (by rw [HNO.out]; exact ⟨HM.out.1, by have := HM.out.2.1; omega, HM.out.2.2⟩), HW⟩
        case measure => simp [intOf]; omega
      have db : ((i : Int) == (bad : Int)) = false := by simp; omega
      cases b with
      | false =>
        have HNO : Hid (agesX T bad (i + 1) = agesX T bad i) := Lib.hid (by rw [HNX.out]; simp)
        go_wp2_with fail
        go_roundw
        case rel => exact ⟨i + 1, by omega, by go_num, lo, hi2, rfl, rfl, n, rfl, Lib.hid (by rw [HNO.out]; exact ⟨HM.out.1, by have := HM.out.2.1; omega, HM.out.2.2⟩), HW⟩
        case measure => simp [intOf]; omega
      | true =>
        by_cases ha0 : a < 0
        · have da : decide (a < 0) = true := decide_eq_true ha0
          have HNO : Hid (agesX T bad (i + 1) = agesX T bad i) := Lib.hid (by rw [HNX.out]; unfold agB; simp; omega)
          go_wp2_with fail
          go_roundw
          case rel => exact ⟨i + 1, by omega, by go_num, lo, hi2, rfl, rfl, n, rfl, Lib.hid (by rw [HNO.out]; exact ⟨HM.out.1, by have := HM.out.2.1; omega, HM.out.2.2⟩), HW⟩
          case measure => simp [intOf]; omega
        have da : decide (a < 0) = false := decide_eq_false ha0
        by_cases ha1 : 1099511627776 < a
        · have da1 : decide (1099511627776 < a) = true := decide_eq_true ha1
          have HNO : Hid (agesX T bad (i + 1) = agesX T bad i) := Lib.hid (by rw [HNX.out]; unfold agB; simp; omega)
          go_wp2_with fail
          go_roundw
          case rel => exact ⟨i + 1, by omega, by go_num, lo, hi2, rfl, rfl, n, rfl, Lib.hid (by rw [HNO.out]; exact ⟨HM.out.1, by have := HM.out.2.1; omega, HM.out.2.2⟩), HW⟩
          case measure => simp [intOf]; omega
        have da1 : decide (1099511627776 < a) = false := decide_eq_false ha1
        have HNO : Hid (agesX T bad (i + 1) = agesX T bad i ++ [a]) := Lib.hid (by rw [HNX.out, if_pos (by unfold agB; simp; omega)])
        have HAA := Lib.hid (show 0 ≤ a by omega)
        by_cases hl0 : lo < 0
        · have dl : decide (lo < 0) = true := decide_eq_true hl0
          have HLO : Hid ((if lo < 0 ∨ a < lo then a else lo) = a) := Lib.hid (if_pos (.inl hl0))
          clear hl0 ha0 ha1
          have wn : IntKind.i64.wrap ((n : Int) + 1) = ((n + 1 : Nat) : Int) := by rw [IntWalk.i64_in _ (by have := HM.out.2.1; omega)]; omega
          go_wp2_with fail
          go_roundw
          case rel => exact ⟨i + 1, by omega, by go_num, a, max hi2 a, rfl, rfl, n + 1, by first | rfl | simp, Lib.hid (by rw [HNO.out]; refine ⟨by rw [List.length_append, ← HM.out.1]; rfl, by have := HM.out.2.1; omega, ?_⟩; have h := HM.out.2.2.push HAA.out; rwa [HLO.out] at h), HW⟩
          case measure => simp [intOf]; omega
        have dl : decide (lo < 0) = false := decide_eq_false hl0
        by_cases hl1 : a < lo
        · have dl1 : decide (a < lo) = true := decide_eq_true hl1
          have HLO : Hid ((if lo < 0 ∨ a < lo then a else lo) = a) := Lib.hid (if_pos (.inr hl1))
          clear hl0 ha0 ha1 hl1
          have wn : IntKind.i64.wrap ((n : Int) + 1) = ((n + 1 : Nat) : Int) := by rw [IntWalk.i64_in _ (by have := HM.out.2.1; omega)]; omega
          go_wp2_with fail
          go_roundw
          case rel => exact ⟨i + 1, by omega, by go_num, a, max hi2 a, rfl, rfl, n + 1, by first | rfl | simp, Lib.hid (by rw [HNO.out]; refine ⟨by rw [List.length_append, ← HM.out.1]; rfl, by have := HM.out.2.1; omega, ?_⟩; have h := HM.out.2.2.push HAA.out; rwa [HLO.out] at h), HW⟩
          case measure => simp [intOf]; omega
        have dl1 : decide (a < lo) = false := decide_eq_false hl1
        have HLO : Hid ((if lo < 0 ∨ a < lo then a else lo) = lo) := Lib.hid (if_neg (by omega))
        clear hl0 ha0 ha1 hl1
        have wn : IntKind.i64.wrap ((n : Int) + 1) = ((n + 1 : Nat) : Int) := by rw [IntWalk.i64_in _ (by have := HM.out.2.1; omega)]; omega
        go_wp2_with fail
        go_roundw
        case rel => exact ⟨i + 1, by omega, by go_num, lo, max hi2 a, rfl, rfl, n + 1, by first | rfl | simp, Lib.hid (by rw [HNO.out]; refine ⟨by rw [List.length_append, ← HM.out.1]; rfl, by have := HM.out.2.1; omega, ?_⟩; have h := HM.out.2.2.push HAA.out; rwa [HLO.out] at h), HW⟩
        case measure => simp [intOf]; omega
    · obtain rfl : N = i := by omega
      have di : decide ((N : Int) < (N : Int)) = false := decide_eq_false (by omega)
      obtain ⟨m1, m2⟩ := com_middle (T := T) (bad := bad) HN.out.1 HM.out.2.2
      rw [← HCE.out, ← HM.out.1] at m1 m2
      have HB2 := Lib.hid (below_then HB1.out HW.out)
      have hz := (HZ1.out.on HW.out)
      have q2 := hz.cell 2
      simp at q2
      have lq := hz.lt
      obtain ⟨ek1, ek2, ek3, ek4⟩ := HKX.out
      obtain ⟨N2, hN2⟩ : ∃ n, n = N - 2 := ⟨_, rfl⟩
      obtain ⟨N1, hN1'⟩ : ∃ n, n = N - 1 := ⟨_, rfl⟩
      have eN2 : (N : Int) - 2 = (N2 : Int) := by omega
      have eN1 : (N : Int) - 1 = (N1 : Int) := by omega
      have wN2 : IntKind.i64.wrap (N2 : Int) = (N2 : Int) := IntWalk.i64_in _ (by omega)
      have wN1 : IntKind.i64.wrap (N1 : Int) = (N1 : Int) := IntWalk.i64_in _ (by omega)
      rw [← hN2] at m1
      rw [← hN1'] at m2
      clear hN2 hN1' hz
      have hs1 := fun W => tailHelds g o N c k lk (by omega) W
      have hs2 := fun W => headHeldsO g o N c k (by omega) W
      have HLV := Lib.hid fun u => lives16_is u
      have HN1R : Hid (∀ j v, (flL (fun i => heL (T (k + i))) (N - k))[j]? = some v → wr.cell? ((⟨g, o + k * 56, none⟩ : Addr).add j) = some v) := Lib.hid (fun j v hv => by
        have hj : j < (N - k) * 56 := by have := (List.getElem?_eq_some_iff.1 hv).1; rwa [flL_len (fun _ => heL_len _)] at this
        have hd : j = j / 56 * 56 + j % 56 := by omega
        have hq : j / 56 < N - k := by omega
        rw [hd, flL_get (f := fun i => heL (T (k + i))) (fun _ => heL_len _) hq (j % 56) (Nat.mod_lt _ (by decide))] at hv
        rw [Addr.add_mid]
        refine (HB2.out.cell (p := ⟨g, _, none⟩) HLG.out).trans ?_
        have h3 := HC.out (k + j / 56) (by omega) (j % 56) v hv
        rwa [show o + k * 56 + j = o + (k + j / 56) * 56 + j % 56 by omega])
      have HN2R : Hid (∀ u, Below wr.heap.size wr u → ∀ j v, (flL (fun i => heL (T i)) k)[j]? = some v → u.cell? ((⟨g, o, none⟩ : Addr).add j) = some v) := Lib.hid (fun u hu j v hv => by
        have hj : j < k * 56 := by have := (List.getElem?_eq_some_iff.1 hv).1; rwa [flL_len (fun _ => heL_len _)] at this
        have hd : j = j / 56 * 56 + j % 56 := by omega
        have hq : j / 56 < k := by omega
        rw [hd, flL_get (f := fun i => heL (T i)) (fun _ => heL_len _) hq (j % 56) (Nat.mod_lt _ (by decide))] at hv
        rw [Addr.add_mid]
        refine ((below_then HB2.out hu).cell (p := ⟨g, _, none⟩) HLG.out).trans ?_
        have h3 := HC.out (j / 56) (by omega) (j % 56) v hv
        rwa [show o + j = o + j / 56 * 56 + j % 56 by omega])
      have HCO : Hid (∀ (u : World) (A : Option Addr) (c' : Nat), u.ownsRow wr.heap.size 102 56 (.slice A N c') N ([] ++ flL (fun i => heL (T (k + i))) (N - k) ++ flL (fun i => heL (T i)) k) → Calls Try.prog 43 #[.int .i64 (N : Int), .slice A N c'] u fun e w' => e = .returned (.int .i64 com) ∧ Below u.heap.size u w') := Lib.hid (fun u A c' h => by
        rw [List.nil_append, ← flL_rot T (Nat.le_of_lt lk)] at h
        have h2 := common_is N HN.out A N c' N (by omega) (owns_shapeF h) (owns_cap h) (by have := HN.out; omega) (rotT T N k) u (liesH_owns h)
        rwa [com_rot (Nat.le_of_lt lk), ← HCE.out] at h2)
      have HOC : Hid (∀ (f : Nat → He) n, ∀ u ∈ flL (fun i => heL (f i)) n, u.oneCell' = true) := Lib.hid (fun f n u hu => by
        unfold flL at hu
        rw [List.mem_flatMap] at hu
        obtain ⟨i, _, h⟩ := hu
        exact heL_one _ u h)
      by_cases hc0 : 0 ≤ com
      · have dc : decide (0 ≤ com) = true := decide_eq_true hc0
        have dcn : decide (com < 0) = false := decide_eq_false (by omega)
        obtain ⟨p1, p2, p3⟩ := m1 hc0
        have dp1 : decide (n < N2) = false := decide_eq_false (by omega)
        have dp1c : (N2 ≤ n) = True := eq_true p1
        have dp2 : decide (com < lo) = false := decide_eq_false (by omega)
        have dp3 : decide (hi2 < com) = false := decide_eq_false (by omega)
        clear p1 p2 p3 m1
        by_cases hn : n = N1
        · have dn : ((n : Int) == (N1 : Int)) = true := by simp [hn]
          obtain ⟨_, p5⟩ := m2 hn
          by_cases hlh : lo = hi2
          · have dlh : (lo == hi2) = true := by simp [hlh]
            have dcl : (com != lo) = false := by simp [p5 hlh]
            clear hn hlh p5 m2 hc0
            go_upto_region 24 with fail
            clear dc dcn dp1 dp1c dp2 dp3 dn dlh dcl
            clear q2 lq ek1 ek2 ek3 ek4 eN2 eN1 wN2 wN1
            go_region_law (first
              | (refine Reg.step_append_O rfl (.const (.slice none 0 0)) (.tmp 127) 52 rfl wr.heap.size 102 i0 _ 56 136 elemHelds hi0 hz0 hz1 hz2 rfl (by decide) (.slice none 0 0) 0 [] rfl ownsF_nil ⟨g, o + k * 56, none⟩ (N - k) (c - k) (flL (fun i => heL (T (k + i))) (N - k)) (by simp [Act.eval, Act.put]) (flL_len (fun _ => heL_len _) _) HN1R.out (HOC.out _ _) (by unfold maxLen; omega) (by omega) (Nat.le_refl _) (N - k) (Nat.zero_add _) ?_; intro A1 c1 v1 ho1 hb1; have HO1 := Lib.hid ho1; have HV1 := Lib.hid (show Below wr.heap.size wr v1 by first | exact hb1 | exact ((Below.refl _ _).drew).trans hb1); clear ho1 hb1)
              | (refine Reg.step_append_O rfl (.tmp 128) (.tmp 131) 52 rfl wr.heap.size 102 i0 _ 56 136 elemHelds hi0 hz0 hz1 hz2 rfl (by decide) (.slice A1 (N - k) c1) (N - k) ([] ++ flL (fun i => heL (T (k + i))) (N - k)) (by simp [Act.eval, Act.put]) HO1.out ⟨g, o, none⟩ k c (flL (fun i => heL (T i)) k) (by simp [Act.eval, Act.put]) (flL_len (fun _ => heL_len _) _) (HN2R.out v1 HV1.out) (HOC.out _ _) (by unfold maxLen; omega) (by omega) HV1.out.size N (by omega) ?_; intro A2 c2 v2 ho2 hb2; have HO2 := Lib.hid ho2; have HV2 := Lib.hid (show Below wr.heap.size wr v2 from HV1.out.trans hb2); clear ho2 hb2)
              | (go_simp; go_at_call 43; (with_reducible refine (HCO.out _ A2 c2 HO2.out).mono ?_); rintro e v3 ⟨rfl, hb3⟩; have HV3 := Lib.hid (show Below wr.heap.size wr v3 from HV2.out.trans (hb3.mono HV2.out.size)); clear hb3)
              | (go_simp; go_at_call 42; (with_reducible refine (HLV.out _).mono ?_); rintro e v4 ⟨rfl, hb4⟩; have HV4 := Lib.hid (show Below wr.heap.size wr v4 from HV3.out.trans (hb4.mono HV3.out.size)); clear hb4))
            all_goals (
              simp only [Act.put, List.getElem_toArray, List.getElem_cons_zero, List.getElem_cons_succ, List.setIfInBounds_toArray, List.set_cons_zero, List.set_cons_succ, List.getElem?_toArray]
              go_wp2_with fail
              go_ret
              exact ⟨rfl, below_then HB2.out HV4.out⟩)
          · have dlh : (lo == hi2) = false := by simp [hlh]
            clear hn hlh p5 m2 hc0
            go_upto_region 24 with fail
            clear dc dcn dp1 dp1c dp2 dp3 dn dlh
            clear q2 lq ek1 ek2 ek3 ek4 eN2 eN1 wN2 wN1
            go_region_law (first
              | (refine Reg.step_append_O rfl (.const (.slice none 0 0)) (.tmp 127) 52 rfl wr.heap.size 102 i0 _ 56 136 elemHelds hi0 hz0 hz1 hz2 rfl (by decide) (.slice none 0 0) 0 [] rfl ownsF_nil ⟨g, o + k * 56, none⟩ (N - k) (c - k) (flL (fun i => heL (T (k + i))) (N - k)) (by simp [Act.eval, Act.put]) (flL_len (fun _ => heL_len _) _) HN1R.out (HOC.out _ _) (by unfold maxLen; omega) (by omega) (Nat.le_refl _) (N - k) (Nat.zero_add _) ?_; intro A1 c1 v1 ho1 hb1; have HO1 := Lib.hid ho1; have HV1 := Lib.hid (show Below wr.heap.size wr v1 by first | exact hb1 | exact ((Below.refl _ _).drew).trans hb1); clear ho1 hb1)
              | (refine Reg.step_append_O rfl (.tmp 128) (.tmp 131) 52 rfl wr.heap.size 102 i0 _ 56 136 elemHelds hi0 hz0 hz1 hz2 rfl (by decide) (.slice A1 (N - k) c1) (N - k) ([] ++ flL (fun i => heL (T (k + i))) (N - k)) (by simp [Act.eval, Act.put]) HO1.out ⟨g, o, none⟩ k c (flL (fun i => heL (T i)) k) (by simp [Act.eval, Act.put]) (flL_len (fun _ => heL_len _) _) (HN2R.out v1 HV1.out) (HOC.out _ _) (by unfold maxLen; omega) (by omega) HV1.out.size N (by omega) ?_; intro A2 c2 v2 ho2 hb2; have HO2 := Lib.hid ho2; have HV2 := Lib.hid (show Below wr.heap.size wr v2 from HV1.out.trans hb2); clear ho2 hb2)
              | (go_simp; go_at_call 43; (with_reducible refine (HCO.out _ A2 c2 HO2.out).mono ?_); rintro e v3 ⟨rfl, hb3⟩; have HV3 := Lib.hid (show Below wr.heap.size wr v3 from HV2.out.trans (hb3.mono HV2.out.size)); clear hb3)
              | (go_simp; go_at_call 42; (with_reducible refine (HLV.out _).mono ?_); rintro e v4 ⟨rfl, hb4⟩; have HV4 := Lib.hid (show Below wr.heap.size wr v4 from HV3.out.trans (hb4.mono HV3.out.size)); clear hb4))
            all_goals (
              simp only [Act.put, List.getElem_toArray, List.getElem_cons_zero, List.getElem_cons_succ, List.setIfInBounds_toArray, List.set_cons_zero, List.set_cons_succ, List.getElem?_toArray]
              go_wp2_with fail
              go_ret
              exact ⟨rfl, below_then HB2.out HV4.out⟩)
        · have dn : ((n : Int) == (N1 : Int)) = false := by simp; omega
          clear hn m2 hc0
          go_upto_region 24 with fail
          clear dc dcn dp1 dp1c dp2 dp3 dn
          clear q2 lq ek1 ek2 ek3 ek4 eN2 eN1 wN2 wN1
          go_region_law (first
            | (refine Reg.step_append_O rfl (.const (.slice none 0 0)) (.tmp 127) 52 rfl wr.heap.size 102 i0 _ 56 136 elemHelds hi0 hz0 hz1 hz2 rfl (by decide) (.slice none 0 0) 0 [] rfl ownsF_nil ⟨g, o + k * 56, none⟩ (N - k) (c - k) (flL (fun i => heL (T (k + i))) (N - k)) (by simp [Act.eval, Act.put]) (flL_len (fun _ => heL_len _) _) HN1R.out (HOC.out _ _) (by unfold maxLen; omega) (by omega) (Nat.le_refl _) (N - k) (Nat.zero_add _) ?_; intro A1 c1 v1 ho1 hb1; have HO1 := Lib.hid ho1; have HV1 := Lib.hid (show Below wr.heap.size wr v1 by first | exact hb1 | exact ((Below.refl _ _).drew).trans hb1); clear ho1 hb1)
            | (refine Reg.step_append_O rfl (.tmp 128) (.tmp 131) 52 rfl wr.heap.size 102 i0 _ 56 136 elemHelds hi0 hz0 hz1 hz2 rfl (by decide) (.slice A1 (N - k) c1) (N - k) ([] ++ flL (fun i => heL (T (k + i))) (N - k)) (by simp [Act.eval, Act.put]) HO1.out ⟨g, o, none⟩ k c (flL (fun i => heL (T i)) k) (by simp [Act.eval, Act.put]) (flL_len (fun _ => heL_len _) _) (HN2R.out v1 HV1.out) (HOC.out _ _) (by unfold maxLen; omega) (by omega) HV1.out.size N (by omega) ?_; intro A2 c2 v2 ho2 hb2; have HO2 := Lib.hid ho2; have HV2 := Lib.hid (show Below wr.heap.size wr v2 from HV1.out.trans hb2); clear ho2 hb2)
            | (go_simp; go_at_call 43; (with_reducible refine (HCO.out _ A2 c2 HO2.out).mono ?_); rintro e v3 ⟨rfl, hb3⟩; have HV3 := Lib.hid (show Below wr.heap.size wr v3 from HV2.out.trans (hb3.mono HV2.out.size)); clear hb3)
            | (go_simp; go_at_call 42; (with_reducible refine (HLV.out _).mono ?_); rintro e v4 ⟨rfl, hb4⟩; have HV4 := Lib.hid (show Below wr.heap.size wr v4 from HV3.out.trans (hb4.mono HV3.out.size)); clear hb4))
          all_goals (
            simp only [Act.put, List.getElem_toArray, List.getElem_cons_zero, List.getElem_cons_succ, List.setIfInBounds_toArray, List.set_cons_zero, List.set_cons_succ, List.getElem?_toArray]
            go_wp2_with fail
            go_ret
            exact ⟨rfl, below_then HB2.out HV4.out⟩)
      · have dc : decide (0 ≤ com) = false := decide_eq_false hc0
        have hn : n ≠ N1 := fun e => hc0 (m2 e).1
        have dn : ((n : Int) == (N1 : Int)) = false := by simp; omega
        clear hn m1 m2 hc0
        go_upto_region 24 with fail
        clear dc dn
        clear q2 lq ek1 ek2 ek3 ek4 eN2 eN1 wN2 wN1
        go_region_law (first
          | (refine Reg.step_append_O rfl (.const (.slice none 0 0)) (.tmp 127) 52 rfl wr.heap.size 102 i0 _ 56 136 elemHelds hi0 hz0 hz1 hz2 rfl (by decide) (.slice none 0 0) 0 [] rfl ownsF_nil ⟨g, o + k * 56, none⟩ (N - k) (c - k) (flL (fun i => heL (T (k + i))) (N - k)) (by simp [Act.eval, Act.put]) (flL_len (fun _ => heL_len _) _) HN1R.out (HOC.out _ _) (by unfold maxLen; omega) (by omega) (Nat.le_refl _) (N - k) (Nat.zero_add _) ?_; intro A1 c1 v1 ho1 hb1; have HO1 := Lib.hid ho1; have HV1 := Lib.hid (show Below wr.heap.size wr v1 by first | exact hb1 | exact ((Below.refl _ _).drew).trans hb1); clear ho1 hb1)
          | (refine Reg.step_append_O rfl (.tmp 128) (.tmp 131) 52 rfl wr.heap.size 102 i0 _ 56 136 elemHelds hi0 hz0 hz1 hz2 rfl (by decide) (.slice A1 (N - k) c1) (N - k) ([] ++ flL (fun i => heL (T (k + i))) (N - k)) (by simp [Act.eval, Act.put]) HO1.out ⟨g, o, none⟩ k c (flL (fun i => heL (T i)) k) (by simp [Act.eval, Act.put]) (flL_len (fun _ => heL_len _) _) (HN2R.out v1 HV1.out) (HOC.out _ _) (by unfold maxLen; omega) (by omega) HV1.out.size N (by omega) ?_; intro A2 c2 v2 ho2 hb2; have HO2 := Lib.hid ho2; have HV2 := Lib.hid (show Below wr.heap.size wr v2 from HV1.out.trans hb2); clear ho2 hb2)
          | (go_simp; go_at_call 43; (with_reducible refine (HCO.out _ A2 c2 HO2.out).mono ?_); rintro e v3 ⟨rfl, hb3⟩; have HV3 := Lib.hid (show Below wr.heap.size wr v3 from HV2.out.trans (hb3.mono HV2.out.size)); clear hb3)
          | (go_simp; go_at_call 42; (with_reducible refine (HLV.out _).mono ?_); rintro e v4 ⟨rfl, hb4⟩; have HV4 := Lib.hid (show Below wr.heap.size wr v4 from HV3.out.trans (hb4.mono HV3.out.size)); clear hb4))
        all_goals (
          simp only [Act.put, List.getElem_toArray, List.getElem_cons_zero, List.getElem_cons_succ, List.setIfInBounds_toArray, List.set_cons_zero, List.set_cons_succ, List.getElem?_toArray]
          go_wp2_with fail
          go_ret
          exact ⟨rfl, below_then HB2.out HV4.out⟩)
end Go.Proofs.Ytcangipaoancnaa

