/-
  The law CatchesRun: it returns true, and nothing that was there has turned. Conditions: the slices' readings, lengths within the capacities.
-/
import Derived.Test.YtpjcbfapkjipjaaCaR4
import Derived.Test.YtpjcbfapkjipjaaReg3
import Derived.Lib.MinMax
namespace Go.Proofs.Ytpjcbfapkjipjaa
open Go.RowKit Crc
set_option linter.unusedVariables false

theorem same5_is (f : Fr) (w : World) :
    Calls Try.prog 17 #[.agg #[.int .i64 f.o, .int .u8 f.k, .int .u8 f.s, .int .u32 f.q, .int .u32 f.v], .agg #[.int .i64 f.o, .int .u8 f.k, .int .u8 f.s, .int .u32 f.q, .int .u32 f.v]] w fun e w' => e = .returned (.bool true) ∧ Below w.heap.size w w' := by
  have hq := fun u => pay_eql f.k f.s f.q f.v f.k f.s f.q f.v u
  simp only [beq_self_eq_true, Bool.and_self] at hq
  go_enter Try.func17, Try.ntmps17
  go_wp2_with fail
  go_ret
  exact ⟨rfl, below_al (below_al (Below.refl _ _) _) _⟩
/-- Both catches, the program's behind n1 pairs, the reference's behind n2. -/
structure RJ (w0 : World) (g gr : Nat) (o : Int) (x y : Nat → Int) (n1 n2 : Nat) (u : World) : Prop where
  cat : Cat u g x y o n1
  rc : ∃ A c B d, RC u gr w0.heap.size o x y n2 n2 A c B d
  low : Below w0.heap.size w0 u
  gl : w0.heap.size ≤ g
section
variable {w0 u u' : World} {g gr n1 n2 k l : Nat} {o : Int} {x y : Nat → Int}
theorem RJ.on (h : RJ w0 g gr o x y n1 n2 u) (hb : Below u.heap.size u u') : RJ w0 g gr o x y n1 n2 u' := by
  obtain ⟨A, c, B, d, h2⟩ := h.rc
  exact ⟨h.cat.on hb, ⟨A, c, B, d, h2.on hb⟩, below_then h.low hb, h.gl⟩
theorem RC.but {base n m c d : Nat} {A B : Option Addr} {w w' : World} (h : RC w gr base o x y n m A c B d) (hk : But g w w') {cs : Array Value} (hB : Blk w g 57 cs) : RC w' gr base o x y n m A c B d :=
  ⟨h.lo, h.blk.but hk hB (by decide), owns_but h.ra hk hB (by decide), owns_but h.rb hk hB (by decide), h.ne⟩
/-- What a pair's step asks: one more, or nothing behind the last. -/
def StepQ (x y : Nat → Int) (o : Int) (k l : Nat) (a d r : Int) : Prop := (k < 114 ∧ l = k + 1 ∧ kn a = x k ∧ kn d = y k ∧ outC x y o k = r) ∨ (k = 114 ∧ l = 114 ∧ r = 0)
theorem jStepC {a d r : Int} (h : RJ w0 g gr o x y k n2 u) (hq : StepQ x y o k l a d r) :
    Calls Try.prog 12 #[.pointer (some ⟨g, 0, none⟩), .int .u8 a, .int .u8 d] u fun e w' => e = .returned (.int .u8 r) ∧ RJ w0 g gr o x y l n2 w' := by
  obtain ⟨A, c, B, d', h2⟩ := h.rc
  rcases hq with ⟨h1, rfl, hx, hy, hr⟩ | ⟨rfl, rfl, rfl⟩
  · exact (cStep a d h.cat h1 hx hy r hr).mono fun e w' ⟨q1, q2, q3⟩ => ⟨q1, q2, ⟨A, c, B, d', h2.but q3 h.cat⟩, h.low.trans (q3.low h.gl), h.gl⟩
  · exact (cDone a d h.cat).mono fun e w' ⟨q1, q2⟩ => ⟨q1, q2 ▸ h⟩
theorem jStepM {a d r : Int} (h : RJ w0 g gr o x y n1 k u) (hq : StepQ x y o k l a d r) :
    Calls Try.prog 13 #[.pointer (some ⟨gr, 0, none⟩), .int .u8 a, .int .u8 d] u fun e w' => e = .returned (.int .u8 r) ∧ RJ w0 g gr o x y n1 l w' := by
  obtain ⟨A, c, B, d', h2⟩ := h.rc
  rcases hq with ⟨h1, rfl, hx, hy, hr⟩ | ⟨rfl, rfl, rfl⟩
  · exact (rStep_is a d h2 h1 hx hy r hr).mono fun e w' ⟨q1, q2, q3, q4⟩ => ⟨q1, q4 _ _ _ (by decide) h.cat, q2, h.low.trans q3, h.gl⟩
  · exact (rStep_done a d h2).mono fun e w' ⟨q1, q2⟩ => ⟨q1, q2 ▸ h⟩
def RM (w0 : World) (g gr : Nat) (o : Int) (x y : Nat → Int) (k l : Nat) : Nat → World → Prop
  | 0, u => RJ w0 g gr o x y k k u
  | 1, u => RJ w0 g gr o x y l k u
  | _ + 2, u => RJ w0 g gr o x y l l u
theorem rm_two {cc : Nat} (h : RM w0 g gr o x y k l cc u) (hc : 2 ≤ cc) : RJ w0 g gr o x y l l u := by
  match cc, hc with
  | c + 2, _ => exact h
end
theorem rNewE (x y : Nat → Int) (o : Int) (w : World) (h0 : 0 ≤ o) (h1 : o < 8) (base : Nat) (hb : base ≤ w.heap.size) : Calls Try.prog 10 #[.int .i64 o] w fun e w' => ∃ g, e = .returned (.tuple #[.pointer (some ⟨g, 0, none⟩), .int .i64 0]) ∧ RC w' g base o x y 0 0 none 0 none 0 ∧ Below w.heap.size w w' :=
  (rNew_yes x y o w h0 h1 base hb).mono fun e w' ⟨a, b, c⟩ => ⟨_, a, b, c⟩
theorem crun_bad (o : Int) (A B : Option Addr) (n c m d : Nat) (w : World) (hn : n ≤ 300) (hm : m ≤ 300) (h : o < 0 ∨ 8 ≤ o) :
    Calls Try.prog 3 #[.int .i64 o, .slice A n c, .slice B m d] w fun e w' => e = .returned (.bool true) ∧ Below w.heap.size w w' := by
  have q1 : ¬ 300 < n := by omega
  have q2 : ¬ 300 < m := by omega
  have HN := Lib.hid (fun u => new_no o u h)
  have HR := Lib.hid (fun u => rNew_no o u h)
  clear hn hm h
  go_enter Try.func3, Try.ntmps3
  go_wp2_with (first
    | (go_at_call 9; (with_reducible refine (HN.out _).mono ?_); rintro e w1 ⟨rfl, rfl⟩)
    | (go_at_call 10; (with_reducible refine (HR.out _).mono ?_); rintro e w2 ⟨rfl, rfl⟩)
    | (go_at_call 8; (with_reducible refine (lives_ca _).mono ?_); rintro e w9 ⟨rfl, b9⟩))
  go_ret
  exact ⟨rfl, b9⟩
theorem crun_far (o : Int) (A B : Option Addr) (n c m d : Nat) (w : World) (h : 300 < n ∨ 300 < m) :
    Calls Try.prog 3 #[.int .i64 o, .slice A n c, .slice B m d] w fun e w' => e = .returned (.bool true) ∧ Below w.heap.size w w' := by
  by_cases q1 : 300 < n
  · clear h
    go_enter Try.func3, Try.ntmps3
    go_wp2_with (go_at_call 8; (with_reducible refine (lives_ca _).mono ?_); rintro e w9 ⟨rfl, b9⟩)
    go_ret
    exact ⟨rfl, b9⟩
  · have q2 : 300 < m := by omega
    clear h
    go_enter Try.func3, Try.ntmps3
    go_wp2_with (go_at_call 8; (with_reducible refine (lives_ca _).mono ?_); rintro e w9 ⟨rfl, b9⟩)
    go_ret
    exact ⟨rfl, b9⟩
set_option maxRecDepth 100000 in
set_option maxHeartbeats 1600000 in
theorem crun_main (o : Int) (A B : Option Addr) (n c m d : Nat) (N F : List Int) (w : World) (hN : Lies .u8 w w.heap.size A n N) (hF : Lies .u8 w w.heap.size B m F) (hn : n ≤ 300) (hm : m ≤ 300) (h0 : 0 ≤ o) (h1 : o < 8) :
    Calls Try.prog 3 #[.int .i64 o, .slice A n c, .slice B m d] w fun e w' => e = .returned (.bool true) ∧ Below w.heap.size w w' := by
  have q1 : ¬ 300 < n := by omega
  have q2 : ¬ 300 < m := by omega
  obtain ⟨x, hx⟩ : ∃ x, knF N = x := ⟨_, rfl⟩
  obtain ⟨y, hy⟩ : ∃ y, knF F = y := ⟨_, rfl⟩
  have HX := Lib.hid hx
  have HY := Lib.hid hy
  have HN := Lib.hid hN
  have HF := Lib.hid hF
  have HNW := Lib.hid (cNewE x y o w h0 h1)
  have HRN := Lib.hid (fun u hu => rNewE x y o u h0 h1 w.heap.size hu)
  obtain ⟨M, hM⟩ : ∃ M, max n m = M := ⟨_, rfl⟩
  have HMI := Lib.hid (show (max (n : Int) (m : Int)) = (M : Int) by omega)
  have HM3 := Lib.hid (show M ≤ 300 by omega)
  clear hN hF h0 h1 hx hy hM hn hm
  go_enter Try.func3, Try.ntmps3
  go_wp2_with (first
    | (go_at_call 9; (with_reducible refine HNW.out.mono ?_); rintro e w1 ⟨g, rfl, hg, hC, b1⟩)
    | (go_at_call 10; (with_reducible refine (HRN.out _ b1.size).mono ?_); rintro e w2 ⟨gr, rfl, hR, b2⟩))
  have HJ0 := Lib.hid (show RJ w g gr o x y 0 0 w2 from ⟨hC.on b2, ⟨_, _, _, _, hR⟩, below_then b1 b2, hg⟩)
  clear hC hR b1 b2 hg HNW HRN
  go_loopw [11] (fun iv wr => ∃ i : Nat, i ≤ M ∧ iv = .int .i64 i ∧ RJ w g gr o x y (min i 114) (min i 114) wr) (fun iv _ => M - (intOf iv).toNat)
  case atStart => exact ⟨0, Nat.zero_le _, rfl, HJ0.out⟩
  case round =>
    obtain ⟨i, hi, rfl, hJ⟩ := hrel
    have hmx := HMI.out
    have hM3 := HM3.out
    by_cases hlt : i < M
    · have hlti : (i : Int) < (M : Int) := by omega
      have HA1 := Lib.hid (at_is A n c N i wr (HN.out.on hJ.low) _ rfl)
      have HA2 := Lib.hid (at_is B m d F i wr (HF.out.on hJ.low) _ rfl)
      obtain ⟨r, hr⟩ : ∃ r, (if i < 114 then outC x y o i else 0) = r := ⟨_, rfl⟩
      obtain ⟨k, hk⟩ : ∃ k, min i 114 = k := ⟨_, rfl⟩
      obtain ⟨l, hl⟩ : ∃ l, min (i + 1) 114 = l := ⟨_, rfl⟩
      have HC := Lib.hid (show StepQ x y o k l (N.getD i 0) (F.getD i 0) r from by
        by_cases e : i < 114
        · rw [if_pos e] at hr
          obtain rfl : i = k := by omega
          exact .inl ⟨e, by omega, by rw [← HX.out]; rfl, by rw [← HY.out]; rfl, hr⟩
        · rw [if_neg e] at hr
          exact .inr ⟨by omega, by omega, hr.symm⟩)
      obtain ⟨a', ha'⟩ : ∃ a', a' = N.getD i 0 := ⟨_, rfl⟩
      obtain ⟨d', hd'⟩ : ∃ d', d' = F.getD i 0 := ⟨_, rfl⟩
      rw [← ha'] at HA1 HC
      rw [← hd'] at HA2 HC
      rw [hk] at hJ
      have HM0 := Lib.hid (show RM w g gr o x y k l 0 wr.drew from hJ.on (Below.refl _ _).drew)
      have HL := Lib.hid hl
      clear hr ha' hd' hJ hk hl
      go_wp2_with (first
        | (go_at_call 11; (with_reducible refine HA1.out.mono ?_); rintro e w3 ⟨rfl, rfl⟩)
        | (go_at_call 11; (with_reducible refine HA2.out.mono ?_); rintro e w4 ⟨rfl, rfl⟩))
      refine Reg.wp_steps (fun t => decide (65 ≤ t) && decide (t ≤ 83)) [3, 7, 11] (fun i => [0, 0, 0, 1, 0, 0, 0, 2, 2, 2, 2, 3, 2, 2, 2, 2, 2, 3, 3].getD i 0) (RM w g gr o x y k l) HM0.out (by kernel_rfl) (by kernel_rfl) (by kernel_rfl) (by decide) (by kernel_rfl) (by kernel_rfl) (by kernel_rfl) (fun zz => Reg.tblP [
        (65, fun v => v = .pointer (some ⟨g, 0, none⟩)),
        (66, fun v => v = .int .u8 a'),
        (67, fun v => v = .int .u8 d'),
        (68, fun v => v = .int .u8 r),
        (69, fun v => v = .pointer (some ⟨gr, 0, none⟩)),
        (70, fun v => v = .int .u8 a'),
        (71, fun v => v = .int .u8 d'),
        (72, fun v => v = .int .u8 r),
        (73, fun v => v = .bool false),
        (74, fun v => v = .bool false),
        (75, fun v => v = .pointer (some ⟨g, 0, none⟩)),
        (76, fun v => v = .int .i64 (l : Int)),
        (77, fun v => v = .pointer (some ⟨gr, 0, none⟩)),
        (78, fun v => v = .pointer (some ⟨gr, 0, none⟩)),
        (79, fun v => v = .pointer (some ⟨gr, 1, none⟩)),
        (80, fun v => ∃ A c, v = .slice A l c),
        (81, fun v => v = .int .i64 (l : Int)),
        (82, fun v => v = .bool false),
        (83, fun v => v = .bool false)] zz) ?_ ?_
      · simp only [Reg.frame, Reg.over, Nat.reduceAdd, Nat.reduceLeDiff, decide_true, decide_false, if_true, Bool.false_eq_true, if_false, Bool.and_true, Bool.and_false]
        refine ⟨?_, ?_, ?_, ?_, ?_, ?_, ?_, ?_, ?_, ?_, ?_, ?_, ?_, ?_, ?_, ?_, ?_, ?_, ?_, trivial⟩
        · intro xx cc u hM hc hlo hd
          refine wpOp_step rfl fun KK hK => ?_
          go_simp
          exact hK _ _ ⟨_, rfl, fun h => absurd h (by decide), fun _ => rfl, fun d hd => by cases hd; exact rfl⟩
        · intro xx cc u hM hc hlo hd
          refine wpOp_step rfl fun KK hK => ?_
          go_simp
          exact hK _ _ ⟨_, rfl, fun h => absurd h (by decide), fun _ => rfl, fun d hd => by cases hd; exact rfl⟩
        · intro xx cc u hM hc hlo hd
          refine wpOp_step rfl fun KK hK => ?_
          go_simp
          exact hK _ _ ⟨_, rfl, fun h => absurd h (by decide), fun _ => rfl, fun d hd => by cases hd; exact rfl⟩
        · intro xx cc u hM hc hlo hd
          have h65 : xx 65 = .pointer (some ⟨g, 0, none⟩) := hd 0 (by decide)
          have h66 : xx 66 = .int .u8 a' := hd 1 (by decide)
          have h67 : xx 67 = .int .u8 d' := hd 2 (by decide)
          obtain rfl := hc 0 rfl
          refine wpOp_step rfl fun KK hK => ?_
          simp only [h65, h66, h67] at hK ⊢
          go_simp
          refine (jStepC (h := hM) HC.out).mono ?_
          rintro e u' ⟨rfl, h'⟩
          have hM' : RM w g gr o x y k l (0 + 1) u' := h'
          exact hK _ _ ⟨_, rfl, fun _ => hM', fun h => absurd (by decide) h, fun d hd => by cases hd; exact rfl⟩
        · intro xx cc u hM hc hlo hd
          refine wpOp_step rfl fun KK hK => ?_
          go_simp
          exact hK _ _ ⟨_, rfl, fun h => absurd h (by decide), fun _ => rfl, fun d hd => by cases hd; exact rfl⟩
        · intro xx cc u hM hc hlo hd
          refine wpOp_step rfl fun KK hK => ?_
          go_simp
          exact hK _ _ ⟨_, rfl, fun h => absurd h (by decide), fun _ => rfl, fun d hd => by cases hd; exact rfl⟩
        · intro xx cc u hM hc hlo hd
          refine wpOp_step rfl fun KK hK => ?_
          go_simp
          exact hK _ _ ⟨_, rfl, fun h => absurd h (by decide), fun _ => rfl, fun d hd => by cases hd; exact rfl⟩
        · intro xx cc u hM hc hlo hd
          have h69 : xx 69 = .pointer (some ⟨gr, 0, none⟩) := hd 4 (by decide)
          have h70 : xx 70 = .int .u8 a' := hd 5 (by decide)
          have h71 : xx 71 = .int .u8 d' := hd 6 (by decide)
          obtain rfl := hc 1 rfl
          refine wpOp_step rfl fun KK hK => ?_
          simp only [h69, h70, h71] at hK ⊢
          go_simp
          refine (jStepM (h := hM) HC.out).mono ?_
          rintro e u' ⟨rfl, h'⟩
          have hM' : RM w g gr o x y k l (1 + 1) u' := h'
          exact hK _ _ ⟨_, rfl, fun _ => hM', fun h => absurd (by decide) h, fun d hd => by cases hd; exact rfl⟩
        · intro xx cc u hM hc hlo hd
          have h68 : xx 68 = .int .u8 r := hd 3 (by decide)
          have h72 : xx 72 = .int .u8 r := hd 7 (by decide)
          refine wpOp_step rfl fun KK hK => ?_
          simp only [h68, h72] at hK ⊢
          go_simp
          exact hK _ _ ⟨_, rfl, fun h => absurd h (by decide), fun _ => rfl, fun d hd => by cases hd; exact rfl⟩
        · intro xx cc u hM hc hlo hd
          have h73 : xx 73 = .bool false := hd 8 (by decide)
          refine wpOp_step rfl fun KK hK => ?_
          simp only [h73] at hK ⊢
          go_simp
          exact hK _ _ ⟨_, rfl, fun h => absurd h (by decide), fun _ => rfl, fun d hd => by cases hd; exact rfl⟩
        · intro xx cc u hM hc hlo hd
          have h74 : xx 74 = .bool false := hd 9 (by decide)
          refine wpOp_step rfl fun KK hK => ?_
          simp only [h74] at hK ⊢
          go_simp
          exact hK _ _ ⟨_, rfl, fun h => absurd h (by decide), fun _ => rfl, fun d hd => by cases hd; exact rfl⟩
        · intro xx cc u hM hc hlo hd
          have h75 : xx 75 = .pointer (some ⟨g, 0, none⟩) := hd 10 (by decide)
          have h74 : xx 74 = .bool false := hd 9 (by decide)
          obtain rfl := hc 2 rfl
          refine wpOp_step rfl fun KK hK => ?_
          simp only [h75, h74] at hK ⊢
          go_simp
          have hM0 : RJ w g gr o x y l l u := hM
          refine (cHad hM0.cat).mono ?_
          rintro e u' ⟨rfl, rfl⟩
          have hM' : RM w g gr o x y k l (2 + 1) u := hM0
          exact hK _ _ ⟨_, rfl, fun _ => hM', fun h => absurd (by decide) h, fun d hd => by cases hd; exact rfl⟩
        · intro xx cc u hM hc hlo hd
          have h74 : xx 74 = .bool false := hd 9 (by decide)
          refine wpOp_step rfl fun KK hK => ?_
          simp only [h74] at hK ⊢
          go_simp
          exact hK _ _ ⟨_, rfl, fun h => absurd h (by decide), fun _ => rfl, fun d hd => by cases hd; exact rfl⟩
        · intro xx cc u hM hc hlo hd
          have h77 : xx 77 = .pointer (some ⟨gr, 0, none⟩) := hd 12 (by decide)
          have h74 : xx 74 = .bool false := hd 9 (by decide)
          refine wpOp_step rfl fun KK hK => ?_
          simp only [h77, h74] at hK ⊢
          go_simp
          exact hK _ _ ⟨_, rfl, fun h => absurd h (by decide), fun _ => rfl, fun d hd => by cases hd; exact rfl⟩
        · intro xx cc u hM hc hlo hd
          have h78 : xx 78 = .pointer (some ⟨gr, 0, none⟩) := hd 13 (by decide)
          have h74 : xx 74 = .bool false := hd 9 (by decide)
          refine wpOp_step rfl fun KK hK => ?_
          simp only [h78, h74] at hK ⊢
          go_simp
          exact hK _ _ ⟨_, rfl, fun h => absurd h (by decide), fun _ => rfl, fun d hd => by cases hd; exact rfl⟩
        · intro xx cc u hM hc hlo hd
          have h79 : xx 79 = .pointer (some ⟨gr, 1, none⟩) := hd 14 (by decide)
          have h74 : xx 74 = .bool false := hd 9 (by decide)
          have hc2 := hlo 14 (by decide)
          have hM2 := rm_two hM hc2
          obtain ⟨A9, c9, B9, d9, hR9⟩ := hM2.rc
          obtain ⟨_, x1, _, xl⟩ := hR9.cs
          refine wpOp_step rfl fun KK hK => ?_
          simp only [h79, h74] at hK ⊢
          go_simp
          exact hK _ _ ⟨_, rfl, fun h => absurd h (by decide), fun _ => rfl, fun d hd => by cases hd; exact ⟨_, _, rfl⟩⟩
        · intro xx cc u hM hc hlo hd
          have k80 : (fun v => ∃ A c, v = .slice A l c : Value → Prop) (xx 80) := hd 15 (by decide)
          obtain ⟨A80, c80, h80⟩ := k80
          have h74 : xx 74 = .bool false := hd 9 (by decide)
          refine wpOp_step rfl fun KK hK => ?_
          simp only [h80, h74] at hK ⊢
          go_simp
          exact hK _ _ ⟨_, rfl, fun h => absurd h (by decide), fun _ => rfl, fun d hd => by cases hd; exact rfl⟩
        · intro xx cc u hM hc hlo hd
          have h76 : xx 76 = .int .i64 (l : Int) := hd 11 (by decide)
          have h81 : xx 81 = .int .i64 (l : Int) := hd 16 (by decide)
          have h74 : xx 74 = .bool false := hd 9 (by decide)
          refine wpOp_step rfl fun KK hK => ?_
          simp only [h76, h81, h74] at hK ⊢
          go_simp
          exact hK _ _ ⟨_, rfl, fun h => absurd h (by decide), fun _ => rfl, fun d hd => by cases hd; exact rfl⟩
        · intro xx cc u hM hc hlo hd
          have h74 : xx 74 = .bool false := hd 9 (by decide)
          have h82 : xx 82 = .bool false := hd 17 (by decide)
          refine wpOp_step rfl fun KK hK => ?_
          simp only [h74, h82] at hK ⊢
          go_simp
          exact hK _ _ ⟨_, rfl, fun h => absurd h (by decide), fun _ => rfl, fun d hd => by cases hd; exact rfl⟩
      · intro xx u hM hall
        have h83 : xx 83 = .bool false := hall 18 (by decide)
        have hJ2 : RJ w g gr o x y l l u := hM
        simp only [Reg.frame, Reg.over, Nat.reduceAdd, Nat.reduceLeDiff, decide_true, decide_false, if_true, Bool.false_eq_true, if_false, Bool.and_true, Bool.and_false, h83]
        have HJ2 := Lib.hid hJ2
        have hl2 : l ≤ 114 := by have := HL.out; omega
        have HCH := Lib.hid (cHigh hJ2.cat _ rfl _ rfl)
        have HRH := Lib.hid (fun u' (hb : Below u.heap.size u u') => (hJ2.on hb).rc.elim fun A h => h.elim fun c h => h.elim fun B h => h.elim fun d h => rHigh_is h _ rfl _ rfl)
        have HCU := Lib.hid (fun u' (hb : Below u.heap.size u u') => cUnlike (hJ2.on hb).cat _ rfl)
        have HRU := Lib.hid (fun u' (hb : Below u.heap.size u u') => (hJ2.on hb).rc.elim fun A h => h.elim fun c h => h.elim fun B h => h.elim fun d h => rUnlike_is h (by omega) _ rfl)
        obtain ⟨b, hb⟩ : ∃ b, hiB x y o l = b := ⟨_, rfl⟩
        obtain ⟨G, hG⟩ : ∃ G, hiF x y o l = G := ⟨_, rfl⟩
        obtain ⟨z, hz⟩ : ∃ z, unlF x y l = z := ⟨_, rfl⟩
        rw [hb, hG] at HCH HRH
        rw [hz] at HCU HRU
        have hbb : (b != b) = false := by simp
        have HSM := Lib.hid (fun u' => same5_is G u')
        clear hM hall hJ2 hl2 hb hG hz HM0 HC HA1 HA2
        by_cases e1 : i % 16 = 0
        · have e16 : ((i : Int) % 16 == 0) = true := by rw [beq_iff_eq]; omega
          go_wp2_with (first
            | (go_at_call 15; (with_reducible refine HCH.out.mono ?_); rintro e w5 ⟨rfl, b5⟩; have b5 := below_al b5 (.cells #[.int .i64 G.o, .int .u8 G.k, .int .u8 G.s, .int .u32 G.q, .int .u32 G.v] 42); have hf5 := Blk.new w5 42 #[.int .i64 G.o, .int .u8 G.k, .int .u8 G.s, .int .u32 G.q, .int .u32 G.v])
            | (go_at_call 16; (with_reducible refine (HRH.out _ b5).mono ?_); rintro e w6 ⟨rfl, b6⟩; have b6' := below_al b6 (.cells #[.int .i64 G.o, .int .u8 G.k, .int .u8 G.s, .int .u32 G.q, .int .u32 G.v] 46); have b7 := below_then b5 b6'; have hf6 := (hf5.on b6).alloc (.cells #[.int .i64 G.o, .int .u8 G.k, .int .u8 G.s, .int .u32 G.q, .int .u32 G.v] 46); have fl := hf6.lt; have f0 := hf6.cell 0; have f1 := hf6.cell 1; have f2 := hf6.cell 2; have f3 := hf6.cell 3; have f4 := hf6.cell 4; simp only [List.getElem?_toArray, List.getElem?_cons_zero, List.getElem?_cons_succ] at f0 f1 f2 f3 f4)
            | (go_at_call 17; (with_reducible refine (HSM.out _).mono ?_); rintro e w7 ⟨rfl, b8⟩; have b8 := below_then b7 b8)
            | (go_at_call 18; (with_reducible refine (HCU.out _ b8).mono ?_); rintro e w8 ⟨rfl, b9⟩; have b9 := below_then b8 b9)
            | (go_at_call 19; (with_reducible refine (HRU.out _ b9).mono ?_); rintro e w9 ⟨rfl, b10⟩; have b10 := below_then b9 b10))
          go_roundw
          case rel => exact ⟨i + 1, by omega, by go_num, by rw [HL.out]; exact HJ2.out.on b10⟩
          case measure => simp [intOf]; omega
        · by_cases e2 : 108 < i
          · have e16 : ((i : Int) % 16 == 0) = false := beq_eq_false_iff_ne.2 (by omega)
            have e108 : (108 : Int) < (i : Int) := by omega
            go_wp2_with (first
              | (go_at_call 15; (with_reducible refine HCH.out.mono ?_); rintro e w5 ⟨rfl, b5⟩; have b5 := below_al b5 (.cells #[.int .i64 G.o, .int .u8 G.k, .int .u8 G.s, .int .u32 G.q, .int .u32 G.v] 42); have hf5 := Blk.new w5 42 #[.int .i64 G.o, .int .u8 G.k, .int .u8 G.s, .int .u32 G.q, .int .u32 G.v])
              | (go_at_call 16; (with_reducible refine (HRH.out _ b5).mono ?_); rintro e w6 ⟨rfl, b6⟩; have b6' := below_al b6 (.cells #[.int .i64 G.o, .int .u8 G.k, .int .u8 G.s, .int .u32 G.q, .int .u32 G.v] 46); have b7 := below_then b5 b6'; have hf6 := (hf5.on b6).alloc (.cells #[.int .i64 G.o, .int .u8 G.k, .int .u8 G.s, .int .u32 G.q, .int .u32 G.v] 46); have fl := hf6.lt; have f0 := hf6.cell 0; have f1 := hf6.cell 1; have f2 := hf6.cell 2; have f3 := hf6.cell 3; have f4 := hf6.cell 4; simp only [List.getElem?_toArray, List.getElem?_cons_zero, List.getElem?_cons_succ] at f0 f1 f2 f3 f4)
              | (go_at_call 17; (with_reducible refine (HSM.out _).mono ?_); rintro e w7 ⟨rfl, b8⟩; have b8 := below_then b7 b8)
              | (go_at_call 18; (with_reducible refine (HCU.out _ b8).mono ?_); rintro e w8 ⟨rfl, b9⟩; have b9 := below_then b8 b9)
              | (go_at_call 19; (with_reducible refine (HRU.out _ b9).mono ?_); rintro e w9 ⟨rfl, b10⟩; have b10 := below_then b9 b10))
            go_roundw
            case rel => exact ⟨i + 1, by omega, by go_num, by rw [HL.out]; exact HJ2.out.on b10⟩
            case measure => simp [intOf]; omega
          · have e16 : ((i : Int) % 16 == 0) = false := beq_eq_false_iff_ne.2 (by omega)
            have e108 : ¬ (108 : Int) < (i : Int) := by omega
            clear HCH HRH HCU HRU HSM
            go_wp2_with fail
            go_roundw
            case rel => exact ⟨i + 1, by omega, by go_num, by rw [HL.out]; exact HJ2.out⟩
            case measure => simp [intOf]; omega
    · have hlti : (M : Int) ≤ (i : Int) := by omega
      have HJL := Lib.hid hJ.low
      clear hJ hlt
      go_wp2_with (go_at_call 8; (with_reducible refine (lives_ca _).mono ?_); rintro e w9 ⟨rfl, b9⟩)
      go_ret
      exact ⟨rfl, below_then HJL.out b9⟩
theorem catchesRun.catchesRun_walk (o : Int) (A : Option Addr) (n c : Nat) (N : List Int) (B : Option Addr) (m d : Nat) (F : List Int) (w : World) (_ : (Lit.int .i64 o).wf = true) (hN : Lies .u8 w w.heap.size A n N) (_ : n ≤ c ∧ c ≤ maxLen) (_ : ∀ z ∈ N, (Lit.int .u8 z).wf = true) (hF : Lies .u8 w w.heap.size B m F) (_ : m ≤ d ∧ d ≤ maxLen) (_ : ∀ z ∈ F, (Lit.int .u8 z).wf = true) :
    Calls Try.prog 3 #[.int .i64 o, .slice A n c, .slice B m d] w fun e w' => e = .returned (.bool true) ∧ Below w.heap.size w w' := by
  by_cases h1 : 300 < n ∨ 300 < m
  · exact crun_far o A B n c m d w h1
  · by_cases h2 : o < 0 ∨ 8 ≤ o
    · exact crun_bad o A B n c m d w (by omega) (by omega) h2
    · exact crun_main o A B n c m d N F w hN hF (by omega) (by omega) (by omega) (by omega)
end Go.Proofs.Ytpjcbfapkjipjaa

