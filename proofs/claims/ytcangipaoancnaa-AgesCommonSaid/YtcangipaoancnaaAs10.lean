/-
  The law's examples of ages: it returns true. No condition.
-/
import Derived.Test.YtcangipaoancnaaAs9
import Derived.Test.YtcangipaoancnaaAsM
namespace Go.Proofs.Ytcangipaoancnaa
open Go.RowKit
set_option linter.unusedVariables false
set_option linter.unusedSimpArgs false

def ex0 (i : Nat) : Int := match i with | 0 => 5 | 1 => 9 | 2 => 7 | _ => 3
def ex1 (i : Nat) : Int := match i with | 0 => 5 | 1 => 9 | 2 => 7 | _ => -1
theorem com_at {N q : Nat} {T : Nat → He} {L : List Int} {x : Int} (h : agesOf T q = L) (hl : ¬ L.length < N - 1) (h1 : ltN L x ≤ (L.length - 1) / 2) (h2 : (L.length - 1) / 2 < leN L x) : comM N q T = x := by
  unfold comM
  rw [h, if_neg hl, List.getD_eq_getElem?_getD, srt_at h1 h2]
  rfl
theorem com_ex0 : comM 4 4 (fun i => vecH (ex0 i)) = 5 := com_at (L := [5, 9, 7, 3]) (by decide) (by decide) (by decide) (by decide)
theorem com_ex1 : comM 4 4 (fun i => vecH (ex1 i)) = 7 := com_at (L := [5, 9, 7]) (by decide) (by decide) (by decide) (by decide)
theorem com_ex2 : comM 4 2 (fun i => vecH (ex0 i)) = -1 := by decide
/-- A vector that was made, and its common age. -/
theorem common_vec {W : World} {base m q c N : Nat} {A : Option Addr} {a : Nat → Int} (hN : 4 ≤ N ∧ N ≤ 16) (hm : m ≤ 65536) (hq : q = min N m) (h : W.ownsRow base 102 56 (.slice A m c) m (flL (fun i => heL (vecH (a i))) m)) :
    Calls Try.prog 43 #[.int .i64 (N : Int), .slice A m c] W fun e w' => e = .returned (.int .i64 (comM N q (fun i => vecH (a i)))) ∧ Below W.heap.size W w' :=
  common_is N hN A m c q hq (owns_shapeF h) (owns_cap h) (by omega) _ W (liesH_owns h)
/-- What a clock tells, numbers and all. -/
theorem step_lit {b M : Nat} {a a' : Nat → Int} {x y z s : Int} (hM : 2 ≤ M ∧ M ≤ 65536) (ha : ∀ i, i < M → -1 ≤ a i ∧ a i ≤ 1099511627776) (hz : ageC M x y = z) (ha' : a' = pushA a M z) (hs : orN (shM a' M M) = s) (u : World) (hK : ClkA u b M a) :
    Calls Try.prog 47 #[.pointer (some ⟨b, 0, none⟩), .int .i64 x, .int .i64 y] u fun e w' => e = .returned (.tuple #[.int .i64 z, .int .i64 s]) ∧ ClkA w' b M a' ∧ But b u w' ∧ ∀ i, i < M → -1 ≤ a' i ∧ a' i ≤ 1099511627776 := by
  refine (step_is b M hM a ha x y u hK).mono ?_
  rintro e w' ⟨rfl, ⟨G, _, h1⟩, h2⟩
  rw [hz, ← ha'] at h1
  exact ⟨by rw [hz, ← ha', hs], h1.clk, h2, by rw [ha']; exact pushA_in ha (by rw [← hz]; exact ageC_in _ _ _)⟩
set_option maxRecDepth 100000 in
set_option maxHeartbeats 4000000 in
theorem lives16_is (w : World) : Calls Try.prog 42 #[] w fun e w' => e = .returned (.bool true) ∧ Below w.heap.size w w' := by
  have HN : Hid (Calls Try.prog 45 #[.int .i64 4] w fun e w' => ∃ b, e = .returned (.tuple #[.pointer (some ⟨b, 0, none⟩), .int .i64 0]) ∧ w.heap.size ≤ b ∧ ClkA w' b 8 (fun _ => -1) ∧ Below w.heap.size w w') := Lib.hid (newClock_is 4 (by omega) w)
  have HV0 : Hid (∀ u v : World, v = u.alloc (.cells #[.int .i64 5, .int .i64 9, .int .i64 7, .int .i64 3] 2) → Calls Try.prog 68 #[.slice (some ⟨u.heap.size, 0, none⟩) 4 4] v fun e w' => ∃ A' c', e = .returned (.slice A' 4 c') ∧ (Calls Try.prog 43 #[.int .i64 4, .slice A' 4 c'] w' fun e x => e = .returned (.int .i64 5) ∧ Below w'.heap.size w' x) ∧ Below u.heap.size u w') := Lib.hid (fun u v hv => by
    have hb : Below u.heap.size u v := by rw [hv]; exact below_al (Below.refl _ u) _
    have hB : Blk v u.heap.size 2 #[.int .i64 5, .int .i64 9, .int .i64 7, .int .i64 3] := by rw [hv]; exact Blk.new u _ _
    refine (vector_is (some ⟨u.heap.size, 0, none⟩) 4 4 (by omega) ex0 v (fun _ => ⟨_, _, rfl, hB.lt, fun i hi => by
      rw [hB.cell]
      match i, hi with
      | 0, _ => rfl
      | 1, _ => rfl
      | 2, _ => rfl
      | 3, _ => rfl⟩)).mono ?_
    rintro e w' ⟨A', c', rfl, h1, h2⟩
    refine ⟨A', c', rfl, ?_, below_then hb h2⟩
    have h := common_vec (N := 4) (q := 4) (by omega) (by omega) (by omega) h1
    rwa [com_ex0] at h)
  have HV1 : Hid (∀ u v : World, v = u.alloc (.cells #[.int .i64 5, .int .i64 9, .int .i64 7, .int .i64 (-1)] 2) → Calls Try.prog 68 #[.slice (some ⟨u.heap.size, 0, none⟩) 4 4] v fun e w' => ∃ A' c', e = .returned (.slice A' 4 c') ∧ (Calls Try.prog 43 #[.int .i64 4, .slice A' 4 c'] w' fun e x => e = .returned (.int .i64 7) ∧ Below w'.heap.size w' x) ∧ Below u.heap.size u w') := Lib.hid (fun u v hv => by
    have hb : Below u.heap.size u v := by rw [hv]; exact below_al (Below.refl _ u) _
    have hB : Blk v u.heap.size 2 #[.int .i64 5, .int .i64 9, .int .i64 7, .int .i64 (-1)] := by rw [hv]; exact Blk.new u _ _
    refine (vector_is (some ⟨u.heap.size, 0, none⟩) 4 4 (by omega) ex1 v (fun _ => ⟨_, _, rfl, hB.lt, fun i hi => by
      rw [hB.cell]
      match i, hi with
      | 0, _ => rfl
      | 1, _ => rfl
      | 2, _ => rfl
      | 3, _ => rfl⟩)).mono ?_
    rintro e w' ⟨A', c', rfl, h1, h2⟩
    refine ⟨A', c', rfl, ?_, below_then hb h2⟩
    have h := common_vec (N := 4) (q := 4) (by omega) (by omega) (by omega) h1
    rwa [com_ex1] at h)
  have HV2 : Hid (∀ u v : World, v = u.alloc (.cells #[.int .i64 5, .int .i64 9] 2) → Calls Try.prog 68 #[.slice (some ⟨u.heap.size, 0, none⟩) 2 2] v fun e w' => ∃ A' c', e = .returned (.slice A' 2 c') ∧ (Calls Try.prog 43 #[.int .i64 4, .slice A' 2 c'] w' fun e x => e = .returned (.int .i64 (-1)) ∧ Below w'.heap.size w' x) ∧ Below u.heap.size u w') := Lib.hid (fun u v hv => by
    have hb : Below u.heap.size u v := by rw [hv]; exact below_al (Below.refl _ u) _
    have hB : Blk v u.heap.size 2 #[.int .i64 5, .int .i64 9] := by rw [hv]; exact Blk.new u _ _
    refine (vector_is (some ⟨u.heap.size, 0, none⟩) 2 2 (by omega) ex0 v (fun _ => ⟨_, _, rfl, hB.lt, fun i hi => by
      rw [hB.cell]
      match i, hi with
      | 0, _ => rfl
      | 1, _ => rfl⟩)).mono ?_
    rintro e w' ⟨A', c', rfl, h1, h2⟩
    refine ⟨A', c', rfl, ?_, below_then hb h2⟩
    have h := common_vec (N := 4) (q := 2) (by omega) (by omega) (by omega) h1
    rwa [com_ex2] at h)
  go_enter Try.func42, Try.ntmps42
  go_upto_region 2 with (go_at_call 45; (with_reducible refine HN.out.mono ?_); rintro e w1 ⟨b, rfl, q0, q1, q2⟩; have HQ0 := Lib.hid q0; have HQ1 := Lib.hid q1; have HQ2 := Lib.hid q2; clear q0 q1 q2)
  go_upto_region 4 with (first
    | (go_at_call 68; (with_reducible refine (HV0.out _ _ rfl).mono ?_); rintro e w2 ⟨A2, c2, rfl, q0, q1⟩; have HC0 := Lib.hid q0; have HB0 := Lib.hid q1; clear q0 q1)
    | (go_at_call 43; (with_reducible refine HC0.out.mono ?_); rintro e w3 ⟨rfl, q1⟩; have HD0 := Lib.hid q1; clear q1)
    | (go_at_call 68; (with_reducible refine (HV1.out _ _ rfl).mono ?_); rintro e w4 ⟨A4, c4, rfl, q0, q1⟩; have HC1 := Lib.hid q0; have HB1 := Lib.hid q1; clear q0 q1)
    | (go_at_call 43; (with_reducible refine HC1.out.mono ?_); rintro e w5 ⟨rfl, q1⟩; have HD1 := Lib.hid q1; clear q1)
    | (go_at_call 68; (with_reducible refine (HV2.out _ _ rfl).mono ?_); rintro e w6 ⟨A6, c6, rfl, q0, q1⟩; have HC2 := Lib.hid q0; have HB2 := Lib.hid q1; clear q0 q1)
    | (go_at_call 43; (with_reducible refine HC2.out.mono ?_); rintro e w7 ⟨rfl, q1⟩; have HD2 := Lib.hid q1; clear q1))
  have hW : Below w1.heap.size w1 w7 := below_then (below_then (below_then (below_then (below_then HB0.out HD0.out) HB1.out) HD1.out) HB2.out) HD2.out
  have HK0 := Lib.hid (HQ1.out.on hW)
  have HW7 := Lib.hid (below_then HQ2.out hW)
  clear hW HQ1 HQ2 HV0 HV1 HV2 HC0 HC1 HC2 HB0 HB1 HB2 HD0 HD1 HD2 HN
  obtain ⟨a1, ha1⟩ : ∃ a, a = pushA (fun _ => (-1 : Int)) 8 3 := ⟨_, rfl⟩
  obtain ⟨a2, ha2⟩ : ∃ a, a = pushA a1 8 10 := ⟨_, rfl⟩
  obtain ⟨a3, ha3⟩ : ∃ a, a = pushA a2 8 5 := ⟨_, rfl⟩
  have HS1 := Lib.hid (fun u hK => step_lit (b := b) (M := 8) (a := fun _ => -1) (a' := a1) (x := -1) (y := 3) (z := 3) (s := 3) (by omega) (fun i _ => by omega) (by decide) ha1 (by rw [ha1]; decide) u hK)
  have HS2 := Lib.hid (fun u hK h => step_lit (b := b) (M := 8) (a := a1) (a' := a2) (x := 2) (y := 4) (z := 10) (s := 10) (by omega) h (by decide) ha2 (by rw [ha2, ha1]; decide) u hK)
  have HS3 := Lib.hid (fun u hK h => step_lit (b := b) (M := 8) (a := a2) (a' := a3) (x := -1) (y := 5) (z := 5) (s := 11) (by omega) h (by decide) ha3 (by rw [ha3, ha2, ha1]; decide) u hK)
  clear ha1 ha2 ha3
  go_wp2_with (first
    | (go_at_call 47; (with_reducible refine (HS1.out _ HK0.out).mono ?_); rintro e u1 ⟨rfl, q0, q1, q2⟩; have HK1 := Lib.hid q0; have HE1 := Lib.hid q1; have HL1 := Lib.hid q2; clear q0 q1 q2)
    | (go_at_call 47; (with_reducible refine (HS2.out _ HK1.out HL1.out).mono ?_); rintro e u2 ⟨rfl, q0, q1, q2⟩; have HK2 := Lib.hid q0; have HE2 := Lib.hid q1; have HL2 := Lib.hid q2; clear q0 q1 q2)
    | (go_at_call 47; (with_reducible refine (HS3.out _ HK2.out HL2.out).mono ?_); rintro e u3 ⟨rfl, q0, q1, q2⟩; have HK3 := Lib.hid q0; have HE3 := Lib.hid q1; have HL3 := Lib.hid q2; clear q0 q1 q2))
  go_ret
  exact ⟨rfl, ((HW7.out.trans (HE1.out.low HQ0.out)).trans (HE2.out.low HQ0.out)).trans (HE3.out.low HQ0.out)⟩
end Go.Proofs.Ytcangipaoancnaa

