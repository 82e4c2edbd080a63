/-
  Package ages: the common age of a vector. Conditions: the vector's reading.
-/
import Derived.Test.YtcangipaoancnaaAs5
namespace Go.Proofs.Ytcangipaoancnaa
open Go.RowKit
set_option linter.unusedVariables false
set_option linter.unusedSimpArgs false

theorem owns_cells {W : World} {base c : Nat} {A : Option Addr} {xs : List Int} (h : W.ownsRow base 2 1 (.slice A xs.length c) xs.length (valsI xs)) (h0 : 0 < xs.length) : ∃ g, A = some ⟨g, 0, none⟩ ∧ g < W.heap.size ∧ ∀ i x, xs[i]? = some x → W.cell? ⟨g, i, none⟩ = some (.int .i64 x) := by
  rcases h.2 with ⟨hv, hk⟩ | ⟨g, cap, cur, hv, hb, hh, h1, h2, h3, h4⟩
  · exfalso
    have := congrArg (fun v => match v with | Value.slice _ n _ => n | _ => 0) hv
    simp at this
    rw [this] at h0; simp at h0
  · cases hv
    refine ⟨g, rfl, (Array.getElem?_eq_some_iff.1 hh).1, fun i x hx => ?_⟩
    rw [Nat.mul_one] at h4
    have hi : i < xs.length := (List.getElem?_eq_some_iff.1 hx).1
    have hH := (holds_of_blockI hh h4) i (by simpa using hi)
    have h5 := hH.1
    rw [Nat.zero_add] at h5
    rw [h5]
    have h6 : xs.toArray[i]! = x := by
      simp [hx]
    first | (rw [h6]) | simp_all
/-- The common age of the first q entries, of N nodes. -/
def comM (N q : Nat) (T : Nat → He) : Int := if (agesOf T q).length < N - 1 then -1 else (srt (agesOf T q)).getD (((agesOf T q).length - 1) / 2) 0
set_option maxRecDepth 100000 in
theorem noneHeldsZ (w : World) : (Instr.sliceAt 52 (.slice none 0 0) none (some (.int .i64 0)) none).run Try.prog w = .ok (.slice none 0 0) w := by
  rw [run_sliceAt_slice w _ _ _ _ _ elemHelds, run_slice_h w 52 _ 0 0 elemHelds .i64 0 (by omega) (by omega), show Try.prog.elem 52 = 102 by kernel_rfl, sizeHelds]
  simp [Result.andThen, sliced]
set_option maxRecDepth 100000 in
theorem headHeldsO (g off n c h : Nat) (h2 : h ≤ c) (w : World) :
    (Instr.sliceAt 52 (.slice (some ⟨g, off, none⟩) n c) none (some (.int .i64 (h : Int))) none).run Try.prog w = .ok (.slice (some ⟨g, off, none⟩) h c) w := by
  rw [run_sliceAt_slice w _ _ _ _ _ elemHelds, run_slice_h w 52 _ n c elemHelds .i64 (h : Int) (by omega) (by omega), show Try.prog.elem 52 = 102 by kernel_rfl, sizeHelds]
  simp only [Result.andThen, sliced]
  simp [Addr.add]
set_option maxRecDepth 100000 in
theorem common_bad (n : Int) (h : nrB n = false) (v : Value) (w : World) : Calls Try.prog 43 #[.int .i64 n, v] w fun e w' => e = .returned (.int .i64 (-1)) ∧ w = w' := by
  have HC : Hid (Calls Try.prog 69 #[.int .i64 n] w fun e w' => e = .returned (.bool false) ∧ w = w') := Lib.hid (by rw [← h]; exact agesNumber_is n w)
  clear h
  go_enter Try.func43, Try.ntmps43
  go_wp2_with (go_at_call 69; (with_reducible refine HC.out.mono ?_); rintro e w1 ⟨rfl, rfl⟩)
  go_ret
  exact ⟨rfl, rfl⟩
set_option maxRecDepth 100000 in
set_option maxHeartbeats 4000000 in
theorem common_is (N : Nat) (hN : 4 ≤ N ∧ N ≤ 16) (A : Option Addr) (m c q : Nat) (hq : q = min N m) (hA : (A = none ∧ m = 0 ∧ c = 0) ∨ ∃ g o, A = some ⟨g, o, none⟩) (hmc : m ≤ c) (hm : m ≤ 9223372036854775807) (T : Nat → He) (w : World) (hT : LiesH w w.heap.size A m T) :
    Calls Try.prog 43 #[.int .i64 (N : Int), .slice A m c] w fun e w' => e = .returned (.int .i64 (comM N q T)) ∧ Below w.heap.size w w' := by
  have hqm : q ≤ m := by omega
  have hqN : q ≤ 16 := by omega
  have hmin : min (N : Int) (m : Int) = (q : Int) := by omega
  have HC : Hid (Calls Try.prog 69 #[.int .i64 (N : Int)] w fun e w' => e = .returned (.bool true) ∧ w = w') := Lib.hid (by
    have h := agesNumber_is (N : Int) w
    rwa [show nrB (N : Int) = true by unfold nrB; simp; omega] at h)
  have hsl : ∀ W : World, (Instr.sliceAt 52 (.slice A m c) none (some (.int .i64 (q : Int))) none).run Try.prog W = .ok (.slice A q c) W := by
    intro W
    rcases hA with ⟨rfl, rfl, rfl⟩ | ⟨g, o, rfl⟩
    · obtain rfl : q = 0 := by omega
      exact noneHeldsZ W
    · exact headHeldsO g o m c q (by omega) W
  obtain ⟨xs, hxs⟩ : ∃ xs, xs = agesOf T q := ⟨_, rfl⟩
  have hl16 : xs.length ≤ 16 := by rw [hxs]; exact Nat.le_trans (agesOf_len T q) hqN
  have HS : Hid (Calls Try.prog 70 #[.func (.func 71) #[.slice A q c] #[]] w fun e w' => ∃ A c, e = .returned (.slice A xs.length c) ∧ w'.ownsRow w.heap.size 2 1 (.slice A xs.length c) xs.length (valsI (srt xs)) ∧ Below w.heap.size w w') := Lib.hid (by
    rw [hxs]
    exact sorted_is _ _ (enters_of Try.func71 (by kernel_rfl) rfl) (agesOf T q) (Nat.le_trans (agesOf_len T q) (by omega)) w (ages_seq 3 (by omega) A q c (by omega) T w (hT.less hqm)))
  have HE : Hid (comM N q T = if xs.length < N - 1 then -1 else (srt xs).getD ((xs.length - 1) / 2) 0) := Lib.hid (by unfold comM; rw [hxs])
  obtain ⟨l, hl⟩ : ∃ l, l = xs.length := ⟨_, rfl⟩
  obtain ⟨N1, hN1⟩ : ∃ n, n = N - 1 := ⟨_, rfl⟩
  have eN1 : (N : Int) - 1 = (N1 : Int) := by omega
  have wN1 : IntKind.i64.wrap (N1 : Int) = (N1 : Int) := IntWalk.i64_in _ (by omega)
  rw [← hl] at HS HE
  rw [← hN1] at HE
  have HL : Hid ((srt xs).length = l) := Lib.hid (by rw [srt_len, hl])
  have hl2 : l ≤ 16 := by omega
  have lN1 : 3 ≤ N1 := by omega
  clear hq hA hT hxs hl hl16 hN1
  go_enter Try.func43, Try.ntmps43
  go_upto_region 4 with (first
    | (go_at_call 69; (with_reducible refine HC.out.mono ?_); rintro e w1 ⟨rfl, rfl⟩)
    | (go_at_call 70; (with_reducible refine HS.out.mono ?_); rintro e w2 ⟨A2, c2, rfl, q1, q2⟩; have HQ1 := Lib.hid q1; have HQ2 := Lib.hid q2; clear q1 q2))
  by_cases hlt : l < N1
  · have dl : decide ((l : Int) < (N1 : Int)) = true := decide_eq_true (by omega)
    have HR : Hid (comM N q T = -1) := Lib.hid (by rw [HE.out, if_pos hlt])
    go_wp2_with fail
    go_ret
    exact ⟨by rw [HR.out]; rfl, HQ2.out⟩
  · have dl : decide ((l : Int) < (N1 : Int)) = false := decide_eq_false (by omega)
    obtain ⟨l1, hl1⟩ : ∃ n, n = l - 1 := ⟨_, rfl⟩
    obtain ⟨h, hh⟩ : ∃ n, n = l1 / 2 := ⟨_, rfl⟩
    have e1 : (l : Int) - 1 = (l1 : Int) := by omega
    have w1 : IntKind.i64.wrap (l1 : Int) = (l1 : Int) := IntWalk.i64_in _ (by omega)
    have e2 : (l1 : Int).tdiv 2 = (h : Int) := by rw [hh]; rfl
    have w3 : IntKind.i64.wrap (h : Int) = (h : Int) := IntWalk.i64_in _ (by omega)
    have hhl : h < l := by omega
    obtain ⟨x, hx⟩ : ∃ x, (srt xs)[h]? = some x := ⟨_, List.getElem?_eq_getElem (by rw [HL.out]; exact hhl)⟩
    have hQ := HQ1.out
    have e3 := HL.out
    obtain ⟨g, rfl, lg, hc⟩ := owns_cells (A := A2) (c := c2) (xs := srt xs) (by rw [e3]; exact hQ) (by rw [e3]; omega)
    have cx := hc h x hx
    have HR : Hid (comM N q T = x) := Lib.hid (by rw [HE.out, if_neg hlt, ← hl1, ← hh, List.getD_eq_getElem?_getD, hx]; rfl)
    have hix := fun W => idxI64 (A := some ⟨g, 0, none⟩) (n := l) c2 rfl hhl W
    simp only [Nat.zero_add] at hix
    clear hl1 hh hx hQ e3 hc
    go_wp2_with fail
    go_ret
    exact ⟨by rw [HR.out]; rfl, HQ2.out⟩
end Go.Proofs.Ytcangipaoancnaa

