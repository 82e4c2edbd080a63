/-
  The contract of the reference's Put: the symbols with the number's behind them. Conditions: the slice's reading, a length of at most 65536, a number of 64 bits.
-/
import Derived.Test.YtafnkcjnnebffaaRefs
namespace Go.Proofs.Ytafnkcjnnebffaa
open Go.RowKit

set_option maxRecDepth 100000 in
theorem refPut_any (A : Option Addr) (n c : Nat) (xs : List Int) (v bs : Int) (w : World) (hx : Lies .u8 w w.heap.size A n xs) (hn : n ≤ 65536) (hv0 : 0 ≤ v) (hv1 : v < 18446744073709551616) :
    Calls Try.prog 28 #[.slice A n c, .int .u64 v, .int .i64 bs] w fun e w' => ∃ A' c', e = .returned (.slice A' (n + manyN bs) c') ∧ Lies .u8 w' w'.heap.size A' (n + manyN bs) (xs ++ putL v (manyN bs)) ∧ Below w.heap.size w w' := by
  obtain ⟨i0, hi0, hz0, hz1, hz2⟩ := info_parts info_sym
  obtain ⟨M, hM⟩ : ∃ M, M = manyN bs := ⟨_, rfl⟩
  have hM64 : M ≤ 64 := by rw [hM]; exact manyN_le bs
  rw [← hM]
  have HM := Lib.hid hM
  clear hM
  have HL := Lib.hid hx.len
  obtain ⟨ts, hts⟩ : ∃ ts, ts = xs ++ putL v M := ⟨_, rfl⟩
  have HT := Lib.hid (show ts.length = n + M by rw [hts, List.length_append, putL_length, hx.len])
  have HV := Lib.hid (fun r (h : r < M) => put_at xs v M r n hx.len h)
  have HX := Lib.hid (show ts.take n = xs by rw [hts, ← hx.len]; simp)
  rw [← hts] at HV ⊢
  clear hts
  go_enter Try.func28, Try.ntmps28
  go_wp2_with fail
  go_loopw [7, 8] (fun v1 iv wr => ∃ (i : Nat) (A' : Option Addr) (c' : Nat), i ≤ n ∧ iv = .int .i64 i ∧ v1 = .slice A' i c' ∧ wr.ownsRow w.heap.size 53 1 (.slice A' i c') i ((ts.take i).map (Value.int .u8)) ∧ Below w.heap.size w wr) (fun _ iv _ => n - (intOf iv).toNat)
  case atStart => exact ⟨0, none, 0, Nat.zero_le _, rfl, rfl, ⟨rfl, .inl ⟨rfl, rfl⟩⟩, Below.refl _ _⟩
  case round =>
    obtain ⟨i, A', c', hi, rfl, rfl, hown, hb⟩ := hrel
    by_cases hlt : i < n
    · have hlti : (i : Int) < (n : Int) := by omega
      obtain ⟨b, off, rfl, hbb, hc⟩ := hx.at_ (by omega)
      have hcell : wr.cell? ⟨b, off + i, none⟩ = some (.int .u8 (xs.getD i 0)) := (hb.cell (p := ⟨b, off + i, none⟩) hbb).trans (hc i hlt)
      have hy := Lib.hid (show ts.getD i 0 = xs.getD i 0 by
        rw [← HX.out]
        simp only [List.getD]
        rw [List.getElem?_take_of_lt hlt])
      obtain ⟨y, hy1⟩ : ∃ y, y = xs.getD i 0 := ⟨_, rfl⟩
      rw [← hy1] at hcell hy
      clear hy1 hc
      have hl1 := Lies.new wr 53 .u8 [y] 1 rfl #[.int .u8 y] rfl
      have hown' := hown.alloc (.cells #[.int .u8 y] 53)
      go_wp2_with (first
        | (at_builtin; with_reducible refine wpList_append_lies rfl (.tmp 16) (.tmp 21) 23 rfl w.heap.size 53 i0 _ 1 Try.underlying23 hi0 hz0 hz1 hz2 rfl .u8 (.slice A' (i) c') (i) (ts.take (i)) rfl hown' (some ⟨wr.heap.size, 0, none⟩) 1 1 [y] rfl hl1 (i + 1) rfl (by unfold maxLen; omega) (by omega) (Nat.le_trans hb.size (by simp)) ?_))
      intro A2 c2 w2 hown2 hg2 _
      have hb2 := (below_al hb _).grown hg2 (Nat.le_trans hb.size (by simp)) (fun r hr => (hown.lt r hr).1)
      have hown3 := owns_snoc (ts := ts) hown2 (by rw [HT.out]; omega) hy.out
      clear hown hown' hown2 hg2 hl1
      go_wp2_with fail
      go_roundw
      case rel => exact ⟨i + 1, A2, c2, by omega, by go_num, rfl, hown3, hb2⟩
      case measure => simp [intOf]; omega
    · have hlti : (n : Int) ≤ (i : Int) := by omega
      obtain rfl : i = n := by omega
      have hM' := HM.out
      unfold manyN at hM'
      by_cases hb1 : bs < 0
      · have hM0 : M = 0 := by omega
        subst hM0
        have hb64 : bs ≤ 64 := by omega
        clear hM'
        go_wp2_with fail
        go_loopw [7, 9] (fun v1 iv wr => ∃ (j : Nat) (A' : Option Addr) (c' : Nat), j ≤ 0 ∧ iv = .int .i64 ((j : Int) - 1) ∧ v1 = .slice A' (i + (0 - j)) c' ∧ wr.ownsRow w.heap.size 53 1 (.slice A' (i + (0 - j)) c') (i + (0 - j)) ((ts.take (i + (0 - j))).map (Value.int .u8)) ∧ Below w.heap.size w wr) (fun _ iv _ => ((intOf iv) + 1).toNat)
        case atStart => exact ⟨0, A', c', Nat.le_refl _, rfl, by rw [Nat.sub_self, Nat.add_zero], by rw [Nat.sub_self, Nat.add_zero]; exact hown, hb⟩
        case round =>
          clear hown hb
          obtain ⟨j, A', c', hj, rfl, rfl, hown, hb⟩ := hrel
          by_cases hj0 : j = 0
          · subst hj0
            go_wp2_with fail
            go_ret
            refine ⟨A', c', rfl, lies_of_owns (base := w.heap.size) (e := 53) (c := c') ?_, hb⟩
            rw [List.take_of_length_le (by rw [HT.out]; omega)] at hown
            exact hown
          · exact absurd hj (by omega)
      · have hb1' : 0 ≤ bs := by omega
        by_cases hb2 : bs ≤ 64
        · obtain rfl : bs = (M : Int) := by omega
          clear hM' hb1
          go_wp2_with fail
          go_loopw [7, 9] (fun v1 iv wr => ∃ (j : Nat) (A' : Option Addr) (c' : Nat), j ≤ M ∧ iv = .int .i64 ((j : Int) - 1) ∧ v1 = .slice A' (i + (M - j)) c' ∧ wr.ownsRow w.heap.size 53 1 (.slice A' (i + (M - j)) c') (i + (M - j)) ((ts.take (i + (M - j))).map (Value.int .u8)) ∧ Below w.heap.size w wr) (fun _ iv _ => ((intOf iv) + 1).toNat)
          case atStart => exact ⟨M, A', c', Nat.le_refl _, rfl, by rw [Nat.sub_self, Nat.add_zero], by rw [Nat.sub_self, Nat.add_zero]; exact hown, hb⟩
          case round =>
            clear hown hb
            obtain ⟨j, A', c', hj, rfl, rfl, hown, hb⟩ := hrel
            by_cases hj0 : j = 0
            · subst hj0
              go_wp2_with fail
              go_ret
              refine ⟨A', c', rfl, lies_of_owns (base := w.heap.size) (e := 53) (c := c') ?_, hb⟩
              rw [List.take_of_length_le (by rw [HT.out]; omega)] at hown
              exact hown
            · obtain ⟨r, rfl⟩ : ∃ r, j = r + 1 := ⟨j - 1, by omega⟩
              clear hj0
              have hr0 : (0 : Int) ≤ (r : Int) + 1 - 1 := by omega
              have hre : ((r + 1 : Nat) : Int) - 1 = (r : Int) := by omega
              rw [hre]
              have hr1 : (0 : Int) ≤ (r : Int) := by omega
              have hidx : i + (M - (r + 1)) < i + M := by omega
              obtain ⟨q, hq⟩ : ∃ q, q = i + (M - (r + 1)) := ⟨_, rfl⟩
              have hq1 : i + (M - r) = q + 1 := by omega
              have hy := Lib.hid (HV.out r (by omega))
              rw [← hq] at hown hidx hy ⊢
              have HQ1 := Lib.hid hq1
              clear hq hq1 hr0 hre
              obtain ⟨y, hy1⟩ : ∃ y, y = symI (v / 2 ^ r) := ⟨_, rfl⟩
              have hbit := bit_any v r
              rw [← hy1] at hbit hy
              have HBIT := Lib.hid hbit
              clear hbit hy1
              have hl1 := Lies.new wr 53 .u8 [y] 1 rfl #[.int .u8 y] rfl
              have hown' := hown.alloc (.cells #[.int .u8 y] 53)
              go_wp2_with (first
                | (go_at_call 34; with_reducible refine (HBIT.out _ (by omega) hv0 hv1).mono ?_; rintro e w' ⟨rfl, rfl⟩)
                | (at_builtin; with_reducible refine wpList_append_lies rfl (.tmp 33) (.tmp 37) 23 rfl w.heap.size 53 i0 _ 1 Try.underlying23 hi0 hz0 hz1 hz2 rfl .u8 (.slice A' (q) c') (q) (ts.take (q)) rfl hown' (some ⟨wr.heap.size, 0, none⟩) 1 1 [y] rfl hl1 (q + 1) rfl (by unfold maxLen; omega) (by omega) (Nat.le_trans hb.size (by simp)) ?_))
              intro A2 c2 w2 hown2 hg2 _
              have hb2 := (below_al hb _).grown hg2 (Nat.le_trans hb.size (by simp)) (fun r hr => (hown.lt r hr).1)
              have hown3 := owns_snoc (ts := ts) hown2 (by rw [HT.out]; omega) hy.out
              clear hown hown' hown2 hg2 hl1
              go_wp2_with fail
              go_roundw
              case rel => exact ⟨r, A2, c2, by omega, by go_num, by rw [HQ1.out], by rw [HQ1.out]; exact hown3, hb2⟩
              case measure => simp [intOf]
        · have hM0 : M = 64 := by omega
          have hb2' : 64 < bs := by omega
          subst hM0
          clear hM' hb1 hb2
          go_wp2_with fail
          go_loopw [7, 9] (fun v1 iv wr => ∃ (j : Nat) (A' : Option Addr) (c' : Nat), j ≤ 64 ∧ iv = .int .i64 ((j : Int) - 1) ∧ v1 = .slice A' (i + (64 - j)) c' ∧ wr.ownsRow w.heap.size 53 1 (.slice A' (i + (64 - j)) c') (i + (64 - j)) ((ts.take (i + (64 - j))).map (Value.int .u8)) ∧ Below w.heap.size w wr) (fun _ iv _ => ((intOf iv) + 1).toNat)
          case atStart => exact ⟨64, A', c', Nat.le_refl _, rfl, by rw [Nat.sub_self, Nat.add_zero], by rw [Nat.sub_self, Nat.add_zero]; exact hown, hb⟩
          case round =>
            clear hown hb
            obtain ⟨j, A', c', hj, rfl, rfl, hown, hb⟩ := hrel
            by_cases hj0 : j = 0
            · subst hj0
              go_wp2_with fail
              go_ret
              refine ⟨A', c', rfl, lies_of_owns (base := w.heap.size) (e := 53) (c := c') ?_, hb⟩
              rw [List.take_of_length_le (by rw [HT.out]; omega)] at hown
              exact hown
            · obtain ⟨r, rfl⟩ : ∃ r, j = r + 1 := ⟨j - 1, by omega⟩
              clear hj0
              have hr0 : (0 : Int) ≤ (r : Int) + 1 - 1 := by omega
              have hre : ((r + 1 : Nat) : Int) - 1 = (r : Int) := by omega
              rw [hre]
              have hr1 : (0 : Int) ≤ (r : Int) := by omega
              have hidx : i + (64 - (r + 1)) < i + 64 := by omega
              obtain ⟨q, hq⟩ : ∃ q, q = i + (64 - (r + 1)) := ⟨_, rfl⟩
              have hq1 : i + (64 - r) = q + 1 := by omega
              have hy := Lib.hid (HV.out r (by omega))
              rw [← hq] at hown hidx hy ⊢
              have HQ1 := Lib.hid hq1
              clear hq hq1 hr0 hre
              obtain ⟨y, hy1⟩ : ∃ y, y = symI (v / 2 ^ r) := ⟨_, rfl⟩
              have hbit := bit_any v r
              rw [← hy1] at hbit hy
              have HBIT := Lib.hid hbit
              clear hbit hy1
              have hl1 := Lies.new wr 53 .u8 [y] 1 rfl #[.int .u8 y] rfl
              have hown' := hown.alloc (.cells #[.int .u8 y] 53)
              go_wp2_with (first
                | (go_at_call 34; with_reducible refine (HBIT.out _ (by omega) hv0 hv1).mono ?_; rintro e w' ⟨rfl, rfl⟩)
                | (at_builtin; with_reducible refine wpList_append_lies rfl (.tmp 33) (.tmp 37) 23 rfl w.heap.size 53 i0 _ 1 Try.underlying23 hi0 hz0 hz1 hz2 rfl .u8 (.slice A' (q) c') (q) (ts.take (q)) rfl hown' (some ⟨wr.heap.size, 0, none⟩) 1 1 [y] rfl hl1 (q + 1) rfl (by unfold maxLen; omega) (by omega) (Nat.le_trans hb.size (by simp)) ?_))
              intro A2 c2 w2 hown2 hg2 _
              have hb2 := (below_al hb _).grown hg2 (Nat.le_trans hb.size (by simp)) (fun r hr => (hown.lt r hr).1)
              have hown3 := owns_snoc (ts := ts) hown2 (by rw [HT.out]; omega) hy.out
              clear hown hown' hown2 hg2 hl1
              go_wp2_with fail
              go_roundw
              case rel => exact ⟨r, A2, c2, by omega, by go_num, by rw [HQ1.out], by rw [HQ1.out]; exact hown3, hb2⟩
              case measure => simp [intOf]
end Go.Proofs.Ytafnkcjnnebffaa
