/-
  The walk of the law BitsJoin: it returns true, and nothing that was there has turned. Conditions: the slices' readings, bytes, numbers of 64 bits.
-/
import Derived.Test.YtafnkcjnnebffaaLives
import Derived.Test.YtafnkcjnnebffaaMath
import Derived.Test.YtafnkcjnnebffaaApp
import Derived.Deep.Cut
import Derived.Deep.CutRange
import Derived.Deep.RegionHeld3
namespace Go.Proofs.Ytafnkcjnnebffaa
open Go.RowKit

theorem ofL_append (es bs : List Int) : ofL (es ++ bs) = ofL es ++ ofL bs := by
  apply List.ext_getElem
  · simp [ofL_length]; omega
  · intro i h1 h2
    rw [List.getElem_append]
    have h1' : i < 8 * (es.length + bs.length) := by simpa [ofL_length] using h1
    split
    · rename_i h
      have h' : i < 8 * es.length := by simpa [ofL_length] using h
      simp only [ofL, List.getElem_map, List.getElem_range, ofAt, List.getD]
      rw [List.getElem?_append_left (by omega)]
    · rename_i h
      have h' : 8 * es.length ≤ i := by simpa [ofL_length] using h
      simp only [ofL, List.getElem_map, List.getElem_range, ofAt, List.getD, List.length_map, List.length_range]
      rw [List.getElem?_append_right (by omega), show i / 8 - es.length = (i - 8 * es.length) / 8 by omega, show i % 8 = (i - 8 * es.length) % 8 by omega]
theorem putL_join (v : Int) (a : Nat) : ∀ b : Nat, putL (v / 2 ^ b) a ++ putL v b = putL v (a + b) := by
  intro b
  apply List.ext_getElem
  · simp [putL_length]
  · intro i h1 h2
    have h1' : i < a + b := by simpa [putL_length] using h1
    rw [List.getElem_append]
    split
    · rename_i h
      have h' : i < a := by simpa [putL_length] using h
      simp only [putL, List.getElem_map, List.getElem_range]
      rw [Int.ediv_ediv_of_nonneg (Int.le_of_lt (Int.pow_pos (by decide))), ← Int.pow_add, show b + (a - 1 - i) = a + b - 1 - i by omega]
    · rename_i h
      have h' : a ≤ i := by simpa [putL_length] using h
      simp only [putL, List.getElem_map, List.getElem_range, List.length_map, List.length_range]
      rw [show b - 1 - (i - a) = a + b - 1 - i by omega]
theorem all_mem {es bs : List Int} (ha : ∀ x ∈ es, 0 ≤ x ∧ x ≤ 255) (hb : ∀ x ∈ bs, 0 ≤ x ∧ x ≤ 255) : ∀ x ∈ es ++ bs, 0 ≤ x ∧ x ≤ 255 := by
  intro x hx
  rcases List.mem_append.1 hx with h | h
  · exact ha x h
  · exact hb x h

theorem put_hi (lo : Nat) (v : Int) (w : World) (hlo : lo ≤ 64) (hv0 : 0 ≤ v) (hv1 : v < 18446744073709551616) :
    Calls Try.prog 27 #[.slice none 0 0, .int .u64 v, .int .i64 (64 - (lo : Int))] w fun e w' => ∃ g, e = .returned (.slice (some ⟨g, 0, none⟩) (64 - lo) (64 - lo)) ∧ w.heap.size ≤ g ∧ Blk w' g 53 (cellsOf .u8 (putL v (64 - lo))) ∧ Below w.heap.size w w' := by
  have h := put_any none 0 0 [] v (64 - (lo : Int)) w Lies.nil_ (by decide) hv0 hv1
  rw [show manyN (64 - (lo : Int)) = 64 - lo by unfold manyN; omega, Nat.zero_add, List.nil_append] at h
  exact h
theorem put_lo (lo g : Nat) (v : Int) (w : World) (hlo : lo ≤ 64) (hv0 : 0 ≤ v) (hv1 : v < 18446744073709551616) (hB : Blk w g 53 (cellsOf .u8 (putL (v / 2 ^ lo) (64 - lo)))) :
    Calls Try.prog 27 #[.slice (some ⟨g, 0, none⟩) (64 - lo) (64 - lo), .int .u64 v, .int .i64 (lo : Int)] w fun e w' => ∃ g, e = .returned (.slice (some ⟨g, 0, none⟩) 64 64) ∧ w.heap.size ≤ g ∧ Blk w' g 53 (cellsOf .u8 (putL v 64)) ∧ Below w.heap.size w w' := by
  have h := put_any (some ⟨g, 0, none⟩) (64 - lo) (64 - lo) _ v (lo : Int) w (hB.lies (putL_length _ _)) (by omega) hv0 hv1
  rw [show manyN (lo : Int) = lo by unfold manyN; omega, putL_join, show 64 - lo + lo = 64 by omega] at h
  exact h
theorem put_all (v : Int) (w : World) (hv0 : 0 ≤ v) (hv1 : v < 18446744073709551616) :
    Calls Try.prog 27 #[.slice none 0 0, .int .u64 v, .int .i64 64] w fun e w' => ∃ g, e = .returned (.slice (some ⟨g, 0, none⟩) 64 64) ∧ w.heap.size ≤ g ∧ Blk w' g 53 (cellsOf .u8 (putL v 64)) ∧ Below w.heap.size w w' :=
  put_hi 0 v w (by decide) hv0 hv1

set_option maxRecDepth 100000 in
theorem join_walk (A B : Option Addr) (n m c d : Nat) (es bs : List Int) (u v : Int) (w : World) (hx : Lies .u8 w w.heap.size A n es) (hm : n ≤ maxLen) (ha : ∀ x ∈ es, 0 ≤ x ∧ x ≤ 255)
    (hy : Lies .u8 w w.heap.size B m bs) (hm' : m ≤ maxLen) (hb : ∀ x ∈ bs, 0 ≤ x ∧ x ≤ 255) (hu0 : 0 ≤ u) (hu1 : u ≤ 18446744073709551615) (hv0 : 0 ≤ v) (hv1 : v ≤ 18446744073709551615) :
    Calls Try.prog 7 #[.slice A n c, .slice B m d, .agg #[.int .u64 u, .int .u64 v]] w fun e w' => e = .returned (.bool true) ∧ Below w.heap.size w w' := by
  unfold maxLen at hm hm'
  have HA := Lib.hid ha
  have HB := Lib.hid hb
  have HC := Lib.hid (all_mem ha hb)
  clear ha hb
  by_cases h200 : n ≤ 200
  · have hd : decide ((200 : Int) < (n : Int)) = false := by simp; omega
    by_cases h200' : m ≤ 200
    · have hd' : decide ((200 : Int) < (m : Int)) = false := by simp; omega
      obtain ⟨i0, hi0, hz0, hz1, hz2⟩ := info_parts info_byte
      obtain ⟨W0, hW0⟩ : ∃ W0, W0 = w.alloc (.cells #[.int .u64 u, .int .u64 v] 55) := ⟨_, rfl⟩
      have hx0 := hx.al (.cells #[.int .u64 u, .int .u64 v] 55)
      have hy0 := hy.al (.cells #[.int .u64 u, .int .u64 v] 55)
      have hz := Blk.new w 55 #[.int .u64 u, .int .u64 v]
      have hb0 := below_al (Below.refl w.heap.size w) (.cells #[.int .u64 u, .int .u64 v] 55)
      rw [← hW0] at hx0 hy0 hz hb0
      go_enter Try.func7, Try.ntmps7
      go_upto_region 3 with fail
      rw [← hW0]
      clear hx hy hW0
      go_wp2_with (first
        | (at_builtin; with_reducible refine wpList_append_lies rfl (.const (.slice none 0 0)) (.tmp 23) 22 rfl W0.heap.size 5 i0 _ 1 Try.underlying22 hi0 hz0 hz1 hz2 rfl .u8 (.slice none 0 0) 0 [] rfl owns_none A n c es rfl hx0 n (Nat.zero_add n) (by unfold maxLen; omega) (by omega) (Nat.le_refl _) ?_))
      intro A1 c1 w1 hown1 hg1 _
      have hb1 := (Below.refl W0.heap.size W0).grown hg1 (Nat.le_refl _) (by simp [Value.ownBlock])
      have hy1 := hy0.on hb1
      clear hg1
      go_wp2_with (first
        | (at_builtin; with_reducible refine wpList_append_lies rfl (.tmp 24) (.tmp 25) 22 rfl W0.heap.size 5 i0 _ 1 Try.underlying22 hi0 hz0 hz1 hz2 rfl .u8 (.slice A1 n c1) n es rfl hown1 B m d bs rfl hy1 (n + m) rfl (by unfold maxLen; omega) (by omega) hb1.size ?_))
      intro A2 c2 w2 hown2 hg2 _
      have hb2 := hb1.grown hg2 hb1.size (fun k hk => (hown1.lt k hk).1)
      have hx2 := hx0.on hb2
      have hy2 := hy0.on hb2
      have hz2' := hz.on hb2
      have hb2' := below_then hb0 hb2
      have hall : Lies .u8 w2 w2.heap.size A2 (n + m) (es ++ bs) := lies_of_owns (base := W0.heap.size) (e := 5) (c := c2) (by rw [List.map_append]; exact hown2)
      have hlen := Lib.hid hx0.len
      clear hown1 hown2 hg2 hb1 hb2 hy1 hx0 hy0 hz hb0 hi0 hz0 hz1 hz2
      go_wp2_with fail
      with_reducible refine (of_any _ _ _ _ _ hall HC.out (by omega)).mono ?_
      rintro e w3 ⟨g3, rfl, _, hB3, hb⟩
      have hx3 := hx2.on hb
      have hy3 := hy2.on hb
      have hz3 := hz2'.on hb
      have hall3 := hall.on hb
      have hb3 := below_then hb2' hb
      have hl3 := hB3.lies (n := 8 * (n + m)) (by rw [ofL_length, hall.len])
      clear hb hx2 hy2 hz2' hall hb2' hB3
      go_wp2_with fail
      with_reducible refine (of_any _ _ _ _ _ hx3 HA.out (by omega)).mono ?_
      rintro e w4 ⟨g4, rfl, hg4, hB4, hb⟩
      have hy4 := hy3.on hb
      have hz4 := hz3.on hb
      have hall4 := hall3.low hb
      have hl4 := hl3.low hb
      have hb4 := below_then hb3 hb
      have hs34 := hb.size
      have hlt4 := hz3.lt
      clear hb hx3 hy3 hz3 hall3 hl3 hb3
      go_wp2_with fail
      with_reducible refine (of_any _ _ _ _ _ hy4 HB.out (by omega)).mono ?_
      rintro e w5 ⟨g5, rfl, _, hB5, hb⟩
      have hz5 := hz4.on hb
      have hB4' := hB4.on hb
      have hall5 := hall4.low (hb.mono hs34)
      have hl5 := hl4.low (hb.mono hs34)
      have hb5 := below_then hb4 hb
      have hlb := hB5.lies (n := 8 * m) (by rw [ofL_length, hy4.len])
      have hs35 : w3.heap.size ≤ w5.heap.size := Nat.le_trans hs34 hb.size
      clear hb hy4 hz4 hall4 hl4 hb4 hB4 hB5
      obtain ⟨j0, hj0, hk0, hk1, hk2⟩ := info_parts info_sym
      have hown5 := hB4'.owns (base := w3.heap.size) (n := 8 * n) (by rw [ofL_length, hlen.out]) hg4 (by unfold maxLen; omega)
      go_wp2_with (first
        | (at_builtin; with_reducible refine wpList_append_lies rfl (.tmp 30) (.tmp 32) 23 rfl w3.heap.size 53 j0 _ 1 Try.underlying23 hj0 hk0 hk1 hk2 rfl .u8 (.slice (some ⟨g4, 0, none⟩) (8 * n) (8 * n)) (8 * n) (ofL es) rfl hown5 (some ⟨g5, 0, none⟩) (8 * m) (8 * m) (ofL bs) rfl hlb (8 * n + 8 * m) rfl (by unfold maxLen; omega) (by omega) hs35 ?_))
      intro A6 c6 w6 hown6 hg6 _
      have hrow : ∀ g, (Value.slice (some ⟨g4, 0, none⟩) (8 * n) (8 * n)).ownBlock = some g → w3.heap.size ≤ g := fun g hg => by
        have : g4 = g := by simpa [Value.ownBlock] using hg
        omega
      have hall6 := (hall5.grown hg6 hs35 hrow).up (Nat.le_trans hs35 hg6.size)
      have hl6 := (hl5.grown hg6 hs35 hrow).up (Nat.le_trans hs35 hg6.size)
      have hz6 : Blk w6 w.heap.size 55 #[.int .u64 u, .int .u64 v] := (hg6.block _ (by omega) (fun e => by have := hrow _ e.symm; omega)).trans hz5
      have hb6 := hb5.grown hg6 (by omega) (fun g hg => by have := hrow g hg; omega)
      have happ : Lies .u8 w6 w6.heap.size A6 (8 * n + 8 * m) (ofL es ++ ofL bs) := lies_of_owns (base := w3.heap.size) (e := 53) (c := c6) (by rw [List.map_append]; exact hown6)
      clear hown5 hown6 hg6 hrow hall5 hl5 hz5 hb5 hB4' hlb hs35 hs34 hg4 hlt4 hj0 hk0 hk1 hk2
      go_wp2_with fail
      with_reducible refine (same_true _ _ _ _ _ _ _ _ _ hl6 happ (by omega) (by omega) (ofL_append es bs)).mono ?_
      rintro e w7 ⟨rfl, hb⟩
      have hall7 := hall6.on hb
      have hz7 := hz6.on hb
      have hb7 := below_then hb6 hb
      clear hb hall6 hl6 hz6 hb6 happ
      go_wp2_with fail
      with_reducible refine (of_any _ _ _ _ _ hall7 HC.out (by omega)).mono ?_
      rintro e w8 ⟨g8, rfl, _, hB8, hb⟩
      have hz8 := hz7.on hb
      have hall8 := hall7.on hb
      have hb8 := below_then hb7 hb
      have hne : ((8 * ((n : Int) + (m : Int))) != (8 * ((n : Int) + (m : Int)))) = false := by simp
      have hl8 := hB8.lies (n := 8 * (n + m)) (by rw [ofL_length, hall7.len])
      clear hb hall7 hz7 hb7 hB8
      go_wp2_with fail
      clear hne
      have hlall := Lib.hid hall8.len
      go_loop [9] (fun v => ∃ k : Nat, k ≤ n + m ∧ v = .int .i64 k) (fun v => n + m - (intOf v).toNat)
      case atStart => exact ⟨0, Nat.zero_le _, rfl⟩
      case round =>
        obtain ⟨k, hk, rfl⟩ := hrel
        by_cases hlt : k < n + m
        · have hki : (k : Int) < (n : Int) + (m : Int) := by omega
          obtain ⟨b, off, rfl, hbb, hc⟩ := hall8.at_ (by omega)
          have hcell := hc k hlt
          have hxb := HC.out ((es ++ bs).getD k 0) (by rw [getD_at _ _ (by rw [hlall.out]; exact hlt)]; exact List.getElem_mem _)
          have hcut : Lies .u8 w8 w8.heap.size (some ⟨g8, 8 * k, none⟩) 8 (putL ((es ++ bs).getD k 0) 8) := ⟨putL_length _ _, fun _ => ⟨g8, 8 * k, rfl, by
              obtain ⟨b', off', e', hb', _⟩ := hl8.at_ (by omega)
              injection e' with e'
              injection e' with e' _ _
              omega, fun j hj => by
              obtain ⟨b', off', e', _, hc'⟩ := hl8.at_ (by omega)
              injection e' with e'
              injection e' with e1 e2 _
              subst e1 e2
              have h := hc' (8 * k + j) (by omega)
              rw [Nat.zero_add] at h
              rw [h, ← ofL_part _ _ (by rw [hlall.out]; exact hlt)]
              simp only [List.getD]
              rw [List.getElem?_take_of_lt hj, List.getElem?_drop]⟩⟩
          have hsl : ∀ W : World, (Instr.sliceAt 23 (.slice (some ⟨g8, 0, none⟩) (8 * (n + m)) (8 * (n + m))) (some (.int .i64 (8 * (k : Int)))) (some (.int .i64 (8 * (k : Int) + 8))) none).run Try.prog W = .ok (.slice (some ⟨g8, 8 * k, none⟩) 8 (8 * (n + m) - 8 * k)) W := fun W => by
            have h := cut_syms g8 0 (8 * (n + m)) (8 * (n + m)) (8 * (k : Int)) (8 * (k : Int) + 8) (by omega) (by omega) (by omega) (by omega) W
            rw [Nat.zero_add, show (8 * (k : Int)).toNat = 8 * k by omega, show (8 * (k : Int) + 8).toNat - 8 * k = 8 by omega] at h
            rw [run_sliceAt_slice W _ _ _ _ _ elem_syms]
            exact h
          obtain ⟨x, hx1⟩ : ∃ x, x = (es ++ bs).getD k 0 := ⟨_, rfl⟩
          rw [← hx1] at hcell hxb hcut
          clear hx1 hc
          obtain ⟨hx0, hx9⟩ := hxb
          go_wp2_with fail
          with_reducible refine (num_any _ _ _ _ _ hcut (by omega)).mono ?_
          rintro e w' ⟨rfl, rfl⟩
          rw [numR_putL x 8 (by omega), numOk_putL x 8 (by omega), show x % 2 ^ 8 = x by omega]
          have hxx : (x != x) = false := by simp
          clear hcut hsl
          go_wp2_with fail
          go_round
          case rel => exact ⟨k + 1, by omega, by go_num⟩
          case measure => simp [intOf]; omega
        · have hge : (n : Int) + (m : Int) ≤ (k : Int) := by omega
          have hz0 := hz8.cell 0
          have hz1 := hz8.cell 1
          simp at hz0 hz1
          have hvm : 0 ≤ v % 64 := by omega
          have hvl : v % 64 < 64 := by omega
          clear hlall hall8 hl8
          go_wp2_with fail
          obtain ⟨lo, hlo⟩ : ∃ lo : Nat, v % 64 = (lo : Int) := ⟨(v % 64).toNat, by omega⟩
          rw [hlo]
          have hlo64 : lo < 64 := by omega
          have hloi : (lo : Int) ≤ 64 := by omega
          clear hlo hvm hvl hz1
          have hlt8 := hz8.lt
          have hu1' : u < 18446744073709551616 := by omega
          have hwr : IntKind.i64.wrap (64 - (lo : Int)) = 64 - (lo : Int) := IntWalk.i64_in _ (by omega)
          go_cut [13] from 76 to 86 (fun s13 wx => ∃ g, s13 = .slice (some ⟨g, 0, none⟩) 64 64 ∧ Blk wx g 53 (cellsOf .u8 (putL u 64)) ∧ Blk wx w.heap.size 55 #[.int .u64 u, .int .u64 v] ∧ Below w.heap.size w wx)
          case first =>
            go_region_held3 (fun w' => w'.cell? ⟨w.heap.size, 0, none⟩ = some (.int .u64 u))
              (first
                | go_keep
                | exact (hb9.cell (p := ⟨w.heap.size, 0, none⟩) hlt8).trans hz0
                | exact (hb10.cell (p := ⟨w.heap.size, 0, none⟩) (Nat.lt_of_lt_of_le hlt8 hb9.size)).trans ((hb9.cell (p := ⟨w.heap.size, 0, none⟩) hlt8).trans hz0))
              (first
                | (go_at_call_of 27 (Value.slice none 0 0); with_reducible refine (put_hi lo (u / 2 ^ lo) _ (by omega) (div_lo hu0) (div_hi hu0 hu1')).mono ?_; rintro e w9 ⟨g9, rfl, _, hB9, hb9⟩)
                | (go_at_call 27; with_reducible refine (put_lo lo g9 u _ (by omega) hu0 hu1' hB9).mono ?_; rintro e w10 ⟨g10, rfl, _, hB10, hb10⟩))
            all_goals go_wp2_with fail
            all_goals go_meet
            all_goals exact ⟨g10, rfl, hB10, (Blk.on (w := w8.drew) hz8 hb9).on hb10, below_then (below_then hb8.drew hb9) hb10⟩
          case rest =>
            obtain ⟨g11, rfl, hB11, hz11, hb11⟩ := hcut
            have hc11 := hz11.cell 0
            simp at hc11
            have hl11 := hB11.lies (n := 64) (putL_length _ _)
            clear hB11 hz11 hz0 hz8 hb8 hwr
            go_wp2_with fail
            with_reducible refine (put_all u _ hu0 hu1').mono ?_
            rintro e w12 ⟨g12, rfl, _, hB12, hb⟩
            have hl11' := hl11.on hb
            have hb12 := below_then hb11 hb
            have hl12 := hB12.lies (n := 64) (putL_length _ _)
            clear hb hl11 hb11 hB12 hc11
            go_wp2_with fail
            with_reducible refine (same_true _ _ _ _ _ _ _ _ _ hl11' hl12 (by omega) (by omega) rfl).mono ?_
            rintro e w13 ⟨rfl, hb⟩
            have hb13 := below_then hb12 hb
            clear hb hb12 hl12 hl11'
            go_wp2_with fail
            with_reducible refine (lives_any _).mono ?_
            rintro e w14 ⟨rfl, hb⟩
            go_wp2_with fail
            go_ret
            exact ⟨rfl, below_then hb13 hb⟩
    · have hgt : (200 : Int) < (m : Int) := by omega
      go_enter Try.func7, Try.ntmps7
      go_wp2_with (go_at_call 9; refine (lives_any _).mono ?_; rintro e w1 ⟨rfl, hb⟩)
      go_ret
      exact ⟨rfl, below_then (below_al (Below.refl _ _) _) hb⟩
  · have hgt : (200 : Int) < (n : Int) := by omega
    go_enter Try.func7, Try.ntmps7
    go_wp2_with (go_at_call 9; refine (lives_any _).mono ?_; rintro e w1 ⟨rfl, hb⟩)
    go_ret
    exact ⟨rfl, below_then (below_al (Below.refl _ _) _) hb⟩

theorem bitsJoin.bitsJoin_walk (A : Option Addr) (n c : Nat) (xs : List Int) (B : Option Addr) (m d : Nat) (ys : List Int) (u v : Int) (w : World) (hx : Lies .u8 w w.heap.size A n xs) (hm : n ≤ maxLen) (ha : ∀ x ∈ xs, (Lit.int .u8 x).wf = true)
    (hy : Lies .u8 w w.heap.size B m ys) (hm' : m ≤ maxLen) (hb : ∀ x ∈ ys, (Lit.int .u8 x).wf = true) (hu : (Lit.int .u64 u).wf = true) (hv : (Lit.int .u64 v).wf = true) :
    Calls Try.prog 7 #[.slice A n c, .slice B m d, .agg #[.int .u64 u, .int .u64 v]] w fun e w' => e = .returned (.bool true) ∧ Below w.heap.size w w' :=
  join_walk A B n m c d xs ys u v w hx hm (fun x hx => bounds_u8 (ha x hx)) hy hm' (fun x hx => bounds_u8 (hb x hx)) (bounds_u64 hu).1 (bounds_u64 hu).2 (bounds_u64 hv).1 (bounds_u64 hv).2
end Go.Proofs.Ytafnkcjnnebffaa
