/-
  The walk of the law BitsNum: it returns true, and nothing that was there has turned. Conditions: the slice's reading, a number of 64 bits.
-/
import Derived.Test.YtafnkcjnnebffaaLawTurn
import Derived.Test.YtafnkcjnnebffaaRefPut
namespace Go.Proofs.Ytafnkcjnnebffaa
open Go.RowKit

set_option maxRecDepth 100000 in
theorem num_walk (A : Option Addr) (n c : Nat) (xs : List Int) (v bs : Int) (w : World) (hx : Lies .u8 w w.heap.size A n xs) (hm : n ≤ maxLen) (hv0 : 0 ≤ v) (hv1 : v < 18446744073709551616) :
    Calls Try.prog 4 #[.slice A n c, .int .u64 v, .int .i64 bs] w fun e w' => e = .returned (.bool true) ∧ Below w.heap.size w w' := by
  unfold maxLen at hm
  by_cases h2000 : n ≤ 2000
  · have hd : decide ((2000 : Int) < (n : Int)) = false := by simp; omega
    have HL := Lib.hid hx.len
    have hM64 := manyN_le bs
    have HP := Lib.hid (show (xs ++ putL v (manyN bs)).length = n + manyN bs by rw [List.length_append, putL_length, hx.len])
    obtain ⟨zs, hzs⟩ : ∃ zs, zs = xs ++ putL v (manyN bs) := ⟨_, rfl⟩
    have hput := fun A c w h => put_any A n c xs v bs w h (by omega) hv0 hv1
    have hrput := fun A c w h => refPut_any A n c xs v bs w h (by omega) hv0 hv1
    obtain ⟨M, hM⟩ : ∃ M, M = manyN bs := ⟨_, rfl⟩
    rw [← hzs, ← hM] at hput hrput HP
    rw [← hM] at hM64
    have HPUT := Lib.hid hput
    have HRPUT := Lib.hid hrput
    clear hput hrput hzs hM
    obtain ⟨nr, hnr⟩ : ∃ nr, nr = numR xs := ⟨_, rfl⟩
    obtain ⟨no, hno⟩ : ∃ no, no = numOk xs := ⟨_, rfl⟩
    have hnum := fun A c w h => num_any A n c xs w h (by omega)
    have hrnum := fun A c w h => refNum_any A n c xs w h (by omega)
    rw [← hnr, ← hno] at hnum hrnum
    have HNUM := Lib.hid hnum
    have HRNUM := Lib.hid hrnum
    clear hnum hrnum hnr hno
    have e1 : (nr != nr) = false := by simp
    have e2 : (no != no) = false := by simp
    go_enter Try.func4, Try.ntmps4
    go_wp2_with fail
    with_reducible refine (twinSyms_any _ _ _ _ _ hx (by omega)).mono ?_
    rintro e w1 ⟨g1, c1, rfl, hg1, ht1, hb1⟩
    have hx1 := hx.on hb1
    clear hx hm
    go_wp2_with fail
    with_reducible refine (HNUM.out _ _ _ ht1.lies).mono ?_
    rintro e w' ⟨rfl, rfl⟩
    go_wp2_with fail
    with_reducible refine (HRNUM.out _ _ _ hx1).mono ?_
    rintro e w' ⟨rfl, rfl⟩
    go_wp2_with fail
    with_reducible refine (HPUT.out _ _ _ ht1.lies).mono ?_
    rintro e w2 ⟨g2, rfl, hg2, hB2, hb⟩
    have hx2 := hx1.on hb
    have hlt1 := ht1.lt
    have ht2 := ht1.on hb
    have hb2 := below_then hb1 hb
    have hlt2 := hB2.lt
    clear hb hx1 ht1 hb1
    go_wp2_with fail
    with_reducible refine (HPUT.out _ _ _ ht2.lies).mono ?_
    rintro e w3 ⟨g3, rfl, hg3, hB3, hb⟩
    have hx3 := hx2.on hb
    have ht3 := ht2.on hb
    have hC3 := hB2.on hb
    have hb3 := below_then hb2 hb
    clear hb hx2 ht2 hb2 hB2
    go_wp2_with fail
    with_reducible refine (HRPUT.out _ _ _ hx3).mono ?_
    rintro e w4 ⟨A4, c4, rfl, hl4, hb⟩
    have hx4 := hx3.on hb
    have ht4 := ht3.on hb
    have hC4 := hC3.on hb
    have hB4 := hB3.on hb
    have hb4 := below_then hb3 hb
    clear hb hx3 ht3 hb3 hB3 hC3
    go_wp2_with fail
    with_reducible refine (same_true _ _ _ _ _ _ _ _ _ (hC4.lies HP.out) hl4 (by omega) (by omega) rfl).mono ?_
    rintro e w5 ⟨rfl, hb⟩
    have hx5 := hx4.on hb
    have ht5 := ht4.on hb
    have hC5 := hC4.on hb
    have hB5 := hB4.on hb
    have hb5 := below_then hb4 hb
    clear hb hx4 ht4 hb4 hB4 hC4 hl4
    go_wp2_with fail
    with_reducible refine (leftSyms_true _ _ _ _ _ _ _ ht5 hx5 (by omega)).mono ?_
    rintro e w7 ⟨rfl, hb⟩
    have ht1 := ht5.on hb
    have hC7 := hC5.on hb
    have hB7 := hB5.on hb
    have hb7 := below_then hb5 hb
    clear hb hx5 ht5 hb5 hB5 hC5
    have hcap := ht1.cap
    have hsl := fun W : World => cut3Syms g1 n c1 (by omega) W
    go_wp2_with fail
    have hk0 := BookIs.empty (Blk.new w7 37 #[.slice none 0 0, .slice none 0 0, .slice none 0 0, .bool false]) hb7.size
    have hb8 := below_al hb7 (.cells #[.slice none 0 0, .slice none 0 0, .slice none 0 0, .bool false] 37)
    have ht8 := ht1.kept (KeptBut.alloc w7 (.cells #[.slice none 0 0, .slice none 0 0, .slice none 0 0, .bool false] 37) []) (by simp)
    have hB8 := hB7.alloc (.cells #[.slice none 0 0, .slice none 0 0, .slice none 0 0, .bool false] 37)
    have hC8 := hC7.alloc (.cells #[.slice none 0 0, .slice none 0 0, .slice none 0 0, .bool false] 37)
    clear ht1 hB7 hC7 hb7
    with_reducible refine (bookSyms _ _ _ _ _ _ _ _ _ _ _ hk0 (by simp)).mono ?_
    rintro e w9 ⟨rfl, ⟨v9, hk9⟩, hbb, hkk⟩
    have ht9 := ht8.kept hkk (by decide)
    have hB9 := hkk _ _ _ (by decide) hB8
    have hC9 := hkk _ _ _ (by decide) hC8
    have hb9 := hb8.trans hbb
    clear hk0 hb8 ht8 hB8 hC8 hbb hkk hsl
    rw [List.nil_append] at hk9
    go_wp2_with fail
    with_reducible refine (bookSyms _ _ _ _ _ _ _ _ _ _ _ hk9 (by simp)).mono ?_
    rintro e w10 ⟨rfl, ⟨v10, hk10⟩, hbb, hkk⟩
    have ht10 := ht9.kept hkk (by decide)
    have hB10 := hkk _ _ _ (by decide) hB9
    have hC10 := hkk _ _ _ (by decide) hC9
    have hb10 := hb9.trans hbb
    clear hk9 hb9 ht9 hB9 hC9 hbb hkk
    go_wp2_with fail
    with_reducible refine (bookSyms _ _ _ _ _ _ _ _ _ _ _ hk10 (by simp)).mono ?_
    rintro e w12 ⟨rfl, ⟨v12, hk12⟩, hbb, hkk⟩
    have ht12 := ht10.kept hkk (by decide)
    have hB12 := hkk _ _ _ (by decide) hB10
    have hC12 := hkk _ _ _ (by decide) hC10
    have hb12 := hb10.trans hbb
    clear hk10 hb10 ht10 hB10 hC10 hbb hkk
    simp only [List.cons_append, List.nil_append] at hk12
    have hs1 := hb12.size
    have hents : Ents w12 53 w.heap.size [(some ⟨g1, 0, none⟩, n), (some ⟨g2, 0, none⟩, n + M), (some ⟨g3, 0, none⟩, n + M)] := ents3 (ht12.ent hg1) (hC12.ent HP.out (by omega)) (hB12.ent HP.out (by omega))
    have hdist : Dist [(some ⟨g1, 0, none⟩, n), (some ⟨g2, 0, none⟩, n + M), (some ⟨g3, 0, none⟩, n + M)] := dist3 (by omega) (by omega) (by omega)
    go_wp2_with fail
    with_reducible refine (apart_any _ _ _ _ _ _ _ _ _ hk12 (by simp) (by simp) (by simp) (by simp) (by simp) (by simp; omega) ents0 ents0 hents dist0 dist0 hdist).mono ?_
    rintro e w13 ⟨rfl, hbb⟩
    have hb13 := hb12.trans hbb
    clear hk12 hb12 hbb hents hdist
    go_wp2_with fail
    with_reducible refine (lives_any _).mono ?_
    rintro e w14 ⟨rfl, hb⟩
    go_wp2_with fail
    go_ret
    exact ⟨rfl, below_then hb13 hb⟩
  · have hgt : (2000 : Int) < (n : Int) := by omega
    go_enter Try.func4, Try.ntmps4
    go_wp2_with (go_at_call 9; refine (lives_any _).mono ?_; rintro e w1 ⟨rfl, hb⟩)
    go_ret
    exact ⟨rfl, hb⟩

theorem bitsNum.bitsNum_walk (A : Option Addr) (n c : Nat) (xs : List Int) (v bs : Int) (w : World) (hx : Lies .u8 w w.heap.size A n xs) (hm : n ≤ maxLen) (_ : ∀ x ∈ xs, (Lit.int .u8 x).wf = true) (hv : (Lit.int .u64 v).wf = true) (_ : (Lit.int .i64 bs).wf = true) :
    Calls Try.prog 4 #[.slice A n c, .int .u64 v, .int .i64 bs] w fun e w' => e = .returned (.bool true) ∧ Below w.heap.size w w' :=
  num_walk A n c xs v bs w hx hm (bounds_u64 hv).1 (by have := (bounds_u64 hv).2; omega)
end Go.Proofs.Ytafnkcjnnebffaa
