/-
  The law LinesKinds, walked: lines of texts, and of lists, carry these as lines of numbers do: true; nothing that was there has turned. Conditions: the list's reading.
-/
import Derived.Test.YtlbpplibngdncaaLn3
import Derived.Test.YtlbpplibngdncaaLnI
import Derived.Test.YtlbpplibngdncaaBook
import Derived.Test.YtlbpplibngdncaaReg
namespace Go.Proofs.Ytlbpplibngdncaa
open Go.RowKit
set_option linter.unusedVariables false

theorem sendS_lots (g : Nat) (h k : Int) (a b : Option ByteArray) (A : Option Addr) (n c : Nat) (w : World) (hL : OnS w g h k a b) (hh : h = 1 ∨ h = 2) (hn : 1 < n) :
    Calls Try.prog 31 #[.pointer (some ⟨g, 0, none⟩), .slice A n c] w fun e w' => e = .returned (.int .i64 1) ∧ Below w.heap.size w w' := sendS_many g h k _ _ _ _ A n c w hL hh hn
theorem wayS_no (g : Nat) (h k : Int) (a : Option ByteArray) (w : World) (hL : OnS w g h k a none) :
    Calls Try.prog 30 #[.pointer (some ⟨g, 0, none⟩)] w fun e w' => e = .returned (.slice none 0 0) ∧ Below w.heap.size w w' := wayS_none g h k _ _ _ w hL
theorem wayS_yes (g : Nat) (h k : Int) (a : Option ByteArray) (x : ByteArray) (w : World) (hL : OnS w g h k a (some x)) :
    Calls Try.prog 30 #[.pointer (some ⟨g, 0, none⟩)] w fun e w' => e = .returned (.slice (some ⟨w.heap.size, 0, none⟩) 1 1) ∧ Below w.heap.size w w' := (wayS_some g h k _ _ _ w hL).mono fun e w' ⟨h1, _, h3⟩ => ⟨h1, h3⟩
/-- A slice of two. -/
def Reg.Fact.two : Reg.Fact := ⟨fun v _ => ∃ A, v = .slice A 2 2, fun _ _ _ _ h => h⟩
theorem str_beq (s : ByteArray) : (s == s) = true := by
  obtain ⟨d⟩ := s
  exact beq_self_eq_true d
theorem str_bne (s : ByteArray) : (s != s) = false := by simp only [bne, str_beq, Bool.not_true]
theorem OnL.apart {w : World} {g b : Nat} {h k : Int} {a c : Option (Option Addr × Nat × Nat)} {x : ByteArray} (H : OnL w g h k a c) (hB : Blk w b 9 #[.string x]) : b ≠ g := hB.ne (t' := 102) (cs' := _) H (by decide)
theorem OnS.apart {w : World} {g b : Nat} {h k : Int} {a c : Option ByteArray} {x : ByteArray} (H : OnS w g h k a c) (hB : Blk w b 9 #[.string x]) : b ≠ g := hB.ne (t' := 98) (cs' := _) H (by decide)
theorem OneL_two (w : World) (x : ByteArray) : OneL ((w.alloc (.cells #[.string x] 9)).alloc (.cells #[.slice (some ⟨w.heap.size, 0, none⟩) 1 1] 64)) (some ⟨w.heap.size + 1, 0, none⟩) 1 (some (some ⟨w.heap.size, 0, none⟩, 1, 1)) := by
  have h := oneL_new (w.alloc (.cells #[.string x] 9)) (some ⟨w.heap.size, 0, none⟩) 1 1
  rwa [alloc_size] at h
set_option maxRecDepth 100000 in
set_option maxHeartbeats 4000000 in
theorem linesKinds_1 (A1 : Option Addr) (n c1 : Nat) (ss : Nat → ByteArray) (w : World) (hr : Row w w.heap.size A1 n (fun j => .string (ss j))) (hn : n ≤ 100) :
    Calls Try.prog 6 #[.slice A1 n c1, .bool false] w fun e w' => e = .returned (.bool true) ∧ Below w.heap.size w w' := by
  have HR := Lib.hid hr
  have hd : decide ((100 : Int) < (n : Int)) = false := decide_eq_false (by omega)
  clear hr
  go_enter Try.func6, Try.ntmps6
  go_wp2_with (first
    | (go_at_call 26; (with_reducible refine (newS_is 1 w hop1).mono ?_); rintro e u1 ⟨rfl, hS1, b1⟩)
    | (go_at_call 27; (with_reducible refine (newL_is 1 u1 hop1).mono ?_); rintro e u2 ⟨rfl, hL2, b2⟩))
  have hl12 := hS1.lt
  have LB := Lib.hid (show w.heap.size ≤ u1.heap.size by omega)
  have hAB : w.heap.size ≠ u1.heap.size := by omega
  have NAB := Lib.hid hAB
  have NBA := Lib.hid hAB.symm
  have H0 := Lib.hid (And.intro (hS1.on b2) (And.intro hL2 (below_then b1 b2)))
  clear hS1 hL2 b1 b2 hl12 hAB hd
  go_loopw [10] (fun s10 wr => ∃ i : Nat, i ≤ n ∧ s10 = .int .i64 i ∧ ((i = 0 ∧ OnS wr w.heap.size 1 (i : Int) none none ∧ OnL wr u1.heap.size 1 (i : Int) none none) ∨ (∃ j g1, i = j + 1 ∧ OnS wr w.heap.size 1 (i : Int) (some (ss j)) none ∧ OnL wr u1.heap.size 1 (i : Int) (some (some ⟨g1, 0, none⟩, 1, 1)) none ∧ Blk wr g1 9 #[.string (ss j)])) ∧ Below w.heap.size w wr) (fun s10 _ => n - (intOf s10).toNat)
  case atStart => exact ⟨0, by omega, rfl, .inl ⟨rfl, H0.out.1, H0.out.2.1⟩, H0.out.2.2⟩
  case round =>
    obtain ⟨i, hi, rfl, hrel, hb⟩ := hrel
    clear H0
    by_cases hlt : i < n
    · rcases hrel with ⟨hi0, hS, hL⟩ | ⟨j, g1, hi0, hS, hL, hB1⟩
      · obtain ⟨s0, hs0'⟩ : ∃ s0, s0 = ss i := ⟨_, rfl⟩
        have hs0 : s0 = ss (i) := hs0'.trans (congrArg ss (by omega))
        obtain ⟨bl, ol, hA, hll0, hlc⟩ := HR.out (show 0 < n by omega)
        have hix0 := fun W => idx1Texts (n := n) c1 hA (show i < n by omega) W
        have HC0 := Lib.hid (show ∀ u : World, Below w.heap.size w u → u.cell? ⟨bl, ol + (i), none⟩ = some (.string s0) ∧ bl < u.heap.size from fun u hu => ⟨(hu.cell hll0).trans ((hlc (i) (by omega)).trans (by rw [hs0'])), Nat.lt_of_lt_of_le hll0 hu.size⟩)
        have hge : decide ((1 : Int) ≤ (i : Int)) = false := decide_eq_false (by omega)
        have HK := Lib.hid (show 0 ≤ (i : Int) ∧ (i : Int) < 4611686018427387904 from ⟨by omega, by omega⟩)
        have hlt' : decide ((i : Int) < (n : Int)) = true := decide_eq_true (by omega)
        have hltn : decide ((i) < n) = true := decide_eq_true (by omega)
        have HS := Lib.hid hS
        have HLL := Lib.hid hL
        have HB := Lib.hid hb
        have KK := Lib.hid (show (i : Int) + 1 = ((i + 1 : Nat) : Int) by omega)
        have HI0 := Lib.hid hi0
        have HE0 := Lib.hid hs0
        have HE2 := HE0
        clear hi0 hs0 hs0' hA hlc hS hL hb
        have XS := Lib.hid (show (none : Option ByteArray).getD ByteArray.empty = ByteArray.empty from rfl)
        have PS := Lib.hid (show (none : Option ByteArray).isSome = false from rfl)
        have XL := Lib.hid (show (none : Option (Option Addr × Nat × Nat)).getD (none, 0, 0) = (none, 0, 0) from rfl)
        have PL := Lib.hid (show (none : Option (Option Addr × Nat × Nat)).isSome = false from rfl)
        have NS := Lib.hid (show nowL 1 (none : Option ByteArray) (some s0) = (some s0) from rfl)
        have MS := Lib.hid (show nextL 1 (none : Option ByteArray) (some s0) = none from rfl)
        have NL := Lib.hid (show ∀ q : Nat, nowL 1 (none : Option (Option Addr × Nat × Nat)) (some (some ⟨q, 0, none⟩, 1, 1)) = (some (some ⟨q, 0, none⟩, 1, 1)) from fun _ => rfl)
        have ML := Lib.hid (show ∀ q : Nat, nextL 1 (none : Option (Option Addr × Nat × Nat)) (some (some ⟨q, 0, none⟩, 1, 1)) = none from fun _ => rfl)
        go_upto_region 19 with (first
          | (go_at_call 28; (with_reducible refine (hereS_is w.heap.size 1 _ none none ByteArray.empty XS.out false PS.out wr HS.out).mono ?_); rintro e v1 ⟨rfl, d1⟩)
          | (go_at_call 29; (with_reducible refine (hereL_is u1.heap.size 1 _ none none (none, 0, 0) XL.out false PL.out v1 (HLL.out.on d1)).mono ?_); rintro e v2 ⟨rfl, d2⟩; have e2 := below_then d1 d2; have HW2 := Lib.hid (below_then HB.out e2); have HS2 := Lib.hid (HS.out.on e2))
          | (go_at_call 30; (with_reducible refine (wayS_no w.heap.size 1 _ none v2 HS2.out).mono ?_); rintro e v3 ⟨rfl, d3⟩; have HE3 := Lib.hid (below_then e2 d3); have HW3 := Lib.hid (below_then HB.out HE3.out); have x3 := (HC0.out _ HW3.out).1; have x3l := (HC0.out _ HW3.out).2)
          | (go_at_call 31; (with_reducible refine (sendS_is w.heap.size 1 _ none none (some s0) (some s0) none (some ⟨v3.heap.size, 0, none⟩) 1 1 NS.out MS.out _ KK.out _ ((HS.out.on HE3.out).al (.cells #[.string s0] 9)) hop1 HK.out.1 HK.out.2 (oneS_new v3 s0)).mono ?_); rintro e v4 ⟨rfl, hS4, t4⟩; have HT4 := Lib.hid t4; have HS4 := Lib.hid hS4; have HL4 := Lib.hid (((HLL.out.on HE3.out).al (.cells #[.string s0] 9)).but t4 NBA.out); have HW4 := Lib.hid ((HW3.out.alloc HW3.out.size (.cells #[.string s0] 9)).trans (t4.low (Nat.le_refl _))); clear hS4 x3 x3l; have x4 := (HC0.out _ HW4.out).1; have x4l := (HC0.out _ HW4.out).2)
          | (go_at_call 32; (with_reducible refine (sendL_is u1.heap.size 1 _ none none (some (some ⟨v4.heap.size, 0, none⟩, 1, 1)) (some (some ⟨v4.heap.size, 0, none⟩, 1, 1)) none (some ⟨v4.heap.size + 1, 0, none⟩) 1 1 (NL.out _) (ML.out _) _ KK.out _ ((HL4.out.al (.cells #[.string s0] 9)).al (.cells #[.slice (some ⟨v4.heap.size, 0, none⟩) 1 1] 64)) hop1 HK.out.1 HK.out.2 (OneL_two v4 s0)).mono ?_); rintro e v5 ⟨rfl, hL5, t5⟩; have HL5 := Lib.hid hL5; have HS5 := Lib.hid (((HS4.out.al (.cells #[.string s0] 9)).al (.cells #[.slice (some ⟨v4.heap.size, 0, none⟩) 1 1] 64)).but t5 NAB.out); have HW5 := Lib.hid (((HW4.out.alloc HW4.out.size (.cells #[.string s0] 9)).alloc (Nat.le_trans HW4.out.size (by simp)) (.cells #[.slice (some ⟨v4.heap.size, 0, none⟩) 1 1] 64)).trans (t5.low LB.out)); have HG5 := Lib.hid (t5.blk ((Blk.new v4 9 #[.string s0]).alloc (.cells #[.slice (some ⟨v4.heap.size, 0, none⟩) 1 1] 64)) (OnL.apart ((HL4.out.al (.cells #[.string s0] 9)).al (.cells #[.slice (some ⟨v4.heap.size, 0, none⟩) 1 1] 64)) ((Blk.new v4 9 #[.string s0]).alloc (.cells #[.slice (some ⟨v4.heap.size, 0, none⟩) 1 1] 64)))); clear hL5 x4 x4l; have x5 := (HC0.out _ HW5.out).1; have x5l := (HC0.out _ HW5.out).2))
        have H2 := Lib.hid (show 1 < 2 by omega)
        refine Reg.wp_slots (fun t => decide (112 ≤ t) && decide (t ≤ 123)) (by kernel_rfl) (by kernel_rfl) (by kernel_rfl) (fun zz => (Reg.tbl [
          (112, .is (.pointer (some ⟨w.heap.size, 0, none⟩))),
          (113, .is (.slice A1 n c1)),
          (114, .is (.int .i64 (i : Int))),
          (115, .is (.pointer (some ⟨bl, ol + i, none⟩))),
          (116, .is (.string s0)),
          (117, .is (.slice A1 n c1)),
          (118, .is (.int .i64 (i : Int))),
          (119, .is (.pointer (some ⟨bl, ol + i, none⟩))),
          (120, .is (.string s0)),
          (121, .two),
          (122, .is (.int .i64 1)),
          (123, .is (.bool false))] zz).P) (fun zz => (Reg.tbl _ zz).on) ?_ ?_
        · simp only [Reg.frame, Reg.over, Nat.reduceAdd, Nat.reduceLeDiff, decide_true, decide_false, if_true, Bool.false_eq_true, if_false, Bool.and_true, Bool.and_false]
          refine ⟨?_, ?_, ?_, ?_, ?_, ?_, ?_, ?_, ?_, ?_, ?_, ?_, trivial⟩
          · intro x u hbu hd
            refine wpOp_step rfl fun K hK => ?_
            go_simp
            exact hK _ _ ⟨_, rfl, Below.refl _ _, fun d hd => by cases hd; exact rfl⟩
          · intro x u hbu hd
            refine wpOp_step rfl fun K hK => ?_
            go_simp
            exact hK _ _ ⟨_, rfl, Below.refl _ _, fun d hd => by cases hd; exact rfl⟩
          · intro x u hbu hd
            refine wpOp_step rfl fun K hK => ?_
            go_simp
            exact hK _ _ ⟨_, rfl, Below.refl _ _, fun d hd => by cases hd; exact rfl⟩
          · intro x u hbu hd
            have h113 : x 113 = .slice A1 n c1 := hd 1 (by decide)
            have h114 : x 114 = .int .i64 (i : Int) := hd 2 (by decide)
            refine wpOp_step rfl fun K hK => ?_
            simp only [h113, h114] at hK ⊢
            go_simp
            exact hK _ _ ⟨_, rfl, Below.refl _ _, fun d hd => by cases hd; exact rfl⟩
          · intro x u hbu hd
            have h115 : x 115 = .pointer (some ⟨bl, ol + i, none⟩) := hd 3 (by decide)
            have x6 := (HC0.out u (below_then HW5.out hbu)).1
            have x7 := (HC0.out u (below_then HW5.out hbu)).2
            refine wpOp_step rfl fun K hK => ?_
            simp only [h115] at hK ⊢
            go_simp
            exact hK _ _ ⟨_, rfl, Below.refl _ _, fun d hd => by cases hd; exact rfl⟩
          · intro x u hbu hd
            refine wpOp_step rfl fun K hK => ?_
            go_simp
            exact hK _ _ ⟨_, rfl, Below.refl _ _, fun d hd => by cases hd; exact rfl⟩
          · intro x u hbu hd
            refine wpOp_step rfl fun K hK => ?_
            go_simp
            exact hK _ _ ⟨_, rfl, Below.refl _ _, fun d hd => by cases hd; exact rfl⟩
          · intro x u hbu hd
            have h117 : x 117 = .slice A1 n c1 := hd 5 (by decide)
            have h118 : x 118 = .int .i64 (i : Int) := hd 6 (by decide)
            refine wpOp_step rfl fun K hK => ?_
            simp only [h117, h118] at hK ⊢
            go_simp
            exact hK _ _ ⟨_, rfl, Below.refl _ _, fun d hd => by cases hd; exact rfl⟩
          · intro x u hbu hd
            have h119 : x 119 = .pointer (some ⟨bl, ol + i, none⟩) := hd 7 (by decide)
            have x6 := (HC0.out u (below_then HW5.out hbu)).1
            have x7 := (HC0.out u (below_then HW5.out hbu)).2
            refine wpOp_step rfl fun K hK => ?_
            simp only [h119] at hK ⊢
            go_simp
            exact hK _ _ ⟨_, rfl, Below.refl _ _, fun d hd => by cases hd; exact rfl⟩
          · intro x u hbu hd
            have h116 : x 116 = .string s0 := hd 4 (by decide)
            have h120 : x 120 = .string s0 := hd 8 (by decide)
            refine wpOp_step rfl fun K hK => ?_
            simp only [h116, h120] at hK ⊢
            go_simp
            exact hK _ _ ⟨_, rfl, below_al (Below.refl _ _) _, fun d hd => by cases hd; exact ⟨_, rfl⟩⟩
          · intro x u hbu hd
            have h112 : x 112 = .pointer (some ⟨w.heap.size, 0, none⟩) := hd 0 (by decide)
            have k121 : (Reg.Fact.two : Reg.Fact).P (x 121) u := hd 9 (by decide)
            obtain ⟨A121, h121⟩ := k121
            refine wpOp_step rfl fun K hK => ?_
            simp only [h112, h121] at hK ⊢
            go_simp
            with_reducible refine (sendS_lots w.heap.size 1 _ (some s0) none A121 2 2 u (HS5.out.on hbu) hop1 H2.out).mono ?_
            rintro e u' ⟨rfl, hb'⟩
            exact hK _ _ ⟨_, rfl, hb', fun d hd => by cases hd; exact rfl⟩
          · intro x u hbu hd
            have h122 : x 122 = .int .i64 1 := hd 10 (by decide)
            refine wpOp_step rfl fun K hK => ?_
            simp only [h122] at hK ⊢
            go_simp
            exact hK _ _ ⟨_, rfl, Below.refl _ _, fun d hd => by cases hd; exact rfl⟩
        · intro x v6 d6' hall
          have h123 : x 123 = .bool false := hall 11 (by decide)
          simp only [Reg.frame, Reg.over, Nat.reduceLeDiff, decide_true, decide_false, Bool.and_true, Bool.and_false, if_true, Bool.false_eq_true, if_false, h123]
          go_wp2_with fail
          go_roundw
          case rel => exact ⟨i + 1, by omega, by go_num, .inr ⟨i, v4.heap.size, rfl, (by have q := HS5.out.on d6'; rw [HE0.out] at q; exact q), (HL5.out.on d6'), (by rw [← HE0.out]; exact HG5.out.on d6')⟩, (below_then HW5.out d6')⟩
          case measure => simp [intOf]; omega
      · obtain ⟨s1, hs1⟩ : ∃ s1, s1 = ss j := ⟨_, rfl⟩
        rw [← hs1] at hS hB1
        obtain ⟨s0, hs0'⟩ : ∃ s0, s0 = ss i := ⟨_, rfl⟩
        have hs0 : s0 = ss (i) := hs0'.trans (congrArg ss (by omega))
        obtain ⟨bl, ol, hA, hll0, hlc⟩ := HR.out (show 0 < n by omega)
        have hix0 := fun W => idx1Texts (n := n) c1 hA (show i < n by omega) W
        have HC0 := Lib.hid (show ∀ u : World, Below w.heap.size w u → u.cell? ⟨bl, ol + (i), none⟩ = some (.string s0) ∧ bl < u.heap.size from fun u hu => ⟨(hu.cell hll0).trans ((hlc (i) (by omega)).trans (by rw [hs0'])), Nat.lt_of_lt_of_le hll0 hu.size⟩)
        have hix1 := fun W => idx1Texts (n := n) c1 hA (show j < n by omega) W
        have HC1 := Lib.hid (show ∀ u : World, Below w.heap.size w u → u.cell? ⟨bl, ol + (j), none⟩ = some (.string s1) from fun u hu => (hu.cell hll0).trans ((hlc (j) (by omega)).trans (by rw [hs1])))
        have hwd : IntKind.i64.wrap ((i : Int) - 1) = ((j : Nat) : Int) := by rw [show (i : Int) - 1 = ((j : Nat) : Int) by omega]; exact IntWalk.i64_in _ (by omega)
        have hse := str_bne s1
        have hse' := str_beq s1
        have hge : decide ((1 : Int) ≤ (i : Int)) = true := decide_eq_true (by omega)
        have HB1 := Lib.hid hB1
        have HK := Lib.hid (show 0 ≤ (i : Int) ∧ (i : Int) < 4611686018427387904 from ⟨by omega, by omega⟩)
        have hlt' : decide ((i : Int) < (n : Int)) = true := decide_eq_true (by omega)
        have hltn : decide ((i) < n) = true := decide_eq_true (by omega)
        have HS := Lib.hid hS
        have HLL := Lib.hid hL
        have HB := Lib.hid hb
        have KK := Lib.hid (show (i : Int) + 1 = ((i + 1 : Nat) : Int) by omega)
        have HI0 := Lib.hid hi0
        have HE0 := Lib.hid hs0
        have HE2 := HE0
        clear hi0 hs0 hs0' hs1 hA hlc hS hL hb hB1
        have XS := Lib.hid (show ((some s1) : Option ByteArray).getD ByteArray.empty = s1 from rfl)
        have PS := Lib.hid (show ((some s1) : Option ByteArray).isSome = true from rfl)
        have XL := Lib.hid (show ((some (some ⟨g1, 0, none⟩, 1, 1)) : Option (Option Addr × Nat × Nat)).getD (none, 0, 0) = (some ⟨g1, 0, none⟩, 1, 1) from rfl)
        have PL := Lib.hid (show ((some (some ⟨g1, 0, none⟩, 1, 1)) : Option (Option Addr × Nat × Nat)).isSome = true from rfl)
        have NS := Lib.hid (show nowL 1 (none : Option ByteArray) (some s0) = (some s0) from rfl)
        have MS := Lib.hid (show nextL 1 (none : Option ByteArray) (some s0) = none from rfl)
        have NL := Lib.hid (show ∀ q : Nat, nowL 1 (none : Option (Option Addr × Nat × Nat)) (some (some ⟨q, 0, none⟩, 1, 1)) = (some (some ⟨q, 0, none⟩, 1, 1)) from fun _ => rfl)
        have ML := Lib.hid (show ∀ q : Nat, nextL 1 (none : Option (Option Addr × Nat × Nat)) (some (some ⟨q, 0, none⟩, 1, 1)) = none from fun _ => rfl)
        go_upto_region 19 with (first
          | (go_at_call 28; (with_reducible refine (hereS_is w.heap.size 1 _ (some s1) none s1 XS.out true PS.out wr HS.out).mono ?_); rintro e v1 ⟨rfl, d1⟩)
          | (go_at_call 29; (with_reducible refine (hereL_is u1.heap.size 1 _ (some (some ⟨g1, 0, none⟩, 1, 1)) none (some ⟨g1, 0, none⟩, 1, 1) XL.out true PL.out v1 (HLL.out.on d1)).mono ?_); rintro e v2 ⟨rfl, d2⟩; have e2 := below_then d1 d2; have HW2 := Lib.hid (below_then HB.out e2); have y0 := (HB1.out.on e2).cell 0; have yl := (HB1.out.on e2).lt; simp only [List.getElem?_toArray, List.getElem?_cons_zero] at y0; have z1 := HC1.out _ HW2.out; have z2 := (HC0.out _ HW2.out).2; have HS2 := Lib.hid (HS.out.on e2))
          | (go_at_call 30; (with_reducible refine (wayS_no w.heap.size 1 _ (some s1) v2 HS2.out).mono ?_); rintro e v3 ⟨rfl, d3⟩; have HE3 := Lib.hid (below_then e2 d3); have HW3 := Lib.hid (below_then HB.out HE3.out); have x3 := (HC0.out _ HW3.out).1; have x3l := (HC0.out _ HW3.out).2)
          | (go_at_call 31; (with_reducible refine (sendS_is w.heap.size 1 _ (some s1) none (some s0) (some s0) none (some ⟨v3.heap.size, 0, none⟩) 1 1 NS.out MS.out _ KK.out _ ((HS.out.on HE3.out).al (.cells #[.string s0] 9)) hop1 HK.out.1 HK.out.2 (oneS_new v3 s0)).mono ?_); rintro e v4 ⟨rfl, hS4, t4⟩; have HT4 := Lib.hid t4; have HS4 := Lib.hid hS4; have HL4 := Lib.hid (((HLL.out.on HE3.out).al (.cells #[.string s0] 9)).but t4 NBA.out); have HW4 := Lib.hid ((HW3.out.alloc HW3.out.size (.cells #[.string s0] 9)).trans (t4.low (Nat.le_refl _))); clear hS4 x3 x3l; have x4 := (HC0.out _ HW4.out).1; have x4l := (HC0.out _ HW4.out).2; have HB14 := Lib.hid (t4.blk ((HB1.out.on HE3.out).alloc (.cells #[.string s0] 9)) (OnS.apart HS.out HB1.out)))
          | (go_at_call 32; (with_reducible refine (sendL_is u1.heap.size 1 _ (some (some ⟨g1, 0, none⟩, 1, 1)) none (some (some ⟨v4.heap.size, 0, none⟩, 1, 1)) (some (some ⟨v4.heap.size, 0, none⟩, 1, 1)) none (some ⟨v4.heap.size + 1, 0, none⟩) 1 1 (NL.out _) (ML.out _) _ KK.out _ ((HL4.out.al (.cells #[.string s0] 9)).al (.cells #[.slice (some ⟨v4.heap.size, 0, none⟩) 1 1] 64)) hop1 HK.out.1 HK.out.2 (OneL_two v4 s0)).mono ?_); rintro e v5 ⟨rfl, hL5, t5⟩; have HL5 := Lib.hid hL5; have HS5 := Lib.hid (((HS4.out.al (.cells #[.string s0] 9)).al (.cells #[.slice (some ⟨v4.heap.size, 0, none⟩) 1 1] 64)).but t5 NAB.out); have HW5 := Lib.hid (((HW4.out.alloc HW4.out.size (.cells #[.string s0] 9)).alloc (Nat.le_trans HW4.out.size (by simp)) (.cells #[.slice (some ⟨v4.heap.size, 0, none⟩) 1 1] 64)).trans (t5.low LB.out)); have HG5 := Lib.hid (t5.blk ((Blk.new v4 9 #[.string s0]).alloc (.cells #[.slice (some ⟨v4.heap.size, 0, none⟩) 1 1] 64)) (OnL.apart ((HL4.out.al (.cells #[.string s0] 9)).al (.cells #[.slice (some ⟨v4.heap.size, 0, none⟩) 1 1] 64)) ((Blk.new v4 9 #[.string s0]).alloc (.cells #[.slice (some ⟨v4.heap.size, 0, none⟩) 1 1] 64)))); clear hL5 x4 x4l; have x5 := (HC0.out _ HW5.out).1; have x5l := (HC0.out _ HW5.out).2; have HB15 := Lib.hid (t5.blk ((HB14.out.alloc (.cells #[.string s0] 9)).alloc (.cells #[.slice (some ⟨v4.heap.size, 0, none⟩) 1 1] 64)) (OnL.apart HL4.out HB14.out))))
        have H2 := Lib.hid (show 1 < 2 by omega)
        refine Reg.wp_slots (fun t => decide (112 ≤ t) && decide (t ≤ 123)) (by kernel_rfl) (by kernel_rfl) (by kernel_rfl) (fun zz => (Reg.tbl [
          (112, .is (.pointer (some ⟨w.heap.size, 0, none⟩))),
          (113, .is (.slice A1 n c1)),
          (114, .is (.int .i64 (i : Int))),
          (115, .is (.pointer (some ⟨bl, ol + i, none⟩))),
          (116, .is (.string s0)),
          (117, .is (.slice A1 n c1)),
          (118, .is (.int .i64 (i : Int))),
          (119, .is (.pointer (some ⟨bl, ol + i, none⟩))),
          (120, .is (.string s0)),
          (121, .two),
          (122, .is (.int .i64 1)),
          (123, .is (.bool false))] zz).P) (fun zz => (Reg.tbl _ zz).on) ?_ ?_
        · simp only [Reg.frame, Reg.over, Nat.reduceAdd, Nat.reduceLeDiff, decide_true, decide_false, if_true, Bool.false_eq_true, if_false, Bool.and_true, Bool.and_false]
          refine ⟨?_, ?_, ?_, ?_, ?_, ?_, ?_, ?_, ?_, ?_, ?_, ?_, trivial⟩
          · intro x u hbu hd
            refine wpOp_step rfl fun K hK => ?_
            go_simp
            exact hK _ _ ⟨_, rfl, Below.refl _ _, fun d hd => by cases hd; exact rfl⟩
          · intro x u hbu hd
            refine wpOp_step rfl fun K hK => ?_
            go_simp
            exact hK _ _ ⟨_, rfl, Below.refl _ _, fun d hd => by cases hd; exact rfl⟩
          · intro x u hbu hd
            refine wpOp_step rfl fun K hK => ?_
            go_simp
            exact hK _ _ ⟨_, rfl, Below.refl _ _, fun d hd => by cases hd; exact rfl⟩
          · intro x u hbu hd
            have h113 : x 113 = .slice A1 n c1 := hd 1 (by decide)
            have h114 : x 114 = .int .i64 (i : Int) := hd 2 (by decide)
            refine wpOp_step rfl fun K hK => ?_
            simp only [h113, h114] at hK ⊢
            go_simp
            exact hK _ _ ⟨_, rfl, Below.refl _ _, fun d hd => by cases hd; exact rfl⟩
          · intro x u hbu hd
            have h115 : x 115 = .pointer (some ⟨bl, ol + i, none⟩) := hd 3 (by decide)
            have x6 := (HC0.out u (below_then HW5.out hbu)).1
            have x7 := (HC0.out u (below_then HW5.out hbu)).2
            refine wpOp_step rfl fun K hK => ?_
            simp only [h115] at hK ⊢
            go_simp
            exact hK _ _ ⟨_, rfl, Below.refl _ _, fun d hd => by cases hd; exact rfl⟩
          · intro x u hbu hd
            refine wpOp_step rfl fun K hK => ?_
            go_simp
            exact hK _ _ ⟨_, rfl, Below.refl _ _, fun d hd => by cases hd; exact rfl⟩
          · intro x u hbu hd
            refine wpOp_step rfl fun K hK => ?_
            go_simp
            exact hK _ _ ⟨_, rfl, Below.refl _ _, fun d hd => by cases hd; exact rfl⟩
          · intro x u hbu hd
            have h117 : x 117 = .slice A1 n c1 := hd 5 (by decide)
            have h118 : x 118 = .int .i64 (i : Int) := hd 6 (by decide)
            refine wpOp_step rfl fun K hK => ?_
            simp only [h117, h118] at hK ⊢
            go_simp
            exact hK _ _ ⟨_, rfl, Below.refl _ _, fun d hd => by cases hd; exact rfl⟩
          · intro x u hbu hd
            have h119 : x 119 = .pointer (some ⟨bl, ol + i, none⟩) := hd 7 (by decide)
            have x6 := (HC0.out u (below_then HW5.out hbu)).1
            have x7 := (HC0.out u (below_then HW5.out hbu)).2
            refine wpOp_step rfl fun K hK => ?_
            simp only [h119] at hK ⊢
            go_simp
            exact hK _ _ ⟨_, rfl, Below.refl _ _, fun d hd => by cases hd; exact rfl⟩
          · intro x u hbu hd
            have h116 : x 116 = .string s0 := hd 4 (by decide)
            have h120 : x 120 = .string s0 := hd 8 (by decide)
            refine wpOp_step rfl fun K hK => ?_
            simp only [h116, h120] at hK ⊢
            go_simp
            exact hK _ _ ⟨_, rfl, below_al (Below.refl _ _) _, fun d hd => by cases hd; exact ⟨_, rfl⟩⟩
          · intro x u hbu hd
            have h112 : x 112 = .pointer (some ⟨w.heap.size, 0, none⟩) := hd 0 (by decide)
            have k121 : (Reg.Fact.two : Reg.Fact).P (x 121) u := hd 9 (by decide)
            obtain ⟨A121, h121⟩ := k121
            refine wpOp_step rfl fun K hK => ?_
            simp only [h112, h121] at hK ⊢
            go_simp
            with_reducible refine (sendS_lots w.heap.size 1 _ (some s0) none A121 2 2 u (HS5.out.on hbu) hop1 H2.out).mono ?_
            rintro e u' ⟨rfl, hb'⟩
            exact hK _ _ ⟨_, rfl, hb', fun d hd => by cases hd; exact rfl⟩
          · intro x u hbu hd
            have h122 : x 122 = .int .i64 1 := hd 10 (by decide)
            refine wpOp_step rfl fun K hK => ?_
            simp only [h122] at hK ⊢
            go_simp
            exact hK _ _ ⟨_, rfl, Below.refl _ _, fun d hd => by cases hd; exact rfl⟩
        · intro x v6 d6' hall
          have h123 : x 123 = .bool false := hall 11 (by decide)
          simp only [Reg.frame, Reg.over, Nat.reduceLeDiff, decide_true, decide_false, Bool.and_true, Bool.and_false, if_true, Bool.false_eq_true, if_false, h123]
          go_wp2_with fail
          go_roundw
          case rel => exact ⟨i + 1, by omega, by go_num, .inr ⟨i, v4.heap.size, rfl, (by have q := HS5.out.on d6'; rw [HE0.out] at q; exact q), (HL5.out.on d6'), (by rw [← HE0.out]; exact HG5.out.on d6')⟩, (below_then HW5.out d6')⟩
          case measure => simp [intOf]; omega
    · have h3 : i = n := by omega
      subst h3
      have hdl : decide ((i : Int) < (i : Int)) = false := decide_eq_false (by omega)
      have HT := Lib.hid (show ∃ a b, OnS wr w.heap.size 1 (i : Int) a b from by
        rcases hrel with ⟨_, hS, _⟩ | ⟨j, g1, _, hS, _⟩
        · exact ⟨_, _, hS⟩
        · exact ⟨_, _, hS⟩)
      clear hrel hlt
      obtain ⟨oa, ob, hS⟩ := HT.out
      have HS := Lib.hid hS
      have HB := Lib.hid hb
      clear hS HT hb
      go_wp2_with (first
        | (go_at_call 33; (with_reducible refine (ticksS_is w.heap.size 1 (i : Int) oa ob wr HS.out).mono ?_); rintro e v1 ⟨rfl, d1⟩)
        | (go_at_call 7; (with_reducible refine (lives_ln _).mono ?_); rintro e v2 ⟨rfl, d2⟩))
      go_ret
      exact ⟨rfl, below_then (below_then HB.out d1) d2⟩
set_option maxRecDepth 100000 in
set_option maxHeartbeats 4000000 in
theorem linesKinds_2 (A1 : Option Addr) (n c1 : Nat) (ss : Nat → ByteArray) (w : World) (hr : Row w w.heap.size A1 n (fun j => .string (ss j))) (hn : n ≤ 100) :
    Calls Try.prog 6 #[.slice A1 n c1, .bool true] w fun e w' => e = .returned (.bool true) ∧ Below w.heap.size w w' := by
  have HR := Lib.hid hr
  have hd : decide ((100 : Int) < (n : Int)) = false := decide_eq_false (by omega)
  clear hr
  go_enter Try.func6, Try.ntmps6
  go_wp2_with (first
    | (go_at_call 26; (with_reducible refine (newS_is 2 w hop2).mono ?_); rintro e u1 ⟨rfl, hS1, b1⟩)
    | (go_at_call 27; (with_reducible refine (newL_is 2 u1 hop2).mono ?_); rintro e u2 ⟨rfl, hL2, b2⟩))
  have hl12 := hS1.lt
  have LB := Lib.hid (show w.heap.size ≤ u1.heap.size by omega)
  have hAB : w.heap.size ≠ u1.heap.size := by omega
  have NAB := Lib.hid hAB
  have NBA := Lib.hid hAB.symm
  have H0 := Lib.hid (And.intro (hS1.on b2) (And.intro hL2 (below_then b1 b2)))
  clear hS1 hL2 b1 b2 hl12 hAB hd
  go_loopw [10] (fun s10 wr => ∃ i : Nat, i ≤ n ∧ s10 = .int .i64 i ∧ ((i = 0 ∧ OnS wr w.heap.size 2 (i : Int) none none ∧ OnL wr u1.heap.size 2 (i : Int) none none) ∨ (∃ g2, i = 1 ∧ OnS wr w.heap.size 2 (i : Int) none (some (ss 0)) ∧ OnL wr u1.heap.size 2 (i : Int) none (some (some ⟨g2, 0, none⟩, 1, 1)) ∧ Blk wr g2 9 #[.string (ss 0)]) ∨ (∃ j g1 g2, i = j + 2 ∧ OnS wr w.heap.size 2 (i : Int) (some (ss j)) (some (ss (j + 1))) ∧ OnL wr u1.heap.size 2 (i : Int) (some (some ⟨g1, 0, none⟩, 1, 1)) (some (some ⟨g2, 0, none⟩, 1, 1)) ∧ Blk wr g1 9 #[.string (ss j)] ∧ Blk wr g2 9 #[.string (ss (j + 1))])) ∧ Below w.heap.size w wr) (fun s10 _ => n - (intOf s10).toNat)
  case atStart => exact ⟨0, by omega, rfl, .inl ⟨rfl, H0.out.1, H0.out.2.1⟩, H0.out.2.2⟩
  case round =>
    obtain ⟨i, hi, rfl, hrel, hb⟩ := hrel
    clear H0
    by_cases hlt : i < n
    · rcases hrel with ⟨hi0, hS, hL⟩ | ⟨g2, hi0, hS, hL, hB2⟩ | ⟨j, g1, g2, hi0, hS, hL, hB1, hB2⟩
      · obtain ⟨s0, hs0'⟩ : ∃ s0, s0 = ss i := ⟨_, rfl⟩
        have hs0 : s0 = ss (0) := hs0'.trans (congrArg ss (by omega))
        obtain ⟨bl, ol, hA, hll0, hlc⟩ := HR.out (show 0 < n by omega)
        have hix0 := fun W => idx1Texts (n := n) c1 hA (show i < n by omega) W
        have HC0 := Lib.hid (show ∀ u : World, Below w.heap.size w u → u.cell? ⟨bl, ol + (i), none⟩ = some (.string s0) ∧ bl < u.heap.size from fun u hu => ⟨(hu.cell hll0).trans ((hlc (i) (by omega)).trans (by rw [hs0'])), Nat.lt_of_lt_of_le hll0 hu.size⟩)
        have hge : decide ((2 : Int) ≤ (i : Int)) = false := decide_eq_false (by omega)
        have hmn : ((0 : Int) != if (1 : Int) < (i : Int) then 1 else (i : Int)) = false := by
          by_cases q : (1 : Int) < (i : Int)
          · rw [if_pos q]; omega
          · rw [if_neg q]; exact bne_eq_false_iff_eq.2 (by omega)
        have HK := Lib.hid (show 0 ≤ (i : Int) ∧ (i : Int) < 4611686018427387904 from ⟨by omega, by omega⟩)
        have hlt' : decide ((i : Int) < (n : Int)) = true := decide_eq_true (by omega)
        have hltn : decide ((i) < n) = true := decide_eq_true (by omega)
        have HS := Lib.hid hS
        have HLL := Lib.hid hL
        have HB := Lib.hid hb
        have KK := Lib.hid (show (i : Int) + 1 = ((i + 1 : Nat) : Int) by omega)
        have HI0 := Lib.hid hi0
        have HE0 := Lib.hid hs0
        have HE2 := HE0
        clear hi0 hs0 hs0' hA hlc hS hL hb
        have XS := Lib.hid (show (none : Option ByteArray).getD ByteArray.empty = ByteArray.empty from rfl)
        have PS := Lib.hid (show (none : Option ByteArray).isSome = false from rfl)
        have XL := Lib.hid (show (none : Option (Option Addr × Nat × Nat)).getD (none, 0, 0) = (none, 0, 0) from rfl)
        have PL := Lib.hid (show (none : Option (Option Addr × Nat × Nat)).isSome = false from rfl)
        have NS := Lib.hid (show nowL 2 (none : Option ByteArray) (some s0) = none from rfl)
        have MS := Lib.hid (show nextL 2 (none : Option ByteArray) (some s0) = (some s0) from rfl)
        have NL := Lib.hid (show ∀ q : Nat, nowL 2 (none : Option (Option Addr × Nat × Nat)) (some (some ⟨q, 0, none⟩, 1, 1)) = none from fun _ => rfl)
        have ML := Lib.hid (show ∀ q : Nat, nextL 2 (none : Option (Option Addr × Nat × Nat)) (some (some ⟨q, 0, none⟩, 1, 1)) = (some (some ⟨q, 0, none⟩, 1, 1)) from fun _ => rfl)
        go_upto_region 19 with (first
          | (go_at_call 28; (with_reducible refine (hereS_is w.heap.size 2 _ none none ByteArray.empty XS.out false PS.out wr HS.out).mono ?_); rintro e v1 ⟨rfl, d1⟩)
          | (go_at_call 29; (with_reducible refine (hereL_is u1.heap.size 2 _ none none (none, 0, 0) XL.out false PL.out v1 (HLL.out.on d1)).mono ?_); rintro e v2 ⟨rfl, d2⟩; have e2 := below_then d1 d2; have HW2 := Lib.hid (below_then HB.out e2); have HS2 := Lib.hid (HS.out.on e2))
          | (go_at_call 30; (with_reducible refine (wayS_no w.heap.size 2 _ none v2 HS2.out).mono ?_); rintro e v3 ⟨rfl, d3⟩; have HE3 := Lib.hid (below_then e2 d3); have HW3 := Lib.hid (below_then HB.out HE3.out); have x3 := (HC0.out _ HW3.out).1; have x3l := (HC0.out _ HW3.out).2)
          | (go_at_call 31; (with_reducible refine (sendS_is w.heap.size 2 _ none none (some s0) none (some s0) (some ⟨v3.heap.size, 0, none⟩) 1 1 NS.out MS.out _ KK.out _ ((HS.out.on HE3.out).al (.cells #[.string s0] 9)) hop2 HK.out.1 HK.out.2 (oneS_new v3 s0)).mono ?_); rintro e v4 ⟨rfl, hS4, t4⟩; have HT4 := Lib.hid t4; have HS4 := Lib.hid hS4; have HL4 := Lib.hid (((HLL.out.on HE3.out).al (.cells #[.string s0] 9)).but t4 NBA.out); have HW4 := Lib.hid ((HW3.out.alloc HW3.out.size (.cells #[.string s0] 9)).trans (t4.low (Nat.le_refl _))); clear hS4 x3 x3l; have x4 := (HC0.out _ HW4.out).1; have x4l := (HC0.out _ HW4.out).2)
          | (go_at_call 32; (with_reducible refine (sendL_is u1.heap.size 2 _ none none (some (some ⟨v4.heap.size, 0, none⟩, 1, 1)) none (some (some ⟨v4.heap.size, 0, none⟩, 1, 1)) (some ⟨v4.heap.size + 1, 0, none⟩) 1 1 (NL.out _) (ML.out _) _ KK.out _ ((HL4.out.al (.cells #[.string s0] 9)).al (.cells #[.slice (some ⟨v4.heap.size, 0, none⟩) 1 1] 64)) hop2 HK.out.1 HK.out.2 (OneL_two v4 s0)).mono ?_); rintro e v5 ⟨rfl, hL5, t5⟩; have HL5 := Lib.hid hL5; have HS5 := Lib.hid (((HS4.out.al (.cells #[.string s0] 9)).al (.cells #[.slice (some ⟨v4.heap.size, 0, none⟩) 1 1] 64)).but t5 NAB.out); have HW5 := Lib.hid (((HW4.out.alloc HW4.out.size (.cells #[.string s0] 9)).alloc (Nat.le_trans HW4.out.size (by simp)) (.cells #[.slice (some ⟨v4.heap.size, 0, none⟩) 1 1] 64)).trans (t5.low LB.out)); have HG5 := Lib.hid (t5.blk ((Blk.new v4 9 #[.string s0]).alloc (.cells #[.slice (some ⟨v4.heap.size, 0, none⟩) 1 1] 64)) (OnL.apart ((HL4.out.al (.cells #[.string s0] 9)).al (.cells #[.slice (some ⟨v4.heap.size, 0, none⟩) 1 1] 64)) ((Blk.new v4 9 #[.string s0]).alloc (.cells #[.slice (some ⟨v4.heap.size, 0, none⟩) 1 1] 64)))); clear hL5 x4 x4l; have x5 := (HC0.out _ HW5.out).1; have x5l := (HC0.out _ HW5.out).2))
        have H2 := Lib.hid (show 1 < 2 by omega)
        refine Reg.wp_slots (fun t => decide (112 ≤ t) && decide (t ≤ 123)) (by kernel_rfl) (by kernel_rfl) (by kernel_rfl) (fun zz => (Reg.tbl [
          (112, .is (.pointer (some ⟨w.heap.size, 0, none⟩))),
          (113, .is (.slice A1 n c1)),
          (114, .is (.int .i64 (i : Int))),
          (115, .is (.pointer (some ⟨bl, ol + i, none⟩))),
          (116, .is (.string s0)),
          (117, .is (.slice A1 n c1)),
          (118, .is (.int .i64 (i : Int))),
          (119, .is (.pointer (some ⟨bl, ol + i, none⟩))),
          (120, .is (.string s0)),
          (121, .two),
          (122, .is (.int .i64 1)),
          (123, .is (.bool false))] zz).P) (fun zz => (Reg.tbl _ zz).on) ?_ ?_
        · simp only [Reg.frame, Reg.over, Nat.reduceAdd, Nat.reduceLeDiff, decide_true, decide_false, if_true, Bool.false_eq_true, if_false, Bool.and_true, Bool.and_false]
          refine ⟨?_, ?_, ?_, ?_, ?_, ?_, ?_, ?_, ?_, ?_, ?_, ?_, trivial⟩
          · intro x u hbu hd
            refine wpOp_step rfl fun K hK => ?_
            go_simp
            exact hK _ _ ⟨_, rfl, Below.refl _ _, fun d hd => by cases hd; exact rfl⟩
          · intro x u hbu hd
            refine wpOp_step rfl fun K hK => ?_
            go_simp
            exact hK _ _ ⟨_, rfl, Below.refl _ _, fun d hd => by cases hd; exact rfl⟩
          · intro x u hbu hd
            refine wpOp_step rfl fun K hK => ?_
            go_simp
            exact hK _ _ ⟨_, rfl, Below.refl _ _, fun d hd => by cases hd; exact rfl⟩
          · intro x u hbu hd
            have h113 : x 113 = .slice A1 n c1 := hd 1 (by decide)
            have h114 : x 114 = .int .i64 (i : Int) := hd 2 (by decide)
            refine wpOp_step rfl fun K hK => ?_
            simp only [h113, h114] at hK ⊢
            go_simp
            exact hK _ _ ⟨_, rfl, Below.refl _ _, fun d hd => by cases hd; exact rfl⟩
          · intro x u hbu hd
            have h115 : x 115 = .pointer (some ⟨bl, ol + i, none⟩) := hd 3 (by decide)
            have x6 := (HC0.out u (below_then HW5.out hbu)).1
            have x7 := (HC0.out u (below_then HW5.out hbu)).2
            refine wpOp_step rfl fun K hK => ?_
            simp only [h115] at hK ⊢
            go_simp
            exact hK _ _ ⟨_, rfl, Below.refl _ _, fun d hd => by cases hd; exact rfl⟩
          · intro x u hbu hd
            refine wpOp_step rfl fun K hK => ?_
            go_simp
            exact hK _ _ ⟨_, rfl, Below.refl _ _, fun d hd => by cases hd; exact rfl⟩
          · intro x u hbu hd
            refine wpOp_step rfl fun K hK => ?_
            go_simp
            exact hK _ _ ⟨_, rfl, Below.refl _ _, fun d hd => by cases hd; exact rfl⟩
          · intro x u hbu hd
            have h117 : x 117 = .slice A1 n c1 := hd 5 (by decide)
            have h118 : x 118 = .int .i64 (i : Int) := hd 6 (by decide)
            refine wpOp_step rfl fun K hK => ?_
            simp only [h117, h118] at hK ⊢
            go_simp
            exact hK _ _ ⟨_, rfl, Below.refl _ _, fun d hd => by cases hd; exact rfl⟩
          · intro x u hbu hd
            have h119 : x 119 = .pointer (some ⟨bl, ol + i, none⟩) := hd 7 (by decide)
            have x6 := (HC0.out u (below_then HW5.out hbu)).1
            have x7 := (HC0.out u (below_then HW5.out hbu)).2
            refine wpOp_step rfl fun K hK => ?_
            simp only [h119] at hK ⊢
            go_simp
            exact hK _ _ ⟨_, rfl, Below.refl _ _, fun d hd => by cases hd; exact rfl⟩
          · intro x u hbu hd
            have h116 : x 116 = .string s0 := hd 4 (by decide)
            have h120 : x 120 = .string s0 := hd 8 (by decide)
            refine wpOp_step rfl fun K hK => ?_
            simp only [h116, h120] at hK ⊢
            go_simp
            exact hK _ _ ⟨_, rfl, below_al (Below.refl _ _) _, fun d hd => by cases hd; exact ⟨_, rfl⟩⟩
          · intro x u hbu hd
            have h112 : x 112 = .pointer (some ⟨w.heap.size, 0, none⟩) := hd 0 (by decide)
            have k121 : (Reg.Fact.two : Reg.Fact).P (x 121) u := hd 9 (by decide)
            obtain ⟨A121, h121⟩ := k121
            refine wpOp_step rfl fun K hK => ?_
            simp only [h112, h121] at hK ⊢
            go_simp
            with_reducible refine (sendS_lots w.heap.size 2 _ none (some s0) A121 2 2 u (HS5.out.on hbu) hop2 H2.out).mono ?_
            rintro e u' ⟨rfl, hb'⟩
            exact hK _ _ ⟨_, rfl, hb', fun d hd => by cases hd; exact rfl⟩
          · intro x u hbu hd
            have h122 : x 122 = .int .i64 1 := hd 10 (by decide)
            refine wpOp_step rfl fun K hK => ?_
            simp only [h122] at hK ⊢
            go_simp
            exact hK _ _ ⟨_, rfl, Below.refl _ _, fun d hd => by cases hd; exact rfl⟩
        · intro x v6 d6' hall
          have h123 : x 123 = .bool false := hall 11 (by decide)
          simp only [Reg.frame, Reg.over, Nat.reduceLeDiff, decide_true, decide_false, Bool.and_true, Bool.and_false, if_true, Bool.false_eq_true, if_false, h123]
          go_wp2_with fail
          go_roundw
          case rel => exact ⟨i + 1, by omega, by go_num, .inr (.inl ⟨v4.heap.size, by have := HI0.out; omega, (by have q := HS5.out.on d6'; rw [HE0.out] at q; exact q), (HL5.out.on d6'), (by rw [← HE0.out]; exact HG5.out.on d6')⟩), (below_then HW5.out d6')⟩
          case measure => simp [intOf]; omega
      · obtain ⟨s2, hs2⟩ : ∃ s2, s2 = ss (0) := ⟨_, rfl⟩
        rw [← hs2] at hS hB2
        obtain ⟨s0, hs0'⟩ : ∃ s0, s0 = ss i := ⟨_, rfl⟩
        have hs0 : s0 = ss (0 + 1) := hs0'.trans (congrArg ss (by omega))
        obtain ⟨bl, ol, hA, hll0, hlc⟩ := HR.out (show 0 < n by omega)
        have hix0 := fun W => idx1Texts (n := n) c1 hA (show i < n by omega) W
        have HC0 := Lib.hid (show ∀ u : World, Below w.heap.size w u → u.cell? ⟨bl, ol + (i), none⟩ = some (.string s0) ∧ bl < u.heap.size from fun u hu => ⟨(hu.cell hll0).trans ((hlc (i) (by omega)).trans (by rw [hs0'])), Nat.lt_of_lt_of_le hll0 hu.size⟩)
        have hge : decide ((2 : Int) ≤ (i : Int)) = false := decide_eq_false (by omega)
        have HB2 := Lib.hid hB2
        have hmn : ((1 : Int) != if (1 : Int) < (i : Int) then 1 else (i : Int)) = false := by
          by_cases q : (1 : Int) < (i : Int)
          · rw [if_pos q]; rfl
          · rw [if_neg q]; exact bne_eq_false_iff_eq.2 (by omega)
        have HK := Lib.hid (show 0 ≤ (i : Int) ∧ (i : Int) < 4611686018427387904 from ⟨by omega, by omega⟩)
        have hlt' : decide ((i : Int) < (n : Int)) = true := decide_eq_true (by omega)
        have hltn : decide ((i) < n) = true := decide_eq_true (by omega)
        have HS := Lib.hid hS
        have HLL := Lib.hid hL
        have HB := Lib.hid hb
        have KK := Lib.hid (show (i : Int) + 1 = ((i + 1 : Nat) : Int) by omega)
        have HI0 := Lib.hid hi0
        have HE0 := Lib.hid hs0
        have HE2 := Lib.hid hs2
        clear hi0 hs0 hs0' hs2 hA hlc hS hL hb hB2
        have XS := Lib.hid (show (none : Option ByteArray).getD ByteArray.empty = ByteArray.empty from rfl)
        have PS := Lib.hid (show (none : Option ByteArray).isSome = false from rfl)
        have XL := Lib.hid (show (none : Option (Option Addr × Nat × Nat)).getD (none, 0, 0) = (none, 0, 0) from rfl)
        have PL := Lib.hid (show (none : Option (Option Addr × Nat × Nat)).isSome = false from rfl)
        have NS := Lib.hid (show nowL 2 ((some s2) : Option ByteArray) (some s0) = (some s2) from rfl)
        have MS := Lib.hid (show nextL 2 ((some s2) : Option ByteArray) (some s0) = (some s0) from rfl)
        have NL := Lib.hid (show ∀ q : Nat, nowL 2 ((some (some ⟨g2, 0, none⟩, 1, 1)) : Option (Option Addr × Nat × Nat)) (some (some ⟨q, 0, none⟩, 1, 1)) = (some (some ⟨g2, 0, none⟩, 1, 1)) from fun _ => rfl)
        have ML := Lib.hid (show ∀ q : Nat, nextL 2 ((some (some ⟨g2, 0, none⟩, 1, 1)) : Option (Option Addr × Nat × Nat)) (some (some ⟨q, 0, none⟩, 1, 1)) = (some (some ⟨q, 0, none⟩, 1, 1)) from fun _ => rfl)
        go_upto_region 19 with (first
          | (go_at_call 28; (with_reducible refine (hereS_is w.heap.size 2 _ none (some s2) ByteArray.empty XS.out false PS.out wr HS.out).mono ?_); rintro e v1 ⟨rfl, d1⟩)
          | (go_at_call 29; (with_reducible refine (hereL_is u1.heap.size 2 _ none (some (some ⟨g2, 0, none⟩, 1, 1)) (none, 0, 0) XL.out false PL.out v1 (HLL.out.on d1)).mono ?_); rintro e v2 ⟨rfl, d2⟩; have e2 := below_then d1 d2; have HW2 := Lib.hid (below_then HB.out e2); have HS2 := Lib.hid (HS.out.on e2))
          | (go_at_call 30; (with_reducible refine (wayS_yes w.heap.size 2 _ none s2 v2 HS2.out).mono ?_); rintro e v3 ⟨rfl, d3⟩; have HE3 := Lib.hid (below_then e2 d3); have HW3 := Lib.hid (below_then HB.out HE3.out); have x3 := (HC0.out _ HW3.out).1; have x3l := (HC0.out _ HW3.out).2)
          | (go_at_call 31; (with_reducible refine (sendS_is w.heap.size 2 _ none (some s2) (some s0) (some s2) (some s0) (some ⟨v3.heap.size, 0, none⟩) 1 1 NS.out MS.out _ KK.out _ ((HS.out.on HE3.out).al (.cells #[.string s0] 9)) hop2 HK.out.1 HK.out.2 (oneS_new v3 s0)).mono ?_); rintro e v4 ⟨rfl, hS4, t4⟩; have HT4 := Lib.hid t4; have HS4 := Lib.hid hS4; have HL4 := Lib.hid (((HLL.out.on HE3.out).al (.cells #[.string s0] 9)).but t4 NBA.out); have HW4 := Lib.hid ((HW3.out.alloc HW3.out.size (.cells #[.string s0] 9)).trans (t4.low (Nat.le_refl _))); clear hS4 x3 x3l; have x4 := (HC0.out _ HW4.out).1; have x4l := (HC0.out _ HW4.out).2; have HB24 := Lib.hid (t4.blk ((HB2.out.on HE3.out).alloc (.cells #[.string s0] 9)) (OnS.apart HS.out HB2.out)))
          | (go_at_call 32; (with_reducible refine (sendL_is u1.heap.size 2 _ none (some (some ⟨g2, 0, none⟩, 1, 1)) (some (some ⟨v4.heap.size, 0, none⟩, 1, 1)) (some (some ⟨g2, 0, none⟩, 1, 1)) (some (some ⟨v4.heap.size, 0, none⟩, 1, 1)) (some ⟨v4.heap.size + 1, 0, none⟩) 1 1 (NL.out _) (ML.out _) _ KK.out _ ((HL4.out.al (.cells #[.string s0] 9)).al (.cells #[.slice (some ⟨v4.heap.size, 0, none⟩) 1 1] 64)) hop2 HK.out.1 HK.out.2 (OneL_two v4 s0)).mono ?_); rintro e v5 ⟨rfl, hL5, t5⟩; have HL5 := Lib.hid hL5; have HS5 := Lib.hid (((HS4.out.al (.cells #[.string s0] 9)).al (.cells #[.slice (some ⟨v4.heap.size, 0, none⟩) 1 1] 64)).but t5 NAB.out); have HW5 := Lib.hid (((HW4.out.alloc HW4.out.size (.cells #[.string s0] 9)).alloc (Nat.le_trans HW4.out.size (by simp)) (.cells #[.slice (some ⟨v4.heap.size, 0, none⟩) 1 1] 64)).trans (t5.low LB.out)); have HG5 := Lib.hid (t5.blk ((Blk.new v4 9 #[.string s0]).alloc (.cells #[.slice (some ⟨v4.heap.size, 0, none⟩) 1 1] 64)) (OnL.apart ((HL4.out.al (.cells #[.string s0] 9)).al (.cells #[.slice (some ⟨v4.heap.size, 0, none⟩) 1 1] 64)) ((Blk.new v4 9 #[.string s0]).alloc (.cells #[.slice (some ⟨v4.heap.size, 0, none⟩) 1 1] 64)))); clear hL5 x4 x4l; have x5 := (HC0.out _ HW5.out).1; have x5l := (HC0.out _ HW5.out).2; have HB25 := Lib.hid (t5.blk ((HB24.out.alloc (.cells #[.string s0] 9)).alloc (.cells #[.slice (some ⟨v4.heap.size, 0, none⟩) 1 1] 64)) (OnL.apart HL4.out HB24.out))))
        have H2 := Lib.hid (show 1 < 2 by omega)
        refine Reg.wp_slots (fun t => decide (112 ≤ t) && decide (t ≤ 123)) (by kernel_rfl) (by kernel_rfl) (by kernel_rfl) (fun zz => (Reg.tbl [
          (112, .is (.pointer (some ⟨w.heap.size, 0, none⟩))),
          (113, .is (.slice A1 n c1)),
          (114, .is (.int .i64 (i : Int))),
          (115, .is (.pointer (some ⟨bl, ol + i, none⟩))),
          (116, .is (.string s0)),
          (117, .is (.slice A1 n c1)),
          (118, .is (.int .i64 (i : Int))),
          (119, .is (.pointer (some ⟨bl, ol + i, none⟩))),
          (120, .is (.string s0)),
          (121, .two),
          (122, .is (.int .i64 1)),
          (123, .is (.bool false))] zz).P) (fun zz => (Reg.tbl _ zz).on) ?_ ?_
        · simp only [Reg.frame, Reg.over, Nat.reduceAdd, Nat.reduceLeDiff, decide_true, decide_false, if_true, Bool.false_eq_true, if_false, Bool.and_true, Bool.and_false]
          refine ⟨?_, ?_, ?_, ?_, ?_, ?_, ?_, ?_, ?_, ?_, ?_, ?_, trivial⟩
          · intro x u hbu hd
            refine wpOp_step rfl fun K hK => ?_
            go_simp
            exact hK _ _ ⟨_, rfl, Below.refl _ _, fun d hd => by cases hd; exact rfl⟩
          · intro x u hbu hd
            refine wpOp_step rfl fun K hK => ?_
            go_simp
            exact hK _ _ ⟨_, rfl, Below.refl _ _, fun d hd => by cases hd; exact rfl⟩
          · intro x u hbu hd
            refine wpOp_step rfl fun K hK => ?_
            go_simp
            exact hK _ _ ⟨_, rfl, Below.refl _ _, fun d hd => by cases hd; exact rfl⟩
          · intro x u hbu hd
            have h113 : x 113 = .slice A1 n c1 := hd 1 (by decide)
            have h114 : x 114 = .int .i64 (i : Int) := hd 2 (by decide)
            refine wpOp_step rfl fun K hK => ?_
            simp only [h113, h114] at hK ⊢
            go_simp
            exact hK _ _ ⟨_, rfl, Below.refl _ _, fun d hd => by cases hd; exact rfl⟩
          · intro x u hbu hd
            have h115 : x 115 = .pointer (some ⟨bl, ol + i, none⟩) := hd 3 (by decide)
            have x6 := (HC0.out u (below_then HW5.out hbu)).1
            have x7 := (HC0.out u (below_then HW5.out hbu)).2
            refine wpOp_step rfl fun K hK => ?_
            simp only [h115] at hK ⊢
            go_simp
            exact hK _ _ ⟨_, rfl, Below.refl _ _, fun d hd => by cases hd; exact rfl⟩
          · intro x u hbu hd
            refine wpOp_step rfl fun K hK => ?_
            go_simp
            exact hK _ _ ⟨_, rfl, Below.refl _ _, fun d hd => by cases hd; exact rfl⟩
          · intro x u hbu hd
            refine wpOp_step rfl fun K hK => ?_
            go_simp
            exact hK _ _ ⟨_, rfl, Below.refl _ _, fun d hd => by cases hd; exact rfl⟩
          · intro x u hbu hd
            have h117 : x 117 = .slice A1 n c1 := hd 5 (by decide)
            have h118 : x 118 = .int .i64 (i : Int) := hd 6 (by decide)
            refine wpOp_step rfl fun K hK => ?_
            simp only [h117, h118] at hK ⊢
            go_simp
            exact hK _ _ ⟨_, rfl, Below.refl _ _, fun d hd => by cases hd; exact rfl⟩
          · intro x u hbu hd
            have h119 : x 119 = .pointer (some ⟨bl, ol + i, none⟩) := hd 7 (by decide)
            have x6 := (HC0.out u (below_then HW5.out hbu)).1
            have x7 := (HC0.out u (below_then HW5.out hbu)).2
            refine wpOp_step rfl fun K hK => ?_
            simp only [h119] at hK ⊢
            go_simp
            exact hK _ _ ⟨_, rfl, Below.refl _ _, fun d hd => by cases hd; exact rfl⟩
          · intro x u hbu hd
            have h116 : x 116 = .string s0 := hd 4 (by decide)
            have h120 : x 120 = .string s0 := hd 8 (by decide)
            refine wpOp_step rfl fun K hK => ?_
            simp only [h116, h120] at hK ⊢
            go_simp
            exact hK _ _ ⟨_, rfl, below_al (Below.refl _ _) _, fun d hd => by cases hd; exact ⟨_, rfl⟩⟩
          · intro x u hbu hd
            have h112 : x 112 = .pointer (some ⟨w.heap.size, 0, none⟩) := hd 0 (by decide)
            have k121 : (Reg.Fact.two : Reg.Fact).P (x 121) u := hd 9 (by decide)
            obtain ⟨A121, h121⟩ := k121
            refine wpOp_step rfl fun K hK => ?_
            simp only [h112, h121] at hK ⊢
            go_simp
            with_reducible refine (sendS_lots w.heap.size 2 _ (some s2) (some s0) A121 2 2 u (HS5.out.on hbu) hop2 H2.out).mono ?_
            rintro e u' ⟨rfl, hb'⟩
            exact hK _ _ ⟨_, rfl, hb', fun d hd => by cases hd; exact rfl⟩
          · intro x u hbu hd
            have h122 : x 122 = .int .i64 1 := hd 10 (by decide)
            refine wpOp_step rfl fun K hK => ?_
            simp only [h122] at hK ⊢
            go_simp
            exact hK _ _ ⟨_, rfl, Below.refl _ _, fun d hd => by cases hd; exact rfl⟩
        · intro x v6 d6' hall
          have h123 : x 123 = .bool false := hall 11 (by decide)
          simp only [Reg.frame, Reg.over, Nat.reduceLeDiff, decide_true, decide_false, Bool.and_true, Bool.and_false, if_true, Bool.false_eq_true, if_false, h123]
          go_wp2_with fail
          go_roundw
          case rel => exact ⟨i + 1, by omega, by go_num, .inr (.inr ⟨0, g2, v4.heap.size, by have := HI0.out; omega, (by have q := HS5.out.on d6'; rw [HE0.out] at q; rw [HE2.out] at q; exact q), (HL5.out.on d6'), (by rw [← HE2.out]; exact HB25.out.on d6'), (by rw [← HE0.out]; exact HG5.out.on d6')⟩), (below_then HW5.out d6')⟩
          case measure => simp [intOf]; omega
      · obtain ⟨s1, hs1⟩ : ∃ s1, s1 = ss j := ⟨_, rfl⟩
        rw [← hs1] at hS hB1
        obtain ⟨s2, hs2⟩ : ∃ s2, s2 = ss (j + 1) := ⟨_, rfl⟩
        rw [← hs2] at hS hB2
        obtain ⟨s0, hs0'⟩ : ∃ s0, s0 = ss i := ⟨_, rfl⟩
        have hs0 : s0 = ss ((j + 1) + 1) := hs0'.trans (congrArg ss (by omega))
        obtain ⟨bl, ol, hA, hll0, hlc⟩ := HR.out (show 0 < n by omega)
        have hix0 := fun W => idx1Texts (n := n) c1 hA (show i < n by omega) W
        have HC0 := Lib.hid (show ∀ u : World, Below w.heap.size w u → u.cell? ⟨bl, ol + (i), none⟩ = some (.string s0) ∧ bl < u.heap.size from fun u hu => ⟨(hu.cell hll0).trans ((hlc (i) (by omega)).trans (by rw [hs0'])), Nat.lt_of_lt_of_le hll0 hu.size⟩)
        have hix1 := fun W => idx1Texts (n := n) c1 hA (show j < n by omega) W
        have HC1 := Lib.hid (show ∀ u : World, Below w.heap.size w u → u.cell? ⟨bl, ol + (j), none⟩ = some (.string s1) from fun u hu => (hu.cell hll0).trans ((hlc (j) (by omega)).trans (by rw [hs1])))
        have hwd : IntKind.i64.wrap ((i : Int) - 2) = ((j : Nat) : Int) := by rw [show (i : Int) - 2 = ((j : Nat) : Int) by omega]; exact IntWalk.i64_in _ (by omega)
        have hse := str_bne s1
        have hse' := str_beq s1
        have hge : decide ((2 : Int) ≤ (i : Int)) = true := decide_eq_true (by omega)
        have HB1 := Lib.hid hB1
        have HB2 := Lib.hid hB2
        have hmn : ((1 : Int) != if (1 : Int) < (i : Int) then 1 else (i : Int)) = false := by
          by_cases q : (1 : Int) < (i : Int)
          · rw [if_pos q]; rfl
          · rw [if_neg q]; exact bne_eq_false_iff_eq.2 (by omega)
        have HK := Lib.hid (show 0 ≤ (i : Int) ∧ (i : Int) < 4611686018427387904 from ⟨by omega, by omega⟩)
        have hlt' : decide ((i : Int) < (n : Int)) = true := decide_eq_true (by omega)
        have hltn : decide ((i) < n) = true := decide_eq_true (by omega)
        have HS := Lib.hid hS
        have HLL := Lib.hid hL
        have HB := Lib.hid hb
        have KK := Lib.hid (show (i : Int) + 1 = ((i + 1 : Nat) : Int) by omega)
        have HI0 := Lib.hid hi0
        have HE0 := Lib.hid hs0
        have HE2 := Lib.hid hs2
        clear hi0 hs0 hs0' hs1 hs2 hA hlc hS hL hb hB1 hB2
        have XS := Lib.hid (show ((some s1) : Option ByteArray).getD ByteArray.empty = s1 from rfl)
        have PS := Lib.hid (show ((some s1) : Option ByteArray).isSome = true from rfl)
        have XL := Lib.hid (show ((some (some ⟨g1, 0, none⟩, 1, 1)) : Option (Option Addr × Nat × Nat)).getD (none, 0, 0) = (some ⟨g1, 0, none⟩, 1, 1) from rfl)
        have PL := Lib.hid (show ((some (some ⟨g1, 0, none⟩, 1, 1)) : Option (Option Addr × Nat × Nat)).isSome = true from rfl)
        have NS := Lib.hid (show nowL 2 ((some s2) : Option ByteArray) (some s0) = (some s2) from rfl)
        have MS := Lib.hid (show nextL 2 ((some s2) : Option ByteArray) (some s0) = (some s0) from rfl)
        have NL := Lib.hid (show ∀ q : Nat, nowL 2 ((some (some ⟨g2, 0, none⟩, 1, 1)) : Option (Option Addr × Nat × Nat)) (some (some ⟨q, 0, none⟩, 1, 1)) = (some (some ⟨g2, 0, none⟩, 1, 1)) from fun _ => rfl)
        have ML := Lib.hid (show ∀ q : Nat, nextL 2 ((some (some ⟨g2, 0, none⟩, 1, 1)) : Option (Option Addr × Nat × Nat)) (some (some ⟨q, 0, none⟩, 1, 1)) = (some (some ⟨q, 0, none⟩, 1, 1)) from fun _ => rfl)
        go_upto_region 19 with (first
          | (go_at_call 28; (with_reducible refine (hereS_is w.heap.size 2 _ (some s1) (some s2) s1 XS.out true PS.out wr HS.out).mono ?_); rintro e v1 ⟨rfl, d1⟩)
          | (go_at_call 29; (with_reducible refine (hereL_is u1.heap.size 2 _ (some (some ⟨g1, 0, none⟩, 1, 1)) (some (some ⟨g2, 0, none⟩, 1, 1)) (some ⟨g1, 0, none⟩, 1, 1) XL.out true PL.out v1 (HLL.out.on d1)).mono ?_); rintro e v2 ⟨rfl, d2⟩; have e2 := below_then d1 d2; have HW2 := Lib.hid (below_then HB.out e2); have y0 := (HB1.out.on e2).cell 0; have yl := (HB1.out.on e2).lt; simp only [List.getElem?_toArray, List.getElem?_cons_zero] at y0; have z1 := HC1.out _ HW2.out; have z2 := (HC0.out _ HW2.out).2; have HS2 := Lib.hid (HS.out.on e2))
          | (go_at_call 30; (with_reducible refine (wayS_yes w.heap.size 2 _ (some s1) s2 v2 HS2.out).mono ?_); rintro e v3 ⟨rfl, d3⟩; have HE3 := Lib.hid (below_then e2 d3); have HW3 := Lib.hid (below_then HB.out HE3.out); have x3 := (HC0.out _ HW3.out).1; have x3l := (HC0.out _ HW3.out).2)
          | (go_at_call 31; (with_reducible refine (sendS_is w.heap.size 2 _ (some s1) (some s2) (some s0) (some s2) (some s0) (some ⟨v3.heap.size, 0, none⟩) 1 1 NS.out MS.out _ KK.out _ ((HS.out.on HE3.out).al (.cells #[.string s0] 9)) hop2 HK.out.1 HK.out.2 (oneS_new v3 s0)).mono ?_); rintro e v4 ⟨rfl, hS4, t4⟩; have HT4 := Lib.hid t4; have HS4 := Lib.hid hS4; have HL4 := Lib.hid (((HLL.out.on HE3.out).al (.cells #[.string s0] 9)).but t4 NBA.out); have HW4 := Lib.hid ((HW3.out.alloc HW3.out.size (.cells #[.string s0] 9)).trans (t4.low (Nat.le_refl _))); clear hS4 x3 x3l; have x4 := (HC0.out _ HW4.out).1; have x4l := (HC0.out _ HW4.out).2; have HB14 := Lib.hid (t4.blk ((HB1.out.on HE3.out).alloc (.cells #[.string s0] 9)) (OnS.apart HS.out HB1.out)); have HB24 := Lib.hid (t4.blk ((HB2.out.on HE3.out).alloc (.cells #[.string s0] 9)) (OnS.apart HS.out HB2.out)))
          | (go_at_call 32; (with_reducible refine (sendL_is u1.heap.size 2 _ (some (some ⟨g1, 0, none⟩, 1, 1)) (some (some ⟨g2, 0, none⟩, 1, 1)) (some (some ⟨v4.heap.size, 0, none⟩, 1, 1)) (some (some ⟨g2, 0, none⟩, 1, 1)) (some (some ⟨v4.heap.size, 0, none⟩, 1, 1)) (some ⟨v4.heap.size + 1, 0, none⟩) 1 1 (NL.out _) (ML.out _) _ KK.out _ ((HL4.out.al (.cells #[.string s0] 9)).al (.cells #[.slice (some ⟨v4.heap.size, 0, none⟩) 1 1] 64)) hop2 HK.out.1 HK.out.2 (OneL_two v4 s0)).mono ?_); rintro e v5 ⟨rfl, hL5, t5⟩; have HL5 := Lib.hid hL5; have HS5 := Lib.hid (((HS4.out.al (.cells #[.string s0] 9)).al (.cells #[.slice (some ⟨v4.heap.size, 0, none⟩) 1 1] 64)).but t5 NAB.out); have HW5 := Lib.hid (((HW4.out.alloc HW4.out.size (.cells #[.string s0] 9)).alloc (Nat.le_trans HW4.out.size (by simp)) (.cells #[.slice (some ⟨v4.heap.size, 0, none⟩) 1 1] 64)).trans (t5.low LB.out)); have HG5 := Lib.hid (t5.blk ((Blk.new v4 9 #[.string s0]).alloc (.cells #[.slice (some ⟨v4.heap.size, 0, none⟩) 1 1] 64)) (OnL.apart ((HL4.out.al (.cells #[.string s0] 9)).al (.cells #[.slice (some ⟨v4.heap.size, 0, none⟩) 1 1] 64)) ((Blk.new v4 9 #[.string s0]).alloc (.cells #[.slice (some ⟨v4.heap.size, 0, none⟩) 1 1] 64)))); clear hL5 x4 x4l; have x5 := (HC0.out _ HW5.out).1; have x5l := (HC0.out _ HW5.out).2; have HB15 := Lib.hid (t5.blk ((HB14.out.alloc (.cells #[.string s0] 9)).alloc (.cells #[.slice (some ⟨v4.heap.size, 0, none⟩) 1 1] 64)) (OnL.apart HL4.out HB14.out)); have HB25 := Lib.hid (t5.blk ((HB24.out.alloc (.cells #[.string s0] 9)).alloc (.cells #[.slice (some ⟨v4.heap.size, 0, none⟩) 1 1] 64)) (OnL.apart HL4.out HB24.out))))
        have H2 := Lib.hid (show 1 < 2 by omega)
        refine Reg.wp_slots (fun t => decide (112 ≤ t) && decide (t ≤ 123)) (by kernel_rfl) (by kernel_rfl) (by kernel_rfl) (fun zz => (Reg.tbl [
          (112, .is (.pointer (some ⟨w.heap.size, 0, none⟩))),
          (113, .is (.slice A1 n c1)),
          (114, .is (.int .i64 (i : Int))),
          (115, .is (.pointer (some ⟨bl, ol + i, none⟩))),
          (116, .is (.string s0)),
          (117, .is (.slice A1 n c1)),
          (118, .is (.int .i64 (i : Int))),
          (119, .is (.pointer (some ⟨bl, ol + i, none⟩))),
          (120, .is (.string s0)),
          (121, .two),
          (122, .is (.int .i64 1)),
          (123, .is (.bool false))] zz).P) (fun zz => (Reg.tbl _ zz).on) ?_ ?_
        · simp only [Reg.frame, Reg.over, Nat.reduceAdd, Nat.reduceLeDiff, decide_true, decide_false, if_true, Bool.false_eq_true, if_false, Bool.and_true, Bool.and_false]
          refine ⟨?_, ?_, ?_, ?_, ?_, ?_, ?_, ?_, ?_, ?_, ?_, ?_, trivial⟩
          · intro x u hbu hd
            refine wpOp_step rfl fun K hK => ?_
            go_simp
            exact hK _ _ ⟨_, rfl, Below.refl _ _, fun d hd => by cases hd; exact rfl⟩
          · intro x u hbu hd
            refine wpOp_step rfl fun K hK => ?_
            go_simp
            exact hK _ _ ⟨_, rfl, Below.refl _ _, fun d hd => by cases hd; exact rfl⟩
          · intro x u hbu hd
            refine wpOp_step rfl fun K hK => ?_
            go_simp
            exact hK _ _ ⟨_, rfl, Below.refl _ _, fun d hd => by cases hd; exact rfl⟩
          · intro x u hbu hd
            have h113 : x 113 = .slice A1 n c1 := hd 1 (by decide)
            have h114 : x 114 = .int .i64 (i : Int) := hd 2 (by decide)
            refine wpOp_step rfl fun K hK => ?_
            simp only [h113, h114] at hK ⊢
            go_simp
            exact hK _ _ ⟨_, rfl, Below.refl _ _, fun d hd => by cases hd; exact rfl⟩
          · intro x u hbu hd
            have h115 : x 115 = .pointer (some ⟨bl, ol + i, none⟩) := hd 3 (by decide)
            have x6 := (HC0.out u (below_then HW5.out hbu)).1
            have x7 := (HC0.out u (below_then HW5.out hbu)).2
            refine wpOp_step rfl fun K hK => ?_
            simp only [h115] at hK ⊢
            go_simp
            exact hK _ _ ⟨_, rfl, Below.refl _ _, fun d hd => by cases hd; exact rfl⟩
          · intro x u hbu hd
            refine wpOp_step rfl fun K hK => ?_
            go_simp
            exact hK _ _ ⟨_, rfl, Below.refl _ _, fun d hd => by cases hd; exact rfl⟩
          · intro x u hbu hd
            refine wpOp_step rfl fun K hK => ?_
            go_simp
            exact hK _ _ ⟨_, rfl, Below.refl _ _, fun d hd => by cases hd; exact rfl⟩
          · intro x u hbu hd
            have h117 : x 117 = .slice A1 n c1 := hd 5 (by decide)
            have h118 : x 118 = .int .i64 (i : Int) := hd 6 (by decide)
            refine wpOp_step rfl fun K hK => ?_
            simp only [h117, h118] at hK ⊢
            go_simp
            exact hK _ _ ⟨_, rfl, Below.refl _ _, fun d hd => by cases hd; exact rfl⟩
          · intro x u hbu hd
            have h119 : x 119 = .pointer (some ⟨bl, ol + i, none⟩) := hd 7 (by decide)
            have x6 := (HC0.out u (below_then HW5.out hbu)).1
            have x7 := (HC0.out u (below_then HW5.out hbu)).2
            refine wpOp_step rfl fun K hK => ?_
            simp only [h119] at hK ⊢
            go_simp
            exact hK _ _ ⟨_, rfl, Below.refl _ _, fun d hd => by cases hd; exact rfl⟩
          · intro x u hbu hd
            have h116 : x 116 = .string s0 := hd 4 (by decide)
            have h120 : x 120 = .string s0 := hd 8 (by decide)
            refine wpOp_step rfl fun K hK => ?_
            simp only [h116, h120] at hK ⊢
            go_simp
            exact hK _ _ ⟨_, rfl, below_al (Below.refl _ _) _, fun d hd => by cases hd; exact ⟨_, rfl⟩⟩
          · intro x u hbu hd
            have h112 : x 112 = .pointer (some ⟨w.heap.size, 0, none⟩) := hd 0 (by decide)
            have k121 : (Reg.Fact.two : Reg.Fact).P (x 121) u := hd 9 (by decide)
            obtain ⟨A121, h121⟩ := k121
            refine wpOp_step rfl fun K hK => ?_
            simp only [h112, h121] at hK ⊢
            go_simp
            with_reducible refine (sendS_lots w.heap.size 2 _ (some s2) (some s0) A121 2 2 u (HS5.out.on hbu) hop2 H2.out).mono ?_
            rintro e u' ⟨rfl, hb'⟩
            exact hK _ _ ⟨_, rfl, hb', fun d hd => by cases hd; exact rfl⟩
          · intro x u hbu hd
            have h122 : x 122 = .int .i64 1 := hd 10 (by decide)
            refine wpOp_step rfl fun K hK => ?_
            simp only [h122] at hK ⊢
            go_simp
            exact hK _ _ ⟨_, rfl, Below.refl _ _, fun d hd => by cases hd; exact rfl⟩
        · intro x v6 d6' hall
          have h123 : x 123 = .bool false := hall 11 (by decide)
          simp only [Reg.frame, Reg.over, Nat.reduceLeDiff, decide_true, decide_false, Bool.and_true, Bool.and_false, if_true, Bool.false_eq_true, if_false, h123]
          go_wp2_with fail
          go_roundw
          case rel => exact ⟨i + 1, by omega, by go_num, .inr (.inr ⟨(j + 1), g2, v4.heap.size, by have := HI0.out; omega, (by have q := HS5.out.on d6'; rw [HE0.out] at q; rw [HE2.out] at q; exact q), (HL5.out.on d6'), (by rw [← HE2.out]; exact HB25.out.on d6'), (by rw [← HE0.out]; exact HG5.out.on d6')⟩), (below_then HW5.out d6')⟩
          case measure => simp [intOf]; omega
    · have h3 : i = n := by omega
      subst h3
      have hdl : decide ((i : Int) < (i : Int)) = false := decide_eq_false (by omega)
      have HT := Lib.hid (show ∃ a b, OnS wr w.heap.size 2 (i : Int) a b from by
        rcases hrel with ⟨_, hS, _⟩ | ⟨g2, _, hS, _⟩ | ⟨j, g1, g2, _, hS, _⟩
        · exact ⟨_, _, hS⟩
        · exact ⟨_, _, hS⟩
        · exact ⟨_, _, hS⟩)
      clear hrel hlt
      obtain ⟨oa, ob, hS⟩ := HT.out
      have HS := Lib.hid hS
      have HB := Lib.hid hb
      clear hS HT hb
      go_wp2_with (first
        | (go_at_call 33; (with_reducible refine (ticksS_is w.heap.size 2 (i : Int) oa ob wr HS.out).mono ?_); rintro e v1 ⟨rfl, d1⟩)
        | (go_at_call 7; (with_reducible refine (lives_ln _).mono ?_); rintro e v2 ⟨rfl, d2⟩))
      go_ret
      exact ⟨rfl, below_then (below_then HB.out d1) d2⟩
set_option maxRecDepth 100000 in
theorem linesKinds_walk (A1 : Option Addr) (n c1 : Nat) (ss : Nat → ByteArray) (b : Bool) (w : World) (hm : n ≤ maxLen) (hr : Row w w.heap.size A1 n (fun j => .string (ss j))) :
    Calls Try.prog 6 #[.slice A1 n c1, .bool b] w fun e w' => e = .returned (.bool true) ∧ Below w.heap.size w w' := by
  by_cases hn : n ≤ 100
  · cases b
    · exact linesKinds_1 A1 n c1 ss w hr hn
    · exact linesKinds_2 A1 n c1 ss w hr hn
  · have hd : decide ((100 : Int) < (n : Int)) = true := decide_eq_true (by omega)
    clear hr hm hn
    go_enter Try.func6, Try.ntmps6
    go_wp2_with (go_at_call 7; (with_reducible refine (lives_ln _).mono ?_); rintro e u1 ⟨rfl, b1⟩)
    go_ret
    exact ⟨rfl, b1⟩
end Go.Proofs.Ytlbpplibngdncaa
