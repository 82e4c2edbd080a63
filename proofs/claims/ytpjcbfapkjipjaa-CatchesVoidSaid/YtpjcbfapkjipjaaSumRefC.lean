/-
  The contracts of the reference's Put and Check: summed bytes, and what they are when summed. Conditions: the slice's reading, bytes, a length of at most 4096 within the capacity.
-/
import Derived.Test.YtpjcbfapkjipjaaSumRef
namespace Go.Proofs.Ytpjcbfapkjipjaa
open Go.RowKit Crc

theorem four_at (v : Int) (r : Nat) (hr : r < 4) (h0 : 0 ≤ v) (h1 : v < 4294967296) : (four v).getD (4 - (r + 1)) 0 = v / 2 ^ (8 * r) % 256 := by
  match r, hr with
  | 0, _ => simp [four]
  | 1, _ => simp [four]
  | 2, _ => simp [four]
  | 3, _ =>
    simp [four]
    omega
set_option maxRecDepth 100000 in
set_option maxHeartbeats 4000000 in
theorem refPut_any (A : Option Addr) (n c : Nat) (b : List Int) (w : World) (hx : Lies .u8 w w.heap.size A n b) (hbd : ∀ x ∈ b, 0 ≤ x ∧ x ≤ 255) (hn : n ≤ 4096) :
    Calls Try.prog 61 #[.slice A n c] w fun e w' => ∃ A' c', e = .returned (.slice A' (n + 4) c') ∧ Lies .u8 w' w'.heap.size A' (n + 4) (putL b) ∧ Below w.heap.size w w' := by
  obtain ⟨i0, hi0, hz0, hz1, hz2⟩ := info_parts infoBytes
  have hs0 := iv_lo (crc (bitsL b))
  have hs1 := iv_hi (crc (bitsL b))
  have HOF := Lib.hid (refOf_any A n c b w hx hbd hn)
  obtain ⟨ts, hts⟩ : ∃ ts, ts = putL b := ⟨_, rfl⟩
  have HT := Lib.hid (show ts.length = n + 4 by rw [hts, putL_length, hx.len])
  have HT0 := Lib.hid (show ts.take n = b by rw [hts, ← hx.len]; simp [putL])
  have HV := Lib.hid (fun r (hr : r < 4) => show ts.getD (n + (4 - (r + 1))) 0 = sumI b / 2 ^ (8 * r) % 256 by
    rw [← four_at (sumI b) r hr hs0 hs1, hts, putL, List.getD, List.getD, List.getElem?_append_right (by rw [hx.len]; omega), hx.len, show n + (4 - (r + 1)) - n = 4 - (r + 1) by omega])
  change 0 ≤ sumI b at hs0
  change sumI b < _ at hs1
  obtain ⟨s, hs⟩ : ∃ s, s = sumI b := ⟨_, rfl⟩
  rw [← hs] at hs0 hs1 HOF HV
  rw [← hts]
  clear hs hts hbd
  go_enter Try.func61, Try.ntmps61
  go_wp2_with fail
  with_reducible refine (HOF.out).mono ?_
  rintro e w1 ⟨rfl, hb1⟩
  have hx1 := hx.on hb1
  clear hx HOF
  go_wp2_with (first
    | (at_builtin; with_reducible refine wpList_append_lies rfl (.const (.slice none 0 0)) (.tmp 8) 79 rfl w.heap.size 5 i0 _ 1 Try.underlying79 hi0 hz0 hz1 hz2 rfl .u8 (.slice none 0 0) 0 [] rfl owns_none A n c b rfl hx1 n (Nat.zero_add n) (by unfold maxLen; omega) (by omega) hb1.size ?_))
  intro A1 c1 w2 hown hg _
  have hb2 := hb1.grown hg hb1.size (by simp [Value.ownBlock])
  clear hg hx1
  go_wp2_with fail
  go_loopw [4, 5] (fun v1 kv wr => ∃ (j : Nat) (A' : Option Addr) (c' : Nat), j ≤ 4 ∧ kv = .int .i64 ((j : Int) - 1) ∧ v1 = .slice A' (n + (4 - j)) c' ∧ wr.ownsRow w.heap.size 5 1 (.slice A' (n + (4 - j)) c') (n + (4 - j)) ((ts.take (n + (4 - j))).map (Value.int .u8)) ∧ Below w.heap.size w wr) (fun _ kv _ => ((intOf kv) + 1).toNat)
  case atStart => exact ⟨4, A1, c1, Nat.le_refl _, rfl, rfl, by rw [show n + (4 - 4) = n by omega, HT0.out]; exact hown, hb2⟩
  case round =>
    clear hown hb2
    obtain ⟨j, A', c', hj, rfl, rfl, hown, hb⟩ := hrel
    by_cases hj0 : j = 0
    · subst hj0
      rw [List.take_of_length_le (by rw [HT.out]; omega)] at hown
      go_wp2_with fail
      go_ret
      exact ⟨A', c', rfl, lies_of_owns hown, hb⟩
    · obtain ⟨r, rfl⟩ : ∃ r, j = r + 1 := ⟨j - 1, by omega⟩
      clear hj0
      have hre : ((r + 1 : Nat) : Int) - 1 = (r : Int) := by omega
      rw [hre]
      have hr1 : (0 : Int) ≤ (r : Int) := by omega
      have hr3 : (r : Int) ≤ 3 := by omega
      have hy := Lib.hid (HV.out r (by omega))
      obtain ⟨q, hq⟩ : ∃ q, q = n + (4 - (r + 1)) := ⟨_, rfl⟩
      have HQ1 := Lib.hid (show n + (4 - r) = q + 1 by omega)
      have hq9 : q ≤ 8192 := by omega
      have hqT : q < n + 4 := by omega
      rw [← hq] at hown hy ⊢
      clear hq hre
      obtain ⟨R, hR⟩ : ∃ R, R = 8 * r := ⟨_, rfl⟩
      have hR8 : 8 * (r : Int) = (R : Int) := by omega
      rw [← hR] at hy
      have hR24 : R ≤ 24 := by omega
      clear hR
      obtain ⟨y, hy1⟩ : ∃ y, y = s / 2 ^ R % 256 := ⟨_, rfl⟩
      have hyw : IntKind.u8.wrap (s / 2 ^ R) = y := by rw [IntKind.wrap_u8', hy1]
      rw [← hy1] at hy
      have hy1' := hy1.symm
      clear hy1
      have hl1 := Lies.new wr 5 .u8 [y] 1 rfl #[.int .u8 y] rfl
      have hown' := hown.alloc (.cells #[.int .u8 y] 5)
      go_wp2_with (first
        | (at_builtin; with_reducible refine wpList_append_lies rfl (.tmp 14) (.tmp 20) 79 rfl w.heap.size 5 i0 _ 1 Try.underlying79 hi0 hz0 hz1 hz2 rfl .u8 (.slice A' q c') q (ts.take q) rfl hown' (some ⟨wr.heap.size, 0, none⟩) 1 1 [y] rfl hl1 (q + 1) rfl (by unfold maxLen; omega) (by omega) (Nat.le_trans hb.size (by simp)) ?_))
      intro A2 c2 w2 hown2 hg2 _
      have hb2 := (below_al hb _).grown hg2 (Nat.le_trans hb.size (by simp)) (fun r hr => (hown.lt r hr).1)
      have hown3 := owns_snoc (ts := ts) hown2 (by rw [HT.out]; omega) hy.out
      clear hown hown' hown2 hg2 hl1 hyw hy1' hR8
      go_wp2_with fail
      go_roundw
      case rel => exact ⟨r, A2, c2, by omega, by go_num, by rw [HQ1.out], by rw [HQ1.out]; exact hown3, hb2⟩
      case measure => simp [intOf]

theorem four_numB (q : List Int) (hb : ∀ x ∈ q, 0 ≤ x ∧ x ≤ 255) (hl : q.length = 4) : four (numB q) = q := by
  match q, hl with
  | [a, b, c, d], _ =>
    have h1 := hb a (by simp)
    have h2 := hb b (by simp)
    have h3 := hb c (by simp)
    have h4 := hb d (by simp)
    simp only [numB, four, List.foldl_cons, List.foldl_nil, List.cons.injEq, and_true]
    omega
/-- Summed bytes are just those that are put. -/
theorem check_is (l : List Int) (hb : ∀ x ∈ l, 0 ≤ x ∧ x ≤ 255) (h4 : 4 ≤ l.length) : checkB l = decide (putL (l.take (l.length - 4)) = l) := by
  rw [checkB, decide_eq_true h4, Bool.true_and, Bool.eq_iff_iff, beq_iff_eq, decide_eq_true_eq, putL]
  have hd : (l.drop (l.length - 4)).length = 4 := by rw [List.length_drop]; omega
  have hdb : ∀ x ∈ l.drop (l.length - 4), 0 ≤ x ∧ x ≤ 255 := fun x hx => hb x (List.mem_of_mem_drop hx)
  constructor
  · intro h
    rw [h, four_numB _ hdb hd, List.take_append_drop]
  · intro h
    have h1 : four (sumI (l.take (l.length - 4))) = l.drop (l.length - 4) := by
      have h2 := congrArg (fun z => z.drop (l.length - 4)) h
      rw [List.drop_left' (by rw [List.length_take]; omega)] at h2
      exact h2
    rw [← h1, numB_four]
theorem strOf_inj (a b : List Int) (ha : ∀ x ∈ a, 0 ≤ x ∧ x ≤ 255) (hb : ∀ x ∈ b, 0 ≤ x ∧ x ≤ 255) (h : strOf a = strOf b) : a = b := by
  have hl : a.length = b.length := by have := congrArg List.length h; simpa [strOf] using this
  apply List.ext_getElem hl
  intro j h1 h2
  have h3 := congrArg (fun z => z[j]?) h
  simp only [strOf, List.getElem?_map, List.getElem?_eq_getElem h1, List.getElem?_eq_getElem h2, Option.map_some, Option.some.injEq] at h3
  have h4 := ha _ (List.getElem_mem h1)
  have h5 := hb _ (List.getElem_mem h2)
  have h6 := congrArg UInt8.toNat h3
  simp only [UInt8.toNat_ofNat'] at h6
  omega

set_option maxRecDepth 100000 in
set_option maxHeartbeats 4000000 in
theorem refCheck_short (A : Option Addr) (n c : Nat) (w : World) (h4 : n < 4) :
    Calls Try.prog 54 #[.slice A n c] w fun e w' => e = .returned (.tuple #[.slice none 0 0, .bool false]) ∧ Below w.heap.size w w' := by
  have hd : decide ((n : Int) < 4) = true := by simp; omega
  go_enter Try.func54, Try.ntmps54
  go_wp2_with fail
  refine Reg.wp_slots (fun t => decide (4 ≤ t)) (by kernel_rfl) (by kernel_rfl) (by kernel_rfl) (fun zz => (Reg.tbl [
    (4, .is (.slice A n c)),
    (5, .is (.int .i64 (n : Int))),
    (6, .is (.bool true)),
    (7, .is (.bool true)),
    (8, .is (undef)),
    (9, .is (undef)),
    (10, .is (undef)),
    (11, .is (undef)),
    (12, .is (undef)),
    (13, .is (undef)),
    (14, .is (undef)),
    (15, .is (undef)),
    (16, .is (undef)),
    (17, .is (undef)),
    (18, .is (.bool true))] zz).P) (fun zz => (Reg.tbl _ zz).on) ?_ ?_
  · simp only [Reg.frame, Reg.over, Nat.reduceAdd, Nat.reduceLeDiff, decide_true, decide_false, if_true, Bool.false_eq_true, if_false]
    refine ⟨?_, ?_, ?_, ?_, ?_, ?_, ?_, ?_, ?_, ?_, ?_, ?_, ?_, ?_, ?_, trivial⟩
    · intro x u hbu hd
      refine wpOp_step rfl fun K hK => ?_
      go_simp
      exact hK _ _ ⟨_, rfl, Below.refl _ _, fun d hd => by cases hd; exact rfl⟩
    · intro x u hbu hd
      have h4 : x 4 = .slice A n c := hd 0 (by decide)
      refine wpOp_step rfl fun K hK => ?_
      simp only [h4] at hK ⊢
      go_simp
      exact hK _ _ ⟨_, rfl, Below.refl _ _, fun d hd => by cases hd; exact rfl⟩
    · intro x u hbu hd
      have h5 : x 5 = .int .i64 (n : Int) := hd 1 (by decide)
      refine wpOp_step rfl fun K hK => ?_
      simp only [h5] at hK ⊢
      go_simp
      exact hK _ _ ⟨_, rfl, Below.refl _ _, fun d hd => by cases hd; exact rfl⟩
    · intro x u hbu hd
      have h6 : x 6 = .bool true := hd 2 (by decide)
      refine wpOp_step rfl fun K hK => ?_
      simp only [h6] at hK ⊢
      go_simp
      exact hK _ _ ⟨_, rfl, Below.refl _ _, fun d hd => by cases hd; exact rfl⟩
    · intro x u hbu hd
      have h7 : x 7 = .bool true := hd 3 (by decide)
      refine wpOp_step rfl fun K hK => ?_
      simp only [h7] at hK ⊢
      go_simp
      exact hK _ _ ⟨_, rfl, Below.refl _ _, fun d hd => by cases hd; exact rfl⟩
    · intro x u hbu hd
      have h7 : x 7 = .bool true := hd 3 (by decide)
      refine wpOp_step rfl fun K hK => ?_
      simp only [h7] at hK ⊢
      go_simp
      exact hK _ _ ⟨_, rfl, Below.refl _ _, fun d hd => by cases hd; exact rfl⟩
    · intro x u hbu hd
      have h9 : x 9 = undef := hd 5 (by decide)
      have h7 : x 7 = .bool true := hd 3 (by decide)
      refine wpOp_step rfl fun K hK => ?_
      simp only [h9, h7] at hK ⊢
      go_simp
      exact hK _ _ ⟨_, rfl, Below.refl _ _, fun d hd => by cases hd; exact rfl⟩
    · intro x u hbu hd
      have h10 : x 10 = undef := hd 6 (by decide)
      have h7 : x 7 = .bool true := hd 3 (by decide)
      refine wpOp_step rfl fun K hK => ?_
      simp only [h10, h7] at hK ⊢
      go_simp
      exact hK _ _ ⟨_, rfl, Below.refl _ _, fun d hd => by cases hd; exact rfl⟩
    · intro x u hbu hd
      have h8 : x 8 = undef := hd 4 (by decide)
      have h11 : x 11 = undef := hd 7 (by decide)
      have h7 : x 7 = .bool true := hd 3 (by decide)
      refine wpOp_step rfl fun K hK => ?_
      simp only [h8, h11, h7] at hK ⊢
      go_simp
      exact hK _ _ ⟨_, rfl, Below.refl _ _, fun d hd => by cases hd; exact rfl⟩
    · intro x u hbu hd
      have h12 : x 12 = undef := hd 8 (by decide)
      have h7 : x 7 = .bool true := hd 3 (by decide)
      refine wpOp_step rfl fun K hK => ?_
      simp only [h12, h7] at hK ⊢
      go_simp
      exact hK _ _ ⟨_, rfl, Below.refl _ _, fun d hd => by cases hd; exact rfl⟩
    · intro x u hbu hd
      have h13 : x 13 = undef := hd 9 (by decide)
      have h7 : x 7 = .bool true := hd 3 (by decide)
      refine wpOp_step rfl fun K hK => ?_
      simp only [h13, h7] at hK ⊢
      go_simp
      exact hK _ _ ⟨_, rfl, Below.refl _ _, fun d hd => by cases hd; exact rfl⟩
    · intro x u hbu hd
      have h7 : x 7 = .bool true := hd 3 (by decide)
      refine wpOp_step rfl fun K hK => ?_
      simp only [h7] at hK ⊢
      go_simp
      exact hK _ _ ⟨_, rfl, Below.refl _ _, fun d hd => by cases hd; exact rfl⟩
    · intro x u hbu hd
      have h15 : x 15 = undef := hd 11 (by decide)
      have h7 : x 7 = .bool true := hd 3 (by decide)
      refine wpOp_step rfl fun K hK => ?_
      simp only [h15, h7] at hK ⊢
      go_simp
      exact hK _ _ ⟨_, rfl, Below.refl _ _, fun d hd => by cases hd; exact rfl⟩
    · intro x u hbu hd
      have h14 : x 14 = undef := hd 10 (by decide)
      have h16 : x 16 = undef := hd 12 (by decide)
      have h7 : x 7 = .bool true := hd 3 (by decide)
      refine wpOp_step rfl fun K hK => ?_
      simp only [h14, h16, h7] at hK ⊢
      go_simp
      exact hK _ _ ⟨_, rfl, Below.refl _ _, fun d hd => by cases hd; exact rfl⟩
    · intro x u hbu hd
      have h7 : x 7 = .bool true := hd 3 (by decide)
      have h17 : x 17 = undef := hd 13 (by decide)
      refine wpOp_step rfl fun K hK => ?_
      simp only [h7, h17] at hK ⊢
      go_simp
      exact hK _ _ ⟨_, rfl, Below.refl _ _, fun d hd => by cases hd; exact rfl⟩
  · intro x u hbu hall
    have h18 : x 18 = .bool true := hall 14 (by decide)
    simp only [Reg.frame, Reg.over, Nat.reduceAdd, Nat.reduceLeDiff, decide_true, decide_false, if_true, Bool.false_eq_true, if_false, h18]
    go_wp2_with fail
    go_ret2
    exact ⟨rfl, hbu⟩

set_option maxRecDepth 100000 in
set_option maxHeartbeats 4000000 in
theorem refCheck_long (A : Option Addr) (n c : Nat) (l : List Int) (w : World) (hx : Lies .u8 w w.heap.size A n l) (hb : ∀ x ∈ l, 0 ≤ x ∧ x ≤ 255) (hn : n ≤ 4096) (hcap : n ≤ c) (h4 : 4 ≤ n) :
    Calls Try.prog 54 #[.slice A n c] w fun e w' => (checkB l = false ∧ e = .returned (.tuple #[.slice none 0 0, .bool false]) ∧ Below w.heap.size w w') ∨
      (checkB l = true ∧ e = .returned (.tuple #[.slice A (n - 4) c, .bool true]) ∧ Below w.heap.size w w') := by
  have hd : decide ((n : Int) < 4) = false := by simp; omega
  have h4i : (4 : Int) ≤ (n : Int) := by omega
  have HB := Lib.hid hb
  have HBT := Lib.hid (fun x (h : x ∈ l.take (n - 4)) => hb x (List.mem_of_mem_take h))
  have HBP := Lib.hid (putL_bd _ HBT.out)
  have hs1 := fun W => uptoBytes A n c ((n : Int) - 4) (by omega) (by omega) W
  rw [show ((n : Int) - 4).toNat = n - 4 by omega] at hs1
  have hck := check_is l hb (by rw [hx.len]; exact h4)
  rw [hx.len] at hck
  obtain ⟨t, ht⟩ : ∃ t, t = !checkB l := ⟨_, rfl⟩
  have HT := Lib.hid (show (!(strOf (putL (l.take (n - 4))) == strOf l)) = t by
    rw [ht, hck]
    by_cases e : putL (l.take (n - 4)) = l
    · rw [decide_eq_true e, e]; simp
    · rw [decide_eq_false e, beq_eq_false_iff_ne.2 (fun h => e (strOf_inj _ _ HBP.out hb h))])
  have HTC := Lib.hid ht
  clear hb hck ht
  go_enter Try.func54, Try.ntmps54
  go_wp2_with fail
  refine Reg.wp_slots (fun t => decide (4 ≤ t)) (by kernel_rfl) (by kernel_rfl) (by kernel_rfl) (fun zz => (Reg.tbl [
    (4, .is (.slice A n c)),
    (5, .is (.int .i64 (n : Int))),
    (6, .is (.bool false)),
    (7, .is (.bool false)),
    (8, .is (.slice A n c)),
    (9, .is (.slice A n c)),
    (10, .is (.int .i64 (n : Int))),
    (11, .is (.int .i64 ((n : Int) - 4))),
    (12, .is (.slice A (n - 4) c)),
    (13, .list .u8 n (putL (l.take (n - 4)))),
    (14, .is (.string ⟨(strOf (putL (l.take (n - 4)))).toArray⟩)),
    (15, .is (.slice A n c)),
    (16, .is (.string ⟨(strOf l).toArray⟩)),
    (17, .is (.bool t)),
    (18, .is (.bool t))] zz).P) (fun zz => (Reg.tbl _ zz).on) ?_ ?_
  · simp only [Reg.frame, Reg.over, Nat.reduceAdd, Nat.reduceLeDiff, decide_true, decide_false, if_true, Bool.false_eq_true, if_false]
    refine ⟨?_, ?_, ?_, ?_, ?_, ?_, ?_, ?_, ?_, ?_, ?_, ?_, ?_, ?_, ?_, trivial⟩
    · intro x u hbu hd
      refine wpOp_step rfl fun K hK => ?_
      go_simp
      exact hK _ _ ⟨_, rfl, Below.refl _ _, fun d hd => by cases hd; exact rfl⟩
    · intro x u hbu hd
      have h4 : x 4 = .slice A n c := hd 0 (by decide)
      refine wpOp_step rfl fun K hK => ?_
      simp only [h4] at hK ⊢
      go_simp
      exact hK _ _ ⟨_, rfl, Below.refl _ _, fun d hd => by cases hd; exact rfl⟩
    · intro x u hbu hd
      have h5 : x 5 = .int .i64 (n : Int) := hd 1 (by decide)
      refine wpOp_step rfl fun K hK => ?_
      simp only [h5] at hK ⊢
      go_simp
      exact hK _ _ ⟨_, rfl, Below.refl _ _, fun d hd => by cases hd; exact rfl⟩
    · intro x u hbu hd
      have h6 : x 6 = .bool false := hd 2 (by decide)
      refine wpOp_step rfl fun K hK => ?_
      simp only [h6] at hK ⊢
      go_simp
      exact hK _ _ ⟨_, rfl, Below.refl _ _, fun d hd => by cases hd; exact rfl⟩
    · intro x u hbu hd
      have h7 : x 7 = .bool false := hd 3 (by decide)
      refine wpOp_step rfl fun K hK => ?_
      simp only [h7] at hK ⊢
      go_simp
      exact hK _ _ ⟨_, rfl, Below.refl _ _, fun d hd => by cases hd; exact rfl⟩
    · intro x u hbu hd
      have h7 : x 7 = .bool false := hd 3 (by decide)
      refine wpOp_step rfl fun K hK => ?_
      simp only [h7] at hK ⊢
      go_simp
      exact hK _ _ ⟨_, rfl, Below.refl _ _, fun d hd => by cases hd; exact rfl⟩
    · intro x u hbu hd
      have h9 : x 9 = .slice A n c := hd 5 (by decide)
      have h7 : x 7 = .bool false := hd 3 (by decide)
      refine wpOp_step rfl fun K hK => ?_
      simp only [h9, h7] at hK ⊢
      go_simp
      exact hK _ _ ⟨_, rfl, Below.refl _ _, fun d hd => by cases hd; exact rfl⟩
    · intro x u hbu hd
      have h10 : x 10 = .int .i64 (n : Int) := hd 6 (by decide)
      have h7 : x 7 = .bool false := hd 3 (by decide)
      have hwr : IntKind.i64.wrap ((n : Int) - 4) = (n : Int) - 4 := IntWalk.i64_in _ (by omega)
      refine wpOp_step rfl fun K hK => ?_
      simp only [h10, h7] at hK ⊢
      go_simp
      exact hK _ _ ⟨_, rfl, Below.refl _ _, fun d hd => by cases hd; exact rfl⟩
    · intro x u hbu hd
      have h8 : x 8 = .slice A n c := hd 4 (by decide)
      have h11 : x 11 = .int .i64 ((n : Int) - 4) := hd 7 (by decide)
      have h7 : x 7 = .bool false := hd 3 (by decide)
      refine wpOp_step rfl fun K hK => ?_
      simp only [h8, h11, h7] at hK ⊢
      go_simp
      exact hK _ _ ⟨_, rfl, Below.refl _ _, fun d hd => by cases hd; exact rfl⟩
    · intro x u hbu hd
      have h12 : x 12 = .slice A (n - 4) c := hd 8 (by decide)
      have h7 : x 7 = .bool false := hd 3 (by decide)
      refine wpOp_step rfl fun K hK => ?_
      simp only [h12, h7] at hK ⊢
      go_simp
      with_reducible refine (refPut_any _ _ _ _ _ ((hx.on hbu).head (by omega)) HBT.out (by omega)).mono ?_
      rintro e u' ⟨A', c', rfl, hl', hb'⟩
      exact hK _ _ ⟨_, rfl, hb', fun d hd => by cases hd; exact ⟨_, _, by rw [Nat.sub_add_cancel h4], by rw [Nat.sub_add_cancel h4] at hl'; exact hl'⟩⟩
    · intro x u hbu hd
      have k13 : (Reg.Fact.list .u8 n (putL (l.take (n - 4))) : Reg.Fact).P (x 13) u := hd 9 (by decide)
      obtain ⟨A13, c13, h13, hl13⟩ := k13
      have h7 : x 7 = .bool false := hd 3 (by decide)
      have hcv := run_string_lies (c := c13) hl13 HBP.out
      refine wpOp_step rfl fun K hK => ?_
      simp only [h13, h7] at hK ⊢
      go_simp
      exact hK _ _ ⟨_, rfl, Below.refl _ _, fun d hd => by cases hd; exact rfl⟩
    · intro x u hbu hd
      have h7 : x 7 = .bool false := hd 3 (by decide)
      refine wpOp_step rfl fun K hK => ?_
      simp only [h7] at hK ⊢
      go_simp
      exact hK _ _ ⟨_, rfl, Below.refl _ _, fun d hd => by cases hd; exact rfl⟩
    · intro x u hbu hd
      have h15 : x 15 = .slice A n c := hd 11 (by decide)
      have h7 : x 7 = .bool false := hd 3 (by decide)
      have hcv := run_string_lies (c := c) (hx.on hbu) HB.out
      refine wpOp_step rfl fun K hK => ?_
      simp only [h15, h7] at hK ⊢
      go_simp
      exact hK _ _ ⟨_, rfl, Below.refl _ _, fun d hd => by cases hd; exact rfl⟩
    · intro x u hbu hd
      have h14 : x 14 = .string ⟨(strOf (putL (l.take (n - 4)))).toArray⟩ := hd 10 (by decide)
      have h16 : x 16 = .string ⟨(strOf l).toArray⟩ := hd 12 (by decide)
      have h7 : x 7 = .bool false := hd 3 (by decide)
      refine wpOp_step rfl fun K hK => ?_
      simp only [h14, h16, h7] at hK ⊢
      go_simp
      exact hK _ _ ⟨_, rfl, Below.refl _ _, fun d hd => by cases hd; exact congrArg Value.bool HT.out⟩
    · intro x u hbu hd
      have h7 : x 7 = .bool false := hd 3 (by decide)
      have h17 : x 17 = .bool t := hd 13 (by decide)
      refine wpOp_step rfl fun K hK => ?_
      simp only [h7, h17] at hK ⊢
      go_simp
      exact hK _ _ ⟨_, rfl, Below.refl _ _, fun d hd => by cases hd; exact rfl⟩
  · intro x u hbu hall
    have h18 : x 18 = .bool t := hall 14 (by decide)
    simp only [Reg.frame, Reg.over, Nat.reduceAdd, Nat.reduceLeDiff, decide_true, decide_false, if_true, Bool.false_eq_true, if_false, h18]
    cases t
    · go_wp2_with fail
      go_ret2
      exact .inr ⟨by have := HTC.out; simpa using this.symm, rfl, hbu⟩
    · go_wp2_with fail
      go_ret2
      exact .inl ⟨by have := HTC.out; simpa using this.symm, rfl, hbu⟩
end Go.Proofs.Ytpjcbfapkjipjaa
