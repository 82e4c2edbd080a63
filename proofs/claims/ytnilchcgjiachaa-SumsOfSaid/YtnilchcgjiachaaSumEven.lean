/-
  The walk of the law SumsEven: it returns true, and nothing that was there has turned. Conditions: the slices' readings, bytes, lengths within the capacities.
-/
import Derived.Test.YtnilchcgjiachaaSumLives
import Derived.Test.YtnilchcgjiachaaReg
import Derived.Deep.RegionHeld3
namespace Go.Proofs.Ytnilchcgjiachaa
open Go.RowKit Crc

def xorI (x y : Int) : Int := ((x.toNat ^^^ y.toNat : Nat) : Int)
def xorL (a b : List Int) : List Int := List.zipWith xorI a b
theorem xorL_length (a b : List Int) : (xorL a b).length = min a.length b.length := by simp [xorL]
theorem xorL_at (a b : List Int) (k : Nat) (h1 : k < a.length) (h2 : k < b.length) : (xorL a b).getD k 0 = xorI (a.getD k 0) (b.getD k 0) := by
  rw [xorL, List.getD, List.getElem?_zipWith]
  simp [List.getD, h1, h2]
theorem xorI_bd (x y : Int) (h0 : 0 ≤ x) (h1 : x ≤ 255) (h2 : 0 ≤ y) (h3 : y ≤ 255) : 0 ≤ xorI x y ∧ xorI x y ≤ 255 := by
  have : x.toNat ^^^ y.toNat < 2 ^ 8 := Nat.xor_lt_two_pow (by omega) (by omega)
  unfold xorI
  omega
theorem xorL_bd (a b : List Int) (ha : ∀ x ∈ a, 0 ≤ x ∧ x ≤ 255) (hb : ∀ x ∈ b, 0 ≤ x ∧ x ≤ 255) : ∀ x ∈ xorL a b, 0 ≤ x ∧ x ≤ 255 := by
  intro x hx
  obtain ⟨k, hk, rfl⟩ := List.getElem_of_mem hx
  have hl := xorL_length a b
  have h := xorL_at a b k (by omega) (by omega)
  rw [getD_at _ _ hk] at h
  rw [h, getD_at a k (by omega), getD_at b k (by omega)]
  have h1 := ha _ (List.getElem_mem (by omega : k < a.length))
  have h2 := hb _ (List.getElem_mem (by omega : k < b.length))
  exact xorI_bd _ _ h1.1 h1.2 h2.1 h2.2
theorem bits8_xor (x y : Int) : bits8 (xorI x y) = List.zipWith (· != ·) (bits8 x) (bits8 y) := by
  simp [bits8, xorI, List.range, List.range.loop, Nat.testBit_xor]
theorem bitsL_length (l : List Int) : (bitsL l).length = 8 * l.length := by
  induction l with
  | nil => rfl
  | cons x l ih => rw [bitsL, List.flatMap_cons, List.length_append, bits8_length, ← bitsL, ih, List.length_cons]; omega
theorem bitsL_xor : ∀ (a b : List Int), a.length = b.length → bitsL (xorL a b) = List.zipWith (· != ·) (bitsL a) (bitsL b) := by
  intro a
  induction a with
  | nil => intro b h; cases b with
    | nil => rfl
    | cons => simp at h
  | cons x a ih => intro b h; cases b with
    | nil => simp at h
    | cons y b =>
      show bits8 (xorI x y) ++ bitsL (xorL a b) = List.zipWith _ (bits8 x ++ bitsL a) (bits8 y ++ bitsL b)
      rw [List.zipWith_append (by rw [bits8_length, bits8_length]), ih b (by simpa using h), bits8_xor]
theorem bitsL_zero (n : Nat) : bitsL (List.replicate n 0) = List.replicate (8 * n) false := by
  induction n with
  | zero => rfl
  | succ n ih =>
    rw [List.replicate_succ]
    show bits8 0 ++ bitsL (List.replicate n 0) = _
    rw [ih, show bits8 0 = List.replicate 8 false by decide, List.replicate_append_replicate]
    congr 1
    omega
theorem xorL_take (a b : List Int) (N : Nat) (h : N = min a.length b.length) : xorL (a.take N) (b.take N) = xorL a b := by
  unfold xorL
  rw [← List.take_zipWith, List.take_of_length_le (by simp; omega)]
theorem sum_even (a b : List Int) (N : Nat) {n m : Nat} (_ : ∀ x ∈ a, 0 ≤ x ∧ x ≤ 255) (_ : ∀ x ∈ b, 0 ≤ x ∧ x ≤ 255) (hn : a.length = n) (hm : b.length = m) (hN : N = min n m) :
    sumI (xorL a b) = bits .xor .u32 (bits .xor .u32 (sumI (a.take N)) (sumI (b.take N))) (sumI (List.replicate N 0)) := by
  have hN' : N = min a.length b.length := by rw [hN, hn, hm]
  have hl1 : (a.take N).length = N := by rw [List.length_take]; omega
  have hl2 : (b.take N).length = N := by rw [List.length_take]; omega
  rw [← xorL_take a b N hN']
  unfold sumI
  rw [bitsL_xor _ _ (by omega), crc_even _ _ (by rw [bitsL_length, bitsL_length]; omega), iv_xor, iv_xor, bitsL_zero, bitsL_length, hl1]
theorem sumOf_one (g : Nat) (l : List Int) (u : World) (h : Parts u (some ⟨g, 0, none⟩) 1 [l]) :
    Calls Try.prog 11 #[.slice (some ⟨g, 0, none⟩) 1 1] u fun e w' => e = .returned (.int .u32 (sumI l)) ∧ Below u.heap.size u w' := by
  have := sumOf_any (some ⟨g, 0, none⟩) 1 1 [l] u h
  rw [show [l].flatten = l by simp] at this
  exact this
def Reg.Fact.parts (l : List Int) : Reg.Fact := ⟨fun v w => ∃ g, v = .slice (some ⟨g, 0, none⟩) 1 1 ∧ Parts w (some ⟨g, 0, none⟩) 1 [l], fun _ _ _ hb h => by
  obtain ⟨g, e, hp⟩ := h
  exact ⟨g, e, hp.on hb⟩⟩

set_option maxRecDepth 100000 in
set_option maxHeartbeats 4000000 in
theorem even_walk (A B : Option Addr) (n m c d : Nat) (a b : List Int) (w : World) (hx : Lies .u8 w w.heap.size A n a) (hm : n ≤ maxLen) (hbd : ∀ x ∈ a, 0 ≤ x ∧ x ≤ 255) (hcap : n ≤ c) (hy : Lies .u8 w w.heap.size B m b) (hm' : m ≤ maxLen) (hbd' : ∀ x ∈ b, 0 ≤ x ∧ x ≤ 255) (hcap' : m ≤ d) (h1 : n ≤ 300) (h2 : m ≤ 300) :
    Calls Try.prog 7 #[.slice A n c, .slice B m d] w fun e w' => e = .returned (.bool true) ∧ Below w.heap.size w w' := by
  unfold maxLen at hm hm'
  have hd1 : decide ((300 : Int) < (n : Int)) = false := by simp; omega
  have hd2 : decide ((300 : Int) < (m : Int)) = false := by simp; omega
  go_enter Try.func7, Try.ntmps7
  obtain ⟨N, hN⟩ : ∃ N, N = min n m := ⟨_, rfl⟩
  have HN := Lib.hid hN
  clear hN
  go_upto_region 3 with (fail)
  go_cut [5] from 17 to 21 (fun s5 wx => s5 = .int .i64 (N : Int) ∧ w = wx)
  case first =>
    go_wp2_with fail
    all_goals go_meet
    all_goals exact ⟨congrArg (Value.int .i64) (by rw [HN.out]; omega), rfl⟩
  case rest =>
    obtain ⟨rfl, rfl⟩ := hcut
    have hNn : N ≤ n := by rw [HN.out]; omega
    have hNm : N ≤ m := by rw [HN.out]; omega
    have hmk := fun u => makeBytes (N : Int) (by omega) (by omega) u
    rw [Int.toNat_natCast] at hmk
    have HL := Lib.hid hx.len
    have HL' := Lib.hid hy.len
    obtain ⟨L, hL⟩ : ∃ L, L = xorL a b := ⟨_, rfl⟩
    have HLL := Lib.hid (show L.length = N by rw [hL, xorL_length, HL.out, HL'.out, HN.out])
    have HLA := Lib.hid (fun k (h1 : k < N) => show L.getD k 0 = xorI (a.getD k 0) (b.getD k 0) by rw [hL]; exact xorL_at a b k (by rw [HL.out]; omega) (by rw [HL'.out]; omega))
    have HBA := Lib.hid hbd
    have HBB := Lib.hid hbd'
    have HLdef := Lib.hid hL
    have hB0 : Blk (w.alloc (.cells (madeCells #[.int .u8 0] N) 5)) w.heap.size 5 (cellsOf .u8 (fillTo L 0)) := by
      rw [fillTo_none, HLL.out, ← cellsOf_made]
      exact Blk.new w _ _
    clear hbd hbd' hL hm hm'
    go_wp2_with fail
    clear hmk
    go_loopw [7] (fun iv' wr => ∃ k : Nat, k ≤ N ∧ iv' = .int .i64 k ∧ Blk wr w.heap.size 5 (cellsOf .u8 (fillTo L k)) ∧ Below w.heap.size w wr) (fun iv' _ => N - (intOf iv').toNat)
    case atStart => exact ⟨0, Nat.zero_le _, rfl, hB0, below_al (Below.refl _ _) _⟩
    case round =>
      clear hB0
      obtain ⟨k, hk, rfl, hB, hb⟩ := hrel
      by_cases hlt : k < N
      · have hlti : (k : Int) < (N : Int) := by omega
        have hk0 : (0 : Int) ≤ (k : Int) := by omega
        have hkn : (k : Int) < (n : Int) := by omega
        have hkm : (k : Int) < (m : Int) := by omega
        obtain ⟨ba, oa, rfl, hba, hca⟩ := hx.at_ (by omega)
        obtain ⟨bb, ob, rfl, hbb, hcb⟩ := hy.at_ (by omega)
        have hc1 := (hb.cell (p := ⟨ba, oa + k, none⟩) hba).trans (hca k (by omega))
        have hc2 := (hb.cell (p := ⟨bb, ob + k, none⟩) hbb).trans (hcb k (by omega))
        have hx1 := HBA.out (a.getD k 0) (by rw [getD_at _ _ (by rw [HL.out]; omega)]; exact List.getElem_mem _)
        have hx2 := HBB.out (b.getD k 0) (by rw [getD_at _ _ (by rw [HL'.out]; omega)]; exact List.getElem_mem _)
        have hxor := u8_xor (a.getD k 0) (b.getD k 0) hx1.1 (by omega) hx2.1 (by omega)
        have hz := HLA.out k hlt
        unfold xorI at hz
        rw [← hz] at hxor
        obtain ⟨z, hz1⟩ : ∃ z, z = L.getD k 0 := ⟨_, rfl⟩
        have hnew := hB.set_ k (.int .u8 (L.getD k 0))
        rw [cellsOf_set, fillTo_set _ _ (by rw [HLL.out]; exact hlt)] at hnew
        rw [← hz1] at hxor hnew
        have HNEW := Lib.hid hnew
        obtain ⟨y1, hy1⟩ : ∃ y1, y1 = a.getD k 0 := ⟨_, rfl⟩
        obtain ⟨y2, hy2⟩ : ∃ y2, y2 = b.getD k 0 := ⟨_, rfl⟩
        rw [← hy1] at hc1 hxor
        rw [← hy2] at hc2 hxor
        have hc3 : wr.cell? ⟨w.heap.size, k, none⟩ = some (.int .u8 ((fillTo L k).getD k 0)) := (hB.cell k).trans (cellsOf_at _ _ _ (by rw [fillTo_length _ _ (by rw [HLL.out]; omega), HLL.out]; exact hlt))
        have hf3 := hB.frozen k
        obtain ⟨y3, hy3⟩ : ∃ y3, y3 = (fillTo L k).getD k 0 := ⟨_, rfl⟩
        rw [← hy3] at hc3
        clear hz hz1 hy1 hy2 hy3 hx1 hx2 hnew hca hcb
        have HK1 := Lib.hid ((World.cell?_setCell_other wr ⟨w.heap.size, k, none⟩ ⟨ba, oa + k, none⟩ (.int .u8 z) (fun e => by injection e; omega)).trans hc1)
        have HK2 := Lib.hid ((World.cell?_setCell_other wr ⟨w.heap.size, k, none⟩ ⟨bb, ob + k, none⟩ (.int .u8 z) (fun e => by injection e; omega)).trans hc2)
        go_wp2_with fail
        go_region_held3 (fun w' => w'.cell? ⟨ba, oa + k, none⟩ = some (.int .u8 y1) ∧ w'.cell? ⟨bb, ob + k, none⟩ = some (.int .u8 y2)) (first | exact ⟨hc1, hc2⟩ | exact ⟨HK1.out, HK2.out⟩ | go_keep) (fail)
        all_goals go_wp2_with fail
        go_roundw
        case rel => exact ⟨k + 1, by omega, by go_num, HNEW.out, (hb.setCell (Nat.le_refl _) _).drew⟩
        case measure => simp [intOf]; omega
      · have hlti : (N : Int) ≤ (k : Int) := by omega
        rw [fillTo_all _ _ (by rw [HLL.out]; omega)] at hB
        have hlL := hB.lies HLL.out
        have hxw := hx.on hb
        have hyw := hy.on hb
        have hs1 := fun W => uptoBytes A n c (N : Int) (by omega) (by omega) W
        have hs2 := fun W => uptoBytes B m d (N : Int) (by omega) (by omega) W
        have hmk := fun u => makeBytes (N : Int) (by omega) (by omega) u
        rw [Int.toNat_natCast] at hmk hs1 hs2
        go_wp2_with fail
        have HBA' := Lib.hid (fun x (h : x ∈ a.take N) => HBA.out x (List.mem_of_mem_take h))
        have HBB' := Lib.hid (fun x (h : x ∈ b.take N) => HBB.out x (List.mem_of_mem_take h))
        have HBZ := Lib.hid (fun x (h : x ∈ List.replicate N (0 : Int)) => show 0 ≤ x ∧ x ≤ 255 by have := (List.mem_replicate.1 h).2; omega)
        have HBL := Lib.hid (show ∀ x ∈ L, 0 ≤ x ∧ x ≤ 255 by rw [HLdef.out]; exact xorL_bd a b HBA.out HBB.out)
        have hq := sum_even a b N HBA.out HBB.out HL.out HL'.out HN.out
        rw [← HLdef.out] at hq
        have HSL := Lib.hid (fun u {g} (h : Parts u (some ⟨g, 0, none⟩) 1 [L]) => sumOf_one g L u h)
        have HSA := Lib.hid (fun u {g} (h : Parts u (some ⟨g, 0, none⟩) 1 [a.take N]) => sumOf_one g (a.take N) u h)
        have HSB := Lib.hid (fun u {g} (h : Parts u (some ⟨g, 0, none⟩) 1 [b.take N]) => sumOf_one g (b.take N) u h)
        have HSZ := Lib.hid (fun u {g} (h : Parts u (some ⟨g, 0, none⟩) 1 [List.replicate N 0]) => sumOf_one g (List.replicate N 0) u h)
        obtain ⟨sL, hsL⟩ : ∃ sL, sL = sumI L := ⟨_, rfl⟩
        obtain ⟨sA, hsA⟩ : ∃ sA, sA = sumI (a.take N) := ⟨_, rfl⟩
        obtain ⟨sB, hsB⟩ : ∃ sB, sB = sumI (b.take N) := ⟨_, rfl⟩
        obtain ⟨sZ, hsZ⟩ : ∃ sZ, sZ = sumI (List.replicate N 0) := ⟨_, rfl⟩
        rw [← hsL] at HSL hq
        rw [← hsA] at HSA hq
        rw [← hsB] at HSB hq
        rw [← hsZ] at HSZ hq
        have HEQ := Lib.hid (show (sL == bits .xor .u32 (bits .xor .u32 sA sB) sZ) = true by rw [hq]; simp)
        clear hq hsL hsA hsB hsZ
        refine Reg.wp_slots (fun t => t == 4 || decide (41 ≤ t)) (by kernel_rfl) (by kernel_rfl) (by kernel_rfl) (fun zz => (Reg.tbl [
          (41, .is (.slice (some ⟨w.heap.size, 0, none⟩) N N)),
          (42, .parts L),
          (43, .is (.int .u32 sL)),
          (44, .is (.slice A n c)),
          (45, .is (.int .i64 (N : Int))),
          (46, .is (.slice A N c)),
          (47, .parts (a.take N)),
          (48, .is (.int .u32 sA)),
          (49, .is (.slice B m d)),
          (50, .is (.int .i64 (N : Int))),
          (51, .is (.slice B N d)),
          (52, .parts (b.take N)),
          (53, .is (.int .u32 sB)),
          (54, .is (.int .u32 (bits .xor .u32 sA sB))),
          (55, .is (.int .i64 (N : Int))),
          (56, .list .u8 N (List.replicate N 0)),
          (57, .parts (List.replicate N 0)),
          (58, .is (.int .u32 sZ)),
          (59, .is (.int .u32 (bits .xor .u32 (bits .xor .u32 sA sB) sZ))),
          (60, .is (.bool true)),
          (61, .is (.bool true)),
          (62, .is (.bool true)),
          (63, .is (.bool true)),
          (4, .is (.bool true))] zz).P) (fun zz => (Reg.tbl _ zz).on) ?_ ?_
        · simp only [Reg.frame, Reg.over, Nat.reduceAdd, Nat.reduceBEq, Nat.reduceLeDiff, decide_true, decide_false, Bool.or_true, Bool.or_false, if_true, Bool.false_eq_true, if_false]
          refine ⟨?_, ?_, ?_, ?_, ?_, ?_, ?_, ?_, ?_, ?_, ?_, ?_, ?_, ?_, ?_, ?_, ?_, ?_, ?_, ?_, ?_, ?_, ?_, ?_, trivial⟩
          · intro x u hbu hd
            refine wpOp_step rfl fun K hK => ?_
            go_simp
            exact hK _ _ ⟨_, rfl, Below.refl _ _, fun d hd => by cases hd; exact rfl⟩
          · intro x u hbu hd
            have h41 : x 41 = .slice (some ⟨w.heap.size, 0, none⟩) N N := hd 0 (by decide)
            refine wpOp_step rfl fun K hK => ?_
            simp only [h41] at hK ⊢
            go_simp
            exact hK _ _ ⟨_, rfl, below_al (Below.refl _ _) _, fun d hd => by cases hd; exact ⟨_, rfl, parts1 (hlL.on hbu) HBL.out (by omega)⟩⟩
          · intro x u hbu hd
            have k42 : (Reg.Fact.parts L : Reg.Fact).P (x 42) u := hd 1 (by decide)
            obtain ⟨g42, h42, hp42⟩ := k42
            refine wpOp_step rfl fun K hK => ?_
            simp only [h42] at hK ⊢
            go_simp
            with_reducible refine (HSL.out _ hp42).mono ?_
            rintro e u' ⟨rfl, hb'⟩
            exact hK _ _ ⟨_, rfl, hb', fun d hd => by cases hd; exact rfl⟩
          · intro x u hbu hd
            refine wpOp_step rfl fun K hK => ?_
            go_simp
            exact hK _ _ ⟨_, rfl, Below.refl _ _, fun d hd => by cases hd; exact rfl⟩
          · intro x u hbu hd
            refine wpOp_step rfl fun K hK => ?_
            go_simp
            exact hK _ _ ⟨_, rfl, Below.refl _ _, fun d hd => by cases hd; exact rfl⟩
          · intro x u hbu hd
            have h44 : x 44 = .slice A n c := hd 3 (by decide)
            have h45 : x 45 = .int .i64 (N : Int) := hd 4 (by decide)
            refine wpOp_step rfl fun K hK => ?_
            simp only [h44, h45] at hK ⊢
            go_simp
            exact hK _ _ ⟨_, rfl, Below.refl _ _, fun d hd => by cases hd; exact rfl⟩
          · intro x u hbu hd
            have h46 : x 46 = .slice A N c := hd 5 (by decide)
            refine wpOp_step rfl fun K hK => ?_
            simp only [h46] at hK ⊢
            go_simp
            exact hK _ _ ⟨_, rfl, below_al (Below.refl _ _) _, fun d hd => by cases hd; exact ⟨_, rfl, parts1 ((hxw.on hbu).head hNn) HBA'.out (by omega)⟩⟩
          · intro x u hbu hd
            have k47 : (Reg.Fact.parts (a.take N) : Reg.Fact).P (x 47) u := hd 6 (by decide)
            obtain ⟨g47, h47, hp47⟩ := k47
            refine wpOp_step rfl fun K hK => ?_
            simp only [h47] at hK ⊢
            go_simp
            with_reducible refine (HSA.out _ hp47).mono ?_
            rintro e u' ⟨rfl, hb'⟩
            exact hK _ _ ⟨_, rfl, hb', fun d hd => by cases hd; exact rfl⟩
          · intro x u hbu hd
            refine wpOp_step rfl fun K hK => ?_
            go_simp
            exact hK _ _ ⟨_, rfl, Below.refl _ _, fun d hd => by cases hd; exact rfl⟩
          · intro x u hbu hd
            refine wpOp_step rfl fun K hK => ?_
            go_simp
            exact hK _ _ ⟨_, rfl, Below.refl _ _, fun d hd => by cases hd; exact rfl⟩
          · intro x u hbu hd
            have h49 : x 49 = .slice B m d := hd 8 (by decide)
            have h50 : x 50 = .int .i64 (N : Int) := hd 9 (by decide)
            refine wpOp_step rfl fun K hK => ?_
            simp only [h49, h50] at hK ⊢
            go_simp
            exact hK _ _ ⟨_, rfl, Below.refl _ _, fun d hd => by cases hd; exact rfl⟩
          · intro x u hbu hd
            have h51 : x 51 = .slice B N d := hd 10 (by decide)
            refine wpOp_step rfl fun K hK => ?_
            simp only [h51] at hK ⊢
            go_simp
            exact hK _ _ ⟨_, rfl, below_al (Below.refl _ _) _, fun d hd => by cases hd; exact ⟨_, rfl, parts1 ((hyw.on hbu).head hNm) HBB'.out (by omega)⟩⟩
          · intro x u hbu hd
            have k52 : (Reg.Fact.parts (b.take N) : Reg.Fact).P (x 52) u := hd 11 (by decide)
            obtain ⟨g52, h52, hp52⟩ := k52
            refine wpOp_step rfl fun K hK => ?_
            simp only [h52] at hK ⊢
            go_simp
            with_reducible refine (HSB.out _ hp52).mono ?_
            rintro e u' ⟨rfl, hb'⟩
            exact hK _ _ ⟨_, rfl, hb', fun d hd => by cases hd; exact rfl⟩
          · intro x u hbu hd
            have h48 : x 48 = .int .u32 sA := hd 7 (by decide)
            have h53 : x 53 = .int .u32 sB := hd 12 (by decide)
            refine wpOp_step rfl fun K hK => ?_
            simp only [h48, h53] at hK ⊢
            go_simp
            exact hK _ _ ⟨_, rfl, Below.refl _ _, fun d hd => by cases hd; exact rfl⟩
          · intro x u hbu hd
            refine wpOp_step rfl fun K hK => ?_
            go_simp
            exact hK _ _ ⟨_, rfl, Below.refl _ _, fun d hd => by cases hd; exact rfl⟩
          · intro x u hbu hd
            have h55 : x 55 = .int .i64 (N : Int) := hd 14 (by decide)
            refine wpOp_step rfl fun K hK => ?_
            simp only [h55] at hK ⊢
            go_simp
            exact hK _ _ ⟨_, rfl, below_al (Below.refl _ _) _, fun d hd => by cases hd; exact ⟨_, _, rfl, by have := Lies.new u 5 .u8 (List.replicate N 0) N (by simp) _ (cellsOf_made N); exact this⟩⟩
          · intro x u hbu hd
            have k56 : (Reg.Fact.list .u8 N (List.replicate N 0) : Reg.Fact).P (x 56) u := hd 15 (by decide)
            obtain ⟨A56, c56, h56, hl56⟩ := k56
            refine wpOp_step rfl fun K hK => ?_
            simp only [h56] at hK ⊢
            go_simp
            exact hK _ _ ⟨_, rfl, below_al (Below.refl _ _) _, fun d hd => by cases hd; exact ⟨_, rfl, parts1 hl56 HBZ.out (by omega)⟩⟩
          · intro x u hbu hd
            have k57 : (Reg.Fact.parts (List.replicate N 0) : Reg.Fact).P (x 57) u := hd 16 (by decide)
            obtain ⟨g57, h57, hp57⟩ := k57
            refine wpOp_step rfl fun K hK => ?_
            simp only [h57] at hK ⊢
            go_simp
            with_reducible refine (HSZ.out _ hp57).mono ?_
            rintro e u' ⟨rfl, hb'⟩
            exact hK _ _ ⟨_, rfl, hb', fun d hd => by cases hd; exact rfl⟩
          · intro x u hbu hd
            have h54 : x 54 = .int .u32 (bits .xor .u32 sA sB) := hd 13 (by decide)
            have h58 : x 58 = .int .u32 sZ := hd 17 (by decide)
            refine wpOp_step rfl fun K hK => ?_
            simp only [h54, h58] at hK ⊢
            go_simp
            exact hK _ _ ⟨_, rfl, Below.refl _ _, fun d hd => by cases hd; exact rfl⟩
          · intro x u hbu hd
            have h43 : x 43 = .int .u32 sL := hd 2 (by decide)
            have h59 : x 59 = .int .u32 (bits .xor .u32 (bits .xor .u32 sA sB) sZ) := hd 18 (by decide)
            refine wpOp_step rfl fun K hK => ?_
            simp only [h43, h59] at hK ⊢
            go_simp
            exact hK _ _ ⟨_, rfl, Below.refl _ _, fun d hd => by cases hd; exact congrArg Value.bool HEQ.out⟩
          · intro x u hbu hd
            have h60 : x 60 = .bool true := hd 19 (by decide)
            refine wpOp_step rfl fun K hK => ?_
            simp only [h60] at hK ⊢
            go_simp
            exact hK _ _ ⟨_, rfl, Below.refl _ _, fun d hd => by cases hd; exact rfl⟩
          · intro x u hbu hd
            have h61 : x 61 = .bool true := hd 20 (by decide)
            refine wpOp_step rfl fun K hK => ?_
            simp only [h61] at hK ⊢
            go_simp
            with_reducible refine (lives_any _).mono ?_
            rintro e u' ⟨rfl, hb'⟩
            exact hK _ _ ⟨_, rfl, hb', fun d hd => by cases hd; exact rfl⟩
          · intro x u hbu hd
            have h61 : x 61 = .bool true := hd 20 (by decide)
            have h62 : x 62 = .bool true := hd 21 (by decide)
            refine wpOp_step rfl fun K hK => ?_
            simp only [h61, h62] at hK ⊢
            go_simp
            exact hK _ _ ⟨_, rfl, Below.refl _ _, fun d hd => by cases hd; exact rfl⟩
          · intro x u hbu hd
            have h63 : x 63 = .bool true := hd 22 (by decide)
            refine wpOp_step rfl fun K hK => ?_
            simp only [h63] at hK ⊢
            go_simp
            exact hK _ _ ⟨_, rfl, Below.refl _ _, fun d hd => by cases hd; exact rfl⟩
        · intro x u hbu hall
          have h4 : x 4 = .bool true := hall 23 (by decide)
          simp only [Reg.frame, Reg.over, Nat.reduceAdd, Nat.reduceBEq, Nat.reduceLeDiff, decide_true, decide_false, Bool.or_true, Bool.or_false, if_true, Bool.false_eq_true, if_false, h4]
          go_wp2_with fail
          go_ret
          exact ⟨rfl, below_then hb hbu⟩

theorem sumsEven.sumsEven_walk (A : Option Addr) (n c : Nat) (xs : List Int) (B : Option Addr) (m d : Nat) (ys : List Int) (w : World) (hx : Lies .u8 w w.heap.size A n xs) (hm : n ≤ c ∧ c ≤ maxLen) (ha : ∀ x ∈ xs, (Lit.int .u8 x).wf = true)
    (hy : Lies .u8 w w.heap.size B m ys) (hm' : m ≤ d ∧ d ≤ maxLen) (hb : ∀ x ∈ ys, (Lit.int .u8 x).wf = true) :
    Calls Try.prog 7 #[.slice A n c, .slice B m d] w fun e w' => e = .returned (.bool true) ∧ Below w.heap.size w w' := by
  have hn9 : n ≤ maxLen := by omega
  have hm9 : m ≤ maxLen := by omega
  by_cases h1 : n ≤ 300
  · by_cases h2 : m ≤ 300
    · exact even_walk A B n m c d xs ys w hx hn9 (fun x hx => bounds_u8 (ha x hx)) hm.1 hy hm9 (fun x hx => bounds_u8 (hb x hx)) hm'.1 h1 h2
    · unfold maxLen at hn9 hm9
      have hd1 : decide ((300 : Int) < (n : Int)) = false := by simp; omega
      have hgt : (300 : Int) < (m : Int) := by omega
      go_enter Try.func7, Try.ntmps7
      go_wp2_with (go_at_call 8; refine (lives_any _).mono ?_; rintro e w1 ⟨rfl, hb⟩)
      go_ret
      exact ⟨rfl, hb⟩
  · unfold maxLen at hn9 hm9
    have hgt : (300 : Int) < (n : Int) := by omega
    go_enter Try.func7, Try.ntmps7
    go_wp2_with (go_at_call 8; refine (lives_any _).mono ?_; rintro e w1 ⟨rfl, hb⟩)
    go_ret
    exact ⟨rfl, hb⟩
end Go.Proofs.Ytnilchcgjiachaa
