/-
  The walk of the law SumsParts: it returns true, and nothing that was there has turned. Conditions: the slice's reading, bytes, a length within the capacity, two numbers.
-/
import Derived.Test.YtnilchcgjiachaaSumEven
namespace Go.Proofs.Ytnilchcgjiachaa
open Go.RowKit Crc

def Reg.Fact.partsL (k : Nat) (ps : List (List Int)) : Reg.Fact := ⟨fun v w => ∃ g, v = .slice (some ⟨g, 0, none⟩) k k ∧ Parts w (some ⟨g, 0, none⟩) k ps, fun _ _ _ hb h => by
  obtain ⟨g, e, hp⟩ := h
  exact ⟨g, e, hp.on hb⟩⟩
/-- A row of lists, built. -/
theorem partsNew (u : World) (vs : List (Option Addr × Nat × Nat × List Int)) {k : Nat} (hk : vs.length = k) (hf : k ≤ 8) (h : ∀ p ∈ vs, Lies .u8 u u.heap.size p.1 p.2.1 p.2.2.2 ∧ p.2.1 ≤ 65536 ∧ ∀ x ∈ p.2.2.2, 0 ≤ x ∧ x ≤ 255) :
    Parts (u.alloc (.cells (vs.map fun p => Value.slice p.1 p.2.1 p.2.2.1).toArray 22)) (some ⟨u.heap.size, 0, none⟩) k (vs.map (·.2.2.2)) :=
  ⟨by simp [hk], hf, fun i hi => by
    have hi' : i < vs.length := by omega
    obtain ⟨h1, h2, _⟩ := h vs[i] (List.getElem_mem hi')
    refine ⟨u.heap.size, 0, rfl, by simp, vs[i].1, vs[i].2.1, vs[i].2.2.1, ?_, ?_, h2⟩
    · rw [Nat.zero_add, (Blk.new u 22 _).cell i]
      simp [hi']
    · have := h1.al (.cells (vs.map fun p => Value.slice p.1 p.2.1 p.2.2.1).toArray 22)
      simpa [List.getD, hi'] using this, fun l hl => by
    obtain ⟨p, hp, rfl⟩ := List.mem_map.1 hl
    exact (h p hp).2.2⟩

theorem parts_flat (b : List Int) (I J : Nat) (h : I ≤ J) : [b.take I, (b.drop I).take (J - I), [], b.drop J].flatten = b := by
  have h1 : b.drop J = (b.drop I).drop (J - I) := by rw [List.drop_drop]; congr 1; omega
  simp only [List.flatten_cons, List.flatten_nil, List.append_nil, List.nil_append]
  rw [h1, List.take_append_drop, List.take_append_drop]
theorem four_bd (v : Int) (h0 : 0 ≤ v) (h1 : v < 4294967296) : ∀ x ∈ four v, 0 ≤ x ∧ x ≤ 255 := by
  simp only [four, List.forall_mem_cons]
  exact ⟨by omega, by omega, by omega, by omega, fun _ h => by cases h⟩
theorem putL_bd (l : List Int) (h : ∀ x ∈ l, 0 ≤ x ∧ x ≤ 255) : ∀ x ∈ putL l, 0 ≤ x ∧ x ≤ 255 := by
  intro x hx
  rcases List.mem_append.1 hx with h1 | h1
  · exact h x h1
  · exact four_bd _ (iv_lo _) (iv_hi _) x h1
theorem sumOf_all (g k : Nat) (ps : List (List Int)) (u : World) (h : Parts u (some ⟨g, 0, none⟩) k ps) :
    Calls Try.prog 11 #[.slice (some ⟨g, 0, none⟩) k k] u fun e w' => e = .returned (.int .u32 (sumI ps.flatten)) ∧ Below u.heap.size u w' := sumOf_any _ k k ps u h
theorem sumPut_all (g k : Nat) (ps : List (List Int)) (u : World) (h : Parts u (some ⟨g, 0, none⟩) k ps) :
    Calls Try.prog 10 #[.slice (some ⟨g, 0, none⟩) k k] u fun e w' => ∃ g', e = .returned (.slice (some ⟨g', 0, none⟩) (ps.flatten.length + 4) (ps.flatten.length + 4)) ∧ u.heap.size ≤ g' ∧ Blk w' g' 5 (cellsOf .u8 (putL ps.flatten)) ∧ Below u.heap.size u w' := sumPut_any _ k k ps u h

set_option maxRecDepth 100000 in
set_option maxHeartbeats 4000000 in
theorem parts_walk (A : Option Addr) (n c : Nat) (b : List Int) (x0 x1 : Int) (w : World) (hx : Lies .u8 w w.heap.size A n b) (hbd : ∀ x ∈ b, 0 ≤ x ∧ x ≤ 255) (hcap : n ≤ c) (hx0 : 0 ≤ x0) (hx1 : 0 ≤ x1) (hx0' : x0 ≤ 65535) (hx1' : x1 ≤ 65535) (h1 : n ≤ 300) :
    Calls Try.prog 6 #[.slice A n c, .agg #[.int .u16 x0, .int .u16 x1]] w fun e w' => e = .returned (.bool true) ∧ Below w.heap.size w w' := by
  have hd1 : decide ((300 : Int) < (n : Int)) = false := by simp; omega
  obtain ⟨I, hI⟩ : ∃ I : Nat, x0 % ((n : Int) + 1) = (I : Int) := ⟨(x0 % ((n : Int) + 1)).toNat, by have := Int.emod_nonneg x0 (show (n : Int) + 1 ≠ 0 by omega); omega⟩
  have hIn : I ≤ n := by have := Int.emod_lt_of_pos x0 (show 0 < (n : Int) + 1 by omega); omega
  obtain ⟨J, hJ⟩ : ∃ J : Nat, (I : Int) + x1 % ((n : Int) - I + 1) = (J : Int) := ⟨((I : Int) + x1 % ((n : Int) - I + 1)).toNat, by have := Int.emod_nonneg x1 (show (n : Int) - I + 1 ≠ 0 by omega); omega⟩
  have hIJ : I ≤ J := by have := Int.emod_nonneg x1 (show (n : Int) - I + 1 ≠ 0 by omega); omega
  have hJn : J ≤ n := by have := Int.emod_lt_of_pos x1 (show 0 < (n : Int) - I + 1 by omega); omega
  have HL := Lib.hid hx.len
  have HB := Lib.hid hbd
  have HBT := Lib.hid (fun N x (h : x ∈ b.take N) => hbd x (List.mem_of_mem_take h))
  have HBM := Lib.hid (fun x (h : x ∈ (b.drop I).take (J - I)) => hbd x (List.mem_of_mem_drop (List.mem_of_mem_take h)))
  have HBD := Lib.hid (fun x (h : x ∈ b.drop J) => hbd x (List.mem_of_mem_drop h))
  have HPL := Lib.hid (show (putL b).length = n + 4 by rw [putL_length, hx.len])
  have HPB := Lib.hid (putL_bd b hbd)
  clear hbd
  go_enter Try.func6, Try.ntmps6
  go_wp2_with fail
  have hz := Blk.new w 42 #[.int .u16 x0, .int .u16 x1]
  have h0 := of1 A n c b _ (hx.al (.cells #[.int .u16 x0, .int .u16 x1] 42)) HB.out (by omega) (w.heap.size + 1) (alloc_size _ _)
  have hb0 := below_al (Below.refl w.heap.size w) (.cells #[.int .u16 x0, .int .u16 x1] 42)
  have HS4 := Lib.hid (fun u {g} (h : Parts u (some ⟨g, 0, none⟩) 4 [b.take I, (b.drop I).take (J - I), [], b.drop J]) => sumOf_all g 4 _ u h)
  have HS2 := Lib.hid (fun u {g} (h : Parts u (some ⟨g, 0, none⟩) 2 [[], b]) => sumOf_all g 2 _ u h)
  rw [parts_flat b I J hIJ] at HS4
  rw [show [[], b].flatten = b by simp] at HS2
  have HP2 := Lib.hid (fun u {g} (h : Parts u (some ⟨g, 0, none⟩) 2 [b.take J, b.drop J]) => sumPut_all g 2 _ u h)
  have HP1 := Lib.hid (fun u {g} (h : Parts u (some ⟨g, 0, none⟩) 1 [b]) => sumPut_all g 1 _ u h)
  rw [show [b.take J, b.drop J].flatten = b by simp, HL.out] at HP2
  rw [show [b].flatten = b by simp, HL.out] at HP1
  obtain ⟨s, hs⟩ : ∃ s, s = sumI b := ⟨_, rfl⟩
  rw [← hs] at h0 HS4 HS2
  clear hs
  with_reducible refine h0.mono ?_
  rintro e w1 ⟨rfl, hb⟩
  have hxw := hx.on (below_then hb0 hb)
  have hb1 := below_then hb0 hb
  have hz0 := (hz.on hb).cell 0
  have hz1 := (hz.on hb).cell 1
  clear h0 hb0 hb hx hz
  have hs1 := fun W => uptoBytes A n c (I : Int) (by omega) (by omega) W
  have hs2 := fun W => partBytes A n c (I : Int) (J : Int) (by omega) (by omega) (by omega) W
  have hs3 := fun W => fromBytes A n c (J : Int) (by omega) (by omega) W
  have hs4 := fun W => uptoBytes A n c (J : Int) (by omega) (by omega) W
  simp only [Int.toNat_natCast] at hs1 hs2 hs3 hs4
  go_wp2_with fail
  refine Reg.wp_slots (fun t => t == 4 || decide (33 ≤ t)) (by kernel_rfl) (by kernel_rfl) (by kernel_rfl) (fun zz => (Reg.tbl [
    (33, .is (.slice A n c)),
    (34, .is (.int .i64 (I : Int))),
    (35, .is (.slice A I c)),
    (36, .is (.slice A n c)),
    (37, .is (.int .i64 (I : Int))),
    (38, .is (.int .i64 (J : Int))),
    (39, .is (.slice (cutA A c I) (J - I) (c - I))),
    (40, .is (.slice A n c)),
    (41, .is (.int .i64 (J : Int))),
    (42, .is (.slice (cutA A c J) (n - J) (c - J))),
    (43, .partsL 4 [b.take I, (b.drop I).take (J - I), [], b.drop J]),
    (44, .is (.int .u32 s)),
    (45, .is (.int .u32 s)),
    (46, .is (.bool true)),
    (47, .is (.bool true)),
    (48, .is (.slice A n c)),
    (49, .partsL 2 [[], b]),
    (50, .is (.int .u32 s)),
    (51, .is (.int .u32 s)),
    (52, .is (.bool true)),
    (53, .is (.bool true)),
    (54, .is (.bool true)),
    (55, .is (.slice A n c)),
    (56, .is (.int .i64 (J : Int))),
    (57, .is (.slice A J c)),
    (58, .is (.slice A n c)),
    (59, .is (.int .i64 (J : Int))),
    (60, .is (.slice (cutA A c J) (n - J) (c - J))),
    (61, .partsL 2 [b.take J, b.drop J]),
    (62, .list .u8 (n + 4) (putL b)),
    (63, .is (.slice A n c)),
    (64, .partsL 1 [b]),
    (65, .list .u8 (n + 4) (putL b)),
    (66, .is (.bool true)),
    (67, .is (.bool true)),
    (68, .is (.bool true)),
    (69, .is (.bool true)),
    (70, .is (.bool true)),
    (4, .is (.bool true))] zz).P) (fun zz => (Reg.tbl _ zz).on) ?_ ?_
  · simp only [Reg.frame, Reg.over, Nat.reduceAdd, Nat.reduceBEq, Nat.reduceLeDiff, decide_true, decide_false, Bool.or_true, Bool.or_false, if_true, Bool.false_eq_true, if_false]
    refine ⟨?_, ?_, ?_, ?_, ?_, ?_, ?_, ?_, ?_, ?_, ?_, ?_, ?_, ?_, ?_, ?_, ?_, ?_, ?_, ?_, ?_, ?_, ?_, ?_, ?_, ?_, ?_, ?_, ?_, ?_, ?_, ?_, ?_, ?_, ?_, ?_, ?_, ?_, ?_, trivial⟩
    · intro x u hbu hd
      refine wpOp_step rfl fun K hK => ?_
      go_simp
      exact hK _ _ ⟨_, rfl, Below.refl _ _, fun d hd => by cases hd; exact rfl⟩
    · intro x u hbu hd
      refine wpOp_step rfl fun K hK => ?_
      go_simp
      exact hK _ _ ⟨_, rfl, Below.refl _ _, fun d hd => by cases hd; exact rfl⟩
    · intro x u hbu hd
      have h33 : x 33 = .slice A n c := hd 0 (by decide)
      have h34 : x 34 = .int .i64 (I : Int) := hd 1 (by decide)
      refine wpOp_step rfl fun K hK => ?_
      simp only [h33, h34] at hK ⊢
      go_simp
      exact hK _ _ ⟨_, rfl, Below.refl _ _, fun d hd => by cases hd; exact rfl⟩
    · intro x u hbu hd
      refine wpOp_step rfl fun K hK => ?_
      go_simp
      exact hK _ _ ⟨_, rfl, Below.refl _ _, fun d hd => by cases hd; exact rfl⟩
    · intro x u hbu hd
      refine wpOp_step rfl fun K hK => ?_
      go_simp
      exact hK _ _ ⟨_, rfl, Below.refl _ _, fun d hd => by cases hd; exact rfl⟩
    · intro x u hbu hd
      refine wpOp_step rfl fun K hK => ?_
      go_simp
      exact hK _ _ ⟨_, rfl, Below.refl _ _, fun d hd => by cases hd; exact rfl⟩
    · intro x u hbu hd
      have h36 : x 36 = .slice A n c := hd 3 (by decide)
      have h37 : x 37 = .int .i64 (I : Int) := hd 4 (by decide)
      have h38 : x 38 = .int .i64 (J : Int) := hd 5 (by decide)
      refine wpOp_step rfl fun K hK => ?_
      simp only [h36, h37, h38] at hK ⊢
      go_simp
      exact hK _ _ ⟨_, rfl, Below.refl _ _, fun d hd => by cases hd; exact rfl⟩
    · intro x u hbu hd
      refine wpOp_step rfl fun K hK => ?_
      go_simp
      exact hK _ _ ⟨_, rfl, Below.refl _ _, fun d hd => by cases hd; exact rfl⟩
    · intro x u hbu hd
      refine wpOp_step rfl fun K hK => ?_
      go_simp
      exact hK _ _ ⟨_, rfl, Below.refl _ _, fun d hd => by cases hd; exact rfl⟩
    · intro x u hbu hd
      have h40 : x 40 = .slice A n c := hd 7 (by decide)
      have h41 : x 41 = .int .i64 (J : Int) := hd 8 (by decide)
      refine wpOp_step rfl fun K hK => ?_
      simp only [h40, h41] at hK ⊢
      go_simp
      exact hK _ _ ⟨_, rfl, Below.refl _ _, fun d hd => by cases hd; exact rfl⟩
    · intro x u hbu hd
      have h35 : x 35 = .slice A I c := hd 2 (by decide)
      have h39 : x 39 = .slice (cutA A c I) (J - I) (c - I) := hd 6 (by decide)
      have h42 : x 42 = .slice (cutA A c J) (n - J) (c - J) := hd 9 (by decide)
      refine wpOp_step rfl fun K hK => ?_
      simp only [h35, h39, h42] at hK ⊢
      go_simp
      exact hK _ _ ⟨_, rfl, below_al (Below.refl _ _) _, fun d hd => by cases hd; exact ⟨_, rfl, partsNew u [(A, I, c, b.take I), (cutA A c I, J - I, c - I, (b.drop I).take (J - I)), (none, 0, 0, []), (cutA A c J, n - J, c - J, b.drop J)] (by simp) (by simp) (by simp only [List.forall_mem_cons]; exact ⟨⟨(hxw.on hbu).head (by omega), by omega, HBT.out I⟩, ⟨(hxw.on hbu).part (by omega) (by omega) hcap, by omega, HBM.out⟩, ⟨Lies.nil_, by omega, fun _ h => by cases h⟩, ⟨(hxw.on hbu).tail (by omega) hcap, by omega, HBD.out⟩, fun _ h => by cases h⟩)⟩⟩
    · intro x u hbu hd
      have k43 : (Reg.Fact.partsL 4 [b.take I, (b.drop I).take (J - I), [], b.drop J] : Reg.Fact).P (x 43) u := hd 10 (by decide)
      obtain ⟨g43, h43, hp43⟩ := k43
      refine wpOp_step rfl fun K hK => ?_
      simp only [h43] at hK ⊢
      go_simp
      with_reducible refine (HS4.out _ hp43).mono ?_
      rintro e u' ⟨rfl, hb'⟩
      exact hK _ _ ⟨_, rfl, hb', fun d hd => by cases hd; exact rfl⟩
    · intro x u hbu hd
      refine wpOp_step rfl fun K hK => ?_
      go_simp
      exact hK _ _ ⟨_, rfl, Below.refl _ _, fun d hd => by cases hd; exact rfl⟩
    · intro x u hbu hd
      have h44 : x 44 = .int .u32 s := hd 11 (by decide)
      have h45 : x 45 = .int .u32 s := hd 12 (by decide)
      refine wpOp_step rfl fun K hK => ?_
      simp only [h44, h45] at hK ⊢
      go_simp
      exact hK _ _ ⟨_, rfl, Below.refl _ _, fun d hd => by cases hd; exact congrArg Value.bool (by simp)⟩
    · intro x u hbu hd
      have h46 : x 46 = .bool true := hd 13 (by decide)
      refine wpOp_step rfl fun K hK => ?_
      simp only [h46] at hK ⊢
      go_simp
      exact hK _ _ ⟨_, rfl, Below.refl _ _, fun d hd => by cases hd; exact rfl⟩
    · intro x u hbu hd
      have h47 : x 47 = .bool true := hd 14 (by decide)
      refine wpOp_step rfl fun K hK => ?_
      simp only [h47] at hK ⊢
      go_simp
      exact hK _ _ ⟨_, rfl, Below.refl _ _, fun d hd => by cases hd; exact rfl⟩
    · intro x u hbu hd
      have h48 : x 48 = .slice A n c := hd 15 (by decide)
      have h47 : x 47 = .bool true := hd 14 (by decide)
      refine wpOp_step rfl fun K hK => ?_
      simp only [h48, h47] at hK ⊢
      go_simp
      exact hK _ _ ⟨_, rfl, below_al (Below.refl _ _) _, fun d hd => by cases hd; exact ⟨_, rfl, partsNew u [(none, 0, 0, []), (A, n, c, b)] (by simp) (by simp) (by simp only [List.forall_mem_cons]; exact ⟨⟨Lies.nil_, by omega, fun _ h => by cases h⟩, ⟨(hxw.on hbu), by omega, HB.out⟩, fun _ h => by cases h⟩)⟩⟩
    · intro x u hbu hd
      have k49 : (Reg.Fact.partsL 2 [[], b] : Reg.Fact).P (x 49) u := hd 16 (by decide)
      obtain ⟨g49, h49, hp49⟩ := k49
      have h47 : x 47 = .bool true := hd 14 (by decide)
      refine wpOp_step rfl fun K hK => ?_
      simp only [h49, h47] at hK ⊢
      go_simp
      with_reducible refine (HS2.out _ hp49).mono ?_
      rintro e u' ⟨rfl, hb'⟩
      exact hK _ _ ⟨_, rfl, hb', fun d hd => by cases hd; exact rfl⟩
    · intro x u hbu hd
      have h47 : x 47 = .bool true := hd 14 (by decide)
      refine wpOp_step rfl fun K hK => ?_
      simp only [h47] at hK ⊢
      go_simp
      exact hK _ _ ⟨_, rfl, Below.refl _ _, fun d hd => by cases hd; exact rfl⟩
    · intro x u hbu hd
      have h50 : x 50 = .int .u32 s := hd 17 (by decide)
      have h51 : x 51 = .int .u32 s := hd 18 (by decide)
      have h47 : x 47 = .bool true := hd 14 (by decide)
      refine wpOp_step rfl fun K hK => ?_
      simp only [h50, h51, h47] at hK ⊢
      go_simp
      exact hK _ _ ⟨_, rfl, Below.refl _ _, fun d hd => by cases hd; exact congrArg Value.bool (by simp)⟩
    · intro x u hbu hd
      have h47 : x 47 = .bool true := hd 14 (by decide)
      have h52 : x 52 = .bool true := hd 19 (by decide)
      refine wpOp_step rfl fun K hK => ?_
      simp only [h47, h52] at hK ⊢
      go_simp
      exact hK _ _ ⟨_, rfl, Below.refl _ _, fun d hd => by cases hd; exact rfl⟩
    · intro x u hbu hd
      have h53 : x 53 = .bool true := hd 20 (by decide)
      refine wpOp_step rfl fun K hK => ?_
      simp only [h53] at hK ⊢
      go_simp
      exact hK _ _ ⟨_, rfl, Below.refl _ _, fun d hd => by cases hd; exact rfl⟩
    · intro x u hbu hd
      have h54 : x 54 = .bool true := hd 21 (by decide)
      refine wpOp_step rfl fun K hK => ?_
      simp only [h54] at hK ⊢
      go_simp
      exact hK _ _ ⟨_, rfl, Below.refl _ _, fun d hd => by cases hd; exact rfl⟩
    · intro x u hbu hd
      have h54 : x 54 = .bool true := hd 21 (by decide)
      refine wpOp_step rfl fun K hK => ?_
      simp only [h54] at hK ⊢
      go_simp
      exact hK _ _ ⟨_, rfl, Below.refl _ _, fun d hd => by cases hd; exact rfl⟩
    · intro x u hbu hd
      have h55 : x 55 = .slice A n c := hd 22 (by decide)
      have h56 : x 56 = .int .i64 (J : Int) := hd 23 (by decide)
      have h54 : x 54 = .bool true := hd 21 (by decide)
      refine wpOp_step rfl fun K hK => ?_
      simp only [h55, h56, h54] at hK ⊢
      go_simp
      exact hK _ _ ⟨_, rfl, Below.refl _ _, fun d hd => by cases hd; exact rfl⟩
    · intro x u hbu hd
      have h54 : x 54 = .bool true := hd 21 (by decide)
      refine wpOp_step rfl fun K hK => ?_
      simp only [h54] at hK ⊢
      go_simp
      exact hK _ _ ⟨_, rfl, Below.refl _ _, fun d hd => by cases hd; exact rfl⟩
    · intro x u hbu hd
      have h54 : x 54 = .bool true := hd 21 (by decide)
      refine wpOp_step rfl fun K hK => ?_
      simp only [h54] at hK ⊢
      go_simp
      exact hK _ _ ⟨_, rfl, Below.refl _ _, fun d hd => by cases hd; exact rfl⟩
    · intro x u hbu hd
      have h58 : x 58 = .slice A n c := hd 25 (by decide)
      have h59 : x 59 = .int .i64 (J : Int) := hd 26 (by decide)
      have h54 : x 54 = .bool true := hd 21 (by decide)
      refine wpOp_step rfl fun K hK => ?_
      simp only [h58, h59, h54] at hK ⊢
      go_simp
      exact hK _ _ ⟨_, rfl, Below.refl _ _, fun d hd => by cases hd; exact rfl⟩
    · intro x u hbu hd
      have h57 : x 57 = .slice A J c := hd 24 (by decide)
      have h60 : x 60 = .slice (cutA A c J) (n - J) (c - J) := hd 27 (by decide)
      have h54 : x 54 = .bool true := hd 21 (by decide)
      refine wpOp_step rfl fun K hK => ?_
      simp only [h57, h60, h54] at hK ⊢
      go_simp
      exact hK _ _ ⟨_, rfl, below_al (Below.refl _ _) _, fun d hd => by cases hd; exact ⟨_, rfl, partsNew u [(A, J, c, b.take J), (cutA A c J, n - J, c - J, b.drop J)] (by simp) (by simp) (by simp only [List.forall_mem_cons]; exact ⟨⟨(hxw.on hbu).head (by omega), by omega, HBT.out J⟩, ⟨(hxw.on hbu).tail (by omega) hcap, by omega, HBD.out⟩, fun _ h => by cases h⟩)⟩⟩
    · intro x u hbu hd
      have k61 : (Reg.Fact.partsL 2 [b.take J, b.drop J] : Reg.Fact).P (x 61) u := hd 28 (by decide)
      obtain ⟨g61, h61, hp61⟩ := k61
      have h54 : x 54 = .bool true := hd 21 (by decide)
      refine wpOp_step rfl fun K hK => ?_
      simp only [h61, h54] at hK ⊢
      go_simp
      with_reducible refine (HP2.out _ hp61).mono ?_
      rintro e u' ⟨gq, rfl, _, hBq, hb'⟩
      exact hK _ _ ⟨_, rfl, hb', fun d hd => by cases hd; exact ⟨_, _, rfl, hBq.lies HPL.out⟩⟩
    · intro x u hbu hd
      have h54 : x 54 = .bool true := hd 21 (by decide)
      refine wpOp_step rfl fun K hK => ?_
      simp only [h54] at hK ⊢
      go_simp
      exact hK _ _ ⟨_, rfl, Below.refl _ _, fun d hd => by cases hd; exact rfl⟩
    · intro x u hbu hd
      have h63 : x 63 = .slice A n c := hd 30 (by decide)
      have h54 : x 54 = .bool true := hd 21 (by decide)
      refine wpOp_step rfl fun K hK => ?_
      simp only [h63, h54] at hK ⊢
      go_simp
      exact hK _ _ ⟨_, rfl, below_al (Below.refl _ _) _, fun d hd => by cases hd; exact ⟨_, rfl, partsNew u [(A, n, c, b)] (by simp) (by simp) (by simp only [List.forall_mem_cons]; exact ⟨⟨(hxw.on hbu), by omega, HB.out⟩, fun _ h => by cases h⟩)⟩⟩
    · intro x u hbu hd
      have k64 : (Reg.Fact.partsL 1 [b] : Reg.Fact).P (x 64) u := hd 31 (by decide)
      obtain ⟨g64, h64, hp64⟩ := k64
      have h54 : x 54 = .bool true := hd 21 (by decide)
      refine wpOp_step rfl fun K hK => ?_
      simp only [h64, h54] at hK ⊢
      go_simp
      with_reducible refine (HP1.out _ hp64).mono ?_
      rintro e u' ⟨gq, rfl, _, hBq, hb'⟩
      exact hK _ _ ⟨_, rfl, hb', fun d hd => by cases hd; exact ⟨_, _, rfl, hBq.lies HPL.out⟩⟩
    · intro x u hbu hd
      have k62 : (Reg.Fact.list .u8 (n + 4) (putL b) : Reg.Fact).P (x 62) u := hd 29 (by decide)
      obtain ⟨A62, c62, h62, hl62⟩ := k62
      have k65 : (Reg.Fact.list .u8 (n + 4) (putL b) : Reg.Fact).P (x 65) u := hd 32 (by decide)
      obtain ⟨A65, c65, h65, hl65⟩ := k65
      have h54 : x 54 = .bool true := hd 21 (by decide)
      refine wpOp_step rfl fun K hK => ?_
      simp only [h62, h65, h54] at hK ⊢
      go_simp
      with_reducible refine (sameBytes_true _ _ _ _ _ _ _ _ _ hl62 hl65 HPB.out rfl).mono ?_
      rintro e u' ⟨rfl, rfl⟩
      exact hK _ _ ⟨_, rfl, Below.refl _ _, fun d hd => by cases hd; exact rfl⟩
    · intro x u hbu hd
      have h54 : x 54 = .bool true := hd 21 (by decide)
      have h66 : x 66 = .bool true := hd 33 (by decide)
      refine wpOp_step rfl fun K hK => ?_
      simp only [h54, h66] at hK ⊢
      go_simp
      exact hK _ _ ⟨_, rfl, Below.refl _ _, fun d hd => by cases hd; exact rfl⟩
    · intro x u hbu hd
      have h67 : x 67 = .bool true := hd 34 (by decide)
      refine wpOp_step rfl fun K hK => ?_
      simp only [h67] at hK ⊢
      go_simp
      exact hK _ _ ⟨_, rfl, Below.refl _ _, fun d hd => by cases hd; exact rfl⟩
    · intro x u hbu hd
      have h68 : x 68 = .bool true := hd 35 (by decide)
      refine wpOp_step rfl fun K hK => ?_
      simp only [h68] at hK ⊢
      go_simp
      with_reducible refine (lives_any _).mono ?_
      rintro e u' ⟨rfl, hb'⟩
      exact hK _ _ ⟨_, rfl, hb', fun d hd => by cases hd; exact rfl⟩
    · intro x u hbu hd
      have h68 : x 68 = .bool true := hd 35 (by decide)
      have h69 : x 69 = .bool true := hd 36 (by decide)
      refine wpOp_step rfl fun K hK => ?_
      simp only [h68, h69] at hK ⊢
      go_simp
      exact hK _ _ ⟨_, rfl, Below.refl _ _, fun d hd => by cases hd; exact rfl⟩
    · intro x u hbu hd
      have h70 : x 70 = .bool true := hd 37 (by decide)
      refine wpOp_step rfl fun K hK => ?_
      simp only [h70] at hK ⊢
      go_simp
      exact hK _ _ ⟨_, rfl, Below.refl _ _, fun d hd => by cases hd; exact rfl⟩
  · intro x u hbu hall
    have h4 : x 4 = .bool true := hall 38 (by decide)
    simp only [Reg.frame, Reg.over, Nat.reduceAdd, Nat.reduceBEq, Nat.reduceLeDiff, decide_true, decide_false, Bool.or_true, Bool.or_false, if_true, Bool.false_eq_true, if_false, h4]
    go_wp2_with fail
    go_ret
    exact ⟨rfl, below_then hb1 hbu⟩

theorem sumsParts.sumsParts_walk (A : Option Addr) (n c : Nat) (xs : List Int) (u v : Int) (w : World) (hx : Lies .u8 w w.heap.size A n xs) (hm : n ≤ c ∧ c ≤ maxLen) (ha : ∀ x ∈ xs, (Lit.int .u8 x).wf = true)
    (hu : (Lit.int .u16 u).wf = true) (hv : (Lit.int .u16 v).wf = true) :
    Calls Try.prog 6 #[.slice A n c, .agg #[.int .u16 u, .int .u16 v]] w fun e w' => e = .returned (.bool true) ∧ Below w.heap.size w w' := by
  by_cases h1 : n ≤ 300
  · exact parts_walk A n c xs u v w hx (fun x hx => bounds_u8 (ha x hx)) hm.1 (bounds_u16 hu).1 (bounds_u16 hv).1 (bounds_u16 hu).2 (bounds_u16 hv).2 h1
  · have hgt : (300 : Int) < (n : Int) := by omega
    have hn9 : n ≤ maxLen := by omega
    unfold maxLen at hn9
    go_enter Try.func6, Try.ntmps6
    go_wp2_with (go_at_call 8; refine (lives_any _).mono ?_; rintro e w1 ⟨rfl, hb⟩)
    go_ret
    exact ⟨rfl, below_then (below_al (Below.refl _ _) _) hb⟩
end Go.Proofs.Ytnilchcgjiachaa
