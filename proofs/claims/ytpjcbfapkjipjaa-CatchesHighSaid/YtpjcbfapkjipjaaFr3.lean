/-
  The contract of frames.Put: the frame's bytes, in new memory without room behind; ErrArg and nothing, if it may not be. Conditions: the frame's numbers are of their kinds.
-/
import Derived.Test.YtpjcbfapkjipjaaFr2
import Derived.Test.YtpjcbfapkjipjaaSumPart
namespace Go.Proofs.Ytpjcbfapkjipjaa
open Go.RowKit Crc

theorem three3 {α : Type} {P : α → Prop} {a b c : α} (ha : P a) (hb : P b) (hc : P c) : ∀ p ∈ [a, b, c], P p := by
  simp only [List.forall_mem_cons]
  exact ⟨ha, hb, hc, fun _ h => by cases h⟩
theorem Fr.head_bd {f : Fr} (h : f.Fit) (hm : mayB f.o f.k = true) : ∀ x ∈ [16 * f.k + f.o, f.s], 0 ≤ x ∧ x ≤ 255 := by
  have h1 := (mayB_iff _ _).1 hm
  have := h.s0
  have := h.s1
  simp only [List.forall_mem_cons]
  exact ⟨by omega, by omega, fun _ h => by cases h⟩
theorem Fr.body_bd {f : Fr} (h : f.Fit) (hm : mayB f.o f.k = true) : ∀ x ∈ f.body, 0 ≤ x ∧ x ≤ 255 := by
  intro x hx
  rcases List.mem_append.1 hx with h1 | h1
  · rcases List.mem_append.1 h1 with h2 | h2
    · exact Fr.head_bd h hm x h2
    · exact four_bd _ h.q0 h.q1 x h2
  · exact four_bd _ h.v0 h.v1 x h1

theorem frPut_no (f : Fr) (w : World) (hm : mayB f.o f.k = false) :
    Calls Try.prog 47 #[.agg #[.int .i64 f.o, .int .u8 f.k, .int .u8 f.s, .int .u32 f.q, .int .u32 f.v]] w fun e w' => e = .returned (.tuple #[.slice none 0 0, .int .i64 1]) ∧ Below w.heap.size w w' := by
  have HM := Lib.hid (fun u => mayBe_any f u)
  rw [hm] at HM
  clear hm
  go_enter Try.func47, Try.ntmps47
  go_wp2_with (go_at_call 46; (with_reducible refine (HM.out _).mono ?_); rintro e w1 ⟨rfl, hb1⟩)
  go_ret2
  exact ⟨rfl, below_then (below_al (Below.refl _ _) _) hb1⟩

set_option maxRecDepth 100000 in
theorem frPut_yes (f : Fr) (w : World) (hf : f.Fit) (hm : mayB f.o f.k = true) :
    Calls Try.prog 47 #[.agg #[.int .i64 f.o, .int .u8 f.k, .int .u8 f.s, .int .u32 f.q, .int .u32 f.v]] w fun e w' => ∃ g, e = .returned (.tuple #[.slice (some ⟨g, 0, none⟩) 14 14, .int .i64 0]) ∧ w.heap.size ≤ g ∧ Blk w' g 5 (cellsOf .u8 (putL f.body)) ∧ Below w.heap.size w w' := by
  have HM := Lib.hid (fun u => mayBe_any f u)
  rw [hm] at HM
  have HHB := Lib.hid (Fr.head_bd hf hm)
  have HQB := Lib.hid (four_bd _ hf.q0 hf.q1)
  have HVB := Lib.hid (four_bd _ hf.v0 hf.v1)
  have q0 := hf.q0
  have q1 := hf.q1
  have v0 := hf.v0
  have v1 := hf.v1
  obtain ⟨h0, h1, h2⟩ := (mayB_iff _ _).1 hm
  have HBL := Lib.hid (show f.body = [[16 * f.k + f.o, f.s], four f.q, four f.v].flatten by simp [Fr.body])
  obtain ⟨L, hL⟩ : ∃ L, L = f.body := ⟨_, rfl⟩
  rw [← hL] at HBL ⊢
  obtain ⟨o, k, s, q, v⟩ := f
  simp only at h0 h1 h2 q0 q1 v0 v1 HBL HHB HQB HVB
  have hk1 : 1 ≤ k := by omega
  have hk2 : k ≤ 2 := by omega
  clear hL hf hm h2
  go_enter Try.func47, Try.ntmps47
  have hF := Blk.new w 42 #[.int .i64 o, .int .u8 k, .int .u8 s, .int .u32 q, .int .u32 v]
  go_wp2_with (first
    | (go_at_call 46; (with_reducible refine (HM.out _).mono ?_); rintro e w1 ⟨rfl, hb1⟩; have hF1 := hF.on hb1; have c0 := hF1.cell 0; have c1 := hF1.cell 1; have c2 := hF1.cell 2; simp only [List.getElem?_toArray, List.getElem?_cons_zero, List.getElem?_cons_succ] at c0 c1 c2; have hlt := hF1.lt))
  have HF := Lib.hid (hF1.alloc (.cells #[.int .u8 (16 * k + o), .int .u8 s] 5))
  have HH := Lib.hid (show Blk (w1.alloc (.cells #[.int .u8 (16 * k + o), .int .u8 s] 5)) w1.heap.size 5 (cellsOf .u8 [16 * k + o, s]) from Blk.new _ _ _)
  have hbw := below_al (below_then (below_al (Below.refl _ _) _) hb1) (.cells #[.int .u8 (16 * k + o), .int .u8 s] 5)
  have HZ := Lib.hid hbw.size
  have HBW := Lib.hid hbw
  clear hF hF1 c0 c1 c2 hb1 hbw HM
  refine Reg.wp_slots (fun t => t == 2 || t == 3 || decide (20 ≤ t)) (by kernel_rfl) (by kernel_rfl) (by kernel_rfl) (fun zz => (Reg.tbl [
    (20, .is (.slice (some ⟨w1.heap.size, 0, none⟩) 2 2)),
    (21, .is (.pointer (some ⟨w.heap.size, 1, none⟩))),
    (22, .is (.pointer (some ⟨w.heap.size, 3, none⟩))),
    (23, .is (.int .u32 q)),
    (24, .blk 5 .u8 4 (four q) w.heap.size),
    (25, .is (.pointer (some ⟨w.heap.size, 1, none⟩))),
    (26, .is (.pointer (some ⟨w.heap.size, 4, none⟩))),
    (27, .is (.int .u32 v)),
    (28, .blk 5 .u8 4 (four v) w.heap.size),
    (29, .partsL 3 [[16 * k + o, s], four q, four v]),
    (30, .blk 5 .u8 14 (putL L) w.heap.size),
    (2, .blk 5 .u8 14 (putL L) w.heap.size),
    (3, .is (.int .i64 0))] zz).P) (fun zz => (Reg.tbl _ zz).on) ?_ ?_
  · simp only [Reg.frame, Reg.over, Nat.reduceAdd, Nat.reduceBEq, Nat.reduceLeDiff, decide_true, decide_false, Bool.or_true, Bool.or_false, if_true, Bool.false_eq_true, if_false]
    refine ⟨?_, ?_, ?_, ?_, ?_, ?_, ?_, ?_, ?_, ?_, ?_, ?_, ?_, trivial⟩
    · intro x u hbu hd
      refine wpOp_step rfl fun K hK => ?_
      go_simp
      exact hK _ _ ⟨_, rfl, Below.refl _ _, fun d hd => by cases hd; exact rfl⟩
    · intro x u hbu hd
      refine wpOp_step rfl fun K hK => ?_
      go_simp
      exact hK _ _ ⟨_, rfl, Below.refl _ _, fun d hd => by cases hd; exact rfl⟩
    · intro x u hbu hd
      have h21 : x 21 = .pointer (some ⟨w.heap.size, 1, none⟩) := hd 1 (by decide)
      refine wpOp_step rfl fun K hK => ?_
      simp only [h21] at hK ⊢
      go_simp
      exact hK _ _ ⟨_, rfl, Below.refl _ _, fun d hd => by cases hd; exact rfl⟩
    · intro x u hbu hd
      have h22 : x 22 = .pointer (some ⟨w.heap.size, 3, none⟩) := hd 2 (by decide)
      have c3 := (HF.out.on hbu).cell 3
      have hlt := (HF.out.on hbu).lt
      refine wpOp_step rfl fun K hK => ?_
      simp only [h22] at hK ⊢
      go_simp
      exact hK _ _ ⟨_, rfl, Below.refl _ _, fun d hd => by cases hd; exact rfl⟩
    · intro x u hbu hd
      have h23 : x 23 = .int .u32 q := hd 3 (by decide)
      refine wpOp_step rfl fun K hK => ?_
      simp only [h23] at hK ⊢
      go_simp
      with_reducible refine (fourBytes_any q _ q0 q1).mono ?_
      rintro e u' ⟨rfl, rfl⟩
      exact hK _ _ ⟨_, rfl, below_al (Below.refl _ _) _, fun d hd => by cases hd; exact ⟨_, rfl, Nat.le_trans HZ.out hbu.size, Blk.new _ _ _⟩⟩
    · intro x u hbu hd
      refine wpOp_step rfl fun K hK => ?_
      go_simp
      exact hK _ _ ⟨_, rfl, Below.refl _ _, fun d hd => by cases hd; exact rfl⟩
    · intro x u hbu hd
      have h25 : x 25 = .pointer (some ⟨w.heap.size, 1, none⟩) := hd 5 (by decide)
      refine wpOp_step rfl fun K hK => ?_
      simp only [h25] at hK ⊢
      go_simp
      exact hK _ _ ⟨_, rfl, Below.refl _ _, fun d hd => by cases hd; exact rfl⟩
    · intro x u hbu hd
      have h26 : x 26 = .pointer (some ⟨w.heap.size, 4, none⟩) := hd 6 (by decide)
      have c4 := (HF.out.on hbu).cell 4
      have hlt := (HF.out.on hbu).lt
      refine wpOp_step rfl fun K hK => ?_
      simp only [h26] at hK ⊢
      go_simp
      exact hK _ _ ⟨_, rfl, Below.refl _ _, fun d hd => by cases hd; exact rfl⟩
    · intro x u hbu hd
      have h27 : x 27 = .int .u32 v := hd 7 (by decide)
      refine wpOp_step rfl fun K hK => ?_
      simp only [h27] at hK ⊢
      go_simp
      with_reducible refine (fourBytes_any v _ v0 v1).mono ?_
      rintro e u' ⟨rfl, rfl⟩
      exact hK _ _ ⟨_, rfl, below_al (Below.refl _ _) _, fun d hd => by cases hd; exact ⟨_, rfl, Nat.le_trans HZ.out hbu.size, Blk.new _ _ _⟩⟩
    · intro x u hbu hd
      have h20 : x 20 = .slice (some ⟨w1.heap.size, 0, none⟩) 2 2 := hd 0 (by decide)
      have k24 : (Reg.Fact.blk 5 .u8 4 (four q) w.heap.size : Reg.Fact).P (x 24) u := hd 4 (by decide)
      obtain ⟨g24, h24, hg24, hB24⟩ := k24
      have k28 : (Reg.Fact.blk 5 .u8 4 (four v) w.heap.size : Reg.Fact).P (x 28) u := hd 8 (by decide)
      obtain ⟨g28, h28, hg28, hB28⟩ := k28
      refine wpOp_step rfl fun K hK => ?_
      simp only [h20, h24, h28] at hK ⊢
      go_simp
      exact hK _ _ ⟨_, rfl, below_al (Below.refl _ _) _, fun d hd => by cases hd; exact ⟨_, rfl, partsNew u [(some ⟨w1.heap.size, 0, none⟩, 2, 2, [16 * k + o, s]), (some ⟨g24, 0, none⟩, 4, 4, four q), (some ⟨g28, 0, none⟩, 4, 4, four v)] rfl (by omega) (three3 ⟨((HH.out.on hbu).lies rfl), (by decide : 2 ≤ 65536), HHB.out⟩ ⟨hB24.lies rfl, (by decide : 4 ≤ 65536), HQB.out⟩ ⟨hB28.lies rfl, (by decide : 4 ≤ 65536), HVB.out⟩)⟩⟩
    · intro x u hbu hd
      have k29 : (Reg.Fact.partsL 3 [[16 * k + o, s], four q, four v] : Reg.Fact).P (x 29) u := hd 9 (by decide)
      obtain ⟨g29, h29, hp29⟩ := k29
      refine wpOp_step rfl fun K hK => ?_
      simp only [h29] at hK ⊢
      go_simp
      with_reducible refine (sumPut_all _ _ _ _ hp29).mono ?_
      rintro e u' ⟨g, rfl, hg, hB, hb'⟩
      exact hK _ _ ⟨_, rfl, hb', fun d hd => by cases hd; exact ⟨g, rfl, Nat.le_trans (Nat.le_trans HZ.out hbu.size) hg, by rw [HBL.out]; exact hB⟩⟩
    · intro x u hbu hd
      have k30 : (Reg.Fact.blk 5 .u8 14 (putL L) w.heap.size : Reg.Fact).P (x 30) u := hd 10 (by decide)
      obtain ⟨g30, h30, hg30, hB30⟩ := k30
      refine wpOp_step rfl fun K hK => ?_
      simp only [h30] at hK ⊢
      go_simp
      exact hK _ _ ⟨_, rfl, Below.refl _ _, fun d hd => by cases hd; exact ⟨g30, rfl, hg30, hB30⟩⟩
    · intro x u hbu hd
      refine wpOp_step rfl fun K hK => ?_
      go_simp
      exact hK _ _ ⟨_, rfl, Below.refl _ _, fun d hd => by cases hd; exact rfl⟩
  · intro x u hbu hall
    have k2 : (Reg.Fact.blk 5 .u8 14 (putL L) w.heap.size).P (x 2) u := hall 11 (by decide)
    have h3 : x 3 = .int .i64 0 := hall 12 (by decide)
    obtain ⟨g, h2, hg, hB⟩ := k2
    simp only [Reg.frame, Reg.over, Nat.reduceAdd, Nat.reduceBEq, Nat.reduceLeDiff, decide_true, decide_false, Bool.or_true, Bool.or_false, if_true, Bool.false_eq_true, if_false, h2, h3]
    go_wp2_with fail
    go_ret2
    exact ⟨g, rfl, hg, hB, below_then HBW.out hbu⟩
end Go.Proofs.Ytpjcbfapkjipjaa
