/-
  The contracts of package words' Norm and of what it calls. Conditions: the rows' reading, their tables' lengths.
-/
import Derived.Test.YtmmgbhdjjejacaaWd6
import Derived.Test.YtmmgbhdjjejacaaReg8
namespace Go.Proofs.Ytmmgbhdjjejacaa
open Go.RowKit
set_option linter.unusedVariables false

def Reg.FactK.plr {B : Nat} {S : List Nat} {Js : List (World → Prop)} (lo : Nat) (r : Ro) (hS : ∀ s ∈ S, s < lo) : Reg.FactK (Reg.KJ B S Js) := ⟨fun v w => ∃ L : List Value, v = .agg L.toArray ∧ RowO w lo r L, fun _ _ _ hb h => by
  obtain ⟨L, e, A, p, eL, h⟩ := h
  refine ⟨L, e, A, p, eL, ?_⟩
  rcases h with h | ⟨g, h1, h2, h3, h4⟩
  · exact .inl h
  · exact .inr ⟨g, h1, h2, h3, hb.blk (fun hm => by have := hS g hm; omega) h4⟩⟩
/-- 57 cells lie there; a row's do. -/
def rowJ (g O : Nat) (T : TypeId) (A Z : List Value) (u : World) : Prop := ∃ X : List Value, X.length = 57 ∧ PIn u g O T A Z X
def rowD (g O : Nat) (T : TypeId) (A Z : List Value) (lo : Nat) (r : Ro) (u : World) : Prop := ∃ L : List Value, RowO u lo r L ∧ PIn u g O T A Z L
theorem rowD.j {g O : Nat} {T : TypeId} {A Z : List Value} {lo : Nat} {r : Ro} {u : World} (h : rowD g O T A Z lo r u) : rowJ g O T A Z u := by
  obtain ⟨L, h1, h2⟩ := h
  exact ⟨L, h1.len, h2⟩
theorem rowJ.on {g O : Nat} {T : TypeId} {A Z : List Value} {u u' : World} (h : rowJ g O T A Z u) (hb : Below u.heap.size u u') : rowJ g O T A Z u' := by
  obtain ⟨X, h1, h2⟩ := h
  exact ⟨X, h1, h2.on hb⟩
theorem rowD.on {g O : Nat} {T : TypeId} {A Z : List Value} {lo : Nat} {r : Ro} {u u' : World} (h : rowD g O T A Z lo r u) (hb : Below u.heap.size u u') : rowD g O T A Z lo r u' := by
  obtain ⟨X, h1, h2⟩ := h
  exact ⟨X, h1.on hb, h2.on hb⟩
theorem LiesH.drew {w : World} {n : Nat} {A : Option Addr} {T : Nat → He} (h : LiesH w w.heap.size A n T) : LiesH w.drew w.drew.heap.size A n T := h
theorem PIn.store {w u : World} {g O : Nat} {T : TypeId} {A Z L : List Value} {b : Bool} {c : Ce} {B : Option Addr} {m p : Nat} (h : PIn w g O T A Z (roL b c B m p)) (hb : Below w.heap.size w u) (hL : L.length = 57) (h1 : ∀ v ∈ L, v.oneCell' = true) :
    (Instr.storeAt 54 (.pointer (some ⟨g, O, none⟩)) (.agg L.toArray)).run Try.prog u = .ok () (u.setCells g O L) := by
  have hu := h.on hb
  simp only [Instr.storeAt, Instr.sureAddr, Sem.run_bind, Sem.run_pure, Result.andThen]
  refine run_storeVar_mid u g O _ L.toArray (fun j hj => ?_) (by rw [size_row]; simp [hL]) (all_oneCell_toArray h1)
  have hj' : j < (roL b c B m p).length := by rw [roL_len]; simp at hj; omega
  exact ⟨by rw [hu.cell j hj', List.getElem?_eq_getElem hj']; rfl, hu.frozen _⟩
theorem PIn.drew {w : World} {g O : Nat} {T : TypeId} {A Z L : List Value} (h : PIn w g O T A Z L) : PIn w.drew g O T A Z L := ⟨h.blk, h.len⟩
def rowX (g O : Nat) (T : TypeId) (A Z L : List Value) (u : World) : Prop := PIn u g O T A Z L
set_option maxRecDepth 100000 in
set_option maxHeartbeats 4000000 in
theorem norm1_is (n : Nat) (hn : n ≤ 16) (r : Rw) (nb g O : Nat) (T : TypeId) (A Z : List Value) (w : World) (hp : PIn w g O T A Z r.l) (hnb : w.cell? ⟨nb, 0, none⟩ = some (.int .i64 (n : Int))) (hne : nb < g) (hT : LiesH w g r.A r.n r.T) :
    Calls Try.prog 52 #[.pointer (some ⟨g, O, none⟩), .pointer (some ⟨nb, 0, none⟩)] w fun e w' => e = .returned (.tuple #[]) ∧ rowD g O T A Z w.heap.size (plR n r.ro) w' ∧ But g w w' := by
  have HN := Lib.hid hn
  have HT := Lib.hid hT
  have HNB := Lib.hid hnb
  have HP := Lib.hid hp
  have HNE := Lib.hid hne
  have HLT := Lib.hid hp.lt
  have HJ0 : Hid (rowJ g O T A Z w) := Lib.hid ⟨_, roL_len _ _ _ _ _, hp⟩
  have HPL := Lib.hid (plain_any n hn r)
  have HJ : Hid (∀ J ∈ [rowJ g O T A Z, rowD g O T A Z w.heap.size (plR n r.ro)], ∀ u u', Below u.heap.size u u' → J u → J u') := Lib.hid (by simp only [List.forall_mem_cons]; exact ⟨fun _ _ hb h => h.on hb, fun _ _ hb h => h.on hb, fun _ h => by cases h⟩)
  clear hT hnb hn hne hp
  go_enter Try.func52, Try.ntmps52
  go_wp2_with fail
  have HNL := Lib.hid (show nb < w.heap.size by have := HNE.out; have := HLT.out; omega)
  refine Reg.wp_slots8 7 [0, 1, 2, 3, 4, 5, 6, 7] (by kernel_rfl) (fun u => PIn u g O T A Z r.l) HP.out.drew (fun t => decide (3 ≤ t)) (Reg.KJ g [g] [rowJ g O T A Z, rowD g O T A Z w.heap.size (plR n r.ro)]) (Reg.KJ.drew _ HJ.out) Reg.KJ.trans (by kernel_rfl) (by kernel_rfl) (by kernel_rfl) (fun zz => (Reg.tblK [
    (3, .is (.pointer (some ⟨g, O, none⟩))),
    (4, .is (.int .i64 (n : Int))),
    (5, .is (.pointer (some ⟨g, O, none⟩))),
    (6, .is (.pointer (some ⟨g, O, none⟩))),
    (7, .is (.agg r.l.toArray)),
    (8, .plr w.heap.size (plR n r.ro) (by simpa using HLT.out)),
    (9, .is (.pointer (some ⟨g, O, none⟩)))] zz).P) (fun zz => (Reg.tblK _ zz).on) (fun zz => (Reg.memK [(7, .j (rowD g O T A Z w.heap.size (plR n r.ro)) (by simp))] zz).P) (fun zz => (Reg.memK _ zz).on) ?_ ?_
  · simp only [Reg.frame, Reg.over, Nat.reduceAdd, Nat.reduceLeDiff, decide_true, decide_false, if_true, Bool.false_eq_true, if_false]
    refine ⟨?_, ?_, ?_, ?_, ?_, ?_, ?_, ?_, trivial⟩
    · intro x u hku hd hpr0
      have hpr : (fun u => PIn u g O T A Z r.l : World → Prop) u := hpr0 (by decide)
      refine wpOp_step rfl fun KK hK => ?_
      go_simp
      exact hK _ _ ⟨_, rfl, Reg.KJ.refl _, fun d hd => by cases hd; exact rfl, (fun h => by cases h), fun _ hp => hp⟩
    · intro x u hku hd hpr0
      have hpr : (fun u => PIn u g O T A Z r.l : World → Prop) u := hpr0 (by decide)
      refine wpOp_step rfl fun KK hK => ?_
      have hlt4 : nb < u.heap.size := Nat.lt_of_lt_of_le HNL.out hku.size
      have hc4 := (hku.below.cell (p := ⟨nb, 0, none⟩) HNE.out).trans HNB.out
      go_simp
      exact hK _ _ ⟨_, rfl, Reg.KJ.refl _, fun d hd => by cases hd; exact rfl, (fun h => by cases h), fun _ hp => hp⟩
    · intro x u hku hd hpr0
      have hpr : (fun u => PIn u g O T A Z r.l : World → Prop) u := hpr0 (by decide)
      refine wpOp_step rfl fun KK hK => ?_
      go_simp
      exact hK _ _ ⟨_, rfl, Reg.KJ.refl _, fun d hd => by cases hd; exact rfl, (fun h => by cases h), fun _ hp => hp⟩
    · intro x u hku hd hpr0
      have hpr : (fun u => PIn u g O T A Z r.l : World → Prop) u := hpr0 (by decide)
      have h5 : x 5 = .pointer (some ⟨g, O, none⟩) := hd 2 (by decide)
      refine wpOp_step rfl fun KK hK => ?_
      simp only [h5] at hK ⊢
      go_simp
      exact hK _ _ ⟨_, rfl, Reg.KJ.refl _, fun d hd => by cases hd; exact rfl, (fun h => by cases h), fun _ hp => hp⟩
    · intro x u hku hd hpr0
      have hpr : (fun u => PIn u g O T A Z r.l : World → Prop) u := hpr0 (by decide)
      have h6 : x 6 = .pointer (some ⟨g, O, none⟩) := hd 3 (by decide)
      refine wpOp_step rfl fun KK hK => ?_
      refine Reg.step_load_mid (by rfl) 54 (.tmp 6) (by rfl) g O (by exact h6) r.l (PIn.range hpr) _ Try.underlying54 rfl (by rw [size_row]; exact congrArg some (roL_len _ _ _ _ _).symm) ?_
      exact hK _ _ ⟨_, rfl, Reg.KJ.refl _, fun d hd => by cases hd; exact rfl, (fun h => by cases h), fun _ hp => hp⟩
    · intro x u hku hd hpr0
      have hpr : (fun u => PIn u g O T A Z r.l : World → Prop) u := hpr0 (by decide)
      have h4 : x 4 = .int .i64 (n : Int) := hd 1 (by decide)
      have h7 : x 7 = .agg r.l.toArray := hd 4 (by decide)
      refine wpOp_step rfl fun KK hK => ?_
      simp only [h4, h7] at hK ⊢
      go_simp
      (with_reducible refine (HPL.out _ ((HT.out.low hku.below).up (Nat.le_of_lt (Nat.lt_of_lt_of_le HLT.out hku.size)))).mono ?_)
      rintro e u' ⟨L, rfl, hR', hb'⟩
      exact hK _ _ ⟨_, rfl, Reg.KJ.grow HJ.out (Nat.le_trans (Nat.le_of_lt HLT.out) hku.size) hb', fun d hd => by cases hd; exact ⟨L, rfl, hR'.mono hku.size⟩, (fun h => by cases h), fun _ hp => PIn.on hp hb'⟩
    · intro x u hku hd hpr0
      have hpr : (fun u => PIn u g O T A Z r.l : World → Prop) u := hpr0 (by decide)
      have h3 : x 3 = .pointer (some ⟨g, O, none⟩) := hd 0 (by decide)
      refine wpOp_step rfl fun KK hK => ?_
      simp only [h3] at hK ⊢
      go_simp
      exact hK _ _ ⟨_, rfl, Reg.KJ.refl _, fun d hd => by cases hd; exact rfl, (fun h => by cases h), fun _ hp => hp⟩
    · intro x u hku hd hpr0
      have hpr : (fun u => PIn u g O T A Z r.l : World → Prop) u := hpr0 (by decide)
      have h9 : x 9 = .pointer (some ⟨g, O, none⟩) := hd 6 (by decide)
      have k8 : (Reg.FactK.plr w.heap.size (plR n r.ro) (by simpa using HLT.out) : Reg.FactK (Reg.KJ g [g] [rowJ g O T A Z, rowD g O T A Z w.heap.size (plR n r.ro)])).P (x 8) u := hd 5 (by decide)
      obtain ⟨L8, h8, hR8⟩ := k8
      refine wpOp_step rfl fun KK hK => ?_
      obtain ⟨X, hX, hXB⟩ := hku.j (rowJ g O T A Z) (by simp) HJ0.out
      obtain ⟨q1, q2⟩ := hXB.put L8 (by rw [hR8.len, hX])
      have hfin : rowD g O T A Z w.heap.size (plR n r.ro) (u.setCells g O L8) := ⟨L8, hR8.but q2 HLT.out, q1⟩
      refine Reg.step_store_mid (by rfl) 54 (.tmp 9) (.tmp 8) (by rfl) g O L8 X A Z T (by exact h9) (by exact h8) hXB.blk (by rw [hR8.len, hX]) hXB.len (by rw [size_row, hR8.len]) hR8.one ?_
      exact hK _ _ ⟨undef, rfl, Reg.KJ.but q2 (Nat.le_refl _) (by simp only [List.forall_mem_cons]; exact ⟨fun _ => hfin.j, fun _ => hfin, fun _ h => by cases h⟩), (fun d hd => by cases hd), (fun _ => hfin), fun h => absurd rfl h⟩
  · intro x u hku hd
    have hfin : rowD g O T A Z w.heap.size (plR n r.ro) u := hd 7 (by decide)
    simp only [Reg.frame, Reg.over, Nat.reduceAdd, Nat.reduceLeDiff, decide_true, decide_false, if_true, Bool.false_eq_true, if_false]
    go_end0
    exact ⟨rfl, hfin, hku.below, fun b hb hne => hku.2.1 b hb (by simpa using hne)⟩
end Go.Proofs.Ytmmgbhdjjejacaa

