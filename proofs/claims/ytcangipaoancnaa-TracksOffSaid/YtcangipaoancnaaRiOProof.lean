/-
  The law TracksOff as it is stated: whatever the fault, the rows and the switches ahead, it returns true, and they read as they did. No condition.
-/
import Derived.Test.YtcangipaoancnaaOpenRo
import Derived.Test.YtcangipaoancnaaRiO
namespace Go.Proofs.Ytcangipaoancnaa.tracksOff
open Go.ChangeShapes Go.WideShapes Go.ChangeAt Go.RowKit
set_option linter.unusedVariables false

theorem bounds16 {x : Int} (h : (Lit.int .u16 x).wf = true) : 0 ≤ x ∧ x < 65536 := by
  have := bounds_u16 h
  omega
theorem lies_z {W : World} {a : Option Addr} {n : Nat} {xs : List Int} (l : Lies .u16 W W.heap.size a n xs) (f : ∀ x ∈ xs, (Lit.int .u16 x).wf = true) : LiesZ W a n (fun j => (xs.getD j 0).toNat) ∧ ∀ j, j < n → (xs.getD j 0).toNat < 65536 := by
  have hb : ∀ j, j < n → 0 ≤ xs.getD j 0 ∧ xs.getD j 0 < 65536 := fun j hj => by
    have hj' : j < xs.length := by rw [l.1]; exact hj
    have e : xs.getD j 0 = xs[j] := by rw [List.getD_eq_getElem?_getD, List.getElem?_eq_getElem hj']; rfl
    rw [e]
    exact bounds16 (f _ (List.getElem_mem hj'))
  refine ⟨fun h0 => ?_, fun j hj => by have := hb j hj; omega⟩
  obtain ⟨b, off, e, h1, h2⟩ := l.2 h0
  refine ⟨b, off, e, h1, fun j hj => ?_⟩
  show W.cell? ⟨b, off + j, none⟩ = some (.int .u16 (((xs.getD j 0).toNat : Nat) : Int))
  rw [h2 j hj, show (((xs.getD j 0).toNat : Nat) : Int) = xs.getD j 0 from Int.toNat_of_nonneg (hb j hj).1]
set_option maxRecDepth 100000 in
set_option maxHeartbeats 2000000 in
theorem lifted (os : Os) (started : os.Started) (H : Type) (enc : TypeId × Value → H) :
    ReturnsInHanded {} Try.checked os 5 .any (Rows.tracksOffSpec.pre6 enc Try.prog Try.f5 Rows.tracksOffRow.domain false) (Rows.tracksOffSpec.post enc Try.prog Try.f5 false true false false) := by
  refine returnsInHanded_of_change (C := Try.checked) own started (by kernel_rfl) Try.func5
    (ChangeSpec.witness6 (enc := enc) (C := Try.checked) false ⟨#[], #[.agg #[.bool false, .int .u8 0, .int .u8 0, .slice none 0 0], .slice none 0 0, .slice none 0 0], []⟩ 8 (by kernel_rfl) (by kernel_rfl) (by kernel_rfl) (by kernel_rfl)) ?_
  intro W base args ds gs before hval0 hW hcnd _
  have hval : ∀ (j : Nat) t v, Try.f5.params[j]? = some t → args[j]? = some v → Value.okWide Try.prog W .any base t v := hval0
  have hW' := hW
  obtain ⟨p, q, hA0, hV, rfl, hfz, hnd⟩ := hW
  have hA : DataW.TrodAll enc Try.prog W 0 (fun _ => true) true Try.f5.params.toList args.toList ds p := hA0
  rw [Try.params5] at hA hval
  obtain ⟨v0, vs0, d0, ds0, p0, q0, hargs, rfl, rfl, h0, r0⟩ := trodAll_cons hA
  obtain ⟨v1, vs1, d1, ds1, p1, q1, rfl, rfl, rfl, h1, r1⟩ := trodAll_cons r0
  obtain ⟨v2, vs2, d2, ds2, p2, q2, rfl, rfl, rfl, h2, r2⟩ := trodAll_cons r1
  obtain ⟨rfl, rfl, rfl⟩ := trodAll_nil r2
  obtain rfl : args = #[v0, v1, v2] := by cases args; simp_all
  obtain ⟨rfl, rfl⟩ := trodVars_none hV
  have k0 := h0
  have lt0 : ∀ x ∈ p0, x.block < W.heap.size := by obtain ⟨m, hm⟩ := k0; exact DataW.trod_lt m _ _ _ hm
  have k1 := h1
  have lt1 : ∀ x ∈ p1, x.block < W.heap.size := by obtain ⟨m, hm⟩ := k1; exact DataW.trod_lt m _ _ _ hm
  have k2 := h2
  have lt2 : ∀ x ∈ p2, x.block < W.heap.size := by obtain ⟨m, hm⟩ := k2; exact DataW.trod_lt m _ _ _ hm
  obtain ⟨xf0, rfl, t0⟩ := open_fault (hval 0 83 v0 rfl rfl) h0
  obtain ⟨A1, n1, c1, R1, rfl, t1⟩ := open_rowsP (hval 1 32 v1 rfl rfl) h1
  obtain ⟨a2, n2, c2, xs2, rfl, l2, m2, f2⟩ := open_list Try.underlying94 Try.underlying45 (by kernel_rfl) (hval 2 94 v2 rfl rfl) h2
  clear hA0 hval0
  refine (tracksOff_walk xf0 A1 n1 c1 R1 a2 n2 c2 (fun j => (xs2.getD j 0).toNat) W t0 t1.r t1.k (lies_z l2 f2).1 (lies_z l2 f2).2 (by have := m2; unfold maxLen at this; omega)).mono fun e W' ⟨he, bel⟩ => ?_
  subst he
  exact ⟨_, rfl, _, _, _, [], _, [], hW', trodAll_mk1 (shut_bool Try.underlying4 _), (trodAll_cons_mk (Below.trod laidOut (by kernel_rfl) (of_decide_eq_true (by kernel_rfl)) k0 bel lt0) (trodAll_cons_mk (Below.trod laidOut (by kernel_rfl) (of_decide_eq_true (by kernel_rfl)) k1 bel lt1) (trodAll_cons_mk (Below.trod laidOut (by kernel_rfl) (of_decide_eq_true (by kernel_rfl)) k2 bel lt2) trodAll_mk0))), rfl, bel.frame _, fun h => by cases h⟩

theorem proved : Rows.TracksOffSaid :=
  OpenClaim.holds_of_wide 5 Try.f5 rfl rfl rfl rfl rfl rfl rfl ⟨rfl, rfl, rfl, rfl, rfl⟩ rfl rfl rfl rfl rfl (by kernel_rfl) Try.func5 (by kernel_rfl)
    (of_decide_eq_true (by kernel_rfl)) (by unfold Func.isWrapper; first | (rw [if_pos (by decide +kernel)]; kernel_rfl) | (rw [if_neg (by decide +kernel)]; exact ⟨rfl, rfl⟩))
    (fun os started H enc _ => lifted os started H enc)
#print axioms proved
end Go.Proofs.Ytcangipaoancnaa.tracksOff

