/-
  slices.AppendSeq, slices.Collect at int64, of whatever iterator (a method value with what it is bound to): a new list of all that comes. Conditions: the iterator's contract.
-/
import Derived.Test.YtcangipaoancnaaAs2
import Derived.Test.YtcangipaoancnaaApp
import Derived.Test.YtcangipaoancnaaOwF
import Derived.Test.YtcangipaoancnaaRegI
import Derived.RangeFuncNested
import Derived.RangeFuncBound
import Derived.RangeFuncCalls
import Derived.RangeFuncLeaves
import Derived.Shelf.Abstract
import Derived.Shelf.RegionOpen
import Derived.WalkKit
import Derived.OwnWalkIn
import Derived.TacticsInMore
import Derived.LoopNIn
import Derived.LoopIn
import Derived.Sort.CutIn
import Derived.Maps.AppendAt
namespace Go.Proofs.Ytcangipaoancnaa
open Go.RowKit
set_option linter.unusedVariables false
set_option linter.unusedSimpArgs false
attribute [local go_sem] Oper.semAt_some

/-- An iterator of int64: it hands xs on, one by one, and writes to blocks of its own alone. -/
def Seq64 (F : Fence) (n : Nat) (gf : FuncId) (pb : Array Value) (xs : List Int) (w : World) : Prop :=
  ∀ (l : Nat) (J : List Int → World → Prop) (W : World), Below w.heap.size w W → (∀ pre A B, J pre A → Below A.heap.size A B → J pre B) →
    (∀ (pre : List Int) (x : Int) (W1 : World), J pre W1 → pre ++ [x] <+: xs → YieldAt F (n - 1) Try.prog l #[.int .i64 x] W1 fun e W' => e = .returned (.bool true) ∧ J (pre ++ [x]) W' ∧ Below w.heap.size W1 W') →
    J [] W → CallsIn F n Try.prog gf (pb ++ #[.func (.yield l) #[] #[]]) W fun e W' => (∃ v, e = .returned v) ∧ J xs W'
set_option maxRecDepth 100000 in
theorem infoI64 : (Try.prog.info? 2).map (fun i => (i.zero, i.size, i.bytes)) = some (some (.int .i64 0), 1, 8) := by kernel_rfl
def valsI (xs : List Int) : List Value := xs.map (Value.int .i64)
theorem owns_up {W X : World} {base k : Nat} {v : Value} {xs : List Value} (h : W.ownsRow base 2 1 v k xs) (b : Below W.heap.size W X) : X.ownsRow base 2 1 v k xs := by
  rcases h.2 with ⟨hv, _⟩ | ⟨g, cap, cur, hv, _⟩
  · subst hv; obtain rfl : k = 0 := by
      have := h.1
      rcases h.2 with ⟨_, h2⟩ | ⟨g, cap, cur, hv, _⟩
      · first | exact h2 | exact h2.1
      · cases hv
    exact ownsF_on h b
  · subst hv; exact ownsF_on h b
/-- A range over a method value that is bound to something: one call of it, behind the loop's record. -/
theorem range_bound {F : Fence} {n : Nat} {P : Program} {g : Operand} {ps : Array Tmp} {assign body : Code} {Q : Exit → Act → World → Prop} {a : Act} {U : World} (hro : F.round = none) (h1n : 1 ≤ n) {gf : FuncId} {pb : Array Value} (hg : a.eval g = .func (.func gf) pb #[]) (hG : F.fn gf) (eg : ∀ args w, (callFunc gf args).run P w = .ok (.enter gf args) w)
    (h : ∀ fn, F.fn fn → ∀ (rec : Loop) (W1 : World), rec = { state := .ready, pending := none, fn := fn, tmps := a.tmps, params := ps, assign := assign, body := body, defers := U.heap.size } → Below U.heap.size U W1 → W1.heap[U.heap.size + 1]? = some (Obj.loop rec) → W1.heap[U.heap.size]? = some (Obj.deferred (some [])) →
      CallsIn F (n - 1) P gf (pb ++ #[.func (.yield (U.heap.size + 1)) #[] #[]]) W1 (rangePost F n P (U.heap.size + 1) Q { a with defers := [{ target := .collected U.heap.size, args := #[] }] ++ a.defers })) :
    (Code.rangeFunc g ps assign body).wpIn F n P Q a U := by
  refine wpIn_rangeFunc fun fn hfn => ?_
  rw [hro]
  obtain ⟨rec, hrec⟩ : ∃ rec : Loop, rec = { state := .ready, pending := none, fn := fn, tmps := a.tmps, params := ps, assign := assign, body := body, defers := U.heap.size } := ⟨_, rfl⟩
  obtain ⟨W1, hW1⟩ : ∃ W1, W1 = (U.alloc (.deferred (some []))).alloc (.loop rec) := ⟨_, rfl⟩
  refine ⟨U.heap.size + 1, [{ target := .collected U.heap.size, args := #[] }], W1, { target := .fn (.func gf) #[], args := pb ++ #[.func (.yield (U.heap.size + 1)) #[] #[]] }, W1, gf, pb ++ #[.func (.yield (U.heap.size + 1)) #[] #[]], W1, ?_, ?_, ?_, ?_, fun _ => h1n, ?_⟩
  · rw [hW1, hrec]; exact run_enterLoop_outer _ _ _ _ _
  · simp only [resolve, hg, rangeCall]
    simp [go_sem, hg]
  · intro f' hf'; simp [Target.leads] at hf'; subst hf'; exact hG
  · simp [invoke, go_sem, eg]
  · refine h fn hfn rec W1 hrec ?_ ?_ ?_
    · rw [hW1]; exact below_al (below_al (Below.refl _ U) _) _
    · rw [hW1]; have := World.alloc_heap_new (U.alloc (.deferred (some []))) (.loop rec); rwa [World.size_alloc] at this
    · rw [hW1]; exact (Below.heap_alloc _ _ _ (by simp)).trans (World.alloc_heap_new U _)
/-- The same, round by round: what the body knows (I), where the iterator is one of int64. -/
theorem range_seq {F : Fence} {n : Nat} {g : Operand} {ps : Array Tmp} {assign body : Code} {Q : Exit → Act → World → Prop} {a : Act} {U : World} (hro : F.round = none) (h1n : 1 ≤ n) {gf : FuncId} {pb : Array Value} (hg : a.eval g = .func (.func gf) pb #[]) (hG : F.fn gf) (eg : ∀ args w, (callFunc gf args).run Try.prog w = .ok (.enter gf args) w)
    {xs : List Int} {w0 : World} (hseq : Seq64 F (n - 1) gf pb xs w0) (hb0 : Below w0.heap.size w0 U) (hps : ps.size = 1)
    (I : List Int → World → Prop) (hIu : ∀ pre A B, I pre A → Below A.heap.size A B → I pre B) (hIp : ∀ pre (A : World) (o o' : Loop), I pre A → A.heap[U.heap.size + 1]? = some (Obj.loop o) → I pre (A.putObj (U.heap.size + 1) (.loop o'))) (h0 : I [] U)
    (a₁ : Int → Act)
    (hassign : ∀ (l : Nat) (x : Int) (W : World) (K : Act → World → Prop), K (a₁ x) W → assign.wpIn (F.inRound l) (n - 1 - 1) Try.prog (Exit.then K (fun _ _ _ => False)) { tmps := (ps.zip #[.int .i64 x]).foldl (fun t (p, v) => t.setIfInBounds p v) a.tmps, defers := [] } W)
    (hbody : ∀ (l : Nat) (pre : List Int) (x : Int) (W : World), I pre W → pre ++ [x] <+: xs → body.wpIn (F.inRound l) (n - 1 - 1) Try.prog (fun e _ W' => e = .normal ∧ KeepsOthers W W' ∧ Below w0.heap.size W W' ∧ I (pre ++ [x]) W') (a₁ x) W)
    (hdone : ∀ (D : Nat) (W : World), I xs W → W.heap[D]? = some (.deferred (some [])) → U.heap.size ≤ D → Q .normal { a with defers := { target := .collected D, args := #[] } :: a.defers } W) :
    (Code.rangeFunc g ps assign body).wpIn F n Try.prog Q a U := by
  refine range_bound hro h1n hg hG eg ?_
  intro fn hfn rec W1 hrec hbW hl1 hd1
  have ha : rec.assign = assign := by rw [hrec]
  have hbd : rec.body = body := by rw [hrec]
  have hf : rec.fn = fn := by rw [hrec]
  have ht : rec.tmps = a.tmps := by rw [hrec]
  have hp : rec.params = ps := by rw [hrec]
  have hst : rec.state = .ready := by rw [hrec]
  have hpe : rec.pending = none := by rw [hrec]
  have hre : { rec with state := .ready, pending := none } = rec := by rw [hrec]
  clear hrec
  refine (hseq (U.heap.size + 1) (fun pre W => I pre W ∧ W.heap[U.heap.size + 1]? = some (Obj.loop rec) ∧ W.heap[U.heap.size]? = some (Obj.deferred (some []))) W1 (below_then hb0 hbW) (fun pre A B h b => ⟨hIu _ _ _ h.1 b, (b.block _ (Array.getElem?_eq_some_iff.1 h.2.1).1).trans h.2.1, (b.block _ (Array.getElem?_eq_some_iff.1 h.2.2).1).trans h.2.2⟩) ?_ ⟨hIu _ _ _ h0 hbW, hl1, hd1⟩).mono ?_
  · rintro pre x W ⟨hi, hl, hd⟩ hpre
    have hlt : U.heap.size + 1 < W.heap.size := (Array.getElem?_eq_some_iff.1 hl).1
    have hy := run_yield (P := Try.prog) (args := #[.int .i64 x]) hl (by rw [hp, hps]; rfl)
    rw [ha, hbd, hf, ht, hp] at hy
    have h2 : ∀ o' : Obj, Below w0.heap.size W (W.putObj (U.heap.size + 1) o') := fun o' => belowK_b (w := U) hb0.size W _ _ _ (by omega) hl rfl rfl
    refine ⟨fn, _, _, _, hy, roundIn_of_wpIn hfn (hassign _ x W _ ⟨_, run_beginRound hl hst, ?_⟩)⟩
    refine wpIn_mono (hbody _ pre x _ (hIp _ _ _ _ hi hl) hpre) ?_
    rintro e a3 W3 ⟨rfl, hk3, hb3, hi3⟩
    have hl3 := hk3.same _ _ (World.putObj_heap_same hlt) rfl
    have hd3 := hk3.same _ _ ((World.putObj_heap_other (by omega)).trans hd) rfl
    have hlt3 : U.heap.size + 1 < W3.heap.size := (Array.getElem?_eq_some_iff.1 hl3).1
    have he := run_endRound (P := Try.prog) none hl3
    refine ⟨_, _, he, rfl, ⟨hIp _ _ _ _ hi3 hl3, ?_, (World.putObj_heap_other (by omega)).trans hd3⟩, ((h2 _).trans hb3).trans (belowK_b (w := U) hb0.size W3 _ _ _ (by omega) hl3 rfl rfl)⟩
    rw [World.putObj_heap_same hlt3]
    exact congrArg (fun r => some (Obj.loop r)) hre
  · rintro e W2 ⟨⟨v, rfl⟩, hi, hl, hd⟩
    have he := run_endLoop (P := Try.prog) hl (by rw [hst]; simp)
    rw [hpe] at he
    exact ⟨none, _, he, hdone _ _ (hIp _ _ _ _ hi hl) ((World.putObj_heap_other (by omega)).trans hd) (Nat.le_refl _)⟩
/-- What AppendSeq knows between two rounds. -/
def AJ (w : World) (B : Nat) (pre : List Int) (W : World) : Prop := (∃ v, Go.Boxed W B 121 v ∧ W.ownsRow w.heap.size 2 1 v pre.length (valsI pre)) ∧ Below w.heap.size w W
set_option maxRecDepth 100000 in
set_option maxHeartbeats 4000000 in
theorem appendSeq_in (F : Fence) (n : Nat) (hro : F.round = none) (hn : 3 ≤ n) (hA : F.fn 110) (gf : FuncId) (pb : Array Value) (hG : F.fn gf) (eg : ∀ args w, (callFunc gf args).run Try.prog w = .ok (.enter gf args) w) (xs : List Int) (hx : xs.length ≤ 65536) (w : World) (hseq : Seq64 F (n - 1) gf pb xs w) :
    CallsIn F n Try.prog 110 #[.slice none 0 0, .func (.func gf) pb #[]] w fun e w' => ∃ v, e = .returned v ∧ w'.ownsRow w.heap.size 2 1 v xs.length (valsI xs) ∧ Below w.heap.size w w' := by
  obtain ⟨i0, hi0, hz0, hz1, hz2⟩ := info_parts infoI64
  have h1n : 1 ≤ n := by omega
  refine callsIn_of_wp_marks Try.func110 rfl hA ?_ hro
  simp only [Try.ntmps110, List.size_toArray, List.length_cons, List.length_nil, Nat.reduceAdd, Nat.reduceSub, Array.replicate_succ, Array.replicate_zero, List.push_toArray, List.append_toArray, List.nil_append, List.cons_append]
  gi_wp2
  obtain ⟨U, hU⟩ : ∃ U, U = w.alloc (.cells #[.slice none 0 0] 121) := ⟨_, rfl⟩
  rw [← hU]
  have hUs : U.heap.size = w.heap.size + 1 := by rw [hU]; simp
  have hbx : Go.Boxed U w.heap.size 121 (.slice none 0 0) := by rw [hU]; exact Go.Boxed.new w _ _
  have hbU : Below w.heap.size w U := by rw [hU]; exact below_al (Below.refl _ w) _
  clear hU
  refine range_seq hro h1n rfl hG eg hseq hbU rfl (AJ w w.heap.size) (fun pre A B h b => ?_) (fun pre A o o' h hl => ?_) ⟨⟨_, hbx, World.ownsRow_nil _ _ _ _⟩, hbU⟩
    (fun x => { tmps := #[.slice none 0 0, .func (.func gf) pb #[], .pointer (some ⟨w.heap.size, 0, none⟩), undef, .slice none 0 0, .int .i64 x, .func (.func gf) pb #[], .int .i64 x, undef, undef, undef, undef, undef], defers := [] }) ?assign ?body ?done
  · obtain ⟨⟨v, h1, h2⟩, h3⟩ := h
    exact ⟨⟨v, (b.block _ h1.lt).trans h1, owns_up h2 b⟩, below_then h3 b⟩
  · obtain ⟨⟨v, h1, h2⟩, h3⟩ := h
    exact ⟨⟨v, (World.putObj_heap_other (by omega)).trans h1, ownsRow_putObj h2 _ hl rfl⟩, h3.trans (belowK_b (w := w) (Nat.le_refl _) A _ _ _ (by omega) hl rfl rfl)⟩
  case assign =>
    intro l x W K hK
    gi_wp2
    exact hK
  case body =>
    rintro l pre x W ⟨⟨v, hv, hrow⟩, hB⟩ hpre
    have hc := hv.cell
    have hf := hv.frozen
    have hlt := hv.lt
    have hlen : pre.length < 65536 := by have := hpre.length_le; simp at this; omega
    gi_wp2_with (gi_at_builtin; refine wpListIn_append_own _ rfl _ _ 121 rfl w.heap.size 2 i0 _ 1 8 Try.underlying121 hi0 hz0 hz1 hz2 rfl (by decide) _ _ _ rfl (hrow.alloc _) ⟨W.heap.size, 0, none⟩ 1 1 [.int .i64 x] rfl rfl (cell_one_new _ _ _) (by simp [Value.oneCell']) (by unfold maxLen; omega) (by omega) (by have := hB.size; simp; omega) ?_; intro v' w1 hown' hgrow _; obtain ⟨g', cap', rfl⟩ := ownsRow_succ hown'; obtain ⟨hv1, hv2, hr2, hk2, hb2⟩ := hv.appended (by decide) hrow hB.size (by omega) hown' hgrow; have hc1 := hv1.cell; have hf1 := hv1.frozen)
    exact ⟨⟨_, hv2, by rw [List.length_append]; simpa [valsI] using hr2⟩, hB.trans hb2⟩
  case done =>
    rintro D W ⟨⟨v, hv, hrow⟩, hB⟩ hK hD
    have hc := hv.cell
    gi_wp2
    refine ⟨by simp, .inl ⟨_, _, rfl, run_takeDeferred hK, ?_⟩⟩
    exact ⟨_, results_tmp rfl _ _ _, v, rfl, ownsRow_putObj hrow _ hK rfl, hB.trans (belowK_b (w := w) (Nat.le_refl _) W D _ _ (by omega) hK rfl rfl)⟩
end Go.Proofs.Ytcangipaoancnaa

