/-
  Cells as a map's keys: what may stand in a cell, and that such a one is a key. Conditions: the cell's numbers are such as their kinds may be.
-/
import Derived.Test.YtdbljggjddnjcaaWdM
import Derived.Test.YtdbljggjddnjcaaOpen
import Derived.Maps.Keyed
import Derived.DeepKeys4
namespace Go.Proofs.Ytdbljggjddnjcaa
open Go.RowKit
set_option linter.unusedVariables false
set_option linter.unusedSimpArgs false

def nuW (k : IntKind) (x : Vector Int 8) : Prop := ∀ i, (h : i < 8) → (Lit.int k x[i]).wf = true
def SaW (s : Sa) : Prop := (Lit.int .i64 s.a).wf = true ∧ (Lit.int .u8 s.k).wf = true ∧ (Lit.int .u8 s.s).wf = true ∧ (Lit.int .u32 s.q).wf = true ∧ (Lit.int .u32 s.v).wf = true
def VwW (v : Vw) : Prop := nuW .u8 v.m ∧ nuW .u8 v.g ∧ nuW .u16 v.s ∧ (Lit.int .i8 v.c).wf = true ∧ (Lit.int .u8 v.d).wf = true
/-- The numbers of a cell are such as their kinds may be. -/
def CeW (c : Ce) : Prop := (Lit.int .i64 c.a).wf = true ∧ SaW c.o ∧ SaW c.r ∧ VwW c.v
theorem mapM_some {α β : Type} (f : α → Option β) : ∀ l : List α, (∀ a ∈ l, ∃ b, f a = some b) → ∃ bs, l.mapM f = some bs
  | [], _ => ⟨[], rfl⟩
  | a :: l, h => by
    obtain ⟨b, hb⟩ := h a (by simp)
    obtain ⟨bs, hbs⟩ := mapM_some f l fun x hx => h x (by simp [hx])
    exact ⟨b :: bs, by simp [List.mapM_cons, hb, hbs]⟩
def AllF (Q : Field → Prop) : List Field → Prop
  | [] => True
  | f :: l => Q f ∧ AllF Q l
theorem AllF.mem {Q : Field → Prop} : ∀ {l : List Field}, AllF Q l → ∀ f ∈ l, Q f
  | _ :: l, h, f, hf => by
    rcases List.mem_cons.1 hf with rfl | hf
    · exact h.1
    · exact h.2.mem f hf
section
variable {P : Program} {d : Nat} {t e : TypeId} {cs : List Value}
theorem kl_int {q : IntKind} {n : Int} (ht : P.underlying t = some (.int q)) (hw : (Lit.int q n).wf = true) : ∃ l, P.keyLits (d + 1) t [.int q n] = some l := ⟨_, by simp [Program.keyLits, ht, hw]; rfl⟩
theorem kl_bool {b : Bool} (ht : P.underlying t = some .bool) : ∃ l, P.keyLits (d + 1) t [.bool b] = some l := ⟨_, by simp [Program.keyLits, ht]; rfl⟩
theorem kl_arr {n : Nat} (ht : P.underlying t = some (.array n e)) (hl : cs.length = P.cellsOf t) (h : ∀ i, i < n → ∃ l, P.keyLits d e ((cs.drop (i * P.cellsOf e)).take (P.cellsOf e)) = some l) : ∃ l, P.keyLits (d + 1) t cs = some l := by
  obtain ⟨bs, hbs⟩ := mapM_some (fun i => P.keyLits d e ((cs.drop (i * P.cellsOf e)).take (P.cellsOf e))) (List.range n) fun i hi => h i (List.mem_range.1 hi)
  exact ⟨bs.flatten, by simp [Program.keyLits, ht, hl, hbs]⟩
theorem kl_str {fs : Array Field} (ht : P.underlying t = some (.struct fs)) (hl : cs.length = P.cellsOf t) (hn : fs.all (·.name != "_") = true) (h : AllF (fun f => ∃ l, P.keyLits d f.type ((cs.drop f.offset).take (P.cellsOf f.type)) = some l) fs.toList) : ∃ l, P.keyLits (d + 1) t cs = some l := by
  obtain ⟨bs, hbs⟩ := mapM_some (fun f : Field => P.keyLits d f.type ((cs.drop f.offset).take (P.cellsOf f.type))) fs.toList h.mem
  refine ⟨bs.flatten, ?_⟩
  unfold Program.keyLits
  rw [ht]
  simp only [hl, hn, and_self, if_true, hbs, Option.map_some]
end
theorem vec_drop {α : Type} (f : α → Value) (x : Vector α 8) (i : Nat) (h : i < 8) : ((x.toList.map f).drop (i * 1)).take 1 = [f x[i]] := by
  rw [Nat.mul_one, List.drop_eq_getElem_cons (by simp; exact h)]
  simp
set_option maxRecDepth 100000 in
theorem kl_nums {k : IntKind} {t e : TypeId} (d : Nat) (ht : Try.prog.underlying t = some (.array 8 e)) (he : Try.prog.underlying e = some (.int k)) (hc : Try.prog.cellsOf e = 1) (h8 : Try.prog.cellsOf t = 8) (x : Vector Int 8) (hx : nuW k x) : ∃ l, Try.prog.keyLits (d + 2) t (nuL k x) = some l :=
  kl_arr ht (by rw [h8, nuL_len]) fun i hi => by
    rw [hc, show ((nuL k x).drop (i * 1)).take 1 = [Value.int k x[i]] from vec_drop (Value.int k) x i hi]
    exact kl_int he (hx i hi)
theorem kl_truths {t e : TypeId} (d : Nat) (ht : Try.prog.underlying t = some (.array 8 e)) (he : Try.prog.underlying e = some .bool) (hc : Try.prog.cellsOf e = 1) (h8 : Try.prog.cellsOf t = 8) (x : Vector Bool 8) : ∃ l, Try.prog.keyLits (d + 2) t (boL x) = some l :=
  kl_arr ht (by rw [h8, boL_len]) fun i hi => by
    rw [hc, show ((boL x).drop (i * 1)).take 1 = [Value.bool x[i]] from vec_drop Value.bool x i hi]
    exact kl_bool he
set_option maxRecDepth 100000 in
theorem kl_pay (d : Nat) {s : Sa} (h : SaW s) : ∃ l, Try.prog.keyLits (d + 2) 40 [.int .u8 s.k, .int .u8 s.s, .int .u32 s.q, .int .u32 s.v] = some l := by
  refine kl_str Try.underlying40 (by kernel_rfl) (by kernel_rfl) ⟨?_, ?_, ?_, ?_, trivial⟩
  · dsimp only; rw [show Try.prog.cellsOf _ = 1 by kernel_rfl]; exact kl_int Try.underlying37 h.2.1
  · dsimp only; rw [show Try.prog.cellsOf _ = 1 by kernel_rfl]; exact kl_int Try.underlying5 h.2.2.1
  · dsimp only; rw [show Try.prog.cellsOf _ = 1 by kernel_rfl]; exact kl_int Try.underlying38 h.2.2.2.1
  · dsimp only; rw [show Try.prog.cellsOf _ = 1 by kernel_rfl]; exact kl_int Try.underlying38 h.2.2.2.2
set_option maxRecDepth 100000 in
theorem kl_said (d : Nat) {s : Sa} (h : SaW s) : ∃ l, Try.prog.keyLits (d + 3) 42 (saL s) = some l := by
  refine kl_str Try.underlying42 (by kernel_rfl) (by kernel_rfl) ⟨?_, ?_, ?_, trivial⟩
  · dsimp only; rw [show Try.prog.cellsOf _ = 1 by kernel_rfl]; exact kl_bool Try.underlying4
  · dsimp only; rw [show Try.prog.cellsOf _ = 1 by kernel_rfl]; exact kl_int Try.underlying2 h.1
  · dsimp only; rw [show Try.prog.cellsOf _ = 4 by kernel_rfl]; exact kl_pay d h
theorem cut8 {A B : List Value} {o : Nat} (ho : A.length = o) (C : List Value) (hB : B.length = 8) : ((A ++ (B ++ C)).drop o).take 8 = B := by
  rw [List.drop_left' ho, List.take_left' hB]
set_option maxRecDepth 100000 in
theorem kl_view (d : Nat) {v : Vw} (h : VwW v) : ∃ l, Try.prog.keyLits (d + 3) 49 (vwL v) = some l := by
  have e : vwL v = boL v.n ++ (nuL .u8 v.m ++ (nuL .u8 v.g ++ (nuL .u16 v.s ++ (boL v.t ++ [.int .i8 v.c, .int .u8 v.d])))) := by simp [vwL, vrL]
  have l1 := boL_len v.n
  have l2 := nuL_len .u8 v.m
  have l3 := nuL_len .u8 v.g
  have l4 := nuL_len .u16 v.s
  have l5 := boL_len v.t
  refine kl_str Try.underlying49 (by rw [vwL_len]; kernel_rfl) (by kernel_rfl) ⟨?_, ?_, ?_, ?_, ?_, ?_, ?_, trivial⟩
  · dsimp only; rw [show Try.prog.cellsOf _ = 8 by kernel_rfl]
    show ∃ l, Try.prog.keyLits (d + 2) _ (((vwL v).drop 0).take 8) = some l
    rw [show ((vwL v).drop 0).take 8 = boL v.n by rw [e]; exact cut8 (A := []) rfl _ l1]
    exact kl_truths d Try.underlying43 Try.underlying4 (by kernel_rfl) (by kernel_rfl) _
  · dsimp only; rw [show Try.prog.cellsOf _ = 8 by kernel_rfl]
    show ∃ l, Try.prog.keyLits (d + 2) _ (((vwL v).drop 8).take 8) = some l
    rw [show ((vwL v).drop 8).take 8 = nuL .u8 v.m by rw [e]; exact cut8 l1 _ l2]
    exact kl_nums d Try.underlying44 Try.underlying5 (by kernel_rfl) (by kernel_rfl) _ h.1
  · dsimp only; rw [show Try.prog.cellsOf _ = 8 by kernel_rfl]
    show ∃ l, Try.prog.keyLits (d + 2) _ (((vwL v).drop 16).take 8) = some l
    rw [show ((vwL v).drop 16).take 8 = nuL .u8 v.g by rw [e, ← List.append_assoc]; exact cut8 (by simp [l1, l2]) _ l3]
    exact kl_nums d Try.underlying44 Try.underlying5 (by kernel_rfl) (by kernel_rfl) _ h.2.1
  · dsimp only; rw [show Try.prog.cellsOf _ = 8 by kernel_rfl]
    show ∃ l, Try.prog.keyLits (d + 2) _ (((vwL v).drop 24).take 8) = some l
    rw [show ((vwL v).drop 24).take 8 = nuL .u16 v.s by rw [e, ← List.append_assoc, ← List.append_assoc]; exact cut8 (by simp [l1, l2, l3]) _ l4]
    exact kl_nums d Try.underlying46 Try.underlying45 (by kernel_rfl) (by kernel_rfl) _ h.2.2.1
  · dsimp only; rw [show Try.prog.cellsOf _ = 8 by kernel_rfl]
    show ∃ l, Try.prog.keyLits (d + 2) _ (((vwL v).drop 32).take 8) = some l
    rw [show ((vwL v).drop 32).take 8 = boL v.t by rw [e, ← List.append_assoc, ← List.append_assoc, ← List.append_assoc]; exact cut8 (by simp [l1, l2, l3, l4]) _ l5]
    exact kl_truths d Try.underlying43 Try.underlying4 (by kernel_rfl) (by kernel_rfl) _
  · dsimp only; rw [show Try.prog.cellsOf _ = 1 by kernel_rfl]
    show ∃ l, Try.prog.keyLits (d + 2) _ (((vwL v).drop 40).take 1) = some l
    rw [show ((vwL v).drop 40).take 1 = [Value.int .i8 v.c] by rw [vwL, List.drop_left' (vrL_len v)]; rfl]
    exact kl_int Try.underlying47 h.2.2.2.1
  · dsimp only; rw [show Try.prog.cellsOf _ = 1 by kernel_rfl]
    show ∃ l, Try.prog.keyLits (d + 2) _ (((vwL v).drop 41).take 1) = some l
    rw [show ((vwL v).drop 41).take 1 = [Value.int .u8 v.d] by rw [show (41 : Nat) = 40 + 1 from rfl, ← List.drop_drop, vwL, List.drop_left' (vrL_len v)]; rfl]
    exact kl_int Try.underlying5 h.2.2.2.2
set_option maxRecDepth 100000 in
theorem kl_cell (d : Nat) {c : Ce} (h : CeW c) : ∃ l, Try.prog.keyLits (d + 4) 51 (ceL c) = some l := by
  refine kl_str Try.underlying51 (by rw [ceL_len]; kernel_rfl) (by kernel_rfl) ⟨?_, ?_, ?_, ?_, trivial⟩
  · dsimp only; rw [show Try.prog.cellsOf _ = 1 by kernel_rfl]; exact kl_int Try.underlying2 h.1
  · dsimp only; rw [show Try.prog.cellsOf _ = 6 by kernel_rfl]; exact kl_said d h.2.1
  · dsimp only; rw [show Try.prog.cellsOf _ = 6 by kernel_rfl]; exact kl_said d h.2.2.1
  · dsimp only; rw [show Try.prog.cellsOf _ = 42 by kernel_rfl]
    show ∃ l, Try.prog.keyLits (d + 3) _ (((ceL c).drop 13).take 42) = some l
    rw [show ((ceL c).drop 13).take 42 = vwL c.v from List.take_of_length_le (Nat.le_of_eq (vwL_len _))]
    exact kl_view d h.2.2.2
set_option maxRecDepth 100000 in
theorem deepCell : Try.prog.keyType 51 = true := by kernel_rfl
set_option maxRecDepth 100000 in
theorem sizeTypes : ∃ d, Try.prog.types.size + 1 = d + 4 := ⟨Try.prog.types.size - 3, by have : 3 ≤ Try.prog.types.size := of_decide_eq_true (by kernel_rfl); omega⟩
set_option maxRecDepth 100000 in
theorem cellsCell : Try.prog.cellsOf 51 = 55 := by kernel_rfl
set_option maxRecDepth 100000 in
theorem keyOf_cell {c : Ce} (h : CeW c) : ∃ l, keyOf Try.prog 51 (.agg (ceL c).toArray) = some l := by
  obtain ⟨d, hd⟩ := sizeTypes
  obtain ⟨l, hl⟩ := kl_cell d h
  refine ⟨.string (keyBytes l), ?_⟩
  unfold keyOf
  rw [Try.underlying51]
  have hf : (Value.agg (ceL c).toArray).formed Try.prog 51 = true := by simp [Value.formed, Try.underlying51, cellsCell, ceL_len]
  have hc : (Value.agg (ceL c).toArray).cells.toList = ceL c := rfl
  simp only [deepCell, hf, Bool.and_self, if_true, hc]
  rw [hd, hl]
  rfl
set_option maxRecDepth 100000 in
theorem keyC : Maps.Keyed Try.prog 51 := Maps.Keyed.of_law (deep_law_laid laidOut (m := 4) (by omega) (of_decide_eq_true (by kernel_rfl)) (by kernel_rfl) (by kernel_rfl))
end Go.Proofs.Ytdbljggjddnjcaa

