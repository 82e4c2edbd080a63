/-
  Two rows of symbols of the call's own, apart, to each of which a symbol may be appended. No condition but those that are named.
-/
import Derived.Test.YtadcmoldpbnmnaaGreatDoorKinds
import Derived.Test.YtadcmoldpbnmnaaGreatDoorKeep
namespace Go.Proofs.YtadcmoldpbnmnaaGreatDoor
open Go.RowKit
set_option linter.unusedVariables false

structure Rows2 (w : World) (base : Nat) (A : Option Addr) (n c : Nat) (xs : List Int) (B : Option Addr) (m d : Nat) (ys : List Int) : Prop where
  ra : w.ownsRow base 47 1 (.slice A n c) n (xs.map (Value.int .u8))
  rb : w.ownsRow base 47 1 (.slice B m d) m (ys.map (Value.int .u8))
  ne : ∀ q, (Value.slice A n c).ownBlock = some q → (Value.slice B m d).ownBlock ≠ some q
section
variable {w w' : World} {base n c m d : Nat} {A B : Option Addr} {xs ys : List Int}
theorem Rows2.none_ : Rows2 w base none 0 0 [] none 0 0 [] := ⟨owns_none, owns_none, fun q h => by cases h⟩
theorem Rows2.swap (h : Rows2 w base A n c xs B m d ys) : Rows2 w base B m d ys A n c xs := ⟨h.rb, h.ra, fun q h1 h2 => h.ne q h2 h1⟩
theorem Rows2.on (h : Rows2 w base A n c xs B m d ys) (hb : Below w.heap.size w w') : Rows2 w' base A n c xs B m d ys :=
  ⟨owns_kept h.ra (KeptBut.below hb []) (by simp), owns_kept h.rb (KeptBut.below hb []) (by simp), h.ne⟩
theorem rows_grown {n : Nat} {e : TypeId} {v : Value} {xs : List Value} {row : Option Nat} (h : w.ownsRow base e 1 v n xs) (hg : w.grownBy w' row) (hne : ∀ q, v.ownBlock = some q → row ≠ some q) : w'.ownsRow base e 1 v n xs := by
  refine ⟨h.1, ?_⟩
  rcases h.2 with q | ⟨g', cap, cur, hv, hb, hh, r⟩
  · exact .inl q
  · have hlt : g' < w.heap.size := Blk.lt (t := e) (cs := cur) hh
    exact .inr ⟨g', cap, cur, hv, hb, (hg.block g' hlt (fun q => hne g' (by rw [hv]; rfl) q.symm)).trans hh, r⟩
/-- One more on the first row. -/
theorem Rows2.push (h : Rows2 w base A n c xs B m d ys) {A' : Option Addr} {c' : Nat} {zs : List Int} (hr : w'.ownsRow base 47 1 (.slice A' (n + 1) c') (n + 1) (zs.map (Value.int .u8))) (hg : w.grownBy w' (Value.slice A n c).ownBlock)
    (ho : (Value.slice A' (n + 1) c').ownBlock = (Value.slice A n c).ownBlock ∨ (Value.slice A' (n + 1) c').ownBlock = some w.heap.size) : Rows2 w' base A' (n + 1) c' zs B m d ys := by
  refine ⟨hr, rows_grown h.rb hg fun q hq h1 => h.ne q h1 hq, fun q hq hB => ?_⟩
  rcases ho with e | e
  · exact h.ne q (e.symm.trans hq) hB
  · have := (h.rb.lt q hB).2
    rw [e] at hq
    injection hq with hq
    omega
theorem Rows2.below {a : World} (h : Rows2 w base A n c xs B m d ys) (hb : Below base a w) (hg : w.grownBy w' (Value.slice A n c).ownBlock) (hs : base ≤ w.heap.size) : Below base a w' :=
  hb.grown hg hs fun g hq => (h.ra.lt g hq).1
end
/-- append of one symbol, which lies in a block of its own, onto a row of the call's own. -/
theorem wpList_append_row {ops : Array Oper} {rest : List Oper} {o : Oper} {a : Act} {w : World} {Q : Exit → Act → World → Prop} (hgd : o.guard = none) (s x : Operand)
    (ho : o.op = .call { callee := .builtin .append, args := #[s, x], argTypes := #[129, 129] })
    (base : Nat) (A : Option Addr) (n c : Nat) (xs : List Int) (hs : a.eval s = .slice A n c) (hown : w.ownsRow base 47 1 (.slice A n c) n (xs.map (Value.int .u8)))
    (b : Nat) (z : Int) (hx : a.eval x = .slice (some ⟨b, 0, none⟩) 1 1) (hB : Blk w b 47 #[.int .u8 z]) (hn : n ≤ 65536) (hbase : base ≤ w.heap.size)
    (h : ∀ A' c' w', w'.ownsRow base 47 1 (.slice A' (n + 1) c') (n + 1) ((xs ++ [z]).map (Value.int .u8)) → w.grownBy w' (Value.slice A n c).ownBlock → ((Value.slice A' (n + 1) c').ownBlock = (Value.slice A n c).ownBlock ∨ (Value.slice A' (n + 1) c').ownBlock = some w.heap.size) → wpList Tryz.prog ops Q rest (a.put o.dst (.slice A' (n + 1) c')) w') :
    wpList Tryz.prog ops Q (o :: rest) a w := by
  have hi : ∃ i0, Tryz.prog.info? 47 = some i0 ∧ i0.zero = some (.int .u8 0) ∧ i0.size = 1 ∧ i0.bytes = 1 := by
    have h := infoSyms
    cases hh : Tryz.prog.info? 47 with
    | none => rw [hh] at h; cases h
    | some i0 =>
      rw [hh] at h
      simp only [Option.map_some, Option.some.injEq, Prod.mk.injEq] at h
      exact ⟨i0, rfl, h.1, h.2.1, h.2.2⟩
  obtain ⟨i0, hi0, hz0, hz1, hz2⟩ := hi
  have hr : Lies .u8 w w.heap.size (some ⟨b, 0, none⟩) 1 [z] := Blk.lies (k := .u8) (xs := [z]) hB rfl
  obtain ⟨A', c', w', hrun, h2, h3, h4⟩ := run_append_lies (P := Tryz.prog) w base 129 o.type 47 i0 _ 1 Tryz.underlying129 hi0 hz0 hz1 hz2 rfl .u8 (.slice A n c) n xs hown (some ⟨b, 0, none⟩) 1 1 [z] hr (by unfold maxLen; omega) (by omega) hbase
  refine wpList_plain hgd fun K hK => ?_
  unfold Oper.wp
  simp only [execOp, ho, resolve, invoke, builtin, Sem.run_bind, Sem.run_pure, Result.andThen_ok, List.map_toArray, List.map_cons, List.map_nil, hs, hx, hrun]
  exact hK _ _ (h A' c' w' h2 h3 h4)
end Go.Proofs.YtadcmoldpbnmnaaGreatDoor

