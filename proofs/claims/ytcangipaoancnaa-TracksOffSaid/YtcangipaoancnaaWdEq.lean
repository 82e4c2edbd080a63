/-
  '==' and '!=' of what is said, of cells, of what is held: just if all in them is the same. No condition.
-/
import Derived.Test.YtcangipaoancnaaWdM
import Derived.Laws.StructEq
namespace Go.Proofs.Ytcangipaoancnaa
open Go.RowKit
set_option linter.unusedSimpArgs false

/-- '==' of arrays of one-cell elements. -/
theorem run_equalIn_row {P : Program} {α : Type} [BEq α] [LawfulBEq α] (w : World) (d : Nat) (t elem : TypeId) (len : Nat) (f : α → Value) (ht : P.underlying t = some (.array len elem)) (hz : ∀ w, (sizeOf elem).run P w = .ok 1 w) (ha : ∀ w, (isAgg elem).run P w = .ok false w)
    (hf : ∀ a b w, (Op.equalIn d elem (f a) (f b)).run P w = .ok (a == b) w) (xs ys : List α) (hx : xs.length = len) (hy : ys.length = len) :
    (Op.equalIn (d + 1) t (.agg (xs.map f).toArray) (.agg (ys.map f).toArray)).run P w = .ok (xs == ys) w := by
  simp only [Op.equalIn, Sem.run_bind, run_underlying ht, Result.andThen_ok, hz, Nat.mul_one]
  simp only [Std.Legacy.Range.forIn_eq_forIn_range', Std.Legacy.Range.size, Nat.sub_zero, Nat.add_sub_cancel, Nat.div_one]
  have key : ∀ (m k : Nat) (w : World), k + m = len →
      ((forIn (List.range' k m) ((none : Option Bool), ()) fun i r => do
        let a ← part elem (xs.map f).toArray i
        let b ← part elem (ys.map f).toArray i
        let c ← Op.equalIn d elem a b
        if (!c) = true then pure (ForInStep.done (some false, ())) else pure (ForInStep.yield (none, ()))) : Sem (Option Bool × Unit)).run P w =
      .ok (if (xs.drop k == ys.drop k) = true then (none, ()) else (some false, ())) w := by
    intro m
    induction m with
    | zero =>
      intro k w hk
      rw [List.drop_of_length_le (by omega), List.drop_of_length_le (by omega)]
      simp
    | succ m ih =>
      intro k w hk
      have hpx : (part elem (xs.map f).toArray k).run P w = .ok (f xs[k]) w := by
        simp [part, ha, Result.andThen, show k < xs.length by omega]
      have hpy : (part elem (ys.map f).toArray k).run P w = .ok (f ys[k]) w := by
        simp [part, ha, Result.andThen, show k < ys.length by omega]
      have hdx := List.drop_eq_getElem_cons (l := xs) (i := k) (by omega)
      have hdy := List.drop_eq_getElem_cons (l := ys) (i := k) (by omega)
      simp only [List.range'_succ, List.forIn_cons, Sem.run_bind, hpx, hpy, hf, Result.andThen_ok, Sem.run_ite]
      by_cases he : xs[k] == ys[k]
      · simp only [he, Bool.not_true, Bool.false_eq_true, if_false, Sem.run_pure, Result.andThen_ok]
        rw [ih (k + 1) w (by omega), hdx, hdy]
        simp only [List.cons_beq_cons, he, Bool.true_and]
      · have he' : (xs[k] == ys[k]) = false := by simpa using he
        simp only [he', Bool.not_false, if_true, Sem.run_pure, Result.andThen_ok]
        rw [hdx, hdy]
        simp only [List.cons_beq_cons, he', Bool.false_and, Bool.false_eq_true, if_false]
  rw [key len 0 w (by omega)]
  cases hb : xs == ys
  · simp [hb, Result.andThen]
  · simp [hb, Result.andThen]
/-- .. of structs, field by field. -/
theorem part_agg {P : Program} (t : TypeId) (n : Nat) (cs : Array Value) (o : Nat) (w : World) (ha : (isAgg t).run P w = .ok true w) (hs : (sizeOf t).run P w = .ok n w) : (part t cs o).run P w = .ok (.agg (cs.extract o (o + n))) w := by
  simp [part, ha, hs, Result.andThen]
theorem part_one {P : Program} (t : TypeId) (cs : Array Value) (o : Nat) (v : Value) (w : World) (ha : (isAgg t).run P w = .ok false w) (hv : cs[o]? = some v) : (part t cs o).run P w = .ok v w := by
  simp [part, ha, hv, Result.andThen]
theorem part_mid {P : Program} (t : TypeId) (n : Nat) (cs : Array Value) (o : Nat) (w : World) (ha : (isAgg t).run P w = .ok true w) (hs : (sizeOf t).run P w = .ok n w) (A L Z : List Value) (hc : cs = (A ++ (L ++ Z)).toArray) (hA : A.length = o) (hL : L.length = n) : (part t cs o).run P w = .ok (.agg L.toArray) w := by
  rw [part_agg t n cs o w ha hs, hc]
  congr 2
  subst hA hL
  apply Array.toList_inj.1
  simp
theorem part_cell {P : Program} (t : TypeId) (cs : Array Value) (o : Nat) (v : Value) (w : World) (ha : (isAgg t).run P w = .ok false w) (A Z : List Value) (hc : cs = (A ++ (v :: Z)).toArray) (hA : A.length = o) : (part t cs o).run P w = .ok v w := by
  refine part_one t cs o v w ha ?_
  subst hc hA
  simp
theorem eqF_cons {P : Program} (d : Nat) (xs ys : Array Value) (f : Field) (fs : List Field) (w : World) (a b : Value) (r : Bool) (q : Bool) (hn : f.name ≠ "_") (ha : (part f.type xs f.offset).run P w = .ok a w) (hb : (part f.type ys f.offset).run P w = .ok b w)
    (hr : (Op.equalIn d f.type a b).run P w = .ok r w) (hq : (Op.eqFields d xs ys fs).run P w = .ok q w) : (Op.eqFields d xs ys (f :: fs)).run P w = .ok (r && q) w := by
  simp only [Op.eqFields, if_pos hn, Sem.run_bind, ha, hb, hr, Result.andThen_ok, Sem.run_ite]
  cases r
  · simp
  · simpa using hq
theorem eqF_nil {P : Program} (d : Nat) (xs ys : Array Value) (w : World) : (Op.eqFields d xs ys []).run P w = .ok true w := by simp [Op.eqFields]
theorem said_in (d : Nat) (a b : Sa) (w : World) : (Op.equalIn (d + 3) 42 (.agg (saL a).toArray) (.agg (saL b).toArray)).run Try.prog w = .ok (saE a b) w := by
  simp only [saL]
  go_simp
  unfold saE
  by_cases h0 : a.i = b.i <;> by_cases h1 : a.a = b.a <;> by_cases h2 : a.k = b.k <;> by_cases h3 : a.s = b.s <;> by_cases h4 : a.q = b.q <;> by_cases h5 : a.v = b.v <;> simp [h0, h1, h2, h3, h4, h5]
set_option maxRecDepth 100000 in
theorem eq_bo (d : Nat) (x y : Vector Bool 8) (w : World) : (Op.equalIn (d + 2) 43 (.agg (boL x).toArray) (.agg (boL y).toArray)).run Try.prog w = .ok (x.toList == y.toList) w :=
  run_equalIn_row w (d + 1) _ 4 8 Value.bool (by kernel_rfl) (fun _ => by kernel_rfl) (fun _ => by kernel_rfl) (fun a b w => run_equalIn_bool w d _ a b (by kernel_rfl)) _ _ (by simp) (by simp)
set_option maxRecDepth 100000 in
theorem eq_u8 (d : Nat) (x y : Vector Int 8) (w : World) : (Op.equalIn (d + 2) 44 (.agg (nuL .u8 x).toArray) (.agg (nuL .u8 y).toArray)).run Try.prog w = .ok (x.toList == y.toList) w :=
  run_equalIn_row w (d + 1) _ 5 8 (Value.int .u8) (by kernel_rfl) (fun _ => by kernel_rfl) (fun _ => by kernel_rfl) (fun a b w => run_equalIn_int w d _ .u8 .u8 a b (by kernel_rfl)) _ _ (by simp) (by simp)
set_option maxRecDepth 100000 in
theorem eq_u16 (d : Nat) (x y : Vector Int 8) (w : World) : (Op.equalIn (d + 2) 46 (.agg (nuL .u16 x).toArray) (.agg (nuL .u16 y).toArray)).run Try.prog w = .ok (x.toList == y.toList) w :=
  run_equalIn_row w (d + 1) _ 45 8 (Value.int .u16) (by kernel_rfl) (fun _ => by kernel_rfl) (fun _ => by kernel_rfl) (fun a b w => run_equalIn_int w d _ .u16 .u16 a b (by kernel_rfl)) _ _ (by simp) (by simp)
set_option maxRecDepth 100000 in
theorem view_in (d : Nat) (a b : Vw) (w : World) : (Op.equalIn (d + 3) 49 (.agg (vwL a).toArray) (.agg (vwL b).toArray)).run Try.prog w = .ok (vwE a b) w := by
  rw [run_equalIn_agg w (d + 2) _ _ _ (by kernel_rfl) (by kernel_rfl)]
  simp only [Program.fieldsOf, Try.underlying49]
  rw [show vwE a b = ((a.n.toList == b.n.toList) && ((a.m.toList == b.m.toList) && ((a.g.toList == b.g.toList) && ((a.s.toList == b.s.toList) && ((a.t.toList == b.t.toList) && ((a.c == b.c) && ((a.d == b.d) && true))))))) by rw [Bool.and_true]; rfl]
  exact (eqF_cons _ _ _ _ _ _ _ _ _ _ (by decide) (part_mid 43 8 _ _ _ (by kernel_rfl) (by kernel_rfl) (([] : List Value)) (boL a.n) ((nuL .u8 a.m) ++ (nuL .u8 a.g) ++ (nuL .u16 a.s) ++ (boL a.t) ++ ([Value.int .i8 a.c]) ++ ([Value.int .u8 a.d]) ++ ([] : List Value)) (by simp [vwL, vrL]) (by simp [boL_len, nuL_len]) (by simp [boL_len, nuL_len])) (part_mid 43 8 _ _ _ (by kernel_rfl) (by kernel_rfl) (([] : List Value)) (boL b.n) ((nuL .u8 b.m) ++ (nuL .u8 b.g) ++ (nuL .u16 b.s) ++ (boL b.t) ++ ([Value.int .i8 b.c]) ++ ([Value.int .u8 b.d]) ++ ([] : List Value)) (by simp [vwL, vrL]) (by simp [boL_len, nuL_len]) (by simp [boL_len, nuL_len])) (eq_bo d _ _ _)
    (eqF_cons _ _ _ _ _ _ _ _ _ _ (by decide) (part_mid 44 8 _ _ _ (by kernel_rfl) (by kernel_rfl) (([] : List Value) ++ (boL a.n)) (nuL .u8 a.m) ((nuL .u8 a.g) ++ (nuL .u16 a.s) ++ (boL a.t) ++ ([Value.int .i8 a.c]) ++ ([Value.int .u8 a.d]) ++ ([] : List Value)) (by simp [vwL, vrL]) (by simp [boL_len, nuL_len]) (by simp [boL_len, nuL_len])) (part_mid 44 8 _ _ _ (by kernel_rfl) (by kernel_rfl) (([] : List Value) ++ (boL b.n)) (nuL .u8 b.m) ((nuL .u8 b.g) ++ (nuL .u16 b.s) ++ (boL b.t) ++ ([Value.int .i8 b.c]) ++ ([Value.int .u8 b.d]) ++ ([] : List Value)) (by simp [vwL, vrL]) (by simp [boL_len, nuL_len]) (by simp [boL_len, nuL_len])) (eq_u8 d _ _ _)
    (eqF_cons _ _ _ _ _ _ _ _ _ _ (by decide) (part_mid 44 8 _ _ _ (by kernel_rfl) (by kernel_rfl) (([] : List Value) ++ (boL a.n) ++ (nuL .u8 a.m)) (nuL .u8 a.g) ((nuL .u16 a.s) ++ (boL a.t) ++ ([Value.int .i8 a.c]) ++ ([Value.int .u8 a.d]) ++ ([] : List Value)) (by simp [vwL, vrL]) (by simp [boL_len, nuL_len]) (by simp [boL_len, nuL_len])) (part_mid 44 8 _ _ _ (by kernel_rfl) (by kernel_rfl) (([] : List Value) ++ (boL b.n) ++ (nuL .u8 b.m)) (nuL .u8 b.g) ((nuL .u16 b.s) ++ (boL b.t) ++ ([Value.int .i8 b.c]) ++ ([Value.int .u8 b.d]) ++ ([] : List Value)) (by simp [vwL, vrL]) (by simp [boL_len, nuL_len]) (by simp [boL_len, nuL_len])) (eq_u8 d _ _ _)
    (eqF_cons _ _ _ _ _ _ _ _ _ _ (by decide) (part_mid 46 8 _ _ _ (by kernel_rfl) (by kernel_rfl) (([] : List Value) ++ (boL a.n) ++ (nuL .u8 a.m) ++ (nuL .u8 a.g)) (nuL .u16 a.s) ((boL a.t) ++ ([Value.int .i8 a.c]) ++ ([Value.int .u8 a.d]) ++ ([] : List Value)) (by simp [vwL, vrL]) (by simp [boL_len, nuL_len]) (by simp [boL_len, nuL_len])) (part_mid 46 8 _ _ _ (by kernel_rfl) (by kernel_rfl) (([] : List Value) ++ (boL b.n) ++ (nuL .u8 b.m) ++ (nuL .u8 b.g)) (nuL .u16 b.s) ((boL b.t) ++ ([Value.int .i8 b.c]) ++ ([Value.int .u8 b.d]) ++ ([] : List Value)) (by simp [vwL, vrL]) (by simp [boL_len, nuL_len]) (by simp [boL_len, nuL_len])) (eq_u16 d _ _ _)
    (eqF_cons _ _ _ _ _ _ _ _ _ _ (by decide) (part_mid 43 8 _ _ _ (by kernel_rfl) (by kernel_rfl) (([] : List Value) ++ (boL a.n) ++ (nuL .u8 a.m) ++ (nuL .u8 a.g) ++ (nuL .u16 a.s)) (boL a.t) (([Value.int .i8 a.c]) ++ ([Value.int .u8 a.d]) ++ ([] : List Value)) (by simp [vwL, vrL]) (by simp [boL_len, nuL_len]) (by simp [boL_len, nuL_len])) (part_mid 43 8 _ _ _ (by kernel_rfl) (by kernel_rfl) (([] : List Value) ++ (boL b.n) ++ (nuL .u8 b.m) ++ (nuL .u8 b.g) ++ (nuL .u16 b.s)) (boL b.t) (([Value.int .i8 b.c]) ++ ([Value.int .u8 b.d]) ++ ([] : List Value)) (by simp [vwL, vrL]) (by simp [boL_len, nuL_len]) (by simp [boL_len, nuL_len])) (eq_bo d _ _ _)
    (eqF_cons _ _ _ _ _ _ _ _ _ _ (by decide) (part_cell 47 _ _ _ _ (by kernel_rfl) (([] : List Value) ++ (boL a.n) ++ (nuL .u8 a.m) ++ (nuL .u8 a.g) ++ (nuL .u16 a.s) ++ (boL a.t)) (([Value.int .u8 a.d]) ++ ([] : List Value)) (by simp [vwL, vrL]) (by simp [boL_len, nuL_len])) (part_cell 47 _ _ _ _ (by kernel_rfl) (([] : List Value) ++ (boL b.n) ++ (nuL .u8 b.m) ++ (nuL .u8 b.g) ++ (nuL .u16 b.s) ++ (boL b.t)) (([Value.int .u8 b.d]) ++ ([] : List Value)) (by simp [vwL, vrL]) (by simp [boL_len, nuL_len])) (run_equalIn_int _ (d + 1) _ .i8 .i8 _ _ (by kernel_rfl))
    (eqF_cons _ _ _ _ _ _ _ _ _ _ (by decide) (part_cell 5 _ _ _ _ (by kernel_rfl) (([] : List Value) ++ (boL a.n) ++ (nuL .u8 a.m) ++ (nuL .u8 a.g) ++ (nuL .u16 a.s) ++ (boL a.t) ++ ([Value.int .i8 a.c])) (([] : List Value)) (by simp [vwL, vrL]) (by simp [boL_len, nuL_len])) (part_cell 5 _ _ _ _ (by kernel_rfl) (([] : List Value) ++ (boL b.n) ++ (nuL .u8 b.m) ++ (nuL .u8 b.g) ++ (nuL .u16 b.s) ++ (boL b.t) ++ ([Value.int .i8 b.c])) (([] : List Value)) (by simp [vwL, vrL]) (by simp [boL_len, nuL_len])) (run_equalIn_int _ (d + 1) _ .u8 .u8 _ _ (by kernel_rfl))
    (eqF_nil _ _ _ _))))))))
set_option maxRecDepth 100000 in
theorem cell_in (d : Nat) (a b : Ce) (w : World) : (Op.equalIn (d + 5) 51 (.agg (ceL a).toArray) (.agg (ceL b).toArray)).run Try.prog w = .ok (ceE a b) w := by
  rw [run_equalIn_agg w (d + 4) _ _ _ (by kernel_rfl) (by kernel_rfl)]
  simp only [Program.fieldsOf, Try.underlying51]
  rw [show ceE a b = ((a.a == b.a) && (saE a.o b.o && (saE a.r b.r && (vwE a.v b.v && true)))) by rw [Bool.and_true]; rfl]
  exact (eqF_cons _ _ _ _ _ _ _ _ _ _ (by decide) (part_cell 2 _ _ _ _ (by kernel_rfl) (([] : List Value)) ((saL a.o) ++ (saL a.r) ++ (vwL a.v) ++ ([] : List Value)) (by simp [ceL]) (by simp [saL_len, vwL_len])) (part_cell 2 _ _ _ _ (by kernel_rfl) (([] : List Value)) ((saL b.o) ++ (saL b.r) ++ (vwL b.v) ++ ([] : List Value)) (by simp [ceL]) (by simp [saL_len, vwL_len])) (run_equalIn_int _ (d + 3) _ .i64 .i64 _ _ (by kernel_rfl))
    (eqF_cons _ _ _ _ _ _ _ _ _ _ (by decide) (part_mid 42 6 _ _ _ (by kernel_rfl) (by kernel_rfl) (([] : List Value) ++ ([Value.int .i64 a.a])) (saL a.o) ((saL a.r) ++ (vwL a.v) ++ ([] : List Value)) (by simp [ceL]) (by simp [saL_len, vwL_len]) (by simp [saL_len, vwL_len])) (part_mid 42 6 _ _ _ (by kernel_rfl) (by kernel_rfl) (([] : List Value) ++ ([Value.int .i64 b.a])) (saL b.o) ((saL b.r) ++ (vwL b.v) ++ ([] : List Value)) (by simp [ceL]) (by simp [saL_len, vwL_len]) (by simp [saL_len, vwL_len])) (said_in (d + 1) _ _ _)
    (eqF_cons _ _ _ _ _ _ _ _ _ _ (by decide) (part_mid 42 6 _ _ _ (by kernel_rfl) (by kernel_rfl) (([] : List Value) ++ ([Value.int .i64 a.a]) ++ (saL a.o)) (saL a.r) ((vwL a.v) ++ ([] : List Value)) (by simp [ceL]) (by simp [saL_len, vwL_len]) (by simp [saL_len, vwL_len])) (part_mid 42 6 _ _ _ (by kernel_rfl) (by kernel_rfl) (([] : List Value) ++ ([Value.int .i64 b.a]) ++ (saL b.o)) (saL b.r) ((vwL b.v) ++ ([] : List Value)) (by simp [ceL]) (by simp [saL_len, vwL_len]) (by simp [saL_len, vwL_len])) (said_in (d + 1) _ _ _)
    (eqF_cons _ _ _ _ _ _ _ _ _ _ (by decide) (part_mid 49 42 _ _ _ (by kernel_rfl) (by kernel_rfl) (([] : List Value) ++ ([Value.int .i64 a.a]) ++ (saL a.o) ++ (saL a.r)) (vwL a.v) (([] : List Value)) (by simp [ceL]) (by simp [saL_len, vwL_len]) (by simp [saL_len, vwL_len])) (part_mid 49 42 _ _ _ (by kernel_rfl) (by kernel_rfl) (([] : List Value) ++ ([Value.int .i64 b.a]) ++ (saL b.o) ++ (saL b.r)) (vwL b.v) (([] : List Value)) (by simp [ceL]) (by simp [saL_len, vwL_len]) (by simp [saL_len, vwL_len])) (view_in (d + 1) _ _ _)
    (eqF_nil _ _ _ _)))))
set_option maxRecDepth 100000 in
theorem held_in (d : Nat) (a b : He) (w : World) : (Op.equalIn (d + 7) 102 (.agg (heL a).toArray) (.agg (heL b).toArray)).run Try.prog w = .ok (heE a b) w := by
  rw [run_equalIn_agg w (d + 6) _ _ _ (by kernel_rfl) (by kernel_rfl)]
  simp only [Program.fieldsOf, Try.underlying102]
  rw [show heE a b = ((a.i == b.i) && (ceE a.c b.c && true)) by rw [Bool.and_true]; rfl]
  exact (eqF_cons _ _ _ _ _ _ _ _ _ _ (by decide) (part_cell 4 _ _ _ _ (by kernel_rfl) (([] : List Value)) ((ceL a.c) ++ ([] : List Value)) (by simp [heL]) (by simp [ceL_len])) (part_cell 4 _ _ _ _ (by kernel_rfl) (([] : List Value)) ((ceL b.c) ++ ([] : List Value)) (by simp [heL]) (by simp [ceL_len])) (run_equalIn_bool _ (d + 5) _ _ _ (by kernel_rfl))
    (eqF_cons _ _ _ _ _ _ _ _ _ _ (by decide) (part_mid 51 55 _ _ _ (by kernel_rfl) (by kernel_rfl) (([] : List Value) ++ ([Value.bool a.i])) (ceL a.c) (([] : List Value)) (by simp [heL]) (by simp [ceL_len]) (by simp [ceL_len])) (part_mid 51 55 _ _ _ (by kernel_rfl) (by kernel_rfl) (([] : List Value) ++ ([Value.bool b.i])) (ceL b.c) (([] : List Value)) (by simp [heL]) (by simp [ceL_len]) (by simp [ceL_len])) (cell_in (d + 1) _ _ _)
    (eqF_nil _ _ _ _)))
set_option maxRecDepth 100000 in
theorem rheld_in (d : Nat) (a b : He) (w : World) : (Op.equalIn (d + 7) 106 (.agg (heL a).toArray) (.agg (heL b).toArray)).run Try.prog w = .ok (heE a b) w := by
  rw [run_equalIn_agg w (d + 6) _ _ _ (by kernel_rfl) (by kernel_rfl)]
  simp only [Program.fieldsOf, Try.underlying106]
  rw [show heE a b = ((a.i == b.i) && (ceE a.c b.c && true)) by rw [Bool.and_true]; rfl]
  exact (eqF_cons _ _ _ _ _ _ _ _ _ _ (by decide) (part_cell 4 _ _ _ _ (by kernel_rfl) (([] : List Value)) ((ceL a.c) ++ ([] : List Value)) (by simp [heL]) (by simp [ceL_len])) (part_cell 4 _ _ _ _ (by kernel_rfl) (([] : List Value)) ((ceL b.c) ++ ([] : List Value)) (by simp [heL]) (by simp [ceL_len])) (run_equalIn_bool _ (d + 5) _ _ _ (by kernel_rfl))
    (eqF_cons _ _ _ _ _ _ _ _ _ _ (by decide) (part_mid 51 55 _ _ _ (by kernel_rfl) (by kernel_rfl) (([] : List Value) ++ ([Value.bool a.i])) (ceL a.c) (([] : List Value)) (by simp [heL]) (by simp [ceL_len]) (by simp [ceL_len])) (part_mid 51 55 _ _ _ (by kernel_rfl) (by kernel_rfl) (([] : List Value) ++ ([Value.bool b.i])) (ceL b.c) (([] : List Value)) (by simp [heL]) (by simp [ceL_len]) (by simp [ceL_len])) (cell_in (d + 1) _ _ _)
    (eqF_nil _ _ _ _)))
theorem said_eql (a b : Sa) (w : World) : (binOp .eql 42 (.agg (saL a).toArray) (.agg (saL b).toArray)).run Try.prog w = .ok (.bool (saE a b)) w := by
  rw [run_eql_struct, said_in 9997]; rfl
theorem said_neq (a b : Sa) (w : World) : (binOp .neq 42 (.agg (saL a).toArray) (.agg (saL b).toArray)).run Try.prog w = .ok (.bool (!saE a b)) w := by
  rw [run_neq_struct, said_in 9997]; rfl
theorem cell_eql (a b : Ce) (w : World) : (binOp .eql 51 (.agg (ceL a).toArray) (.agg (ceL b).toArray)).run Try.prog w = .ok (.bool (ceE a b)) w := by
  rw [run_eql_struct, cell_in 9995]; rfl
theorem cell_neq (a b : Ce) (w : World) : (binOp .neq 51 (.agg (ceL a).toArray) (.agg (ceL b).toArray)).run Try.prog w = .ok (.bool (!ceE a b)) w := by
  rw [run_neq_struct, cell_in 9995]; rfl
theorem held_eql (a b : He) (w : World) : (binOp .eql 102 (.agg (heL a).toArray) (.agg (heL b).toArray)).run Try.prog w = .ok (.bool (heE a b)) w := by
  rw [run_eql_struct, held_in 9993]; rfl
theorem held_neq (a b : He) (w : World) : (binOp .neq 102 (.agg (heL a).toArray) (.agg (heL b).toArray)).run Try.prog w = .ok (.bool (!heE a b)) w := by
  rw [run_neq_struct, held_in 9993]; rfl
theorem rheld_eql (a b : He) (w : World) : (binOp .eql 106 (.agg (heL a).toArray) (.agg (heL b).toArray)).run Try.prog w = .ok (.bool (heE a b)) w := by
  rw [run_eql_struct, rheld_in 9993]; rfl
theorem rheld_neq (a b : He) (w : World) : (binOp .neq 106 (.agg (heL a).toArray) (.agg (heL b).toArray)).run Try.prog w = .ok (.bool (!heE a b)) w := by
  rw [run_neq_struct, rheld_in 9993]; rfl
end Go.Proofs.Ytcangipaoancnaa

