/-
  What Agree answers of the rows that a node of AgreesOne holds. Conditions: what came in reads as such.
-/
import Derived.Test.YtdbljggjddnjcaaAgL
namespace Go.Proofs.Ytdbljggjddnjcaa
open Go.RowKit
set_option linter.unusedVariables false
set_option linter.unusedSimpArgs false

section
variable {P : Program} {w w' : World} {base size n c : Nat} {e : TypeId} {A : Option Addr} {xs : List Value}
theorem run_append_S (w : World) (base : Nat) (t ty e : TypeId) (i : TypeInfo) (z : Value) (size bytes : Nat) (ht : P.underlying t = some (.slice e)) (hi : P.info? e = some i) (hz : i.zero = some z)
    (hsize : i.size = size) (hby : i.bytes = bytes) (hzs : z.cells.size = size) (h0 : 0 < size) (A : Option Addr) (n c : Nat) (xs : List Value) (hown : w.ownsRow base e size (.slice A n c) n xs)
    (b m p : Nat) (news : List Value) (hB : ∀ j u, news[j]? = some u → w.cell? ⟨b, j, none⟩ = some u) (hl : news.length = m * size) (h1 : ∀ u ∈ news, u.oneCell' = true) (hm : 0 < m) (h63 : n + m ≤ maxLen) (hbytes : (n + m) * bytes ≤ 140737488355328) (hbase : base ≤ w.heap.size) :
    ∃ A' c' w', (Builtin.append_ #[t, t] ty #[.slice A n c, .slice (some ⟨b, 0, none⟩) m p]).run P w = .ok (.slice A' (n + m) c') w' ∧ w'.ownsRow base e size (.slice A' (n + m) c') (n + m) (xs ++ news) ∧ Below base w w' ∧ KeptBut w w' [e] := by
  obtain ⟨v', w', hrun, h2, h3, _, _⟩ := run_append_own_at (P := P) w base t ty e i z size bytes ht hi hz hsize hby hzs h0 (.slice A n c) n xs hown ⟨b, 0, none⟩ m p news hl (fun j u hu => by rw [Addr.add_lit, Nat.zero_add]; exact hB j u hu) h1 h63 hbytes hbase
  have key : ∃ A' c', v' = .slice A' (n + m) c' := by
    rcases h2.2 with ⟨_, h0⟩ | ⟨g', cap, cur, hv, _⟩
    · omega
    · exact ⟨_, _, hv⟩
  obtain ⟨A', c', rfl⟩ := key
  refine ⟨A', c', w', hrun, h2, ⟨h3.os, h3.tape, h3.output, h3.size, fun k hk => h3.block k (Nat.lt_of_lt_of_le hk hbase) fun he => ?_⟩, fun k t cs ht hB => (h3.block k hB.lt fun he => ?_).trans hB⟩
  · rcases hown.2 with ⟨hv, _⟩ | ⟨g, cap, cur, hv, hb, _⟩
    · rw [hv] at he; cases he
    · rw [hv] at he
      have : k = g := by simpa [Value.ownBlock] using he
      omega
  · rcases hown.2 with ⟨hv, _⟩ | ⟨g, cap, cur, hv, hb, hh, _⟩
    · rw [hv] at he; cases he
    · rw [hv] at he
      have : k = g := by simpa [Value.ownBlock] using he
      exact hB.ne (t' := e) hh (by simpa using ht) this
theorem wp_append_S {o : Oper} {a : Act} {K : Act → World → Prop} {Q : Exit → Act → World → Prop} (s x : Operand) (t : TypeId) (ho : o.op = .call { callee := .builtin .append, args := #[s, x], argTypes := #[t, t] })
    (base : Nat) (e : TypeId) (i : TypeInfo) (z : Value) (size bytes : Nat) (ht : P.underlying t = some (.slice e)) (hi : P.info? e = some i) (hz : i.zero = some z)
    (hsize : i.size = size) (hby : i.bytes = bytes) (hzs : z.cells.size = size) (h0 : 0 < size) (A : Option Addr) (n c : Nat) (xs : List Value) (hs : a.eval s = .slice A n c) (hown : w.ownsRow base e size (.slice A n c) n xs)
    (b m p : Nat) (news : List Value) (hx : a.eval x = .slice (some ⟨b, 0, none⟩) m p) (hB : ∀ j u, news[j]? = some u → w.cell? ⟨b, j, none⟩ = some u) (hl : news.length = m * size) (h1 : ∀ u ∈ news, u.oneCell' = true) (hm : 0 < m) (h63 : n + m ≤ maxLen) (hbytes : (n + m) * bytes ≤ 140737488355328) (hbase : base ≤ w.heap.size)
    (h : ∀ A' c' w', w'.ownsRow base e size (.slice A' (n + m) c') (n + m) (xs ++ news) → Below base w w' → KeptBut w w' [e] → K (a.put o.dst (.slice A' (n + m) c')) w') : o.wp P a w K Q := by
  obtain ⟨A', c', w', hrun, h2, h3, h4⟩ := run_append_S (P := P) w base t o.type e i z size bytes ht hi hz hsize hby hzs h0 A n c xs hown b m p news hB hl h1 hm h63 hbytes hbase
  unfold Oper.wp
  simp only [execOp, ho, resolve, invoke, builtin, Sem.run_bind, Sem.run_pure, Result.andThen_ok, List.map_toArray, List.map_cons, List.map_nil, hs, hx, hrun]
  exact h A' c' w' h2 h3 h4
theorem wpList_append_S {ops : Array Oper} {rest : List Oper} {o : Oper} {a : Act} {Q : Exit → Act → World → Prop} (hgd : o.guard = none) (s x : Operand) (t : TypeId) (ho : o.op = .call { callee := .builtin .append, args := #[s, x], argTypes := #[t, t] })
    (base : Nat) (e : TypeId) (i : TypeInfo) (z : Value) (size bytes : Nat) (ht : P.underlying t = some (.slice e)) (hi : P.info? e = some i) (hz : i.zero = some z)
    (hsize : i.size = size) (hby : i.bytes = bytes) (hzs : z.cells.size = size) (h0 : 0 < size) (A : Option Addr) (n c : Nat) (xs : List Value) (hs : a.eval s = .slice A n c) (hown : w.ownsRow base e size (.slice A n c) n xs)
    (b m p : Nat) (news : List Value) (hx : a.eval x = .slice (some ⟨b, 0, none⟩) m p) (hB : ∀ j u, news[j]? = some u → w.cell? ⟨b, j, none⟩ = some u) (hl : news.length = m * size) (h1 : ∀ u ∈ news, u.oneCell' = true) (hm : 0 < m) (h63 : n + m ≤ maxLen) (hbytes : (n + m) * bytes ≤ 140737488355328) (hbase : base ≤ w.heap.size)
    (h : ∀ A' c' w', w'.ownsRow base e size (.slice A' (n + m) c') (n + m) (xs ++ news) → Below base w w' → KeptBut w w' [e] → wpList P ops Q rest (a.put o.dst (.slice A' (n + m) c')) w') : wpList P ops Q (o :: rest) a w :=
  wpList_plain hgd fun _ hK => wp_append_S s x t ho base e i z size bytes ht hi hz hsize hby hzs h0 A n c xs hs hown b m p news hx hB hl h1 hm h63 hbytes hbase fun A' c' w' q1 q2 q3 => hK _ _ (h A' c' w' q1 q2 q3)
end
/-- What the i-th node holds. -/
def hRow (x : On) (bad : Nat) (Rs : Nat → Rw) (i j : Nat) : Rw := if j = bad then faA x i else Rs j
/-- What is agreed on. -/
def agW (N m : Nat) (C : Nat → Ce) (bad : Nat) (Rs : Nat → Rw) (s : Nat) : He := if s = bad then agM N bad (fun j => (Rs j).ro) N else truA m C s
/-- A block of rows of one's own, with room behind it. -/
theorem rows_of_owns {U : World} {lo n p : Nat} {A : Option Addr} {f : Nat → List Value} (h : U.ownsRow lo 54 57 (.slice A n p) n (flL f n)) (h0 : 0 < n) : ∃ g, ∃ Z : List Value, A = some ⟨g, 0, none⟩ ∧ lo ≤ g ∧ n ≤ p ∧ Blk U g 54 (flL f n ++ Z).toArray := by
  rcases h.2 with ⟨_, h0'⟩ | ⟨g, cap, cur, hv, hb, hh, hnc, _, hcs, htk⟩
  · omega
  · injection hv with hA _ hp
    refine ⟨g, cur.toList.drop (n * 57), hA, hb, by omega, ?_⟩
    rw [← htk, List.take_append_drop]
    exact hh
section
variable {w V : World} {a b : Int} {x : On} {gz gx gT m c0 N bad c : Nat} {C : Nat → Ce} {A0 A : Option Addr} {Rs : Nat → Rw}
theorem truA_w (hC : CellsIn w A0 m c0 C) (s : Nat) : CeW (truA m C s).c := by
  unfold truA
  split
  · exact hC.w _ (Nat.mod_lt _ (by assumption))
  · exact ceW_nil
theorem hoA_w (hX : OnIn w x) (k : Nat) : CeW (hoA x k).c := by
  unfold hoA
  split
  · exact hX.w _ (Nat.mod_lt _ (by assumption))
  · exact ceW_nil
theorem tabA_w (hC : CellsIn w A0 m c0 C) (hX : OnIn w x) (k s : Nat) : CeW (tabA m C x bad k s).c := by
  unfold tabA
  split
  · exact hoA_w hX k
  · exact truA_w hC s
theorem faA_w (hX : OnIn w x) (i s : Nat) : CeW (tolM s (faA x i).ro).c := by
  unfold faA
  split
  · exact (hX.r.w _ (Nat.mod_lt _ (by assumption))).tol s
  · unfold tolM
    split
    · exact ceW_nil
    · exact ceW_nil
theorem faA_n (hX : OnIn w x) (i : Nat) : (faA x i).n ≤ 9223372036854775807 := by
  unfold faA
  split
  · exact (hX.r.w _ (Nat.mod_lt _ (by assumption))).t.m
  · exact Nat.zero_le _
theorem faA_t (hX : OnIn w x) (i : Nat) : LiesH w w.heap.size (faA x i).A (faA x i).n (faA x i).T := by
  unfold faA
  split
  · exact hX.r.r.t _ (Nat.mod_lt _ (by assumption))
  · exact LiesH.nil_
theorem agW_is (hN : 4 ≤ N) (hb : bad < N) (hR : ∀ j, j < N → RowA V (gT + 1) N m C x bad j (Rs j)) (i s : Nat) (hs : s < N) : agM N s (fun j => (hRow x bad Rs i j).ro) N = agW N m C bad Rs s := by
  unfold agW
  by_cases e : s = bad
  · subst e
    rw [if_pos rfl]
    exact agM_congr fun k hk hks => by simp only [hRow]; rw [if_neg hks]
  · rw [if_neg e]
    refine agM_truth hN hs hb e (fun hi => ?_) fun k hk hks hkb => ?_
    · unfold truA at hi ⊢
      split at hi
      · cases hi
      · rename_i h; rw [if_neg h]
    · simp only [hRow]
      rw [if_neg hkb]
      obtain ⟨g, p, er, _, _⟩ := hR k hk
      rw [er]
      show (if true = true ∧ s < N then tabA m C x bad k s else heN) = _
      rw [if_pos ⟨rfl, hs⟩, tabA, if_neg e]
theorem agree_row (hN : 4 ≤ N ∧ N ≤ 16) (hb : bad < N) (hC : CellsIn w A0 m c0 C) (hX : OnIn w x) (h : P3 w a b x gz gx gT m C N bad N A c Rs V) (i g p : Nat) (hp : N ≤ p) (Z : List Value)
    (hB : Blk V g 54 (flL (fun j => (hRow x bad Rs i j).l) N ++ Z).toArray) :
    Calls Try.prog 40 #[.int .i64 (N : Int), .slice (some ⟨g, 0, none⟩) N p] V fun e w' => e = .returned (.slice (some ⟨V.heap.size, 0, none⟩) N N) ∧ Blk w' V.heap.size 118 (hesL (agW N m C bad Rs) N).toArray ∧ Below V.heap.size V w' := by
  have hrow : ∀ j, j < N → (hRow x bad Rs i j).n ≤ 9223372036854775807 ∧ (∀ s, CeW (tolM s (hRow x bad Rs i j).ro).c) ∧ LiesH V V.heap.size (hRow x bad Rs i j).A (hRow x bad Rs i j).n (hRow x bad Rs i j).T := by
    intro j hj
    unfold hRow
    by_cases e : j = bad
    · rw [if_pos e]
      exact ⟨faA_n hX i, faA_w hX i, ((faA_t hX i).low h.p.p.b).up h.p.p.b.size⟩
    · rw [if_neg e]
      obtain ⟨g', p', er, _, ht⟩ := h.r j hj
      rw [er]
      refine ⟨by show N ≤ _; omega, fun s => ?_, ht.lies⟩
      show CeW (if true = true ∧ s < N then tabA m C x bad j s else heN).c
      split
      · exact tabA_w hC hX j s
      · exact ceW_nil
  have hl : LiesF V V.heap.size (some ⟨g, 0, none⟩) N 57 (fun j => (hRow x bad Rs i j).l) := fun _ => by
    refine ⟨g, 0, rfl, hB.lt, fun j hj q v hv => ?_⟩
    have hq : q < 57 := by have := (List.getElem?_eq_some_iff.1 hv).1; rwa [Rw.l_len] at this
    have hlen : (flL (fun j => (hRow x bad Rs i j).l) N).length = N * 57 := flL_len (fun _ => Rw.l_len _) _
    rw [hB.cell, Nat.zero_add, List.getElem?_toArray, List.getElem?_append_left (by rw [hlen]; omega), flL_get (fun _ => Rw.l_len _) hj q hq]
    exact hv
  refine (agree_is N hN (some ⟨g, 0, none⟩) N p N (by omega) (.inr ⟨_, _, rfl⟩) hp (by omega) (hRow x bad Rs i) (fun k hk => (hrow k hk).1) (fun s k hs hk => (hrow k hk).2.1 s) V ⟨hl, fun k hk => (hrow k hk).2.2⟩).mono ?_
  rintro e w' ⟨rfl, q1, q2⟩
  refine ⟨rfl, ?_, q2⟩
  rwa [hesL_congr (fun s hs => agW_is hN.1 hb h.r i s hs)] at q1
/-- A row of them is another. -/
theorem rows_pin {U : World} {g n k : Nat} {f : Nat → List Value} {Z : List Value} (hf : ∀ i, (f i).length = 57) (h : Blk U g 54 (flL f n ++ Z).toArray) (hk : k < n) : PIn U g (k * 57) 54 (flL f k) (flL (fun j => f (k + 1 + j)) (n - (k + 1)) ++ Z) (f k) :=
  ⟨by rw [flL_at f hk] at h; simpa only [List.append_assoc] using h, flL_len hf _⟩
theorem rows_set {U : World} {g n k : Nat} {f : Nat → List Value} {Z y : List Value} (hk : k < n) (h : PIn U g (k * 57) 54 (flL f k) (flL (fun j => f (k + 1 + j)) (n - (k + 1)) ++ Z) y) : Blk U g 54 (flL (fun i => if i = k then y else f i) n ++ Z).toArray := by
  rw [← flL_upd f k y hk]
  have := h.blk
  simpa only [List.append_assoc] using this
end
end Go.Proofs.Ytdbljggjddnjcaa

