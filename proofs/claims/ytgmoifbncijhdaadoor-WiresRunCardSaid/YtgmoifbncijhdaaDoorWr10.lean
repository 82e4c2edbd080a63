/-
  The contracts of the reference's Here and End. Conditions: the reference's reading; fewer than 65536 ticks; numbers are of their kinds.
-/
import Derived.Test.YtgmoifbncijhdaaDoorWr9
import Derived.BigQuiet
namespace Go.Proofs.YtgmoifbncijhdaaDoor
open Go.RowKit Rg
set_option linter.unusedVariables false

theorem refLink_same (n d x h r : Int) (hr : linkM n d x h = r) (w : World) (hd : 0 ≤ d) : Calls Tryd.prog 31 #[.int .i64 n, .int .u8 d, .int .i64 x, .int .i64 h] w fun e w' => e = .returned (.int .i64 r) ∧ w' = w := by
  subst hr
  exact (refLink_any n d x h w hd).mono fun _ _ ⟨a, b⟩ => ⟨a, b.symm⟩
theorem refSource_same (n d x h r : Int) (hr : sourceM n d x h = r) (w : World) (hd : 0 ≤ d) : Calls Tryd.prog 32 #[.int .i64 n, .int .u8 d, .int .i64 x, .int .i64 h] w fun e w' => e = .returned (.int .i64 r) ∧ w' = w := by
  subst hr
  exact (refSource_any n d x h w hd).mono fun _ _ ⟨a, b⟩ => ⟨a, b.symm⟩
section
variable {w : World} {g base n : Nat} {rb : List Nat} {R : List (Nat → Option Int)} {A : Option Addr} {c : Nat}
set_option maxRecDepth 100000 in
theorem refHere_is (h : RefW w g base n rb R A c) (hR0 : 0 < R.length) (hRl : R.length ≤ 65536) (d x p : Int) (hd : 0 ≤ d) (o : Option Int) (ho : hereW n (hR R) d x p = o) :
    Calls Tryd.prog 17 #[.pointer (some ⟨g, 0, none⟩), .int .u8 d, .int .i64 x, .int .i64 p] w fun e w' => e = .returned (.tuple #[.int .i64 (o.getD 0), .bool o.isSome]) ∧ Below w.heap.size w w' := by
  have c0 := h.blk.cell 0
  have c1 := h.blk.cell 1
  have cl := h.blk.lt
  simp only [List.getElem?_toArray, List.getElem?_cons_zero, List.getElem?_cons_succ] at c0 c1
  obtain ⟨T, eT⟩ : ∃ T, T = R.length - 1 := ⟨_, rfl⟩
  have hT : R.length = T + 1 := by omega
  have HS := Lib.hid (fun W => refSource_same n d x p _ rfl W hd)
  have HK := Lib.hid (fun W => refLink_same n d (sourceM n d x p) p (toLink n d x p) rfl W hd)
  have hin : toLink n d x p = -1 ∨ 0 ≤ toLink n d x p := by
    rcases linkM_in (n := (n : Int)) (x := sourceM n d x p) (h := p) hd with q | q
    · exact .inl q
    · exact .inr q.1
  have hwT : IntKind.i64.wrap (((T + 1 : Nat) : Int) - 1) = (T : Int) := by rw [IntWalk.i64_in _ (by omega)]; omega
  have hwT2 : IntKind.i64.wrap ((T : Int) + 1 - 1) = (T : Int) := by rw [IntWalk.i64_in _ (by omega)]; omega
  have hwT3 : IntKind.i64.wrap (T : Int) = (T : Int) := IntWalk.i64_in _ (by omega)
  rw [hT] at c1
  have htl := fun q => toLink_hop (n := n) (d := d) (x := x) (h := p) hd q
  rw [hereW] at ho
  obtain ⟨k, ek⟩ : ∃ k, k = toLink n d x p := ⟨_, rfl⟩
  rw [← ek] at ho hin HK htl
  obtain ⟨s, es⟩ : ∃ s, s = sourceM n d x p := ⟨_, rfl⟩
  rw [← es] at HS HK
  have HD := Lib.hid (show Below w.heap.size w w.drew from (Below.refl _ _).drew)
  by_cases h0 : 0 ≤ k
  · obtain ⟨hhop, hp, hk4⟩ := htl h0
    obtain ⟨j, rfl⟩ : ∃ j : Nat, k = j := ⟨k.toNat, by omega⟩
    rw [if_pos h0, Int.toNat_natCast] at ho
    rw [Int.toNat_natCast] at hhop
    have hd1 : decide ((j : Int) < 0) = false := decide_eq_false (by omega)
    simp only [hR, hhop, hT] at ho
    by_cases hpT : p ≤ (T : Int)
    · obtain ⟨z, hz⟩ : ∃ z : Nat, (T : Int) - p = z := ⟨((T : Int) - p).toNat, by omega⟩
      have hwz : IntKind.i64.wrap ((T : Int) - p) = (z : Int) := by rw [hz]; exact IntWalk.i64_in _ (by omega)
      have hd2 : decide ((z : Int) < 0) = false := decide_eq_false (by omega)
      obtain ⟨b, hA, hbl, hbc⟩ := h.at_ (j := z) (by omega)
      have hrow := h.rws z (by omega)
      obtain ⟨x0, x1⟩ := gfC_cellT hrow (j := j) (by omega)
      have rl := hrow.lt
      have eo : R.getD z noneW j = o := by
        rw [← ho, if_pos (by omega), show T + 1 - 1 - p.toNat = z by omega]
      rw [eo] at x0 x1
      obtain ⟨N, hN4⟩ : ∃ N, N = 4 * n := ⟨_, rfl⟩
      have hix1 := fun W => idxAll b (T + 1) c (k := z) (by omega) W
      have hix2 := fun W => idxSt (rb.getD z 0) N N (k := j) (by omega) W
      subst hA
      rw [← hN4] at hbc
      obtain ⟨r, er⟩ : ∃ r, r = rb.getD z 0 := ⟨_, rfl⟩
      rw [← er] at x0 x1 rl hix2 hbc
      clear h hrow er hN4 hT eT hR0 hRl hd ho hin htl ek es h0 hhop hp hk4 hpT hz eo
      go_enter Tryd.func17, Tryd.ntmps17
      go_wp2_with fail
      go_quiet (first
        | (go_at_call 32; exact Calls.quiet_of_same (HS.out _))
        | (go_at_call 31; exact Calls.quiet_of_same (HK.out _)))
      go_wp2_with fail
      go_region
      all_goals (go_wp2_with fail)
      all_goals (go_ret2; exact ⟨rfl, ⟨rfl, rfl, rfl, Nat.le_refl _, fun _ _ => rfl⟩⟩)
    · have eo : o = none := by rw [← ho, if_neg (by omega)]
      subst eo
      have hwz : IntKind.i64.wrap ((T : Int) - p) = (T : Int) - p := IntWalk.i64_in _ (by omega)
      have hd2 : decide ((T : Int) - p < 0) = true := decide_eq_true (by omega)
      have hd3 : (T : Int) < p := by omega
      clear h hT eT hR0 hRl hd ho hin htl ek es h0 hhop hp hk4 hpT
      go_enter Tryd.func17, Tryd.ntmps17
      go_wp2_with fail
      go_quiet (first
        | (go_at_call 32; exact Calls.quiet_of_same (HS.out _))
        | (go_at_call 31; exact Calls.quiet_of_same (HK.out _)))
      go_wp2_with fail
      go_ret2
      exact ⟨rfl, ⟨rfl, rfl, rfl, Nat.le_refl _, fun _ _ => rfl⟩⟩
  · obtain rfl : k = -1 := by omega
    rw [if_neg (by decide)] at ho
    subst ho
    clear h hT eT hR0 hRl hd hin htl ek es h0
    go_enter Tryd.func17, Tryd.ntmps17
    go_wp2_with fail
    go_quiet (first
      | (go_at_call 32; exact Calls.quiet_of_same (HS.out _))
      | (go_at_call 31; exact Calls.quiet_of_same (HK.out _)))
    go_wp2_with fail
    go_ret2
    exact ⟨rfl, ⟨rfl, rfl, rfl, Nat.le_refl _, fun _ _ => rfl⟩⟩
end
theorem infoHd : (Tryd.prog.info? 66).map (fun i => (i.zero, i.size, i.bytes)) = some (some (.slice none 0 0), 1, 24) := by kernel_rfl
/-- append of one row's header more. -/
theorem run_append_hd (w : World) (base : Nat) (ty : TypeId) (A : Option Addr) (c l : Nat) (xs : List Value) (v : Value) (hv : v.oneCell' = true) (hown : w.ownsRow base 66 1 (.slice A l c) l xs) (b : Nat)
    (hB : Blk w b 66 #[v]) (hl : l ≤ 65536) (hbase : base ≤ w.heap.size) :
    ∃ A' c' w', (Builtin.append_ #[44, 44] ty #[.slice A l c, .slice (some ⟨b, 0, none⟩) 1 1]).run Tryd.prog w = .ok (.slice A' (l + 1) c') w' ∧
      w'.ownsRow base 66 1 (.slice A' (l + 1) c') (l + 1) (xs ++ [v]) ∧ w.grownBy w' (A.map (·.block)) := by
  obtain ⟨i, hi, hz, hs, hby⟩ := info_parts infoHd
  have hcells : ∀ j u, [v][j]? = some u → w.cell? ((⟨b, 0, none⟩ : Addr).add j) = some u := by
    intro j u hu
    rw [Addr.add_lit, hB.cell, ← hu]
    simp
  obtain ⟨v', w', hrun, h2, h3, _, h5⟩ := run_append_own_at (P := Tryd.prog) w base 44 ty 66 i _ 1 24 Tryd.underlying44 hi hz hs hby rfl (by decide) (.slice A l c) l _ hown ⟨b, 0, none⟩ 1 1 [v] rfl hcells (by simpa using hv) (by unfold maxLen; omega) (by omega) hbase
  have h3' : w.grownBy w' (A.map (·.block)) := by
    have e : (Value.slice A l c).ownBlock = A.map (·.block) := by cases A <;> rfl
    rw [← e]; exact h3
  rcases h2.2 with ⟨_, h0⟩ | ⟨g, cap, cur, hv, _⟩
  · omega
  · subst hv
    exact ⟨_, _, w', hrun, h2, h3'⟩
theorem step_append_hd {w : World} {ops : Array Oper} {o : Oper} {a : Act} {K : Act → World → Prop} {Q : Exit → Act → World → Prop} {E : Prop} (hgd : o.guard = none) (s x : Operand)
    (ho : o.op = .call { callee := .builtin .append, args := #[s, x], argTypes := #[44, 44] })
    (base : Nat) (A : Option Addr) (c l : Nat) (xs : List Value) (v : Value) (hv : v.oneCell' = true) (hs : a.eval s = .slice A l c) (hown : w.ownsRow base 66 1 (.slice A l c) l xs) (b : Nat)
    (hx : a.eval x = .slice (some ⟨b, 0, none⟩) 1 1) (hB : Blk w b 66 #[v]) (hl : l ≤ 65536) (hbase : base ≤ w.heap.size)
    (h : ∀ A' c' w', w'.ownsRow base 66 1 (.slice A' (l + 1) c') (l + 1) (xs ++ [v]) → w.grownBy w' (A.map (·.block)) → K (a.put o.dst (.slice A' (l + 1) c')) w') :
    if Region.wanted o (yielded ops a.tmps) = true then Oper.wp Tryd.prog o a w K Q else E := by
  have hw : Region.wanted o (yielded ops a.tmps) = true := by simp [Region.wanted, hgd]
  rw [if_pos hw]
  obtain ⟨A', c', w', hrun, h2, h3⟩ := run_append_hd w base o.type A c l xs v hv hown b hB hl hbase
  unfold Oper.wp
  simp only [execOp, ho, resolve, invoke, builtin, Sem.run_bind, Sem.run_pure, Result.andThen_ok, List.map_toArray, List.map_cons, List.map_nil, hs, hx, hrun]
  exact h A' c' w' h2 h3
theorem refw_push {w u w' : World} {g base n r : Nat} {rb : List Nat} {R : List (Nat → Option Int)} {A A' : Option Addr} {c c' : Nat} (h : RefW w g base n rb R A c) (hb : Below w.heap.size w u) (hr : Blk u r 36 (gfC noneW (4 * n)).toArray) (hrl : w.heap.size ≤ r)
    (hrow : w'.ownsRow base 66 1 (.slice A' (R.length + 1) c') (R.length + 1) (hdrs n rb ++ [.slice (some ⟨r, 0, none⟩) (4 * n) (4 * n)])) (hg : u.grownBy w' (A.map (·.block))) :
    RefW (w'.setCell ⟨g, 1, none⟩ (.slice A' (R.length + 1) c')) g base n (rb ++ [r]) (R ++ [noneW]) A' c' ∧ Blk w' g 46 #[.int .i64 (n : Int), .slice A R.length c] ∧ Below base w (w'.setCell ⟨g, 1, none⟩ (.slice A' (R.length + 1) c')) ∧ KeptT 32 w (w'.setCell ⟨g, 1, none⟩ (.slice A' (R.length + 1) c')) := by
  have H1 := h.on hb
  have own : ∀ x, A.map (·.block) = some x → base ≤ x ∧ ∃ cs, Blk u x 66 cs := by
    intro x hx
    rcases H1.row.2 with ⟨hv, _⟩ | ⟨g', cap, cur, hv, hg', hh, _⟩
    · injection hv with hA; subst hA; cases hx
    · injection hv with hA
      subst hA
      have : g' = x := by simpa using hx
      subst this
      exact ⟨hg', cur, hh⟩
  have keep : ∀ x t cs, Blk u x t cs → t ≠ 66 → Blk w' x t cs := by
    intro x t cs q ht
    refine (hg.block x q.lt fun e => ?_).trans q
    obtain ⟨_, cs', q'⟩ := own x e.symm
    exact q.ne8 q' ht rfl
  have hbl := keep _ _ _ H1.blk (by decide)
  have hbase : base ≤ w.heap.size := Nat.le_trans h.lo (Nat.le_of_lt h.blk.lt)
  have hset := hbl.set_ 1 (.slice A' (R.length + 1) c')
  have hlen : (R ++ [noneW]).length = R.length + 1 := by simp
  have hrbl := h.len
  refine ⟨⟨h.lo, ?_, by simp [hrbl], ?_, fun i hi => ?_, fun i hi => ?_, fun i j hij hj => ?_⟩, hbl, ?_, ?_⟩
  · rw [hlen]; simpa using hset
  · rw [hlen]
    have e : hdrs n (rb ++ [r]) = hdrs n rb ++ [.slice (some ⟨r, 0, none⟩) (4 * n) (4 * n)] := by simp [hdrs]
    rw [e]
    exact owns_on8 hrow fun x cs q => q.far (p := ⟨g, 1, none⟩) (q.ne8 hbl (by decide)) _
  · rw [hlen] at hi
    by_cases e : i = R.length
    · subst e
      rw [show (rb ++ [r]).getD R.length 0 = r by simp [List.getD, ← hrbl]]
      omega
    · rw [show (rb ++ [r]).getD i 0 = rb.getD i 0 by simp [List.getD, List.getElem?_append_left (show i < rb.length by omega)]]
      exact h.rlo i (by omega)
  · rw [hlen] at hi
    by_cases e : i = R.length
    · subst e
      rw [show (rb ++ [r]).getD R.length 0 = r by simp [List.getD, ← hrbl], show (R ++ [noneW]).getD R.length noneW = noneW by simp [List.getD]]
      have q := keep _ _ _ hr (by decide)
      exact q.far (p := ⟨g, 1, none⟩) (q.ne8 hbl (by decide)) _
    · rw [show (rb ++ [r]).getD i 0 = rb.getD i 0 by simp [List.getD, List.getElem?_append_left (show i < rb.length by omega)], getD_app _ (by omega)]
      have q := keep _ _ _ (H1.rws i (by omega)) (by decide)
      exact q.far (p := ⟨g, 1, none⟩) (q.ne8 hbl (by decide)) _
  · rw [hlen] at hj
    rw [show (rb ++ [r]).getD i 0 = rb.getD i 0 by simp [List.getD, List.getElem?_append_left (show i < rb.length by omega)]]
    by_cases e : j = R.length
    · subst e
      rw [show (rb ++ [r]).getD R.length 0 = r by simp [List.getD, ← hrbl]]
      have := (h.rws i hij).lt
      omega
    · rw [show (rb ++ [r]).getD j 0 = rb.getD j 0 by simp [List.getD, List.getElem?_append_left (show j < rb.length by omega)]]
      exact h.inj i j hij (by omega)
  · have q1 : Below base w u := hb.mono hbase
    exact (q1.grown hg (Nat.le_trans hbase hb.size) fun x hx => (own x hx).1).setCell h.lo _
  · intro x cs q
    have q2 := keep _ _ _ (q.on hb) (by decide)
    exact q2.far (p := ⟨g, 1, none⟩) (q2.ne8 hbl (by decide)) _
end Go.Proofs.YtgmoifbncijhdaaDoor
