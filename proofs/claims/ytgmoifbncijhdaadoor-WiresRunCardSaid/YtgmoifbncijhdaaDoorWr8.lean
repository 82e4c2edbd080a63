/-
  The reference's wires (all that was ever sent, tick by tick), and the contracts of its New, Set, Given, Here, End. Conditions: the reference's reading; fewer than 65536 ticks; numbers are of their kinds.
-/
import Derived.Test.YtgmoifbncijhdaaDoorWrM
import Derived.Test.YtgmoifbncijhdaaDoorRgRef4
import Derived.Test.YtgmoifbncijhdaaDoorApp
import Derived.Deep.QuietTactic
import Derived.Deep.RegionLaw
namespace Go.Proofs.YtgmoifbncijhdaaDoor
open Go.RowKit Rg
set_option linter.unusedVariables false

theorem Blk.ne8 {w : World} {g g' : Nat} {t t' : TypeId} {cs cs' : Array Value} (h : Blk w g t cs) (h' : Blk w g' t' cs') (hne : t ≠ t') : g ≠ g' := by
  rintro rfl
  unfold Blk at h h'
  rw [h] at h'
  injection h' with h'
  injection h' with _ h'
  exact hne h'
/-- Whole blocks of the type t stay. -/
def KeptT (t : TypeId) (w w' : World) : Prop := ∀ g cs, Blk w g t cs → Blk w' g t cs
theorem KeptT.trans {t : TypeId} {a b c : World} (h : KeptT t a b) (k : KeptT t b c) : KeptT t a c := fun g cs q => k g cs (h g cs q)
theorem KeptT.below {t : TypeId} {w w' : World} (h : Below w.heap.size w w') : KeptT t w w' := fun g cs q => q.on h
theorem owns_on8 {w w' : World} {base sz n : Nat} {e : TypeId} {v : Value} {xs : List Value} (h : w.ownsRow base e sz v n xs) (hk : ∀ g cs, Blk w g e cs → Blk w' g e cs) : w'.ownsRow base e sz v n xs := by
  refine ⟨h.1, ?_⟩
  rcases h.2 with q | ⟨g', cap, cur, hv, hg, hh, r⟩
  · exact .inl q
  · exact .inr ⟨g', cap, cur, hv, hg, hk g' cur hh, r⟩
/-- A row's header, as its list holds it. -/
def hdrs (n : Nat) (rb : List Nat) : List Value := rb.map fun r => .slice (some ⟨r, 0, none⟩) (4 * n) (4 * n)
theorem hdrs_len (n : Nat) (rb : List Nat) : (hdrs n rb).length = rb.length := by simp [hdrs]
theorem hdrs_at (n : Nat) (rb : List Nat) {j : Nat} (h : j < rb.length) : (hdrs n rb)[j]? = some (.slice (some ⟨rb.getD j 0, 0, none⟩) (4 * n) (4 * n)) := by
  simp [hdrs, h, List.getD]
theorem gfC_cellT {w : World} {a k : Nat} {t : TypeId} {G : Nat → Option Int} (h : Blk w a t (gfC G k).toArray) {j : Nat} (hj : j < k) :
    w.cell? ⟨a, j * 2, none⟩ = some (.int .i64 ((G j).getD 0)) ∧ w.cell? ⟨a, j * 2 + 1, none⟩ = some (.bool (G j).isSome) := by
  rw [h.cell, h.cell]
  simpa using gfC_at G k hj
/-- What the reference holds: of each tick what each link sent. -/
structure RefW (w : World) (g base n : Nat) (rb : List Nat) (R : List (Nat → Option Int)) (A : Option Addr) (c : Nat) : Prop where
  lo : base ≤ g
  blk : Blk w g 46 #[.int .i64 (n : Int), .slice A R.length c]
  len : rb.length = R.length
  row : w.ownsRow base 66 1 (.slice A R.length c) R.length (hdrs n rb)
  rlo : ∀ i, i < R.length → base ≤ rb.getD i 0
  rws : ∀ i, i < R.length → Blk w (rb.getD i 0) 36 (gfC (R.getD i noneW) (4 * n)).toArray
  inj : ∀ i j, i < j → j < R.length → rb.getD i 0 < rb.getD j 0
section
variable {w w' : World} {g base n : Nat} {rb : List Nat} {R : List (Nat → Option Int)} {A : Option Addr} {c : Nat}
theorem RefW.keep (h : RefW w g base n rb R A c) (hk : ∀ b t cs, base ≤ b → Blk w b t cs → Blk w' b t cs) : RefW w' g base n rb R A c := by
  refine ⟨h.lo, hk _ _ _ h.lo h.blk, h.len, ?_, h.rlo, fun i hi => hk _ _ _ (h.rlo i hi) (h.rws i hi), h.inj⟩
  refine ⟨h.row.1, ?_⟩
  rcases h.row.2 with q | ⟨g', cap, cur, hv, hg, hh, r⟩
  · exact .inl q
  · exact .inr ⟨g', cap, cur, hv, hg, hk g' _ cur hg hh, r⟩
theorem RefW.on (h : RefW w g base n rb R A c) (hb : Below w.heap.size w w') : RefW w' g base n rb R A c := h.keep fun _ _ _ _ q => q.on hb
theorem RefW.span {b0 b1 : Nat} (h : RefW w g base n rb R A c) (hs : Span b0 b1 w w') (hb : b1 ≤ base) : RefW w' g base n rb R A c := h.keep fun _ _ _ hx q => hs.blk q (.inr (Nat.le_trans hb hx))
/-- Where a row lies. -/
theorem RefW.at_ (h : RefW w g base n rb R A c) {j : Nat} (hj : j < R.length) : ∃ b, A = some ⟨b, 0, none⟩ ∧ b < w.heap.size ∧ w.cell? ⟨b, j, none⟩ = some (.slice (some ⟨rb.getD j 0, 0, none⟩) (4 * n) (4 * n)) := by
  rcases h.row.2 with ⟨_, h0⟩ | ⟨b, cap, cur, hv, _, hh, _, _, hs, ht⟩
  · omega
  · injection hv with hA
    subst hA
    have hB : Blk w b 66 cur := hh
    have c1 := hdrs_at n rb (j := j) (by rw [h.len]; exact hj)
    rw [← ht] at c1
    rw [List.getElem?_take_of_lt (by omega)] at c1
    refine ⟨b, rfl, hB.lt, ?_⟩
    rw [hB.cell, ← c1]; simp
/-- One cell pair of a row is written. -/
theorem RefW.put (h : RefW w g base n rb R A c) {j k : Nat} (hj : j < R.length) (hk : k < 4 * n) (o : Option Int) (u : World) (hu : Below w.heap.size w u) {R' : List (Nat → Option Int)} (hR : R' = R.set j (upd (R.getD j noneW) k o)) :
    RefW ((u.setCell ⟨rb.getD j 0, k * 2, none⟩ (.int .i64 (o.getD 0))).setCell ⟨rb.getD j 0, k * 2 + 1, none⟩ (.bool o.isSome)) g base n rb R' A c ∧ Below base w ((u.setCell ⟨rb.getD j 0, k * 2, none⟩ (.int .i64 (o.getD 0))).setCell ⟨rb.getD j 0, k * 2 + 1, none⟩ (.bool o.isSome)) ∧
      KeptT 32 w ((u.setCell ⟨rb.getD j 0, k * 2, none⟩ (.int .i64 (o.getD 0))).setCell ⟨rb.getD j 0, k * 2 + 1, none⟩ (.bool o.isSome)) := by
  subst hR
  have h' := h.on hu
  have hA := ((h'.rws j hj).set_ (k * 2) (.int .i64 (o.getD 0))).set_ (k * 2 + 1) (.bool o.isSome)
  rw [gfC_set _ o hk] at hA
  have hb : But (rb.getD j 0) u ((u.setCell ⟨rb.getD j 0, k * 2, none⟩ (.int .i64 (o.getD 0))).setCell ⟨rb.getD j 0, k * 2 + 1, none⟩ (.bool o.isSome)) := (But.one _ _).set _ _
  have hlen : (R.set j (upd (R.getD j noneW) k o)).length = R.length := by simp
  have hbase : base ≤ w.heap.size := Nat.le_trans h.lo (Nat.le_of_lt h.blk.lt)
  refine ⟨⟨h.lo, ?_, by rw [hlen]; exact h.len, ?_, fun i hi => h.rlo i (by omega), fun i hi => ?_, fun i q hi hq => h.inj i q hi (by omega)⟩, (hu.mono hbase).trans (hb.low (h.rlo j hj)), fun x cs q => hb.blk (q.on hu) ((q.on hu).ne8 (h'.rws j hj) (by decide))⟩
  · rw [hlen]
    exact hb.blk h'.blk (h'.blk.ne8 (h'.rws j hj) (by decide))
  · rw [hlen]
    exact owns_on8 h'.row fun x cs q => hb.blk q (q.ne8 (h'.rws j hj) (by decide))
  · rw [hlen] at hi
    by_cases e : i = j
    · subst e
      rw [show (R.set i (upd (R.getD i noneW) k o)).getD i noneW = upd (R.getD i noneW) k o by simp [List.getD, hi]]
      exact hA
    · rw [show (R.set j (upd (R.getD j noneW) k o)).getD i noneW = R.getD i noneW by simp [List.getD, List.getElem?_set_ne (fun q => e q.symm)]]
      refine hb.blk (h'.rws i hi) fun q => e ?_
      rcases Nat.lt_trichotomy i j with z | z | z
      · have := h.inj i j z hj; omega
      · exact z
      · have := h.inj j i z hi; omega
end
/-- What is here, what is next, and what is given, by all that was sent. -/
def hR (R : List (Nat → Option Int)) : Nat → Option Int := fun i => if hopN i ≤ (R.length : Int) - 1 then R.getD (R.length - 1 - (hopN i).toNat) noneW i else none
def xR (R : List (Nat → Option Int)) : Nat → Option Int := fun i => if hopN i = 2 ∧ 2 ≤ R.length then R.getD (R.length - 2) noneW i else none
def gR (R : List (Nat → Option Int)) : Nat → Option Int := R.getD (R.length - 1) noneW
def setR (n : Nat) (R : List (Nat → Option Int)) (k : Int) (o : Option Int) : List (Nat → Option Int) := if inB n k = true then R.set (R.length - 1) (upd (gR R) k.toNat o) else R
theorem setR_len (n : Nat) (R : List (Nat → Option Int)) (k : Int) (o : Option Int) : (setR n R k o).length = R.length := by
  unfold setR; split <;> simp
theorem gR_set (n : Nat) (R : List (Nat → Option Int)) (k : Int) (o : Option Int) (h : 0 < R.length) : gR (setR n R k o) = updW n (gR R) k o := by
  unfold gR updW
  rw [setR_len]
  unfold setR
  split
  · rw [show (R.set (R.length - 1) (upd (gR R) k.toNat o)).getD (R.length - 1) noneW = upd (gR R) k.toNat o by rw [List.getD, List.getElem?_set_self (by omega)]; rfl]
    rfl
  · rfl
theorem getD_set_far {R : List (Nat → Option Int)} {j i : Nat} (v : Nat → Option Int) (h : i ≠ j) : (R.set j v).getD i noneW = R.getD i noneW := by
  simp [List.getD, List.getElem?_set_ne (fun q => h q.symm)]
theorem hR_set (n : Nat) (R : List (Nat → Option Int)) (k : Int) (o : Option Int) : hR (setR n R k o) = hR R := by
  funext i
  simp only [hR, setR_len]
  by_cases c : hopN i ≤ (R.length : Int) - 1
  · rw [if_pos c, if_pos c]
    unfold setR
    split
    · rw [getD_set_far _ (by have := hopN_ok i; omega)]
    · rfl
  · rw [if_neg c, if_neg c]
theorem xR_set (n : Nat) (R : List (Nat → Option Int)) (k : Int) (o : Option Int) : xR (setR n R k o) = xR R := by
  funext i
  simp only [xR, setR_len]
  by_cases c : hopN i = 2 ∧ 2 ≤ R.length
  · rw [if_pos c, if_pos c]
    unfold setR
    split
    · rw [getD_set_far _ (by omega)]
    · rfl
  · rw [if_neg c, if_neg c]
theorem getD_app {R : List (Nat → Option Int)} {i : Nat} (v : Nat → Option Int) (h : i < R.length) : (R ++ [v]).getD i noneW = R.getD i noneW := by
  simp [List.getD, List.getElem?_append_left h]
theorem gR_app (R : List (Nat → Option Int)) : gR (R ++ [noneW]) = noneW := by
  simp [gR, List.getD]
theorem now_R (R : List (Nat → Option Int)) (h : 0 < R.length) : nowW (xR R) (gR R) = hR (R ++ [noneW]) := by
  funext i
  simp only [nowW, nowL, xR, gR, hR, List.length_append, List.length_singleton]
  rcases hopN_ok i with e | e
  · rw [if_pos e, e, if_pos (by omega), getD_app _ (by omega)]
    congr 2
  · rw [if_neg (by omega), e]
    by_cases c : 2 ≤ R.length
    · rw [if_pos ⟨rfl, c⟩, if_pos (by omega), getD_app _ (by omega)]
      congr 2
    · rw [if_neg (by omega), if_neg (by omega)]
theorem next_R (R : List (Nat → Option Int)) (h : 0 < R.length) : nextW (xR R) (gR R) = xR (R ++ [noneW]) := by
  funext i
  simp only [nextW, nextL, xR, gR, List.length_append, List.length_singleton]
  rcases hopN_ok i with e | e
  · rw [if_pos e, e, if_neg (by omega), if_neg (by omega)]
  · rw [if_neg (by omega), e, if_pos ⟨rfl, by omega⟩, getD_app _ (by omega)]
    congr 2
theorem toLink_hop {n : Nat} {d x h : Int} (hd : 0 ≤ d) (hk : 0 ≤ toLink n d x h) : hopN (toLink n d x h).toNat = h ∧ (h = 1 ∨ h = 2) ∧ toLink n d x h < 4 * n := by
  rw [toLink] at hk ⊢
  unfold linkM at hk ⊢
  split at hk
  · rename_i q
    simp only [Bool.and_eq_true] at q
    have q1 := ex1.1 q.1
    have q2 := hop_iff.1 q.2
    rw [if_pos (by simp only [Bool.and_eq_true]; exact q)]
    refine ⟨?_, q2, ?_⟩
    · rw [hopN]; omega
    · omega
  · omega
end Go.Proofs.YtgmoifbncijhdaaDoor
