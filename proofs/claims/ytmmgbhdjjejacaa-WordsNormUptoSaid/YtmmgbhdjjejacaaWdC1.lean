/-
  Rows of which one part is turned: what they are, and that they are others. Nothing of the program's run is in it; no condition.
-/
import Derived.Test.YtmmgbhdjjejacaaWdL2
namespace Go.Proofs.Ytmmgbhdjjejacaa
open Go.RowKit
set_option linter.unusedVariables false
set_option linter.unusedSimpArgs false

def setV (v : Vector Int 8) (j : Nat) (x : Int) : Vector Int 8 := v.setIfInBounds j x
theorem nuL_set (k : IntKind) (v : Vector Int 8) (j : Nat) (x : Int) : nuL k (setV v j x) = (nuL k v).set j (.int k x) := by
  unfold nuL setV
  rw [← List.map_set]
  congr 1
  obtain ⟨⟨l⟩, h⟩ := v
  simp
theorem nuL_at (k : IntKind) (v : Vector Int 8) (j : Nat) (hj : j < 8) : (nuL k v)[j]? = some (.int k (v.toList.getD j 0)) := by
  unfold nuL
  simp [List.getD, hj]
theorem setV_ne (v : Vector Int 8) (j : Nat) (hj : j < 8) (x : Int) (hx : x ≠ v.toList.getD j 0) : setV v j x ≠ v := by
  intro e
  have h := nuL_at .u8 (setV v j x) j hj
  have hl := nuL_len .u8 v
  rw [nuL_set, List.getElem?_set_self (by omega)] at h
  rw [e] at h
  injection h with h
  injection h with _ h
  exact hx h
/-- A cell of which Miss of a pair is another one, Score of a pair. -/
def Ce.miss (c : Ce) (j : Nat) (x : Int) : Ce := { c with v := { c.v with m := setV c.v.m j x } }
def Ce.score (c : Ce) (j : Nat) (x : Int) : Ce := { c with v := { c.v with s := setV c.v.s j x } }
theorem ce_parts (c : Ce) : ceL c = (.int .i64 c.a :: (saL c.o ++ (saL c.r ++ boL c.v.n))) ++ (nuL .u8 c.v.m ++ (nuL .u8 c.v.g ++ (nuL .u16 c.v.s ++ (boL c.v.t ++ [.int .i8 c.v.c, .int .u8 c.v.d])))) := by
  simp [ceL, vwL, vrL]
theorem ce_miss (c : Ce) (j : Nat) (hj : j < 8) (x : Int) : (ceL c).set (21 + j) (.int .u8 x) = ceL (c.miss j x) := by
  rw [ce_parts, ce_parts, List.set_append_right _ _ (by simp [saL_len, boL_len]), List.set_append_left _ _ (by simp [saL_len, boL_len, nuL_len]; omega)]
  congr 2
  rw [show 21 + j - (Value.int .i64 c.a :: (saL c.o ++ (saL c.r ++ boL c.v.n))).length = j by simp [saL_len, boL_len]]
  exact (nuL_set .u8 c.v.m j x).symm
theorem ce_score (c : Ce) (j : Nat) (hj : j < 8) (x : Int) : (ceL c).set (37 + j) (.int .u16 x) = ceL (c.score j x) := by
  have e : ∀ c : Ce, ceL c = (.int .i64 c.a :: (saL c.o ++ (saL c.r ++ (boL c.v.n ++ (nuL .u8 c.v.m ++ nuL .u8 c.v.g))))) ++ (nuL .u16 c.v.s ++ (boL c.v.t ++ [.int .i8 c.v.c, .int .u8 c.v.d])) := fun c => by simp [ceL, vwL, vrL]
  rw [e, e, List.set_append_right _ _ (by simp [saL_len, boL_len, nuL_len]), List.set_append_left _ _ (by simp [saL_len, boL_len, nuL_len]; omega)]
  congr 2
  rw [show 37 + j - (Value.int .i64 c.a :: (saL c.o ++ (saL c.r ++ (boL c.v.n ++ (nuL .u8 c.v.m ++ nuL .u8 c.v.g))))).length = j by simp [saL_len, boL_len, nuL_len]]
  exact (nuL_set .u16 c.v.s j x).symm
theorem ce_miss_at (c : Ce) (j : Nat) (hj : j < 8) : (ceL c)[21 + j]? = some (.int .u8 (c.v.m.toList.getD j 0)) := by
  rw [ce_parts, List.getElem?_append_right (by simp [saL_len, boL_len]), List.getElem?_append_left (by simp [saL_len, boL_len, nuL_len]; omega)]
  rw [show 21 + j - (Value.int .i64 c.a :: (saL c.o ++ (saL c.r ++ boL c.v.n))).length = j by simp [saL_len, boL_len]]
  exact nuL_at _ _ j hj
theorem ce_score_at (c : Ce) (j : Nat) (hj : j < 8) : (ceL c)[37 + j]? = some (.int .u16 (c.v.s.toList.getD j 0)) := by
  have e : ceL c = (.int .i64 c.a :: (saL c.o ++ (saL c.r ++ (boL c.v.n ++ (nuL .u8 c.v.m ++ nuL .u8 c.v.g))))) ++ (nuL .u16 c.v.s ++ (boL c.v.t ++ [.int .i8 c.v.c, .int .u8 c.v.d])) := by simp [ceL, vwL, vrL]
  rw [e, List.getElem?_append_right (by simp [saL_len, boL_len, nuL_len]), List.getElem?_append_left (by simp [saL_len, boL_len, nuL_len]; omega)]
  rw [show 37 + j - (Value.int .i64 c.a :: (saL c.o ++ (saL c.r ++ (boL c.v.n ++ (nuL .u8 c.v.m ++ nuL .u8 c.v.g))))).length = j by simp [saL_len, boL_len, nuL_len]]
  exact nuL_at _ _ j hj
theorem ro_set (b : Bool) (c d : Ce) (A : Option Addr) (n p i : Nat) (v : Value) (hi : i < 55) (h : (ceL c).set i v = ceL d) : (roL b c A n p).set (i + 1) v = roL b d A n p := by
  unfold roL
  rw [List.set_cons_succ, List.set_append_left _ _ (by rw [ceL_len]; exact hi), h]
theorem ro_at (b : Bool) (c : Ce) (A : Option Addr) (n p i : Nat) (hi : i < 55) : (roL b c A n p)[i + 1]? = (ceL c)[i]? := by
  unfold roL
  rw [List.getElem?_cons_succ, List.getElem?_append_left (by rw [ceL_len]; exact hi)]
theorem wrap_ne (k : IntKind) (hk : k = .i64 ∨ k = .u32 ∨ k = .u16 ∨ k = .u8) (x : Int) : k.wrap (x + 1) ≠ x := by
  intro h
  rcases hk with rfl | rfl | rfl | rfl <;> simp [IntKind.wrap, IntKind.bits, IntKind.signed] at h <;> omega
theorem eqR_self (a : Ro) : eqR a a = true := (eqR_iff a a).2 ⟨rfl, rfl, rfl, fun _ _ => rfl⟩
theorem eqR_no {a b : Ro} (h : a.b ≠ b.b ∨ a.c ≠ b.c ∨ a.n ≠ b.n ∨ ∃ i, i < a.n ∧ a.T i ≠ b.T i) : eqR a b = false ∧ eqR b a = false := by
  constructor
  · cases e : eqR a b
    · rfl
    · obtain ⟨h1, h2, h3, h4⟩ := (eqR_iff a b).1 e
      rcases h with h | h | h | ⟨i, hi, h⟩
      · exact absurd h1 h
      · exact absurd h2 h
      · exact absurd h3 h
      · exact absurd (h4 i hi) h
  · cases e : eqR b a
    · rfl
    · obtain ⟨h1, h2, h3, h4⟩ := (eqR_iff b a).1 e
      rcases h with h | h | h | ⟨i, hi, h⟩
      · exact absurd h1.symm h
      · exact absurd h2.symm h
      · exact absurd h3.symm h
      · exact absurd (h4 i (by omega)).symm h
theorem copy_any (r : Rw) (hn : r.A = none → r.n = 0 ∧ r.p = 0) (hm : r.n ≤ 65536) (w : World) (hT : LiesH w w.heap.size r.A r.n r.T) :
    Calls Try.prog 21 #[.agg r.l.toArray] w fun e w' => ∃ L : List Value, e = .returned (.agg L.toArray) ∧ RowO w' w.heap.size r.ro L ∧ Below w.heap.size w w' := by
  obtain ⟨b, c, A, n, p, T⟩ := r
  cases A with
  | none => exact (copy_nil b c n p w).mono fun e w' ⟨h1, h2⟩ => ⟨_, h1, ⟨none, p, rfl, .inl ⟨rfl, hn rfl⟩⟩, h2⟩
  | some ad => exact copy_some b c ad n p hm T w hT
theorem Blk.ownsF {w : World} {g n size : Nat} {e : TypeId} {xs : List Value} (h : Blk w g e xs.toArray) (hl : xs.length = n * size) (hm : n ≤ maxLen) : w.ownsRow 0 e size (.slice (some ⟨g, 0, none⟩) n n) n xs :=
  ⟨hl, .inr ⟨g, n, xs.toArray, rfl, Nat.zero_le _, h, Nat.le_refl _, hm, by simp [hl], by simp [← hl]⟩⟩
end Go.Proofs.Ytmmgbhdjjejacaa

