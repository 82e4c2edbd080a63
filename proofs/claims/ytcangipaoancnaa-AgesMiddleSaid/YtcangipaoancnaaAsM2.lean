/-
  The mathematics of the common age: it lies among the others' ages. No condition but the number of nodes.
-/
import Derived.Test.YtcangipaoancnaaAsM
namespace Go.Proofs.Ytcangipaoancnaa
set_option linter.unusedVariables false
set_option linter.unusedSimpArgs false

/-- Does an entry count? -/
def cntH (h : He) : Bool := h.i && agB h.c.a
theorem agesOf_succ (T : Nat → He) (k : Nat) : agesOf T (k + 1) = agesOf T k ++ (if cntH (T k) = true then [(T k).c.a] else []) := by
  show _ ++ _ = _
  congr 1
  unfold cntH
  by_cases h1 : (T k).i = true <;> by_cases h2 : agB (T k).c.a = true <;> simp [h1, h2]
/-- The ages of all but one. -/
def agesX (T : Nat → He) (bad : Nat) : Nat → List Int
  | 0 => []
  | k + 1 => agesX T bad k ++ (if (decide (k ≠ bad) && cntH (T k)) = true then [(T k).c.a] else [])
def optB (T : Nat → He) (bad k : Nat) : List Int := if (decide (bad < k) && cntH (T bad)) = true then [(T bad).c.a] else []
theorem agesX_perm (T : Nat → He) (bad : Nat) : ∀ k, (agesOf T k).Perm (optB T bad k ++ agesX T bad k)
  | 0 => by simp [agesOf, agesX, optB]
  | k + 1 => by
    have ih := agesX_perm T bad k
    rw [agesOf_succ]
    show List.Perm _ (_ ++ (agesX T bad k ++ _))
    by_cases e : k = bad
    · subst e
      have h1 : optB T k k = [] := by unfold optB; simp
      have h2 : optB T k (k + 1) = if cntH (T k) = true then [(T k).c.a] else [] := by unfold optB; simp
      rw [h1, List.nil_append] at ih
      rw [h2]
      simp only [ne_eq, not_true_eq_false, decide_false, Bool.false_and, Bool.false_eq_true, if_false, List.append_nil]
      exact (ih.append_right _).trans List.perm_append_comm
    · have h1 : optB T bad (k + 1) = optB T bad k := by
        unfold optB
        rw [show decide (bad < k + 1) = decide (bad < k) from decide_eq_decide.2 (by omega)]
      rw [h1, ← List.append_assoc]
      have h2 : (decide (k ≠ bad) && cntH (T k)) = cntH (T k) := by simp [e]
      rw [h2]
      exact ih.append_right _
theorem optB_len (T : Nat → He) (bad k : Nat) : (optB T bad k).length ≤ 1 := by unfold optB; split <;> simp
theorem ages_ok {T : Nat → He} {x : Int} : ∀ k, x ∈ agesOf T k → 0 ≤ x
  | 0, h => by simp [agesOf] at h
  | k + 1, h => by
    rw [agesOf_succ, List.mem_append] at h
    rcases h with h | h
    · exact ages_ok k h
    · split at h
      · rename_i hc
        simp at h
        subst h
        unfold cntH agB at hc
        simp at hc
        omega
      · simp at h
/-- What is known of the least and the greatest. -/
structure MinMax (L : List Int) (lo hi : Int) : Prop where
  e : L = [] → lo = -1 ∧ hi = -1
  lb : ∀ x ∈ L, lo ≤ x
  ub : ∀ x ∈ L, x ≤ hi
  ne : L ≠ [] → 0 ≤ lo ∧ lo ∈ L ∧ hi ∈ L
theorem MinMax.nil : MinMax [] (-1) (-1) := ⟨fun _ => ⟨rfl, rfl⟩, fun x h => (by simp at h), fun x h => (by simp at h), fun h => absurd rfl h⟩
theorem MinMax.push {L : List Int} {lo hi a : Int} (h : MinMax L lo hi) (ha : 0 ≤ a) : MinMax (L ++ [a]) (if lo < 0 ∨ a < lo then a else lo) (max hi a) := by
  by_cases hL : L = []
  · obtain ⟨e1, e2⟩ := h.e hL
    subst hL e1 e2
    refine ⟨fun h => by simp at h, fun x hx => ?_, fun x hx => ?_, fun _ => ⟨?_, ?_, ?_⟩⟩
    · simp at hx; subst hx; simp
    · simp at hx; subst hx; omega
    · simp; exact ha
    · simp
    · simp; omega
  · obtain ⟨n1, n2, n3⟩ := h.ne hL
    refine ⟨fun h => by simp at h, fun x hx => ?_, fun x hx => ?_, fun _ => ⟨?_, ?_, ?_⟩⟩
    · rw [List.mem_append] at hx
      rcases hx with hx | hx
      · have := h.lb x hx; split <;> omega
      · simp at hx; subst hx; split <;> omega
    · rw [List.mem_append] at hx
      rcases hx with hx | hx
      · have := h.ub x hx; omega
      · simp at hx; subst hx; omega
    · split <;> omega
    · rw [List.mem_append]
      split
      · right; simp
      · left; exact n2
    · rw [List.mem_append]
      by_cases h2 : hi ≤ a
      · right; rw [show max hi a = a by omega]; simp
      · left; rw [show max hi a = hi by omega]; exact n3
theorem cnt_le_opt {p : Int → Bool} {xs opt ys : List Int} (h : xs.Perm (opt ++ ys)) (ho : opt.length ≤ 1) : xs.countP p ≤ ys.countP p + 1 ∧ ys.countP p ≤ xs.countP p ∧ xs.length ≤ ys.length + 1 ∧ ys.length ≤ xs.length := by
  have e1 := h.countP_eq p
  have e2 := h.length_eq
  rw [List.countP_append] at e1
  rw [List.length_append] at e2
  have := List.countP_le_length (p := p) (l := opt)
  omega
/-- The common age lies among the others'. -/
theorem com_middle {T : Nat → He} {N bad : Nat} (hN : 4 ≤ N) {lo hi : Int} (hm : MinMax (agesX T bad N) lo hi) :
    (0 ≤ comM N N T → N - 2 ≤ (agesX T bad N).length ∧ lo ≤ comM N N T ∧ comM N N T ≤ hi) ∧ ((agesX T bad N).length = N - 1 → 0 ≤ comM N N T ∧ (lo = hi → comM N N T = lo)) := by
  have hp := agesX_perm T bad N
  have ho := optB_len T bad N
  obtain ⟨_, _, l1, l2⟩ := cnt_le_opt (p := fun _ => true) hp ho
  have key : ¬ (agesOf T N).length < N - 1 → 0 ≤ comM N N T ∧ N - 2 ≤ (agesX T bad N).length ∧ lo ≤ comM N N T ∧ comM N N T ≤ hi := fun hl => by
    have hlen : (srt (agesOf T N)).length = (agesOf T N).length := srt_len _
    have hpl : ((agesOf T N).length - 1) / 2 < (srt (agesOf T N)).length := by rw [hlen]; omega
    obtain ⟨x, hx⟩ : ∃ x, (srt (agesOf T N))[((agesOf T N).length - 1) / 2]? = some x := ⟨_, List.getElem?_eq_getElem hpl⟩
    have hc : comM N N T = x := by unfold comM; rw [if_neg hl, List.getD_eq_getElem?_getD, hx]; rfl
    obtain ⟨c1, c2⟩ := sorted_counts _ _ x (srt_sorted _) hx
    have hxm : x ∈ agesOf T N := (srt_perm _).mem_iff.1 (List.mem_of_getElem? hx)
    unfold ltN at c1
    unfold leN at c2
    rw [(srt_perm _).countP_eq] at c1 c2
    obtain ⟨a1, a2, _, _⟩ := cnt_le_opt (p := fun y => decide (y ≤ x)) hp ho
    obtain ⟨b1, b2, _, _⟩ := cnt_le_opt (p := fun y => decide (y < x)) hp ho
    have h1 : 0 < (agesX T bad N).countP (fun y => decide (y ≤ x)) := by omega
    have h2 : (agesX T bad N).countP (fun y => decide (y < x)) < (agesX T bad N).length := by omega
    obtain ⟨y1, hy1, hy2⟩ := List.countP_pos_iff.1 h1
    have h3 : ∃ y ∈ agesX T bad N, x ≤ y := by
      by_cases hall : ∀ y ∈ agesX T bad N, decide (y < x) = true
      · rw [List.countP_eq_length.2 hall] at h2; omega
      · have : ∃ y, y ∈ agesX T bad N ∧ ¬ decide (y < x) = true := by
          by_cases hq : ∃ y, y ∈ agesX T bad N ∧ ¬ decide (y < x) = true
          · exact hq
          · exact absurd (fun y hy => by by_cases hz : decide (y < x) = true; exact hz; exact absurd ⟨y, hy, hz⟩ hq) hall
        obtain ⟨y, hy, hz⟩ := this
        exact ⟨y, hy, by simp at hz; omega⟩
    obtain ⟨y2, hy3, hy4⟩ := h3
    rw [hc]
    refine ⟨ages_ok N hxm, by omega, ?_, ?_⟩
    · have := hm.lb y1 hy1; simp at hy2; omega
    · have := hm.ub y2 hy3; omega
  refine ⟨fun h0 => ?_, fun hn => ?_⟩
  · by_cases hl : (agesOf T N).length < N - 1
    · exfalso
      have : comM N N T = -1 := by unfold comM; rw [if_pos hl]
      omega
    · exact (key hl).2
  · obtain ⟨k0, _, k1, k2⟩ := key (by omega)
    exact ⟨k0, fun e => by omega⟩
theorem agesOf_add (T : Nat → He) (a : Nat) : ∀ b, agesOf T (a + b) = agesOf T a ++ agesOf (fun i => T (a + i)) b
  | 0 => by simp [agesOf]
  | b + 1 => by
    rw [← Nat.add_assoc, agesOf_succ, agesOf_succ, agesOf_add T a b, List.append_assoc]
theorem agesOf_congr {T U : Nat → He} : ∀ n, (∀ i, i < n → T i = U i) → agesOf T n = agesOf U n
  | 0, _ => rfl
  | n + 1, h => by rw [agesOf_succ, agesOf_succ, h n (by omega), agesOf_congr n fun i hi => h i (by omega)]
/-- Turned round. -/
def rotT (T : Nat → He) (N k : Nat) (i : Nat) : He := if i < N - k then T (k + i) else T (i - (N - k))
theorem com_rot {T : Nat → He} {N k : Nat} (hk : k ≤ N) : comM N N (rotT T N k) = comM N N T := by
  have e1 : agesOf (rotT T N k) N = agesOf (fun i => T (k + i)) (N - k) ++ agesOf T k := by
    have h := agesOf_add (rotT T N k) (N - k) k
    rw [show N - k + k = N by omega] at h
    rw [h]
    congr 1
    · exact agesOf_congr _ fun i hi => if_pos hi
    · exact agesOf_congr _ fun i hi => by
        show rotT T N k (N - k + i) = T i
        unfold rotT
        rw [if_neg (by omega), show N - k + i - (N - k) = i by omega]
  have e2 : agesOf T N = agesOf T k ++ agesOf (fun i => T (k + i)) (N - k) := by
    have h := agesOf_add T k (N - k)
    rwa [show k + (N - k) = N by omega] at h
  have hp : (agesOf (rotT T N k) N).Perm (agesOf T N) := by rw [e1, e2]; exact List.perm_append_comm
  unfold comM
  rw [srt_eq hp, hp.length_eq]
end Go.Proofs.Ytcangipaoancnaa

