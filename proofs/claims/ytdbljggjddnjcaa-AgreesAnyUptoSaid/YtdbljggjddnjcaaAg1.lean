/-
  Package agrees: what is told of a source by a row; what is agreed of a source. Conditions: the rows' readings; the cells' numbers are such as their kinds may be.
-/
import Derived.Test.YtdbljggjddnjcaaAgM
import Derived.Test.YtdbljggjddnjcaaWd9
import Derived.Test.YtdbljggjddnjcaaRegXI
import Derived.Test.YtdbljggjddnjcaaWdI1
namespace Go.Proofs.Ytdbljggjddnjcaa
open Go.RowKit
set_option linter.unusedVariables false
set_option linter.unusedSimpArgs false

/-- What is told of a source by a row. -/
def tolM (s : Nat) (r : Ro) : He := if r.b = true ∧ s < r.n then r.T s else heN
set_option maxRecDepth 100000 in
theorem builtHeld0 : (Try.prog).built 118 [] = some (heL heN).toArray := by kernel_rfl
set_option maxRecDepth 100000 in
set_option maxHeartbeats 1000000 in
theorem toldOf_is (s : Nat) (r : Rw) (hs : s ≤ 65536) (hn : r.n ≤ 9223372036854775807) (w : World) (hT : LiesH w w.heap.size r.A r.n r.T) :
    Calls Try.prog 78 #[.int .i64 (s : Int), .agg r.l.toArray] w fun e w' => e = .returned (.agg (heL (tolM s r.ro)).toArray) ∧ Below w.heap.size w w' := by
  have HT := Lib.hid hT
  have HBT := Lib.hid builtHeld0
  clear hT
  go_enter Try.func78, Try.ntmps78
  go_upto_region 1 with fail
  refine wp_at (Boxed w 54 118 r.l 56) (Boxed.mk_ _ _ _ _ _ _ rfl) ?_
  intro U hU
  obtain ⟨Z, hZl, hZ⟩ := hU.res
  have h1 := hU.x
  have h3 := hU.b
  clear hU
  have H1 := Lib.hid h1
  have HZ := Lib.hid hZ
  have HZL := Lib.hid hZl
  have HB := Lib.hid h3
  have c0 : U.cell? ⟨w.heap.size, 0, none⟩ = some (.bool r.b) := h1.cell 0
  have c56 : U.cell? ⟨w.heap.size, 56, none⟩ = some (.slice r.A r.n r.p) := h1.rowTab
  have lx := h1.lt
  clear h1 hZ hZl h3
  obtain ⟨b, hb⟩ : ∃ b, b = r.b := ⟨_, rfl⟩
  rw [← hb] at c0
  cases b with
  | false =>
    have HE : Hid (tolM s r.ro = heN) := Lib.hid (by unfold tolM; rw [if_neg]; intro h; rw [show r.ro.b = r.b from rfl, ← hb] at h; exact absurd h.1 (by decide))
    clear hb
    go_wp2_with (first
      | (refine wpList_build rfl 118 _ rfl (heL heN).toArray (by simpa [Act.eval, Act.put] using HBT.out) ?_)
      | (refine wpList_store_pin rfl 118 (.tmp 4) (.tmp 15) rfl HZ.out (heL heN) (by simp [Act.eval, Act.put]) (by simp [Act.eval, Act.put]) 56 size_he HZL.out (heL_len _) (heL_one _) ?_; intro w1 p1 b1))
    have hld := p1.var 118 _ Try.underlying118 rfl 56 size_he (heL_len _)
    exact bodyPost_ret (v := .agg (heL heN).toArray) (by simp [results, Try.results78, asAddr, Act.put, hld]) rfl ⟨by rw [HE.out], HB.out.trans (b1.low (Nat.le_succ _))⟩
  | true =>
    by_cases hsn : s < r.n
    · have d1 : decide ((r.n : Int) ≤ (s : Int)) = false := decide_eq_false (by omega)
      have HE : Hid (tolM s r.ro = r.T s) := Lib.hid (by unfold tolM; rw [if_pos ⟨hb.symm, hsn⟩]; rfl)
      obtain ⟨gb, go, hA, hgb, hcs⟩ := (HT.out.on HB.out) (by omega)
      have HRG := Lib.hid (hcs s hsn)
      have hix := fun W => idxHelds (A := r.A) (n := r.n) r.p hA hsn W
      clear hb hcs hA
      go_wp2_with (first
        | (refine wpList_load_mid rfl 118 (.tmp 19) rfl gb (go + s * 56) (by simp [Act.eval, Act.put]) (heL (r.T s)) _ HRG.out Try.underlying118 rfl (by rw [size_he, heL_len]) ?_)
        | (refine wpList_store_pin rfl 118 (.tmp 4) (.tmp 20) rfl HZ.out (heL (r.T s)) (by simp [Act.eval, Act.put]) (by simp [Act.eval, Act.put]) 56 size_he HZL.out (heL_len _) (heL_one _) ?_; intro w1 p1 b1))
      have hld := p1.var 118 _ Try.underlying118 rfl 56 size_he (heL_len _)
      exact bodyPost_ret (v := .agg (heL (r.T s)).toArray) (by simp [results, Try.results78, asAddr, Act.put, hld]) rfl ⟨by rw [HE.out], HB.out.trans (b1.low (Nat.le_succ _))⟩
    · have d1 : decide ((r.n : Int) ≤ (s : Int)) = true := decide_eq_true (by omega)
      have HE : Hid (tolM s r.ro = heN) := Lib.hid (by unfold tolM; rw [if_neg]; intro h; exact hsn h.2)
      clear hb
      go_wp2_with (first
        | (refine wpList_build rfl 118 _ rfl (heL heN).toArray (by simpa [Act.eval, Act.put] using HBT.out) ?_)
        | (refine wpList_store_pin rfl 118 (.tmp 4) (.tmp 15) rfl HZ.out (heL heN) (by simp [Act.eval, Act.put]) (by simp [Act.eval, Act.put]) 56 size_he HZL.out (heL_len _) (heL_one _) ?_; intro w1 p1 b1))
      have hld := p1.var 118 _ Try.underlying118 rfl 56 size_he (heL_len _)
      exact bodyPost_ret (v := .agg (heL heN).toArray) (by simp [results, Try.results78, asAddr, Act.put, hld]) rfl ⟨by rw [HE.out], HB.out.trans (b1.low (Nat.le_succ _))⟩
/-- Does what a node has of the source count? -/
def okA (s k : Nat) (h : He) : Bool := !(decide (k = s)) && h.i
/-- The counts behind the first k nodes; the answer, if there is one by then. -/
def mapA (s : Nat) (R : Nat → Ro) : Nat → List (Ce × Nat)
  | 0 => []
  | k + 1 => if okA s k (tolM s (R k)) = true then incC (mapA s R k) (tolM s (R k)).c else mapA s R k
def agS (N s : Nat) (R : Nat → Ro) : Nat → Option He
  | 0 => none
  | k + 1 => match agS N s R k with
    | some a => some a
    | none => if okA s k (tolM s (R k)) = true ∧ N - 1 < 2 * look (mapA s R (k + 1)) (tolM s (R k)).c then some (tolM s (R k)) else none
def agM (N s : Nat) (R : Nat → Ro) (m : Nat) : He := (agS N s R m).getD heN
theorem agS_stays {N s : Nat} {R : Nat → Ro} {k : Nat} {a : He} (h : agS N s R k = some a) : ∀ {m : Nat}, k ≤ m → agS N s R m = some a
  | 0, hm => by obtain rfl : k = 0 := by omega
                exact h
  | m + 1, hm => by
    by_cases e : k = m + 1
    · rw [← e]; exact h
    · rw [agS, agS_stays h (by omega)]
theorem look_le (s : Nat) (R : Nat → Ro) (c : Ce) : ∀ k, look (mapA s R k) c ≤ k
  | 0 => Nat.le_refl _
  | k + 1 => by
    have ih := look_le s R c k
    rw [mapA]
    split
    · rw [look_inc]
      split
      · rename_i h1 h2
        have := look_le s R (tolM s (R k)).c k
        omega
      · omega
    · omega
end Go.Proofs.Ytdbljggjddnjcaa

