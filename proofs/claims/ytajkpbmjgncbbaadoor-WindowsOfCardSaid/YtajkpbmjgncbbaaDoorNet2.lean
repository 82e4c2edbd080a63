/-
  The contracts of a net's Round, Owner, First, Pair, Partner. Conditions: the net's reading; the table of directions is as the program's text lays it; of Round: a slot's length within its bounds.
-/
import Derived.Test.YtajkpbmjgncbbaaDoorNet1
namespace Go.Proofs.YtajkpbmjgncbbaaDoor
open Go.RowKit Rg

theorem net_first (v : Value) (c : Cf) (x : Int) (w : World) (hn : NetIs w v c) :
    Calls Tryd.prog 27 #[v, .int .i64 x] w fun e w' => e = .returned (.int .i64 (atM c.P x)) ∧ Below w.heap.size w w' := by
  have hs := hn.in_.few.1
  have hfd := field_pairs c
  go_enter Tryd.func27, Tryd.ntmps27
  go_wp2_with (first
    | (go_at_call 33; (with_reducible refine (kept_net v c w hn).mono ?_); rintro e w1 ⟨rfl, b1⟩)
    | (go_at_call 43; (with_reducible refine (at_any c.pA c.pn c.pc c.P x w1 (hn.on b1).in_.p hs).mono ?_); rintro e w2 ⟨rfl, rfl⟩))
  go_ret
  exact ⟨rfl, b1⟩

/-- Is a node a half of the pair that begins with a? -/
def hitB (N x a : Int) : Bool := decide (x = a ∨ x = stepM N 0 a 1)
/-- A node's pair; -1: none. -/
def pairM (N : Int) (P : List Int) (x : Int) : Int := match P.findIdx? (hitB N x) with
  | some i => (i : Int)
  | none => -1
theorem pair_hit {N : Int} {P : List Int} {x : Int} (k : Nat) (hk : k < P.length) (h0 : ∀ j, j < k → hitB N x (P.getD j 0) = false) (h1 : hitB N x (P.getD k 0) = true) : pairM N P x = k := by
  have : P.findIdx? (hitB N x) = some k := by
    rw [List.findIdx?_eq_some_iff_getElem]
    refine ⟨hk, by rwa [getD_at P k hk] at h1, fun j hj => ?_⟩
    have := h0 j hj
    rw [getD_at P j (by omega)] at this
    simp [this]
  rw [pairM, this]
theorem pair_none {N : Int} {P : List Int} {x : Int} (h0 : ∀ j, j < P.length → hitB N x (P.getD j 0) = false) : pairM N P x = -1 := by
  have : P.findIdx? (hitB N x) = none := by
    rw [List.findIdx?_eq_none_iff]
    intro a ha
    obtain ⟨j, hj, rfl⟩ := List.getElem_of_mem ha
    have := h0 j hj
    rwa [getD_at P j hj] at this
  rw [pairM, this]

set_option maxRecDepth 100000 in
theorem net_pair (v : Value) (c : Cf) (x : Int) (w : World) (hn : NetIs w v c) (hw : Ways w) :
    Calls Tryd.prog 21 #[v, .int .i64 x] w fun e w' => e = .returned (.int .i64 (pairM c.N c.P x)) ∧ Below w.heap.size w w' := by
  have HC := Lib.hid hn.in_
  have HL := Lib.hid hn.in_.p.len
  have hfew := hn.in_.few.1
  have HW := Lib.hid hw
  clear hw
  go_enter Tryd.func21, Tryd.ntmps21
  go_wp2_with (go_at_call 33; (with_reducible refine (kept_net v c w hn).mono ?_); rintro e w1 ⟨rfl, b1⟩)
  have hz1 := b1.size
  clear hn
  go_loopw [13] (fun i wr => ∃ k : Nat, k ≤ c.pn ∧ i = .int .i64 k ∧ Hid (∀ j, j < k → hitB c.N x (c.P.getD j 0) = false) ∧ Blk wr w1.heap.size 25 #[.int .i64 c.N, .slice c.pA c.pn c.pc, .slice c.sA c.sn c.sc, .int .i64 c.L, .slice c.bA c.bn c.bc, .slice c.tA c.tn c.tc, .int .i64 c.M, .int .i64 c.G, .int .i64 c.F] ∧ Below w.heap.size w wr) (fun i _ => c.pn - (intOf i).toNat)
  case atStart => exact ⟨0, Nat.zero_le _, rfl, Lib.hid fun j hj => absurd hj (by omega), Blk.new w1 _ _, below_al b1 _⟩
  case round =>
    clear b1
    obtain ⟨k, hk, rfl, ht, hB1, hb⟩ := hrel
    have hz := hb.size
    by_cases hlt : k < c.pn
    · obtain ⟨b, off, hA, hbl, hcc⟩ := (HC.out.on hb).p.at_ (by omega)
      have hcell := hcc k hlt
      have hix := fun W => idxNums (n := c.pn) c.pc hA hlt W
      have HH := Lib.hid (pair_hit (N := c.N) (P := c.P) (x := x) k (by have := HL.out; omega) ht.out)
      have HN := Lib.hid (show hitB c.N x (c.P.getD k 0) = false → ∀ j, j < k + 1 → hitB c.N x (c.P.getD j 0) = false from fun h j hj => by
        rcases Nat.lt_succ_iff_lt_or_eq.1 hj with q | q
        · exact ht.out j q
        · rw [q]; exact h)
      obtain ⟨k0, k1, k2, k3, k4, k5, k6, k7, k8⟩ := hB1.cf
      obtain ⟨a, ha⟩ : ∃ a, a = c.P.getD k 0 := ⟨_, rfl⟩
      rw [← ha] at hcell HH HN
      clear hcc hA ha
      by_cases h1 : x = a
      · subst h1
        have HX := Lib.hid (HH.out (by simp [hitB]))
        go_wp2_with fail
        go_ret
        exact ⟨ret_int HX.out.symm, hb⟩
      · have e1 := beq_eq_false_iff_ne.2 h1
        by_cases h2 : x = stepM c.N 0 a 1
        · have HX := Lib.hid (HH.out (by simp [hitB, ← h2]))
          have HST := Lib.hid h2.symm
          clear h1 h2
          go_wp2_with (go_at_call 34; (with_reducible refine (second_is c a x HST.out wr (HW.out.on hb)).mono ?_); rintro e w2 ⟨rfl, b2⟩)
          go_ret
          exact ⟨ret_int HX.out.symm, below_then hb b2⟩
        · have HX := Lib.hid (HN.out (by simp [hitB, h1, h2]))
          obtain ⟨y, hy⟩ : ∃ y, y = stepM c.N 0 a 1 := ⟨_, rfl⟩
          rw [← hy] at h2
          have HST := Lib.hid hy.symm
          have e2 := beq_eq_false_iff_ne.2 h2
          clear h1 h2 hy
          go_wp2_with (go_at_call 34; (with_reducible refine (second_is c a y HST.out wr (HW.out.on hb)).mono ?_); rintro e w2 ⟨rfl, b2⟩)
          go_roundw
          case rel => exact ⟨k + 1, by omega, by go_num, HX, hB1.on b2, below_then hb b2⟩
          case measure => simp [intOf]; omega
    · have HX := Lib.hid (pair_none (N := c.N) (P := c.P) (x := x) fun j hj => ht.out j (by have := HL.out; omega))
      go_wp2_with fail
      go_ret
      exact ⟨ret_int HX.out.symm, hb⟩
theorem pair_is (v : Value) (c : Cf) (x p : Int) (hp : pairM c.N c.P x = p) (w : World) (hn : NetIs w v c) (hw : Ways w) :
    Calls Tryd.prog 21 #[v, .int .i64 x] w fun e w' => e = .returned (.int .i64 p) ∧ Below w.heap.size w w' := by
  subst hp; exact net_pair v c x w hn hw
theorem first_is (v : Value) (c : Cf) (x p : Int) (hp : atM c.P x = p) (w : World) (hn : NetIs w v c) :
    Calls Tryd.prog 27 #[v, .int .i64 x] w fun e w' => e = .returned (.int .i64 p) ∧ Below w.heap.size w w' := by
  subst hp; exact net_first v c x w hn

/-- A node's partner; -1: none. -/
def partM (N : Int) (P : List Int) (x : Int) : Int := if x = atM P (pairM N P x) then stepM N 0 x 1 else atM P (pairM N P x)
end Go.Proofs.YtajkpbmjgncbbaaDoor

