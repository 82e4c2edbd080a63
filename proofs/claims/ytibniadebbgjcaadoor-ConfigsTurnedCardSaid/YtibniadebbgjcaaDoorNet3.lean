/-
  The contracts of a net's Next and Given. Conditions: the net's reading.
-/
import Derived.Test.YtibniadebbgjcaaDoorNet1
namespace Go.Proofs.YtibniadebbgjcaaDoor
open Go.RowKit Rg

/-- The owner of a slot that is counted from 0 on, round by round. -/
def ownM (S : List Int) (s : Int) : Int := S.getD (s % (S.length : Int)).toNat 0
/-- A pair's next slot; -1: none. -/
def nextM (S : List Int) (slot p : Int) : Int := if slot < 0 ∨ 1099511627776 < slot then -1 else match (List.range S.length).find? (fun (j : Nat) => decide (ownM S (slot + j) = p)) with
  | some j => slot + (j : Int)
  | none => -1
theorem next_out {S : List Int} {slot p : Int} (h : slot < 0 ∨ 1099511627776 < slot) : nextM S slot p = -1 := by rw [nextM, if_pos h]
theorem next_hit {S : List Int} {slot p : Int} (h : ¬ (slot < 0 ∨ 1099511627776 < slot)) (j : Nat) (hj : j < S.length) (h0 : ∀ i : Nat, i < j → ¬ ownM S (slot + i) = p) (h1 : ownM S (slot + j) = p) : nextM S slot p = slot + j := by
  have : (List.range S.length).find? (fun (j : Nat) => decide (ownM S (slot + j) = p)) = some j := by
    rw [List.find?_range_eq_some]
    refine ⟨by simpa using h1, by simpa using hj, fun i hi => by simpa using h0 i hi⟩
  rw [nextM, if_neg h, this]
theorem next_none {S : List Int} {slot p : Int} (h : ¬ (slot < 0 ∨ 1099511627776 < slot)) (h0 : ∀ i : Nat, i < S.length → ¬ ownM S (slot + i) = p) : nextM S slot p = -1 := by
  have : (List.range S.length).find? (fun (j : Nat) => decide (ownM S (slot + j) = p)) = none := by
    rw [List.find?_range_eq_none]
    intro i hi
    simpa using h0 i hi
  rw [nextM, if_neg h, this]

set_option maxRecDepth 100000 in
theorem net_next (v : Value) (c : Cf) (slot p : Int) (w : World) (hn : NetIs w v c) :
    Calls Tryd.prog 25 #[v, .int .i64 slot, .int .i64 p] w fun e w' => e = .returned (.int .i64 (nextM c.S slot p)) ∧ Below w.heap.size w w' := by
  by_cases h1 : slot < 0
  · have HX := Lib.hid (next_out (S := c.S) (p := p) (.inl h1))
    clear hn
    go_enter Tryd.func25, Tryd.ntmps25
    go_wp2_with fail
    go_ret
    exact ⟨ret_int HX.out.symm, Below.refl _ _⟩
  · by_cases h2 : 1099511627776 < slot
    · have HX := Lib.hid (next_out (S := c.S) (p := p) (.inr h2))
      clear hn
      go_enter Tryd.func25, Tryd.ntmps25
      go_wp2_with fail
      go_ret
      exact ⟨ret_int HX.out.symm, Below.refl _ _⟩
    · have HR := Lib.hid (show ¬ (slot < 0 ∨ 1099511627776 < slot) by omega)
      have h1' : 0 ≤ slot := by omega
      have h2' : slot ≤ 1099511627776 := by omega
      have HS := Lib.hid hn.in_.s
      have HL := Lib.hid hn.in_.s.len
      have hfew := hn.in_.few.2.1
      have hfd := field_slots c
      clear h1 h2
      go_enter Tryd.func25, Tryd.ntmps25
      go_wp2_with (go_at_call 41; (with_reducible refine (kept_net v c w hn).mono ?_); rintro e w1 ⟨rfl, b1⟩)
      go_loop [9] (fun s => ∃ j : Nat, j ≤ c.sn ∧ s = .int .i64 (slot + j) ∧ Hid (∀ i : Nat, i < j → ¬ ownM c.S (slot + i) = p)) (fun s => ((slot + c.sn) - intOf s).toNat)
      case atStart => exact ⟨0, Nat.zero_le _, by simp, Lib.hid fun j hj => absurd hj (by omega)⟩
      case round =>
        obtain ⟨j, hj, rfl, ht⟩ := hrel
        by_cases hlt : j < c.sn
        · have hm := mod_bd (slot + j) (c.sn : Int) (by omega)
          obtain ⟨q, hq⟩ : ∃ q : Nat, (q : Int) = (slot + j) % (c.sn : Int) := ⟨((slot + j) % (c.sn : Int)).toNat, by omega⟩
          have hqn : q < c.sn := by omega
          obtain ⟨b, off, hA, hbl, hcc⟩ := (HS.out.on b1).at_ (by omega)
          have hcell := hcc q hqn
          have hix := fun W => idxNums (n := c.sn) c.sc hA hqn W
          have hown : ownM c.S (slot + j) = c.S.getD q 0 := by rw [ownM, HL.out, ← hq, Int.toNat_natCast]
          have HH := Lib.hid (next_hit (p := p) HR.out j (by rw [HL.out]; exact hlt) ht.out)
          have HN := Lib.hid (show ¬ ownM c.S (slot + j) = p → ∀ i : Nat, i < j + 1 → ¬ ownM c.S (slot + i) = p from fun h i hi => by
            rcases Nat.lt_succ_iff_lt_or_eq.1 hi with q | q
            · exact ht.out i q
            · rw [q]; exact h)
          rw [hown] at HH HN
          obtain ⟨a, ha⟩ : ∃ a, a = c.S.getD q 0 := ⟨_, rfl⟩
          rw [← ha] at hcell HH HN
          have hq1 : (slot + (j : Int)).tmod (c.sn : Int) = (q : Int) := by rw [Int.tmod_eq_emod_of_nonneg (by omega)]; exact hq.symm
          have hq2 : (slot + (j : Int)) % (c.sn : Int) = (q : Int) := hq.symm
          have hlti : slot + (j : Int) < slot + (c.sn : Int) := by omega
          have hsn : 0 < c.sn := by omega
          clear hcc hA ha hown hm hq
          by_cases hp : a = p
          · subst hp
            have HX := Lib.hid (HH.out rfl)
            go_wp2_with fail
            go_ret
            exact ⟨ret_int HX.out.symm, b1⟩
          · have HX := Lib.hid (HN.out hp)
            have e1 := beq_eq_false_iff_ne.2 hp
            clear hp
            go_wp2_with fail
            go_round
            case rel => exact ⟨j + 1, by omega, by go_num, HX⟩
            case measure => simp [intOf]; omega
        · have HX := Lib.hid (next_none (p := p) HR.out fun i hi => ht.out i (by rw [HL.out] at hi; omega))
          go_wp2_with fail
          go_ret
          exact ⟨ret_int HX.out.symm, b1⟩
theorem net_given (v : Value) (c : Cf) (w : World) (hn : NetIs w v c) :
    Calls Tryd.prog 27 #[v] w fun e w' => ∃ A1 A2 A3 A4, e = .returned (.agg #[.int .i64 c.N, .slice A1 c.pn c.pn, .slice A2 c.sn c.sn, .int .i64 c.L, .slice A3 c.bn c.bn, .slice A4 c.tn c.tn, .int .i64 c.M, .int .i64 c.G, .int .i64 c.F]) ∧ CfOwn w' w.heap.size (c.to A1 A2 A3 A4) ∧ Below w.heap.size w w' := by
  have hn1 := hn.on (below_al (Below.refl _ w) (.cells #[.int .i64 0, .slice none 0 0, .slice none 0 0, .int .i64 0, .slice none 0 0, .slice none 0 0, .int .i64 0, .int .i64 0, .int .i64 0] 25))
  clear hn
  go_enter Tryd.func27, Tryd.ntmps27
  go_wp2_with (first
    | (go_at_call 41; (with_reducible refine (kept_net v c _ hn1).mono ?_); rintro e w1 ⟨rfl, b1⟩)
    | (go_at_call 36; (with_reducible refine (copied_any c w1 (hn1.on b1).in_).mono ?_); rintro e w2 ⟨A1, A2, A3, A4, rfl, o2, b2⟩
       have hZ := ((Blk.new w 25 #[.int .i64 0, .slice none 0 0, .slice none 0 0, .int .i64 0, .slice none 0 0, .slice none 0 0, .int .i64 0, .int .i64 0, .int .i64 0]).on b1).on b2
       have hz1 := ((Blk.new w 25 #[.int .i64 0, .slice none 0 0, .slice none 0 0, .int .i64 0, .slice none 0 0, .slice none 0 0, .int .i64 0, .int .i64 0, .int .i64 0]).on b1).lt
       have hfz := hZ.frozen
       have z0 := hZ.cell 0
       have z1 := hZ.cell 1
       have z2 := hZ.cell 2
       have z3 := hZ.cell 3
       have z4 := hZ.cell 4
       have z5 := hZ.cell 5
       have z6 := hZ.cell 6
       have z7 := hZ.cell 7
       have z8 := hZ.cell 8
       simp at z0 z1 z2 z3 z4 z5 z6 z7 z8
       have hb2 := below_then (below_then (below_al (Below.refl _ w) _) b1) b2
       clear b1 b2 hn1 hZ))
  refine bodyPost_ret (v := .agg #[.int .i64 c.N, .slice A1 c.pn c.pn, .slice A2 c.sn c.sn, .int .i64 c.L, .slice A3 c.bn c.bn, .slice A4 c.tn c.tn, .int .i64 c.M, .int .i64 c.G, .int .i64 c.F]) (by simp [results, Tryd.results27, go_sem, z0, z1, z2, z3, z4, z5, z6, z7, z8]) rfl ⟨A1, A2, A3, A4, rfl, CfOwn.mono ((((((((((o2.far hz1 _).far hz1 _).far hz1 _).far hz1 _).far hz1 _).far hz1 _).far hz1 _).far hz1 _).far hz1 _)) (by omega), ?_⟩
  exact (((((((((hb2.setCell (by simp) _).setCell (by simp) _).setCell (by simp) _).setCell (by simp) _).setCell (by simp) _).setCell (by simp) _).setCell (by simp) _).setCell (by simp) _).setCell (by simp) _)
end Go.Proofs.YtibniadebbgjcaaDoor
