/-
  The law's vector of ages (sennitlaw16). Condition: the list's reading, 65536 ages at most.
-/
import Derived.Test.YtcangipaoancnaaAs8
namespace Go.Proofs.Ytcangipaoancnaa
open Go.RowKit
set_option linter.unusedVariables false
set_option linter.unusedSimpArgs false

def ceA (x : Int) : Ce := ⟨x, saN, saN, vwN⟩
/-- An age as an entry; below 0: not set. -/
def vecH (x : Int) : He := if 0 ≤ x then ⟨true, ceA x⟩ else heN
set_option maxRecDepth 100000 in
theorem built_held16 : (Try.prog).built 102 [] = some (heL heN).toArray := by kernel_rfl
set_option maxRecDepth 100000 in
theorem built_cell16 (a : Int) : (Try.prog).built 51 [(0, .int .i64 a)] = some (ceL (ceA a)).toArray := by kernel_rfl
set_option maxRecDepth 100000 in
theorem built_heldB16 (b : Bool) (c : Ce) : (Try.prog).built 102 [(0, .bool b), (1, .agg (ceL c).toArray)] = some (heL ⟨b, c⟩).toArray := by
  obtain ⟨x, o, r, ⟨v1, v2, v3, v4, v5, y, z⟩⟩ := c
  obtain ⟨_, _, _, _, _, _, _, _, rfl⟩ := vec8 v1
  obtain ⟨_, _, _, _, _, _, _, _, rfl⟩ := vec8 v2
  obtain ⟨_, _, _, _, _, _, _, _, rfl⟩ := vec8 v3
  obtain ⟨_, _, _, _, _, _, _, _, rfl⟩ := vec8 v4
  obtain ⟨_, _, _, _, _, _, _, _, rfl⟩ := vec8 v5
  kernel_rfl
theorem liesH_owns {W : World} {base m c : Nat} {A : Option Addr} {T : Nat → He} (h : W.ownsRow base 102 56 (.slice A m c) m (flL (fun i => heL (T i)) m)) : LiesH W W.heap.size A m T := fun hm => by
  obtain ⟨g, hA, _, lg, hc⟩ := ownsF_get h hm
  refine ⟨g, 0, hA, lg, fun i hi j v hv => ?_⟩
  have hj : j < 56 := by have := (List.getElem?_eq_some_iff.1 hv).1; rwa [heL_len] at this
  have := hc (i * 56 + j) v (by rw [flL_get (f := fun i => heL (T i)) (fun _ => heL_len _) hi j hj]; exact hv)
  rwa [Nat.zero_add]
theorem owns_shapeF {W : World} {base k c size : Nat} {e : TypeId} {A : Option Addr} {xs : List Value} (h : W.ownsRow base e size (.slice A k c) k xs) : (A = none ∧ k = 0 ∧ c = 0) ∨ ∃ g o, A = some ⟨g, o, none⟩ := by
  rcases h.2 with ⟨hv, h0⟩ | ⟨g, cap, cur, hv, _⟩
  · injection hv with e1 e2 e3; exact .inl ⟨e1, e2, e3⟩
  · injection hv with e1; exact .inr ⟨g, 0, e1⟩
theorem owns_cap {W : World} {base k c size : Nat} {e : TypeId} {A : Option Addr} {xs : List Value} (h : W.ownsRow base e size (.slice A k c) k xs) : k ≤ c := by
  rcases h.2 with ⟨hv, h0⟩ | ⟨g, cap, cur, hv, _, _, h1, _⟩
  · injection hv with e1 e2 e3; omega
  · injection hv with e1 e2 e3; omega
set_option maxRecDepth 100000 in
set_option maxHeartbeats 4000000 in
theorem vector_is (A : Option Addr) (m c : Nat) (hm : m ≤ 65536) (a : Nat → Int) (w : World) (hL : LiesA w A m a) :
    Calls Try.prog 68 #[.slice A m c] w fun e w' => ∃ A' c', e = .returned (.slice A' m c') ∧ w'.ownsRow w.heap.size 102 56 (.slice A' m c') m (flL (fun i => heL (vecH (a i))) m) ∧ Below w.heap.size w w' := by
  obtain ⟨i0, hi0, hz0, hz1, hz2⟩ := info_parts infoHeld
  have HI := Lib.hid hi0
  have HZ0 := Lib.hid hz0
  have HZ1 := Lib.hid hz1
  have HZ2 := Lib.hid hz2
  have HL := Lib.hid hL
  have HBH := Lib.hid built_held16
  clear hi0 hz0 hz1 hz2 hL
  go_enter Try.func68, Try.ntmps68
  go_wp2_with fail
  go_loopw [4, 3, 5] (fun iv ov pv wr => ∃ k : Nat, k ≤ m ∧ iv = .int .i64 (k : Int) ∧ ∃ A1 c1, ov = .slice A1 k c1 ∧ Hid (wr.ownsRow w.heap.size 102 56 (.slice A1 k c1) k (flL (fun i => heL (vecH (a i))) k)) ∧ Hid (Below w.heap.size w wr)) (fun iv _ _ _ => m - (intOf iv).toNat)
  case atStart => exact ⟨0, by omega, rfl, none, 0, rfl, Lib.hid ownsF_nil, Lib.hid (Below.refl _ _)⟩
  case round =>
    obtain ⟨k, hk, rfl, A1, c1, rfl, HO, HB⟩ := hrel
    by_cases hlt : k < m
    · have dk : decide ((k : Int) < (m : Int)) = true := decide_eq_true (by omega)
      obtain ⟨g, o, rfl, lg, hc⟩ := (HL.out.on HB.out) (by omega)
      obtain ⟨x, hx⟩ : ∃ x, x = a k := ⟨_, rfl⟩
      have HX := Lib.hid hx
      have ck := hc k hlt
      rw [← hx] at ck
      have HCK := Lib.hid ck
      have HLG := Lib.hid lg
      have hix := fun W => idxI64 (A := some ⟨g, o, none⟩) (n := m) c rfl hlt W
      have HZN : Hid (∀ Z : Array Value, Z.size = 56 → PIn (wr.alloc (.cells Z 102)) wr.heap.size 0 102 [] [] Z.toList ∧ Z.toList.length = 56) := Lib.hid (fun Z hZ => ⟨Blk.pin (by simpa using Blk.new wr 102 Z), by simpa using hZ⟩)
      clear hx hc ck
      go_upto_region 6 with (first
        | (refine wpList_build rfl 102 _ rfl (heL heN).toArray (by simpa [Act.eval, Act.put] using HBH.out) ?_)
        | (refine wpList_store_pin rfl 102 (.tmp 5) (.tmp 12) rfl (HZN.out _ rfl).1 (heL heN) (by simp [Act.eval, Act.put]) (by simp [Act.eval, Act.put]) 56 size_he (HZN.out _ rfl).2 (heL_len _) (heL_one _) ?_; intro w2 p1 b1; have HP1 := Lib.hid p1; have HB1 := Lib.hid b1; clear p1 b1))
      refine wp_at (fun V => PIn V wr.heap.size 0 102 [] [] (heL heN) ∧ Below wr.heap.size wr V) ⟨HP1.out, (below_al (Below.refl _ wr) _).trans (HB1.out.low (Nat.le_refl _))⟩ ?_
      obtain ⟨g5, hg5⟩ : ∃ g5, g5 = wr.heap.size := ⟨_, rfl⟩
      have HG5 := Lib.hid hg5
      rintro V ⟨v1, v2⟩
      rw [← hg5] at v1 ⊢
      clear hg5
      have HP := Lib.hid v1
      have HV := Lib.hid v2
      have ck := belowW v2 HCK.out
      have lgv := Nat.lt_of_lt_of_le HLG.out v2.size
      have HCK2 := Lib.hid ck
      clear v1 v2 HZN HP1 HB1
      have HOV := Lib.hid (ownsF_on HO.out HV.out)
      have HBV := Lib.hid (below_then HB.out HV.out)
      have HWS : Hid (wr.heap.size ≤ g5) := Lib.hid (by rw [HG5.out]; exact Nat.le_refl _)
      obtain ⟨X, hXX⟩ : ∃ X, X = vecH x := ⟨_, rfl⟩
      have HXX := Lib.hid hXX
      by_cases h0 : 0 ≤ x
      · have dx : decide (0 ≤ x) = true := decide_eq_true h0
        obtain ⟨cc, hcc⟩ : ∃ cc, cc = ceA x := ⟨_, rfl⟩
        have HC1 : Hid ((Try.prog).built 51 [(0, .int .i64 x)] = some (ceL cc).toArray) := Lib.hid (by rw [hcc]; exact built_cell16 x)
        have HC2 : Hid ((Try.prog).built 102 [(0, .bool true), (1, .agg (ceL cc).toArray)] = some (heL X).toArray) := Lib.hid (by rw [hXX, show vecH x = ⟨true, ceA x⟩ from if_pos h0, ← hcc]; exact built_heldB16 true cc)
        clear hcc hXX
        go_upto_region 8 with (first
          | (refine wpList_build rfl 51 _ rfl (ceL cc).toArray (by simpa [Act.eval, Act.put] using HC1.out) ?_)
          | (refine wpList_build rfl 102 _ rfl (heL X).toArray (by simpa [Act.eval, Act.put] using HC2.out) ?_)
          | (refine wpList_store_pin rfl 102 (.tmp 5) (.tmp 23) rfl HP.out (heL X) (by simp [Act.eval, Act.put]) (by simp [Act.eval, Act.put]) 56 size_he (heL_len _) (heL_len _) (heL_one _) ?_; intro w3 p1 b1; have HP1 := Lib.hid p1; have HB1 := Lib.hid b1; clear p1 b1))
        refine wp_at (fun U => PIn U g5 0 102 [] [] (heL X) ∧ Below wr.heap.size wr U) ⟨HP1.out, HV.out.trans (HB1.out.low HWS.out)⟩ ?_
        clear HP1 HB1 HC1 HC2 dx
        clear HP HV HCK2 HWS
        rintro V2 ⟨v1, v2⟩
        have HPV := Lib.hid v1
        have HB2 := Lib.hid v2
        clear v1 v2 ck lgv hix
        have HO2 := Lib.hid (ownsF_on HO.out HB2.out)
        have HW2 := Lib.hid (below_then HB.out HB2.out)
        have HBS : Hid (∀ u : World, (Instr.buildSlice 52 1 #[(0, .agg (heL X).toArray)]).run Try.prog u = .ok (.slice (some ⟨u.heap.size, 0, none⟩) 1 1) (u.alloc (.cells (heL X).toArray 102))) := Lib.hid (fun u => run_bsl_one (P := Try.prog) u 52 102 i0 (heL heN) 56 elemHelds HI.out HZ0.out HZ1.out (heL_len _) (by decide) (by decide) (heL X) (heL_len _))
        go_wp2_with (first
          | (refine wpList_load_mid rfl 102 (.tmp 5) rfl g5 0 (by simp [Act.eval, Act.put]) (heL X) _ HPV.out.range Try.underlying102 rfl (by rw [size_he, heL_len]) ?_)
          | (refine wpList_bsl rfl 52 1 _ rfl #[(0, .agg (heL X).toArray)] (by simp [Act.eval, Act.put]) _ _ (HBS.out _) ?_)
          | (at_builtin; refine wpList_append_G rfl (.tmp 24) (.tmp 26) 52 rfl w.heap.size 102 i0 _ 56 136 elemHelds HI.out HZ0.out HZ1.out HZ2.out rfl (by decide) A1 k c1 (flL (fun i => heL (vecH (a i))) k) (by simp [Act.eval, Act.put]) (ownsF_on HO2.out (below_al (Below.refl _ V2) _)) V2.heap.size 1 1 (heL X) (by simp [Act.eval, Act.put]) (Blk.new V2 102 (heL X).toArray) (by rw [heL_len]) (heL_one _) (by decide) (by unfold maxLen; omega) (by omega) (by have := HW2.out.size; simp; omega) ?_; intro A2 c2 w6 hO2 hb2 hk2; have HO6 := Lib.hid hO2; have HB6 := Lib.hid hb2; clear hO2 hb2 hk2))
        go_roundw
        case rel => exact ⟨k + 1, by omega, by go_num, A2, c2, rfl, Lib.hid (by rw [flL_succ, ← HX.out, ← HXX.out]; exact HO6.out), Lib.hid (HW2.out.trans ((below_al (Below.refl _ V2) _).mono HW2.out.size |>.trans HB6.out))⟩
        case measure => simp [intOf]; omega
      · have dx : decide (0 ≤ x) = false := decide_eq_false h0
        have HXN : Hid (X = heN) := Lib.hid (by rw [hXX]; exact if_neg h0)
        clear hXX
        go_upto_region 8 with fail
        refine wp_at (fun U => PIn U g5 0 102 [] [] (heL X) ∧ Below wr.heap.size wr U) ⟨by rw [HXN.out]; exact HP.out, HV.out⟩ ?_
        clear HXN dx
        clear HP HV HCK2 HWS
        rintro V2 ⟨v1, v2⟩
        have HPV := Lib.hid v1
        have HB2 := Lib.hid v2
        clear v1 v2 ck lgv hix
        have HO2 := Lib.hid (ownsF_on HO.out HB2.out)
        have HW2 := Lib.hid (below_then HB.out HB2.out)
        have HBS : Hid (∀ u : World, (Instr.buildSlice 52 1 #[(0, .agg (heL X).toArray)]).run Try.prog u = .ok (.slice (some ⟨u.heap.size, 0, none⟩) 1 1) (u.alloc (.cells (heL X).toArray 102))) := Lib.hid (fun u => run_bsl_one (P := Try.prog) u 52 102 i0 (heL heN) 56 elemHelds HI.out HZ0.out HZ1.out (heL_len _) (by decide) (by decide) (heL X) (heL_len _))
        go_wp2_with (first
          | (refine wpList_load_mid rfl 102 (.tmp 5) rfl g5 0 (by simp [Act.eval, Act.put]) (heL X) _ HPV.out.range Try.underlying102 rfl (by rw [size_he, heL_len]) ?_)
          | (refine wpList_bsl rfl 52 1 _ rfl #[(0, .agg (heL X).toArray)] (by simp [Act.eval, Act.put]) _ _ (HBS.out _) ?_)
          | (at_builtin; refine wpList_append_G rfl (.tmp 24) (.tmp 26) 52 rfl w.heap.size 102 i0 _ 56 136 elemHelds HI.out HZ0.out HZ1.out HZ2.out rfl (by decide) A1 k c1 (flL (fun i => heL (vecH (a i))) k) (by simp [Act.eval, Act.put]) (ownsF_on HO2.out (below_al (Below.refl _ V2) _)) V2.heap.size 1 1 (heL X) (by simp [Act.eval, Act.put]) (Blk.new V2 102 (heL X).toArray) (by rw [heL_len]) (heL_one _) (by decide) (by unfold maxLen; omega) (by omega) (by have := HW2.out.size; simp; omega) ?_; intro A2 c2 w6 hO2 hb2 hk2; have HO6 := Lib.hid hO2; have HB6 := Lib.hid hb2; clear hO2 hb2 hk2))
        go_roundw
        case rel => exact ⟨k + 1, by omega, by go_num, A2, c2, rfl, Lib.hid (by rw [flL_succ, ← HX.out, ← HXX.out]; exact HO6.out), Lib.hid (HW2.out.trans ((below_al (Below.refl _ V2) _).mono HW2.out.size |>.trans HB6.out))⟩
        case measure => simp [intOf]; omega
    · obtain rfl : k = m := by omega
      have dk : decide ((k : Int) < (k : Int)) = false := decide_eq_false (by omega)
      go_wp2_with fail
      go_ret
      exact ⟨A1, c1, rfl, HO.out, HB.out⟩
end Go.Proofs.Ytcangipaoancnaa

