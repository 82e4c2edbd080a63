/-
  The contract of the reference's Turn: the same symbols as bits.Turn tells, in new memory; nothing that was there has turned. Conditions: the slices' readings, lengths of at most 65536.
-/
import Derived.Test.YtafnkcjnnebffaaTurn
import Derived.Test.YtafnkcjnnebffaaApp
namespace Go.Proofs.Ytafnkcjnnebffaa
open Go.RowKit

def cnt (ps : List Int) (i : Int) : Nat := ps.countP (· == i)
theorem cnt_snoc (ps : List Int) (i : Int) (k : Nat) (h : k < ps.length) : cnt (ps.take (k + 1)) i = cnt (ps.take k) i + if ps.getD k 0 = i then 1 else 0 := by
  unfold cnt
  rw [List.take_succ_eq_append_getElem h, List.countP_append, getD_at ps k h]
  by_cases e : ps[k] = i <;> simp [e]
theorem cnt_le (ps : List Int) (i : Int) : cnt ps i ≤ ps.length := List.countP_le_length
def oddTurn (c : Nat) (x : Int) : Int := if c % 2 = 1 then turnI x else x
theorem oddTurn_turn (c : Nat) (x : Int) : oddTurn c (turnI x) = oddTurn (c + 1) x := by
  unfold oddTurn
  rcases Nat.mod_two_eq_zero_or_one c with h | h
  · rw [if_neg (by omega), if_pos (by omega)]
  · rw [if_pos h, if_neg (by omega)]
    unfold turnI
    by_cases h1 : x = 1
    · subst h1; decide
    · by_cases h2 : x = 2
      · subst h2; decide
      · simp [h1, h2]
theorem turnAt_at (xs : List Int) (p : Int) (i : Nat) (h : i < xs.length) : (turnAt xs p).getD i 0 = if p = (i : Int) then turnI (xs.getD i 0) else xs.getD i 0 := by
  by_cases hp : 0 ≤ p ∧ p < xs.length
  · rw [turnAt, if_pos hp, getD_at _ _ (by simpa using h), List.getElem_set]
    by_cases e : p.toNat = i
    · rw [if_pos e, if_pos (by omega), e]
    · rw [if_neg e, if_neg (by omega), getD_at _ _ h]
  · rw [turnAt, if_neg hp, if_neg (by omega)]
theorem turnAll_at (i : Nat) : ∀ (ps xs : List Int), i < xs.length → (turnAll xs ps).getD i 0 = oddTurn (cnt ps i) (xs.getD i 0) := by
  intro ps
  induction ps with
  | nil => intro xs _; simp [turnAll, cnt, oddTurn]
  | cons p ps ih =>
    intro xs h
    show (turnAll (turnAt xs p) ps).getD i 0 = _
    rw [ih _ (by rw [turnAt_length]; exact h), turnAt_at xs p i h]
    by_cases e : p = (i : Int)
    · rw [if_pos e, oddTurn_turn]
      simp [cnt, e]
    · rw [if_neg e]
      simp [cnt, e]

set_option maxRecDepth 100000 in
theorem refTurn_any (A B : Option Addr) (n m c d : Nat) (xs ps : List Int) (w : World) (hx : Lies .u8 w w.heap.size A n xs) (hp : Lies .i64 w w.heap.size B m ps) (hn : n ≤ 65536) (hm : m ≤ 65536) :
    Calls Try.prog 31 #[.slice A n c, .slice B m d] w fun e w' => ∃ A' c', e = .returned (.slice A' n c') ∧ Lies .u8 w' w'.heap.size A' n (turnAll xs ps) ∧ Below w.heap.size w w' := by
  obtain ⟨i0, hi0, hz0, hz1, hz2⟩ := info_parts info_sym
  have HL := Lib.hid hx.len
  have HT := Lib.hid (show (turnAll xs ps).length = n by rw [turnAll_length, hx.len])
  obtain ⟨ts, hts⟩ : ∃ ts, ts = turnAll xs ps := ⟨_, rfl⟩
  have HV := Lib.hid (fun i (h : i < n) => turnAll_at i ps xs (by rw [hx.len]; exact h))
  rw [← hts] at HT HV ⊢
  clear hts
  go_enter Try.func31, Try.ntmps31
  go_wp2_with fail
  go_loopw [5, 6] (fun v iv wr => ∃ (i : Nat) (A' : Option Addr) (c' : Nat), i ≤ n ∧ iv = .int .i64 i ∧ v = .slice A' i c' ∧ wr.ownsRow w.heap.size 53 1 (.slice A' i c') i ((ts.take i).map (Value.int .u8)) ∧ Below w.heap.size w wr) (fun _ iv _ => n - (intOf iv).toNat)
  case atStart => exact ⟨0, none, 0, Nat.zero_le _, rfl, rfl, ⟨rfl, .inl ⟨rfl, rfl⟩⟩, Below.refl _ _⟩
  case round =>
    obtain ⟨i, A', c', hi, rfl, rfl, hown, hb⟩ := hrel
    by_cases hlt : i < n
    · have hlti : (i : Int) < (n : Int) := by omega
      go_wp2_with fail
      go_loop [7, 8] (fun tv kv => ∃ k : Nat, k ≤ m ∧ kv = .int .i64 k ∧ tv = .int .i64 ((cnt (ps.take k) (i : Int) : Nat) : Int)) (fun _ kv => m - (intOf kv).toNat)
      case atStart => exact ⟨0, Nat.zero_le _, rfl, rfl⟩
      case round =>
        obtain ⟨k, hk, rfl, rfl⟩ := hrel
        have hcl := cnt_le (ps.take k) (i : Int)
        have htl : (ps.take k).length ≤ k := List.length_take_le _ _
        by_cases hkm : k < m
        · have hkmi : (k : Int) < (m : Int) := by omega
          obtain ⟨b, off, rfl, hbb, hc⟩ := hp.at_ (by omega)
          have hcell : wr.cell? ⟨b, off + k, none⟩ = some (.int .i64 (ps.getD k 0)) := (hb.cell (p := ⟨b, off + k, none⟩) hbb).trans (hc k hkm)
          have hS := Lib.hid (cnt_snoc ps (i : Int) k (by rw [hp.len]; exact hkm))
          obtain ⟨p, hp1⟩ : ∃ p, p = ps.getD k 0 := ⟨_, rfl⟩
          rw [← hp1] at hcell hS
          clear hp1 hc
          by_cases hpi : p = (i : Int)
          · have he : (p == (i : Int)) = true := by simp [hpi]
            rw [if_pos hpi] at hS
            clear hpi
            go_wp2_with fail
            go_round
            case rel => exact ⟨k + 1, by omega, by go_num, by rw [hS.out]; go_num⟩
            case measure => simp [intOf]; omega
          · have he : (p == (i : Int)) = false := by simp [hpi]
            rw [if_neg hpi] at hS
            clear hpi
            go_wp2_with fail
            go_round
            case rel => exact ⟨k + 1, by omega, by go_num, by rw [hS.out]; rfl⟩
            case measure => simp [intOf]; omega
        · have hkmi : (m : Int) ≤ (k : Int) := by omega
          obtain ⟨b, off, rfl, hbb, hc⟩ := hx.at_ (by omega)
          have hcell : wr.cell? ⟨b, off + i, none⟩ = some (.int .u8 (xs.getD i 0)) := (hb.cell (p := ⟨b, off + i, none⟩) hbb).trans (hc i hlt)
          have hv := HV.out i hlt
          have hkk : ps.take k = ps := List.take_of_length_le (by rw [hp.len]; omega)
          rw [hkk] at hcl ⊢
          have hcn : cnt ps (i : Int) ≤ 65536 := by rw [hp.len] at hcl; omega
          clear hkk hcl htl hc
          obtain ⟨q, hq⟩ : ∃ q, q = cnt ps (i : Int) := ⟨_, rfl⟩
          obtain ⟨x, hx1⟩ : ∃ x, x = xs.getD i 0 := ⟨_, rfl⟩
          rw [← hq] at hv hcn ⊢
          rw [← hx1] at hv hcell
          clear hq hx1
          have hsnoc : ts.take (i + 1) = ts.take i ++ [oddTurn q x] := by rw [← hv, List.take_succ_eq_append_getElem (by rw [HT.out]; exact hlt), getD_at _ _ (by rw [HT.out]; exact hlt)]
          have HS := Lib.hid hsnoc
          clear hsnoc hv
          by_cases hodd : q % 2 = 1
          · have ho : ((q : Int) % 2 == 1) = true := by simp; omega
            by_cases h1 : x = 1
            · subst h1
              have h11 : ((1 : Int) == 1) = true := by simp
              have hy := Lib.hid (show oddTurn q 1 = 2 by simp [oddTurn, hodd, turnI])
              have hl1 := Lies.new wr 53 .u8 [2] 1 rfl #[.int .u8 2] rfl
              have hown' := hown.alloc (.cells #[.int .u8 2] 53)
              go_wp2_with (first
                | (at_builtin; with_reducible refine wpList_append_lies rfl (.tmp 48) (.tmp 50) 23 rfl w.heap.size 53 i0 _ 1 Try.underlying23 hi0 hz0 hz1 hz2 rfl .u8 (.slice A' i c') i (ts.take i) rfl hown' (some ⟨wr.heap.size, 0, none⟩) 1 1 [2] rfl hl1 (i + 1) rfl (by unfold maxLen; omega) (by omega) (Nat.le_trans hb.size (by simp)) ?_))
              intro A2 c2 w2 hown2 hg2 _
              have hb2 := (below_al hb _).grown hg2 (Nat.le_trans hb.size (by simp)) (fun r hr => (hown.lt r hr).1)
              have hown3 : w2.ownsRow w.heap.size 53 1 (.slice A2 (i + 1) c2) (i + 1) ((ts.take (i + 1)).map (Value.int .u8)) := by
                rw [HS.out, hy.out, List.map_append]
                simpa using hown2
              clear hown hown' hown2 hg2 hl1 hy HS
              go_wp2_with fail
              go_roundw
              case rel => exact ⟨i + 1, A2, c2, by omega, by go_num, rfl, hown3, hb2⟩
              case measure => simp [intOf]; omega
            · have h1' : (x == 1) = false := by simp [h1]
              by_cases h2 : x = 2
              · subst h2
                have h22 : ((2 : Int) == 2) = true := by simp
                have hy := Lib.hid (show oddTurn q 2 = 1 by simp [oddTurn, hodd, turnI])
                have hl1 := Lies.new wr 53 .u8 [1] 1 rfl #[.int .u8 1] rfl
                have hown' := hown.alloc (.cells #[.int .u8 1] 53)
                go_wp2_with (first
                  | (at_builtin; with_reducible refine wpList_append_lies rfl (.tmp 48) (.tmp 50) 23 rfl w.heap.size 53 i0 _ 1 Try.underlying23 hi0 hz0 hz1 hz2 rfl .u8 (.slice A' i c') i (ts.take i) rfl hown' (some ⟨wr.heap.size, 0, none⟩) 1 1 [1] rfl hl1 (i + 1) rfl (by unfold maxLen; omega) (by omega) (Nat.le_trans hb.size (by simp)) ?_))
                intro A2 c2 w2 hown2 hg2 _
                have hb2 := (below_al hb _).grown hg2 (Nat.le_trans hb.size (by simp)) (fun r hr => (hown.lt r hr).1)
                have hown3 : w2.ownsRow w.heap.size 53 1 (.slice A2 (i + 1) c2) (i + 1) ((ts.take (i + 1)).map (Value.int .u8)) := by
                  rw [HS.out, hy.out, List.map_append]
                  simpa using hown2
                clear hown hown' hown2 hg2 hl1 hy HS
                go_wp2_with fail
                go_roundw
                case rel => exact ⟨i + 1, A2, c2, by omega, by go_num, rfl, hown3, hb2⟩
                case measure => simp [intOf]; omega
              · have h2' : (x == 2) = false := by simp [h2]
                have hxx := Lib.hid h1
                have hy := Lib.hid (show oddTurn q x = x by simp [oddTurn, hodd, turnI, h1, h2])
                have hl1 := Lies.new wr 53 .u8 [x] 1 rfl #[.int .u8 x] rfl
                have hown' := hown.alloc (.cells #[.int .u8 x] 53)
                go_wp2_with (first
                  | (at_builtin; with_reducible refine wpList_append_lies rfl (.tmp 48) (.tmp 50) 23 rfl w.heap.size 53 i0 _ 1 Try.underlying23 hi0 hz0 hz1 hz2 rfl .u8 (.slice A' i c') i (ts.take i) rfl hown' (some ⟨wr.heap.size, 0, none⟩) 1 1 [x] rfl hl1 (i + 1) rfl (by unfold maxLen; omega) (by omega) (Nat.le_trans hb.size (by simp)) ?_))
                intro A2 c2 w2 hown2 hg2 _
                have hb2 := (below_al hb _).grown hg2 (Nat.le_trans hb.size (by simp)) (fun r hr => (hown.lt r hr).1)
                have hown3 : w2.ownsRow w.heap.size 53 1 (.slice A2 (i + 1) c2) (i + 1) ((ts.take (i + 1)).map (Value.int .u8)) := by
                  rw [HS.out, hy.out, List.map_append]
                  simpa using hown2
                clear hown hown' hown2 hg2 hl1 hy HS
                go_wp2_with fail
                go_roundw
                case rel => exact ⟨i + 1, A2, c2, by omega, by go_num, rfl, hown3, hb2⟩
                case measure => simp [intOf]; omega
          · have ho : ((q : Int) % 2 == 1) = false := by simp; omega
            have hxx := Lib.hid hodd
            have hy := Lib.hid (show oddTurn q x = x by simp [oddTurn, hodd])
            have hl1 := Lies.new wr 53 .u8 [x] 1 rfl #[.int .u8 x] rfl
            have hown' := hown.alloc (.cells #[.int .u8 x] 53)
            go_wp2_with (first
              | (at_builtin; with_reducible refine wpList_append_lies rfl (.tmp 48) (.tmp 50) 23 rfl w.heap.size 53 i0 _ 1 Try.underlying23 hi0 hz0 hz1 hz2 rfl .u8 (.slice A' i c') i (ts.take i) rfl hown' (some ⟨wr.heap.size, 0, none⟩) 1 1 [x] rfl hl1 (i + 1) rfl (by unfold maxLen; omega) (by omega) (Nat.le_trans hb.size (by simp)) ?_))
            intro A2 c2 w2 hown2 hg2 _
            have hb2 := (below_al hb _).grown hg2 (Nat.le_trans hb.size (by simp)) (fun r hr => (hown.lt r hr).1)
            have hown3 : w2.ownsRow w.heap.size 53 1 (.slice A2 (i + 1) c2) (i + 1) ((ts.take (i + 1)).map (Value.int .u8)) := by
              rw [HS.out, hy.out, List.map_append]
              simpa using hown2
            clear hown hown' hown2 hg2 hl1 hy HS
            go_wp2_with fail
            go_roundw
            case rel => exact ⟨i + 1, A2, c2, by omega, by go_num, rfl, hown3, hb2⟩
            case measure => simp [intOf]; omega
    · have hlti : (n : Int) ≤ (i : Int) := by omega
      obtain rfl : i = n := by omega
      go_wp2_with fail
      go_ret
      refine ⟨A', c', rfl, lies_of_owns (base := w.heap.size) (e := 53) (c := c') (by rw [List.take_of_length_le (by rw [HT.out]; exact Nat.le_refl _)] at hown; exact hown), hb⟩
end Go.Proofs.Ytafnkcjnnebffaa
