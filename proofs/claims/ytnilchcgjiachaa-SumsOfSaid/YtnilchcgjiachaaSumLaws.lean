/-
  The walks of the laws SumsOf and SumsCheck: they return true, and nothing that was there has turned. Conditions: the slices' readings, bytes, lengths within the capacities.
-/
import Derived.Test.YtnilchcgjiachaaSumRefC
import Derived.Test.YtnilchcgjiachaaBookW
namespace Go.Proofs.Ytnilchcgjiachaa
open Go.RowKit Crc

def chkL (l : List Int) : List Int := if checkB l = true then l.take (l.length - 4) else []
def chkN (l : List Int) : Nat := (chkL l).length
theorem chkL_bd (l : List Int) (hb : ∀ x ∈ l, 0 ≤ x ∧ x ≤ 255) : ∀ x ∈ chkL l, 0 ≤ x ∧ x ≤ 255 := by
  unfold chkL
  split
  · exact fun x hx => hb x (List.mem_of_mem_take hx)
  · intro x hx; cases hx
theorem chkN_le (l : List Int) : chkN l ≤ l.length := by
  unfold chkN chkL
  split
  · rw [List.length_take]; omega
  · simp
theorem check_any (A : Option Addr) (n c : Nat) (l : List Int) (w : World) (hx : Lies .u8 w w.heap.size A n l) (hb : ∀ x ∈ l, 0 ≤ x ∧ x ≤ 255) (hn : n ≤ 65536) (hcap : n ≤ c) :
    Calls Try.prog 18 #[.slice A n c] w fun e w' => ∃ A', e = .returned (.tuple #[.slice A' (chkN l) (chkN l), .bool (checkB l)]) ∧ Lies .u8 w' w'.heap.size A' (chkN l) (chkL l) ∧ Ent w' 5 w.heap.size (A', chkN l) ∧ Below w.heap.size w w' := by
  cases ho : checkB l
  · have hz : chkL l = [] := by rw [chkL, if_neg (by rw [ho]; decide)]
    have hN : chkN l = 0 := by rw [chkN, hz]; rfl
    refine (check_no A n c l w hx hb hn hcap ho).mono fun e w' h => ?_
    obtain ⟨he, hw⟩ := h
    rw [hN, hz]
    exact ⟨none, he, Lies.nil_, fun h => absurd h (Nat.lt_irrefl 0), hw⟩
  · have hl := hx.len
    have hz : chkL l = l.take (n - 4) := by rw [chkL, if_pos ho, hl]
    have hN : n - 4 = chkN l := by rw [chkN, hz, List.length_take]; omega
    refine (check_yes A n c l w hx hb hn hcap ho).mono fun e w' h => ?_
    obtain ⟨g, he, hg, hB, hw⟩ := h
    have hll : (l.take (n - 4)).length = chkN l := by rw [chkN, hz]
    rw [hN] at he
    rw [hz]
    exact ⟨_, he, hB.lies hll, hB.ent hll hg, hw⟩
theorem refCheck_any (A : Option Addr) (n c : Nat) (l : List Int) (w : World) (hx : Lies .u8 w w.heap.size A n l) (hb : ∀ x ∈ l, 0 ≤ x ∧ x ≤ 255) (hn : n ≤ 4096) (hcap : n ≤ c) :
    Calls Try.prog 19 #[.slice A n c] w fun e w' => ∃ A' c', e = .returned (.tuple #[.slice A' (chkN l) c', .bool (checkB l)]) ∧ Lies .u8 w' w'.heap.size A' (chkN l) (chkL l) ∧ Below w.heap.size w w' := by
  have hl := hx.len
  have key0 : checkB l = false → chkL l = [] ∧ chkN l = 0 := fun ho => by
    have hz : chkL l = [] := by rw [chkL, if_neg (by rw [ho]; decide)]
    exact ⟨hz, by rw [chkN, hz]; rfl⟩
  rcases Nat.lt_or_ge n 4 with h4 | h4
  · have ho : checkB l = false := by rw [checkB, hl, decide_eq_false (by omega), Bool.false_and]
    obtain ⟨hz, hN⟩ := key0 ho
    refine (refCheck_short A n c w h4).mono fun e w' h => ?_
    rw [hN, hz, ho]
    exact ⟨none, 0, h.1, Lies.nil_, h.2⟩
  · refine (refCheck_long A n c l w hx hb hn hcap h4).mono fun e w' h => ?_
    rcases h with ⟨ho, he, hw⟩ | ⟨ho, he, hw⟩
    · obtain ⟨hz, hN⟩ := key0 ho
      rw [hN, hz, ho]
      exact ⟨none, 0, he, Lies.nil_, hw⟩
    · have hz : chkL l = l.take (n - 4) := by rw [chkL, if_pos ho, hl]
      have hN : chkN l = n - 4 := by rw [chkN, hz, List.length_take]; omega
      rw [hN, hz, ho]
      exact ⟨A, c, he, (hx.on hw).head (by omega), hw⟩

set_option maxRecDepth 100000 in
set_option maxHeartbeats 4000000 in
theorem chk_walk (A : Option Addr) (n c : Nat) (l : List Int) (w : World) (hx : Lies .u8 w w.heap.size A n l) (hb : ∀ x ∈ l, 0 ≤ x ∧ x ≤ 255) (hcap : n ≤ c) (h500 : n ≤ 500) :
    Calls Try.prog 4 #[.slice A n c] w fun e w' => e = .returned (.bool true) ∧ Below w.heap.size w w' := by
  have hd : decide ((500 : Int) < (n : Int)) = false := by simp; omega
  have HB := Lib.hid hb
  have HCB := Lib.hid (chkL_bd l hb)
  have hNn : chkN l ≤ 500 := by have := chkN_le l; rw [hx.len] at this; omega
  have HCK := Lib.hid (fun A c w (h : Lies .u8 w w.heap.size A n l) hc => check_any A n c l w h hb (by omega) hc)
  have HRC := Lib.hid (fun A c w (h : Lies .u8 w w.heap.size A n l) hc => refCheck_any A n c l w h hb (by omega) hc)
  obtain ⟨zs, hzs⟩ : ∃ zs, zs = chkL l := ⟨_, rfl⟩
  obtain ⟨N, hN⟩ : ∃ N, N = chkN l := ⟨_, rfl⟩
  obtain ⟨ok, hok⟩ : ∃ ok, ok = checkB l := ⟨_, rfl⟩
  rw [← hzs, ← hN, ← hok] at HCK HRC
  rw [← hzs] at HCB
  rw [← hN] at hNn
  clear hzs hN hok hb
  have e1 : (ok != ok) = false := by simp
  have hw := Below.refl w.heap.size w
  go_enter Try.func4, Try.ntmps4
  go_wp2_with fail
  with_reducible refine (twinBytes_any _ _ _ _ _ hx (by omega)).mono ?_
  rintro e w1 ⟨g1, c1, rfl, hg1, ht, hb⟩
  replace hx := hx.on hb
  replace hw := below_then hw hb
  clear hb
  have hcapt := ht.cap
  go_wp2_with fail
  with_reducible refine (HCK.out _ _ _ ht.lies (by omega)).mono ?_
  rintro e w2 ⟨Y, rfl, hl, hE, hb⟩
  have hfar := hE.far ht.lt
  replace hE := hE.mono (base' := w.heap.size) hw.size
  replace hx := hx.on hb
  replace ht := ht.on hb
  replace hw := below_then hw hb
  clear hb
  go_wp2_with fail
  with_reducible refine (HRC.out _ _ _ hx hcap).mono ?_
  rintro e w3 ⟨A5, c5, rfl, hr, hb⟩
  replace hx := hx.on hb
  replace ht := ht.on hb
  replace hl := hl.on hb
  replace hE := hE.on hb
  replace hw := below_then hw hb
  clear hb
  go_wp2_with fail
  with_reducible refine (sameBytes_true _ _ _ _ _ _ _ _ _ hl hr HCB.out rfl).mono ?_
  rintro e w4 ⟨rfl, rfl⟩
  clear hl hr
  go_wp2_with fail
  with_reducible refine (leftBytes_true _ _ _ _ _ _ _ ht hx (by omega) HB.out).mono ?_
  rintro e w5 ⟨rfl, hb⟩
  replace hx := hx.on hb
  replace ht := ht.on hb
  replace hE := hE.on hb
  replace hw := below_then hw hb
  clear hb
  clear hx
  have hsl := fun W : World => cut3Bytes g1 n c1 (by omega) W
  go_wp2_with fail
  have hk := BookIs.empty (Blk.new _ 34 #[.slice none 0 0, .slice none 0 0, .slice none 0 0, .bool false]) hw.size
  replace ht := ht.on (below_al (Below.refl _ _) (.cells #[.slice none 0 0, .slice none 0 0, .slice none 0 0, .bool false] 34))
  replace hE := hE.on (below_al (Below.refl _ _) (.cells #[.slice none 0 0, .slice none 0 0, .slice none 0 0, .bool false] 34))
  replace hw := below_al hw (.cells #[.slice none 0 0, .slice none 0 0, .slice none 0 0, .bool false] 34)
  with_reducible refine (bookBytes _ _ _ _ _ _ _ _ _ _ _ hk (by simp)).mono ?_
  rintro e w6 ⟨rfl, ⟨v', hk'⟩, hbb, hkk⟩
  clear hk
  have hk := hk'
  clear hk'
  replace ht := ht.kept hkk (by decide)
  replace hE := hE.kept hkk (by decide)
  replace hw := hw.trans hbb
  clear hkk hbb
  simp only [List.nil_append] at hk
  clear hsl
  go_wp2_with fail
  with_reducible refine (bookBytes _ _ _ _ _ _ _ _ _ _ _ hk (by simp)).mono ?_
  rintro e w7 ⟨rfl, ⟨v', hk'⟩, hbb, hkk⟩
  clear hk
  have hk := hk'
  clear hk'
  replace ht := ht.kept hkk (by decide)
  replace hE := hE.kept hkk (by decide)
  replace hw := hw.trans hbb
  clear hkk hbb
  simp only [List.nil_append, List.cons_append] at hk
  have hentb : Ents _ 5 w.heap.size [(some ⟨g1, 0, none⟩, n), (Y, N)] := ents_cons (ht.ent hg1) (ents_cons hE ents0)
  have hdistb : Dist [(some ⟨g1, 0, none⟩, n), (Y, N)] := dist2 (fun _ h0 => hfar h0)
  go_wp2_with fail
  with_reducible refine (apart_any _ _ _ _ _ _ _ _ _ hk (by simp) (by simp) (by simp) (by simp; omega) (by simp) (by simp) hentb ents0 ents0 hdistb dist0 dist0).mono ?_
  rintro e w' ⟨rfl, hbb⟩
  replace hw := hw.trans hbb
  clear hk hbb hentb hdistb ht hE
  go_wp2_with fail
  with_reducible refine (lives_any _).mono ?_
  rintro e w'' ⟨rfl, hb⟩
  go_wp2_with fail
  go_ret
  exact ⟨rfl, below_then hw hb⟩

theorem sumsCheck.sumsCheck_walk (A : Option Addr) (n c : Nat) (xs : List Int) (w : World) (hx : Lies .u8 w w.heap.size A n xs) (hm : n ≤ c ∧ c ≤ maxLen) (ha : ∀ x ∈ xs, (Lit.int .u8 x).wf = true) :
    Calls Try.prog 4 #[.slice A n c] w fun e w' => e = .returned (.bool true) ∧ Below w.heap.size w w' := by
  by_cases h1 : n ≤ 500
  · exact chk_walk A n c xs w hx (fun x hx => bounds_u8 (ha x hx)) hm.1 h1
  · have hgt : (500 : Int) < (n : Int) := by omega
    go_enter Try.func4, Try.ntmps4
    go_wp2_with (go_at_call 8; refine (lives_any _).mono ?_; rintro e w1 ⟨rfl, hb⟩)
    go_ret
    exact ⟨rfl, hb⟩

set_option maxRecDepth 100000 in
set_option maxHeartbeats 4000000 in
theorem of_walk (A B C : Option Addr) (n m k cA cB cC : Nat) (a b c : List Int) (w : World) (hx : Lies .u8 w w.heap.size A n a) (hba : ∀ x ∈ a, 0 ≤ x ∧ x ≤ 255) (hy : Lies .u8 w w.heap.size B m b) (hbb : ∀ x ∈ b, 0 ≤ x ∧ x ≤ 255) (hz : Lies .u8 w w.heap.size C k c) (hbc : ∀ x ∈ c, 0 ≤ x ∧ x ≤ 255) (hn : n ≤ 300) (hm : m ≤ 300) (hk : k ≤ 300) :
    Calls Try.prog 3 #[.slice A n cA, .slice B m cB, .slice C k cC] w fun e w' => e = .returned (.bool true) ∧ Below w.heap.size w w' := by
  obtain ⟨i0, hi0, hz0, hz1, hz2⟩ := info_parts infoBytes
  have hd1 : decide ((300 : Int) < (n : Int)) = false := by simp; omega
  have hd2 : decide ((300 : Int) < (m : Int)) = false := by simp; omega
  have hd3 : decide ((300 : Int) < (k : Int)) = false := by simp; omega
  have HBA := Lib.hid hba
  have HBB := Lib.hid hbb
  have HBC := Lib.hid hbc
  have hall : ∀ x ∈ a ++ b ++ c, 0 ≤ x ∧ x ≤ 255 := fun x hx => by
    rcases List.mem_append.1 hx with h | h
    · rcases List.mem_append.1 h with h | h
      · exact hba x h
      · exact hbb x h
    · exact hbc x h
  have HALL := Lib.hid hall
  have HPB := Lib.hid (putL_bd _ hall)
  have HFL := Lib.hid (show [a, b, c].flatten = a ++ b ++ c by simp)
  have HLL := Lib.hid (show (a ++ b ++ c).length = n + m + k by rw [List.length_append, List.length_append, hx.len, hy.len, hz.len])
  have HPL := Lib.hid (show (putL (a ++ b ++ c)).length = n + m + k + 4 by rw [putL_length, HLL.out])
  have HPA := Lib.hid (show (putL a).length = n + 4 by rw [putL_length, hx.len])
  have HP3 := Lib.hid (fun u {g} (h : Parts u (some ⟨g, 0, none⟩) 3 [a, b, c]) => sumPut_all g 3 _ u h)
  have HO3 := Lib.hid (fun u {g} (h : Parts u (some ⟨g, 0, none⟩) 3 [a, b, c]) => sumOf_all g 3 _ u h)
  rw [HFL.out] at HP3 HO3
  rw [HLL.out] at HP3
  have HRO := Lib.hid (fun u A c' (h : Lies .u8 u u.heap.size A (n + m + k) (a ++ b ++ c)) => refOf_any A (n + m + k) c' _ u h hall (by omega))
  have HRP := Lib.hid (fun u A c' (h : Lies .u8 u u.heap.size A (n + m + k) (a ++ b ++ c)) => refPut_any A (n + m + k) c' _ u h hall (by omega))
  obtain ⟨s, hs⟩ : ∃ s, s = sumI (a ++ b ++ c) := ⟨_, rfl⟩
  rw [← hs] at HO3 HRO
  have e1 : (s != s) = false := by simp
  have hx0 := hx
  have hy0 := hy
  have hz0' := hz
  clear hba hbb hbc hall hs
  go_enter Try.func3, Try.ntmps3
  go_wp2_with (first
    | (at_builtin; with_reducible refine wpList_append_lies rfl (.const (.slice none 0 0)) (.tmp 25) 22 rfl w.heap.size 5 i0 _ 1 Try.underlying22 hi0 hz0 hz1 hz2 rfl .u8 (.slice none 0 0) 0 [] rfl owns_none A n cA a rfl hx n (Nat.zero_add n) (by unfold maxLen; omega) (by omega) (Nat.le_refl _) ?_))
  intro A1 c1 w1 hown1 hg1 _
  have hb1 := (Below.refl w.heap.size w).grown hg1 (Nat.le_refl _) (by simp [Value.ownBlock])
  replace hx := hx.on hb1
  replace hy := hy.on hb1
  replace hz := hz.on hb1
  clear hg1
  go_wp2_with (first
    | (at_builtin; with_reducible refine wpList_append_lies rfl (.tmp 26) (.tmp 27) 22 rfl w.heap.size 5 i0 _ 1 Try.underlying22 hi0 hz0 hz1 hz2 rfl .u8 (.slice A1 n c1) n a rfl hown1 B m cB b rfl hy (n + m) rfl (by unfold maxLen; omega) (by omega) hb1.size ?_))
  intro A2 c2 w2 hown2 hg2 _
  have hb2 := hb1.grown hg2 hb1.size (fun q hq => (hown1.lt q hq).1)
  have hx2 : Lies .u8 w2 w2.heap.size A n a := (hx0.on hb2)
  have hy2 : Lies .u8 w2 w2.heap.size B m b := (hy0.on hb2)
  have hz2' : Lies .u8 w2 w2.heap.size C k c := (hz0'.on hb2)
  have hown2' : w2.ownsRow w.heap.size 5 1 (.slice A2 (n + m) c2) (n + m) ((a ++ b).map (Value.int .u8)) := by rw [List.map_append]; exact hown2
  clear hg2 hown1 hx hy hz
  go_wp2_with (first
    | (at_builtin; with_reducible refine wpList_append_lies rfl (.tmp 28) (.tmp 29) 22 rfl w.heap.size 5 i0 _ 1 Try.underlying22 hi0 hz0 hz1 hz2 rfl .u8 (.slice A2 (n + m) c2) (n + m) (a ++ b) rfl hown2' C k cC c rfl hz2' (n + m + k) rfl (by unfold maxLen; omega) (by omega) hb2.size ?_))
  intro A3 c3 w3 hown3 hg3 _
  have hw := hb2.grown hg3 hb2.size (fun q hq => (hown2.lt q hq).1)
  have hall : Lies .u8 w3 w3.heap.size A3 (n + m + k) (a ++ b ++ c) := lies_of_owns (base := w.heap.size) (e := 5) (c := c3) (by rw [List.map_append, List.map_append, List.append_assoc]; exact hown3)
  have hx := hx0.on hw
  have hy := hy0.on hw
  have hz := hz0'.on hw
  clear hx2 hy2 hz2' hown2 hown2' hown3 hg3 hb1 hb2 hx0 hy0 hz0'
  have hs3 := hw.size
  go_wp2_with fail
  with_reducible refine (twinBytes_any _ _ _ _ _ hx (by omega)).mono ?_
  rintro e w4 ⟨g1, ct, rfl, hg1, ht, hb⟩
  replace hx := hx.on hb
  replace hy := hy.on hb
  replace hz := hz.on hb
  replace hall := hall.on hb
  replace hw := below_then hw hb
  clear hb
  have hcapt := ht.cap
  go_wp2_with fail
  have hp : Parts (w4.alloc (.cells #[.slice (some ⟨g1, 0, none⟩) n ct, .slice B m cB, .slice C k cC] 22)) (some ⟨w4.heap.size, 0, none⟩) 3 [a, b, c] := partsNew w4 [(some ⟨g1, 0, none⟩, n, ct, a), (B, m, cB, b), (C, k, cC, c)] rfl (by omega) (by simp only [List.forall_mem_cons]; exact ⟨⟨ht.lies, by omega, HBA.out⟩, ⟨hy, by omega, HBB.out⟩, ⟨hz, by omega, HBC.out⟩, fun _ h => by cases h⟩)
  replace hx := hx.on (below_al (Below.refl _ _) (.cells #[.slice (some ⟨g1, 0, none⟩) n ct, .slice B m cB, .slice C k cC] 22))
  replace hy := hy.on (below_al (Below.refl _ _) (.cells #[.slice (some ⟨g1, 0, none⟩) n ct, .slice B m cB, .slice C k cC] 22))
  replace hz := hz.on (below_al (Below.refl _ _) (.cells #[.slice (some ⟨g1, 0, none⟩) n ct, .slice B m cB, .slice C k cC] 22))
  replace hall := hall.on (below_al (Below.refl _ _) (.cells #[.slice (some ⟨g1, 0, none⟩) n ct, .slice B m cB, .slice C k cC] 22))
  replace ht := ht.on (below_al (Below.refl _ _) (.cells #[.slice (some ⟨g1, 0, none⟩) n ct, .slice B m cB, .slice C k cC] 22))
  replace hw := below_al hw (.cells #[.slice (some ⟨g1, 0, none⟩) n ct, .slice B m cB, .slice C k cC] 22)
  with_reducible refine (HP3.out _ hp).mono ?_
  rintro e w5 ⟨g2, rfl, hg2, hB2, hb⟩
  have hg12 := ht.lt
  clear hp
  replace hx := hx.on hb
  replace hy := hy.on hb
  replace hz := hz.on hb
  replace hall := hall.on hb
  replace ht := ht.on hb
  replace hw := below_then hw hb
  clear hb
  go_wp2_with fail
  have hp : Parts (w5.alloc (.cells #[.slice (some ⟨g1, 0, none⟩) n ct, .slice B m cB, .slice C k cC] 22)) (some ⟨w5.heap.size, 0, none⟩) 3 [a, b, c] := partsNew w5 [(some ⟨g1, 0, none⟩, n, ct, a), (B, m, cB, b), (C, k, cC, c)] rfl (by omega) (by simp only [List.forall_mem_cons]; exact ⟨⟨ht.lies, by omega, HBA.out⟩, ⟨hy, by omega, HBB.out⟩, ⟨hz, by omega, HBC.out⟩, fun _ h => by cases h⟩)
  replace hx := hx.on (below_al (Below.refl _ _) (.cells #[.slice (some ⟨g1, 0, none⟩) n ct, .slice B m cB, .slice C k cC] 22))
  replace hy := hy.on (below_al (Below.refl _ _) (.cells #[.slice (some ⟨g1, 0, none⟩) n ct, .slice B m cB, .slice C k cC] 22))
  replace hz := hz.on (below_al (Below.refl _ _) (.cells #[.slice (some ⟨g1, 0, none⟩) n ct, .slice B m cB, .slice C k cC] 22))
  replace hall := hall.on (below_al (Below.refl _ _) (.cells #[.slice (some ⟨g1, 0, none⟩) n ct, .slice B m cB, .slice C k cC] 22))
  replace ht := ht.on (below_al (Below.refl _ _) (.cells #[.slice (some ⟨g1, 0, none⟩) n ct, .slice B m cB, .slice C k cC] 22))
  replace hB2 := hB2.on (below_al (Below.refl _ _) (.cells #[.slice (some ⟨g1, 0, none⟩) n ct, .slice B m cB, .slice C k cC] 22))
  replace hw := below_al hw (.cells #[.slice (some ⟨g1, 0, none⟩) n ct, .slice B m cB, .slice C k cC] 22)
  with_reducible refine (HO3.out _ hp).mono ?_
  rintro e w6 ⟨rfl, hb⟩
  clear hp
  replace hx := hx.on hb
  replace hy := hy.on hb
  replace hz := hz.on hb
  replace hall := hall.on hb
  replace ht := ht.on hb
  replace hB2 := hB2.on hb
  replace hw := below_then hw hb
  clear hb
  go_wp2_with fail
  with_reducible refine (HRO.out _ _ _ hall).mono ?_
  rintro e w7 ⟨rfl, hb⟩
  replace hx := hx.on hb
  replace hy := hy.on hb
  replace hz := hz.on hb
  replace hall := hall.on hb
  replace ht := ht.on hb
  replace hB2 := hB2.on hb
  replace hw := below_then hw hb
  clear hb
  go_wp2_with fail
  with_reducible refine (HRP.out _ _ _ hall).mono ?_
  rintro e w8 ⟨A6, c6, rfl, hr, hb⟩
  replace hx := hx.on hb
  replace hy := hy.on hb
  replace hz := hz.on hb
  replace hall := hall.on hb
  replace ht := ht.on hb
  replace hB2 := hB2.on hb
  replace hw := below_then hw hb
  clear hb
  go_wp2_with fail
  with_reducible refine (sameBytes_true _ _ _ _ _ _ _ _ _ (hB2.lies HPL.out) hr HPB.out rfl).mono ?_
  rintro e w9 ⟨rfl, rfl⟩
  clear hr hall
  go_wp2_with fail
  with_reducible refine (leftBytes_true _ _ _ _ _ _ _ ht hx (by omega) HBA.out).mono ?_
  rintro e w10 ⟨rfl, hb⟩
  replace hx := hx.on hb
  replace hy := hy.on hb
  replace hz := hz.on hb
  replace ht := ht.on hb
  replace hB2 := hB2.on hb
  replace hw := below_then hw hb
  clear hb
  clear hx hy hz
  have hsl := fun W : World => cut3Bytes g1 n ct (by omega) W
  have hg2' : w.heap.size ≤ g2 := by omega
  go_wp2_with fail
  have hk := BookIs.empty (Blk.new _ 34 #[.slice none 0 0, .slice none 0 0, .slice none 0 0, .bool false]) hw.size
  replace ht := ht.on (below_al (Below.refl _ _) (.cells #[.slice none 0 0, .slice none 0 0, .slice none 0 0, .bool false] 34))
  replace hB2 := hB2.on (below_al (Below.refl _ _) (.cells #[.slice none 0 0, .slice none 0 0, .slice none 0 0, .bool false] 34))
  replace hw := below_al hw (.cells #[.slice none 0 0, .slice none 0 0, .slice none 0 0, .bool false] 34)
  with_reducible refine (bookBytes _ _ _ _ _ _ _ _ _ _ _ hk (by simp)).mono ?_
  rintro e w11 ⟨rfl, ⟨v', hk'⟩, hbb, hkk⟩
  clear hk
  have hk := hk'
  clear hk'
  replace ht := ht.kept hkk (by decide)
  replace hB2 := hkk _ _ _ (by decide) hB2
  replace hw := hw.trans hbb
  clear hkk hbb
  simp only [List.nil_append] at hk
  clear hsl
  go_wp2_with fail
  with_reducible refine (bookBytes _ _ _ _ _ _ _ _ _ _ _ hk (by simp)).mono ?_
  rintro e w12 ⟨rfl, ⟨v', hk'⟩, hbb, hkk⟩
  clear hk
  have hk := hk'
  clear hk'
  replace ht := ht.kept hkk (by decide)
  replace hB2 := hkk _ _ _ (by decide) hB2
  replace hw := hw.trans hbb
  clear hkk hbb
  simp only [List.nil_append, List.cons_append] at hk
  go_wp2_with fail
  with_reducible refine (put1 (some ⟨g1, 0, none⟩) n ct a _ ht.lies HBA.out (by omega) (n + 4) rfl _ rfl).mono ?_
  rintro e w13 ⟨g3, rfl, hg3, hB3, hb⟩
  have hlt2 := hB2.lt
  have hlt1 := ht.lt
  have hws := hw.size
  replace hk := hk.below hb
  replace ht := ht.on hb
  replace hB2 := hB2.on hb
  replace hw := below_then hw hb
  clear hb
  go_wp2_with fail
  with_reducible refine (bookBytes _ _ _ _ _ _ _ _ _ _ _ hk (by simp)).mono ?_
  rintro e w14 ⟨rfl, ⟨v', hk'⟩, hbb, hkk⟩
  clear hk
  have hk := hk'
  clear hk'
  replace ht := ht.kept hkk (by decide)
  replace hB2 := hkk _ _ _ (by decide) hB2
  replace hB3 := hkk _ _ _ (by decide) hB3
  replace hw := hw.trans hbb
  clear hkk hbb
  simp only [List.nil_append, List.cons_append] at hk
  go_wp2_with fail
  with_reducible refine (sumPut_any none 0 0 [] _ parts0).mono ?_
  rintro e w15 ⟨g4, rfl, hg4, hB4, hb⟩
  have hlt3 := hB3.lt
  replace hk := hk.below hb
  have hlt2' := hB2.lt
  have hlt1' := ht.lt
  have hws' := hw.size
  replace ht := ht.on hb
  replace hB2 := hB2.on hb
  replace hB3 := hB3.on hb
  replace hw := below_then hw hb
  clear hb
  go_wp2_with fail
  with_reducible refine (bookBytes _ _ _ _ _ _ _ _ _ _ _ hk (by simp)).mono ?_
  rintro e w16 ⟨rfl, ⟨v', hk'⟩, hbb, hkk⟩
  clear hk
  have hk := hk'
  clear hk'
  replace ht := ht.kept hkk (by decide)
  replace hB2 := hkk _ _ _ (by decide) hB2
  replace hB3 := hkk _ _ _ (by decide) hB3
  replace hB4 := hkk _ _ _ (by decide) hB4
  replace hw := hw.trans hbb
  clear hkk hbb
  simp only [List.nil_append, List.cons_append] at hk
  have hentb : Ents _ 5 w.heap.size [(some ⟨g1, 0, none⟩, n), (some ⟨g2, 0, none⟩, n + m + k + 4), (some ⟨g3, 0, none⟩, n + 4), (some ⟨g4, 0, none⟩, 4)] :=
    ents_cons (ht.ent (by omega)) (ents_cons (hB2.ent HPL.out (by omega)) (ents_cons (hB3.ent HPA.out (by omega)) (ents_cons (hB4.ent rfl (by omega)) ents0)))
  have hdistb : Dist [(some ⟨g1, 0, none⟩, n), (some ⟨g2, 0, none⟩, n + m + k + 4), (some ⟨g3, 0, none⟩, n + 4), (some ⟨g4, 0, none⟩, 4)] :=
    dist_cons (by simp only [List.forall_mem_cons]; exact ⟨fun _ _ => addr_ne (by omega), fun _ _ => addr_ne (by omega), fun _ _ => addr_ne (by omega), fun _ h => by cases h⟩)
      (dist_cons (by simp only [List.forall_mem_cons]; exact ⟨fun _ _ => addr_ne (by omega), fun _ _ => addr_ne (by omega), fun _ h => by cases h⟩)
        (dist_cons (by simp only [List.forall_mem_cons]; exact ⟨fun _ _ => addr_ne (by omega), fun _ h => by cases h⟩) (dist_cons (fun _ h => by cases h) dist0)))
  go_wp2_with fail
  with_reducible refine (apart_any _ _ _ _ _ _ _ _ _ hk (by simp) (by simp) (by simp) (by simp; omega) (by simp) (by simp) hentb ents0 ents0 hdistb dist0 dist0).mono ?_
  rintro e w' ⟨rfl, hbb⟩
  replace hw := hw.trans hbb
  clear hk hbb hentb hdistb ht hB2 hB3 hB4
  go_wp2_with fail
  with_reducible refine (lives_any _).mono ?_
  rintro e w'' ⟨rfl, hb⟩
  go_wp2_with fail
  go_ret
  exact ⟨rfl, below_then hw hb⟩

theorem sumsOf.sumsOf_walk (A : Option Addr) (n cA : Nat) (a : List Int) (B : Option Addr) (m cB : Nat) (b : List Int) (C : Option Addr) (k cC : Nat) (c : List Int) (w : World) (hx : Lies .u8 w w.heap.size A n a) (_ : n ≤ maxLen) (ha : ∀ x ∈ a, (Lit.int .u8 x).wf = true)
    (hy : Lies .u8 w w.heap.size B m b) (_ : m ≤ maxLen) (hb : ∀ x ∈ b, (Lit.int .u8 x).wf = true) (hz : Lies .u8 w w.heap.size C k c) (_ : k ≤ maxLen) (hc : ∀ x ∈ c, (Lit.int .u8 x).wf = true) :
    Calls Try.prog 3 #[.slice A n cA, .slice B m cB, .slice C k cC] w fun e w' => e = .returned (.bool true) ∧ Below w.heap.size w w' := by
  by_cases h1 : n ≤ 300
  · have hd1 : decide ((300 : Int) < (n : Int)) = false := by simp; omega
    by_cases h2 : m ≤ 300
    · have hd2 : decide ((300 : Int) < (m : Int)) = false := by simp; omega
      by_cases h3 : k ≤ 300
      · exact of_walk A B C n m k cA cB cC a b c w hx (fun x hx => bounds_u8 (ha x hx)) hy (fun x hx => bounds_u8 (hb x hx)) hz (fun x hx => bounds_u8 (hc x hx)) h1 h2 h3
      · have hgt : (300 : Int) < (k : Int) := by omega
        go_enter Try.func3, Try.ntmps3
        go_wp2_with (go_at_call 8; refine (lives_any _).mono ?_; rintro e w1 ⟨rfl, hb⟩)
        go_ret
        exact ⟨rfl, hb⟩
    · have hgt : (300 : Int) < (m : Int) := by omega
      go_enter Try.func3, Try.ntmps3
      go_wp2_with (go_at_call 8; refine (lives_any _).mono ?_; rintro e w1 ⟨rfl, hb⟩)
      go_ret
      exact ⟨rfl, hb⟩
  · have hgt : (300 : Int) < (n : Int) := by omega
    go_enter Try.func3, Try.ntmps3
    go_wp2_with (go_at_call 8; refine (lives_any _).mono ?_; rintro e w1 ⟨rfl, hb⟩)
    go_ret
    exact ⟨rfl, hb⟩
end Go.Proofs.Ytnilchcgjiachaa
