/-
  The walk of the law BitsOf: it returns true, and nothing that was there has turned. Conditions: the slices' readings, bytes, lengths within the capacities.
-/
import Derived.Test.YtafnkcjnnebffaaLawTurn
import Derived.Test.YtafnkcjnnebffaaRefOf
import Derived.Test.YtafnkcjnnebffaaRefBytes
namespace Go.Proofs.Ytafnkcjnnebffaa
open Go.RowKit

def bytesZ (xs : List Int) : List Int := if bytesOk xs = true then bytesL xs else []
def bytesN (xs : List Int) : Nat := (bytesZ xs).length
theorem bytesN_le (xs : List Int) : bytesN xs ≤ xs.length := by
  unfold bytesN bytesZ
  split
  · rw [bytesL_length]; omega
  · simp
theorem bytesZ_bd (xs : List Int) : ∀ x ∈ bytesZ xs, 0 ≤ x ∧ x ≤ 255 := by
  intro x hx
  unfold bytesZ at hx
  split at hx
  · rename_i ho
    obtain ⟨q, hq, rfl⟩ := List.getElem_of_mem hx
    have hq' : q < xs.length / 8 := by rw [bytesL_length] at hq; exact hq
    have hw : wholeL xs = true := by simp [bytesOk] at ho; exact ho.2
    have h := (part_num xs q hw (by omega)).2
    rw [getD_at _ _ hq] at h
    exact ⟨h.1, by omega⟩
  · simp at hx

theorem bytes_any (A : Option Addr) (n c : Nat) (xs : List Int) (w : World) (hx : Lies .u8 w w.heap.size A n xs) (hn : n ≤ 65536) :
    Calls Try.prog 13 #[.slice A n c] w fun e w' => ∃ A', e = .returned (.tuple #[.slice A' (bytesN xs) (bytesN xs), .bool (bytesOk xs)]) ∧ Lies .u8 w' w'.heap.size A' (bytesN xs) (bytesZ xs) ∧ Ent w' 5 w.heap.size (A', bytesN xs) ∧ Below w.heap.size w w' := by
  by_cases ho : bytesOk xs = true
  · have hz : bytesZ xs = bytesL xs := by rw [bytesZ, if_pos ho]
    have hN : n / 8 = bytesN xs := by rw [bytesN, hz, bytesL_length, hx.len]
    refine (bytes_yes A n c xs w hx hn ho).mono fun e w' h => ?_
    obtain ⟨g, he, hg, hB, hb⟩ := h
    rw [hN] at he
    rw [hz]
    exact ⟨_, by rw [he, ho], hB.lies (by rw [bytesL_length, hx.len, hN]), hB.ent (by rw [bytesL_length, hx.len, hN]) hg, hb⟩
  · have ho' : bytesOk xs = false := by simpa using ho
    have hz : bytesZ xs = [] := by rw [bytesZ, if_neg ho]
    have hN : bytesN xs = 0 := by rw [bytesN, hz]; rfl
    refine (bytes_no A n c xs w hx hn ho').mono fun e w' h => ?_
    obtain ⟨he, hw⟩ := h
    subst hw
    rw [hN, hz, ho']
    exact ⟨none, he, Lies.nil_, fun h => absurd h (Nat.lt_irrefl 0), Below.refl _ _⟩
theorem refBytes_any (A : Option Addr) (n c : Nat) (xs : List Int) (w : World) (hx : Lies .u8 w w.heap.size A n xs) (hn : n ≤ 65536) (hcap : n ≤ c) :
    Calls Try.prog 14 #[.slice A n c] w fun e w' => ∃ A' c', e = .returned (.tuple #[.slice A' (bytesN xs) c', .bool (bytesOk xs)]) ∧ Lies .u8 w' w'.heap.size A' (bytesN xs) (bytesZ xs) ∧ Below w.heap.size w w' := by
  by_cases ho : bytesOk xs = true
  · have hz : bytesZ xs = bytesL xs := by rw [bytesZ, if_pos ho]
    have hN : n / 8 = bytesN xs := by rw [bytesN, hz, bytesL_length, hx.len]
    refine (refBytes_yes A n c xs w hx hn hcap ho).mono fun e w' h => ?_
    obtain ⟨A', c', he, hl, hb⟩ := h
    rw [hN] at he hl
    rw [hz]
    exact ⟨A', c', by rw [he, ho], hl, hb⟩
  · have ho' : bytesOk xs = false := by simpa using ho
    have hz : bytesZ xs = [] := by rw [bytesZ, if_neg ho]
    have hN : bytesN xs = 0 := by rw [bytesN, hz]; rfl
    refine (refBytes_no A n c xs w hx hn ho').mono fun e w' h => ?_
    obtain ⟨he, hw⟩ := h
    subst hw
    rw [hN, hz, ho']
    exact ⟨none, 0, he, Lies.nil_, Below.refl _ _⟩
theorem Ent.mono {w : World} {T : TypeId} {base base' : Nat} {p : Option Addr × Nat} (h : Ent w T base p) (hb : base' ≤ base) : Ent w T base' p := fun h0 => by
  obtain ⟨g, cs, e, h1, h2⟩ := h h0
  exact ⟨g, cs, e, by omega, h2⟩
theorem Ent.on {w w' : World} {T : TypeId} {base : Nat} {p : Option Addr × Nat} (h : Ent w T base p) (hb : Below w.heap.size w w') : Ent w' T base p := h.kept (KeptBut.below hb []) (by simp)
theorem Ent.far {w : World} {T : TypeId} {base g : Nat} {p : Option Addr × Nat} (h : Ent w T base p) (hg : g < base) : 0 < p.2 → (some ⟨g, 0, none⟩ : Option Addr) ≠ p.1 := fun h0 e => by
  obtain ⟨g', cs, e', h1, _⟩ := h h0
  rw [e'] at e
  injection e with e
  injection e with e
  omega
theorem cut3Bytes (g n c : Nat) (h : n ≤ c) (w : World) :
    (Instr.sliceAt 22 (.slice (some ⟨g, 0, none⟩) n c) none (some (.int .i64 (n : Int))) (some (.int .i64 (n : Int)))).run Try.prog w = .ok (.slice (some ⟨g, 0, none⟩) n n) w := by
  rw [run_sliceAt_slice w _ _ _ _ _ elemBytes, run_slice_hm w 22 _ n c elemBytes .i64 .i64 (n : Int) (n : Int) (by omega) (by omega) (by omega), sizeBytes]
  simp only [Result.andThen, sliced]
  simp [Addr.add]

set_option maxRecDepth 100000 in
theorem of_walk (A B : Option Addr) (n m c d : Nat) (bs xs : List Int) (w : World) (hx : Lies .u8 w w.heap.size A n bs) (hm : n ≤ maxLen) (hb : ∀ x ∈ bs, 0 ≤ x ∧ x ≤ 255) (hy : Lies .u8 w w.heap.size B m xs) (hm' : m ≤ maxLen) (hcap : m ≤ d) :
    Calls Try.prog 3 #[.slice A n c, .slice B m d] w fun e w' => e = .returned (.bool true) ∧ Below w.heap.size w w' := by
  unfold maxLen at hm hm'
  have HBD := Lib.hid hb
  clear hb
  by_cases h2000 : n ≤ 2000
  · have hd : decide ((2000 : Int) < (n : Int)) = false := by simp; omega
    by_cases h2000' : m ≤ 2000
    · have hd' : decide ((2000 : Int) < (m : Int)) = false := by simp; omega
      have HL := Lib.hid hx.len
      have hbN : bytesN xs ≤ m := by have := bytesN_le xs; rw [hy.len] at this; exact this
      have HZB := Lib.hid (bytesZ_bd xs)
      have hby := fun A c w h => bytes_any A m c xs w h (by omega)
      have hrby := fun A c w h => refBytes_any A m c xs w h (by omega)
      obtain ⟨zs, hzs⟩ : ∃ zs, zs = bytesZ xs := ⟨_, rfl⟩
      obtain ⟨N, hN⟩ : ∃ N, N = bytesN xs := ⟨_, rfl⟩
      obtain ⟨ok, hok⟩ : ∃ ok, ok = bytesOk xs := ⟨_, rfl⟩
      rw [← hzs, ← hN, ← hok] at hby hrby
      rw [← hzs] at HZB
      rw [← hN] at hbN
      have HBY := Lib.hid hby
      have HRBY := Lib.hid hrby
      clear hby hrby hzs hN hok
      have e1 : (ok != ok) = false := by simp
      have e2 : (wholeL xs != wholeL xs) = false := by simp
      go_enter Try.func3, Try.ntmps3
      go_wp2_with fail
      with_reducible refine (twinBytes_any _ _ _ _ _ hx (by omega)).mono ?_
      rintro e w1 ⟨g1, c1, rfl, hg1, ht1, hb1⟩
      have hx1 := hx.on hb1
      have hy1 := hy.on hb1
      clear hx hy hm hm'
      go_wp2_with fail
      with_reducible refine (twinSyms_any _ _ _ _ _ hy1 (by omega)).mono ?_
      rintro e w2 ⟨g2, c2, rfl, hg2, hu2, hb⟩
      have hx2 := hx1.on hb
      have hy2 := hy1.on hb
      have ht2 := ht1.on hb
      have hb2 := below_then hb1 hb
      clear hb hx1 hy1 ht1
      go_wp2_with fail
      with_reducible refine (of_any _ _ _ _ _ ht2.lies HBD.out (by omega)).mono ?_
      rintro e w3 ⟨g3, rfl, hg3, hB3, hb⟩
      have hx3 := hx2.on hb
      have hy3 := hy2.on hb
      have ht3 := ht2.on hb
      have hlt2 := hu2.lt
      have hu3 := hu2.on hb
      have hb3 := below_then hb2 hb
      clear hb hx2 hy2 ht2 hu2
      go_wp2_with fail
      with_reducible refine (HBY.out _ _ _ hu3.lies).mono ?_
      rintro e w4 ⟨Y, rfl, hl4, hE4, hb⟩
      have hx4 := hx3.on hb
      have hy4 := hy3.on hb
      have hfar := hE4.far ht3.lt
      have hE4' := hE4.mono (base' := w.heap.size) hb3.size
      have ht4 := ht3.on hb
      have hu4 := hu3.on hb
      have hB4 := hB3.on hb
      have hb4 := below_then hb3 hb
      clear hb hx3 hy3 ht3 hu3 hB3 hb3 hE4
      go_wp2_with fail
      with_reducible refine (HRBY.out _ _ _ hy4 hcap).mono ?_
      rintro e w5 ⟨A5, c5, rfl, hr5, hb⟩
      have hx5 := hx4.on hb
      have hy5 := hy4.on hb
      have ht5 := ht4.on hb
      have hu5 := hu4.on hb
      have hB5 := hB4.on hb
      have hl5 := hl4.on hb
      have hE5 := hE4'.on hb
      have hb5 := below_then hb4 hb
      clear hb hx4 hy4 ht4 hu4 hB4 hl4 hE4' hb4
      go_wp2_with fail
      with_reducible refine (refOf_any _ _ _ _ _ hx5 HBD.out (by omega)).mono ?_
      rintro e w6 ⟨A6, c6, rfl, hr6, hb⟩
      have hx6 := hx5.on hb
      have hy6 := hy5.on hb
      have ht6 := ht5.on hb
      have hu6 := hu5.on hb
      have hB6 := hB5.on hb
      have hl6 := hl5.on hb
      have hz6 := hr5.on hb
      have hE6 := hE5.on hb
      have hb6 := below_then hb5 hb
      clear hb hx5 hy5 ht5 hu5 hB5 hl5 hE5 hb5 hr5
      go_wp2_with fail
      with_reducible refine (same_true _ _ _ _ _ _ _ _ _ (hB6.lies (n := 8 * n) (by rw [ofL_length, HL.out])) hr6 (by omega) (by omega) rfl).mono ?_
      rintro e w7 ⟨rfl, hb⟩
      have hx7 := hx6.on hb
      have hy7 := hy6.on hb
      have ht7 := ht6.on hb
      have hu7 := hu6.on hb
      have hB7 := hB6.on hb
      have hl7 := hl6.on hb
      have hz7 := hz6.on hb
      have hE7 := hE6.on hb
      have hb7 := below_then hb6 hb
      clear hb hx6 hy6 ht6 hu6 hB6 hl6 hz6 hE6 hb6 hr6
      go_wp2_with fail
      with_reducible refine (sameBytes_true _ _ _ _ _ _ _ _ _ hl7 hz7 HZB.out rfl).mono ?_
      rintro e w' ⟨rfl, rfl⟩
      clear hl7 hz7
      go_wp2_with fail
      with_reducible refine (leftBytes_true _ _ _ _ _ _ _ ht7 hx7 (by omega) HBD.out).mono ?_
      rintro e w8 ⟨rfl, hb⟩
      have hy8 := hy7.on hb
      have ht8 := ht7.on hb
      have hu8 := hu7.on hb
      have hB8 := hB7.on hb
      have hE8 := hE7.on hb
      have hb8 := below_then hb7 hb
      clear hb hx7 hy7 ht7 hu7 hB7 hE7 hb7
      go_wp2_with fail
      with_reducible refine (leftSyms_true _ _ _ _ _ _ _ hu8 hy8 (by omega)).mono ?_
      rintro e w9 ⟨rfl, hb⟩
      have hy9 := hy8.on hb
      have ht9 := ht8.on hb
      have hu9 := hu8.on hb
      have hB9 := hB8.on hb
      have hE9 := hE8.on hb
      have hb9 := below_then hb8 hb
      clear hb hy8 ht8 hu8 hB8 hE8 hb8
      go_wp2_with fail
      with_reducible refine (whole_any _ _ _ _ _ hu9.lies (by omega)).mono ?_
      rintro e w' ⟨rfl, rfl⟩
      go_wp2_with fail
      with_reducible refine (refWhole_any _ _ _ _ _ hy9 (by omega)).mono ?_
      rintro e w' ⟨rfl, rfl⟩
      have hcapu := hu9.cap
      have hcapt := ht9.cap
      have hsl := fun W : World => cut3Syms g2 m c2 (by omega) W
      have hsl' := fun W : World => cut3Bytes g1 n c1 (by omega) W
      go_wp2_with fail
      have hk0 := BookIs.empty (Blk.new w9 37 #[.slice none 0 0, .slice none 0 0, .slice none 0 0, .bool false]) hb9.size
      have hbA := below_al hb9 (.cells #[.slice none 0 0, .slice none 0 0, .slice none 0 0, .bool false] 37)
      have kA := KeptBut.alloc w9 (.cells #[.slice none 0 0, .slice none 0 0, .slice none 0 0, .bool false] 37) []
      have htA := ht9.kept kA (by simp)
      have huA := hu9.kept kA (by simp)
      have hBA := kA _ _ _ (by simp) hB9
      have hEA := hE9.kept kA (by simp)
      clear kA ht9 hu9 hB9 hE9 hb9 hy9
      with_reducible refine (bookSyms _ _ _ _ _ _ _ _ _ _ _ hk0 (by simp)).mono ?_
      rintro e wB ⟨rfl, ⟨vB, hkB⟩, hbb, hkk⟩
      have htB := htA.kept hkk (by decide)
      have huB := huA.kept hkk (by decide)
      have hBB := hkk _ _ _ (by decide) hBA
      have hEB := hEA.kept hkk (by decide)
      have hbB := hbA.trans hbb
      clear hk0 hbA htA huA hBA hEA hbb hkk hsl
      rw [List.nil_append] at hkB
      go_wp2_with fail
      with_reducible refine (bookSyms _ _ _ _ _ _ _ _ _ _ _ hkB (by simp)).mono ?_
      rintro e wC ⟨rfl, ⟨vC, hkC⟩, hbb, hkk⟩
      have htC := htB.kept hkk (by decide)
      have huC := huB.kept hkk (by decide)
      have hBC := hkk _ _ _ (by decide) hBB
      have hEC := hEB.kept hkk (by decide)
      have hbC := hbB.trans hbb
      clear hkB hbB htB huB hBB hEB hbb hkk
      go_wp2_with fail
      with_reducible refine (bookBytes _ _ _ _ _ _ _ _ _ _ _ hkC (by simp)).mono ?_
      rintro e wD ⟨rfl, ⟨vD, hkD⟩, hbb, hkk⟩
      have htD := htC.kept hkk (by decide)
      have huD := huC.kept hkk (by decide)
      have hBD := hkk _ _ _ (by decide) hBC
      have hED := hEC.kept hkk (by decide)
      have hbD := hbC.trans hbb
      clear hkC hbC htC huC hBC hEC hbb hkk hsl'
      rw [List.nil_append] at hkD
      go_wp2_with fail
      with_reducible refine (bookBytes _ _ _ _ _ _ _ _ _ _ _ hkD (by simp)).mono ?_
      rintro e wE ⟨rfl, ⟨vE, hkE⟩, hbb, hkk⟩
      have htE := htD.kept hkk (by decide)
      have huE := huD.kept hkk (by decide)
      have hBE := hkk _ _ _ (by decide) hBD
      have hEE := hED.kept hkk (by decide)
      have hbE := hbD.trans hbb
      clear hkD hbD htD huD hBD hED hbb hkk
      simp only [List.cons_append, List.nil_append] at hkE
      have hs1 := hb1.size
      have hs2 := hb2.size
      have hents : Ents wE 53 w.heap.size [(some ⟨g2, 0, none⟩, m), (some ⟨g3, 0, none⟩, 8 * n)] := ents2 (huE.ent (by omega)) (hBE.ent (by rw [ofL_length, HL.out]) (by omega))
      have hentb : Ents wE 5 w.heap.size [(some ⟨g1, 0, none⟩, n), (Y, N)] := ents2 (htE.ent hg1) hEE
      have hdist : Dist [(some ⟨g2, 0, none⟩, m), (some ⟨g3, 0, none⟩, 8 * n)] := dist2 (fun _ _ => addr_ne (by omega))
      have hdistb : Dist [(some ⟨g1, 0, none⟩, n), (Y, N)] := dist2 (fun _ h0 => hfar h0)
      go_wp2_with fail
      with_reducible refine (apart_any _ _ _ _ _ _ _ _ _ hkE (by simp) (by simp) (by simp) (by simp; omega) (by simp) (by simp; omega) hentb ents0 hents hdistb dist0 hdist).mono ?_
      rintro e wF ⟨rfl, hbb⟩
      have hbF := hbE.trans hbb
      clear hkE hbE hbb hents hdist hentb hdistb
      go_wp2_with fail
      with_reducible refine (lives_any _).mono ?_
      rintro e wG ⟨rfl, hb⟩
      go_wp2_with fail
      go_ret
      exact ⟨rfl, below_then hbF hb⟩
    · have hgt : (2000 : Int) < (m : Int) := by omega
      go_enter Try.func3, Try.ntmps3
      go_wp2_with (go_at_call 9; refine (lives_any _).mono ?_; rintro e w1 ⟨rfl, hb⟩)
      go_ret
      exact ⟨rfl, hb⟩
  · have hgt : (2000 : Int) < (n : Int) := by omega
    go_enter Try.func3, Try.ntmps3
    go_wp2_with (go_at_call 9; refine (lives_any _).mono ?_; rintro e w1 ⟨rfl, hb⟩)
    go_ret
    exact ⟨rfl, hb⟩

theorem bitsOf.bitsOf_walk (A : Option Addr) (n c : Nat) (xs : List Int) (B : Option Addr) (m d : Nat) (ys : List Int) (w : World) (hx : Lies .u8 w w.heap.size A n xs) (hm : n ≤ c ∧ c ≤ maxLen) (hb : ∀ x ∈ xs, (Lit.int .u8 x).wf = true)
    (hy : Lies .u8 w w.heap.size B m ys) (hm' : m ≤ d ∧ d ≤ maxLen) (_ : ∀ x ∈ ys, (Lit.int .u8 x).wf = true) :
    Calls Try.prog 3 #[.slice A n c, .slice B m d] w fun e w' => e = .returned (.bool true) ∧ Below w.heap.size w w' :=
  of_walk A B n m c d xs ys w hx (by omega) (fun x hx => bounds_u8 (hb x hx)) hy (by omega) hm'.1
end Go.Proofs.Ytafnkcjnnebffaa
