/-
  The contract of sums.Check: the bytes that these are when summed, in new memory, and true; nothing and false, if there are none; nothing that was there has turned. Conditions: the slice's reading, bytes, a length of at most 65536 within the capacity.
-/
import Derived.Test.YtpjcbfapkjipjaaSumPut
import Derived.Deep.RegionHeld3
namespace Go.Proofs.Ytpjcbfapkjipjaa
open Go.RowKit Crc

/-- Are these summed bytes? -/
def checkB (l : List Int) : Bool := decide (4 ≤ l.length) && sumI (l.take (l.length - 4)) == numB (l.drop (l.length - 4))
theorem parts1 {w : World} {A : Option Addr} {n c : Nat} {l : List Int} (hx : Lies .u8 w w.heap.size A n l) (hb : ∀ x ∈ l, 0 ≤ x ∧ x ≤ 255) (hn : n ≤ 65536) :
    Parts (w.alloc (.cells #[.slice A n c] 79)) (some ⟨w.heap.size, 0, none⟩) 1 [l] :=
  ⟨rfl, by omega, fun i hi => by
    obtain rfl : i = 0 := by omega
    exact ⟨w.heap.size, 0, rfl, by simp, A, n, c, by simp [(Blk.new w 79 #[.slice A n c]).cell 0], hx.al _, hn⟩, fun l' h x hx' => by
    obtain rfl : l' = l := by simpa using h
    exact hb x hx'⟩

set_option maxRecDepth 100000 in
theorem check_short (A : Option Addr) (n c : Nat) (w : World) (h4 : n < 4) :
    Calls Try.prog 44 #[.slice A n c] w fun e w' => e = .returned (.tuple #[.slice none 0 0, .bool false]) ∧ w = w' := by
  go_enter Try.func44, Try.ntmps44
  go_wp2_with fail
  go_ret2
  exact ⟨rfl, rfl⟩

set_option maxRecDepth 100000 in
theorem check_long (A : Option Addr) (n c : Nat) (l : List Int) (w : World) (hx : Lies .u8 w w.heap.size A n l) (hb : ∀ x ∈ l, 0 ≤ x ∧ x ≤ 255) (hn : n ≤ 65536) (hcap : n ≤ c) (h4 : 4 ≤ n) :
    Calls Try.prog 44 #[.slice A n c] w fun e w' => (checkB l = false ∧ e = .returned (.tuple #[.slice none 0 0, .bool false]) ∧ Below w.heap.size w w') ∨
      (checkB l = true ∧ ∃ g, e = .returned (.tuple #[.slice (some ⟨g, 0, none⟩) (n - 4) (n - 4), .bool true]) ∧ w.heap.size ≤ g ∧ Blk w' g 5 (cellsOf .u8 (l.take (n - 4))) ∧ Below w.heap.size w w') := by
  have hl := hx.len
  have hchk : checkB l = (sumI (l.take (n - 4)) == numB (l.drop (n - 4))) := by rw [checkB, hl, decide_eq_true h4, Bool.true_and]
  have h1 : Lies .u8 w w.heap.size A (n - 4) (l.take (n - 4)) := hx.head (by omega)
  have h2 : Lies .u8 w w.heap.size (cutA A c (n - 4)) 4 (l.drop (n - 4)) := by
    have := hx.tail (c := c) (l := n - 4) (by omega) hcap
    rw [show n - (n - 4) = 4 by omega] at this
    exact this
  have hb1 : ∀ x ∈ l.take (n - 4), 0 ≤ x ∧ x ≤ 255 := fun x h => hb x (List.mem_of_mem_take h)
  have hb2 : ∀ x ∈ l.drop (n - 4), 0 ≤ x ∧ x ≤ 255 := fun x h => hb x (List.mem_of_mem_drop h)
  have HOF := Lib.hid (fun W (h : Parts W (some ⟨w.heap.size, 0, none⟩) 1 [l.take (n - 4)]) => sumOf_any (some ⟨w.heap.size, 0, none⟩) 1 1 [l.take (n - 4)] W h)
  have HPA : Hid (Parts (w.alloc (.cells #[.slice A (n - 4) c] 79)).drew (some ⟨w.heap.size, 0, none⟩) 1 [l.take (n - 4)]) := Lib.hid (parts1 (w := w.drew) (c := c) h1 hb1 (by omega))
  have HNU := Lib.hid (fun u hu => number_any (cutA A c (n - 4)) (c - (n - 4)) _ u hu hb2)
  have hs1 := fun W => uptoBytes A n c ((n : Int) - 4) (by omega) (by omega) W
  have hs2 := fun W => fromBytes A n c ((n : Int) - 4) (by omega) (by omega) W
  rw [show ((n : Int) - 4).toNat = n - 4 by omega] at hs1 hs2
  rw [show n - (n - 4) = 4 by omega] at hs2
  obtain ⟨va, hva⟩ : ∃ va, va = sumI (l.take (n - 4)) := ⟨_, rfl⟩
  obtain ⟨vb, hvb⟩ : ∃ vb, vb = numB (l.drop (n - 4)) := ⟨_, rfl⟩
  have hfl : [l.take (n - 4)].flatten = l.take (n - 4) := by simp
  rw [hfl, ← sumI, ← hva] at HOF
  rw [← hvb] at HNU
  rw [← hva, ← hvb] at hchk
  have HCHK := Lib.hid hchk
  clear hva hvb hfl hchk hb1 hb2
  have HL := Lib.hid hl
  have HB := Lib.hid hb
  clear hl hb
  go_enter Try.func44, Try.ntmps44
  go_wp2_with fail
  go_cut [21] from 12 to 21 (fun s21 wx => s21 = .bool (va != vb) ∧ Below w.heap.size w wx)
  case first =>
    go_region_held3 (fun w' => Below w.heap.size w w')
      (first
        | exact (Below.refl _ _).drew
        | exact (below_al (Below.refl _ _) _).drew
        | exact below_then ‹Below w.heap.size w _› hb9
        | assumption)
      (first
        | (go_at_call 56; with_reducible refine (HOF.out _ HPA.out).mono ?_; rintro e w9 ⟨rfl, hb9⟩)
        | (go_at_call 57; with_reducible refine (HNU.out _ (h2.on (by assumption))).mono ?_; rintro e w9 ⟨rfl, rfl⟩))
    all_goals go_wp2_with fail
    all_goals go_meet
    all_goals exact ⟨rfl, by first | assumption | exact below_then ‹Below w.heap.size w _› hb9⟩
  case rest =>
    obtain ⟨rfl, hb9⟩ := hcut
    clear hs1 hs2 h1 h2 HPA HOF HNU
    by_cases hv : va = vb
    · have hne : (va != vb) = false := by simp [hv]
      have HK := Lib.hid (show checkB l = true by rw [HCHK.out]; simp [hv])
      clear hv HCHK
      have hmk := fun u => makeBytes ((n : Int) - 4) (by omega) (by omega) u
      rw [show ((n : Int) - 4).toNat = n - 4 by omega] at hmk
      have hx9 := hx.on hb9
      obtain ⟨cs, hcs⟩ : ∃ cs, cs = (l.take (n - 4)).map (Value.int .u8) := ⟨_, rfl⟩
      have HCS := Lib.hid hcs
      have HCL := Lib.hid (show cs.length = n - 4 by rw [hcs, List.length_map, List.length_take, HL.out]; omega)
      clear hcs hx
      go_wp2_with (with_reducible refine wpList_copy_splice rfl (.tmp 24) (.tmp 25) 79 79 rfl 5 Try.underlying79 szBytes (some ⟨wc.heap.size, 0, none⟩) A (n - 4) (n - 4) n c rfl rfl wc.heap.size 0 (madeCells #[.int .u8 0] (n - 4)).toList 5 ?h1 cs ?h2 ?h3 ?h4 ?h5 w.heap.size w ?h6 ?h7 ?_)
      case h1 => rw [Array.toArray_toList]; exact Blk.new _ _ _
      case h2 => rw [HCL.out]; exact (Nat.min_eq_right (by omega)).symm
      case h3 => rw [HCS.out]; intro h0; exact ((hx9.al _).head (h := n - 4) (by omega)).src h0
      case h4 => rw [HCL.out, Array.length_toList, made_size]; omega
      case h5 => rw [HCS.out]; exact ints_oneCell _ _
      case h6 => exact below_al hb9 _
      case h7 => exact hb9.size
      intro w2 hrow hb2
      have hblk : Blk w2 wc.heap.size 5 (cellsOf .u8 (l.take (n - 4))) := by
        have h := hrow.out
        rw [splice_whole _ _ (by rw [HCL.out, Array.length_toList, made_size]), HCS.out] at h
        exact h
      clear hrow hmk HCS hx9
      go_wp2_with fail
      go_ret2
      exact .inr ⟨HK.out, _, rfl, hb9.size, hblk, hb2⟩
    · have hne : (va != vb) = true := by simp [hv]
      have HK := Lib.hid (show checkB l = false by rw [HCHK.out]; simp [hv])
      clear hv HCHK
      go_wp2_with fail
      go_ret2
      exact .inl ⟨HK.out, rfl, hb9⟩
end Go.Proofs.Ytpjcbfapkjipjaa
