/-
  The law FramesOnly: it returns true, and nothing that was there has turned. Conditions: the slice's reading, bytes, a length within the capacity.
-/
import Derived.Test.YtkjdlcobidglcaaFrM
import Derived.Test.YtkjdlcobidglcaaFrEq
namespace Go.Proofs.Ytkjdlcobidglcaa
open Go.RowKit Crc

set_option maxRecDepth 100000 in
theorem only_four (A : Option Addr) (n c : Nat) (xs : List Int) (w : World) (hx : Lies .u8 w w.heap.size A n xs) (hbd : ∀ x ∈ xs, 0 ≤ x ∧ x ≤ 255) (hcap : n ≤ c) (hn : n ≤ 100) (hE : getE xs = 4) (hF : getF xs = Fr.zero) :
    Calls Try.prog 8 #[.slice A n c] w fun e w' => e = .returned (.bool true) ∧ Below w.heap.size w w' := by
  have hni : (n : Int) ≤ 100 := by omega
  have hGE := frGet_any A n c xs w hx hbd hcap
  rw [hE, hF] at hGE
  have HG := Lib.hid (show Calls Try.prog 25 #[.slice A n c] w fun e w' => e = .returned (.tuple #[.agg #[.int .i64 0, .int .u8 0, .int .u8 0, .int .u32 0, .int .u32 0], .int .i64 4]) ∧ Below w.heap.size w w' from hGE)
  have hq := fun u => fr_eql 0 0 0 0 0 0 0 0 0 0 u
  simp only [beq_self_eq_true, Bool.and_self] at hq
  clear hGE hE hF hbd hx
  go_enter Try.func8, Try.ntmps8
  go_wp2_with (first
    | (go_at_call 25; with_reducible refine (HG.out).mono ?_; rintro e w1 ⟨rfl, hb1⟩)
    | (go_at_call 23; with_reducible refine (frLives_any _).mono ?_; rintro e w8 ⟨rfl, hb8⟩))
  go_ret
  exact ⟨rfl, below_then (below_al hb1 _) hb8⟩

set_option maxRecDepth 100000 in
theorem only_five (A : Option Addr) (n c : Nat) (xs : List Int) (w : World) (hx : Lies .u8 w w.heap.size A n xs) (hbd : ∀ x ∈ xs, 0 ≤ x ∧ x ≤ 255) (hcap : n ≤ c) (hE : getE xs = 5) (hF : getF xs = Fr.zero) (hl : xs.length = 14) :
    Calls Try.prog 8 #[.slice A n c] w fun e w' => e = .returned (.bool true) ∧ Below w.heap.size w w' := by
  obtain rfl : n = 14 := by rw [← hx.len, hl]
  have hGE := frGet_any A 14 c xs w hx hbd hcap
  rw [hE, hF] at hGE
  have HG := Lib.hid (show Calls Try.prog 25 #[.slice A 14 c] w fun e w' => e = .returned (.tuple #[.agg #[.int .i64 0, .int .u8 0, .int .u8 0, .int .u32 0, .int .u32 0], .int .i64 5]) ∧ Below w.heap.size w w' from hGE)
  have hq := fun u => fr_eql 0 0 0 0 0 0 0 0 0 0 u
  simp only [beq_self_eq_true, Bool.and_self] at hq
  clear hGE hE hF hbd hx
  go_enter Try.func8, Try.ntmps8
  go_wp2_with (first
    | (go_at_call 25; with_reducible refine (HG.out).mono ?_; rintro e w1 ⟨rfl, hb1⟩)
    | (go_at_call 23; with_reducible refine (frLives_any _).mono ?_; rintro e w8 ⟨rfl, hb8⟩))
  go_ret
  exact ⟨rfl, below_then (below_al hb1 _) hb8⟩

set_option maxRecDepth 100000 in
set_option maxHeartbeats 4000000 in
theorem only_good (A : Option Addr) (n c : Nat) (xs : List Int) (w : World) (hx : Lies .u8 w w.heap.size A n xs) (hbd : ∀ x ∈ xs, 0 ≤ x ∧ x ≤ 255) (hcap : n ≤ c) (hn : n ≤ 100) (hE : getE xs = 0) :
    Calls Try.prog 8 #[.slice A n c] w fun e w' => e = .returned (.bool true) ∧ Below w.heap.size w w' := by
  have hni : (n : Int) ≤ 100 := by omega
  obtain ⟨hfit, hmay, hput⟩ := get_only xs hbd hE
  have hGE := frGet_any A n c xs w hx hbd hcap
  rw [hE] at hGE
  have HG := Lib.hid hGE
  have HP := Lib.hid (fun u => frPut_yes (getF xs) u hfit hmay)
  rw [hput] at HP
  have HL := Lib.hid (show xs.length = 14 by rw [← hput, putL_length]; rfl)
  have HSB := Lib.hid (fun u B (h1 : Lies .u8 u u.heap.size A n xs) (h2 : Lies .u8 u u.heap.size B 14 xs) => sameBytes_true A B n 14 c 14 xs xs u h1 h2 hbd rfl)
  obtain ⟨F, hF⟩ : ∃ F, F = getF xs := ⟨_, rfl⟩
  rw [← hF] at HG HP
  have HX := Lib.hid hx
  clear hGE hfit hmay hput hE hF hbd hx
  go_enter Try.func8, Try.ntmps8
  go_wp2_with (first
    | (go_at_call 25; with_reducible refine (HG.out).mono ?_; rintro e w1 ⟨rfl, hb1⟩; have hbA := below_al hb1 (.cells #[.int .i64 F.o, .int .u8 F.k, .int .u8 F.s, .int .u32 F.q, .int .u32 F.v] 34))
    | (go_at_call 9; with_reducible refine (HP.out _).mono ?_; rintro e w2 ⟨g2, rfl, hg2, hB2, hb2⟩; have hbB := below_then hbA hb2; have hl1 := HX.out.on hbB; have hl2 := hB2.lies HL.out)
    | (go_at_call 14; with_reducible refine (HSB.out _ _ hl1 hl2).mono ?_; rintro e w3 ⟨rfl, rfl⟩)
    | (go_at_call 23; with_reducible refine (frLives_any _).mono ?_; rintro e w8 ⟨rfl, hb8⟩))
  go_ret
  exact ⟨rfl, below_then hbB hb8⟩

theorem only_far (A : Option Addr) (n c : Nat) (w : World) (hn : 100 < n) :
    Calls Try.prog 8 #[.slice A n c] w fun e w' => e = .returned (.bool true) ∧ Below w.heap.size w w' := by
  have hni : (100 : Int) < (n : Int) := by omega
  go_enter Try.func8, Try.ntmps8
  go_wp2_with (go_at_call 23; with_reducible refine (frLives_any _).mono ?_; rintro e w8 ⟨rfl, hb8⟩)
  go_ret
  exact ⟨rfl, hb8⟩
theorem framesOnly.framesOnly_walk (A : Option Addr) (n c : Nat) (xs : List Int) (w : World) (hx : Lies .u8 w w.heap.size A n xs) (hm : n ≤ c ∧ c ≤ maxLen) (ha : ∀ x ∈ xs, (Lit.int .u8 x).wf = true) :
    Calls Try.prog 8 #[.slice A n c] w fun e w' => e = .returned (.bool true) ∧ Below w.heap.size w w' := by
  have hbd := fun x hx => bounds_u8 (ha x hx)
  rcases Nat.lt_or_ge 100 n with h | h
  · exact only_far A n c w h
  · rcases getE_cases xs with h0 | ⟨h1, h2⟩ | ⟨h1, h2, h3⟩
    · exact only_good A n c xs w hx hbd hm.1 h h0
    · exact only_four A n c xs w hx hbd hm.1 h h1 h2
    · exact only_five A n c xs w hx hbd hm.1 h1 h2 h3
end Go.Proofs.Ytkjdlcobidglcaa
