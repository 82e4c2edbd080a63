/-
  The law FramesGet: it returns true, and nothing that was there has turned. Conditions: the slice's reading, bytes, a length within the capacity.
-/
import Derived.Test.YtkjdlcobidglcaaFrLv
import Derived.Test.YtkjdlcobidglcaaFrEq
import Derived.Test.YtkjdlcobidglcaaTwin
namespace Go.Proofs.Ytkjdlcobidglcaa
open Go.RowKit Crc

theorem law5_same (f : Fr) (w : World) :
    Calls Try.prog 27 #[.agg #[.int .i64 f.o, .int .u8 f.k, .int .u8 f.s, .int .u32 f.q, .int .u32 f.v], .agg #[.int .i64 f.o, .int .u8 f.k, .int .u8 f.s, .int .u32 f.q, .int .u32 f.v]] w fun e w' => e = .returned (.bool true) ∧ Below w.heap.size w w' := by
  have hq := fun u => pay_eql f.k f.s f.q f.v f.k f.s f.q f.v u
  simp only [beq_self_eq_true, Bool.and_self] at hq
  go_enter Try.func27, Try.ntmps27
  go_wp2_with fail
  go_ret
  exact ⟨rfl, below_al (below_al (Below.refl _ _) _) _⟩

set_option maxRecDepth 100000 in
set_option maxHeartbeats 4000000 in
theorem get_walk (A : Option Addr) (n c : Nat) (xs : List Int) (w : World) (hx : Lies .u8 w w.heap.size A n xs) (hbd : ∀ x ∈ xs, 0 ≤ x ∧ x ≤ 255) (hcap : n ≤ c) (hn : n ≤ 100) :
    Calls Try.prog 4 #[.slice A n c] w fun e w' => e = .returned (.bool true) ∧ Below w.heap.size w w' := by
  have HT := Lib.hid (twinBytes_any A n c xs w hx (by omega))
  have HG := Lib.hid (fun u B d (h : Lies .u8 u u.heap.size B n xs) (hd : n ≤ d) => frGet_any B n d xs u h hbd hd)
  have HR := Lib.hid (fun u (h : Lies .u8 u u.heap.size A n xs) => refGet_any A n c xs u h hbd hcap)
  have HLB := Lib.hid (fun u g d (ht : TwinOf .u8 u 5 g n d xs) (h : Lies .u8 u u.heap.size A n xs) => leftBytes_true g n d c A xs u ht h (by omega) hbd)
  obtain ⟨F, hF⟩ : ∃ F, F = getF xs := ⟨_, rfl⟩
  obtain ⟨E, hE⟩ : ∃ E, E = getE xs := ⟨_, rfl⟩
  rw [← hF, ← hE] at HG HR
  have hni : ¬ (100 : Int) < (n : Int) := by omega
  have hni' : (n : Int) ≤ 100 := by omega
  have HX := Lib.hid hx
  clear hF hE hbd hx hni
  go_enter Try.func4, Try.ntmps4
  go_wp2_with fail
  with_reducible refine (HT.out).mono ?_
  rintro e w1 ⟨g1, c1, rfl, hg1, ht1, hb1⟩
  go_wp2_with fail
  with_reducible refine (HG.out _ _ _ ht1.lies (by have := ht1.cap; omega)).mono ?_
  rintro e w2 ⟨rfl, hb2⟩
  have hF2 := Blk.new w2 34 #[.int .i64 F.o, .int .u8 F.k, .int .u8 F.s, .int .u32 F.q, .int .u32 F.v]
  have hb3 := below_al (below_then hb1 hb2) (.cells #[.int .i64 F.o, .int .u8 F.k, .int .u8 F.s, .int .u32 F.q, .int .u32 F.v] 34)
  have ht3 := (ht1.on hb2).on (below_al (Below.refl _ _) (.cells #[.int .i64 F.o, .int .u8 F.k, .int .u8 F.s, .int .u32 F.q, .int .u32 F.v] 34))
  clear ht1 hb1 hb2 HG HT
  go_wp2_with fail
  with_reducible refine (HR.out _ (HX.out.on hb3)).mono ?_
  rintro e w4 ⟨rfl, hb4⟩
  have hG5 := Blk.new w4 28 #[.int .i64 F.o, .int .u8 F.k, .int .u8 F.s, .int .u32 F.q, .int .u32 F.v]
  have hF5 := (hF2.on hb4).alloc (.cells #[.int .i64 F.o, .int .u8 F.k, .int .u8 F.s, .int .u32 F.q, .int .u32 F.v] 28)
  have ht5 := (ht3.on hb4).on (below_al (Below.refl _ _) (.cells #[.int .i64 F.o, .int .u8 F.k, .int .u8 F.s, .int .u32 F.q, .int .u32 F.v] 28))
  have hb5 := below_al (below_then hb3 hb4) (.cells #[.int .i64 F.o, .int .u8 F.k, .int .u8 F.s, .int .u32 F.q, .int .u32 F.v] 28)
  have c0 := hF5.cell 0
  have c1 := hF5.cell 1
  have c2 := hF5.cell 2
  have c3 := hF5.cell 3
  have c4 := hF5.cell 4
  simp only [List.getElem?_toArray, List.getElem?_cons_zero, List.getElem?_cons_succ] at c0 c1 c2 c3 c4
  have hfl := hF5.lt
  clear hb3 hb4 ht3 hF2 HR hG5
  go_wp2_with (first
    | (go_at_call 27; with_reducible refine (law5_same F _).mono ?_; rintro e w6 ⟨rfl, hb6⟩; have ht6 := ht5.on hb6; have hb56 := below_then hb5 hb6)
    | (go_at_call 28; with_reducible refine (HLB.out _ _ _ ht6 (HX.out.on hb56)).mono ?_; rintro e w7 ⟨rfl, hb7⟩)
    | (go_at_call 23; with_reducible refine (frLives_any _).mono ?_; rintro e w8 ⟨rfl, hb8⟩))
  go_ret
  exact ⟨rfl, below_then (below_then hb56 hb7) hb8⟩

theorem get_far (A : Option Addr) (n c : Nat) (w : World) (hn : 100 < n) :
    Calls Try.prog 4 #[.slice A n c] w fun e w' => e = .returned (.bool true) ∧ Below w.heap.size w w' := by
  have hni : (100 : Int) < (n : Int) := by omega
  go_enter Try.func4, Try.ntmps4
  go_wp2_with (go_at_call 23; with_reducible refine (frLives_any _).mono ?_; rintro e w8 ⟨rfl, hb8⟩)
  go_ret
  exact ⟨rfl, hb8⟩
theorem framesGet.framesGet_walk (A : Option Addr) (n c : Nat) (xs : List Int) (w : World) (hx : Lies .u8 w w.heap.size A n xs) (hm : n ≤ c ∧ c ≤ maxLen) (ha : ∀ x ∈ xs, (Lit.int .u8 x).wf = true) :
    Calls Try.prog 4 #[.slice A n c] w fun e w' => e = .returned (.bool true) ∧ Below w.heap.size w w' := by
  rcases Nat.lt_or_ge 100 n with h | h
  · exact get_far A n c w h
  · exact get_walk A n c xs w hx (fun x hx => bounds_u8 (ha x hx)) hm.1 h
end Go.Proofs.Ytkjdlcobidglcaa
