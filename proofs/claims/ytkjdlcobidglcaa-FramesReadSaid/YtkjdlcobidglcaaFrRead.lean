/-
  The law FramesRead: it returns true, and nothing that was there has turned. Conditions: the slice's reading, a length within the capacity.
-/
import Derived.Test.YtkjdlcobidglcaaFrGet
namespace Go.Proofs.Ytkjdlcobidglcaa
open Go.RowKit Crc

set_option maxRecDepth 100000 in
set_option maxHeartbeats 4000000 in
theorem read_walk (A : Option Addr) (n c : Nat) (xs : List Int) (w : World) (hx : Lies .u8 w w.heap.size A n xs) (hcap : n ≤ c) (hn : n ≤ 300) :
    Calls Try.prog 5 #[.slice A n c] w fun e w' => e = .returned (.bool true) ∧ Below w.heap.size w w' := by
  have HT := Lib.hid (twinSyms_any A n c xs w hx (by omega))
  have HG := Lib.hid (fun u B d (h : Lies .u8 u u.heap.size B n xs) (hd : n ≤ d) => frRead_any B n d xs u h hd)
  have HR := Lib.hid (fun u (h : Lies .u8 u u.heap.size A n xs) => refRead_any A n c xs u h hcap)
  have HLB := Lib.hid (fun u g d (ht : TwinOf .u8 u 77 g n d xs) (h : Lies .u8 u u.heap.size A n xs) => leftSyms_true g n d c A xs u ht h (by omega))
  obtain ⟨F, hF⟩ : ∃ F, F = readF xs := ⟨_, rfl⟩
  obtain ⟨E, hE⟩ : ∃ E, E = readE xs := ⟨_, rfl⟩
  obtain ⟨ta, hta⟩ : ∃ ta, ta = readA xs := ⟨_, rfl⟩
  obtain ⟨tb, htb⟩ : ∃ tb, tb = readB xs := ⟨_, rfl⟩
  rw [← hF, ← hE, ← hta, ← htb] at HG HR
  have hni' : (n : Int) ≤ 300 := by omega
  have HX := Lib.hid hx
  clear hF hE hta htb hx
  go_enter Try.func5, Try.ntmps5
  go_wp2_with fail
  with_reducible refine (HT.out).mono ?_
  rintro e w1 ⟨g1, c1, rfl, hg1, ht1, hb1⟩
  go_wp2_with fail
  with_reducible refine (HG.out _ _ _ ht1.lies (by have := ht1.cap; omega)).mono ?_
  rintro e w2 ⟨rfl, hb2⟩
  have hF2 := (Blk.new w2 34 #[.int .i64 F.o, .int .u8 F.k, .int .u8 F.s, .int .u32 F.q, .int .u32 F.v]).alloc (.cells #[.bool ta, .bool tb] 38)
  have hT2 := Blk.new (w2.alloc (.cells #[.int .i64 F.o, .int .u8 F.k, .int .u8 F.s, .int .u32 F.q, .int .u32 F.v] 34)) 38 #[.bool ta, .bool tb]
  rw [alloc_size w2] at hT2
  have hb3 := below_al (below_al (below_then hb1 hb2) (.cells #[.int .i64 F.o, .int .u8 F.k, .int .u8 F.s, .int .u32 F.q, .int .u32 F.v] 34)) (.cells #[.bool ta, .bool tb] 38)
  have ht3 := (ht1.on hb2).on (below_al (below_al (Below.refl _ _) (.cells #[.int .i64 F.o, .int .u8 F.k, .int .u8 F.s, .int .u32 F.q, .int .u32 F.v] 34)) (.cells #[.bool ta, .bool tb] 38))
  clear ht1 hb1 hb2 HG HT
  go_wp2_with fail
  with_reducible refine (HR.out _ (HX.out.on hb3)).mono ?_
  rintro e w4 ⟨rfl, hb4⟩
  have hF5 := ((hF2.on hb4).alloc (.cells #[.int .i64 F.o, .int .u8 F.k, .int .u8 F.s, .int .u32 F.q, .int .u32 F.v] 28)).alloc (.cells #[.bool ta, .bool tb] 39)
  have hT5 := ((hT2.on hb4).alloc (.cells #[.int .i64 F.o, .int .u8 F.k, .int .u8 F.s, .int .u32 F.q, .int .u32 F.v] 28)).alloc (.cells #[.bool ta, .bool tb] 39)
  have hU5 := Blk.new (w4.alloc (.cells #[.int .i64 F.o, .int .u8 F.k, .int .u8 F.s, .int .u32 F.q, .int .u32 F.v] 28)) 39 #[.bool ta, .bool tb]
  rw [alloc_size w4] at hU5
  have ht5 := (ht3.on hb4).on (below_al (below_al (Below.refl _ _) (.cells #[.int .i64 F.o, .int .u8 F.k, .int .u8 F.s, .int .u32 F.q, .int .u32 F.v] 28)) (.cells #[.bool ta, .bool tb] 39))
  have hb5 := below_al (below_al (below_then hb3 hb4) (.cells #[.int .i64 F.o, .int .u8 F.k, .int .u8 F.s, .int .u32 F.q, .int .u32 F.v] 28)) (.cells #[.bool ta, .bool tb] 39)
  have c0 := hF5.cell 0
  have c1 := hF5.cell 1
  have c2 := hF5.cell 2
  have c3 := hF5.cell 3
  have c4 := hF5.cell 4
  simp only [List.getElem?_toArray, List.getElem?_cons_zero, List.getElem?_cons_succ] at c0 c1 c2 c3 c4
  have hfl := hF5.lt
  have d0 := hT5.cell 0
  have d1 := hT5.cell 1
  simp only [List.getElem?_toArray, List.getElem?_cons_zero, List.getElem?_cons_succ] at d0 d1
  have htl := hT5.lt
  clear hb3 hb4 ht3 hF2 hT2 HR
  go_wp2_with (first
    | (go_at_call 27; with_reducible refine (law5_same F _).mono ?_; rintro e w6 ⟨rfl, hb6⟩; have ht6 := ht5.on hb6; have hb56 := below_then hb5 hb6; have hT6 := hT5.on hb6; have hU6 := hU5.on hb6; have u0 := hT6.cell 0; have u1 := hT6.cell 1; have v0 := hU6.cell 0; have v1 := hU6.cell 1; simp only [List.getElem?_toArray, List.getElem?_cons_zero, List.getElem?_cons_succ] at  u0 u1 v0 v1)
    | (go_at_call 32; with_reducible refine (HLB.out _ _ _ ht6 (HX.out.on hb56)).mono ?_; rintro e w7 ⟨rfl, hb7⟩)
    | (go_at_call 23; with_reducible refine (frLives_any _).mono ?_; rintro e w8 ⟨rfl, hb8⟩))
  go_ret
  exact ⟨rfl, below_then (below_then hb56 hb7) hb8⟩

theorem read_far (A : Option Addr) (n c : Nat) (w : World) (hn : 300 < n) :
    Calls Try.prog 5 #[.slice A n c] w fun e w' => e = .returned (.bool true) ∧ Below w.heap.size w w' := by
  have hni : (300 : Int) < (n : Int) := by omega
  go_enter Try.func5, Try.ntmps5
  go_wp2_with (go_at_call 23; with_reducible refine (frLives_any _).mono ?_; rintro e w8 ⟨rfl, hb8⟩)
  go_ret
  exact ⟨rfl, hb8⟩
theorem framesRead.framesRead_walk (A : Option Addr) (n c : Nat) (xs : List Int) (w : World) (hx : Lies .u8 w w.heap.size A n xs) (hm : n ≤ c ∧ c ≤ maxLen) (_ : ∀ x ∈ xs, (Lit.int .u8 x).wf = true) :
    Calls Try.prog 5 #[.slice A n c] w fun e w' => e = .returned (.bool true) ∧ Below w.heap.size w w' := by
  rcases Nat.lt_or_ge 300 n with h | h
  · exact read_far A n c w h
  · exact read_walk A n c xs w hx hm.1 h
end Go.Proofs.Ytkjdlcobidglcaa
