/-
  The law's word of a row that has a cell at one place. No condition.
-/
import Derived.Test.YtdbljggjddnjcaaAg4
namespace Go.Proofs.Ytdbljggjddnjcaa
open Go.RowKit
set_option linter.unusedVariables false
set_option linter.unusedSimpArgs false

/-- A row that has a cell of an age at one place. -/
def cA (a : Int) : Ce := { ceN with a := a }
def sT (at_ : Nat) (a : Int) : Nat → He := fun i => if i = at_ then ⟨true, cA a⟩ else heN
def rS (g n at_ : Nat) (a : Int) : Rw := ⟨true, ceN, some ⟨g, 0, none⟩, n, n, sT at_ a⟩
set_option maxRecDepth 100000 in
theorem built_rowT (A : Option Addr) (n p : Nat) : (Try.prog).built 54 [(0, .bool true), (2, .slice A n p)] = some (roL true ceN A n p).toArray := by kernel_rfl
set_option maxRecDepth 100000 in
theorem built_cA (a : Int) : (Try.prog).built 51 [(0, .int .i64 a)] = some (ceL (cA a)).toArray := by kernel_rfl
set_option maxRecDepth 100000 in
set_option maxHeartbeats 4000000 in
theorem said_is (n at_ : Nat) (a : Int) (hn : n ≤ 16) (hat : at_ < n) (w : World) :
    Calls Try.prog 61 #[.int .i64 (n : Int), .int .i64 (at_ : Int), .int .i64 a] w fun e w' => ∃ g, e = .returned (.agg (rS g n at_ a).l.toArray) ∧ w.heap.size ≤ g ∧ Blk w' g 118 (hesL (sT at_ a) n).toArray ∧ Below w.heap.size w w' := by
  obtain ⟨i0, hi0, hz0, hz1, hz2⟩ := info_parts infoHeld
  have HI := Lib.hid hi0
  have HZ0 := Lib.hid hz0
  have HZ1 := Lib.hid hz1
  have HZ2 := Lib.hid hz2
  obtain ⟨c, hc⟩ : ∃ c, c = cA a := ⟨_, rfl⟩
  have HCE := Lib.hid hc
  have HBC : Hid ((Try.prog).built 51 [(0, .int .i64 a)] = some (ceL c).toArray) := Lib.hid (by rw [hc]; exact built_cA a)
  have HBH := Lib.hid (built_heldC c)
  clear hc
  clear hi0 hz0 hz1 hz2
  go_enter Try.func61, Try.ntmps61
  go_upto_region 1 with fail
  refine wp_at (fun U => (∃ Z : List Value, Z.length = 57 ∧ PIn U w.heap.size 0 54 [] [] Z) ∧ Below w.heap.size w U) ⟨⟨_, by rfl, Blk.pin (Blk.new w _ _)⟩, below_al (Below.refl _ w) _⟩ ?_
  rintro U ⟨⟨Z6, hZ6, h6⟩, hU⟩
  have HZ6 := Lib.hid hZ6
  have H6 := Lib.hid h6
  have HU := Lib.hid hU
  have hUl := h6.lt
  clear h6 hU hZ6
  have HBR := Lib.hid (built_rowT (some ⟨U.heap.size, 0, none⟩) n n)
  go_upto_region 2 with (first
    | (refine wpList_make_flat rfl (.tmp 8) (.tmp 8) 52 rfl 118 i0 _ (heL heN) 136 56 elemHelds HI.out HZ0.out rfl HZ1.out HZ2.out (heL_len _) (by decide) n n (by simp [Act.eval]) (by simp [Act.eval]) (Nat.le_refl _) (by omega) (by omega) ?_; intro w1 hB1 hb1 hs1; have HB1 : Hid (Blk w1 U.heap.size 118 (flL (fun _ => heL heN) n).toArray) := Lib.hid hB1; have Hb1 := Lib.hid hb1; have HZN : Hid (∀ Z : Array Value, Z.size = 57 → PIn (w1.alloc (.cells Z 54)) w1.heap.size 0 54 [] [] Z.toList ∧ Z.toList.length = 57) := Lib.hid (fun Z hZ => ⟨Blk.pin (by simpa using Blk.new w1 54 Z), by simpa using hZ⟩); clear hB1 hb1 hs1)
    | (refine wpList_build rfl 54 _ rfl (roL true ceN (some ⟨U.heap.size, 0, none⟩) n n).toArray (by simpa [Act.eval, Act.put] using HBR.out) ?_)
    | (refine wpList_store_pin rfl 54 (.tmp 7) (.tmp 10) rfl (HZN.out _ rfl).1 (roL true ceN (some ⟨U.heap.size, 0, none⟩) n n) (by simp [Act.eval, Act.put]) (by simp [Act.eval, Act.put]) 57 size_row (HZN.out _ rfl).2 (roL_len _ _ _ _ _) (roL_one _ _ _ _ _) ?_; intro w2 p1 b1; have HP1 := Lib.hid p1; have HB2 := Lib.hid b1; clear p1 b1))
  obtain ⟨G, hG⟩ : ∃ G, G = U.heap.size := ⟨_, rfl⟩
  rw [← hG] at HB1 HP1 ⊢
  have HGU := Lib.hid hG
  clear hG
  have HGL : Hid (w.heap.size < G) := Lib.hid (by rw [HGU.out]; exact hUl)
  have HG7 : Hid (G < w1.heap.size) := Lib.hid HB1.out.lt
  refine wp_at (fun V => PIn V w.heap.size 0 54 [] [] Z6 ∧ Blk V w1.heap.size 54 (roL true ceN (some ⟨G, 0, none⟩) n n).toArray ∧ Blk V G 118 (flL (fun _ => heL heN) n).toArray ∧ Below w.heap.size w V) ⟨((H6.out.on Hb1.out).on (below_al (Below.refl _ _) _)).but HB2.out (by have := HGL.out; have := HG7.out; omega), HP1.out.blk_, HB2.out.blk (HB1.out.alloc _) (by have := HG7.out; omega), (below_al (below_then HU.out Hb1.out) _).trans (HB2.out.low (by have := HGL.out; have := HG7.out; omega))⟩ ?_
  rintro V ⟨v1, v2, v3, v4⟩
  obtain ⟨g7, hg7⟩ : ∃ g7, g7 = w1.heap.size := ⟨_, rfl⟩
  rw [← hg7] at v2 HG7 ⊢
  have V1 := Lib.hid v1
  have V2 := Lib.hid v2
  have V4 := Lib.hid v4
  have c56 : V.cell? ⟨g7, 56, none⟩ = some (.slice (some ⟨G, 0, none⟩) n n) := v2.rowTab
  have l7 := v2.lt
  have HP : Hid (PIn V G (at_ * 56) 118 (flL (fun _ => heL heN) at_) (flL (fun j => (fun _ => heL heN) (at_ + 1 + j)) (n - (at_ + 1))) (heL heN)) := Lib.hid ⟨by have := v3; rw [flL_at _ hat] at this; exact this, flL_len (fun _ => heL_len _) _⟩
  have hix := fun W => idxHelds (A := some ⟨G, 0, none⟩) (n := n) n rfl hat W
  simp only [Nat.zero_add] at hix
  clear v1 v2 v3 v4 hg7 HB1 HP1 HB2 HZN HBR Hb1 H6 HU HGU hUl
  go_upto_region 3 with (first
    | (refine wpList_build rfl 51 _ rfl (ceL (c)).toArray (by simpa [Act.eval, Act.put] using HBC.out) ?_)
    | (refine wpList_build rfl 118 _ rfl (heL ⟨true, c⟩).toArray (by simpa [Act.eval, Act.put] using HBH.out) ?_)
    | (refine wpList_store_pin rfl 118 (.tmp 17) (.tmp 16) rfl HP.out (heL ⟨true, c⟩) (by simp [Act.eval, Act.put]) (by simp [Act.eval, Act.put]) 56 size_he (heL_len _) (heL_len _) (heL_one _) ?_; intro w5 p1 b1; have HP5 := Lib.hid p1; have HB5 := Lib.hid b1; clear p1 b1))
  have HX7 := Lib.hid (HB5.out.blk V2.out (by have := HG7.out; omega))
  have HX6 := Lib.hid (V1.out.but HB5.out (by have := HGL.out; omega))
  clear c56 l7
  go_wp2_with (first
    | (refine wpList_load_mid rfl 54 (.tmp 7) rfl g7 0 (by simp [Act.eval, Act.put]) (roL true ceN (some ⟨G, 0, none⟩) n n) _ HX7.out.pin.range Try.underlying54 rfl (by rw [size_row, roL_len]) ?_)
    | (refine wpList_store_pin rfl 54 (.tmp 6) (.tmp 18) rfl HX6.out (roL true ceN (some ⟨G, 0, none⟩) n n) (by simp [Act.eval, Act.put]) (by simp [Act.eval, Act.put]) 57 size_row HZ6.out (roL_len _ _ _ _ _) (roL_one _ _ _ _ _) ?_; intro w6 p1 b1))
  have hld := p1.var 54 _ Try.underlying54 rfl 57 size_row (roL_len _ _ _ _ _)
  refine bodyPost_ret (v := .agg (roL true ceN (some ⟨G, 0, none⟩) n n).toArray) (by simp [results, Try.results61, asAddr, Act.put, hld]) rfl ⟨G, rfl, Nat.le_of_lt HGL.out, ?_, (V4.out.trans (HB5.out.low (Nat.le_of_lt HGL.out))).trans (b1.low (Nat.le_refl _))⟩
  refine b1.blk ?_ (by have := HGL.out; omega)
  have h5 := HP5.out.blk
  rw [flL_upd (fun _ => heL heN) at_ (heL ⟨true, c⟩) hat, HCE.out] at h5
  rw [show hesL (sT at_ a) n = flL (fun i => if i = at_ then heL ⟨true, cA a⟩ else heL heN) n from flL_congr fun i hi => by unfold sT; split <;> rfl]
  exact h5
end Go.Proofs.Ytdbljggjddnjcaa

