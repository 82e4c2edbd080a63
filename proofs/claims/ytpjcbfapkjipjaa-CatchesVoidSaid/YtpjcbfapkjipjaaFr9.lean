/-
  Words of reading symbols (the frame, the tail, what is wrong first), and the contract of frames.Read. Conditions: the slice's reading, a length of at most 65536 within the capacity.
-/
import Derived.Test.YtpjcbfapkjipjaaFr8
namespace Go.Proofs.Ytpjcbfapkjipjaa
open Go.RowKit Crc

/-- Are these whole frame symbols? What Read answers. -/
def readOk (xs : List Int) : Bool := decide (xs.length = 114) && wholeL xs
def readE (xs : List Int) : Int := if readOk xs then getE (bytesL (xs.take 112)) else 4
def readF (xs : List Int) : Fr := if readOk xs then getF (bytesL (xs.take 112)) else Fr.zero
def readA (xs : List Int) : Bool := readOk xs && xs.getD 112 0 == 2
def readB (xs : List Int) : Bool := readOk xs && xs.getD 113 0 == 2
theorem read_no {xs : List Int} (h : readOk xs = false) : readE xs = 4 ∧ readF xs = Fr.zero ∧ readA xs = false ∧ readB xs = false := by simp [readE, readF, readA, readB, h]
theorem read_yes {xs : List Int} (h : readOk xs = true) : readE xs = getE (bytesL (xs.take 112)) ∧ readF xs = getF (bytesL (xs.take 112)) ∧ readA xs = (xs.getD 112 0 == 2) ∧ readB xs = (xs.getD 113 0 == 2) := by simp [readE, readF, readA, readB, h]
theorem bytesL_bd (xs : List Int) (hw : wholeL xs = true) : ∀ x ∈ bytesL xs, 0 ≤ x ∧ x ≤ 255 := by
  intro x hx
  simp only [bytesL, byL, List.mem_map, List.mem_range] at hx
  obtain ⟨j, hj, rfl⟩ := hx
  have h := byAt_bd xs xs.length j hw (by omega)
  have h2 : (2 : Int) ^ (min (xs.length - 8 * j) 8) ≤ 2 ^ 8 := by exact_mod_cast Nat.pow_le_pow_right (by decide) (Nat.min_le_right _ _)
  omega
theorem wholeL_take (xs : List Int) (n : Nat) (h : wholeL xs = true) : wholeL (xs.take n) = true := by
  rw [wholeL, List.all_eq_true] at h ⊢
  exact fun x hx => h x (List.mem_of_mem_take hx)

/-- A block of five cells, of two; the frame's, the tail's. -/
def has5 (g : Nat) (t : TypeId) (u : World) : Prop := ∃ v0 v1 v2 v3 v4, Blk u g t #[v0, v1, v2, v3, v4]
def is5 (g : Nat) (t : TypeId) (f : Fr) (u : World) : Prop := Blk u g t #[.int .i64 f.o, .int .u8 f.k, .int .u8 f.s, .int .u32 f.q, .int .u32 f.v]
def has2 (g : Nat) (t : TypeId) (u : World) : Prop := ∃ v0 v1, Blk u g t #[v0, v1]
def is2 (g : Nat) (t : TypeId) (a b : Bool) (u : World) : Prop := Blk u g t #[.bool a, .bool b]
section
variable {g h : Nat} {t : TypeId} {f : Fr} {a b : Bool} {u : World} {u0 u1 u2 u3 u4 v0 v1 v2 v3 v4 : Value}
theorem is5.has (h : is5 g t f u) : has5 g t u := ⟨_, _, _, _, _, h⟩
theorem is2.has (h : is2 g t a b u) : has2 g t u := ⟨_, _, h⟩
theorem Blk.five (hB : Blk u g t #[v0, v1, v2, v3, v4]) (f : Fr) : is5 g t f (((((u.setCell ⟨g, 0, none⟩ (.int .i64 f.o)).setCell ⟨g, 1, none⟩ (.int .u8 f.k)).setCell ⟨g, 2, none⟩ (.int .u8 f.s)).setCell ⟨g, 3, none⟩ (.int .u32 f.q)).setCell ⟨g, 4, none⟩ (.int .u32 f.v)) :=
  ((((hB.set_ 0 (.int .i64 f.o)).set_ 1 (.int .u8 f.k)).set_ 2 (.int .u8 f.s)).set_ 3 (.int .u32 f.q)).set_ 4 (.int .u32 f.v)
theorem Blk.two (hB : Blk u g t #[v0, v1]) (a b : Bool) : is2 g t a b ((u.setCell ⟨g, 0, none⟩ (.bool a)).setCell ⟨g, 1, none⟩ (.bool b)) :=
  (hB.set_ 0 (.bool a)).set_ 1 (.bool b)
theorem Blk.far {cs : Array Value} (hB : Blk u g t cs) {p : Addr} (hp : g ≠ p.block) (v : Value) : Blk (u.setCell p v) g t cs := (Below.heap_setCell u p v g hp).trans hB
theorem Blk.far5 {cs : Array Value} (hB : Blk u g t cs) (hp : g ≠ h) : Blk (((((u.setCell ⟨h, 0, none⟩ u0).setCell ⟨h, 1, none⟩ u1).setCell ⟨h, 2, none⟩ u2).setCell ⟨h, 3, none⟩ u3).setCell ⟨h, 4, none⟩ u4) g t cs :=
  ((((hB.far (p := ⟨h, 0, none⟩) hp u0).far (p := ⟨h, 1, none⟩) hp u1).far (p := ⟨h, 2, none⟩) hp u2).far (p := ⟨h, 3, none⟩) hp u3).far (p := ⟨h, 4, none⟩) hp u4
theorem Blk.far2 {cs : Array Value} (hB : Blk u g t cs) (hp : g ≠ h) : Blk ((u.setCell ⟨h, 0, none⟩ u0).setCell ⟨h, 1, none⟩ u1) g t cs :=
  (hB.far (p := ⟨h, 0, none⟩) hp u0).far (p := ⟨h, 1, none⟩) hp u1
theorem has2.five (k : has2 g t u) (hp : g ≠ h) : has2 g t (((((u.setCell ⟨h, 0, none⟩ u0).setCell ⟨h, 1, none⟩ u1).setCell ⟨h, 2, none⟩ u2).setCell ⟨h, 3, none⟩ u3).setCell ⟨h, 4, none⟩ u4) := by
  obtain ⟨v0, v1, hB⟩ := k
  exact ⟨v0, v1, hB.far5 hp⟩
theorem is2.five (k : is2 g t a b u) (hp : g ≠ h) : is2 g t a b (((((u.setCell ⟨h, 0, none⟩ u0).setCell ⟨h, 1, none⟩ u1).setCell ⟨h, 2, none⟩ u2).setCell ⟨h, 3, none⟩ u3).setCell ⟨h, 4, none⟩ u4) := Blk.far5 k hp
theorem has5.two (k : has5 g t u) (hp : g ≠ h) : has5 g t ((u.setCell ⟨h, 0, none⟩ u0).setCell ⟨h, 1, none⟩ u1) := by
  obtain ⟨v0, v1, v2, v3, v4, hB⟩ := k
  exact ⟨v0, v1, v2, v3, v4, hB.far2 hp⟩
theorem is5.two (k : is5 g t f u) (hp : g ≠ h) : is5 g t f ((u.setCell ⟨h, 0, none⟩ u0).setCell ⟨h, 1, none⟩ u1) := Blk.far2 k hp
theorem below_two {B : Nat} {a w : World} (h : Below B a w) {g : Nat} (hg : B ≤ g) (u0 u1 : Value) : Below B a ((w.setCell ⟨g, 0, none⟩ u0).setCell ⟨g, 1, none⟩ u1) :=
  (h.setCell (p := ⟨g, 0, none⟩) hg u0).setCell (p := ⟨g, 1, none⟩) hg u1
theorem Reg.KJ.five {B : Nat} {S : List Nat} {Js : List (World → Prop)} (hB : B ≤ g) (hg : g ∈ S) (hJ : ∀ J ∈ Js, J u → J (((((u.setCell ⟨g, 0, none⟩ u0).setCell ⟨g, 1, none⟩ u1).setCell ⟨g, 2, none⟩ u2).setCell ⟨g, 3, none⟩ u3).setCell ⟨g, 4, none⟩ u4)) :
    Reg.KJ B S Js u (((((u.setCell ⟨g, 0, none⟩ u0).setCell ⟨g, 1, none⟩ u1).setCell ⟨g, 2, none⟩ u2).setCell ⟨g, 3, none⟩ u3).setCell ⟨g, 4, none⟩ u4) :=
  ⟨below_five (Below.refl _ _) hB _ _ _ _ _, fun k _ hk => by
    have hne : k ≠ g := fun e => hk (e ▸ hg)
    rw [Below.heap_setCell _ _ _ _ hne, Below.heap_setCell _ _ _ _ hne, Below.heap_setCell _ _ _ _ hne, Below.heap_setCell _ _ _ _ hne, Below.heap_setCell _ _ _ _ hne], hJ⟩
theorem Reg.KJ.two {B : Nat} {S : List Nat} {Js : List (World → Prop)} (hB : B ≤ g) (hg : g ∈ S) (hJ : ∀ J ∈ Js, J u → J ((u.setCell ⟨g, 0, none⟩ u0).setCell ⟨g, 1, none⟩ u1)) :
    Reg.KJ B S Js u ((u.setCell ⟨g, 0, none⟩ u0).setCell ⟨g, 1, none⟩ u1) :=
  ⟨below_two (Below.refl _ _) hB _ _, fun k _ hk => by
    have hne : k ≠ g := fun e => hk (e ▸ hg)
    rw [Below.heap_setCell _ _ _ _ hne, Below.heap_setCell _ _ _ _ hne], hJ⟩
end
/-- These stay while memory grows. -/
theorem grow52 (g h : Nat) (t s : TypeId) (f : Fr) (a b : Bool) : ∀ J ∈ [has5 g t, is5 g t f, has2 h s, is2 h s a b], ∀ u u' : World, Below u.heap.size u u' → J u → J u' := by
  simp only [List.forall_mem_cons]
  refine ⟨fun u u' k ⟨v0, v1, v2, v3, v4, hB⟩ => ⟨v0, v1, v2, v3, v4, hB.on k⟩, fun u u' k h => Blk.on h k, fun u u' k ⟨v0, v1, hB⟩ => ⟨v0, v1, hB.on k⟩, fun u u' k h => Blk.on h k, fun _ h => by cases h⟩

theorem frRead_len (A : Option Addr) (n c : Nat) (w : World) (h : n ≠ 114) :
    Calls Try.prog 21 #[.slice A n c] w fun e w' => e = .returned (.tuple #[.agg #[.int .i64 Fr.zero.o, .int .u8 Fr.zero.k, .int .u8 Fr.zero.s, .int .u32 Fr.zero.q, .int .u32 Fr.zero.v], .agg #[.bool false, .bool false], .int .i64 4]) ∧ Below w.heap.size w w' := by
  have hne : ((n : Int) == 114) = false := beq_eq_false_iff_ne.2 (by omega)
  go_enter Try.func21, Try.ntmps21
  go_wp2_with fail
  refine bodyPost_ret (v := .tuple #[.agg #[.int .i64 0, .int .u8 0, .int .u8 0, .int .u32 0, .int .u32 0], .agg #[.bool false, .bool false], .int .i64 4]) (by simp [results, Try.results21, go_sem]) rfl ⟨rfl, ?_⟩
  exact below_al (below_al (Below.refl _ _) _) _
theorem frRead_whole (A : Option Addr) (c : Nat) (xs : List Int) (w : World) (hx : Lies .u8 w w.heap.size A 114 xs) (h : wholeL xs = false) :
    Calls Try.prog 21 #[.slice A 114 c] w fun e w' => e = .returned (.tuple #[.agg #[.int .i64 Fr.zero.o, .int .u8 Fr.zero.k, .int .u8 Fr.zero.s, .int .u32 Fr.zero.q, .int .u32 Fr.zero.v], .agg #[.bool false, .bool false], .int .i64 4]) ∧ Below w.heap.size w w' := by
  have HW := Lib.hid (fun u (hu : Lies .u8 u u.heap.size A 114 xs) => whole_any A 114 c xs u hu (by omega))
  rw [h] at HW
  have hx2 := (hx.al (.cells #[.int .i64 0, .int .u8 0, .int .u8 0, .int .u32 0, .int .u32 0] 42)).al (.cells #[.bool false, .bool false] 55)
  clear h
  go_enter Try.func21, Try.ntmps21
  go_wp2_with (go_at_call 35; with_reducible refine (HW.out _ hx2).mono ?_; rintro e w1 ⟨rfl, rfl⟩)
  refine bodyPost_ret (v := .tuple #[.agg #[.int .i64 0, .int .u8 0, .int .u8 0, .int .u32 0, .int .u32 0], .agg #[.bool false, .bool false], .int .i64 4]) (by simp [results, Try.results21, go_sem]) rfl ⟨rfl, ?_⟩
  exact below_al (below_al (Below.refl _ _) _) _

set_option maxRecDepth 100000 in
set_option maxHeartbeats 4000000 in
theorem frRead_sound (A : Option Addr) (c : Nat) (xs : List Int) (w : World) (hx : Lies .u8 w w.heap.size A 114 xs) (hc : 114 ≤ c) (h : wholeL xs = true) :
    Calls Try.prog 21 #[.slice A 114 c] w fun e w' => e = .returned (.tuple #[.agg #[.int .i64 (readF xs).o, .int .u8 (readF xs).k, .int .u8 (readF xs).s, .int .u32 (readF xs).q, .int .u32 (readF xs).v], .agg #[.bool (readA xs), .bool (readB xs)], .int .i64 (readE xs)]) ∧ Below w.heap.size w w' := by
  have hl := hx.len
  have hok : readOk xs = true := by simp [readOk, hl, h]
  obtain ⟨hE, hF, hA, hB⟩ := read_yes hok
  rw [hE, hF, hA, hB]
  have HW := Lib.hid (fun u (hu : Lies .u8 u u.heap.size A 114 xs) => whole_any A 114 c xs u hu (by omega))
  rw [h] at HW
  have hw2 := wholeL_take xs 112 h
  have hl2 : (xs.take 112).length = 112 := by simp [hl]
  have HBY := Lib.hid (fun u (hu : Lies .u8 u u.heap.size A 112 (xs.take 112)) => bytes_yes A 112 c (xs.take 112) u hu (by omega) (by simp [bytesOk, hl2, hw2]))
  simp only [show 112 / 8 = 14 from rfl] at HBY
  have HBB := Lib.hid (bytesL_bd _ hw2)
  have HBL := Lib.hid (show (bytesL (xs.take 112)).length = 14 by rw [bytesL_length, hl2])
  obtain ⟨L, hL⟩ : ∃ L, L = bytesL (xs.take 112) := ⟨_, rfl⟩
  rw [← hL] at HBY HBB HBL ⊢
  have HGT := Lib.hid (fun u B (hu : Lies .u8 u u.heap.size B 14 L) => frGet_any B 14 14 L u hu HBB.out (Nat.le_refl _))
  obtain ⟨F, hF0⟩ : ∃ F, F = getF L := ⟨_, rfl⟩
  obtain ⟨E, hE0⟩ : ∃ E, E = getE L := ⟨_, rfl⟩
  rw [← hF0, ← hE0] at HGT ⊢
  have HTO := Lib.hid (fun u (hu : Lies .u8 u w.heap.size A 114 xs) (hs : w.heap.size ≤ u.heap.size) => tailOf_any (cutA A c 112) (c - 112) (xs.drop 112) u ((hu.tail (c := c) (l := 112) (by omega) hc).up hs))
  have e1 : (xs.drop 112).getD 0 0 = xs.getD 112 0 := by rw [List.getD, List.getD, List.getElem?_drop]
  have e2 : (xs.drop 112).getD 1 0 = xs.getD 113 0 := by rw [List.getD, List.getD, List.getElem?_drop]
  rw [e1, e2] at HTO
  obtain ⟨ta, hta⟩ : ∃ ta, ta = (xs.getD 112 0 == 2) := ⟨_, rfl⟩
  obtain ⟨tb, htb⟩ : ∃ tb, tb = (xs.getD 113 0 == 2) := ⟨_, rfl⟩
  rw [← hta, ← htb] at HTO ⊢
  have hx2 := (hx.al (.cells #[.int .i64 0, .int .u8 0, .int .u8 0, .int .u32 0, .int .u32 0] 42)).al (.cells #[.bool false, .bool false] 55)
  have hs1 := fun W => uptoSyms A 114 c 112 (by omega) (by omega) W
  rw [show (112 : Int).toNat = 112 from rfl] at hs1
  have hs2 := fun W => fromSyms A 114 c 112 (by omega) (by omega) W
  rw [show (112 : Int).toNat = 112 from rfl] at hs2
  simp only [show 114 - 112 = 2 from rfl] at hs2
  clear hta htb hF0 hE0 hL e1 e2 hw2 hl2 hok hE hF hA hB h hl
  go_enter Try.func21, Try.ntmps21
  go_wp2_with (first
    | (go_at_call 35; with_reducible refine (HW.out _ hx2).mono ?_; rintro e w1 ⟨rfl, rfl⟩)
    | (go_at_call 36; with_reducible refine (HBY.out _ (hx2.head (by omega))).mono ?_; rintro e w2 ⟨g2, rfl, hg2, hB2, hb2⟩)
    | (go_at_call 37; with_reducible refine (HGT.out _ _ (hB2.lies HBL.out)).mono ?_; rintro e w3 ⟨rfl, hb3⟩))
  obtain ⟨wz, hwz⟩ : ∃ wz, wz = w3.alloc (.cells #[.int .i64 F.o, .int .u8 F.k, .int .u8 F.s, .int .u32 F.q, .int .u32 F.v] 42) := ⟨_, rfl⟩
  have hb23 := below_then hb2 hb3
  have hb4 := below_al hb23 (.cells #[.int .i64 F.o, .int .u8 F.k, .int .u8 F.s, .int .u32 F.q, .int .u32 F.v] 42)
  have hbw := below_then (below_al (below_al (Below.refl w.heap.size w) (.cells #[.int .i64 0, .int .u8 0, .int .u8 0, .int .u32 0, .int .u32 0] 42)) (.cells #[.bool false, .bool false] 55)) hb4
  have hT := Blk.new (w.alloc (.cells #[.int .i64 0, .int .u8 0, .int .u8 0, .int .u32 0, .int .u32 0] 42)) 55 #[.bool false, .bool false]
  rw [alloc_size] at hT
  have HJ5 := Lib.hid (show has5 w.heap.size 42 wz from ⟨_, _, _, _, _, by rw [hwz]; exact ((Blk.new w 42 #[.int .i64 0, .int .u8 0, .int .u8 0, .int .u32 0, .int .u32 0]).alloc (.cells #[.bool false, .bool false] 55)).on hb4⟩)
  have HJ2 := Lib.hid (show has2 (w.heap.size + 1) 55 wz from ⟨_, _, by rw [hwz]; exact hT.on hb4⟩)
  have HB7 := Lib.hid (show Blk wz w3.heap.size 42 #[.int .i64 F.o, .int .u8 F.k, .int .u8 F.s, .int .u32 F.q, .int .u32 F.v] by rw [hwz]; exact Blk.new _ _ _)
  have HG7 := Lib.hid (show w.heap.size + 1 < w3.heap.size from (hT.on hb23).lt)
  rw [← hwz] at hbw ⊢
  have HLW := Lib.hid (hx.low hbw)
  have HZ := Lib.hid hbw.size
  have HBW := Lib.hid hbw
  have HJ := Lib.hid (grow52 w.heap.size (w.heap.size + 1) 42 55 F ta tb)
  clear hwz hb23 hb4 hbw hT hb2 hb3 hB2 hg2 hx2 hx HW HBY HGT
  refine Reg.wp_slots2 (fun t => t == 4 || decide (30 ≤ t)) (Reg.KJ w.heap.size [w.heap.size, w.heap.size + 1] [has5 w.heap.size 42, is5 w.heap.size 42 F, has2 (w.heap.size + 1) 55, is2 (w.heap.size + 1) 55 ta tb]) (Reg.KJ.drew _ HJ.out) Reg.KJ.trans (by kernel_rfl) (by kernel_rfl) (by kernel_rfl) (fun zz => (Reg.tblK [
    (30, .is (.agg #[.int .i64 F.o, .int .u8 F.k, .int .u8 F.s, .int .u32 F.q, .int .u32 F.v])),
    (31, .is (.slice A 114 c)),
    (32, .is (.slice (cutA A c 112) 2 (c - 112))),
    (33, .is (.agg #[.bool ta, .bool tb])),
    (34, .is (.int .i64 E)),
    (4, .is (.int .i64 E))] zz).P) (fun zz => (Reg.tblK _ zz).on) (fun zz => (Reg.memK [(5, .j (is5 w.heap.size 42 F) (by simp)), (6, .j (is2 (w.heap.size + 1) 55 ta tb) (by simp))] zz).P) (fun zz => (Reg.memK _ zz).on) ?_ ?_
  · simp only [Reg.frame, Reg.over, Nat.reduceAdd, Nat.reduceBEq, Nat.reduceLeDiff, decide_true, decide_false, Bool.or_true, Bool.or_false, if_true, Bool.false_eq_true, if_false]
    refine ⟨?_, ?_, ?_, ?_, ?_, ?_, ?_, ?_, trivial⟩
    · intro x u hku hd
      have hB := hku.blk (by have := HG7.out; simp; omega) HB7.out
      have c0 := hB.cell 0
      have c1 := hB.cell 1
      have c2 := hB.cell 2
      have c3 := hB.cell 3
      have c4 := hB.cell 4
      simp only [List.getElem?_toArray, List.getElem?_cons_zero, List.getElem?_cons_succ] at c0 c1 c2 c3 c4
      have hlt := hB.lt
      refine wpOp_step rfl fun KK hK => ?_
      go_simp
      exact hK _ _ ⟨_, rfl, Reg.KJ.refl _, fun d hd => by cases hd; exact rfl, fun h => by cases h⟩
    · intro x u hku hd
      refine wpOp_step rfl fun KK hK => ?_
      go_simp
      exact hK _ _ ⟨_, rfl, Reg.KJ.refl _, fun d hd => by cases hd; exact rfl, fun h => by cases h⟩
    · intro x u hku hd
      have h31 : x 31 = .slice A 114 c := hd 1 (by decide)
      refine wpOp_step rfl fun KK hK => ?_
      simp only [h31] at hK ⊢
      go_simp
      exact hK _ _ ⟨_, rfl, Reg.KJ.refl _, fun d hd => by cases hd; exact rfl, fun h => by cases h⟩
    · intro x u hku hd
      have h32 : x 32 = .slice (cutA A c 112) 2 (c - 112) := hd 2 (by decide)
      refine wpOp_step rfl fun KK hK => ?_
      simp only [h32] at hK ⊢
      go_simp
      with_reducible refine (HTO.out _ (hku.lies HLW.out) (Nat.le_trans HZ.out hku.size)).mono ?_
      rintro e u' ⟨rfl, hb'⟩
      exact hK _ _ ⟨_, rfl, Reg.KJ.grow HJ.out (Nat.le_trans HZ.out hku.size) hb', fun d hd => by cases hd; exact rfl, fun h => by cases h⟩
    · intro x u hku hd
      refine wpOp_step rfl fun KK hK => ?_
      go_simp
      exact hK _ _ ⟨_, rfl, Reg.KJ.refl _, fun d hd => by cases hd; exact rfl, fun h => by cases h⟩
    · intro x u hku hd
      have h30 : x 30 = .agg #[.int .i64 F.o, .int .u8 F.k, .int .u8 F.s, .int .u32 F.q, .int .u32 F.v] := hd 0 (by decide)
      obtain ⟨v0, v1, v2, v3, v4, hB⟩ := hku.j (has5 w.heap.size 42) (by simp) HJ5.out
      have c0 := hB.cell 0
      have f0 := hB.frozen 0
      have c1 := hB.cell 1
      have f1 := hB.frozen 1
      have c2 := hB.cell 2
      have f2 := hB.frozen 2
      have c3 := hB.cell 3
      have f3 := hB.frozen 3
      have c4 := hB.cell 4
      have f4 := hB.frozen 4
      simp only [List.getElem?_toArray, List.getElem?_cons_zero, List.getElem?_cons_succ] at c0 c1 c2 c3 c4
      have hlt := hB.lt
      have HFIN := Lib.hid (hB.five F)
      clear hB
      refine wpOp_step rfl fun KK hK => ?_
      simp only [h30] at hK ⊢
      go_simp
      exact hK _ _ ⟨undef, rfl, Reg.KJ.five (Nat.le_refl _) (by simp) (by simp only [List.forall_mem_cons]; exact ⟨fun _ => HFIN.out.has, fun _ => HFIN.out, fun h => h.five (by omega), fun h => h.five (by omega), fun _ h => by cases h⟩), fun d hd => (by cases hd), fun _ => HFIN.out⟩
    · intro x u hku hd
      have h33 : x 33 = .agg #[.bool ta, .bool tb] := hd 3 (by decide)
      obtain ⟨v0, v1, hB⟩ := hku.j (has2 (w.heap.size + 1) 55) (by simp) HJ2.out
      have c0 := hB.cell 0
      have f0 := hB.frozen 0
      have c1 := hB.cell 1
      have f1 := hB.frozen 1
      simp only [List.getElem?_toArray, List.getElem?_cons_zero, List.getElem?_cons_succ] at c0 c1
      have hlt := hB.lt
      have HFIN := Lib.hid (hB.two ta tb)
      clear hB
      refine wpOp_step rfl fun KK hK => ?_
      simp only [h33] at hK ⊢
      go_simp
      exact hK _ _ ⟨undef, rfl, Reg.KJ.two (by omega) (by simp) (by simp only [List.forall_mem_cons]; exact ⟨fun h => h.two (by omega), fun h => h.two (by omega), fun _ => HFIN.out.has, fun _ => HFIN.out, fun _ h => by cases h⟩), fun d hd => (by cases hd), fun _ => HFIN.out⟩
    · intro x u hku hd
      have h34 : x 34 = .int .i64 E := hd 4 (by decide)
      refine wpOp_step rfl fun KK hK => ?_
      simp only [h34] at hK ⊢
      go_simp
      exact hK _ _ ⟨_, rfl, Reg.KJ.refl _, fun d hd => by cases hd; exact rfl, fun h => by cases h⟩
  · intro x u hku hall
    have h4 : x 4 = .int .i64 E := hall 7 (by decide)
    have m5 : is5 w.heap.size 42 F u := hall 5 (by decide)
    have m2 : is2 (w.heap.size + 1) 55 ta tb u := hall 6 (by decide)
    have c0 := m5.cell 0
    have c1 := m5.cell 1
    have c2 := m5.cell 2
    have c3 := m5.cell 3
    have c4 := m5.cell 4
    have d0 := m2.cell 0
    have d1 := m2.cell 1
    simp only [List.getElem?_toArray, List.getElem?_cons_zero, List.getElem?_cons_succ] at c0 c1 c2 c3 c4 d0 d1
    simp only [Reg.frame, Reg.over, Nat.reduceAdd, Nat.reduceBEq, Nat.reduceLeDiff, decide_true, decide_false, Bool.or_true, Bool.or_false, if_true, Bool.false_eq_true, if_false, h4]
    go_wp2_with fail
    refine bodyPost_ret (v := .tuple #[.agg #[.int .i64 F.o, .int .u8 F.k, .int .u8 F.s, .int .u32 F.q, .int .u32 F.v], .agg #[.bool ta, .bool tb], .int .i64 E]) (by simp [results, Try.results21, go_sem, c0, c1, c2, c3, c4, d0, d1]) rfl ⟨rfl, ?_⟩
    exact HBW.out.trans hku.1

theorem frRead_any (A : Option Addr) (n c : Nat) (xs : List Int) (w : World) (hx : Lies .u8 w w.heap.size A n xs) (hc : n ≤ c) :
    Calls Try.prog 21 #[.slice A n c] w fun e w' => e = .returned (.tuple #[.agg #[.int .i64 (readF xs).o, .int .u8 (readF xs).k, .int .u8 (readF xs).s, .int .u32 (readF xs).q, .int .u32 (readF xs).v], .agg #[.bool (readA xs), .bool (readB xs)], .int .i64 (readE xs)]) ∧ Below w.heap.size w w' := by
  have hl := hx.len
  by_cases hn : n = 114
  · subst hn
    by_cases h : wholeL xs = true
    · exact frRead_sound A c xs w hx hc h
    · have h' : wholeL xs = false := by simpa using h
      obtain ⟨e1, e2, e3, e4⟩ := read_no (xs := xs) (by simp [readOk, h'])
      rw [e1, e2, e3, e4]
      exact frRead_whole A c xs w hx h'
  · obtain ⟨e1, e2, e3, e4⟩ := read_no (xs := xs) (by simp [readOk, hl, hn])
    rw [e1, e2, e3, e4]
    exact frRead_len A n c w hn
end Go.Proofs.Ytpjcbfapkjipjaa
