/-
  A catch that lies inside a greater block (behind the cells A, ahead of the cells Z): its words, and the contracts of Step there. Conditions: the catch's reading.
-/
import Derived.Test.YtkejpkcaojidaaaGreatDoorCa3
namespace Go.Proofs.YtkejpkcaojidaaaGreatDoor
set_option linter.unusedVariables false
set_option linter.unusedSimpArgs false
open Go.RowKit Crc
set_option linter.unusedVariables false

/-- A catch's cells L inside a block: A ahead of them, Z behind. -/
structure CIn (w : World) (g O : Nat) (T : TypeId) (A Z L : List Value) : Prop where
  blk : Blk w g T (A ++ (L ++ Z)).toArray
  len : A.length = O
  lln : L.length = 123
section
variable {w w' : World} {g O : Nat} {T : TypeId} {A Z L : List Value}
theorem CIn.cell (h : CIn w g O T A Z L) (i : Nat) (hi : i < 123 := by decide) : w.cell? ⟨g, O + i, none⟩ = L[i]? := by
  rw [h.blk.cell, List.getElem?_toArray, List.getElem?_append_right (by rw [h.len]; omega), h.len, Nat.add_sub_cancel_left, List.getElem?_append_left (by rw [h.lln]; exact hi)]
theorem CIn.frozen (h : CIn w g O T A Z L) (i : Nat) : w.frozen? ⟨g, i, none⟩ = false := h.blk.frozen i
theorem CIn.lt (h : CIn w g O T A Z L) : g < w.heap.size := h.blk.lt
theorem CIn.on (h : CIn w g O T A Z L) (hb : Below w.heap.size w w') : CIn w' g O T A Z L := ⟨h.blk.on hb, h.len, h.lln⟩
theorem CIn.alloc (h : CIn w g O T A Z L) (o : Obj) : CIn (w.alloc o) g O T A Z L := ⟨h.blk.alloc o, h.len, h.lln⟩
theorem CIn.set_ (h : CIn w g O T A Z L) (i : Nat) (v : Value) (hi : i < 123 := by decide) : CIn (w.setCell ⟨g, O + i, none⟩ v) g O T A Z (L.set i v) := by
  refine ⟨?_, h.len, by rw [List.length_set, h.lln]⟩
  have := h.blk.set_ (O + i) v
  rw [List.setIfInBounds_toArray, List.set_append_right _ _ (by rw [h.len]; omega), h.len, Nat.add_sub_cancel_left, List.set_append_left _ _ (by rw [h.lln]; exact hi)] at this
  exact this
theorem CIn.set0 (h : CIn w g O T A Z L) (v : Value) : CIn (w.setCell ⟨g, O, none⟩ v) g O T A Z (L.set 0 v) := h.set_ 0 v
theorem CIn.drew (h : CIn w g O T A Z L) : CIn w.drew g O T A Z L := ⟨h.blk, h.len, h.lln⟩
theorem CIn.setB (h : CIn w g O T A Z L) (m : Nat) (hm : m < 112) (v : Value) : CIn (w.setCell ⟨g, O + 4 + m, none⟩ v) g O T A Z (L.set (4 + m) v) := by
  rw [Nat.add_assoc]; exact h.set_ (4 + m) v (by omega)
end
section
variable {g O : Nat} {T : TypeId} {A Z : List Value} {v : Value} {n s : Nat} {k : Bool} {b : List Int} {f : Fr} {p q : Bool} {w : World}
theorem CIn.ca (h : CIn w g O T A Z (catL v n s k b f p q)) : w.cell? ⟨g, O, none⟩ = some v ∧ w.cell? ⟨g, O + 1, none⟩ = some (.int .i64 n) ∧ w.cell? ⟨g, O + 2, none⟩ = some (.int .i64 s) ∧ w.cell? ⟨g, O + 3, none⟩ = some (.bool k) :=
  ⟨h.cell 0, h.cell 1, h.cell 2, h.cell 3⟩
theorem CIn.cb (h : CIn w g O T A Z (catL v n s k b f p q)) (hb : b.length = 112) {i : Nat} (hi : i < 112) : w.cell? ⟨g, O + 4 + i, none⟩ = some (.int .u8 (b.getD i 0)) := by
  rw [Nat.add_assoc, h.cell (4 + i) (by omega)]; exact catL_body hb i hi
theorem CIn.cf_ (h : CIn w g O T A Z (catL v n s k b f p q)) (hb : b.length = 112) :
    w.cell? ⟨g, O + 116, none⟩ = some (.int .i64 f.o) ∧ w.cell? ⟨g, O + 117, none⟩ = some (.int .u8 f.k) ∧ w.cell? ⟨g, O + 118, none⟩ = some (.int .u8 f.s) ∧ w.cell? ⟨g, O + 119, none⟩ = some (.int .u32 f.q) ∧ w.cell? ⟨g, O + 120, none⟩ = some (.int .u32 f.v) ∧ w.cell? ⟨g, O + 121, none⟩ = some (.bool p) ∧ w.cell? ⟨g, O + 122, none⟩ = some (.bool q) := by
  refine ⟨?_, ?_, ?_, ?_, ?_, ?_, ?_⟩
  · rw [h.cell 116]; exact catL_end hb 0
  · rw [h.cell 117]; exact catL_end hb 1
  · rw [h.cell 118]; exact catL_end hb 2
  · rw [h.cell 119]; exact catL_end hb 3
  · rw [h.cell 120]; exact catL_end hb 4
  · rw [h.cell 121]; exact catL_end hb 5
  · rw [h.cell 122]; exact catL_end hb 6
theorem CIn.bodyLies (h : CIn w g O T A Z (catL v n s k b f p q)) (hb : b.length = 112) : Lies .u8 w w.heap.size (some ⟨g, O + 4, none⟩) 112 b :=
  ⟨hb, fun _ => ⟨g, O + 4, rfl, h.lt, fun j hj => h.cb hb hj⟩⟩
theorem iidxBody {m : Nat} (hm : m < 112) (w : World) : (Instr.indexAt 110 (.pointer (some ⟨g, O + 4, none⟩)) (.int .i64 (m : Int))).run Tryz.prog w = .ok (.pointer (some ⟨g, O + 4 + m, none⟩)) w := by
  rw [run_indexAt_array (h := by kernel_rfl), show Tryz.prog.arrayLen 110 = 112 by kernel_rfl, if_pos (by omega), show (sizeOf (Tryz.prog.elem 110)).run Tryz.prog w = .ok 1 w by kernel_rfl]
  simp [Result.andThen, Addr.add_lit]
theorem isliceBody (g O : Nat) (w : World) : (Instr.sliceAt 110 (.pointer (some ⟨g, O + 4, none⟩)) none none none).run Tryz.prog w = .ok (.slice (some ⟨g, O + 4, none⟩) 112 112) w := by kernel_rfl
theorem iallSame_is (h : CIn w g O T A Z (catL v n s k b f p q)) (r : Bool) (hr : decide (s = n) = r) :
    Calls Tryz.prog 140 #[.pointer (some ⟨g, O, none⟩)] w fun e w' => e = .returned (.bool r) ∧ Below w.heap.size w w' := by
  obtain ⟨c0, c1, c2, c3⟩ := h.ca
  have hlt := h.lt
  have he : ((s : Int) == (n : Int)) = r := by
    rw [← hr]
    by_cases e : s = n
    · subst e; simp
    · rw [decide_eq_false e]; exact beq_eq_false_iff_ne.2 (by omega)
  clear h c0 c3 hr
  go_enter Tryz.func140, Tryz.ntmps140
  go_wp2_with fail
  go_region
  all_goals (go_wp2_with fail)
  go_ret
  exact ⟨rfl, by first | exact Below.refl _ _ | exact below_same _ | exact (Below.refl _ _).drew⟩

set_option maxRecDepth 100000 in
theorem icount_is {a d : Int} (h : CIn w g O T A Z (catL v n s k b f p q)) (hn : n < 65536) (hs : s < 65536) (r1 r2 r3 : Bool) (h1 : decide (s = n) = r1) (h2 : (a == d) = r2) (h3 : (a != 0) = r3) :
    Calls Tryz.prog 175 #[.pointer (some ⟨g, O, none⟩), .int .u8 a, .int .u8 d] w fun e w' => e = .returned (.tuple #[]) ∧ CIn w' g O T A Z (catL v (n + 1 : Nat) (if (r1 && r2 && r3) = true then s + 1 else s : Nat) k b f p q) ∧ But g w w' := by
  have HR := Lib.hid h1
  clear h1
  have hw1 : IntKind.i64.wrap ((n : Int) + 1) = (n : Int) + 1 := IntWalk.i64_in _ (by omega)
  have hw2 : IntKind.i64.wrap ((s : Int) + 1) = (s : Int) + 1 := IntWalk.i64_in _ (by omega)
  have HX := Lib.hid h
  clear h hn hs
  cases r1 <;> cases r2 <;> cases r3
  all_goals
    go_enter Tryz.func175, Tryz.ntmps175
    go_wp2_with (go_at_call 140; (with_reducible refine (iallSame_is HX.out _ HR.out).mono ?_); rintro e w1 ⟨rfl, b1⟩; have h1 := HX.out.on b1; obtain ⟨c0, c1, c2, c3⟩ := h1.ca; have f1 := h1.frozen (O + 1); have f2 := h1.frozen (O + 2); have hlt := h1.lt)
    go_end0
    have hB := h1.set_ 1 (.int .i64 ((n : Int) + 1))
    have hC := (h1.set_ 2 (.int .i64 ((s : Int) + 1))).set_ 1 (.int .i64 ((n : Int) + 1))
    have hT := But.grow (g := g) (Nat.le_of_lt HX.out.lt) b1
    simp only [catL_set2, catL_set1] at hB hC
    first
      | exact ⟨rfl, hB, hT.set (O + 1) _⟩
      | exact ⟨rfl, hC, (hT.set (O + 2) _).set (O + 1) _⟩

end
set_option maxRecDepth 100000 in
/-- A catch that has had all, or that no call made, takes nothing more. -/
theorem istep_none {g O : Nat} {T : TypeId} {A Z : List Value} {n s : Nat} {k : Bool} {b : List Int} {f : Fr} {p q : Bool} {w : World} (a d : Int) (h : CIn w g O T A Z (catL .nilFunc n s k b f p q)) :
    Calls Tryz.prog 173 #[.pointer (some ⟨g, O, none⟩), .int .u8 a, .int .u8 d] w fun e w' => e = .returned (.int .u8 0) ∧ w = w' := by
  obtain ⟨c0, c1, c2, c3⟩ := h.ca
  have hlt := h.lt
  have hq := fun W => func_nil W
  clear h c1 c2 c3
  go_enter Tryz.func173, Tryz.ntmps173
  go_wp2_with fail
  go_ret
  exact ⟨rfl, rfl⟩
section
variable {g O : Nat} {T : TypeId} {A Z : List Value} {v : Value} {m s : Nat} {k : Bool} {b : List Int} {f : Fr} {p q : Bool} {w : World}
set_option maxRecDepth 100000 in
set_option maxHeartbeats 4000000 in
theorem ibody_is (o a d : Int) (h : CIn w g O T A Z (catL v (m + 1 : Nat) s k b f p q)) (hb : b.length = 112) (hm : m < 112) (z : Int) (hz : (if a = 0 then d else a) = z) (zz : Bool) (hzz : (z == 0) = zz) (kz : Bool) (hk : (k || zz) = kz) (v' : Value) (hv : (if m = 111 then secondV o else v) = v') (b' : List Int) (hb' : b.set m z = b') :
    Calls Tryz.prog 119 #[.int .i64 o, .pointer (some ⟨g, O, none⟩), .int .u8 a, .int .u8 d] w fun e w' => e = .returned (.int .u8 z) ∧ CIn w' g O T A Z (catL v' (m + 1 : Nat) s kz b' f p q) ∧ But g w w' := by
  obtain ⟨c0, c1, c2, c3⟩ := h.ca
  have cb := h.cb hb hm
  have hlt := h.lt
  have f0 := h.frozen O
  have f3 := h.frozen (O + 3)
  have fb := h.frozen (O + 4 + m)
  have hst := fun W A => store_func 133 #[.int .i64 o] W A
  have hix := fun W => iidxBody (g := g) (O := O) hm W
  have hw : IntKind.i64.wrap ((m : Int) + 1 - 1) = (m : Int) := by rw [show (m : Int) + 1 - 1 = m by omega]; exact IntWalk.i64_in _ (by omega)
  have hw' : IntKind.i64.wrap ((m : Int)) = (m : Int) := IntWalk.i64_in _ (by omega)
  rw [show ((m + 1 : Nat) : Int) = (m : Int) + 1 from rfl] at c1
  have HB := Lib.hid (fun kk => show CIn (((w.setCell ⟨g, O + 4 + m, none⟩ (.int .u8 z)).setCell ⟨g, O + 3, none⟩ (.bool kk))) g O T A Z (catL v (m + 1 : Nat) s kk b' f p q) by
    have := (h.setB m hm (.int .u8 z)).set_ 3 (.bool kk)
    rw [← hb']
    simpa only [catL_setB hb m hm, catL_set3] using this)
  have HT := Lib.hid (fun kk => ((But.refl g w).set (O + 4 + m) (.int .u8 z)).set (O + 3) (.bool kk))
  by_cases h1 : m = 111
  · rw [if_pos h1] at hv
    subst hv
    have HB2 := Lib.hid (fun kk => show CIn ((((w.setCell ⟨g, O + 4 + m, none⟩ (.int .u8 z)).setCell ⟨g, O + 3, none⟩ (.bool kk))).setCell ⟨g, O, none⟩ (secondV o)) g O T A Z (catL (secondV o) (m + 1 : Nat) s kk b' f p q) by
      have := (HB.out kk).set0 (secondV o)
      simpa only [catL_set0] using this)
    have HT2 := Lib.hid (fun kk => (HT.out kk).set (O + 0) (secondV o))
    clear HB HT
    subst h1
    clear h c2 hm hb
    try simp only [Nat.reduceAdd] at HB2 HT2
    try simp only [Nat.reduceAdd] at cb hix fb
    rw [show ((111 : Nat) : Int) + 1 = 112 from rfl] at c1
    simp only [show ((111 : Nat) : Int) = 111 from rfl] at hix hw hw'
    by_cases h2 : a = 0
    · subst h2
      rw [if_pos rfl] at hz
      subst hz
      cases zz <;> cases k
      all_goals
        obtain rfl := hk
        go_enter Tryz.func119, Tryz.ntmps119
        go_wp2_with fail
        go_region
        all_goals (go_wp2_with fail)
        all_goals go_ret
        all_goals exact ⟨rfl, (HB2.out _).drew, (HT2.out _).drew⟩
    · rw [if_neg h2] at hz
      subst hz
      have hne2 : (a == 0) = false := beq_eq_false_iff_ne.2 h2
      rw [hne2] at hzz
      subst hzz
      cases k
      all_goals
        obtain rfl := hk
        go_enter Tryz.func119, Tryz.ntmps119
        go_wp2_with fail
        go_region
        all_goals (go_wp2_with fail)
        all_goals go_ret
        all_goals exact ⟨rfl, (HB2.out _).drew, (HT2.out _).drew⟩
  · rw [if_neg h1] at hv
    subst hv
    have hne : ((m : Int) + 1 == 112) = false := beq_eq_false_iff_ne.2 (by omega)
    clear h c0 c2 h1 hm hb
    by_cases h2 : a = 0
    · subst h2
      rw [if_pos rfl] at hz
      subst hz
      cases zz <;> cases k
      all_goals
        obtain rfl := hk
        go_enter Tryz.func119, Tryz.ntmps119
        go_wp2_with fail
        go_region
        all_goals (go_wp2_with fail)
        all_goals go_ret
        all_goals exact ⟨rfl, (HB.out _).drew, (HT.out _).drew⟩
    · rw [if_neg h2] at hz
      subst hz
      have hne2 : (a == 0) = false := beq_eq_false_iff_ne.2 h2
      rw [hne2] at hzz
      subst hzz
      cases k
      all_goals
        obtain rfl := hk
        go_enter Tryz.func119, Tryz.ntmps119
        go_wp2_with fail
        go_region
        all_goals (go_wp2_with fail)
        all_goals go_ret
        all_goals exact ⟨rfl, (HB.out _).drew, (HT.out _).drew⟩
end
section
variable {g O : Nat} {T : TypeId} {A Z : List Value} {v : Value} {n s : Nat} {k : Bool} {b : List Int} {f : Fr} {p q : Bool} {w : World}
set_option maxRecDepth 100000 in
set_option maxHeartbeats 4000000 in
theorem iunlike3_is (o a d : Int) (h : CIn w g O T A Z (catL v n s k b f p false)) (hb : b.length = 112) (r1 r2 : Bool) (h1 : decide (s = n) = r1) (h2 : (a != 1) = r2) (q' : Bool) (hq : (!p || !r1 || r2) = q') :
    Calls Tryz.prog 141 #[.int .i64 o, .pointer (some ⟨g, O, none⟩), .int .u8 a, .int .u8 d] w fun e w' => e = .returned (.int .u8 (tsy q')) ∧ CIn w' g O T A Z (catL .nilFunc n s k b f p q') ∧ But g w w' := by
  have hlt := h.lt
  obtain ⟨d0, d1, d2, d3, d4, d5, d6⟩ := h.cf_ hb
  have HB := Lib.hid hb
  have HX := Lib.hid h
  have HR := Lib.hid h1
  have hst := fun W A => store_nilf W A
  clear d0 d1 d2 d3 d4 h1 hb
  have f0 := h.frozen O
  have f1 := h.frozen (O + 122)
  have c0 := h.ca.1
  have HA := Lib.hid (show ∀ u, Below w.heap.size w u → CIn ((u.setCell ⟨g, O + 122, none⟩ (.bool q')).setCell ⟨g, O, none⟩ .nilFunc) g O T A Z (catL .nilFunc n s k b f p q') ∧ But g w ((u.setCell ⟨g, O + 122, none⟩ (.bool q')).setCell ⟨g, O, none⟩ .nilFunc) from fun u hu => by
    have := ((h.on hu).set_ 122 (.bool q')).set0 .nilFunc
    simp only [catL_setQ HB.out, catL_set0] at this
    exact ⟨this, ((But.grow (Nat.le_of_lt h.lt) hu).set _ _).set _ _⟩)
  clear h
  have b1 := Below.refl w.heap.size w
  cases p <;> cases r1 <;> cases r2
  all_goals
    obtain rfl := hq
    go_enter Tryz.func141, Tryz.ntmps141
    go_wp2_with (first
      | (go_at_call 140; (with_reducible refine (iallSame_is HX.out _ HR.out).mono ?_); rintro e w1 ⟨rfl, b1⟩; have h1 := HX.out.on b1; have f0 := h1.frozen O; have f1 := h1.frozen (O + 122); have c0 := h1.ca.1; obtain ⟨e0, e1, e2, e3, e4, d5, d6⟩ := h1.cf_ HB.out; have hlt := h1.lt)
      | (go_at_call 130; (with_reducible refine (tsyms_any _ _ _).mono ?_); rintro e w2 ⟨g2, rfl, hg2, hB2, b2⟩; have t0 := hB2.cell 0; have t1 := hB2.cell 1; have hlt2 := hB2.lt; rw [cellsOf_at _ _ _ (show 1 < 2 by decide)] at t1))
    go_ret
    obtain ⟨q1, q2⟩ := HA.out _ b1
    exact ⟨rfl, q1.on b2, q2.on HX.out.lt b2⟩
set_option maxRecDepth 100000 in
set_option maxHeartbeats 4000000 in
theorem iwhole3_is (o a d : Int) (h : CIn w g O T A Z (catL v n s k b Fr.zero false false)) (hb : b.length = 112) (r0 r1 r2 : Bool) (h0 : isB o b = r0) (h1 : decide (s = n) = r1) (h2 : (a == 2) = r2) (p' : Bool) (hp : (r0 && r1 && r2) = p') (F : Fr) (hF : (if p' = true then getF (bytesP b) else Fr.zero) = F) :
    Calls Tryz.prog 133 #[.int .i64 o, .pointer (some ⟨g, O, none⟩), .int .u8 a, .int .u8 d] w fun e w' => e = .returned (.int .u8 (tsy p')) ∧ CIn w' g O T A Z (catL (thirdV o) n s k b F p' false) ∧ But g w w' := by
  have HB := Lib.hid hb
  have HX := Lib.hid h
  have HR := Lib.hid h1
  have HRD := Lib.hid (read_is o (some ⟨g, O + 4, none⟩) 112 b w (h.bodyLies hb) r0 h0 _ rfl)
  obtain ⟨G, hG⟩ : ∃ G, (if r0 = true then getF (bytesP b) else Fr.zero) = G := ⟨_, rfl⟩
  rw [hG] at HRD
  have hst := fun W A => store_func 141 #[.int .i64 o] W A
  have hsl := fun W => isliceBody g O W
  have HA := Lib.hid (show ∀ u, Below w.heap.size w u → CIn (u.setCell ⟨g, O, none⟩ (thirdV o)) g O T A Z (catL (thirdV o) n s k b Fr.zero false false) ∧ But g w (u.setCell ⟨g, O, none⟩ (thirdV o)) from fun u hu => by
    have := (h.on hu).set0 (thirdV o)
    simp only [catL_set0] at this
    exact ⟨this, ((But.grow (Nat.le_of_lt h.lt) hu).set _ _)⟩)
  have HA2 := Lib.hid (show ∀ u, Below w.heap.size w u → CIn (((((((u.setCell ⟨g, O + 116, none⟩ (.int .i64 G.o)).setCell ⟨g, O + 117, none⟩ (.int .u8 G.k)).setCell ⟨g, O + 118, none⟩ (.int .u8 G.s)).setCell ⟨g, O + 119, none⟩ (.int .u32 G.q)).setCell ⟨g, O + 120, none⟩ (.int .u32 G.v)).setCell ⟨g, O + 121, none⟩ (.bool true)).setCell ⟨g, O, none⟩ (thirdV o)) g O T A Z (catL (thirdV o) n s k b G true false) ∧ But g w (((((((u.setCell ⟨g, O + 116, none⟩ (.int .i64 G.o)).setCell ⟨g, O + 117, none⟩ (.int .u8 G.k)).setCell ⟨g, O + 118, none⟩ (.int .u8 G.s)).setCell ⟨g, O + 119, none⟩ (.int .u32 G.q)).setCell ⟨g, O + 120, none⟩ (.int .u32 G.v)).setCell ⟨g, O + 121, none⟩ (.bool true)).setCell ⟨g, O, none⟩ (thirdV o)) from fun u hu => by
    have := (((((((h.on hu).set_ 116 (.int .i64 G.o)).set_ 117 (.int .u8 G.k)).set_ 118 (.int .u8 G.s)).set_ 119 (.int .u32 G.q)).set_ 120 (.int .u32 G.v)).set_ 121 (.bool true)).set0 (thirdV o)
    simp only [catL_setF HB.out, catL_setP HB.out, catL_set0] at this
    exact ⟨this, (((((((But.grow (Nat.le_of_lt h.lt) hu).set _ _).set _ _).set _ _).set _ _).set _ _).set _ _).set _ _⟩)
  clear h0 h1 hb h
  cases r0
  · cases r1 <;> cases r2
    all_goals
      obtain rfl := hp
      simp at hF
      first | (rw [if_pos rfl] at hG; rw [hG] at hF) | skip
      clear hG
      subst hF
      go_enter Tryz.func133, Tryz.ntmps133
      go_wp2_with (first
        | (go_at_call 139; (with_reducible refine HRD.out.mono ?_); rintro e w1 ⟨rfl, b1⟩; have hN := Blk.new w1 112 #[.int .i64 G.o, .int .u8 G.k, .int .u8 G.s, .int .u32 G.q, .int .u32 G.v]; have h1 := (HX.out.on b1).alloc (.cells #[.int .i64 G.o, .int .u8 G.k, .int .u8 G.s, .int .u32 G.q, .int .u32 G.v] 112); have b1 := below_al b1 (.cells #[.int .i64 G.o, .int .u8 G.k, .int .u8 G.s, .int .u32 G.q, .int .u32 G.v] 112); have f0 := h1.frozen O; have c0 := h1.ca.1; obtain ⟨e0, e1, e2, e3, e4, d5, d6⟩ := h1.cf_ HB.out; have hlt := h1.lt)
        | (go_at_call 140; (with_reducible refine (iallSame_is h1 _ HR.out).mono ?_); rintro e w2 ⟨rfl, b2⟩; have b1 := below_then b1 b2; have h1 := h1.on b2; have f0 := h1.frozen O; have c0 := h1.ca.1; obtain ⟨e0, e1, e2, e3, e4, d5, d6⟩ := h1.cf_ HB.out; have hlt := h1.lt; have f1 := h1.frozen (O + 116); have f2 := h1.frozen (O + 117); have f3 := h1.frozen (O + 118); have f4 := h1.frozen (O + 119); have f5 := h1.frozen (O + 120); have f6 := h1.frozen (O + 121); have hN1 := hN.on b2; have hlt1 := hN1.lt; have x0 := hN1.cell 0; have x1 := hN1.cell 1; have x2 := hN1.cell 2; have x3 := hN1.cell 3; have x4 := hN1.cell 4; have y0 := hN1.frozen 0; have y1 := hN1.frozen 1; have y2 := hN1.frozen 2; have y3 := hN1.frozen 3; have y4 := hN1.frozen 4; simp only [List.getElem?_toArray, List.getElem?_cons_zero, List.getElem?_cons_succ] at x0 x1 x2 x3 x4)
        | (go_at_call 130; (with_reducible refine (tsyms_any _ _ _).mono ?_); rintro e w3 ⟨g2, rfl, hg2, hB2, b3⟩; have t0 := hB2.cell 0; have hlt2 := hB2.lt; rw [cellsOf_at _ _ _ (show 0 < 2 by decide)] at t0))
      go_ret
      obtain ⟨q1, q2⟩ := HA.out _ b1
      exact ⟨rfl, q1.on b3, q2.on HX.out.lt b3⟩
  · cases r1
    · cases r2
      all_goals
        obtain rfl := hp
        simp at hF
        first | (rw [if_pos rfl] at hG; rw [hG] at hF) | skip
        clear hG
        subst hF
        go_enter Tryz.func133, Tryz.ntmps133
        go_wp2_with (first
          | (go_at_call 139; (with_reducible refine HRD.out.mono ?_); rintro e w1 ⟨rfl, b1⟩; have hN := Blk.new w1 112 #[.int .i64 G.o, .int .u8 G.k, .int .u8 G.s, .int .u32 G.q, .int .u32 G.v]; have h1 := (HX.out.on b1).alloc (.cells #[.int .i64 G.o, .int .u8 G.k, .int .u8 G.s, .int .u32 G.q, .int .u32 G.v] 112); have b1 := below_al b1 (.cells #[.int .i64 G.o, .int .u8 G.k, .int .u8 G.s, .int .u32 G.q, .int .u32 G.v] 112); have f0 := h1.frozen O; have c0 := h1.ca.1; obtain ⟨e0, e1, e2, e3, e4, d5, d6⟩ := h1.cf_ HB.out; have hlt := h1.lt)
          | (go_at_call 140; (with_reducible refine (iallSame_is h1 _ HR.out).mono ?_); rintro e w2 ⟨rfl, b2⟩; have b1 := below_then b1 b2; have h1 := h1.on b2; have f0 := h1.frozen O; have c0 := h1.ca.1; obtain ⟨e0, e1, e2, e3, e4, d5, d6⟩ := h1.cf_ HB.out; have hlt := h1.lt; have f1 := h1.frozen (O + 116); have f2 := h1.frozen (O + 117); have f3 := h1.frozen (O + 118); have f4 := h1.frozen (O + 119); have f5 := h1.frozen (O + 120); have f6 := h1.frozen (O + 121); have hN1 := hN.on b2; have hlt1 := hN1.lt; have x0 := hN1.cell 0; have x1 := hN1.cell 1; have x2 := hN1.cell 2; have x3 := hN1.cell 3; have x4 := hN1.cell 4; have y0 := hN1.frozen 0; have y1 := hN1.frozen 1; have y2 := hN1.frozen 2; have y3 := hN1.frozen 3; have y4 := hN1.frozen 4; simp only [List.getElem?_toArray, List.getElem?_cons_zero, List.getElem?_cons_succ] at x0 x1 x2 x3 x4)
          | (go_at_call 130; (with_reducible refine (tsyms_any _ _ _).mono ?_); rintro e w3 ⟨g2, rfl, hg2, hB2, b3⟩; have t0 := hB2.cell 0; have hlt2 := hB2.lt; rw [cellsOf_at _ _ _ (show 0 < 2 by decide)] at t0))
        go_ret
        obtain ⟨q1, q2⟩ := HA.out _ b1
        exact ⟨rfl, q1.on b3, q2.on HX.out.lt b3⟩
    · cases r2
      · skip
        obtain rfl := hp
        simp at hF
        first | (rw [if_pos rfl] at hG; rw [hG] at hF) | skip
        clear hG
        subst hF
        go_enter Tryz.func133, Tryz.ntmps133
        go_wp2_with (first
          | (go_at_call 139; (with_reducible refine HRD.out.mono ?_); rintro e w1 ⟨rfl, b1⟩; have hN := Blk.new w1 112 #[.int .i64 G.o, .int .u8 G.k, .int .u8 G.s, .int .u32 G.q, .int .u32 G.v]; have h1 := (HX.out.on b1).alloc (.cells #[.int .i64 G.o, .int .u8 G.k, .int .u8 G.s, .int .u32 G.q, .int .u32 G.v] 112); have b1 := below_al b1 (.cells #[.int .i64 G.o, .int .u8 G.k, .int .u8 G.s, .int .u32 G.q, .int .u32 G.v] 112); have f0 := h1.frozen O; have c0 := h1.ca.1; obtain ⟨e0, e1, e2, e3, e4, d5, d6⟩ := h1.cf_ HB.out; have hlt := h1.lt)
          | (go_at_call 140; (with_reducible refine (iallSame_is h1 _ HR.out).mono ?_); rintro e w2 ⟨rfl, b2⟩; have b1 := below_then b1 b2; have h1 := h1.on b2; have f0 := h1.frozen O; have c0 := h1.ca.1; obtain ⟨e0, e1, e2, e3, e4, d5, d6⟩ := h1.cf_ HB.out; have hlt := h1.lt; have f1 := h1.frozen (O + 116); have f2 := h1.frozen (O + 117); have f3 := h1.frozen (O + 118); have f4 := h1.frozen (O + 119); have f5 := h1.frozen (O + 120); have f6 := h1.frozen (O + 121); have hN1 := hN.on b2; have hlt1 := hN1.lt; have x0 := hN1.cell 0; have x1 := hN1.cell 1; have x2 := hN1.cell 2; have x3 := hN1.cell 3; have x4 := hN1.cell 4; have y0 := hN1.frozen 0; have y1 := hN1.frozen 1; have y2 := hN1.frozen 2; have y3 := hN1.frozen 3; have y4 := hN1.frozen 4; simp only [List.getElem?_toArray, List.getElem?_cons_zero, List.getElem?_cons_succ] at x0 x1 x2 x3 x4)
          | (go_at_call 130; (with_reducible refine (tsyms_any _ _ _).mono ?_); rintro e w3 ⟨g2, rfl, hg2, hB2, b3⟩; have t0 := hB2.cell 0; have hlt2 := hB2.lt; rw [cellsOf_at _ _ _ (show 0 < 2 by decide)] at t0))
        go_ret
        obtain ⟨q1, q2⟩ := HA.out _ b1
        exact ⟨rfl, q1.on b3, q2.on HX.out.lt b3⟩
      · skip
        obtain rfl := hp
        simp at hF
        first | (rw [if_pos rfl] at hG; rw [hG] at hF) | skip
        clear hG
        subst hF
        go_enter Tryz.func133, Tryz.ntmps133
        go_wp2_with (first
          | (go_at_call 139; (with_reducible refine HRD.out.mono ?_); rintro e w1 ⟨rfl, b1⟩; have hN := Blk.new w1 112 #[.int .i64 G.o, .int .u8 G.k, .int .u8 G.s, .int .u32 G.q, .int .u32 G.v]; have h1 := (HX.out.on b1).alloc (.cells #[.int .i64 G.o, .int .u8 G.k, .int .u8 G.s, .int .u32 G.q, .int .u32 G.v] 112); have b1 := below_al b1 (.cells #[.int .i64 G.o, .int .u8 G.k, .int .u8 G.s, .int .u32 G.q, .int .u32 G.v] 112); have f0 := h1.frozen O; have c0 := h1.ca.1; obtain ⟨e0, e1, e2, e3, e4, d5, d6⟩ := h1.cf_ HB.out; have hlt := h1.lt)
          | (go_at_call 140; (with_reducible refine (iallSame_is h1 _ HR.out).mono ?_); rintro e w2 ⟨rfl, b2⟩; have b1 := below_then b1 b2; have h1 := h1.on b2; have f0 := h1.frozen O; have c0 := h1.ca.1; obtain ⟨e0, e1, e2, e3, e4, d5, d6⟩ := h1.cf_ HB.out; have hlt := h1.lt; have f1 := h1.frozen (O + 116); have f2 := h1.frozen (O + 117); have f3 := h1.frozen (O + 118); have f4 := h1.frozen (O + 119); have f5 := h1.frozen (O + 120); have f6 := h1.frozen (O + 121); have hN1 := hN.on b2; have hlt1 := hN1.lt; have x0 := hN1.cell 0; have x1 := hN1.cell 1; have x2 := hN1.cell 2; have x3 := hN1.cell 3; have x4 := hN1.cell 4; have y0 := hN1.frozen 0; have y1 := hN1.frozen 1; have y2 := hN1.frozen 2; have y3 := hN1.frozen 3; have y4 := hN1.frozen 4; simp only [List.getElem?_toArray, List.getElem?_cons_zero, List.getElem?_cons_succ] at x0 x1 x2 x3 x4)
          | (go_at_call 130; (with_reducible refine (tsyms_any _ _ _).mono ?_); rintro e w3 ⟨g2, rfl, hg2, hB2, b3⟩; have t0 := hB2.cell 0; have hlt2 := hB2.lt; rw [cellsOf_at _ _ _ (show 0 < 2 by decide)] at t0))
        go_ret
        obtain ⟨q1, q2⟩ := HA2.out _ b1
        exact ⟨rfl, q1.on b3, q2.on HX.out.lt b3⟩
set_option maxRecDepth 100000 in
set_option maxHeartbeats 4000000 in
theorem istep_low (o a d : Int) (h : CIn w g O T A Z (catL (firstV o) n s k b f p q)) (hb : b.length = 112) (hn : n < 112) (hs : s ≤ n) (x y : Int) (hx : kn a = x) (hy : kn d = y)
    (s' : Nat) (hs' : (if (decide (s = n) && (x == y) && (x != 0)) = true then s + 1 else s) = s') (z : Int) (hz : (if x = 0 then y else x) = z) (kz : Bool) (hk : (k || z == 0) = kz) (r : Int) (hr : (if kz = true then 0 else z) = r) (v' : Value) (hv : (if n = 111 then secondV o else firstV o) = v') (b' : List Int) (hb' : b.set n z = b') :
    Calls Tryz.prog 173 #[.pointer (some ⟨g, O, none⟩), .int .u8 a, .int .u8 d] w fun e w' => e = .returned (.int .u8 r) ∧ CIn w' g O T A Z (catL v' (n + 1 : Nat) s' kz b' f p q) ∧ But g w w' := by
  have c0 := h.ca.1
  have hlt := h.lt
  have hq := fun W => func_yes 119 #[.int .i64 o] W
  have HX := Lib.hid h
  have HC := Lib.hid (fun u (hu : CIn u g O T A Z (catL (firstV o) n s k b f p q)) => icount_is hu (a := x) (d := y) (by omega) (by omega) _ _ _ rfl rfl rfl)
  rw [hs'] at HC
  have HBD := Lib.hid (fun u (hu : CIn u g O T A Z (catL (firstV o) (n + 1 : Nat) s' k b f p q)) => ibody_is o x y hu hb hn z hz _ rfl kz hk v' hv b' hb')
  have HKA := Lib.hid hx
  have HKD := Lib.hid hy
  clear h hb hn hs hx hy hs' hz hk hv hb'
  rw [firstV] at c0
  cases kz
  all_goals
    obtain rfl := hr
    go_enter Tryz.func173, Tryz.ntmps173
    go_wp2_with (first
      | (go_at_call 174; (with_reducible refine (counted_any a _ x HKA.out).mono ?_); rintro e w1 ⟨rfl, b1⟩)
      | (go_at_call 174; (with_reducible refine (counted_any d _ y HKD.out).mono ?_); rintro e w2 ⟨rfl, b2⟩; have h2 := (HX.out.on b1).on b2)
      | (go_at_call 175; (with_reducible refine (HC.out _ h2).mono ?_); rintro e w3 ⟨rfl, h3, b3⟩; have c0 := h3.ca.1; rw [firstV] at c0; have hlt := h3.lt)
      | (go_at_call 119; (with_reducible refine (HBD.out _ h3).mono ?_); rintro e w4 ⟨rfl, h4, b4⟩; have c3 := h4.ca.2.2.2; have hlt := h4.lt))
    go_ret
    exact ⟨rfl, h4, ((But.grow (Nat.le_of_lt HX.out.lt) (below_then b1 b2)).trans b3).trans b4⟩
set_option maxRecDepth 100000 in
set_option maxHeartbeats 4000000 in
theorem istep_mid (o a d : Int) (h : CIn w g O T A Z (catL (secondV o) (112 : Nat) s k b Fr.zero false false)) (hb : b.length = 112) (hs : s ≤ 112) (x y : Int) (hx : kn a = x) (hy : kn d = y)
    (s' : Nat) (hs' : (if (decide (s = 112) && (x == y) && (x != 0)) = true then s + 1 else s) = s') (p' : Bool) (hp : (isB o b && decide (s' = 113) && (x == 2)) = p') (F : Fr) (hF : (if p' = true then getF (bytesP b) else Fr.zero) = F) (r : Int) (hr : (if k = true then 0 else tsy p') = r) :
    Calls Tryz.prog 173 #[.pointer (some ⟨g, O, none⟩), .int .u8 a, .int .u8 d] w fun e w' => e = .returned (.int .u8 r) ∧ CIn w' g O T A Z (catL (thirdV o) (113 : Nat) s' k b F p' false) ∧ But g w w' := by
  have c0 := h.ca.1
  have hlt := h.lt
  have hq := fun W => func_yes 133 #[.int .i64 o] W
  have HX := Lib.hid h
  have HC := Lib.hid (fun u (hu : CIn u g O T A Z (catL (secondV o) (112 : Nat) s k b Fr.zero false false)) => icount_is hu (a := x) (d := y) (by omega) (by omega) _ _ _ rfl rfl rfl)
  rw [hs'] at HC
  have HBD := Lib.hid (fun u (hu : CIn u g O T A Z (catL (secondV o) (112 + 1 : Nat) s' k b Fr.zero false false)) => iwhole3_is o x y hu hb _ _ _ rfl rfl rfl p' hp F hF)
  have HKA := Lib.hid hx
  have HKD := Lib.hid hy
  clear h hb hs hx hy hs' hp hF
  rw [secondV] at c0
  cases k
  all_goals
    obtain rfl := hr
    go_enter Tryz.func173, Tryz.ntmps173
    go_wp2_with (first
      | (go_at_call 174; (with_reducible refine (counted_any a _ x HKA.out).mono ?_); rintro e w1 ⟨rfl, b1⟩)
      | (go_at_call 174; (with_reducible refine (counted_any d _ y HKD.out).mono ?_); rintro e w2 ⟨rfl, b2⟩; have h2 := (HX.out.on b1).on b2)
      | (go_at_call 175; (with_reducible refine (HC.out _ h2).mono ?_); rintro e w3 ⟨rfl, h3, b3⟩; have c0 := h3.ca.1; rw [secondV] at c0; have hlt := h3.lt)
      | (go_at_call 133; (with_reducible refine (HBD.out _ h3).mono ?_); rintro e w4 ⟨rfl, h4, b4⟩; have c3 := h4.ca.2.2.2; have hlt := h4.lt))
    go_ret
    exact ⟨rfl, h4, ((But.grow (Nat.le_of_lt HX.out.lt) (below_then b1 b2)).trans b3).trans b4⟩
set_option maxRecDepth 100000 in
set_option maxHeartbeats 4000000 in
theorem istep_end (o a d : Int) (h : CIn w g O T A Z (catL (thirdV o) (113 : Nat) s k b f p false)) (hb : b.length = 112) (hs : s ≤ 113) (x y : Int) (hx : kn a = x) (hy : kn d = y)
    (s' : Nat) (hs' : (if (decide (s = 113) && (x == y) && (x != 0)) = true then s + 1 else s) = s') (q' : Bool) (hq' : (!p || !decide (s' = 114) || (x != 1)) = q') (r : Int) (hr : (if k = true then 0 else tsy q') = r) :
    Calls Tryz.prog 173 #[.pointer (some ⟨g, O, none⟩), .int .u8 a, .int .u8 d] w fun e w' => e = .returned (.int .u8 r) ∧ CIn w' g O T A Z (catL .nilFunc (114 : Nat) s' k b f p q') ∧ But g w w' := by
  have c0 := h.ca.1
  have hlt := h.lt
  have hq := fun W => func_yes 141 #[.int .i64 o] W
  have HX := Lib.hid h
  have HC := Lib.hid (fun u (hu : CIn u g O T A Z (catL (thirdV o) (113 : Nat) s k b f p false)) => icount_is hu (a := x) (d := y) (by omega) (by omega) _ _ _ rfl rfl rfl)
  rw [hs'] at HC
  have HBD := Lib.hid (fun u (hu : CIn u g O T A Z (catL (thirdV o) (113 + 1 : Nat) s' k b f p false)) => iunlike3_is o x y hu hb _ _ rfl rfl q' hq')
  have HKA := Lib.hid hx
  have HKD := Lib.hid hy
  clear h hb hs hx hy hs' hq'
  rw [thirdV] at c0
  cases k
  all_goals
    obtain rfl := hr
    go_enter Tryz.func173, Tryz.ntmps173
    go_wp2_with (first
      | (go_at_call 174; (with_reducible refine (counted_any a _ x HKA.out).mono ?_); rintro e w1 ⟨rfl, b1⟩)
      | (go_at_call 174; (with_reducible refine (counted_any d _ y HKD.out).mono ?_); rintro e w2 ⟨rfl, b2⟩; have h2 := (HX.out.on b1).on b2)
      | (go_at_call 175; (with_reducible refine (HC.out _ h2).mono ?_); rintro e w3 ⟨rfl, h3, b3⟩; have c0 := h3.ca.1; rw [thirdV] at c0; have hlt := h3.lt)
      | (go_at_call 141; (with_reducible refine (HBD.out _ h3).mono ?_); rintro e w4 ⟨rfl, h4, b4⟩; have c3 := h4.ca.2.2.2; have hlt := h4.lt))
    go_ret
    exact ⟨rfl, h4, ((But.grow (Nat.le_of_lt HX.out.lt) (below_then b1 b2)).trans b3).trans b4⟩
end
/-- A catch that has had n pairs, inside a block. -/
def CatI (w : World) (g O : Nat) (T : TypeId) (A Z : List Value) (x y : Nat → Int) (o : Int) (n : Nat) : Prop := CIn w g O T A Z (catS x y o n)
section
variable {g O n : Nat} {T : TypeId} {A Z : List Value} {x y : Nat → Int} {o : Int} {w w' : World}
theorem CatI.on (h : CatI w g O T A Z x y o n) (hb : Below w.heap.size w w') : CatI w' g O T A Z x y o n := CIn.on h hb
theorem CatI.lt (h : CatI w g O T A Z x y o n) : g < w.heap.size := CIn.lt h
/-- Step: the next pair. -/
theorem iStep (a d : Int) (h : CatI w g O T A Z x y o n) (hn : n < 114) (hx : kn a = x n) (hy : kn d = y n) (r : Int) (hr : outC x y o n = r) :
    Calls Tryz.prog 173 #[.pointer (some ⟨g, O, none⟩), .int .u8 a, .int .u8 d] w fun e w' => e = .returned (.int .u8 r) ∧ CatI w' g O T A Z x y o (n + 1) ∧ But g w w' := by
  have hsl := sameF_le (x := x) (y := y) n
  have hsame : ∀ m, n = m → (if (decide (sameF x y n = m) && (x n == y n) && (x n != 0)) = true then sameF x y n + 1 else sameF x y n) = sameF x y (n + 1) := by
    rintro m rfl
    rw [sameF_succ]
    by_cases e : sameF x y n = n
    · rw [e]
      cases ha : al x y n
      · rw [al] at ha
        simp [ha]
      · rw [al] at ha
        simp [ha]
    · simp [e]
  rcases Nat.lt_or_ge n 112 with h1 | h1
  · have hc : (cutF x y n || bo x y n == 0) = cutF x y (n + 1) := by simp only [cutF, decide_eq_true h1, Bool.true_and]
    have h' : CIn w g O T A Z (catL (firstV o) n (sameF x y n) (cutF x y n) (bodyF x y n) (frF x y o n) (decide (113 ≤ n) && wholeC x y o) (decide (114 ≤ n) && !highC x y o)) := by
      have := h
      unfold CatI catS nextV at this
      rw [if_pos h1] at this
      exact this
    have e2 : catL (if n = 111 then secondV o else firstV o) (n + 1 : Nat) (sameF x y (n + 1)) (cutF x y (n + 1)) (bodyF x y (n + 1)) (frF x y o n) (decide (113 ≤ n) && wholeC x y o) (decide (114 ≤ n) && !highC x y o) = catS x y o (n + 1) := by
      unfold catS nextV frF
      simp only [decide_eq_false (show ¬ 113 ≤ n by omega), decide_eq_false (show ¬ 114 ≤ n by omega), decide_eq_false (show ¬ 113 ≤ n + 1 by omega), decide_eq_false (show ¬ 114 ≤ n + 1 by omega), Bool.false_and]
      by_cases e : n = 111
      · subst e; rfl
      · rw [if_neg e, if_pos (show n + 1 < 112 by omega)]
    have := istep_low o a d h' (bodyF_length n) h1 hsl (x n) (y n) hx hy _ (hsame n rfl) (bo x y n) rfl _ hc r (by
      rw [← hr]
      unfold outC
      by_cases e : cutF x y (n + 1) = true
      · rw [if_pos e, if_pos e]
      · rw [if_neg e, if_neg e, if_pos h1]) _ rfl _ (bodyF_set n)
    rw [e2] at this
    exact this
  · have hcut : cutF x y (n + 1) = cutF x y n := by simp [cutF, Nat.not_lt.2 h1]
    rcases Nat.lt_or_ge n 113 with h2 | h2
    · obtain rfl : n = 112 := by omega
      have hw : (isB o (bodyW x y) && decide (sameF x y 113 = 113) && (x 112 == 2)) = wholeC x y o := by
        unfold wholeC
        cases isB o (bodyW x y) <;> simp
      have hc : cutF x y 113 = cutF x y 112 := hcut
      have h' : CIn w g O T A Z (catL (secondV o) (112 : Nat) (sameF x y 112) (cutF x y 112) (bodyW x y) Fr.zero false false) := by
        rw [← catS_112]; exact h
      have := istep_mid o a d h' bodyW_length hsl (x 112) (y 112) hx hy _ (hsame 112 rfl) _ hw _ rfl r (by rw [← hr, outC_112, hc])
      rw [← frF_113, ← hc, ← catS_113] at this
      exact this
    · obtain rfl : n = 113 := by omega
      have hw : (!wholeC x y o || !decide (sameF x y 114 = 114) || (x 113 != 1)) = !highC x y o := by
        unfold highC
        cases wholeC x y o <;> cases decide (sameF x y 114 = 114) <;> simp [bne]
      have hc : cutF x y 114 = cutF x y 113 := hcut
      have h' : CIn w g O T A Z (catL (thirdV o) (113 : Nat) (sameF x y 113) (cutF x y 113) (bodyW x y) (frF x y o 113) (wholeC x y o) false) := by
        rw [← catS_113]; exact h
      have := istep_end o a d h' bodyW_length hsl (x 113) (y 113) hx hy _ (hsame 113 rfl) _ hw r (by rw [← hr, outC_113, hc])
      rw [← hc, ← catS_114] at this
      exact this
/-- A catch that has had all. -/
theorem iDone (a d : Int) (h : CatI w g O T A Z x y o 114) : Calls Tryz.prog 173 #[.pointer (some ⟨g, O, none⟩), .int .u8 a, .int .u8 d] w fun e w' => e = .returned (.int .u8 0) ∧ w = w' := by
  unfold CatI at h
  rw [catS_114] at h
  exact istep_none a d h
end
end Go.Proofs.YtkejpkcaojidaaaGreatDoor

