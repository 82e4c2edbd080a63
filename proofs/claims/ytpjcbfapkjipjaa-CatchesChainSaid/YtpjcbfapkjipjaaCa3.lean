/-
  The contracts of a catch's tail (whole, unlike) and of Step, by what the catch's block holds, and by what the catch has had ('Cat'); of New, Had, High, Unlike by what it has had. Conditions: the catch's reading.
-/
import Derived.Test.YtpjcbfapkjipjaaCa1
namespace Go.Proofs.Ytpjcbfapkjipjaa
open Go.RowKit Crc
set_option linter.unusedVariables false

section
variable {g : Nat} {v : Value} {n s : Nat} {k : Bool} {b : List Int} {f : Fr} {p q : Bool} {w : World}
theorem Blk.bodyLies (h : Blk w g 57 (catL v n s k b f p q).toArray) (hb : b.length = 112) : Lies .u8 w w.heap.size (some ⟨g, 4, none⟩) 112 b :=
  ⟨hb, fun _ => ⟨g, 4, rfl, h.lt, fun j hj => h.cb hb hj⟩⟩
theorem sliceBody (g : Nat) (w : World) : (Instr.sliceAt 53 (.pointer (some ⟨g, 4, none⟩)) none none none).run Try.prog w = .ok (.slice (some ⟨g, 4, none⟩) 112 112) w := by kernel_rfl
set_option maxRecDepth 100000 in
set_option maxHeartbeats 4000000 in
theorem unlike3_is (o a d : Int) (h : Blk w g 57 (catL v n s k b f p false).toArray) (hb : b.length = 112) (r1 r2 : Bool) (h1 : decide (s = n) = r1) (h2 : (a != 1) = r2) (q' : Bool) (hq : (!p || !r1 || r2) = q') :
    Calls Try.prog 51 #[.int .i64 o, .pointer (some ⟨g, 0, none⟩), .int .u8 a, .int .u8 d] w fun e w' => e = .returned (.int .u8 (tsy q')) ∧ Blk w' g 57 (catL .nilFunc n s k b f p q').toArray ∧ But g w w' := by
  have hlt := h.lt
  obtain ⟨d0, d1, d2, d3, d4, d5, d6⟩ := h.cf_ hb
  have HB := Lib.hid hb
  have HX := Lib.hid h
  have HR := Lib.hid h1
  have hst := fun W A => store_nilf W A
  clear d0 d1 d2 d3 d4 h1 hb
  have f0 := h.frozen 0
  have f1 := h.frozen 122
  have c0 := h.ca.1
  have HA := Lib.hid (show ∀ u, Below w.heap.size w u → Blk ((u.setCell ⟨g, 122, none⟩ (.bool q')).setCell ⟨g, 0, none⟩ .nilFunc) g 57 (catL .nilFunc n s k b f p q').toArray ∧ But g w ((u.setCell ⟨g, 122, none⟩ (.bool q')).setCell ⟨g, 0, none⟩ .nilFunc) from fun u hu => by
    have := ((h.on hu).set_ 122 (.bool q')).set_ 0 .nilFunc
    simp only [List.setIfInBounds_toArray, catL_setQ HB.out, catL_set0] at this
    exact ⟨this, ((But.grow (Nat.le_of_lt h.lt) hu).set _ _).set _ _⟩)
  clear h
  have b1 := Below.refl w.heap.size w
  cases p <;> cases r1 <;> cases r2
  all_goals
    obtain rfl := hq
    go_enter Try.func51, Try.ntmps51
    go_wp2_with (first
      | (go_at_call 34; (with_reducible refine (allSame_is HX.out _ HR.out).mono ?_); rintro e w1 ⟨rfl, b1⟩; have h1 := HX.out.on b1; have f0 := h1.frozen 0; have f1 := h1.frozen 122; have c0 := h1.ca.1; obtain ⟨e0, e1, e2, e3, e4, d5, d6⟩ := h1.cf_ HB.out; have hlt := h1.lt)
      | (go_at_call 49; (with_reducible refine (tsyms_any _ _ _).mono ?_); rintro e w2 ⟨g2, rfl, hg2, hB2, b2⟩; have t0 := hB2.cell 0; have t1 := hB2.cell 1; have hlt2 := hB2.lt; rw [cellsOf_at _ _ _ (show 1 < 2 by decide)] at t1))
    go_ret
    obtain ⟨q1, q2⟩ := HA.out _ b1
    exact ⟨rfl, q1.on b2, q2.on HX.out.lt b2⟩
set_option maxRecDepth 100000 in
set_option maxHeartbeats 4000000 in
theorem whole3_is (o a d : Int) (h : Blk w g 57 (catL v n s k b Fr.zero false false).toArray) (hb : b.length = 112) (r0 r1 r2 : Bool) (h0 : isB o b = r0) (h1 : decide (s = n) = r1) (h2 : (a == 2) = r2) (p' : Bool) (hp : (r0 && r1 && r2) = p') (F : Fr) (hF : (if p' = true then getF (bytesP b) else Fr.zero) = F) :
    Calls Try.prog 41 #[.int .i64 o, .pointer (some ⟨g, 0, none⟩), .int .u8 a, .int .u8 d] w fun e w' => e = .returned (.int .u8 (tsy p')) ∧ Blk w' g 57 (catL (thirdV o) n s k b F p' false).toArray ∧ But g w w' := by
  have HB := Lib.hid hb
  have HX := Lib.hid h
  have HR := Lib.hid h1
  have HRD := Lib.hid (read_is o (some ⟨g, 4, none⟩) 112 b w (h.bodyLies hb) r0 h0 _ rfl)
  obtain ⟨G, hG⟩ : ∃ G, (if r0 = true then getF (bytesP b) else Fr.zero) = G := ⟨_, rfl⟩
  rw [hG] at HRD
  have hst := fun W A => store_func 51 #[.int .i64 o] W A
  have hsl := fun W => sliceBody g W
  have HA := Lib.hid (show ∀ u, Below w.heap.size w u → Blk (u.setCell ⟨g, 0, none⟩ (thirdV o)) g 57 (catL (thirdV o) n s k b Fr.zero false false).toArray ∧ But g w (u.setCell ⟨g, 0, none⟩ (thirdV o)) from fun u hu => by
    have := (h.on hu).set_ 0 (thirdV o)
    simp only [List.setIfInBounds_toArray, catL_set0] at this
    exact ⟨this, ((But.grow (Nat.le_of_lt h.lt) hu).set _ _)⟩)
  have HA2 := Lib.hid (show ∀ u, Below w.heap.size w u → Blk (((((((u.setCell ⟨g, 116, none⟩ (.int .i64 G.o)).setCell ⟨g, 117, none⟩ (.int .u8 G.k)).setCell ⟨g, 118, none⟩ (.int .u8 G.s)).setCell ⟨g, 119, none⟩ (.int .u32 G.q)).setCell ⟨g, 120, none⟩ (.int .u32 G.v)).setCell ⟨g, 121, none⟩ (.bool true)).setCell ⟨g, 0, none⟩ (thirdV o)) g 57 (catL (thirdV o) n s k b G true false).toArray ∧ But g w (((((((u.setCell ⟨g, 116, none⟩ (.int .i64 G.o)).setCell ⟨g, 117, none⟩ (.int .u8 G.k)).setCell ⟨g, 118, none⟩ (.int .u8 G.s)).setCell ⟨g, 119, none⟩ (.int .u32 G.q)).setCell ⟨g, 120, none⟩ (.int .u32 G.v)).setCell ⟨g, 121, none⟩ (.bool true)).setCell ⟨g, 0, none⟩ (thirdV o)) from fun u hu => by
    have := (((((((h.on hu).set_ 116 (.int .i64 G.o)).set_ 117 (.int .u8 G.k)).set_ 118 (.int .u8 G.s)).set_ 119 (.int .u32 G.q)).set_ 120 (.int .u32 G.v)).set_ 121 (.bool true)).set_ 0 (thirdV o)
    simp only [List.setIfInBounds_toArray, catL_setF HB.out, catL_setP HB.out, catL_set0] at this
    exact ⟨this, (((((((But.grow (Nat.le_of_lt h.lt) hu).set _ _).set _ _).set _ _).set _ _).set _ _).set _ _).set _ _⟩)
  clear h0 h1 hb h
  cases r0
  · cases r1 <;> cases r2
    all_goals
      obtain rfl := hp
      simp at hF
      first | (rw [if_pos rfl] at hG; rw [hG] at hF) | skip
      clear hG
      subst hF
      go_enter Try.func41, Try.ntmps41
      go_wp2_with (first
        | (go_at_call 50; (with_reducible refine HRD.out.mono ?_); rintro e w1 ⟨rfl, b1⟩; have hN := Blk.new w1 42 #[.int .i64 G.o, .int .u8 G.k, .int .u8 G.s, .int .u32 G.q, .int .u32 G.v]; have h1 := (HX.out.on b1).alloc (.cells #[.int .i64 G.o, .int .u8 G.k, .int .u8 G.s, .int .u32 G.q, .int .u32 G.v] 42); have b1 := below_al b1 (.cells #[.int .i64 G.o, .int .u8 G.k, .int .u8 G.s, .int .u32 G.q, .int .u32 G.v] 42); have f0 := h1.frozen 0; have c0 := h1.ca.1; obtain ⟨e0, e1, e2, e3, e4, d5, d6⟩ := h1.cf_ HB.out; have hlt := h1.lt)
        | (go_at_call 34; (with_reducible refine (allSame_is h1 _ HR.out).mono ?_); rintro e w2 ⟨rfl, b2⟩; have b1 := below_then b1 b2; have h1 := h1.on b2; have f0 := h1.frozen 0; have c0 := h1.ca.1; obtain ⟨e0, e1, e2, e3, e4, d5, d6⟩ := h1.cf_ HB.out; have hlt := h1.lt; have f1 := h1.frozen 116; have f2 := h1.frozen 117; have f3 := h1.frozen 118; have f4 := h1.frozen 119; have f5 := h1.frozen 120; have f6 := h1.frozen 121; have hN1 := hN.on b2; have hlt1 := hN1.lt; have x0 := hN1.cell 0; have x1 := hN1.cell 1; have x2 := hN1.cell 2; have x3 := hN1.cell 3; have x4 := hN1.cell 4; have y0 := hN1.frozen 0; have y1 := hN1.frozen 1; have y2 := hN1.frozen 2; have y3 := hN1.frozen 3; have y4 := hN1.frozen 4; simp only [List.getElem?_toArray, List.getElem?_cons_zero, List.getElem?_cons_succ] at x0 x1 x2 x3 x4)
        | (go_at_call 49; (with_reducible refine (tsyms_any _ _ _).mono ?_); rintro e w3 ⟨g2, rfl, hg2, hB2, b3⟩; have t0 := hB2.cell 0; have hlt2 := hB2.lt; rw [cellsOf_at _ _ _ (show 0 < 2 by decide)] at t0))
      go_ret
      obtain ⟨q1, q2⟩ := HA.out _ b1
      exact ⟨rfl, q1.on b3, q2.on HX.out.lt b3⟩
  · cases r1
    · cases r2
      all_goals
        obtain rfl := hp
        simp at hF
        first | (rw [if_pos rfl] at hG; rw [hG] at hF) | skip
        clear hG
        subst hF
        go_enter Try.func41, Try.ntmps41
        go_wp2_with (first
          | (go_at_call 50; (with_reducible refine HRD.out.mono ?_); rintro e w1 ⟨rfl, b1⟩; have hN := Blk.new w1 42 #[.int .i64 G.o, .int .u8 G.k, .int .u8 G.s, .int .u32 G.q, .int .u32 G.v]; have h1 := (HX.out.on b1).alloc (.cells #[.int .i64 G.o, .int .u8 G.k, .int .u8 G.s, .int .u32 G.q, .int .u32 G.v] 42); have b1 := below_al b1 (.cells #[.int .i64 G.o, .int .u8 G.k, .int .u8 G.s, .int .u32 G.q, .int .u32 G.v] 42); have f0 := h1.frozen 0; have c0 := h1.ca.1; obtain ⟨e0, e1, e2, e3, e4, d5, d6⟩ := h1.cf_ HB.out; have hlt := h1.lt)
          | (go_at_call 34; (with_reducible refine (allSame_is h1 _ HR.out).mono ?_); rintro e w2 ⟨rfl, b2⟩; have b1 := below_then b1 b2; have h1 := h1.on b2; have f0 := h1.frozen 0; have c0 := h1.ca.1; obtain ⟨e0, e1, e2, e3, e4, d5, d6⟩ := h1.cf_ HB.out; have hlt := h1.lt; have f1 := h1.frozen 116; have f2 := h1.frozen 117; have f3 := h1.frozen 118; have f4 := h1.frozen 119; have f5 := h1.frozen 120; have f6 := h1.frozen 121; have hN1 := hN.on b2; have hlt1 := hN1.lt; have x0 := hN1.cell 0; have x1 := hN1.cell 1; have x2 := hN1.cell 2; have x3 := hN1.cell 3; have x4 := hN1.cell 4; have y0 := hN1.frozen 0; have y1 := hN1.frozen 1; have y2 := hN1.frozen 2; have y3 := hN1.frozen 3; have y4 := hN1.frozen 4; simp only [List.getElem?_toArray, List.getElem?_cons_zero, List.getElem?_cons_succ] at x0 x1 x2 x3 x4)
          | (go_at_call 49; (with_reducible refine (tsyms_any _ _ _).mono ?_); rintro e w3 ⟨g2, rfl, hg2, hB2, b3⟩; have t0 := hB2.cell 0; have hlt2 := hB2.lt; rw [cellsOf_at _ _ _ (show 0 < 2 by decide)] at t0))
        go_ret
        obtain ⟨q1, q2⟩ := HA.out _ b1
        exact ⟨rfl, q1.on b3, q2.on HX.out.lt b3⟩
    · cases r2
      · skip
        obtain rfl := hp
        simp at hF
        first | (rw [if_pos rfl] at hG; rw [hG] at hF) | skip
        clear hG
        subst hF
        go_enter Try.func41, Try.ntmps41
        go_wp2_with (first
          | (go_at_call 50; (with_reducible refine HRD.out.mono ?_); rintro e w1 ⟨rfl, b1⟩; have hN := Blk.new w1 42 #[.int .i64 G.o, .int .u8 G.k, .int .u8 G.s, .int .u32 G.q, .int .u32 G.v]; have h1 := (HX.out.on b1).alloc (.cells #[.int .i64 G.o, .int .u8 G.k, .int .u8 G.s, .int .u32 G.q, .int .u32 G.v] 42); have b1 := below_al b1 (.cells #[.int .i64 G.o, .int .u8 G.k, .int .u8 G.s, .int .u32 G.q, .int .u32 G.v] 42); have f0 := h1.frozen 0; have c0 := h1.ca.1; obtain ⟨e0, e1, e2, e3, e4, d5, d6⟩ := h1.cf_ HB.out; have hlt := h1.lt)
          | (go_at_call 34; (with_reducible refine (allSame_is h1 _ HR.out).mono ?_); rintro e w2 ⟨rfl, b2⟩; have b1 := below_then b1 b2; have h1 := h1.on b2; have f0 := h1.frozen 0; have c0 := h1.ca.1; obtain ⟨e0, e1, e2, e3, e4, d5, d6⟩ := h1.cf_ HB.out; have hlt := h1.lt; have f1 := h1.frozen 116; have f2 := h1.frozen 117; have f3 := h1.frozen 118; have f4 := h1.frozen 119; have f5 := h1.frozen 120; have f6 := h1.frozen 121; have hN1 := hN.on b2; have hlt1 := hN1.lt; have x0 := hN1.cell 0; have x1 := hN1.cell 1; have x2 := hN1.cell 2; have x3 := hN1.cell 3; have x4 := hN1.cell 4; have y0 := hN1.frozen 0; have y1 := hN1.frozen 1; have y2 := hN1.frozen 2; have y3 := hN1.frozen 3; have y4 := hN1.frozen 4; simp only [List.getElem?_toArray, List.getElem?_cons_zero, List.getElem?_cons_succ] at x0 x1 x2 x3 x4)
          | (go_at_call 49; (with_reducible refine (tsyms_any _ _ _).mono ?_); rintro e w3 ⟨g2, rfl, hg2, hB2, b3⟩; have t0 := hB2.cell 0; have hlt2 := hB2.lt; rw [cellsOf_at _ _ _ (show 0 < 2 by decide)] at t0))
        go_ret
        obtain ⟨q1, q2⟩ := HA.out _ b1
        exact ⟨rfl, q1.on b3, q2.on HX.out.lt b3⟩
      · skip
        obtain rfl := hp
        simp at hF
        first | (rw [if_pos rfl] at hG; rw [hG] at hF) | skip
        clear hG
        subst hF
        go_enter Try.func41, Try.ntmps41
        go_wp2_with (first
          | (go_at_call 50; (with_reducible refine HRD.out.mono ?_); rintro e w1 ⟨rfl, b1⟩; have hN := Blk.new w1 42 #[.int .i64 G.o, .int .u8 G.k, .int .u8 G.s, .int .u32 G.q, .int .u32 G.v]; have h1 := (HX.out.on b1).alloc (.cells #[.int .i64 G.o, .int .u8 G.k, .int .u8 G.s, .int .u32 G.q, .int .u32 G.v] 42); have b1 := below_al b1 (.cells #[.int .i64 G.o, .int .u8 G.k, .int .u8 G.s, .int .u32 G.q, .int .u32 G.v] 42); have f0 := h1.frozen 0; have c0 := h1.ca.1; obtain ⟨e0, e1, e2, e3, e4, d5, d6⟩ := h1.cf_ HB.out; have hlt := h1.lt)
          | (go_at_call 34; (with_reducible refine (allSame_is h1 _ HR.out).mono ?_); rintro e w2 ⟨rfl, b2⟩; have b1 := below_then b1 b2; have h1 := h1.on b2; have f0 := h1.frozen 0; have c0 := h1.ca.1; obtain ⟨e0, e1, e2, e3, e4, d5, d6⟩ := h1.cf_ HB.out; have hlt := h1.lt; have f1 := h1.frozen 116; have f2 := h1.frozen 117; have f3 := h1.frozen 118; have f4 := h1.frozen 119; have f5 := h1.frozen 120; have f6 := h1.frozen 121; have hN1 := hN.on b2; have hlt1 := hN1.lt; have x0 := hN1.cell 0; have x1 := hN1.cell 1; have x2 := hN1.cell 2; have x3 := hN1.cell 3; have x4 := hN1.cell 4; have y0 := hN1.frozen 0; have y1 := hN1.frozen 1; have y2 := hN1.frozen 2; have y3 := hN1.frozen 3; have y4 := hN1.frozen 4; simp only [List.getElem?_toArray, List.getElem?_cons_zero, List.getElem?_cons_succ] at x0 x1 x2 x3 x4)
          | (go_at_call 49; (with_reducible refine (tsyms_any _ _ _).mono ?_); rintro e w3 ⟨g2, rfl, hg2, hB2, b3⟩; have t0 := hB2.cell 0; have hlt2 := hB2.lt; rw [cellsOf_at _ _ _ (show 0 < 2 by decide)] at t0))
        go_ret
        obtain ⟨q1, q2⟩ := HA2.out _ b1
        exact ⟨rfl, q1.on b3, q2.on HX.out.lt b3⟩
end

section
variable {g : Nat} {v : Value} {n s : Nat} {k : Bool} {b : List Int} {f : Fr} {p q : Bool} {w : World}
set_option maxRecDepth 100000 in
set_option maxHeartbeats 4000000 in
theorem step_low (o a d : Int) (h : Blk w g 57 (catL (firstV o) n s k b f p q).toArray) (hb : b.length = 112) (hn : n < 112) (hs : s ≤ n) (x y : Int) (hx : kn a = x) (hy : kn d = y)
    (s' : Nat) (hs' : (if (decide (s = n) && (x == y) && (x != 0)) = true then s + 1 else s) = s') (z : Int) (hz : (if x = 0 then y else x) = z) (kz : Bool) (hk : (k || z == 0) = kz) (r : Int) (hr : (if kz = true then 0 else z) = r) (v' : Value) (hv : (if n = 111 then secondV o else firstV o) = v') (b' : List Int) (hb' : b.set n z = b') :
    Calls Try.prog 12 #[.pointer (some ⟨g, 0, none⟩), .int .u8 a, .int .u8 d] w fun e w' => e = .returned (.int .u8 r) ∧ Blk w' g 57 (catL v' (n + 1 : Nat) s' kz b' f p q).toArray ∧ But g w w' := by
  have c0 := h.ca.1
  have hlt := h.lt
  have hq := fun W => func_yes 26 #[.int .i64 o] W
  have HX := Lib.hid h
  have HC := Lib.hid (fun u (hu : Blk u g 57 (catL (firstV o) n s k b f p q).toArray) => count_is hu (a := x) (d := y) (by omega) (by omega) _ _ _ rfl rfl rfl)
  rw [hs'] at HC
  have HBD := Lib.hid (fun u (hu : Blk u g 57 (catL (firstV o) (n + 1 : Nat) s' k b f p q).toArray) => body_is o x y hu hb hn z hz _ rfl kz hk v' hv b' hb')
  have HKA := Lib.hid hx
  have HKD := Lib.hid hy
  clear h hb hn hs hx hy hs' hz hk hv hb'
  rw [firstV] at c0
  cases kz
  all_goals
    obtain rfl := hr
    go_enter Try.func12, Try.ntmps12
    go_wp2_with (first
      | (go_at_call 27; (with_reducible refine (counted_any a _ x HKA.out).mono ?_); rintro e w1 ⟨rfl, b1⟩)
      | (go_at_call 27; (with_reducible refine (counted_any d _ y HKD.out).mono ?_); rintro e w2 ⟨rfl, b2⟩; have h2 := (HX.out.on b1).on b2)
      | (go_at_call 28; (with_reducible refine (HC.out _ h2).mono ?_); rintro e w3 ⟨rfl, h3, b3⟩; have c0 := h3.ca.1; rw [firstV] at c0; have hlt := h3.lt)
      | (go_at_call 26; (with_reducible refine (HBD.out _ h3).mono ?_); rintro e w4 ⟨rfl, h4, b4⟩; have c3 := h4.ca.2.2.2; have hlt := h4.lt))
    go_ret
    exact ⟨rfl, h4, ((But.grow (Nat.le_of_lt HX.out.lt) (below_then b1 b2)).trans b3).trans b4⟩
set_option maxRecDepth 100000 in
set_option maxHeartbeats 4000000 in
theorem step_mid (o a d : Int) (h : Blk w g 57 (catL (secondV o) (112 : Nat) s k b Fr.zero false false).toArray) (hb : b.length = 112) (hs : s ≤ 112) (x y : Int) (hx : kn a = x) (hy : kn d = y)
    (s' : Nat) (hs' : (if (decide (s = 112) && (x == y) && (x != 0)) = true then s + 1 else s) = s') (p' : Bool) (hp : (isB o b && decide (s' = 113) && (x == 2)) = p') (F : Fr) (hF : (if p' = true then getF (bytesP b) else Fr.zero) = F) (r : Int) (hr : (if k = true then 0 else tsy p') = r) :
    Calls Try.prog 12 #[.pointer (some ⟨g, 0, none⟩), .int .u8 a, .int .u8 d] w fun e w' => e = .returned (.int .u8 r) ∧ Blk w' g 57 (catL (thirdV o) (113 : Nat) s' k b F p' false).toArray ∧ But g w w' := by
  have c0 := h.ca.1
  have hlt := h.lt
  have hq := fun W => func_yes 41 #[.int .i64 o] W
  have HX := Lib.hid h
  have HC := Lib.hid (fun u (hu : Blk u g 57 (catL (secondV o) (112 : Nat) s k b Fr.zero false false).toArray) => count_is hu (a := x) (d := y) (by omega) (by omega) _ _ _ rfl rfl rfl)
  rw [hs'] at HC
  have HBD := Lib.hid (fun u (hu : Blk u g 57 (catL (secondV o) (112 + 1 : Nat) s' k b Fr.zero false false).toArray) => whole3_is o x y hu hb _ _ _ rfl rfl rfl p' hp F hF)
  have HKA := Lib.hid hx
  have HKD := Lib.hid hy
  clear h hb hs hx hy hs' hp hF
  rw [secondV] at c0
  cases k
  all_goals
    obtain rfl := hr
    go_enter Try.func12, Try.ntmps12
    go_wp2_with (first
      | (go_at_call 27; (with_reducible refine (counted_any a _ x HKA.out).mono ?_); rintro e w1 ⟨rfl, b1⟩)
      | (go_at_call 27; (with_reducible refine (counted_any d _ y HKD.out).mono ?_); rintro e w2 ⟨rfl, b2⟩; have h2 := (HX.out.on b1).on b2)
      | (go_at_call 28; (with_reducible refine (HC.out _ h2).mono ?_); rintro e w3 ⟨rfl, h3, b3⟩; have c0 := h3.ca.1; rw [secondV] at c0; have hlt := h3.lt)
      | (go_at_call 41; (with_reducible refine (HBD.out _ h3).mono ?_); rintro e w4 ⟨rfl, h4, b4⟩; have c3 := h4.ca.2.2.2; have hlt := h4.lt))
    go_ret
    exact ⟨rfl, h4, ((But.grow (Nat.le_of_lt HX.out.lt) (below_then b1 b2)).trans b3).trans b4⟩
set_option maxRecDepth 100000 in
set_option maxHeartbeats 4000000 in
theorem step_end (o a d : Int) (h : Blk w g 57 (catL (thirdV o) (113 : Nat) s k b f p false).toArray) (hb : b.length = 112) (hs : s ≤ 113) (x y : Int) (hx : kn a = x) (hy : kn d = y)
    (s' : Nat) (hs' : (if (decide (s = 113) && (x == y) && (x != 0)) = true then s + 1 else s) = s') (q' : Bool) (hq' : (!p || !decide (s' = 114) || (x != 1)) = q') (r : Int) (hr : (if k = true then 0 else tsy q') = r) :
    Calls Try.prog 12 #[.pointer (some ⟨g, 0, none⟩), .int .u8 a, .int .u8 d] w fun e w' => e = .returned (.int .u8 r) ∧ Blk w' g 57 (catL .nilFunc (114 : Nat) s' k b f p q').toArray ∧ But g w w' := by
  have c0 := h.ca.1
  have hlt := h.lt
  have hq := fun W => func_yes 51 #[.int .i64 o] W
  have HX := Lib.hid h
  have HC := Lib.hid (fun u (hu : Blk u g 57 (catL (thirdV o) (113 : Nat) s k b f p false).toArray) => count_is hu (a := x) (d := y) (by omega) (by omega) _ _ _ rfl rfl rfl)
  rw [hs'] at HC
  have HBD := Lib.hid (fun u (hu : Blk u g 57 (catL (thirdV o) (113 + 1 : Nat) s' k b f p false).toArray) => unlike3_is o x y hu hb _ _ rfl rfl q' hq')
  have HKA := Lib.hid hx
  have HKD := Lib.hid hy
  clear h hb hs hx hy hs' hq'
  rw [thirdV] at c0
  cases k
  all_goals
    obtain rfl := hr
    go_enter Try.func12, Try.ntmps12
    go_wp2_with (first
      | (go_at_call 27; (with_reducible refine (counted_any a _ x HKA.out).mono ?_); rintro e w1 ⟨rfl, b1⟩)
      | (go_at_call 27; (with_reducible refine (counted_any d _ y HKD.out).mono ?_); rintro e w2 ⟨rfl, b2⟩; have h2 := (HX.out.on b1).on b2)
      | (go_at_call 28; (with_reducible refine (HC.out _ h2).mono ?_); rintro e w3 ⟨rfl, h3, b3⟩; have c0 := h3.ca.1; rw [thirdV] at c0; have hlt := h3.lt)
      | (go_at_call 51; (with_reducible refine (HBD.out _ h3).mono ?_); rintro e w4 ⟨rfl, h4, b4⟩; have c3 := h4.ca.2.2.2; have hlt := h4.lt))
    go_ret
    exact ⟨rfl, h4, ((But.grow (Nat.le_of_lt HX.out.lt) (below_then b1 b2)).trans b3).trans b4⟩
end
/-- Who takes the next pair, behind n. -/
def nextV (o : Int) (n : Nat) : Value := if n < 112 then firstV o else if n = 112 then secondV o else if n = 113 then thirdV o else .nilFunc
def catS (x y : Nat → Int) (o : Int) (n : Nat) : List Value := catL (nextV o n) n (sameF x y n) (cutF x y n) (bodyF x y n) (frF x y o n) (decide (113 ≤ n) && wholeC x y o) (decide (114 ≤ n) && !highC x y o)
/-- A catch in its block, that has had n pairs. -/
def Cat (w : World) (g : Nat) (x y : Nat → Int) (o : Int) (n : Nat) : Prop := Blk w g 57 (catS x y o n).toArray
/-- Is it high, behind n; of which frame? -/
def hiB (x y : Nat → Int) (o : Int) (n : Nat) : Bool := decide (114 ≤ n) && highC x y o
def hiF (x y : Nat → Int) (o : Int) (n : Nat) : Fr := if hiB x y o n = true then getF (bytesP (bodyW x y)) else Fr.zero
theorem catS_zero (x y : Nat → Int) (o : Int) : catS x y o 0 = catZ (firstV o) := by
  simp only [catS, catZ, nextV, sameF, cutF, bodyF_none, frF]
  rfl
section
variable {g n : Nat} {x y : Nat → Int} {o : Int} {w w' : World}
theorem Cat.on (h : Cat w g x y o n) (hb : Below w.heap.size w w') : Cat w' g x y o n := Blk.on h hb
theorem Cat.lt (h : Cat w g x y o n) : g < w.heap.size := Blk.lt h
theorem cNew (x y : Nat → Int) (o : Int) (w : World) (h0 : 0 ≤ o) (h1 : o < 8) : Calls Try.prog 9 #[.int .i64 o] w fun e w' => e = .returned (.tuple #[.pointer (some ⟨w.heap.size, 0, none⟩), .int .i64 0]) ∧ Cat w' w.heap.size x y o 0 ∧ Below w.heap.size w w' := by
  have := new_yes o w h0 h1
  rw [← catS_zero x y o] at this
  exact this
theorem cHad (h : Cat w g x y o n) : Calls Try.prog 14 #[.pointer (some ⟨g, 0, none⟩)] w fun e w' => e = .returned (.int .i64 (n : Int)) ∧ w = w' := had_is h
theorem cUnlike (h : Cat w g x y o n) (z : Int) (hz : unlF x y n = z) : Calls Try.prog 18 #[.pointer (some ⟨g, 0, none⟩)] w fun e w' => e = .returned (.int .i64 z) ∧ Below w.heap.size w w' := unlike_is h z hz
theorem high_whole (h : highC x y o = true) : wholeC x y o = true := by
  simp only [highC, Bool.and_eq_true] at h
  exact h.1.1
theorem cHigh (h : Cat w g x y o n) (r : Bool) (hr : hiB x y o n = r) (F : Fr) (hF : hiF x y o n = F) : Calls Try.prog 15 #[.pointer (some ⟨g, 0, none⟩)] w fun e w' => e = .returned (.tuple #[.agg #[.int .i64 F.o, .int .u8 F.k, .int .u8 F.s, .int .u32 F.q, .int .u32 F.v], .bool r]) ∧ Below w.heap.size w w' := by
  subst hr hF
  refine high_is h (bodyF_length n) _ ?_ _ ?_
  · unfold hiB
    by_cases e : 114 ≤ n
    · simp only [decide_eq_true e, decide_eq_true (show 113 ≤ n by omega), Bool.true_and]
      cases hh : highC x y o
      · simp
      · simp [high_whole hh]
    · simp [e]
  · unfold hiF
    cases hh : hiB x y o n
    · rfl
    · simp only [hiB, Bool.and_eq_true, decide_eq_true_eq] at hh
      simp only [if_true, frF, decide_eq_true (show 113 ≤ n by omega), high_whole hh.2, Bool.and_self]
theorem nextV_112 : nextV o 112 = secondV o := by simp [nextV]
theorem nextV_113 : nextV o 113 = thirdV o := by simp [nextV]
theorem nextV_114 : nextV o 114 = .nilFunc := by simp [nextV]
theorem frF_112 : frF x y o 112 = Fr.zero := by simp [frF]
theorem frF_113 : frF x y o 113 = if wholeC x y o = true then getF (bytesP (bodyW x y)) else Fr.zero := by simp [frF]
theorem frF_114 : frF x y o 114 = frF x y o 113 := by simp [frF]
theorem catS_112 : catS x y o 112 = catL (secondV o) (112 : Nat) (sameF x y 112) (cutF x y 112) (bodyW x y) Fr.zero false false := by
  rw [catS, nextV_112, frF_112, bodyF_all 112 (Nat.le_refl _), show decide (113 ≤ 112) = false from by decide, show decide (114 ≤ 112) = false from by decide, Bool.false_and, Bool.false_and]
theorem catS_113 : catS x y o 113 = catL (thirdV o) (113 : Nat) (sameF x y 113) (cutF x y 113) (bodyW x y) (frF x y o 113) (wholeC x y o) false := by
  rw [catS, nextV_113, bodyF_all 113 (by omega), show decide (113 ≤ 113) = true from by decide, show decide (114 ≤ 113) = false from by decide, Bool.true_and, Bool.false_and]
theorem catS_114 : catS x y o 114 = catL .nilFunc (114 : Nat) (sameF x y 114) (cutF x y 114) (bodyW x y) (frF x y o 113) (wholeC x y o) (!highC x y o) := by
  rw [catS, nextV_114, frF_114, bodyF_all 114 (by omega), show decide (113 ≤ 114) = true from by decide, show decide (114 ≤ 114) = true from by decide, Bool.true_and, Bool.true_and]
theorem outC_112 : outC x y o 112 = if cutF x y 113 = true then 0 else tsy (wholeC x y o) := by
  unfold outC
  simp only [Nat.reduceAdd, Nat.reduceLT, if_false, if_true]
theorem outC_113 : outC x y o 113 = if cutF x y 114 = true then 0 else tsy (!highC x y o) := by
  unfold outC
  simp only [Nat.reduceAdd, Nat.reduceLT, Nat.reduceEqDiff, if_false, if_true]
/-- Step: the next pair. -/
theorem cStep (a d : Int) (h : Cat w g x y o n) (hn : n < 114) (hx : kn a = x n) (hy : kn d = y n) (r : Int) (hr : outC x y o n = r) :
    Calls Try.prog 12 #[.pointer (some ⟨g, 0, none⟩), .int .u8 a, .int .u8 d] w fun e w' => e = .returned (.int .u8 r) ∧ Cat w' g x y o (n + 1) ∧ But g w w' := by
  have hsl := sameF_le (x := x) (y := y) n
  have hsame : ∀ m, n = m → (if (decide (sameF x y n = m) && (x n == y n) && (x n != 0)) = true then sameF x y n + 1 else sameF x y n) = sameF x y (n + 1) := by
    rintro m rfl
    rw [sameF_succ]
    by_cases e : sameF x y n = n
    · rw [e]
      cases ha : al x y n
      · rw [al] at ha
        simp [ha]
      · rw [al] at ha
        simp [ha]
    · simp [e]
  rcases Nat.lt_or_ge n 112 with h1 | h1
  · have hc : (cutF x y n || bo x y n == 0) = cutF x y (n + 1) := by simp only [cutF, decide_eq_true h1, Bool.true_and]
    have h' : Blk w g 57 (catL (firstV o) n (sameF x y n) (cutF x y n) (bodyF x y n) (frF x y o n) (decide (113 ≤ n) && wholeC x y o) (decide (114 ≤ n) && !highC x y o)).toArray := by
      have := h
      unfold Cat catS nextV at this
      rw [if_pos h1] at this
      exact this
    have e2 : catL (if n = 111 then secondV o else firstV o) (n + 1 : Nat) (sameF x y (n + 1)) (cutF x y (n + 1)) (bodyF x y (n + 1)) (frF x y o n) (decide (113 ≤ n) && wholeC x y o) (decide (114 ≤ n) && !highC x y o) = catS x y o (n + 1) := by
      unfold catS nextV frF
      simp only [decide_eq_false (show ¬ 113 ≤ n by omega), decide_eq_false (show ¬ 114 ≤ n by omega), decide_eq_false (show ¬ 113 ≤ n + 1 by omega), decide_eq_false (show ¬ 114 ≤ n + 1 by omega), Bool.false_and]
      by_cases e : n = 111
      · subst e; rfl
      · rw [if_neg e, if_pos (show n + 1 < 112 by omega)]
    have := step_low o a d h' (bodyF_length n) h1 hsl (x n) (y n) hx hy _ (hsame n rfl) (bo x y n) rfl _ hc r (by
      rw [← hr]
      unfold outC
      by_cases e : cutF x y (n + 1) = true
      · rw [if_pos e, if_pos e]
      · rw [if_neg e, if_neg e, if_pos h1]) _ rfl _ (bodyF_set n)
    rw [e2] at this
    exact this
  · have hcut : cutF x y (n + 1) = cutF x y n := by simp [cutF, Nat.not_lt.2 h1]
    rcases Nat.lt_or_ge n 113 with h2 | h2
    · obtain rfl : n = 112 := by omega
      have hw : (isB o (bodyW x y) && decide (sameF x y 113 = 113) && (x 112 == 2)) = wholeC x y o := by
        unfold wholeC
        cases isB o (bodyW x y) <;> simp
      have hc : cutF x y 113 = cutF x y 112 := hcut
      have h' : Blk w g 57 (catL (secondV o) (112 : Nat) (sameF x y 112) (cutF x y 112) (bodyW x y) Fr.zero false false).toArray := by
        rw [← catS_112]; exact h
      have := step_mid o a d h' bodyW_length hsl (x 112) (y 112) hx hy _ (hsame 112 rfl) _ hw _ rfl r (by rw [← hr, outC_112, hc])
      rw [← frF_113, ← hc, ← catS_113] at this
      exact this
    · obtain rfl : n = 113 := by omega
      have hw : (!wholeC x y o || !decide (sameF x y 114 = 114) || (x 113 != 1)) = !highC x y o := by
        unfold highC
        cases wholeC x y o <;> cases decide (sameF x y 114 = 114) <;> simp [bne]
      have hc : cutF x y 114 = cutF x y 113 := hcut
      have h' : Blk w g 57 (catL (thirdV o) (113 : Nat) (sameF x y 113) (cutF x y 113) (bodyW x y) (frF x y o 113) (wholeC x y o) false).toArray := by
        rw [← catS_113]; exact h
      have := step_end o a d h' bodyW_length hsl (x 113) (y 113) hx hy _ (hsame 113 rfl) _ hw r (by rw [← hr, outC_113, hc])
      rw [← hc, ← catS_114] at this
      exact this
/-- A catch that has had all. -/
theorem cDone (a d : Int) (h : Cat w g x y o 114) : Calls Try.prog 12 #[.pointer (some ⟨g, 0, none⟩), .int .u8 a, .int .u8 d] w fun e w' => e = .returned (.int .u8 0) ∧ w = w' := by
  unfold Cat at h
  rw [catS_114] at h
  exact step_none a d h
end
end Go.Proofs.Ytpjcbfapkjipjaa

