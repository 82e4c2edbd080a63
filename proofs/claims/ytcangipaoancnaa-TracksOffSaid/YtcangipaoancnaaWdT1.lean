/-
  The law's words on rows: append within the room of a row of elements of many cells; the contract of Twin: the row with its table in other memory, two marks behind. Conditions: the row's reading, its table's length.
-/
import Derived.Test.YtcangipaoancnaaWdC1
import Derived.Deep.DeepAppendRoom
namespace Go.Proofs.Ytcangipaoancnaa
open Go.RowKit
set_option linter.unusedVariables false
set_option linter.unusedSimpArgs false

theorem grown_but {w w' : World} {g : Nat} (h : w.grownBy w' (some g)) (hg : g < w.heap.size) : But g w w' := ⟨⟨h.os, h.tape, h.output, h.size, fun k hk => h.block k (by omega) (fun e => by injection e with e; omega)⟩, fun b hb hne => h.block b hb (fun e => hne (by injection e))⟩
section
variable {P : Program} {w w' : World} {base size n c : Nat} {e : TypeId} {xs : List Value}
theorem ownsF_less {g m : Nat} {ys : List Value} (h : w.ownsRow base e size (.slice (some ⟨g, 0, none⟩) n c) n (xs ++ ys)) (hx : xs.length = m * size) (hm : m ≤ n) : w.ownsRow base e size (.slice (some ⟨g, 0, none⟩) m c) m xs := by
  obtain ⟨h1, h2⟩ := h
  rcases h2 with ⟨hv, _⟩ | ⟨g', cap, cur, hv, hb, hh, hnc, hcm, hcs, htk⟩
  · cases hv
  · injection hv with hA _ hc
    injection hA with hA
    injection hA with hA
    subst hA hc
    refine ⟨hx, .inr ⟨g, c, cur, rfl, hb, hh, by omega, hcm, hcs, ?_⟩⟩
    have : cur.toList.take (m * size) = (cur.toList.take (n * size)).take (m * size) := by
      rw [List.take_take, Nat.min_eq_left (Nat.mul_le_mul_right _ hm)]
    rw [this, htk, ← hx, List.take_left]
theorem run_append_RF (w : World) (t ty e : TypeId) (i : TypeInfo) (ht : P.underlying t = some (.slice e)) (hi : P.info? e = some i) (hsize : i.size = size) (h0 : 0 < size) (g n cap : Nat) (hown : w.ownsRow base e size (.slice (some ⟨g, 0, none⟩) n cap) n xs)
    (B : Option Addr) (m p : Nat) (news : List Value) (hl : news.length = m * size) (hsrc : 0 < news.length → ∃ ad, B = some ad ∧ ∀ j v, news[j]? = some v → w.cell? (ad.add j) = some v) (h1 : ∀ u ∈ news, u.oneCell' = true) (hroom : n + m ≤ cap) :
    ∃ w', (Builtin.append_ #[t, t] ty #[.slice (some ⟨g, 0, none⟩) n cap, .slice B m p]).run P w = .ok (.slice (some ⟨g, 0, none⟩) (n + m) cap) w' ∧ w'.ownsRow base e size (.slice (some ⟨g, 0, none⟩) (n + m) cap) (n + m) (xs ++ news) ∧ But g w w' := by
  cases B with
  | none =>
    have hm : m = 0 := by
      rcases Nat.eq_zero_or_pos m with hh | hh
      · exact hh
      · obtain ⟨ad, hA, _⟩ := hsrc (by rw [hl]; exact Nat.mul_pos hh h0)
        cases hA
    subst hm
    obtain rfl : news = [] := List.eq_nil_of_length_eq_zero (by simpa using hl)
    refine ⟨w, ?_, by simpa using hown, But.refl _ _⟩
    have hnc : n ≤ cap := by omega
    simp [Builtin.append_, run_underlying ht, sizeOf, typeInfo, hi, Builtin.lenOf, Builtin.firstCells, hnc, storeCells]
  | some ad =>
    obtain ⟨w', q1, q2, q3⟩ := run_append_own_spare (P := P) (w := w) base t ty e i size ht hi hsize g n cap xs hown ad m p news hl (fun j u hu => by
      obtain ⟨ad', hA, hc⟩ := hsrc (by have := (List.getElem?_eq_some_iff.1 hu).1; omega)
      injection hA with hA
      subst hA
      exact hc j u hu) h1 hroom
    exact ⟨w', q1, q2, grown_but q3 (ownsF_lt hown rfl).2⟩
theorem wp_append_RF {o : Oper} {a : Act} {K : Act → World → Prop} {Q : Exit → Act → World → Prop} (s x : Operand) (t : TypeId) (ho : o.op = .call { callee := .builtin .append, args := #[s, x], argTypes := #[t, t] })
    (base : Nat) (e : TypeId) (i : TypeInfo) (size : Nat) (ht : P.underlying t = some (.slice e)) (hi : P.info? e = some i) (hsize : i.size = size) (h0 : 0 < size) (g n cap : Nat) (xs : List Value) (hs : a.eval s = .slice (some ⟨g, 0, none⟩) n cap) (hown : w.ownsRow base e size (.slice (some ⟨g, 0, none⟩) n cap) n xs)
    (B : Option Addr) (m p : Nat) (news : List Value) (hx : a.eval x = .slice B m p) (hl : news.length = m * size) (hsrc : 0 < news.length → ∃ ad, B = some ad ∧ ∀ j v, news[j]? = some v → w.cell? (ad.add j) = some v) (h1 : ∀ u ∈ news, u.oneCell' = true) (hroom : n + m ≤ cap)
    (h : ∀ w', w'.ownsRow base e size (.slice (some ⟨g, 0, none⟩) (n + m) cap) (n + m) (xs ++ news) → But g w w' → K (a.put o.dst (.slice (some ⟨g, 0, none⟩) (n + m) cap)) w') : o.wp P a w K Q := by
  obtain ⟨w', hrun, h2, h3⟩ := run_append_RF (P := P) w t o.type e i ht hi hsize h0 g n cap hown B m p news hl hsrc h1 hroom
  unfold Oper.wp
  simp only [execOp, ho, resolve, invoke, builtin, Sem.run_bind, Sem.run_pure, Result.andThen_ok, List.map_toArray, List.map_cons, List.map_nil, hs, hx, hrun]
  exact h w' h2 h3
theorem wpList_append_RF {ops : Array Oper} {rest : List Oper} {o : Oper} {a : Act} {Q : Exit → Act → World → Prop} (hgd : o.guard = none) (s x : Operand) (t : TypeId) (ho : o.op = .call { callee := .builtin .append, args := #[s, x], argTypes := #[t, t] })
    (base : Nat) (e : TypeId) (i : TypeInfo) (size : Nat) (ht : P.underlying t = some (.slice e)) (hi : P.info? e = some i) (hsize : i.size = size) (h0 : 0 < size) (g n cap : Nat) (xs : List Value) (hs : a.eval s = .slice (some ⟨g, 0, none⟩) n cap) (hown : w.ownsRow base e size (.slice (some ⟨g, 0, none⟩) n cap) n xs)
    (B : Option Addr) (m p : Nat) (news : List Value) (hx : a.eval x = .slice B m p) (hl : news.length = m * size) (hsrc : 0 < news.length → ∃ ad, B = some ad ∧ ∀ j v, news[j]? = some v → w.cell? (ad.add j) = some v) (h1 : ∀ u ∈ news, u.oneCell' = true) (hroom : n + m ≤ cap) (N : Nat) (hN : n + m = N)
    (h : ∀ w', w'.ownsRow base e size (.slice (some ⟨g, 0, none⟩) N cap) N (xs ++ news) → But g w w' → wpList P ops Q rest (a.put o.dst (.slice (some ⟨g, 0, none⟩) N cap)) w') : wpList P ops Q (o :: rest) a w := by
  subst hN
  exact wpList_plain hgd fun _ hK => wp_append_RF s x t ho base e i size ht hi hsize h0 g n cap xs hs hown B m p news hx hl hsrc h1 hroom fun w' q1 q2 => hK _ _ (h w' q1 q2)
theorem Reg.step_append_RF {ops : Array Oper} {o : Oper} {a : Act} {K : Act → World → Prop} {Q : Exit → Act → World → Prop} {E : Prop} (hgd : o.guard = none) (s x : Operand) (t : TypeId) (ho : o.op = .call { callee := .builtin .append, args := #[s, x], argTypes := #[t, t] })
    (base : Nat) (e : TypeId) (i : TypeInfo) (size : Nat) (ht : P.underlying t = some (.slice e)) (hi : P.info? e = some i) (hsize : i.size = size) (h0 : 0 < size) (g n cap : Nat) (xs : List Value) (hs : a.eval s = .slice (some ⟨g, 0, none⟩) n cap) (hown : w.ownsRow base e size (.slice (some ⟨g, 0, none⟩) n cap) n xs)
    (B : Option Addr) (m p : Nat) (news : List Value) (hx : a.eval x = .slice B m p) (hl : news.length = m * size) (hsrc : 0 < news.length → ∃ ad, B = some ad ∧ ∀ j v, news[j]? = some v → w.cell? (ad.add j) = some v) (h1 : ∀ u ∈ news, u.oneCell' = true) (hroom : n + m ≤ cap)
    (h : ∀ w', w'.ownsRow base e size (.slice (some ⟨g, 0, none⟩) (n + m) cap) (n + m) (xs ++ news) → But g w w' → K (a.put o.dst (.slice (some ⟨g, 0, none⟩) (n + m) cap)) w') :
    if Region.wanted o (yielded ops a.tmps) = true then Oper.wp P o a w K Q else E := by
  have hw : Region.wanted o (yielded ops a.tmps) = true := by simp [Region.wanted, hgd]
  rw [if_pos hw]
  exact wp_append_RF s x t ho base e i size ht hi hsize h0 g n cap xs hs hown B m p news hx hl hsrc h1 hroom h
end
/-- A table made of none, with room. -/
theorem Blk.ownsRoom {w : World} {g cap size : Nat} {e : TypeId} {cs : List Value} (h : Blk w g e cs.toArray) (hl : cs.length = cap * size) (hm : cap ≤ maxLen) : w.ownsRow 0 e size (.slice (some ⟨g, 0, none⟩) 0 cap) 0 [] :=
  ⟨by simp, .inr ⟨g, cap, cs.toArray, rfl, Nat.zero_le _, h, Nat.zero_le _, hm, by simp [hl], by simp⟩⟩
/-- The mark. -/
def mkH : He := ⟨false, { ceN with a := -77 }⟩
def mkT (T : Nat → He) (n : Nat) : Nat → He := fun i => if i < n then T i else mkH
theorem mkT_cells (T : Nat → He) (n : Nat) : hesL T n ++ (heL mkH ++ heL mkH) = hesL (mkT T n) (n + 2) := by
  rw [hesL_succ, hesL_succ, hesL_congr (T := mkT T n) (T' := T) (n := n) (fun i hi => by unfold mkT; rw [if_pos hi])]
  rw [show mkT T n n = mkH by unfold mkT; rw [if_neg (by omega)], show mkT T n (n + 1) = mkH by unfold mkT; rw [if_neg (by omega)], List.append_assoc]
/-- A twin's table: n as T, two marks behind. -/
def TwH (w : World) (g n : Nat) (T : Nat → He) : Prop := w.ownsRow 0 102 56 (.slice (some ⟨g, 0, none⟩) (n + 2) (n + 2)) (n + 2) (hesL (mkT T n) (n + 2))
section
variable {w w' : World} {g n : Nat} {T : Nat → He}
theorem TwH.on (h : TwH w g n T) (hb : Below w.heap.size w w') : TwH w' g n T := ownsF_on h hb
theorem TwH.but {x : Nat} (h : TwH w g n T) (hb : But x w w') (hx : g ≠ x) : TwH w' g n T := ownsF_but h hb (fun q hq => by injection hq with hq; injection hq with hq; omega)
theorem TwH.lt (h : TwH w g n T) : g < w.heap.size := (ownsF_lt h rfl).2
theorem TwH.all (h : TwH w g n T) : LiesH w w.heap.size (some ⟨g, 0, none⟩) (n + 2) (mkT T n) := owns_liesF (f := fun i => heL (mkT T n i)) (fun i => heL_len _) h
theorem TwH.lies (h : TwH w g n T) : LiesH w w.heap.size (some ⟨g, 0, none⟩) n T := (h.all.less (by omega)).congr fun i hi => by unfold mkT; rw [if_pos hi]
end
set_option maxRecDepth 100000 in
theorem built_mkC : (Try.prog).built 51 [(0, .int .i64 (-77))] = some (ceL { ceN with a := -77 }).toArray := by kernel_rfl
set_option maxRecDepth 100000 in
theorem built_mkH : (Try.prog).built 102 [(1, .agg (ceL { ceN with a := -77 }).toArray)] = some (heL mkH).toArray := by kernel_rfl
set_option maxRecDepth 100000 in
theorem headHelds (g n c h : Nat) (h2 : h ≤ c) (w : World) :
    (Instr.sliceAt 52 (.slice (some ⟨g, 0, none⟩) n c) none (some (.int .i64 (h : Int))) none).run Try.prog w = .ok (.slice (some ⟨g, 0, none⟩) h c) w := by
  rw [run_sliceAt_slice w _ _ _ _ _ elemHelds, run_slice_h w 52 _ n c elemHelds .i64 (h : Int) (by omega) (by omega), show Try.prog.elem 52 = 102 by kernel_rfl, sizeHelds]
  simp only [Result.andThen, sliced]
  simp [Addr.add]
def Reg.FactK.two {B : Nat} {S : List Nat} {Js : List (World → Prop)} (X : He) : Reg.FactK (Reg.KJ B S Js) := ⟨fun v w => ∃ g, v = .slice (some ⟨g, 0, none⟩) 2 2 ∧ g ∉ S ∧ Blk w g 102 (heL X ++ heL X).toArray, fun _ _ _ hb h => by
  obtain ⟨g, e, hS, hB⟩ := h
  exact ⟨g, e, hS, hb.blk hS hB⟩⟩
def Reg.FactK.vj {B : Nat} {S : List Nat} {Js : List (World → Prop)} (V : Value) (J : World → Prop) (hJ : J ∈ Js) : Reg.FactK (Reg.KJ B S Js) := ⟨fun v w => v = V ∧ J w, fun _ _ _ h hj => ⟨hj.1, h.j J hJ hj.2⟩⟩
/-- Boxes of the row, of the result, of the mark; the table. -/
structure TW (w : World) (b : Bool) (c : Ce) (A : Option Addr) (m p g h : Nat) (U : World) : Prop where
  x : Blk U w.heap.size 54 (roL b c A m p).toArray
  z : ∃ Z : List Value, Z.length = 57 ∧ PIn U (w.heap.size + 1) 0 54 [] [] Z
  k : PIn U h 0 102 [] [] (heL mkH)
  b : Below w.heap.size w U
  lo : w.heap.size + 1 < g
  gh : g < h
def twJ (g m : Nat) (T : Nat → He) (u : World) : Prop := u.ownsRow 0 102 56 (.slice (some ⟨g, 0, none⟩) m (m + 2)) m (hesL T m)
set_option maxRecDepth 100000 in
set_option maxHeartbeats 4000000 in
theorem twin_is (r : Rw) (hm : r.n ≤ 65536) (w : World) (hT : LiesH w w.heap.size r.A r.n r.T) :
    Calls Try.prog 18 #[.agg r.l.toArray] w fun e w' => ∃ g : Nat, e = .returned (.agg (roL r.b r.c (some ⟨g, 0, none⟩) r.n (r.n + 2)).toArray) ∧ w.heap.size ≤ g ∧ TwH w' g r.n r.T ∧ Below w.heap.size w w' := by
  obtain ⟨b, c, A, m, p, T⟩ := r
  have hT' : LiesH w w.heap.size A m T := hT
  have hm' : m ≤ 65536 := hm
  have HT := Lib.hid hT'
  obtain ⟨i0, hi0, hz0, hz1, hz2⟩ := info_parts infoHeld
  have HI := Lib.hid hi0
  have HZ0 := Lib.hid hz0
  have HZ1 := Lib.hid hz1
  have HZ2 := Lib.hid hz2
  clear hT hT' hm hi0 hz0 hz1 hz2
  go_enter Try.func18, Try.ntmps18
  go_upto_region 1 with fail
  refine wp_at (Boxed w 54 54 (roL b c A m p) 57) (Boxed.mk_ _ _ _ _ _ _ rfl) ?_
  intro U hU
  have HU := Lib.hid hU
  have c56 := hU.x.rowTab
  have lx := hU.x.lt
  have hlt := hU.lt
  clear hU
  go_upto_region 2 with (refine wpList_make_flat rfl (.const (.int .i64 0)) (.tmp 8) 52 rfl 102 i0 _ (heL heN) 136 56 elemHelds HI.out HZ0.out rfl HZ1.out HZ2.out (heL_len _) (by decide) 0 (m + 2) (by simp [Act.eval]) (by simp [Act.eval, Act.put]) (by omega) (by omega) (by omega) ?_; intro w1 k1 b1 s1; have HB1 := Lib.hid b1; have HO1 : Hid (w1.ownsRow 0 102 56 (.slice (some ⟨U.heap.size, 0, none⟩) 0 (m + 2)) 0 []) := Lib.hid (Blk.ownsRoom k1 ((flat_len (fun _ : Nat => heL heN) 56 (fun _ => heL_len _) (List.range (m + 2))).trans (by rw [List.length_range])) (by unfold maxLen; omega)); clear k1 b1 s1)
  refine wp_at (fun V => Blk V w.heap.size 54 (roL b c A m p).toArray ∧ (∃ Z : List Value, Z.length = 57 ∧ PIn V (w.heap.size + 1) 0 54 [] [] Z) ∧ V.ownsRow 0 102 56 (.slice (some ⟨U.heap.size, 0, none⟩) 0 (m + 2)) 0 [] ∧ Below w.heap.size w V) ⟨HU.out.x.on HB1.out, (by obtain ⟨Z, z1, z2⟩ := HU.out.res; exact ⟨Z, z1, z2.on HB1.out⟩), HO1.out, HU.out.b.trans (HB1.out.mono HU.out.b.size)⟩ ?_
  rintro V ⟨v1, v2, v3, v4⟩
  obtain ⟨g, hg⟩ : ∃ g, g = U.heap.size := ⟨_, rfl⟩
  rw [← hg] at v3 hlt ⊢
  have HX := Lib.hid v1
  have HZ := Lib.hid v2
  have HO := Lib.hid v3
  have HB := Lib.hid v4
  have c56 := v1.rowTab
  have lx := v1.lt
  clear v1 v2 v3 v4 hg HB1 HO1 HU
  have HS : Hid (0 < (hesL T m).length → ∃ ad, A = some ad ∧ ∀ j v, (hesL T m)[j]? = some v → V.cell? (ad.add j) = some v) := Lib.hid (LiesH.src (HT.out.on HB.out))
  go_upto_region 3 with (at_builtin; refine wpList_append_RF rfl (.tmp 10) (.tmp 12) 52 rfl 0 102 i0 56 elemHelds HI.out HZ1.out (by decide) g 0 (m + 2) [] (by simp [Act.eval, Act.put]) HO.out A m p (hesL T m) (by simp [Act.eval, Act.put]) (hesL_len _ _) HS.out (hesL_one _ _) (by omega) m (by omega) ?_; intro w2 o2 b2; have HO2 : Hid (twJ g m T w2) := Lib.hid (show twJ g m T w2 from o2); have HB2 := Lib.hid b2; clear o2 b2)
  have hgV : g < V.heap.size := (ownsF_lt HO.out rfl).2
  refine wp_at (fun Y => Blk Y w.heap.size 54 (roL b c A m p).toArray ∧ (∃ Z : List Value, Z.length = 57 ∧ PIn Y (w.heap.size + 1) 0 54 [] [] Z) ∧ twJ g m T Y ∧ Below w.heap.size w Y) ⟨HB2.out.blk HX.out (by omega), (by obtain ⟨Z, z1, z2⟩ := HZ.out; exact ⟨Z, z1, z2.but HB2.out (by omega)⟩), HO2.out, HB.out.trans (HB2.out.low (by omega))⟩ ?_
  rintro Y ⟨v1, v2, v3, v4⟩
  have hgY : g < Y.heap.size := (ownsF_lt v3 rfl).2
  have HX2 := Lib.hid v1
  have HZ3 := Lib.hid v2
  have HJ := Lib.hid v3
  have HBY := Lib.hid v4
  clear v1 v2 v3 v4 HX HZ HO HB HS HO2 HB2 c56 lx hgV
  have HC1 := Lib.hid built_mkC
  have HC2 := Lib.hid built_mkH
  have HZN : Hid (∀ Z : Array Value, Z.size = 56 → PIn (Y.alloc (.cells Z 102)) Y.heap.size 0 102 [] [] Z.toList ∧ Z.toList.length = 56) := Lib.hid (fun Z hZ => ⟨Blk.pin (by simpa using Blk.new Y 102 Z), by simpa using hZ⟩)
  go_upto_region 4 with (first
    | (refine wpList_build rfl 51 _ rfl (ceL { ceN with a := -77 }).toArray (by simpa [Act.eval, Act.put] using HC1.out) ?_)
    | (refine wpList_build rfl 102 _ rfl (heL mkH).toArray (by simpa [Act.eval, Act.put] using HC2.out) ?_)
    | (refine wpList_store_pin rfl 102 (.tmp 4) (.tmp 15) rfl (HZN.out _ rfl).1 (heL mkH) (by simp [Act.eval, Act.put]) (by simp [Act.eval, Act.put]) 56 size_he (HZN.out _ rfl).2 (heL_len _) (heL_one _) ?_; intro w4 p4 b4; have HP4 := Lib.hid p4; have HB4 := Lib.hid b4; clear p4 b4))
  refine wp_at (fun X => TW w b c A m p g Y.heap.size X ∧ twJ g m T X) ⟨⟨HB4.out.blk (HX2.out.alloc _) (by omega), (by obtain ⟨Z, z1, z2⟩ := HZ3.out; exact ⟨Z, z1, (z2.on (below_al (Below.refl _ Y) _)).but HB4.out (by omega)⟩), HP4.out, (below_al HBY.out _).trans (HB4.out.low (by have := HBY.out.size; omega)), hlt, hgY⟩, ownsF_but (ownsF_on HJ.out (below_al (Below.refl _ Y) _)) HB4.out (fun q hq => by injection hq with hq; injection hq with hq; omega)⟩ ?_
  rintro X ⟨hX, hJ⟩
  obtain ⟨h, hh⟩ : ∃ h, h = Y.heap.size := ⟨_, rfl⟩
  rw [← hh] at hX ⊢
  have HW := Lib.hid hX
  have HJX := Lib.hid hJ
  clear hX hJ hh hgY HX2 HZ3 HJ HBY HZN HP4 HB4
  have HJS : Hid (∀ J ∈ [twJ g m T, fun u => TwH u g m T], ∀ u u' : World, Below u.heap.size u u' → J u → J u') := Lib.hid (by
    intro J hJ u u' hb hj
    simp only [List.mem_cons, List.not_mem_nil, or_false] at hJ
    rcases hJ with rfl | rfl
    · exact ownsF_on hj hb
    · exact TwH.on hj hb)
  go_wp2_with fail
  refine Reg.wp_prefix 10 (by kernel_rfl) (fun t => decide (16 ≤ t) && decide (t ≤ 25)) (Reg.KJ w.heap.size [g] [twJ g m T, fun u => TwH u g m T]) (Reg.KJ.drew _ HJS.out) Reg.KJ.trans (by kernel_rfl) (by kernel_rfl) (by kernel_rfl) (by kernel_rfl) (fun zz => (Reg.tblK [
    (16, .is (.slice (some ⟨g, 0, none⟩) m (m + 2))),
    (17, .is (.agg (heL mkH).toArray)),
    (18, .is (.agg (heL mkH).toArray)),
    (19, .two mkH),
    (20, .vj (.slice (some ⟨g, 0, none⟩) (m + 2) (m + 2)) (fun u => TwH u g m T) (by simp)),
    (21, .is (.pointer (some ⟨w.heap.size, 56, none⟩))),
    (22, .is (.slice A m p)),
    (23, .is (.int .i64 (m : Int))),
    (24, .is (.slice (some ⟨g, 0, none⟩) m (m + 2))),
    (25, .is (.pointer (some ⟨w.heap.size, 56, none⟩)))] zz).P) (fun zz => (Reg.tblK _ zz).on) (fun zz => (Reg.memK [] zz).P) (fun zz => (Reg.memK _ zz).on) ?_ ?_
  · simp only [Reg.frame, Reg.over, Nat.reduceAdd, Nat.reduceLeDiff, decide_true, decide_false, if_true, Bool.false_eq_true, if_false, Bool.and_true, Bool.and_false]
    refine ⟨?_, ?_, ?_, ?_, ?_, ?_, ?_, ?_, ?_, ?_, trivial⟩
    · intro x u hku hd
      refine wpOp_step rfl fun KK hK => ?_
      go_simp
      exact hK _ _ ⟨_, rfl, Reg.KJ.refl _, fun d hd => by cases hd; exact rfl, fun h => by cases h⟩
    · intro x u hku hd
      refine wpOp_step rfl fun KK hK => ?_
      have pk : PIn u h 0 102 [] [] (heL mkH) := ⟨hku.blk (by simp; have := HW.out.gh; omega) HW.out.k.blk, HW.out.k.len⟩
      refine Reg.step_load_mid (by rfl) 102 (.tmp 4) (by rfl) h 0 (by rfl) (heL mkH) pk.range _ Try.underlying102 rfl (by rw [size_he, heL_len]) ?_
      exact hK _ _ ⟨_, rfl, Reg.KJ.refl _, fun d hd => by cases hd; exact rfl, fun h => by cases h⟩
    · intro x u hku hd
      refine wpOp_step rfl fun KK hK => ?_
      have pk : PIn u h 0 102 [] [] (heL mkH) := ⟨hku.blk (by simp; have := HW.out.gh; omega) HW.out.k.blk, HW.out.k.len⟩
      refine Reg.step_load_mid (by rfl) 102 (.tmp 4) (by rfl) h 0 (by rfl) (heL mkH) pk.range _ Try.underlying102 rfl (by rw [size_he, heL_len]) ?_
      exact hK _ _ ⟨_, rfl, Reg.KJ.refl _, fun d hd => by cases hd; exact rfl, fun h => by cases h⟩
    · intro x u hku hd
      have h17 : x 17 = .agg (heL mkH).toArray := hd 1 (by decide)
      have h18 : x 18 = .agg (heL mkH).toArray := hd 2 (by decide)
      refine wpOp_step rfl fun KK hK => ?_
      refine Reg.step_bsl (by rfl) 52 2 _ (by rfl) #[(0, .agg (heL mkH).toArray), (1, .agg (heL mkH).toArray)] (by simp [Act.eval, h17, h18]) _ _ (run_bsl_two (P := Try.prog) u 52 102 i0 (heL heN) 56 elemHelds HI.out HZ0.out HZ1.out (heL_len _) (by decide) (by decide) (heL mkH) (heL mkH) (heL_len _) (heL_len _)) ?_
      exact hK _ _ ⟨_, rfl, Reg.KJ.grow HJS.out (Nat.le_trans HW.out.b.size hku.size) (below_al (Below.refl _ u) _), fun d hd => by cases hd; exact ⟨_, rfl, (by simp; have := (ownsF_lt (hku.j _ (by simp) HJX.out) rfl).2; omega), Blk.new u _ _⟩, fun h => by cases h⟩
    · intro x u hku hd
      have h16 : x 16 = .slice (some ⟨g, 0, none⟩) m (m + 2) := hd 0 (by decide)
      have k19 : (Reg.FactK.two mkH : Reg.FactK (Reg.KJ w.heap.size [g] [twJ g m T, fun u => TwH u g m T])).P (x 19) u := hd 3 (by decide)
      obtain ⟨g19, h19, hn19, hb19⟩ := k19
      refine wpOp_step rfl fun KK hK => ?_
      have hju := hku.j (twJ g m T) (by simp) HJX.out
      refine Reg.step_append_RF (by rfl) (.tmp 16) (.tmp 19) 52 (by rfl) 0 102 i0 56 elemHelds HI.out HZ1.out (by decide) g m (m + 2) (hesL T m) (by simpa [Act.eval] using h16) hju (some ⟨g19, 0, none⟩) 2 2 (heL mkH ++ heL mkH) (by simpa [Act.eval] using h19) (by simp [heL_len]) (fun _ => ⟨_, rfl, fun j v hv => by rw [Addr.add_lit, Nat.zero_add, hb19.cell, List.getElem?_toArray]; exact hv⟩) (fun v hv => by rcases List.mem_append.1 hv with h | h <;> exact heL_one _ _ h) (by omega) ?_
      intro u' ho hb
      have ht : TwH u' g m T := by rw [mkT_cells] at ho; exact ho
      exact hK _ _ ⟨_, rfl, Reg.KJ.but hb (by have := HW.out.lo; omega) (fun J hJ hj => by
        simp only [List.mem_cons, List.not_mem_nil, or_false] at hJ
        rcases hJ with rfl | rfl
        · exact ownsF_less ho (hesL_len _ _) (by omega)
        · exact ht), fun d hd => by cases hd; exact ⟨rfl, ht⟩, fun h => by cases h⟩
    · intro x u hku hd
      refine wpOp_step rfl fun KK hK => ?_
      go_simp
      exact hK _ _ ⟨_, rfl, Reg.KJ.refl _, fun d hd => by cases hd; exact rfl, fun h => by cases h⟩
    · intro x u hku hd
      have h21 : x 21 = .pointer (some ⟨w.heap.size, 56, none⟩) := hd 5 (by decide)
      have cx := (hku.blk (by simp; have := HW.out.lo; omega) HW.out.x).rowTab
      have lx2 := (hku.blk (by simp; have := HW.out.lo; omega) HW.out.x).lt
      refine wpOp_step rfl fun KK hK => ?_
      simp only [h21] at hK ⊢
      go_simp
      exact hK _ _ ⟨_, rfl, Reg.KJ.refl _, fun d hd => by cases hd; exact rfl, fun h => by cases h⟩
    · intro x u hku hd
      have h22 : x 22 = .slice A m p := hd 6 (by decide)
      refine wpOp_step rfl fun KK hK => ?_
      simp only [h22] at hK ⊢
      go_simp
      exact hK _ _ ⟨_, rfl, Reg.KJ.refl _, fun d hd => by cases hd; exact rfl, fun h => by cases h⟩
    · intro x u hku hd
      have k20 : (Reg.FactK.vj (.slice (some ⟨g, 0, none⟩) (m + 2) (m + 2)) (fun u => TwH u g m T) (by simp) : Reg.FactK (Reg.KJ w.heap.size [g] [twJ g m T, fun u => TwH u g m T])).P (x 20) u := hd 4 (by decide)
      obtain ⟨h20, hj20⟩ := k20
      have h23 : x 23 = .int .i64 (m : Int) := hd 7 (by decide)
      have hsl := fun W : World => headHelds g (m + 2) (m + 2) m (by omega) W
      refine wpOp_step rfl fun KK hK => ?_
      simp only [h20, h23] at hK ⊢
      go_simp
      exact hK _ _ ⟨_, rfl, Reg.KJ.refl _, fun d hd => by cases hd; exact rfl, fun h => by cases h⟩
    · intro x u hku hd
      refine wpOp_step rfl fun KK hK => ?_
      go_simp
      exact hK _ _ ⟨_, rfl, Reg.KJ.refl _, fun d hd => by cases hd; exact rfl, fun h => by cases h⟩
  · intro x u hku hd
    have e25 : x 25 = .pointer (some ⟨w.heap.size, 56, none⟩) := hd 9 (by decide)
    have e24 : x 24 = .slice (some ⟨g, 0, none⟩) m (m + 2) := hd 8 (by decide)
    obtain ⟨_, hjt⟩ : x 20 = .slice (some ⟨g, 0, none⟩) (m + 2) (m + 2) ∧ TwH u g m T := hd 4 (by decide)
    have bx := hku.blk (by simp; have := HW.out.lo; omega) HW.out.x
    have c56 := bx.rowTab
    have f56 := bx.frozen 56
    have lx := bx.lt
    have HBX := Lib.hid bx
    have HJT := Lib.hid hjt
    have HZU : Hid (∃ Z : List Value, Z.length = 57 ∧ PIn u (w.heap.size + 1) 0 54 [] [] Z) := Lib.hid (by obtain ⟨Z, z1, z2⟩ := HW.out.z; exact ⟨Z, z1, ⟨hku.blk (by simp; have := HW.out.lo; omega) z2.blk, z2.len⟩⟩)
    have HBU := Lib.hid (HW.out.b.trans (hku.below))
    clear bx hjt
    simp only [Reg.frame, Reg.over, Nat.reduceAdd, Nat.reduceLeDiff, decide_true, decide_false, if_true, Bool.false_eq_true, if_false, Bool.and_true, Bool.and_false, e25, e24, List.drop_succ_cons, List.drop_zero]
    go_upto_region 5 with fail
    refine wp_at (fun D => PIn D w.heap.size 0 54 [] [] (roL b c (some ⟨g, 0, none⟩) m (m + 2)) ∧ (∃ Z : List Value, Z.length = 57 ∧ PIn D (w.heap.size + 1) 0 54 [] [] Z) ∧ TwH D g m T ∧ Below w.heap.size w D) ⟨(by have := HBX.out.pin.set_ 56 (.slice (some ⟨g, 0, none⟩) m (m + 2)) (by rw [roL_len]; omega); rw [ro_setTab, Nat.zero_add] at this; exact this), (by obtain ⟨Z, z1, z2⟩ := HZU.out; exact ⟨Z, z1, z2.but (But.one 56 _) (by omega)⟩), HJT.out.but (But.one 56 _) (by have := HW.out.lo; omega), HBU.out.trans ((But.one 56 _).low (Nat.le_refl _))⟩ ?_
    rintro D ⟨d1, ⟨Z, hzl, d2⟩, d3, d4⟩
    have HD1 := Lib.hid d1
    have HD2 := Lib.hid d2
    have HD3 := Lib.hid d3
    have HD4 := Lib.hid d4
    have HZL := Lib.hid hzl
    clear d1 d2 d3 d4 hzl c56 f56 lx
    refine wp_region_lit ?_
    go_wp2_with (first
      | (refine wpList_load_pin rfl 54 (.tmp 1) rfl HD1.out (by simp [Act.eval, Act.put]) _ Try.underlying54 rfl 57 size_row (roL_len _ _ _ _ _) ?_)
      | (refine wpList_store_pin rfl 54 (.tmp 2) (.tmp 26) rfl HD2.out (roL b c (some ⟨g, 0, none⟩) m (m + 2)) (by simp [Act.eval, Act.put]) (by simp [Act.eval, Act.put]) 57 size_row HZL.out (roL_len _ _ _ _ _) (roL_one _ _ _ _ _) ?_; intro w9 p9 b9))
    have hld := p9.var 54 _ Try.underlying54 rfl 57 size_row (roL_len _ _ _ _ _)
    exact bodyPost_ret (v := .agg (roL b c (some ⟨g, 0, none⟩) m (m + 2)).toArray) (by simp [results, Try.results18, asAddr, Act.put, hld]) rfl ⟨g, rfl, by have := HW.out.lo; omega, HD3.out.but b9 (by have := HW.out.lo; omega), HD4.out.trans (b9.low (Nat.le_succ _))⟩
end Go.Proofs.Ytcangipaoancnaa

