/-
  The contracts of the laws' at and run: what a catch gives of whatever comes near and far, in a row of the call's own, and whether it is high. Conditions: the slices' readings; an owner of a pair; 114 places at most.
-/
import Derived.Test.YtpjcbfapkjipjaaCa3
import Derived.Lib.MinMax
namespace Go.Proofs.Ytpjcbfapkjipjaa
open Go.RowKit Crc
set_option linter.unusedVariables false

theorem idxSym {A : Option Addr} {n : Nat} (c : Nat) {k b off : Nat} (hA : A = some ⟨b, off, none⟩) (hk : k < n) (w : World) :
    (Instr.indexAt 22 (.slice A n c) (.int .i64 (k : Int))).run Try.prog w = .ok (.pointer (some ⟨b, off + k, none⟩)) w := by
  subst hA
  rw [run_indexAt_slice (h := elemSyms), if_pos (by omega), sizeSyms]
  simp [Result.andThen, Addr.add_lit]
theorem at_is (A : Option Addr) (n c : Nat) (xs : List Int) (i : Nat) (w : World) (hx : Lies .u8 w w.heap.size A n xs) (r : Int) (hr : xs.getD i 0 = r) :
    Calls Try.prog 11 #[.slice A n c, .int .i64 (i : Int)] w fun e w' => e = .returned (.int .u8 r) ∧ w = w' := by
  have hl := hx.len
  by_cases h : i < n
  · obtain ⟨b, off, rfl, hb, hc⟩ := hx.at_ (by omega)
    have hcell := hc i h
    rw [hr] at hcell
    have hi1 : (i : Int) < (n : Int) := by omega
    have hi0 : (0 : Int) ≤ (i : Int) := by omega
    have hix := fun W => idxSym (n := n) c (b := b) (off := off) rfl h W
    clear hx hc hr hl h
    go_enter Try.func11, Try.ntmps11
    go_wp2_with fail
    go_ret
    exact ⟨rfl, rfl⟩
  · have hi1 : (n : Int) ≤ (i : Int) := by omega
    have h0 : r = 0 := by rw [← hr, List.getD, List.getElem?_eq_none (by omega)]; rfl
    subst h0
    clear hx hr hl h
    go_enter Try.func11, Try.ntmps11
    go_wp2_with fail
    go_ret
    exact ⟨rfl, rfl⟩
/-- What comes, counted. -/
def knF (xs : List Int) (j : Nat) : Int := kn (xs.getD j 0)
/-- What is given at the first places. -/
def outL (x y : Nat → Int) (o : Int) (n : Nat) : List Int := (List.range n).map (outC x y o)
theorem outL_length (x y : Nat → Int) (o : Int) (n : Nat) : (outL x y o n).length = n := by simp [outL]
theorem outL_succ (x y : Nat → Int) (o : Int) (n : Nat) : outL x y o (n + 1) = outL x y o n ++ [outC x y o n] := by simp [outL, List.range_succ]
theorem outL_at (x y : Nat → Int) (o : Int) (n j : Nat) (h : j < n) : (outL x y o n).getD j 0 = outC x y o j := by simp [outL, List.getD, h]
theorem owns_but {w w' : World} {g base n : Nat} {e t : TypeId} {v : Value} {xs : List Value} {cs : Array Value} (h : w.ownsRow base e 1 v n xs) (hk : But g w w') (hB : Blk w g t cs) (hne : t ≠ e) : w'.ownsRow base e 1 v n xs := by
  refine ⟨h.1, ?_⟩
  rcases h.2 with q | ⟨g', cap, cur, hv, hg, hh, r⟩
  · exact .inl q
  · exact .inr ⟨g', cap, cur, hv, hg, hk.blk (t := e) (cs := cur) hh (Blk.ne (t := e) (cs := cur) hh hB hne.symm), r⟩
theorem cNewE (x y : Nat → Int) (o : Int) (w : World) (h0 : 0 ≤ o) (h1 : o < 8) : Calls Try.prog 9 #[.int .i64 o] w fun e w' => ∃ g, e = .returned (.tuple #[.pointer (some ⟨g, 0, none⟩), .int .i64 0]) ∧ w.heap.size ≤ g ∧ Cat w' g x y o 0 ∧ Below w.heap.size w w' :=
  (cNew x y o w h0 h1).mono fun e w' ⟨a, b, c⟩ => ⟨_, a, Nat.le_refl _, b, c⟩
theorem Blk.but {w w' : World} {g b : Nat} {t t' : TypeId} {cs cs' : Array Value} (h : Blk w b t cs) (hk : But g w w') (hB : Blk w g t' cs') (hne : t ≠ t') : Blk w' b t cs := hk.blk h (h.ne hB hne)
set_option maxRecDepth 100000 in
set_option maxHeartbeats 4000000 in
theorem run_is (o : Int) (A B : Option Addr) (n m c d M : Nat) (N F : List Int) (w : World) (hN : Lies .u8 w w.heap.size A n N) (hF : Lies .u8 w w.heap.size B m F) (h0 : 0 ≤ o) (h1 : o < 8) (hM : max n m = M) (hM' : M ≤ 114)
    (x y : Nat → Int) (hx : knF N = x) (hy : knF F = y) (r : Bool) (hr : hiB x y o M = r) (G : Fr) (hG : hiF x y o M = G) (X : List Int) (hX : outL x y o M = X) :
    Calls Try.prog 20 #[.int .i64 o, .slice A n c, .slice B m d] w fun e w' => ∃ A' c', e = .returned (.tuple #[.slice A' M c', .agg #[.int .i64 G.o, .int .u8 G.k, .int .u8 G.s, .int .u32 G.q, .int .u32 G.v], .bool r]) ∧ w'.ownsRow w.heap.size 31 1 (.slice A' M c') M (X.map (Value.int .u8)) ∧ Below w.heap.size w w' := by
  obtain ⟨i0, hi0, hz0, hz1, hz2⟩ := info_parts infoSyms
  have hR := Blk.new w 42 #[.int .i64 0, .int .u8 0, .int .u8 0, .int .u32 0, .int .u32 0]
  have HN := Lib.hid hN
  have HF := Lib.hid hF
  have HNW := Lib.hid (cNewE x y o (w.alloc (.cells #[.int .i64 0, .int .u8 0, .int .u8 0, .int .u32 0, .int .u32 0] 42)) h0 h1)
  have HBE := Lib.hid (below_al (Below.refl w.heap.size w) (.cells #[.int .i64 0, .int .u8 0, .int .u8 0, .int .u32 0, .int .u32 0] 42))
  have HX := Lib.hid hx
  have HY := Lib.hid hy
  have HHI := Lib.hid (fun u g (hu : Cat u g x y o M) => cHigh hu r hr G hG)
  have HM := Lib.hid hM
  have HMI := Lib.hid (show (max (n : Int) (m : Int)) = (M : Int) by omega)
  clear hN hF h0 h1 hx hy hr hG hM
  go_enter Try.func20, Try.ntmps20
  go_wp2_with (go_at_call 9; (with_reducible refine HNW.out.mono ?_); rintro e w1 ⟨g, rfl, hg, hC, b1⟩)
  have hR1 := hR.on b1
  have hb1 := below_then HBE.out b1
  rw [alloc_size] at hg
  clear b1 hR HNW
  go_loopw [11, 12] (fun v iv wr => ∃ (i : Nat) (A' : Option Addr) (c' : Nat), i ≤ M ∧ iv = .int .i64 i ∧ v = .slice A' i c' ∧ wr.ownsRow w.heap.size 31 1 (.slice A' i c') i ((outL x y o i).map (Value.int .u8)) ∧ Cat wr g x y o i ∧ Blk wr w.heap.size 42 #[.int .i64 0, .int .u8 0, .int .u8 0, .int .u32 0, .int .u32 0] ∧ Below w.heap.size w wr) (fun _ iv _ => M - (intOf iv).toNat)
  case atStart => exact ⟨0, none, 0, Nat.zero_le _, rfl, rfl, owns_none, hC, hR1, hb1⟩
  case round =>
    clear hC hR1 hb1
    obtain ⟨i, A', c', hi, rfl, rfl, hown, hC, hR, hb⟩ := hrel
    have hmx := HMI.out
    by_cases hlt : i < M
    · have hlti : (i : Int) < (M : Int) := by omega
      have HA1 := Lib.hid (at_is A n c N i wr (HN.out.on hb) _ rfl)
      have HA2 := Lib.hid (at_is B m d F i wr (HF.out.on hb) _ rfl)
      have HST := Lib.hid (fun a' d' (ha : a' = N.getD i 0) (hd : d' = F.getD i 0) => cStep a' d' hC (by omega) (by rw [ha, ← HX.out]; rfl) (by rw [hd, ← HY.out]; rfl) _ rfl)
      obtain ⟨a', ha'⟩ : ∃ a', a' = N.getD i 0 := ⟨_, rfl⟩
      obtain ⟨d', hd'⟩ : ∃ d', d' = F.getD i 0 := ⟨_, rfl⟩
      rw [← ha'] at HA1
      rw [← hd'] at HA2
      have HS := Lib.hid (HST.out a' d' ha' hd')
      obtain ⟨z, hz⟩ : ∃ z, z = outC x y o i := ⟨_, rfl⟩
      have HZ := Lib.hid hz
      rw [← hz] at HS
      clear ha' hd' HST hz
      go_wp2_with (first
        | (go_at_call 11; (with_reducible refine HA1.out.mono ?_); rintro e w2 ⟨rfl, rfl⟩)
        | (go_at_call 11; (with_reducible refine HA2.out.mono ?_); rintro e w3 ⟨rfl, rfl⟩)
        | (go_at_call 12; (with_reducible refine HS.out.mono ?_); rintro e w4 ⟨rfl, hC4, hk4⟩; have hown4 := owns_but hown hk4 hC (by decide); have hown5 := hown4.alloc (.cells #[.int .u8 z] 31); have hcu : (w4.alloc (.cells #[.int .u8 z] 31)).cell? ⟨w4.heap.size, 0, none⟩ = some (.int .u8 z) := (by simp); have hb4 := hb.trans (hk4.low (Nat.le_of_lt hg)))
        | (at_builtin; with_reducible refine wpList_append_one rfl (.tmp 33) (.tmp 42) 22 rfl w.heap.size 31 i0 _ 1 Try.underlying22 hi0 hz0 hz1 hz2 rfl (.slice A' i c') i _ rfl hown5 w4.heap.size (.int .u8 z) rfl hcu rfl (by unfold maxLen; omega) (by omega) (Nat.le_trans hb4.size (by simp)) ?_))
      intro A2 c2 w5 hown6 hg5
      have hb5 := (below_al hb4 (.cells #[.int .u8 z] 31)).grown hg5 (Nat.le_trans hb4.size (by simp)) (fun r hr => (hown4.lt r hr).1)
      have hkk := KeptBut.grown hown5 hg5
      have hC5 : Cat w5 g x y o (i + 1) := hkk _ _ _ (by decide) (Blk.alloc hC4 _)
      have hR5 : Blk w5 w.heap.size 42 #[.int .i64 0, .int .u8 0, .int .u8 0, .int .u32 0, .int .u32 0] := hkk _ _ _ (by decide) (Blk.alloc (hR.but hk4 hC (by decide)) _)
      have hown7 : w5.ownsRow w.heap.size 31 1 (.slice A2 (i + 1) c2) (i + 1) ((outL x y o (i + 1)).map (Value.int .u8)) := by
        rw [outL_succ, List.map_append, ← HZ.out]
        exact hown6
      clear hown hown4 hown5 hown6 hg5 hcu hC hC4 hR hkk
      go_wp2_with fail
      go_roundw
      case rel => exact ⟨i + 1, A2, c2, by omega, by go_num, rfl, hown7, hC5, hR5, hb5⟩
      case measure => simp [intOf]; omega
    · have hlti : (M : Int) ≤ (i : Int) := by omega
      obtain rfl : i = M := by omega
      clear hlt hi hi0 hz0 hz1 hz2
      go_wp2_with (go_at_call 15; (with_reducible refine (HHI.out _ _ hC).mono ?_); rintro e w2 ⟨rfl, b2⟩; have hR2 := hR.on b2; have hR3 := hR2.alloc (.cells #[.int .i64 G.o, .int .u8 G.k, .int .u8 G.s, .int .u32 G.q, .int .u32 G.v] 42); have hlt1 := hR2.lt; have x0 := hR2.cell 0; have x1 := hR2.cell 1; have x2 := hR2.cell 2; have x3 := hR2.cell 3; have x4 := hR2.cell 4; have y0 := hR2.frozen 0; have y1 := hR2.frozen 1; have y2 := hR2.frozen 2; have y3 := hR2.frozen 3; have y4 := hR2.frozen 4; simp only [List.getElem?_toArray, List.getElem?_cons_zero, List.getElem?_cons_succ] at x0 x1 x2 x3 x4; have hb3 := below_then hb b2; have hown3 := owns_kept hown (KeptBut.below b2 []) (by simp); have hN3 := Blk.new w2 42 #[.int .i64 G.o, .int .u8 G.k, .int .u8 G.s, .int .u32 G.q, .int .u32 G.v])
      go_region
      all_goals (go_wp2_with fail)
      refine bodyPost_ret (v := .tuple #[.slice A' i c', .agg #[.int .i64 G.o, .int .u8 G.k, .int .u8 G.s, .int .u32 G.q, .int .u32 G.v], .bool r]) (by simp [results, Try.results20, go_sem, hlt1, x0, x1, x2, x3, x4]) rfl ⟨A', c', rfl, ?_, ?_⟩
      · have hk5 := ((((But.one (u := w2) (g := w.heap.size) 0 (.int .i64 G.o)).set 1 (.int .u8 G.k)).set 2 (.int .u8 G.s)).set 3 (.int .u32 G.q)).set 4 (.int .u32 G.v)
        have hfin := (owns_but hown3 hk5 hR2 (by decide)).alloc (.cells #[.int .i64 G.o, .int .u8 G.k, .int .u8 G.s, .int .u32 G.q, .int .u32 G.v] 42)
        rw [hX] at hfin
        exact hfin
      · exact (below_al (below_five hb3 (Nat.le_refl _) _ _ _ _ _) _).drew
/-- A frame's symbols, with a good tail. -/
def goodL (f : Fr) : List Int := ofL (putL f.body) ++ tailL true false
theorem goodL_length (f : Fr) : (goodL f).length = 114 := by rw [goodL, List.length_append, ofL_length, putL_length]; rfl
theorem good_is (f : Fr) (w : World) (hf : f.Fit) (hm : mayB f.o f.k = true) :
    Calls Try.prog 24 #[.int .i64 f.o, .agg #[.int .u8 f.k, .int .u8 f.s, .int .u32 f.q, .int .u32 f.v]] w fun e w' => ∃ g, e = .returned (.slice (some ⟨g, 0, none⟩) 114 114) ∧ w.heap.size ≤ g ∧ Blk w' g 31 (cellsOf .u8 (goodL f)) ∧ Below w.heap.size w w' := by
  have HS := Lib.hid (fun u => frSyms_yes f true false u hf hm)
  have HO := Lib.hid (fun u => law5_of_any f u)
  have hbe := below_al (Below.refl w.heap.size w) (.cells #[.int .u8 f.k, .int .u8 f.s, .int .u32 f.q, .int .u32 f.v] 40)
  have HBE := Lib.hid hbe
  clear hf hm hbe
  go_enter Try.func24, Try.ntmps24
  go_wp2_with (first
    | (go_at_call 25; (with_reducible refine (HO.out _).mono ?_); rintro e w1 ⟨rfl, b1⟩)
    | (go_at_call 40; (with_reducible refine (HS.out _).mono ?_); rintro e w2 ⟨g, rfl, hg, hB, b2⟩))
  go_ret
  exact ⟨g, rfl, Nat.le_trans (below_then HBE.out b1).size hg, hB, below_then (below_then HBE.out b1) b2⟩
end Go.Proofs.Ytpjcbfapkjipjaa

