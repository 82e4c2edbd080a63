/-
  The contracts of package wires' strung, New, End: the lines of all links, in new memory; the tick ends for all of them at once. Conditions: the table of directions is as the program's text lays it; the wires' reading; ticks are fewer than 2^62.
-/
import Derived.Test.YtgmoifbncijhdaaDoorWr2
import Derived.Test.YtgmoifbncijhdaaDoorRgQ
namespace Go.Proofs.YtgmoifbncijhdaaDoor
open Go.RowKit Rg
set_option linter.unusedVariables false

theorem ends_hop {n : Int} {k : Nat} (h1 : 4 ≤ n) (h2 : n ≤ 16) (hk : (k : Int) < 4 * n) : endHop n k = hopN k := by
  rw [endHop, if_pos (end_iff.2 ⟨h1, h2, by omega, hk⟩), hopN]
/-- A map whose lines are new, with nothing on them. -/
structure Str (w0 w : World) (m : Nat) (ps : List Nat) (n : Int) : Prop where
  map : MapW w m ps
  mlo : w0.heap.size ≤ m
  lns : ∀ i, i < ps.length → OnI w (ps.getD i 0) (hopN i) 0 none none
  plo : ∀ i, i < ps.length → m < ps.getD i 0
  inj : ∀ i j, i < j → j < ps.length → ps.getD i 0 < ps.getD j 0
  low : Below w0.heap.size w0 w
theorem Str.on {w0 w w' : World} {m : Nat} {ps : List Nat} {n : Int} (h : Str w0 w m ps n) (hb : Below w.heap.size w w') : Str w0 w' m ps n :=
  ⟨h.map.on hb, h.mlo, fun i hi => (h.lns i hi).on hb, h.plo, h.inj, below_then h.low hb⟩
theorem Str.put {w0 u w w' : World} {m : Nat} {ps : List Nat} {n : Int} (h : Str w0 u m ps n) (hb : Below u.heap.size u w) (hL : OnI w u.heap.size (hopN ps.length) 0 none none) (hm : MapW w' m (ps ++ [u.heap.size])) (hB : But m w w') : Str w0 w' m (ps ++ [u.heap.size]) n := by
  have h' := h.on hb
  have hlt : ∀ i, i < ps.length → ps.getD i 0 < u.heap.size := fun i hi => (h.lns i hi).lt
  have hg : ∀ i, i < ps.length → (ps ++ [u.heap.size]).getD i 0 = ps.getD i 0 := fun i hi => by simp [List.getD, List.getElem?_append_left hi]
  have hg' : (ps ++ [u.heap.size]).getD ps.length 0 = u.heap.size := by simp [List.getD]
  have hml := h.map.lt
  refine ⟨hm, h.mlo, fun i hi => ?_, fun i hi => ?_, fun i j hij hj => ?_, h'.low.trans (hB.low h.mlo)⟩
  · rw [List.length_append, List.length_singleton] at hi
    by_cases e : i = ps.length
    · subst e; rw [hg']; exact hL.but hB (by omega)
    · rw [hg i (by omega)]; exact (h'.lns i (by omega)).but hB (by have := h.plo i (by omega); omega)
  · rw [List.length_append, List.length_singleton] at hi
    by_cases e : i = ps.length
    · subst e; rw [hg']; exact hml
    · rw [hg i (by omega)]; exact h.plo i (by omega)
  · rw [List.length_append, List.length_singleton] at hj
    by_cases e : j = ps.length
    · subst e; rw [hg', hg i hij]; exact hlt i hij
    · rw [hg i (by omega), hg j (by omega)]; exact h.inj i j hij (by omega)
set_option maxRecDepth 100000 in
theorem strung_is (n : Int) (hn1 : 4 ≤ n) (hn2 : n ≤ 16) (w : World) (hw : Ways w) :
    Calls Tryd.prog 26 #[.int .i64 n] w fun e w' => ∃ m ps, e = .returned (.map (some m)) ∧ Str w w' m ps n ∧ (ps.length : Int) = 4 * n := by
  have hmk := fun W => run_makeMap (P := Tryd.prog) 49 W
  have HS0 := Lib.hid (show Str w (w.alloc (.map #[] 0)) w.heap.size [] n from ⟨MapW.new w, Nat.le_refl _, fun i hi => absurd hi (by simp), fun i hi => absurd hi (by simp), fun i j _ hj => absurd hj (by simp), (Below.refl _ _).alloc (Nat.le_refl _) _⟩)
  have HW := Lib.hid hw
  clear hw
  go_enter Tryd.func26, Tryd.ntmps26
  go_wp2_with fail
  go_loopw [4] (fun s4 wr => ∃ k : Nat, (k : Int) ≤ 4 * n ∧ s4 = .int .i64 (k : Int) ∧ Hid (∃ ps, ps.length = k ∧ Str w wr w.heap.size ps n)) (fun s4 _ => (4 * n - intOf s4).toNat)
  case atStart => exact ⟨0, by omega, rfl, Lib.hid ⟨[], rfl, HS0.out⟩⟩
  case round =>
    obtain ⟨k, hk, rfl, HI⟩ := hrel
    obtain ⟨ps, hps, hS⟩ := HI.out
    clear HI
    have hwr := HW.out.on hS.low
    by_cases hlt : (k : Int) < 4 * n
    · have HE := Lib.hid (ends_is n k _ _ _ (hopN k) rfl rfl rfl (ends_hop hn1 hn2 hlt) wr hwr (by omega) (by omega))
      obtain ⟨p1, e1⟩ : ∃ p, p = endFrom n k := ⟨_, rfl⟩
      obtain ⟨p2, e2⟩ : ∃ p, p = endTo n k := ⟨_, rfl⟩
      obtain ⟨p3, e3⟩ : ∃ p, p = endDir n k := ⟨_, rfl⟩
      rw [← e1, ← e2, ← e3] at HE
      have HN := Lib.hid (fun W => newI_is (hopN k) W (hopN_ok k))
      have HH := Lib.hid (show hopN ps.length = hopN k by rw [hps])
      obtain ⟨hk', e4⟩ : ∃ p, p = hopN k := ⟨_, rfl⟩
      rw [← e4] at HE HN HH
      have hwk : IntKind.i64.wrap ((k : Int) + 1) = ((k + 1 : Nat) : Int) := by rw [IntWalk.i64_in _ (by omega)]; omega
      have HPS := Lib.hid hps
      have HSS := Lib.hid hS
      have HLE := Lib.hid (show ps.length ≤ 64 by omega)
      clear e1 e2 e3 e4 hps hS hwr
      go_wp2_with (first
        | (go_at_call 22; (with_reducible refine HE.out.mono ?_); rintro e w1 ⟨rfl, b1⟩; have HS1 := Lib.hid (HSS.out.on b1))
        | (go_at_call 38; (with_reducible refine (HN.out w1).mono ?_); rintro e w2 ⟨rfl, hL2, b2⟩; obtain ⟨w3, hmu, hM3, hB3⟩ := map_put (HS1.out.on b2).map HLE.out w1.heap.size; rw [HPS.out] at hmu; have HQ := Lib.hid (HS1.out.put b2 (by rw [HH.out]; exact hL2) hM3 hB3); clear hL2 hM3 hB3))
      go_roundw
      case rel => exact ⟨k + 1, by omega, rfl, Lib.hid ⟨_, by rw [List.length_append, HPS.out]; rfl, HQ.out⟩⟩
      case measure => simp [intOf]; omega
    · have ek : (k : Int) = 4 * n := by omega
      have hF := end_no n
      have HE := Lib.hid (ends_is n k (-1) (-1) 0 0 (by rw [ek, endFrom, hF]; rfl) (by rw [ek, endTo, hF]; rfl) (by rw [ek, endDir, hF]; rfl) (by rw [ek, endHop, hF]; rfl) wr hwr (by omega) (by omega))
      have HN := Lib.hid (fun W => newI_no 0 W (by decide) (by decide))
      have HPS := Lib.hid (show (ps.length : Int) = 4 * n by omega)
      have HSS := Lib.hid hS
      clear hF hps hS hwr ek
      go_wp2_with (first
        | (go_at_call 22; (with_reducible refine HE.out.mono ?_); rintro e w1 ⟨rfl, b1⟩)
        | (go_at_call 38; (with_reducible refine (HN.out w1).mono ?_); rintro e w2 ⟨rfl, b2⟩))
      go_ret
      exact ⟨w.heap.size, ps, rfl, (HSS.out.on b1).on b2, HPS.out⟩
set_option maxRecDepth 100000 in
theorem strung_no (n : Int) (hn : ¬ (4 ≤ n ∧ n ≤ 16)) (w : World) (hw : Ways w) :
    Calls Tryd.prog 26 #[.int .i64 n] w fun e w' => ∃ m, e = .returned (.map (some m)) ∧ MapW w' m [] ∧ Below w.heap.size w w' := by
  have hmk := fun W => run_makeMap (P := Tryd.prog) 49 W
  have HB0 := Lib.hid (show Below w.heap.size w (w.alloc (.map #[] 0)) from (Below.refl _ _).alloc (Nat.le_refl _) _)
  have HM0 := Lib.hid (MapW.new w)
  have hF : endB n 0 = false := bfalse (fun h => hn (by have := end_iff.1 h; omega))
  have HE := Lib.hid (ends_is n 0 (-1) (-1) 0 0 (by rw [endFrom, hF]; rfl) (by rw [endTo, hF]; rfl) (by rw [endDir, hF]; rfl) (by rw [endHop, hF]; rfl) (w.alloc (.map #[] 0)) (hw.al _) (by omega) (by omega))
  have HN := Lib.hid (fun W => newI_no 0 W (by decide) (by decide))
  clear hw hn hF
  go_enter Tryd.func26, Tryd.ntmps26
  go_wp2_with fail
  go_loopw [4] (fun s4 wr => s4 = .int .i64 0 ∧ wr = w.alloc (.map #[] 0)) (fun _ _ => 0)
  case atStart => exact ⟨rfl, rfl⟩
  case round =>
    obtain ⟨rfl, rfl⟩ := hrel
    go_wp2_with (first
      | (go_at_call 22; (with_reducible refine HE.out.mono ?_); rintro e w1 ⟨rfl, b1⟩)
      | (go_at_call 38; (with_reducible refine (HN.out w1).mono ?_); rintro e w2 ⟨rfl, b2⟩))
    go_ret
    exact ⟨w.heap.size, rfl, (HM0.out.on b1).on b2, below_then (below_then HB0.out b1) b2⟩
theorem new_no (n : Int) (hn : ¬ (4 ≤ n ∧ n ≤ 16)) (w : World) (hw : Ways w) :
    Calls Tryd.prog 9 #[.int .i64 n] w fun e w' => e = .returned (.tuple #[.pointer none, .int .i64 1]) ∧ Below w.heap.size w w' := by
  have HS := Lib.hid (strung_no n hn w hw)
  clear hn hw
  go_enter Tryd.func9, Tryd.ntmps9
  go_wp2_with (go_at_call 26; (with_reducible refine HS.out.mono ?_); rintro e w1 ⟨m, rfl, hM, b1⟩; have hlen := fun ty => len_mapW hM ty)
  go_ret2
  exact ⟨rfl, b1⟩
def noneW : Nat → Option Int := fun _ => none
theorem wir_new {w0 w : World} {m n : Nat} {ps : List Nat} (h : Str w0 w m ps n) (hl : ps.length = 4 * n) (h1 : 4 ≤ n) (h2 : n ≤ 16) (w' : World) (hw' : w' = (w.alloc (.cells (gfC (fun _ => none) (4 * n)).toArray 69)).alloc (.cells #[.map (some m), .int .i64 (n : Int), .slice (some ⟨w.heap.size, 0, none⟩) (4 * n) (4 * n)] 52)) :
    ∃ L : Lay, (w.heap.size + 1 = L.g) ∧ L.Ok ∧ L.n = n ∧ L.b0 = w0.heap.size ∧ L.b1 = w'.heap.size ∧ Wir L w' 0 noneW noneW noneW ∧ Below w0.heap.size w0 w' := by
  subst hw'
  have hb1 : Below w.heap.size w (w.alloc (.cells (gfC (fun _ => none) (4 * n)).toArray 69)) := (Below.refl _ _).alloc (Nat.le_refl _) _
  have hb2 := below_al hb1 (.cells #[.map (some m), .int .i64 (n : Int), .slice (some ⟨w.heap.size, 0, none⟩) (4 * n) (4 * n)] 52)
  have h' := h.on hb2
  have hlow := h.low.size
  have hml := h.map.lt
  have hmlo := h.mlo
  refine ⟨⟨w.heap.size + 1, m, w.heap.size, ps, n, w0.heap.size, ((w.alloc (.cells (gfC (fun _ => none) (4 * n)).toArray 69)).alloc (.cells #[.map (some m), .int .i64 (n : Int), .slice (some ⟨w.heap.size, 0, none⟩) (4 * n) (4 * n)] 52)).heap.size⟩, rfl, ⟨h1, h2, hl, ?_, ?_, ?_, fun i hi => ?_, fun i j hi hj e => ?_⟩, rfl, rfl, rfl, ⟨?_, h'.map, ?_, fun i hi => ?_⟩, h'.low⟩
  · simp only [alloc_size]; omega
  · simp only [alloc_size]; omega
  · simp only [alloc_size]; omega
  · have hi' : i < ps.length := by simp only at hi; omega
    have q1 := h.plo i hi'
    have q2 := (h.lns i hi').lt
    simp only [alloc_size]; omega
  · simp only at hi hj e
    rcases Nat.lt_trichotomy i j with q | q | q
    · have := h.inj i j q (by omega); omega
    · exact q
    · have := h.inj j i q (by omega); omega
  · have := Blk.new (w.alloc (.cells (gfC (fun _ => none) (4 * n)).toArray 69)) 52 #[.map (some m), .int .i64 (n : Int), .slice (some ⟨w.heap.size, 0, none⟩) (4 * n) (4 * n)]
    simpa only [alloc_size] using this
  · exact (Blk.new w 69 (gfC (fun _ => none) (4 * n)).toArray).alloc _
  · exact h'.lns i (by simp only at hi; omega)
set_option maxRecDepth 100000 in
theorem new_is (n : Nat) (h1 : 4 ≤ n) (h2 : n ≤ 16) (w : World) (hw : Ways w) :
    Calls Tryd.prog 9 #[.int .i64 (n : Int)] w fun e w' => ∃ L : Lay, e = .returned (.tuple #[.pointer (some ⟨L.g, 0, none⟩), .int .i64 0]) ∧ L.Ok ∧ L.n = n ∧ L.b0 = w.heap.size ∧ L.b1 = w'.heap.size ∧ Wir L w' 0 noneW noneW noneW ∧ Below w.heap.size w w' := by
  have HS := Lib.hid (strung_is (n : Int) (by omega) (by omega) w hw)
  have HWN := Lib.hid (fun (u : World) (m : Nat) (ps : List Nat) (h : Str w u m ps n) (hl : ps.length = 4 * n) (w' : World) hw' => wir_new h hl h1 h2 w' hw')
  have HMK := Lib.hid (fun W => makeGf (4 * n) (by omega) W)
  obtain ⟨N, hN⟩ : ∃ N, N = 4 * n := ⟨_, rfl⟩
  have HN4 := Lib.hid hN
  rw [← hN] at HMK HWN
  have hN0 : ((N : Int) == 0) = false := by rw [beq_eq_false_iff_ne]; omega
  have hN0' : (N == 0) = false := by rw [beq_eq_false_iff_ne]; omega
  have hmk := HMK.out
  clear h1 h2 hw hN HMK
  go_enter Tryd.func9, Tryd.ntmps9
  go_wp2_with (go_at_call 26; (with_reducible refine HS.out.mono ?_); rintro e w1 ⟨m, ps, rfl, hS, hl⟩; have HL := Lib.hid (show ps.length = N by have := HN4.out; omega); clear hl; have hlen := fun ty => len_mapW hS.map ty; rw [HL.out] at hlen; have HSS := Lib.hid hS; clear hS)
  go_ret2
  obtain ⟨L, q1, q2, q3, q4, q5, q6, q7⟩ := HWN.out w1 m ps HSS.out HL.out _ rfl
  exact ⟨L, by simp only [q1]; rfl, q2, q3, q4, q5, q6, q7⟩
end Go.Proofs.YtgmoifbncijhdaaDoor
