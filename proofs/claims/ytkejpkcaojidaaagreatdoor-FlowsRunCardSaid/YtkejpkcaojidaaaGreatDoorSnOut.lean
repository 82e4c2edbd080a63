/-
  The law SendersOut, walked: whether there is a sender, what it sends, and at which places, is the chapter's: true; nothing that was there has turned. Conditions: the config's reading; both tables are as the program's text lays them; the offers' numbers are of their kinds.
-/
import Derived.Test.YtkejpkcaojidaaaGreatDoorSn4
import Derived.Test.YtkejpkcaojidaaaGreatDoorWn4
import Derived.Test.YtkejpkcaojidaaaGreatDoorWnR1
import Derived.Test.YtkejpkcaojidaaaGreatDoorCfRef4
import Derived.Deep.RegionLaw
namespace Go.Proofs.YtkejpkcaojidaaaGreatDoor
set_option linter.unusedVariables false
set_option linter.unusedSimpArgs false
open Go.RowKit Rg
set_option linter.unusedVariables false

theorem Blk.rs {w : World} {g : Nat} {c : Cf} {x o : Int} {b : Bool} {f : Fr} {A : Option Addr} {n cp : Nat} (h : Blk w g 128 #[.int .i64 c.N, .slice c.pA c.pn c.pc, .slice c.sA c.sn c.sc, .int .i64 c.L, .slice c.bA c.bn c.bc, .slice c.tA c.tn c.tc, .int .i64 c.M, .int .i64 c.G, .int .i64 c.F, .int .i64 x, .int .i64 o, .bool b, .int .u8 f.k, .int .u8 f.s, .int .u32 f.q, .int .u32 f.v, .slice A n cp]) : w.cell? ⟨g, 0, none⟩ = some (.int .i64 c.N) ∧ w.cell? ⟨g, 1, none⟩ = some (.slice c.pA c.pn c.pc) ∧ w.cell? ⟨g, 2, none⟩ = some (.slice c.sA c.sn c.sc) ∧ w.cell? ⟨g, 3, none⟩ = some (.int .i64 c.L) ∧ w.cell? ⟨g, 4, none⟩ = some (.slice c.bA c.bn c.bc) ∧ w.cell? ⟨g, 5, none⟩ = some (.slice c.tA c.tn c.tc) ∧ w.cell? ⟨g, 6, none⟩ = some (.int .i64 c.M) ∧ w.cell? ⟨g, 7, none⟩ = some (.int .i64 c.G) ∧ w.cell? ⟨g, 8, none⟩ = some (.int .i64 c.F) ∧ w.cell? ⟨g, 9, none⟩ = some (.int .i64 x) ∧ w.cell? ⟨g, 10, none⟩ = some (.int .i64 o) ∧ w.cell? ⟨g, 11, none⟩ = some (.bool b) ∧ w.cell? ⟨g, 12, none⟩ = some (.int .u8 f.k) ∧ w.cell? ⟨g, 13, none⟩ = some (.int .u8 f.s) ∧ w.cell? ⟨g, 14, none⟩ = some (.int .u32 f.q) ∧ w.cell? ⟨g, 15, none⟩ = some (.int .u32 f.v) ∧ w.cell? ⟨g, 16, none⟩ = some (.slice A n cp) ∧ g < w.heap.size :=
  ⟨(h.cell 0).trans rfl, (h.cell 1).trans rfl, (h.cell 2).trans rfl, (h.cell 3).trans rfl, (h.cell 4).trans rfl, (h.cell 5).trans rfl, (h.cell 6).trans rfl, (h.cell 7).trans rfl, (h.cell 8).trans rfl, (h.cell 9).trans rfl, (h.cell 10).trans rfl, (h.cell 11).trans rfl, (h.cell 12).trans rfl, (h.cell 13).trans rfl, (h.cell 14).trans rfl, (h.cell 15).trans rfl, (h.cell 16).trans rfl, h.lt⟩
theorem Blk.wr {w : World} {g : Nat} {X : Wn} (h : Blk w g 101 #[.int .i64 X.r, .int .i64 X.p, .int .i64 X.b, .int .i64 X.e]) : w.cell? ⟨g, 0, none⟩ = some (.int .i64 X.r) ∧ w.cell? ⟨g, 1, none⟩ = some (.int .i64 X.p) ∧ w.cell? ⟨g, 2, none⟩ = some (.int .i64 X.b) ∧ w.cell? ⟨g, 3, none⟩ = some (.int .i64 X.e) ∧ g < w.heap.size :=
  ⟨(h.cell 0).trans rfl, (h.cell 1).trans rfl, (h.cell 2).trans rfl, (h.cell 3).trans rfl, h.lt⟩
/-- The reference's sender. -/

def RSen (w : World) (v : Value) (c : Cf) (x o : Int) (b : Bool) (f : Fr) (A : Option Addr) (n cp : Nat) : Prop := ∃ g, v = .pointer (some ⟨g, 0, none⟩) ∧ Blk w g 128 #[.int .i64 c.N, .slice c.pA c.pn c.pc, .slice c.sA c.sn c.sc, .int .i64 c.L, .slice c.bA c.bn c.bc, .slice c.tA c.tn c.tc, .int .i64 c.M, .int .i64 c.G, .int .i64 c.F, .int .i64 x, .int .i64 o, .bool b, .int .u8 f.k, .int .u8 f.s, .int .u32 f.q, .int .u32 f.v, .slice A n cp] ∧ CfIn w c
theorem RSen.on {w w' : World} {v : Value} {c : Cf} {x o : Int} {b : Bool} {f : Fr} {A : Option Addr} {n cp : Nat} (h : RSen w v c x o b f A n cp) (hb : Below w.heap.size w w') : RSen w' v c x o b f A n cp := by
  obtain ⟨g, e, h1, h2⟩ := h
  exact ⟨g, e, h1.on hb, h2.on hb⟩
set_option maxRecDepth 100000 in
set_option maxHeartbeats 4000000 in
theorem way_is (c : Cf) (x o d q : Int) (b : Bool) (f : Fr) (L : List Int) (A : Option Addr) (n cp : Nat) (X : Wn) (hX : ofW c.N c.P d o x = X) (h0 : newE c = 0) (hd : 0 ≤ d) (hd' : d ≤ 255) (r : Int) (hr : (if b = true then outM L X q else 0) = r) (v : Value) (w : World) (h : RSen w v c x o b f A n cp) (hL : b = true → n = 114 ∧ (X.e = X.b + 114 ∨ X.e = X.b) ∧ Lies .u8 w w.heap.size A n L) :
    Calls Tryz.prog 58 #[v, .int .u8 d, .int .i64 q] w fun e w' => e = .returned (.int .u8 r) ∧ Below w.heap.size w w' := by
  obtain ⟨g, rfl, hB, hc⟩ := h
  have HFT := Lib.hid (show WnFit X by rw [← hX]; exact fit_of _ _ _ _ _)
  obtain ⟨E, hE⟩ : ∃ E, ofWE c.N c.P d o x = E := ⟨_, rfl⟩
  obtain ⟨i, hi⟩ : ∃ i, opI X q = i := ⟨_, rfl⟩
  obtain ⟨t, ht⟩ : ∃ t, opB X q = t := ⟨_, rfl⟩
  have HI := Lib.hid hi
  have HT := Lib.hid ht
  have HREF := Lib.hid (fun u (hu : Below w.heap.size w u) => refOfW_is c d o x X hX E hE u (hc.on hu) h0 hd hd')
  have HB := Lib.hid hB
  obtain ⟨s0, s1, s2, s3, s4, s5, s6, s7, s8, s9, s10, s11, s12, s13, s14, s15, s16, sl⟩ := hB.rs
  have sf := hB.frozen
  clear hX hE hd hd' hB hc h0
  go_enter Tryz.func58, Tryz.ntmps58
  go_upto_region 1 with fail
  go_cut [7, 8] from 11 to 27 (fun s7 s8 wx => ∃ g7 : Nat, s7 = .pointer (some ⟨g7, 0, none⟩) ∧ s8 = .int .i64 E ∧ Blk wx g7 101 #[.int .i64 X.r, .int .i64 X.p, .int .i64 X.b, .int .i64 X.e] ∧ Below w.heap.size w wx)
  case first =>
    clear hi ht hr hL HI HT HFT HB
    go_region_law (go_simp; go_at_call 31; with_reducible refine (HREF.out _ (by first | exact (Below.refl _ _).drew | exact below_al (Below.refl _ _).drew _ | exact (below_al (Below.refl _ _) _).drew)).mono ?_; rintro e w2 ⟨rfl, b2⟩; have hb2 : Below w.heap.size w w2 := (by first | exact below_then (Below.refl _ _).drew b2 | exact below_then (below_al (Below.refl _ _) _).drew b2 | exact below_then (below_al (Below.refl _ _).drew _) b2); first | (have hZ2 : Blk w2 w.heap.size 101 #[.int .i64 0, .int .i64 0, .int .i64 0, .int .i64 0] := Blk.on (Blk.new w 101 #[.int .i64 0, .int .i64 0, .int .i64 0, .int .i64 0]) b2; obtain ⟨z0, z1, z2, z3, zl⟩ := hZ2.wr (X := ⟨0, 0, 0, 0⟩); have zf := hZ2.frozen) | (have hZ2 : Blk w2 w.heap.size 101 #[.int .i64 0, .int .i64 0, .int .i64 0, .int .i64 0] := Blk.on (Blk.new w.drew 101 #[.int .i64 0, .int .i64 0, .int .i64 0, .int .i64 0]) b2; obtain ⟨z0, z1, z2, z3, zl⟩ := hZ2.wr (X := ⟨0, 0, 0, 0⟩); have zf := hZ2.frozen) | skip)
    all_goals
      go_wp2_with fail
      go_meet
      first
        | exact ⟨_, rfl, rfl, hZ2.put4 _ _ _ _, below_four hb2 (Nat.le_refl _) _ _ _ _⟩
        | exact ⟨_, rfl, rfl, Blk.new _ _ _, below_al hb2 _⟩
  case rest =>
    obtain ⟨g7, e7, e8, hW, hb⟩ := hcut
    subst e7 e8
    clear HREF s0 s1 s2 s3 s4 s5 s6 s7 s8 s9 s10 s11 s12 s13 s14 s15 s16 sl sf
    obtain ⟨z0, z1, z2, z3, zl⟩ := hW.wr
    cases b with
    | false =>
      have HR := Lib.hid (show 0 = r from hr)
      clear hr hL ht hi
      cases t with
      | false =>
        go_wp2_with (go_at_call 32; (with_reducible refine (refAt_is X q _ HI.out false HT.out _ HFT.out).mono ?_); rintro e w3 ⟨rfl, b3⟩; have hb3 := below_then hb b3; have hB3 := HB.out.on hb3; obtain ⟨s0, s1, s2, s3, s4, s5, s6, s7, s8, s9, s10, s11, s12, s13, s14, s15, s16, sl⟩ := hB3.rs; clear z0 z1 z2 z3 zl)
        go_ret
        exact ⟨ret_int HR.out, hb3⟩
      | true =>
        go_wp2_with (go_at_call 32; (with_reducible refine (refAt_is X q _ HI.out true HT.out _ HFT.out).mono ?_); rintro e w3 ⟨rfl, b3⟩; have hb3 := below_then hb b3; have hB3 := HB.out.on hb3; obtain ⟨s0, s1, s2, s3, s4, s5, s6, s7, s8, s9, s10, s11, s12, s13, s14, s15, s16, sl⟩ := hB3.rs; clear z0 z1 z2 z3 zl)
        go_ret
        exact ⟨ret_int HR.out, hb3⟩
    | true =>
      obtain ⟨hn, hXl, hL⟩ := hL rfl
      rw [if_pos rfl] at hr
      cases t with
      | false =>
        have HR := Lib.hid (show 0 = r by rw [← hr, outM, HT.out]; rfl)
        clear hr hL hXl ht hi hn
        go_wp2_with (go_at_call 32; (with_reducible refine (refAt_is X q _ HI.out false HT.out _ HFT.out).mono ?_); rintro e w3 ⟨rfl, b3⟩; have hb3 := below_then hb b3; have hB3 := HB.out.on hb3; obtain ⟨s0, s1, s2, s3, s4, s5, s6, s7, s8, s9, s10, s11, s12, s13, s14, s15, s16, sl⟩ := hB3.rs; clear z0 z1 z2 z3 zl)
        go_ret
        exact ⟨ret_int HR.out, hb3⟩
      | true =>
        have hi2 : 0 ≤ i ∧ i < 114 := by
          have h1 := ht
          rw [opI, h1, if_pos rfl] at hi
          simp only [opB, decide_eq_true_eq] at h1
          omega
        obtain ⟨j, hj⟩ : ∃ j : Nat, i = j := ⟨i.toNat, by omega⟩
        subst hj
        subst hn
        obtain ⟨lb, lo, hA, hbl, hlc⟩ := hL.at_ (by omega)
        have hix := fun W => idxSyms (n := 114) cp hA (show j < 114 by omega) W
        have HR := Lib.hid (show L.getD j 0 = r by rw [← hr, outM, if_pos ht, hi]; rfl)
        have HLC := Lib.hid (hlc j (by omega))
        have HLB := Lib.hid hbl
        clear hr hXl ht hi hi2 hL hlc hbl hA
        go_wp2_with (go_at_call 32; (with_reducible refine (refAt_is X q _ HI.out true HT.out _ HFT.out).mono ?_); rintro e w3 ⟨rfl, b3⟩; have hb3 := below_then hb b3; have hB3 := HB.out.on hb3; obtain ⟨s0, s1, s2, s3, s4, s5, s6, s7, s8, s9, s10, s11, s12, s13, s14, s15, s16, sl⟩ := hB3.rs; clear z0 z1 z2 z3 zl; have lc := (hb3.cell (p := ⟨lb, lo + j, none⟩) HLB.out).trans HLC.out; have ll := Nat.lt_of_lt_of_le HLB.out hb3.size)
        go_ret
        exact ⟨ret_int HR.out, hb3⟩
end Go.Proofs.YtkejpkcaojidaaaGreatDoor

namespace Go.Proofs.YtkejpkcaojidaaaGreatDoor
open Go.RowKit Rg
set_option linter.unusedVariables false

/-- What the reference's sender gives: of a silent one, of one that sends. -/
theorem rout_is (c : Cf) (x o q : Int) (b : Bool) (f : Fr) (L : List Int) (A : Option Addr) (n cp : Nat) (X Y : Wn) (hX : ofW c.N c.P 0 o x = X) (hY : ofW c.N c.P 1 o x = Y) (h0 : newE c = 0) (ra rb : Int) (hra : (if b = true then outM L X q else 0) = ra) (hrb : (if b = true then outM L Y q else 0) = rb) (v : Value) (w : World) (h : RSen w v c x o b f A n cp) (hL : b = true → n = 114 ∧ (X.e = X.b + 114 ∨ X.e = X.b) ∧ (Y.e = Y.b + 114 ∨ Y.e = Y.b) ∧ Lies .u8 w w.heap.size A n L) :
    Calls Tryz.prog 30 #[v, .int .i64 q] w fun e w' => e = .returned (.tuple #[.int .u8 ra, .int .u8 rb]) ∧ Below w.heap.size w w' := by
  have H1 := Lib.hid (way_is c x o 0 q b f L A n cp X hX h0 (by decide) (by decide) ra hra v w h fun hb => ⟨(hL hb).1, (hL hb).2.1, (hL hb).2.2.2⟩)
  have H2 := Lib.hid (fun u (hu : Below w.heap.size w u) => way_is c x o 1 q b f L A n cp Y hY h0 (by decide) (by decide) rb hrb v u (h.on hu) fun hb => ⟨(hL hb).1, (hL hb).2.2.1, (hL hb).2.2.2.on hu⟩)
  clear hX hY h0 hra hrb h hL
  go_enter Tryz.func30, Tryz.ntmps30
  go_wp2_with (first
    | (go_at_call 58; (with_reducible refine H1.out.mono ?_); rintro e w1 ⟨rfl, b1⟩)
    | (go_at_call 58; (with_reducible refine (H2.out _ b1).mono ?_); rintro e w2 ⟨rfl, b2⟩))
  exact bodyPost_ret (v := .tuple #[.int .u8 ra, .int .u8 rb]) (by simp [results, Tryz.results30, go_sem]) rfl ⟨rfl, below_then b1 b2⟩

/-- What lies in 114 cells is in no small block. -/
theorem lies_small {w : World} {k : IntKind} {g i : Nat} {t : TypeId} {cs : Array Value} {A : Option Addr} {L : List Int} (v : Value) (hB : Blk w g t cs) (hs : cs.size ≤ 113) (h : Lies k w w.heap.size A 114 L) : Lies k (w.setCell ⟨g, i, none⟩ v) (w.setCell ⟨g, i, none⟩ v).heap.size A 114 L :=
  ⟨h.1, fun hn => by
    obtain ⟨b, off, e, hb, hc⟩ := h.2 hn
    have hne : b ≠ g := by
      rintro rfl
      have := hc 113 (by omega)
      rw [hB.cell, Array.getElem?_eq_none (by omega)] at this
      cases this
    refine ⟨b, off, e, by simpa using hb, fun j hj => ?_⟩
    have := hc j hj
    unfold World.cell? at this ⊢
    rw [Below.heap_setCell w ⟨g, i, none⟩ v b hne]
    exact this⟩
theorem rs_fill {w a : World} {g : Nat} {c : Cf} {x o : Int} {f : Fr} {A : Option Addr} {cp : Nat} {L : List Int} (h : Blk w g 128 #[.int .i64 c.N, .slice c.pA c.pn c.pc, .slice c.sA c.sn c.sc, .int .i64 c.L, .slice c.bA c.bn c.bc, .slice c.tA c.tn c.tc, .int .i64 c.M, .int .i64 c.G, .int .i64 c.F, .int .i64 x, .int .i64 o, .bool false, .int .u8 0, .int .u8 0, .int .u32 0, .int .u32 0, .slice none 0 0]) (hL : Lies .u8 w w.heap.size A 114 L) (hb : Below a.heap.size a w) (hg : a.heap.size ≤ g) :
    Blk ((((((w.setCell ⟨g, 11, none⟩ (.bool true)).setCell ⟨g, 12, none⟩ (.int .u8 f.k)).setCell ⟨g, 13, none⟩ (.int .u8 f.s)).setCell ⟨g, 14, none⟩ (.int .u32 f.q)).setCell ⟨g, 15, none⟩ (.int .u32 f.v)).setCell ⟨g, 16, none⟩ (.slice A 114 cp)) g 128 #[.int .i64 c.N, .slice c.pA c.pn c.pc, .slice c.sA c.sn c.sc, .int .i64 c.L, .slice c.bA c.bn c.bc, .slice c.tA c.tn c.tc, .int .i64 c.M, .int .i64 c.G, .int .i64 c.F, .int .i64 x, .int .i64 o, .bool true, .int .u8 f.k, .int .u8 f.s, .int .u32 f.q, .int .u32 f.v, .slice A 114 cp] ∧
    Lies .u8 ((((((w.setCell ⟨g, 11, none⟩ (.bool true)).setCell ⟨g, 12, none⟩ (.int .u8 f.k)).setCell ⟨g, 13, none⟩ (.int .u8 f.s)).setCell ⟨g, 14, none⟩ (.int .u32 f.q)).setCell ⟨g, 15, none⟩ (.int .u32 f.v)).setCell ⟨g, 16, none⟩ (.slice A 114 cp)) ((((((w.setCell ⟨g, 11, none⟩ (.bool true)).setCell ⟨g, 12, none⟩ (.int .u8 f.k)).setCell ⟨g, 13, none⟩ (.int .u8 f.s)).setCell ⟨g, 14, none⟩ (.int .u32 f.q)).setCell ⟨g, 15, none⟩ (.int .u32 f.v)).setCell ⟨g, 16, none⟩ (.slice A 114 cp)).heap.size A 114 L ∧
    Below a.heap.size a ((((((w.setCell ⟨g, 11, none⟩ (.bool true)).setCell ⟨g, 12, none⟩ (.int .u8 f.k)).setCell ⟨g, 13, none⟩ (.int .u8 f.s)).setCell ⟨g, 14, none⟩ (.int .u32 f.q)).setCell ⟨g, 15, none⟩ (.int .u32 f.v)).setCell ⟨g, 16, none⟩ (.slice A 114 cp)) := by
  have h1 : Blk (w.setCell ⟨g, 11, none⟩ (.bool true)) g 128 #[.int .i64 c.N, .slice c.pA c.pn c.pc, .slice c.sA c.sn c.sc, .int .i64 c.L, .slice c.bA c.bn c.bc, .slice c.tA c.tn c.tc, .int .i64 c.M, .int .i64 c.G, .int .i64 c.F, .int .i64 x, .int .i64 o, .bool true, .int .u8 0, .int .u8 0, .int .u32 0, .int .u32 0, .slice none 0 0] := h.set_ 11 _
  have h2 : Blk ((w.setCell ⟨g, 11, none⟩ (.bool true)).setCell ⟨g, 12, none⟩ (.int .u8 f.k)) g 128 #[.int .i64 c.N, .slice c.pA c.pn c.pc, .slice c.sA c.sn c.sc, .int .i64 c.L, .slice c.bA c.bn c.bc, .slice c.tA c.tn c.tc, .int .i64 c.M, .int .i64 c.G, .int .i64 c.F, .int .i64 x, .int .i64 o, .bool true, .int .u8 f.k, .int .u8 0, .int .u32 0, .int .u32 0, .slice none 0 0] := h1.set_ 12 _
  have h3 : Blk (((w.setCell ⟨g, 11, none⟩ (.bool true)).setCell ⟨g, 12, none⟩ (.int .u8 f.k)).setCell ⟨g, 13, none⟩ (.int .u8 f.s)) g 128 #[.int .i64 c.N, .slice c.pA c.pn c.pc, .slice c.sA c.sn c.sc, .int .i64 c.L, .slice c.bA c.bn c.bc, .slice c.tA c.tn c.tc, .int .i64 c.M, .int .i64 c.G, .int .i64 c.F, .int .i64 x, .int .i64 o, .bool true, .int .u8 f.k, .int .u8 f.s, .int .u32 0, .int .u32 0, .slice none 0 0] := h2.set_ 13 _
  have h4 : Blk ((((w.setCell ⟨g, 11, none⟩ (.bool true)).setCell ⟨g, 12, none⟩ (.int .u8 f.k)).setCell ⟨g, 13, none⟩ (.int .u8 f.s)).setCell ⟨g, 14, none⟩ (.int .u32 f.q)) g 128 #[.int .i64 c.N, .slice c.pA c.pn c.pc, .slice c.sA c.sn c.sc, .int .i64 c.L, .slice c.bA c.bn c.bc, .slice c.tA c.tn c.tc, .int .i64 c.M, .int .i64 c.G, .int .i64 c.F, .int .i64 x, .int .i64 o, .bool true, .int .u8 f.k, .int .u8 f.s, .int .u32 f.q, .int .u32 0, .slice none 0 0] := h3.set_ 14 _
  have h5 : Blk (((((w.setCell ⟨g, 11, none⟩ (.bool true)).setCell ⟨g, 12, none⟩ (.int .u8 f.k)).setCell ⟨g, 13, none⟩ (.int .u8 f.s)).setCell ⟨g, 14, none⟩ (.int .u32 f.q)).setCell ⟨g, 15, none⟩ (.int .u32 f.v)) g 128 #[.int .i64 c.N, .slice c.pA c.pn c.pc, .slice c.sA c.sn c.sc, .int .i64 c.L, .slice c.bA c.bn c.bc, .slice c.tA c.tn c.tc, .int .i64 c.M, .int .i64 c.G, .int .i64 c.F, .int .i64 x, .int .i64 o, .bool true, .int .u8 f.k, .int .u8 f.s, .int .u32 f.q, .int .u32 f.v, .slice none 0 0] := h4.set_ 15 _
  refine ⟨h5.set_ 16 _, ?_, ?_⟩
  · exact lies_small _ h5 (by simp) (lies_small _ h4 (by simp) (lies_small _ h3 (by simp) (lies_small _ h2 (by simp) (lies_small _ h1 (by simp) (lies_small _ h (by simp) hL)))))
  · exact (((((hb.setCell (p := ⟨g, 11, none⟩) hg _).setCell (p := ⟨g, 12, none⟩) hg _).setCell (p := ⟨g, 13, none⟩) hg _).setCell (p := ⟨g, 14, none⟩) hg _).setCell (p := ⟨g, 15, none⟩) hg _).setCell (p := ⟨g, 16, none⟩) hg _
set_option maxRecDepth 100000 in
set_option maxHeartbeats 2000000 in
theorem rnew_mute (c : Cf) (x o : Int) (a b : Sd) (w : World) (hc : CfIn w c) (h0 : 0 ≤ o) (hp : pairM c.N c.P x = o) (hs : sameB a b = false) :
    Calls Tryz.prog 27 #[.agg #[.int .i64 c.N, .slice c.pA c.pn c.pc, .slice c.sA c.sn c.sc, .int .i64 c.L, .slice c.bA c.bn c.bc, .slice c.tA c.tn c.tc, .int .i64 c.M, .int .i64 c.G, .int .i64 c.F], .int .i64 x, .int .i64 o, .agg #[.bool a.i, .int .i64 a.a, .int .u8 a.k, .int .u8 a.s, .int .u32 a.q, .int .u32 a.v], .agg #[.bool b.i, .int .i64 b.a, .int .u8 b.k, .int .u8 b.s, .int .u32 b.q, .int .u32 b.v]] w fun e w' => ∃ v', e = .returned (.tuple #[v', .int .i64 0]) ∧ RSen w' v' c x o false ⟨0, 0, 0, 0, 0⟩ none 0 0 ∧ v' ≠ .pointer none ∧ Below w.heap.size w w' := by
  have hB0 : Below w.heap.size w (((w.alloc (.cells #[.int .i64 c.N, .slice c.pA c.pn c.pc, .slice c.sA c.sn c.sc, .int .i64 c.L, .slice c.bA c.bn c.bc, .slice c.tA c.tn c.tc, .int .i64 c.M, .int .i64 c.G, .int .i64 c.F] 25)).alloc (.cells #[.bool a.i, .int .i64 a.a, .int .u8 a.k, .int .u8 a.s, .int .u32 a.q, .int .u32 a.v] 42)).alloc (.cells #[.bool b.i, .int .i64 b.a, .int .u8 b.k, .int .u8 b.s, .int .u32 b.q, .int .u32 b.v] 42)) := below_al (below_al (below_al (Below.refl w.heap.size w) _) _) _
  have HC0 : Hid (Blk (((w.alloc (.cells #[.int .i64 c.N, .slice c.pA c.pn c.pc, .slice c.sA c.sn c.sc, .int .i64 c.L, .slice c.bA c.bn c.bc, .slice c.tA c.tn c.tc, .int .i64 c.M, .int .i64 c.G, .int .i64 c.F] 25)).alloc (.cells #[.bool a.i, .int .i64 a.a, .int .u8 a.k, .int .u8 a.s, .int .u32 a.q, .int .u32 a.v] 42)).alloc (.cells #[.bool b.i, .int .i64 b.a, .int .u8 b.k, .int .u8 b.s, .int .u32 b.q, .int .u32 b.v] 42)) w.heap.size 25 #[.int .i64 c.N, .slice c.pA c.pn c.pc, .slice c.sA c.sn c.sc, .int .i64 c.L, .slice c.bA c.bn c.bc, .slice c.tA c.tn c.tc, .int .i64 c.M, .int .i64 c.G, .int .i64 c.F]) := Lib.hid (((Blk.new w _ _).alloc _).alloc _)
  have HA0 : Hid (Blk (((w.alloc (.cells #[.int .i64 c.N, .slice c.pA c.pn c.pc, .slice c.sA c.sn c.sc, .int .i64 c.L, .slice c.bA c.bn c.bc, .slice c.tA c.tn c.tc, .int .i64 c.M, .int .i64 c.G, .int .i64 c.F] 25)).alloc (.cells #[.bool a.i, .int .i64 a.a, .int .u8 a.k, .int .u8 a.s, .int .u32 a.q, .int .u32 a.v] 42)).alloc (.cells #[.bool b.i, .int .i64 b.a, .int .u8 b.k, .int .u8 b.s, .int .u32 b.q, .int .u32 b.v] 42)) (w.heap.size + 1) 42 #[.bool a.i, .int .i64 a.a, .int .u8 a.k, .int .u8 a.s, .int .u32 a.q, .int .u32 a.v]) := Lib.hid ((Blk.newIn (by simp)).alloc _)
  have HB1 : Hid (Blk (((w.alloc (.cells #[.int .i64 c.N, .slice c.pA c.pn c.pc, .slice c.sA c.sn c.sc, .int .i64 c.L, .slice c.bA c.bn c.bc, .slice c.tA c.tn c.tc, .int .i64 c.M, .int .i64 c.G, .int .i64 c.F] 25)).alloc (.cells #[.bool a.i, .int .i64 a.a, .int .u8 a.k, .int .u8 a.s, .int .u32 a.q, .int .u32 a.v] 42)).alloc (.cells #[.bool b.i, .int .i64 b.a, .int .u8 b.k, .int .u8 b.s, .int .u32 b.q, .int .u32 b.v] 42)) (w.heap.size + 2) 42 #[.bool b.i, .int .i64 b.a, .int .u8 b.k, .int .u8 b.s, .int .u32 b.q, .int .u32 b.v]) := Lib.hid (Blk.newIn (by simp))
  have HIN := Lib.hid (hc.on hB0)
  have HB0 := Lib.hid hB0
  have HP := Lib.hid hp
  obtain ⟨ai, aa, ak, as', aq, av⟩ := a
  obtain ⟨bi, ba, bk, bs, bq, bv⟩ := b
  have he := fun W => pay_eql ak as' aq av bk bs bq bv W
  obtain ⟨t, ht⟩ : ∃ t, t = (ak == bk && as' == bs && aq == bq && av == bv) := ⟨_, rfl⟩
  simp only [← ht] at he
  have hs' : (ai && bi && t) = false := by rw [← hs, ht]; rfl
  have d1 : decide (o < 0) = false := decide_eq_false (by omega)
  obtain ⟨k0, k1, k2, k3, k4, k5, k6, k7, k8⟩ := HC0.out.cf; have kl := HC0.out.lt
  clear hp hB0 hs ht h0
  simp only at HA0 HB1
  cases ai with
  | false =>
    clear he hs'
    go_enter Tryz.func27, Tryz.ntmps27
    go_wp2_with (go_at_call 26; (with_reducible refine (refPair_is c x _ HP.out _ HIN.out).mono ?_); rintro e w1 ⟨rfl, b1⟩; clear k0 k1 k2 k3 k4 k5 k6 k7 k8 kl; have hA1 := (HA0.out.on b1).alloc (.cells #[.int .i64 c.N, .slice c.pA c.pn c.pc, .slice c.sA c.sn c.sc, .int .i64 c.L, .slice c.bA c.bn c.bc, .slice c.tA c.tn c.tc, .int .i64 c.M, .int .i64 c.G, .int .i64 c.F, .int .i64 x, .int .i64 o, .bool false, .int .u8 0, .int .u8 0, .int .u32 0, .int .u32 0, .slice none 0 0] 128); obtain ⟨a0, a1, a2, a3, a4, a5, al⟩ := hA1.sd (a := ⟨false, aa, ak, as', aq, av⟩); have hC1 := HC0.out.on b1; obtain ⟨k0, k1, k2, k3, k4, k5, k6, k7, k8⟩ := hC1.cf; have kl := hC1.lt)
    go_ret2
    exact ⟨_, rfl, ⟨_, rfl, Blk.new _ _ _, (HIN.out.on b1).al _⟩, (fun h => by cases h), below_al (below_then HB0.out b1) _⟩
  | true =>
    cases bi with
    | false =>
      clear he hs'
      go_enter Tryz.func27, Tryz.ntmps27
      go_wp2_with (go_at_call 26; (with_reducible refine (refPair_is c x _ HP.out _ HIN.out).mono ?_); rintro e w1 ⟨rfl, b1⟩; clear k0 k1 k2 k3 k4 k5 k6 k7 k8 kl; have hA1 := (HA0.out.on b1).alloc (.cells #[.int .i64 c.N, .slice c.pA c.pn c.pc, .slice c.sA c.sn c.sc, .int .i64 c.L, .slice c.bA c.bn c.bc, .slice c.tA c.tn c.tc, .int .i64 c.M, .int .i64 c.G, .int .i64 c.F, .int .i64 x, .int .i64 o, .bool false, .int .u8 0, .int .u8 0, .int .u32 0, .int .u32 0, .slice none 0 0] 128); obtain ⟨a0, a1, a2, a3, a4, a5, al⟩ := hA1.sd (a := ⟨true, aa, ak, as', aq, av⟩); have hB1 := (HB1.out.on b1).alloc (.cells #[.int .i64 c.N, .slice c.pA c.pn c.pc, .slice c.sA c.sn c.sc, .int .i64 c.L, .slice c.bA c.bn c.bc, .slice c.tA c.tn c.tc, .int .i64 c.M, .int .i64 c.G, .int .i64 c.F, .int .i64 x, .int .i64 o, .bool false, .int .u8 0, .int .u8 0, .int .u32 0, .int .u32 0, .slice none 0 0] 128); obtain ⟨q0, q1, q2, q3, q4, q5, ql⟩ := hB1.sd (a := ⟨false, ba, bk, bs, bq, bv⟩); have hC1 := HC0.out.on b1; obtain ⟨k0, k1, k2, k3, k4, k5, k6, k7, k8⟩ := hC1.cf; have kl := hC1.lt)
      go_ret2
      exact ⟨_, rfl, ⟨_, rfl, Blk.new _ _ _, (HIN.out.on b1).al _⟩, (fun h => by cases h), below_al (below_then HB0.out b1) _⟩
    | true =>
      obtain rfl : t = false := by simpa using hs'
      clear hs'
      go_enter Tryz.func27, Tryz.ntmps27
      go_wp2_with (go_at_call 26; (with_reducible refine (refPair_is c x _ HP.out _ HIN.out).mono ?_); rintro e w1 ⟨rfl, b1⟩; clear k0 k1 k2 k3 k4 k5 k6 k7 k8 kl; have hA1 := (HA0.out.on b1).alloc (.cells #[.int .i64 c.N, .slice c.pA c.pn c.pc, .slice c.sA c.sn c.sc, .int .i64 c.L, .slice c.bA c.bn c.bc, .slice c.tA c.tn c.tc, .int .i64 c.M, .int .i64 c.G, .int .i64 c.F, .int .i64 x, .int .i64 o, .bool false, .int .u8 0, .int .u8 0, .int .u32 0, .int .u32 0, .slice none 0 0] 128); obtain ⟨a0, a1, a2, a3, a4, a5, al⟩ := hA1.sd (a := ⟨true, aa, ak, as', aq, av⟩); have hB1 := (HB1.out.on b1).alloc (.cells #[.int .i64 c.N, .slice c.pA c.pn c.pc, .slice c.sA c.sn c.sc, .int .i64 c.L, .slice c.bA c.bn c.bc, .slice c.tA c.tn c.tc, .int .i64 c.M, .int .i64 c.G, .int .i64 c.F, .int .i64 x, .int .i64 o, .bool false, .int .u8 0, .int .u8 0, .int .u32 0, .int .u32 0, .slice none 0 0] 128); obtain ⟨q0, q1, q2, q3, q4, q5, ql⟩ := hB1.sd (a := ⟨true, ba, bk, bs, bq, bv⟩); have hC1 := HC0.out.on b1; obtain ⟨k0, k1, k2, k3, k4, k5, k6, k7, k8⟩ := hC1.cf; have kl := hC1.lt)
      go_ret2
      exact ⟨_, rfl, ⟨_, rfl, Blk.new _ _ _, (HIN.out.on b1).al _⟩, (fun h => by cases h), below_al (below_then HB0.out b1) _⟩
set_option maxRecDepth 100000 in
set_option maxHeartbeats 2000000 in
theorem rnew_kind (c : Cf) (x o : Int) (a b : Sd) (w : World) (hc : CfIn w c) (h0 : 0 ≤ o) (hp : pairM c.N c.P x = o) (hs : sameB a b = true) (hm : mayB o a.k = false) :
    Calls Tryz.prog 27 #[.agg #[.int .i64 c.N, .slice c.pA c.pn c.pc, .slice c.sA c.sn c.sc, .int .i64 c.L, .slice c.bA c.bn c.bc, .slice c.tA c.tn c.tc, .int .i64 c.M, .int .i64 c.G, .int .i64 c.F], .int .i64 x, .int .i64 o, .agg #[.bool a.i, .int .i64 a.a, .int .u8 a.k, .int .u8 a.s, .int .u32 a.q, .int .u32 a.v], .agg #[.bool b.i, .int .i64 b.a, .int .u8 b.k, .int .u8 b.s, .int .u32 b.q, .int .u32 b.v]] w fun e w' => e = .returned (.tuple #[.pointer none, .int .i64 1]) ∧ Below w.heap.size w w' := by
  have hB0 : Below w.heap.size w (((w.alloc (.cells #[.int .i64 c.N, .slice c.pA c.pn c.pc, .slice c.sA c.sn c.sc, .int .i64 c.L, .slice c.bA c.bn c.bc, .slice c.tA c.tn c.tc, .int .i64 c.M, .int .i64 c.G, .int .i64 c.F] 25)).alloc (.cells #[.bool a.i, .int .i64 a.a, .int .u8 a.k, .int .u8 a.s, .int .u32 a.q, .int .u32 a.v] 42)).alloc (.cells #[.bool b.i, .int .i64 b.a, .int .u8 b.k, .int .u8 b.s, .int .u32 b.q, .int .u32 b.v] 42)) := below_al (below_al (below_al (Below.refl w.heap.size w) _) _) _
  have HC0 : Hid (Blk (((w.alloc (.cells #[.int .i64 c.N, .slice c.pA c.pn c.pc, .slice c.sA c.sn c.sc, .int .i64 c.L, .slice c.bA c.bn c.bc, .slice c.tA c.tn c.tc, .int .i64 c.M, .int .i64 c.G, .int .i64 c.F] 25)).alloc (.cells #[.bool a.i, .int .i64 a.a, .int .u8 a.k, .int .u8 a.s, .int .u32 a.q, .int .u32 a.v] 42)).alloc (.cells #[.bool b.i, .int .i64 b.a, .int .u8 b.k, .int .u8 b.s, .int .u32 b.q, .int .u32 b.v] 42)) w.heap.size 25 #[.int .i64 c.N, .slice c.pA c.pn c.pc, .slice c.sA c.sn c.sc, .int .i64 c.L, .slice c.bA c.bn c.bc, .slice c.tA c.tn c.tc, .int .i64 c.M, .int .i64 c.G, .int .i64 c.F]) := Lib.hid (((Blk.new w _ _).alloc _).alloc _)
  have HA0 : Hid (Blk (((w.alloc (.cells #[.int .i64 c.N, .slice c.pA c.pn c.pc, .slice c.sA c.sn c.sc, .int .i64 c.L, .slice c.bA c.bn c.bc, .slice c.tA c.tn c.tc, .int .i64 c.M, .int .i64 c.G, .int .i64 c.F] 25)).alloc (.cells #[.bool a.i, .int .i64 a.a, .int .u8 a.k, .int .u8 a.s, .int .u32 a.q, .int .u32 a.v] 42)).alloc (.cells #[.bool b.i, .int .i64 b.a, .int .u8 b.k, .int .u8 b.s, .int .u32 b.q, .int .u32 b.v] 42)) (w.heap.size + 1) 42 #[.bool a.i, .int .i64 a.a, .int .u8 a.k, .int .u8 a.s, .int .u32 a.q, .int .u32 a.v]) := Lib.hid ((Blk.newIn (by simp)).alloc _)
  have HB1 : Hid (Blk (((w.alloc (.cells #[.int .i64 c.N, .slice c.pA c.pn c.pc, .slice c.sA c.sn c.sc, .int .i64 c.L, .slice c.bA c.bn c.bc, .slice c.tA c.tn c.tc, .int .i64 c.M, .int .i64 c.G, .int .i64 c.F] 25)).alloc (.cells #[.bool a.i, .int .i64 a.a, .int .u8 a.k, .int .u8 a.s, .int .u32 a.q, .int .u32 a.v] 42)).alloc (.cells #[.bool b.i, .int .i64 b.a, .int .u8 b.k, .int .u8 b.s, .int .u32 b.q, .int .u32 b.v] 42)) (w.heap.size + 2) 42 #[.bool b.i, .int .i64 b.a, .int .u8 b.k, .int .u8 b.s, .int .u32 b.q, .int .u32 b.v]) := Lib.hid (Blk.newIn (by simp))
  have HIN := Lib.hid (hc.on hB0)
  have HB0 := Lib.hid hB0
  have HP := Lib.hid hp
  have HF := Lib.hid (fun u => refFrSyms_no (a.fr o) true false u hm)
  obtain ⟨ai, aa, ak, as', aq, av⟩ := a
  obtain ⟨bi, ba, bk, bs, bq, bv⟩ := b
  have he := fun W => pay_eql ak as' aq av bk bs bq bv W
  simp only [sameB, Bool.and_eq_true] at hs
  obtain ⟨⟨rfl, rfl⟩, ht⟩ := hs
  have ht' : (ak == bk && as' == bs && aq == bq && av == bv) = true := by simp at ht ⊢; exact ht
  simp only [ht'] at he
  have d1 : decide (o < 0) = false := decide_eq_false (by omega)
  obtain ⟨k0, k1, k2, k3, k4, k5, k6, k7, k8⟩ := HC0.out.cf; have kl := HC0.out.lt
  clear hp hB0 ht ht' h0 hm
  simp only [Sd.fr] at HA0 HB1 HF
  go_enter Tryz.func27, Tryz.ntmps27
  go_wp2_with (first
    | (go_at_call 26; (with_reducible refine (refPair_is c x _ HP.out _ HIN.out).mono ?_); rintro e w1 ⟨rfl, b1⟩; clear k0 k1 k2 k3 k4 k5 k6 k7 k8 kl; have hA1 := (HA0.out.on b1).alloc (.cells #[.int .i64 c.N, .slice c.pA c.pn c.pc, .slice c.sA c.sn c.sc, .int .i64 c.L, .slice c.bA c.bn c.bc, .slice c.tA c.tn c.tc, .int .i64 c.M, .int .i64 c.G, .int .i64 c.F, .int .i64 x, .int .i64 o, .bool false, .int .u8 0, .int .u8 0, .int .u32 0, .int .u32 0, .slice none 0 0] 128); obtain ⟨a0, a1, a2, a3, a4, a5, al⟩ := hA1.sd (a := ⟨true, aa, ak, as', aq, av⟩); have hB1 := (HB1.out.on b1).alloc (.cells #[.int .i64 c.N, .slice c.pA c.pn c.pc, .slice c.sA c.sn c.sc, .int .i64 c.L, .slice c.bA c.bn c.bc, .slice c.tA c.tn c.tc, .int .i64 c.M, .int .i64 c.G, .int .i64 c.F, .int .i64 x, .int .i64 o, .bool false, .int .u8 0, .int .u8 0, .int .u32 0, .int .u32 0, .slice none 0 0] 128); obtain ⟨q0, q1, q2, q3, q4, q5, ql⟩ := hB1.sd (a := ⟨true, ba, bk, bs, bq, bv⟩); have hC1 := HC0.out.on b1; obtain ⟨k0, k1, k2, k3, k4, k5, k6, k7, k8⟩ := hC1.cf; have kl := hC1.lt)
    | (go_at_call 57; (with_reducible refine (HF.out _).mono ?_); rintro e w3 ⟨rfl, b3⟩))
  exact bodyPost_ret (v := .tuple #[.pointer none, .int .i64 1]) (by simp [results, Tryz.results27, go_sem]) rfl ⟨rfl, below_then (below_al (below_then HB0.out b1) _) b3⟩
set_option maxRecDepth 100000 in
set_option maxHeartbeats 4000000 in
theorem rnew_says (c : Cf) (x o : Int) (a b : Sd) (w : World) (hc : CfIn w c) (h0 : 0 ≤ o) (hp : pairM c.N c.P x = o) (hs : sameB a b = true) (ha : a.Fit) (hm : mayB o a.k = true) :
    Calls Tryz.prog 27 #[.agg #[.int .i64 c.N, .slice c.pA c.pn c.pc, .slice c.sA c.sn c.sc, .int .i64 c.L, .slice c.bA c.bn c.bc, .slice c.tA c.tn c.tc, .int .i64 c.M, .int .i64 c.G, .int .i64 c.F], .int .i64 x, .int .i64 o, .agg #[.bool a.i, .int .i64 a.a, .int .u8 a.k, .int .u8 a.s, .int .u32 a.q, .int .u32 a.v], .agg #[.bool b.i, .int .i64 b.a, .int .u8 b.k, .int .u8 b.s, .int .u32 b.q, .int .u32 b.v]] w fun e w' => ∃ v' A' c', e = .returned (.tuple #[v', .int .i64 0]) ∧ RSen w' v' c x o true (a.fr o) A' 114 c' ∧ Lies .u8 w' w'.heap.size A' 114 (symF (a.fr o)) ∧ v' ≠ .pointer none ∧ Below w.heap.size w w' := by
  have hB0 : Below w.heap.size w (((w.alloc (.cells #[.int .i64 c.N, .slice c.pA c.pn c.pc, .slice c.sA c.sn c.sc, .int .i64 c.L, .slice c.bA c.bn c.bc, .slice c.tA c.tn c.tc, .int .i64 c.M, .int .i64 c.G, .int .i64 c.F] 25)).alloc (.cells #[.bool a.i, .int .i64 a.a, .int .u8 a.k, .int .u8 a.s, .int .u32 a.q, .int .u32 a.v] 42)).alloc (.cells #[.bool b.i, .int .i64 b.a, .int .u8 b.k, .int .u8 b.s, .int .u32 b.q, .int .u32 b.v] 42)) := below_al (below_al (below_al (Below.refl w.heap.size w) _) _) _
  have HC0 : Hid (Blk (((w.alloc (.cells #[.int .i64 c.N, .slice c.pA c.pn c.pc, .slice c.sA c.sn c.sc, .int .i64 c.L, .slice c.bA c.bn c.bc, .slice c.tA c.tn c.tc, .int .i64 c.M, .int .i64 c.G, .int .i64 c.F] 25)).alloc (.cells #[.bool a.i, .int .i64 a.a, .int .u8 a.k, .int .u8 a.s, .int .u32 a.q, .int .u32 a.v] 42)).alloc (.cells #[.bool b.i, .int .i64 b.a, .int .u8 b.k, .int .u8 b.s, .int .u32 b.q, .int .u32 b.v] 42)) w.heap.size 25 #[.int .i64 c.N, .slice c.pA c.pn c.pc, .slice c.sA c.sn c.sc, .int .i64 c.L, .slice c.bA c.bn c.bc, .slice c.tA c.tn c.tc, .int .i64 c.M, .int .i64 c.G, .int .i64 c.F]) := Lib.hid (((Blk.new w _ _).alloc _).alloc _)
  have HA0 : Hid (Blk (((w.alloc (.cells #[.int .i64 c.N, .slice c.pA c.pn c.pc, .slice c.sA c.sn c.sc, .int .i64 c.L, .slice c.bA c.bn c.bc, .slice c.tA c.tn c.tc, .int .i64 c.M, .int .i64 c.G, .int .i64 c.F] 25)).alloc (.cells #[.bool a.i, .int .i64 a.a, .int .u8 a.k, .int .u8 a.s, .int .u32 a.q, .int .u32 a.v] 42)).alloc (.cells #[.bool b.i, .int .i64 b.a, .int .u8 b.k, .int .u8 b.s, .int .u32 b.q, .int .u32 b.v] 42)) (w.heap.size + 1) 42 #[.bool a.i, .int .i64 a.a, .int .u8 a.k, .int .u8 a.s, .int .u32 a.q, .int .u32 a.v]) := Lib.hid ((Blk.newIn (by simp)).alloc _)
  have HB1 : Hid (Blk (((w.alloc (.cells #[.int .i64 c.N, .slice c.pA c.pn c.pc, .slice c.sA c.sn c.sc, .int .i64 c.L, .slice c.bA c.bn c.bc, .slice c.tA c.tn c.tc, .int .i64 c.M, .int .i64 c.G, .int .i64 c.F] 25)).alloc (.cells #[.bool a.i, .int .i64 a.a, .int .u8 a.k, .int .u8 a.s, .int .u32 a.q, .int .u32 a.v] 42)).alloc (.cells #[.bool b.i, .int .i64 b.a, .int .u8 b.k, .int .u8 b.s, .int .u32 b.q, .int .u32 b.v] 42)) (w.heap.size + 2) 42 #[.bool b.i, .int .i64 b.a, .int .u8 b.k, .int .u8 b.s, .int .u32 b.q, .int .u32 b.v]) := Lib.hid (Blk.newIn (by simp))
  have HIN := Lib.hid (hc.on hB0)
  have HB0 := Lib.hid hB0
  have HP := Lib.hid hp
  have HF := Lib.hid (fun u => refFrSyms_yes (a.fr o) true false u (ha.fr o) hm)
  rw [show ofL (putL (a.fr o).body) ++ tailL true false = symF (a.fr o) from rfl] at HF
  obtain ⟨L, hL⟩ : ∃ L, L = symF (a.fr o) := ⟨_, rfl⟩
  rw [← hL] at HF ⊢
  obtain ⟨ai, aa, ak, as', aq, av⟩ := a
  obtain ⟨bi, ba, bk, bs, bq, bv⟩ := b
  have he := fun W => pay_eql ak as' aq av bk bs bq bv W
  simp only [sameB, Bool.and_eq_true] at hs
  obtain ⟨⟨rfl, rfl⟩, ht⟩ := hs
  have ht' : (ak == bk && as' == bs && aq == bq && av == bv) = true := by simp at ht ⊢; exact ht
  simp only [ht'] at he
  have d1 : decide (o < 0) = false := decide_eq_false (by omega)
  obtain ⟨k0, k1, k2, k3, k4, k5, k6, k7, k8⟩ := HC0.out.cf; have kl := HC0.out.lt
  clear hp hB0 ht ht' h0 hm ha hL
  simp only [Sd.fr] at HA0 HB1 HF ⊢
  go_enter Tryz.func27, Tryz.ntmps27
  go_wp2_with (first
    | (go_at_call 26; (with_reducible refine (refPair_is c x _ HP.out _ HIN.out).mono ?_); rintro e w1 ⟨rfl, b1⟩; clear k0 k1 k2 k3 k4 k5 k6 k7 k8 kl; have hA1 := (HA0.out.on b1).alloc (.cells #[.int .i64 c.N, .slice c.pA c.pn c.pc, .slice c.sA c.sn c.sc, .int .i64 c.L, .slice c.bA c.bn c.bc, .slice c.tA c.tn c.tc, .int .i64 c.M, .int .i64 c.G, .int .i64 c.F, .int .i64 x, .int .i64 o, .bool false, .int .u8 0, .int .u8 0, .int .u32 0, .int .u32 0, .slice none 0 0] 128); obtain ⟨a0, a1, a2, a3, a4, a5, al⟩ := hA1.sd (a := ⟨true, aa, ak, as', aq, av⟩); have hB1 := (HB1.out.on b1).alloc (.cells #[.int .i64 c.N, .slice c.pA c.pn c.pc, .slice c.sA c.sn c.sc, .int .i64 c.L, .slice c.bA c.bn c.bc, .slice c.tA c.tn c.tc, .int .i64 c.M, .int .i64 c.G, .int .i64 c.F, .int .i64 x, .int .i64 o, .bool false, .int .u8 0, .int .u8 0, .int .u32 0, .int .u32 0, .slice none 0 0] 128); obtain ⟨q0, q1, q2, q3, q4, q5, ql⟩ := hB1.sd (a := ⟨true, ba, bk, bs, bq, bv⟩); have hC1 := HC0.out.on b1; obtain ⟨k0, k1, k2, k3, k4, k5, k6, k7, k8⟩ := hC1.cf; have kl := hC1.lt; have hS1 := Blk.new w1 128 #[.int .i64 c.N, .slice c.pA c.pn c.pc, .slice c.sA c.sn c.sc, .int .i64 c.L, .slice c.bA c.bn c.bc, .slice c.tA c.tn c.tc, .int .i64 c.M, .int .i64 c.G, .int .i64 c.F, .int .i64 x, .int .i64 o, .bool false, .int .u8 0, .int .u8 0, .int .u32 0, .int .u32 0, .slice none 0 0])
    | (go_at_call 57; (with_reducible refine (HF.out _).mono ?_); rintro e w3 ⟨A', c', rfl, hL3, b3⟩; clear a0 a1 a2 a3 a4 a5 al q0 q1 q2 q3 q4 q5 ql; have hA3 := hA1.on b3; obtain ⟨a0, a1, a2, a3, a4, a5, al⟩ := hA3.sd (a := ⟨true, aa, ak, as', aq, av⟩); have hS3 := hS1.on b3; obtain ⟨s0, s1, s2, s3, s4, s5, s6, s7, s8, s9, s10, s11, s12, s13, s14, s15, s16, sl⟩ := hS3.rs (b := false) (f := ⟨0, 0, 0, 0, 0⟩) (A := none) (n := 0) (cp := 0); have sf := hS3.frozen))
  have hw1 : w.heap.size ≤ w1.heap.size := (below_then HB0.out b1).size
  obtain ⟨r1, r2, r3⟩ := rs_fill (f := ⟨o, ak, as', aq, av⟩) (cp := c') hS3 hL3 (below_then (below_al (below_then HB0.out b1) _) b3) hw1
  go_ret2
  exact ⟨_, A', c', rfl, ⟨_, rfl, r1, hc.on r3⟩, r2, (fun h => by cases h), r3⟩
end Go.Proofs.YtkejpkcaojidaaaGreatDoor

namespace Go.Proofs.YtkejpkcaojidaaaGreatDoor
open Go.RowKit Rg
set_option linter.unusedVariables false

/-- A node may send for a pair just if it is a half of it. -/
theorem half_pairO {c : Cf} (h0 : newE c = 0) (hl : c.P.length = c.pn) {q : Nat} (hq : q < c.pn) {x : Int} (hx : 0 ≤ x ∧ x < c.N) : (pairM c.N c.P x = q → halfE c.N c.P q x = 0) ∧ (pairM c.N c.P x ≠ q → halfE c.N c.P q x = 1) := by
  have ok := newE_ok.1 h0
  have hN := ok.nodes
  have hf := okP_at ok.okP q (by omega)
  have hb : 4 ≤ c.N ∧ c.N ≤ 16 ∧ (0 : Int) ≤ 0 ∧ (0 : Int) < 2 ∧ 0 ≤ c.P.getD q 0 ∧ c.P.getD q 0 < c.N ∧ 0 ≤ x ∧ x < c.N := by omega
  have h1 := half_iff hb
  have h2 := place_in hb
  have h3 := pair_iff (y := x) hN ok.okP (show q < c.P.length by omega)
  have h4 : plM c.N c.P 0 q x = placeM c.N 0 (c.P.getD q 0) x := by rw [plM, atM_nat c.P q (by omega)]
  unfold halfE
  rw [h4]
  constructor
  · intro h
    have := h1.2 (h3.1 h)
    rw [if_neg (by omega), if_pos (by omega)]
  · intro h
    have : ¬ placeM c.N 0 (c.P.getD q 0) x ≤ 1 := fun h5 => h (h3.2 (h1.1 h5))
    rw [if_neg (by omega), if_neg (by omega)]
/-- A sender, which sends (t) as the later half (s) or the other one, or is silent; the reference's. -/
def Snd (t s : Bool) (f : Fr) (w : World) (v : Value) : Prop := (t = true ∧ Says s f w v) ∨ (t = false ∧ f = ⟨0, 0, 0, 0, 0⟩ ∧ Mute w v)
def RSnd (t : Bool) (f : Fr) (c : Cf) (x o : Int) (w : World) (v : Value) : Prop := ∃ (A : Option Addr) (n cp : Nat), RSen w v c x o t f A n cp ∧ (t = true → n = 114 ∧ Lies .u8 w w.heap.size A n (symF f))
theorem Snd.on {t s : Bool} {f : Fr} {w w' : World} {v : Value} (h : Snd t s f w v) (hb : Below w.heap.size w w') : Snd t s f w' v := by
  rcases h with ⟨e, h⟩ | ⟨e, e2, h⟩
  · exact .inl ⟨e, h.on hb⟩
  · exact .inr ⟨e, e2, h.on hb⟩
theorem RSnd.on {t : Bool} {f : Fr} {c : Cf} {x o : Int} {w w' : World} {v : Value} (h : RSnd t f c x o w v) (hb : Below w.heap.size w w') : RSnd t f c x o w' v := by
  obtain ⟨A, n, cp, h1, h2⟩ := h
  exact ⟨A, n, cp, h1.on hb, fun e => ⟨(h2 e).1, (h2 e).2.on hb⟩⟩
theorem snd_sends {t s : Bool} {f : Fr} {v : Value} {w : World} (h : Snd t s f w v) :
    Calls Tryz.prog 37 #[v] w fun e w' => e = .returned (.tuple #[.agg #[.int .u8 f.k, .int .u8 f.s, .int .u32 f.q, .int .u32 f.v], .bool t]) ∧ Below w.heap.size w w' := by
  rcases h with ⟨rfl, h⟩ | ⟨rfl, rfl, h⟩
  · exact sends_says s f v w h
  · exact sends_mute v w h
theorem snew_any (v : Value) (c : Cf) (x o : Int) (a b : Sd) (s : Bool) (hN0 : c.N ≠ 0) (hpl : plM c.N c.P 0 o x = halfI s) (t : Bool) (ht : sameB a b = t) (ha : a.Fit) (hm : t = true → mayB o a.k = true) (f : Fr) (hf : f = if t = true then a.fr o else ⟨0, 0, 0, 0, 0⟩) (w : World) (hn : NetP w v c.N c.P) (hw : Laid2 w) :
    Calls Tryz.prog 95 #[v, .int .i64 x, .int .i64 o, .agg #[.bool a.i, .int .i64 a.a, .int .u8 a.k, .int .u8 a.s, .int .u32 a.q, .int .u32 a.v], .agg #[.bool b.i, .int .i64 b.a, .int .u8 b.k, .int .u8 b.s, .int .u32 b.q, .int .u32 b.v]] w fun e w' => ∃ g : Nat, e = .returned (.tuple #[.pointer (some ⟨g, 0, none⟩), .int .i64 0]) ∧ Snd t s f w' (.pointer (some ⟨g, 0, none⟩)) ∧ Below w.heap.size w w' := by
  cases t
  · have hE : halfE c.N c.P o x = 0 := by rw [halfE, if_neg hN0, hpl]; cases s <;> rfl
    refine (new_mute v c.N c.P x o a b hE ht w hn hw).mono fun e w' ⟨g, h1, h2, h3⟩ => ⟨g, h1, .inr ⟨rfl, hf, .inr ⟨g, rfl, h2⟩⟩, h3⟩
  · refine (new_says v c.N c.P x o a b s hN0 hpl ht ha (hm rfl) w hn hw).mono fun e w' ⟨v', h1, h2, h3⟩ => ?_
    obtain ⟨g, hh, A, rfl, h4⟩ := h2
    exact ⟨g, h1, .inl ⟨rfl, by rw [hf]; exact ⟨g, hh, A, rfl, h4⟩⟩, h3⟩
theorem rnew_any (c : Cf) (x o : Int) (a b : Sd) (h0 : 0 ≤ o) (hp : pairM c.N c.P x = o) (t : Bool) (ht : sameB a b = t) (ha : a.Fit) (hm : t = true → mayB o a.k = true) (f : Fr) (hf : f = if t = true then a.fr o else ⟨0, 0, 0, 0, 0⟩) (w : World) (hc : CfIn w c) :
    Calls Tryz.prog 27 #[.agg #[.int .i64 c.N, .slice c.pA c.pn c.pc, .slice c.sA c.sn c.sc, .int .i64 c.L, .slice c.bA c.bn c.bc, .slice c.tA c.tn c.tc, .int .i64 c.M, .int .i64 c.G, .int .i64 c.F], .int .i64 x, .int .i64 o, .agg #[.bool a.i, .int .i64 a.a, .int .u8 a.k, .int .u8 a.s, .int .u32 a.q, .int .u32 a.v], .agg #[.bool b.i, .int .i64 b.a, .int .u8 b.k, .int .u8 b.s, .int .u32 b.q, .int .u32 b.v]] w fun e w' => ∃ g : Nat, e = .returned (.tuple #[.pointer (some ⟨g, 0, none⟩), .int .i64 0]) ∧ RSnd t f c x o w' (.pointer (some ⟨g, 0, none⟩)) ∧ Below w.heap.size w w' := by
  cases t
  · refine (rnew_mute c x o a b w hc h0 hp ht).mono fun e w' ⟨v', h1, ⟨g, e1, h2⟩, h3, h4⟩ => ?_
    subst e1
    exact ⟨g, h1, ⟨none, 0, 0, by rw [hf]; exact ⟨g, rfl, h2⟩, fun e => by cases e⟩, h4⟩
  · refine (rnew_says c x o a b w hc h0 hp ht ha (hm rfl)).mono fun e w' ⟨v', A, cp, h1, ⟨g, e1, h2⟩, h3, h4, h5⟩ => ?_
    subst e1
    exact ⟨g, h1, ⟨A, 114, cp, by rw [hf]; exact ⟨g, rfl, h2⟩, fun _ => ⟨rfl, by rw [hf]; exact h3⟩⟩, h5⟩
theorem pay_neq_self (k s q v : Int) (w : World) : (binOp .neq 40 (.agg #[.int .u8 k, .int .u8 s, .int .u32 q, .int .u32 v]) (.agg #[.int .u8 k, .int .u8 s, .int .u32 q, .int .u32 v])).run Tryz.prog w = .ok (.bool false) w := by
  go_simp

end Go.Proofs.YtkejpkcaojidaaaGreatDoor

