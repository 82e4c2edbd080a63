/-
  The document's words: the contract of the reference's Plain. Conditions: the row's reading, its table's length.
-/
import Derived.Test.YtmmgbhdjjejacaaWdR1
import Derived.Test.YtmmgbhdjjejacaaOwF
namespace Go.Proofs.Ytmmgbhdjjejacaa
open Go.RowKit
set_option linter.unusedVariables false
set_option linter.unusedSimpArgs false

set_option maxRecDepth 100000 in
theorem elemRHelds : Try.prog.underlying 59 = some (.slice 133) := by kernel_rfl
set_option maxRecDepth 100000 in
theorem sizeRHelds (w : World) : (sizeOf 133).run Try.prog w = .ok 56 w := by kernel_rfl
set_option maxRecDepth 100000 in
theorem idxRHelds {A : Option Addr} {n : Nat} (c : Nat) {k b off : Nat} (hA : A = some ⟨b, off, none⟩) (hk : k < n) (w : World) :
    (Instr.indexAt 59 (.slice A n c) (.int .i64 (k : Int))).run Try.prog w = .ok (.pointer (some ⟨b, off + k * 56, none⟩)) w := by
  subst hA
  rw [run_indexAt_slice (h := elemRHelds), if_pos (by omega), show Try.prog.elem 59 = 133 by kernel_rfl, sizeRHelds]
  simp [Result.andThen, Addr.add_lit]
/-- A row's table is the row's own. -/
def OwnT (w : World) (Q : Rw) : Prop := w.ownsRow 0 133 56 (.slice Q.A Q.n Q.p) Q.n (hesL Q.T Q.n)
theorem OwnT.on {w w' : World} {Q : Rw} (h : OwnT w Q) (hb : Below w.heap.size w w') : OwnT w' Q := ownsF_on h hb
theorem OwnT.kept {w w' : World} {Q : Rw} {ts : List TypeId} (h : OwnT w Q) (k : KeptBut w w' ts) (ht : 133 ∉ ts) : OwnT w' Q := ownsF_kept h k ht
theorem OwnT.lies {w : World} {Q : Rw} (h : OwnT w Q) : LiesH w w.heap.size Q.A Q.n Q.T := owns_liesF (f := fun i => heL (Q.T i)) (fun i => heL_len _) h
theorem OwnT.nil_ {w : World} (b : Bool) (c : Ce) (T : Nat → He) : OwnT w ⟨b, c, none, 0, 0, T⟩ := ownsF_nil
/-- Boxes of the row, of the result, of what is to be. -/
structure RP (w : World) (o : Nat) (b : Bool) (c : Ce) (A : Option Addr) (m p : Nat) (L : List Value) (U : World) : Prop where
  x : Blk U w.heap.size 61 (roL b c A m p).toArray
  z : ∃ Z : List Value, Z.length = 57 ∧ PIn U (w.heap.size + 1) 0 61 [] [] Z
  q : PIn U o 0 61 [] [] L
  b : Below w.heap.size w U
  lo : w.heap.size + 1 < o
theorem RP.turn {w U V : World} {o : Nat} {b : Bool} {c : Ce} {A : Option Addr} {m p : Nat} {L M : List Value} (h : RP w o b c A m p L U) (q : PIn V o 0 61 [] [] M) (k : But o U V) : RP w o b c A m p M V := by
  obtain ⟨Z, h2, h3⟩ := h.z
  have := h.lo
  exact ⟨k.blk h.x (by omega), ⟨Z, h2, h3.but k (by omega)⟩, q, h.b.trans (k.low (by omega)), h.lo⟩
theorem RP.on {w U V : World} {o : Nat} {b : Bool} {c : Ce} {A : Option Addr} {m p : Nat} {L : List Value} (h : RP w o b c A m p L U) (k : Below (o + 1) U V) : RP w o b c A m p L V := by
  obtain ⟨Z, h2, h3⟩ := h.z
  have := h.lo
  exact ⟨h.x.below k (by omega), ⟨Z, h2, ⟨h3.blk.below k (by omega), h3.len⟩⟩, ⟨h.q.blk.below k (by omega), h.q.len⟩, h.b.trans (k.mono (by omega)), h.lo⟩
/-- .. and what is held, in a block of its own; the row that is appended to. -/
structure SH (w : World) (o : Nat) (c : Ce) (A : Option Addr) (m p k : Nat) (A' : Option Addr) (p' : Nat) (D : Nat → He) (h : Nat) (X : He) (U : World) : Prop where
  s : PIn U h 0 133 [] [] (heL X)
  r : RP w o true c A m p (roL true (plC c) A' k p') U
  w : U.ownsRow (o + 1) 133 56 (.slice A' k p') k (hesL D k)
  ne : ∀ g, A' = some ⟨g, 0, none⟩ → g ≠ h
  lo : o < h
theorem SH.turn {w U V : World} {o : Nat} {c : Ce} {A A' : Option Addr} {m p k p' h : Nat} {D : Nat → He} {X Y : He} (H : SH w o c A m p k A' p' D h X U) (q : PIn V h 0 133 [] [] (heL Y)) (b : But h U V) : SH w o c A m p k A' p' D h Y V :=
  ⟨q, H.r.on (b.low (by have := H.lo; omega)), ownsF_but H.w b H.ne, H.ne, H.lo⟩
theorem SH.on {w U V : World} {o : Nat} {c : Ce} {A A' : Option Addr} {m p k p' h : Nat} {D : Nat → He} {X : He} (H : SH w o c A m p k A' p' D h X U) (b : Below U.heap.size U V) : SH w o c A m p k A' p' D h X V :=
  ⟨H.s.on b, H.r.on (b.mono H.r.q.lt), ownsF_on H.w b, H.ne, H.lo⟩
set_option maxRecDepth 100000 in
set_option maxHeartbeats 1000000 in
theorem rplain_no (N : Int) (b : Bool) (c : Ce) (A : Option Addr) (m p : Nat) (hno : (b && nmB N) = false) (w : World) :
    Calls Try.prog 25 #[.int .i64 N, .agg (roL b c A m p).toArray] w fun e w' => e = .returned (.agg (roL false ceN none 0 0).toArray) ∧ Below w.heap.size w w' := by
  have HNO := Lib.hid hno
  clear hno
  go_enter Try.func25, Try.ntmps25
  go_upto_region 1 with fail
  refine wp_at (Boxed w 61 61 (roL b c A m p) 57) (Boxed.mk_ _ _ _ _ _ _ rfl) ?_
  intro U hU
  have HU := Lib.hid hU
  have HZN : Hid (∀ Z : Array Value, Z.size = 57 → PIn (U.alloc (.cells Z 61)) U.heap.size 0 61 [] [] Z.toList ∧ Z.toList.length = 57) := Lib.hid (fun Z hZ => ⟨Blk.pin (by simpa using Blk.new U 61 Z), by simpa using hZ⟩)
  have hlt := hU.lt
  clear hU
  go_upto_region 2 with (refine wpList_store_pin rfl 61 (.tmp 5) (.tmp 8) rfl (HZN.out _ rfl).1 (roL false ceN none 0 0) (by simp [Act.eval, Act.put]) (by kernel_rfl) 57 size_rrow (HZN.out _ rfl).2 (roL_len _ _ _ _ _) (roL_one _ _ _ _ _) ?_; intro w1 p1 b1; have HP1 := Lib.hid p1; have HB1 := Lib.hid b1; clear p1 b1)
  refine wp_at (RP w U.heap.size b c A m p (roL false ceN none 0 0)) ⟨(HB1.out.blk ((HU.out.x).alloc _) (by omega)), (by obtain ⟨Z, z1, z2⟩ := HU.out.res; exact ⟨Z, z1, (z2.on (below_al (Below.refl _ U) _)).but HB1.out (by omega)⟩), HP1.out, (below_al HU.out.b _).trans (HB1.out.low (by have := HU.out.b.size; omega)), hlt⟩ ?_
  intro V hV
  obtain ⟨o, ho⟩ : ∃ o, o = U.heap.size := ⟨_, rfl⟩
  rw [← ho] at hV ⊢
  clear ho HZN HU HP1 HB1 hlt
  have HV := Lib.hid hV
  have c0 : V.cell? ⟨w.heap.size, 0, none⟩ = some (.bool b) := (hV.x.pin.cell0 (by simp [roL])).trans rfl
  have lx := hV.x.lt
  have lo := hV.q.lt
  have lz : w.heap.size + 1 < V.heap.size := by obtain ⟨Z, _, z2⟩ := hV.z; exact z2.lt
  clear hV
  obtain ⟨Z, hzl, hz⟩ := HV.out.z
  have HZ := Lib.hid hz
  have HZL := Lib.hid hzl
  clear hz hzl
  by_cases n0 : N < 0
  · go_wp2_with (first
      | (refine wpList_load_pin rfl 61 (.tmp 5) rfl HV.out.q (by simp [Act.eval, Act.put]) _ Try.underlying61 rfl 57 size_rrow (roL_len _ _ _ _ _) ?_)
      | (refine wpList_store_pin rfl 61 (.tmp 4) (.tmp 20) rfl HZ.out (roL false ceN none 0 0) (by simp [Act.eval, Act.put]) (by simp [Act.eval, Act.put]) 57 size_rrow HZL.out (roL_len _ _ _ _ _) (roL_one _ _ _ _ _) ?_; intro w2 p2 b2))
    have hld := p2.var 61 _ Try.underlying61 rfl 57 size_rrow (roL_len _ _ _ _ _)
    exact bodyPost_ret (v := .agg (roL false ceN none 0 0).toArray) (by simp [results, Try.results25, asAddr, Act.put, hld]) rfl ⟨rfl, HV.out.b.trans (b2.low (Nat.le_succ _))⟩
  by_cases n1 : 16 < N
  · go_wp2_with (first
      | (refine wpList_load_pin rfl 61 (.tmp 5) rfl HV.out.q (by simp [Act.eval, Act.put]) _ Try.underlying61 rfl 57 size_rrow (roL_len _ _ _ _ _) ?_)
      | (refine wpList_store_pin rfl 61 (.tmp 4) (.tmp 20) rfl HZ.out (roL false ceN none 0 0) (by simp [Act.eval, Act.put]) (by simp [Act.eval, Act.put]) 57 size_rrow HZL.out (roL_len _ _ _ _ _) (roL_one _ _ _ _ _) ?_; intro w2 p2 b2))
    have hld := p2.var 61 _ Try.underlying61 rfl 57 size_rrow (roL_len _ _ _ _ _)
    exact bodyPost_ret (v := .agg (roL false ceN none 0 0).toArray) (by simp [results, Try.results25, asAddr, Act.put, hld]) rfl ⟨rfl, HV.out.b.trans (b2.low (Nat.le_succ _))⟩
  obtain rfl : b = false := by
    have := HNO.out
    rw [show nmB N = true by unfold nmB; simp; omega] at this
    simpa using this
  go_wp2_with (first
    | (refine wpList_load_pin rfl 61 (.tmp 5) rfl HV.out.q (by simp [Act.eval, Act.put]) _ Try.underlying61 rfl 57 size_rrow (roL_len _ _ _ _ _) ?_)
    | (refine wpList_store_pin rfl 61 (.tmp 4) (.tmp 20) rfl HZ.out (roL false ceN none 0 0) (by simp [Act.eval, Act.put]) (by simp [Act.eval, Act.put]) 57 size_rrow HZL.out (roL_len _ _ _ _ _) (roL_one _ _ _ _ _) ?_; intro w2 p2 b2))
  have hld := p2.var 61 _ Try.underlying61 rfl 57 size_rrow (roL_len _ _ _ _ _)
  exact bodyPost_ret (v := .agg (roL false ceN none 0 0).toArray) (by simp [results, Try.results25, asAddr, Act.put, hld]) rfl ⟨rfl, HV.out.b.trans (b2.low (Nat.le_succ _))⟩
set_option maxRecDepth 100000 in
set_option maxHeartbeats 4000000 in
theorem rplain_yes (n : Nat) (hn : n ≤ 16) (c : Ce) (A : Option Addr) (m p : Nat) (hm : m ≤ 65536) (T : Nat → He) (w : World) (hT : LiesH w w.heap.size A m T) :
    Calls Try.prog 25 #[.int .i64 (n : Int), .agg (roL true c A m p).toArray] w fun e w' => ∃ A' p', e = .returned (.agg (roL true (plC c) A' n p').toArray) ∧ OwnT w' ⟨true, plC c, A', n, p', fun i => plH (fitH T m i)⟩ ∧ Below w.heap.size w w' := by
  obtain ⟨b, hb⟩ : ∃ b, b = true := ⟨_, rfl⟩
  rw [← hb]
  have HBT := Lib.hid hb
  have HT := Lib.hid hT
  have HN := Lib.hid hn
  have HM := Lib.hid hm
  obtain ⟨i0, hi0, hz0, hz1, hz2⟩ := info_parts infoRHeld
  have HI := Lib.hid hi0
  have HZ0 := Lib.hid hz0
  have HZ1 := Lib.hid hz1
  have HZ2 := Lib.hid hz2
  obtain ⟨D, hD⟩ : ∃ D : Nat → He, D = fun i => plH (fitH T m i) := ⟨_, rfl⟩
  have HD := Lib.hid hD
  rw [← hD]
  clear hT hn hm hi0 hz0 hz1 hz2 hD hb
  go_enter Try.func25, Try.ntmps25
  go_upto_region 1 with fail
  refine wp_at (Boxed w 61 61 (roL b c A m p) 57) (Boxed.mk_ _ _ _ _ _ _ rfl) ?_
  intro U hU
  have HU := Lib.hid hU
  have HZN : Hid (∀ Z : Array Value, Z.size = 57 → PIn (U.alloc (.cells Z 61)) U.heap.size 0 61 [] [] Z.toList ∧ Z.toList.length = 57) := Lib.hid (fun Z hZ => ⟨Blk.pin (by simpa using Blk.new U 61 Z), by simpa using hZ⟩)
  have hlt := hU.lt
  clear hU
  go_upto_region 2 with (refine wpList_store_pin rfl 61 (.tmp 5) (.tmp 8) rfl (HZN.out _ rfl).1 (roL false ceN none 0 0) (by simp [Act.eval, Act.put]) (by kernel_rfl) 57 size_rrow (HZN.out _ rfl).2 (roL_len _ _ _ _ _) (roL_one _ _ _ _ _) ?_; intro w1 p1 b1; have HP1 := Lib.hid p1; have HB1 := Lib.hid b1; clear p1 b1)
  refine wp_at (RP w U.heap.size b c A m p (roL false ceN none 0 0)) ⟨(HB1.out.blk ((HU.out.x).alloc _) (by omega)), (by obtain ⟨Z, z1, z2⟩ := HU.out.res; exact ⟨Z, z1, (z2.on (below_al (Below.refl _ U) _)).but HB1.out (by omega)⟩), HP1.out, (below_al HU.out.b _).trans (HB1.out.low (by have := HU.out.b.size; omega)), hlt⟩ ?_
  intro V hV
  obtain ⟨o, ho⟩ : ∃ o, o = U.heap.size := ⟨_, rfl⟩
  rw [← ho] at hV ⊢
  clear ho HZN HU HP1 HB1 hlt
  have HV := Lib.hid hV
  have c0 : V.cell? ⟨w.heap.size, 0, none⟩ = some (.bool b) := (hV.x.pin.cell0 (by simp [roL])).trans rfl
  have lx := hV.x.lt
  have lo := hV.q.lt
  have lz : w.heap.size + 1 < V.heap.size := by obtain ⟨Z, _, z2⟩ := hV.z; exact z2.lt
  clear hV
  obtain rfl := HBT.out
  have e0 : decide ((n : Int) < 0) = false := by simp
  have e1 : decide ((16 : Int) < (n : Int)) = false := by have := HN.out; simp; omega
  have e2 : ¬ (16 < n) := by have := HN.out; omega
  have f0 := HV.out.q.frozen 0
  have o0 : V.cell? ⟨o, 0, none⟩ = some (.bool false) := (HV.out.q.cell0 (by simp [roL])).trans rfl
  have HP4 := Lib.hid (HV.out.q.set_ 0 (.bool true) (by simp [roL]))
  have e4 : (roL false ceN none 0 0).set 0 (.bool true) = roL true ceN none 0 0 := rfl
  rw [e4] at HP4
  clear e4
  go_upto_region 5 with fail
  refine wp_at (RP w o true c A m p (roL true ceN none 0 0)) (HV.out.turn (by simpa using HP4.out) (But.one 0 _)) ?_
  clear f0 o0 HP4 HV c0 lx lo lz
  intro V hV
  have lo := hV.q.lt
  have lx := hV.x.lt
  have HPC := Lib.hid (PIn.part (P := [.bool true]) (M := ceL ceN) (S := [.slice none 0 0]) (o := 1) hV.q rfl)
  have HRC := Lib.hid hV.x.rowCell
  have HV := Lib.hid hV
  have HLO := Lib.hid hV.lo
  clear hV
  go_upto_region 6 with (first
    | (refine wpList_load_mid rfl 51 (.tmp 22) rfl w.heap.size 1 (by simp [Act.eval, Act.put]) (ceL c) _ HRC.out Try.underlying51 rfl (by rw [size_ce, ceL_len]) ?_)
    | (go_at_call 28; (with_reducible refine (rcell_is c _).mono ?_); rintro e w1 ⟨rfl, b1⟩; have hl1 := (HPC.out.on b1).lt)
    | (refine wpList_store_pin rfl 51 (.tmp 25) (.tmp 24) rfl (HPC.out.on b1) (ceL (plC c)) (by simp [Act.eval, Act.put]) (by simp [Act.eval, Act.put]) 55 size_ce (ceL_len _) (ceL_len _) (ceL_one _) ?_; intro w2 p2 b2; have HP2 := Lib.hid p2; have HB2 := Lib.hid b2; have HB1 := Lib.hid b1; clear p2 b2 b1 hl1))
  refine wp_at (RP w o true c A m p (roL true (plC c) none 0 0)) (((HV.out.on (HB1.out.mono lo)).turn (PIn.whole (P := [.bool true]) (S := [.slice none 0 0]) HP2.out rfl) HB2.out)) ?_
  clear HP2 HB2 HB1 HPC HRC HV lo lx
  intro V hV
  have HV := Lib.hid hV
  clear hV
  go_wp2_with fail
  go_loopw [6] (fun s wr => ∃ k : Nat, k ≤ n ∧ s = .int .i64 (k : Int) ∧ ∃ (A' : Option Addr) (p' : Nat), Hid (RP w o true c A m p (roL true (plC c) A' k p') wr) ∧ Hid (wr.ownsRow (o + 1) 133 56 (.slice A' k p') k (hesL D k))) (fun s _ => n - (intOf s).toNat)
  case atStart => exact ⟨0, by omega, rfl, none, 0, HV, Lib.hid ownsF_nil⟩
  case round =>
    clear HV
    obtain ⟨k, hk, rfl, A', p', HR, HO⟩ := hrel
    by_cases hlt : k < n
    · have HZN : Hid (∀ Z : Array Value, Z.size = 56 → PIn (wr.alloc (.cells Z 133)) wr.heap.size 0 133 [] [] Z.toList ∧ Z.toList.length = 56) := Lib.hid (fun Z hZ => ⟨Blk.pin (by simpa using Blk.new wr 133 Z), by simpa using hZ⟩)
      have lo := HR.out.q.lt
      go_upto_region 10 with (refine wpList_store_pin rfl 133 (.tmp 7) (.tmp 31) rfl (HZN.out _ rfl).1 (heL heN) (by simp [Act.eval, Act.put]) (by kernel_rfl) 56 size_rhe (HZN.out _ rfl).2 (heL_len _) (heL_one _) ?_; intro w1 p1 b1; have HP1 := Lib.hid p1; have HB1 := Lib.hid b1; clear p1 b1)
      refine wp_at (SH w o c A m p k A' p' D wr.heap.size heN) ⟨HP1.out, (HR.out.on ((below_al (Below.refl _ wr) _).mono lo)).on (HB1.out.low lo), ownsF_but (ownsF_on HO.out (below_al (Below.refl _ wr) _)) HB1.out (fun g hg => by have := ownsF_lt HO.out hg; omega), (fun g hg => by have := ownsF_lt HO.out hg; omega), lo⟩ ?_
      intro U hU
      obtain ⟨h, hh⟩ : ∃ h, h = wr.heap.size := ⟨_, rfl⟩
      rw [← hh] at hU ⊢
      clear hh HZN HP1 HB1 lo HR HO
      have HU := Lib.hid hU
      have c56 := hU.r.x.rowTab
      have lx := hU.r.x.lt
      have lo := hU.r.q.lt
      have lh := hU.s.lt
      clear hU
      by_cases hkm : k < m
      · obtain ⟨tb, toff, rfl, htb, hct⟩ := HT.out (by omega)
        have HTB := Lib.hid htb
        have HCT := Lib.hid (hct k hkm)
        have hix := fun W => idxRHelds (A := some ⟨tb, toff, none⟩) (n := m) p rfl hkm W
        have hc0 : U.cell? ⟨tb, toff + k * 56, none⟩ = some (.bool (T k).i) := (HU.out.r.b.cell (p := ⟨tb, _, none⟩) htb).trans (hct k hkm 0 _ rfl)
        clear htb hct
        cases hti : (T k).i
        · rw [hti] at hc0
          have HDK : Hid (D k = heN) := Lib.hid (by rw [HD.out]; simp [fitH, hkm, plH, hti])
          clear hti
          go_upto_region 13 with fail
          refine wp_at (SH w o c _ m p k A' p' D h (D k)) (by rw [HDK.out]; exact HU.out) ?_
          clear c56 lx lo lh HU
          intro U2 hU2
          have HU2 := Lib.hid hU2
          have o56 : U2.cell? ⟨o, 56, none⟩ = some (.slice A' k p') := by have := hU2.r.q.cell 56 (by rw [roL_len]; omega); rw [Nat.zero_add] at this; rw [this, ro_tab]
          have fo56 := hU2.r.q.frozen 56
          have lo2 := hU2.r.q.lt
          have lh2 := hU2.s.lt
          have HBS := Lib.hid (run_bsl_one (P := Try.prog) U2 59 133 i0 (heL heN) 56 elemRHelds HI.out HZ0.out HZ1.out (heL_len _) (by decide) (by decide) (heL (D k)) (heL_len _))
          have HOW := Lib.hid (ownsF_on hU2.w (below_al (Below.refl _ U2) (.cells (heL (D k)).toArray 133)))
          have HNB := Lib.hid (Blk.new U2 133 (heL (D k)).toArray)
          clear hU2
          go_wp2_with (first
            | (refine wpList_load_pin rfl 133 (.tmp 7) rfl HU2.out.s (by simp [Act.eval, Act.put]) _ Try.underlying133 rfl 56 size_rhe (heL_len _) ?_)
            | (refine wpList_bsl rfl 59 1 _ rfl #[(0, .agg (heL (D k)).toArray)] (by simp [Act.eval, Act.put]) _ _ HBS.out ?_)
            | (at_builtin; refine wpList_append_G rfl (.tmp 55) (.tmp 57) 59 rfl (o + 1) 133 i0 _ 56 136 elemRHelds HI.out HZ0.out HZ1.out HZ2.out (by simp [Value.cells, heL_len]) (by decide) A' k p' (hesL D k) (by simp [Act.eval, Act.put]) HOW.out U2.heap.size 1 1 (heL (D k)) (by simp [Act.eval, Act.put]) HNB.out (heL_len _) (heL_one _) (by decide) (by unfold maxLen; omega) (by omega) (by simp; omega) ?_; intro A2 p2 w2 hO2 hb2 _; have HO2 := Lib.hid hO2; have hr2 := (HU2.out.r.on ((below_al (Below.refl _ U2) (.cells (heL (D k)).toArray 133)).mono lo2)).on hb2; have HR2 := Lib.hid hr2; have o56' : w2.cell? ⟨o, 56, none⟩ = some (.slice A' k p') := (by have := hr2.q.cell 56 (by rw [roL_len]; omega); rw [Nat.zero_add] at this; rw [this, ro_tab]); have fo56' := hr2.q.frozen 56; have lo2' := hr2.q.lt; clear hO2 hr2 hb2))
          go_roundw
          case rel =>
            refine ⟨k + 1, by omega, by go_num, A2, p2, Lib.hid ?_, Lib.hid (ownsF_but (by rw [hesL_succ]; exact HO2.out) (But.one 56 _) (fun g hg => by have := ownsF_lt HO2.out hg; omega))⟩
            have := HR2.out.q.set_ 56 (.slice A2 (k + 1) p2) (by rw [roL_len]; omega)
            rw [ro_setTab, Nat.zero_add] at this
            exact HR2.out.turn this (But.one 56 _)
          case measure => simp [intOf]; omega
        · rw [hti] at hc0
          have HDK : Hid (D k = ⟨true, plC (T k).c⟩) := Lib.hid (by rw [HD.out]; simp [fitH, hkm, plH, hti])
          clear hti
          have HPC := Lib.hid (PIn.part (P := [.bool true]) (M := ceL ceN) (S := []) (o := 1) (A := []) (Z := []) (g := h) (T := 133) (O := 0) (w := U.setCell ⟨h, 0, none⟩ (.bool true)) (by
            have := HU.out.s.set_ 0 (.bool true) (by simp [heL])
            rw [Nat.zero_add] at this
            exact this.cs (by simp [heL, heN])) rfl)
          have fh0 := HU.out.s.frozen 0
          have ch0 : U.cell? ⟨h, 0, none⟩ = some (.bool false) := (HU.out.s.cell0 (by simp [heL])).trans rfl
          have c56' : (U.setCell ⟨h, 0, none⟩ (.bool true)).cell? ⟨w.heap.size, 56, none⟩ = some (.slice (some ⟨tb, toff, none⟩) m p) := by
            have : But h U (U.setCell ⟨h, 0, none⟩ (.bool true)) := But.one 0 _
            have hl := HU.out.lo
            have hl2 := HU.out.r.lo
            exact (this.blk HU.out.r.x (by omega)).rowTab
          have HRG : Hid ((U.setCell ⟨h, 0, none⟩ (.bool true)).rangeAt tb (toff + k * 56 + 1) (ceL (T k).c)) := Lib.hid (fun j v hv => by
            have hl := HU.out.lo
            have hl2 := HU.out.r.lo
            have hlow : Below w.heap.size w (U.setCell ⟨h, 0, none⟩ (.bool true)) := HU.out.r.b.trans ((But.one (u := U) (g := h) 0 (.bool true)).low (by omega))
            rw [Nat.add_assoc]
            exact (hlow.cell (p := ⟨tb, _, none⟩) HTB.out).trans (HCT.out (1 + j) v (by rw [Nat.add_comm]; exact hv)))
          go_upto_region 13 with (first
            | (refine wpList_load_mid rfl 51 (.tmp 50) rfl tb (toff + k * 56 + 1) (by simp [Act.eval, Act.put]) (ceL (T k).c) _ HRG.out Try.underlying51 rfl (by rw [size_ce, ceL_len]) ?_)
            | (go_at_call 28; (with_reducible refine (rcell_is (T k).c _).mono ?_); rintro e w1 ⟨rfl, b1⟩; have hl1 := (HPC.out.on b1).lt)
            | (refine wpList_store_pin rfl 51 (.tmp 53) (.tmp 52) rfl (HPC.out.on b1) (ceL (plC (T k).c)) (by simp [Act.eval, Act.put]) (by simp [Act.eval, Act.put]) 55 size_ce (ceL_len _) (ceL_len _) (ceL_one _) ?_; intro w2 p2 b2; have HP2 := Lib.hid p2; have HB2 := Lib.hid b2; have HB1 := Lib.hid b1; clear p2 b2 b1 hl1))
          refine wp_at (SH w o c _ m p k A' p' D h (D k)) (by
            have q1 : SH w o c (some ⟨tb, toff, none⟩) m p k A' p' D h ⟨true, ceN⟩ (U.setCell ⟨h, 0, none⟩ (.bool true)) := HU.out.turn ((PIn.whole (P := [.bool true]) (S := []) HPC.out rfl).cs (by simp [heL])) (But.one 0 _)
            have q2 := (q1.on HB1.out).turn (Y := D k) ((PIn.whole (P := [.bool true]) (S := []) HP2.out rfl).cs (by rw [HDK.out]; simp [heL])) HB2.out
            exact q2) ?_
          clear c56 c56' ch0 fh0 lx lo lh HU HPC HRG HP2 HB2 HB1
          intro U2 hU2
          have HU2 := Lib.hid hU2
          have o56 : U2.cell? ⟨o, 56, none⟩ = some (.slice A' k p') := by have := hU2.r.q.cell 56 (by rw [roL_len]; omega); rw [Nat.zero_add] at this; rw [this, ro_tab]
          have fo56 := hU2.r.q.frozen 56
          have lo2 := hU2.r.q.lt
          have lh2 := hU2.s.lt
          have HBS := Lib.hid (run_bsl_one (P := Try.prog) U2 59 133 i0 (heL heN) 56 elemRHelds HI.out HZ0.out HZ1.out (heL_len _) (by decide) (by decide) (heL (D k)) (heL_len _))
          have HOW := Lib.hid (ownsF_on hU2.w (below_al (Below.refl _ U2) (.cells (heL (D k)).toArray 133)))
          have HNB := Lib.hid (Blk.new U2 133 (heL (D k)).toArray)
          clear hU2
          go_wp2_with (first
            | (refine wpList_load_pin rfl 133 (.tmp 7) rfl HU2.out.s (by simp [Act.eval, Act.put]) _ Try.underlying133 rfl 56 size_rhe (heL_len _) ?_)
            | (refine wpList_bsl rfl 59 1 _ rfl #[(0, .agg (heL (D k)).toArray)] (by simp [Act.eval, Act.put]) _ _ HBS.out ?_)
            | (at_builtin; refine wpList_append_G rfl (.tmp 55) (.tmp 57) 59 rfl (o + 1) 133 i0 _ 56 136 elemRHelds HI.out HZ0.out HZ1.out HZ2.out (by simp [Value.cells, heL_len]) (by decide) A' k p' (hesL D k) (by simp [Act.eval, Act.put]) HOW.out U2.heap.size 1 1 (heL (D k)) (by simp [Act.eval, Act.put]) HNB.out (heL_len _) (heL_one _) (by decide) (by unfold maxLen; omega) (by omega) (by simp; omega) ?_; intro A2 p2 w2 hO2 hb2 _; have HO2 := Lib.hid hO2; have hr2 := (HU2.out.r.on ((below_al (Below.refl _ U2) (.cells (heL (D k)).toArray 133)).mono lo2)).on hb2; have HR2 := Lib.hid hr2; have o56' : w2.cell? ⟨o, 56, none⟩ = some (.slice A' k p') := (by have := hr2.q.cell 56 (by rw [roL_len]; omega); rw [Nat.zero_add] at this; rw [this, ro_tab]); have fo56' := hr2.q.frozen 56; have lo2' := hr2.q.lt; clear hO2 hr2 hb2))
          go_roundw
          case rel =>
            refine ⟨k + 1, by omega, by go_num, A2, p2, Lib.hid ?_, Lib.hid (ownsF_but (by rw [hesL_succ]; exact HO2.out) (But.one 56 _) (fun g hg => by have := ownsF_lt HO2.out hg; omega))⟩
            have := HR2.out.q.set_ 56 (.slice A2 (k + 1) p2) (by rw [roL_len]; omega)
            rw [ro_setTab, Nat.zero_add] at this
            exact HR2.out.turn this (But.one 56 _)
          case measure => simp [intOf]; omega
      · have HDK : Hid (D k = heN) := Lib.hid (by rw [HD.out]; simp [fitH, hkm, plH, heN])
        go_upto_region 13 with fail
        refine wp_at (SH w o c _ m p k A' p' D h (D k)) (by rw [HDK.out]; exact HU.out) ?_
        clear c56 lx lo lh HU
        intro U2 hU2
        have HU2 := Lib.hid hU2
        have o56 : U2.cell? ⟨o, 56, none⟩ = some (.slice A' k p') := by have := hU2.r.q.cell 56 (by rw [roL_len]; omega); rw [Nat.zero_add] at this; rw [this, ro_tab]
        have fo56 := hU2.r.q.frozen 56
        have lo2 := hU2.r.q.lt
        have lh2 := hU2.s.lt
        have HBS := Lib.hid (run_bsl_one (P := Try.prog) U2 59 133 i0 (heL heN) 56 elemRHelds HI.out HZ0.out HZ1.out (heL_len _) (by decide) (by decide) (heL (D k)) (heL_len _))
        have HOW := Lib.hid (ownsF_on hU2.w (below_al (Below.refl _ U2) (.cells (heL (D k)).toArray 133)))
        have HNB := Lib.hid (Blk.new U2 133 (heL (D k)).toArray)
        clear hU2
        go_wp2_with (first
          | (refine wpList_load_pin rfl 133 (.tmp 7) rfl HU2.out.s (by simp [Act.eval, Act.put]) _ Try.underlying133 rfl 56 size_rhe (heL_len _) ?_)
          | (refine wpList_bsl rfl 59 1 _ rfl #[(0, .agg (heL (D k)).toArray)] (by simp [Act.eval, Act.put]) _ _ HBS.out ?_)
          | (at_builtin; refine wpList_append_G rfl (.tmp 55) (.tmp 57) 59 rfl (o + 1) 133 i0 _ 56 136 elemRHelds HI.out HZ0.out HZ1.out HZ2.out (by simp [Value.cells, heL_len]) (by decide) A' k p' (hesL D k) (by simp [Act.eval, Act.put]) HOW.out U2.heap.size 1 1 (heL (D k)) (by simp [Act.eval, Act.put]) HNB.out (heL_len _) (heL_one _) (by decide) (by unfold maxLen; omega) (by omega) (by simp; omega) ?_; intro A2 p2 w2 hO2 hb2 _; have HO2 := Lib.hid hO2; have hr2 := (HU2.out.r.on ((below_al (Below.refl _ U2) (.cells (heL (D k)).toArray 133)).mono lo2)).on hb2; have HR2 := Lib.hid hr2; have o56' : w2.cell? ⟨o, 56, none⟩ = some (.slice A' k p') := (by have := hr2.q.cell 56 (by rw [roL_len]; omega); rw [Nat.zero_add] at this; rw [this, ro_tab]); have fo56' := hr2.q.frozen 56; have lo2' := hr2.q.lt; clear hO2 hr2 hb2))
        go_roundw
        case rel =>
          refine ⟨k + 1, by omega, by go_num, A2, p2, Lib.hid ?_, Lib.hid (ownsF_but (by rw [hesL_succ]; exact HO2.out) (But.one 56 _) (fun g hg => by have := ownsF_lt HO2.out hg; omega))⟩
          have := HR2.out.q.set_ 56 (.slice A2 (k + 1) p2) (by rw [roL_len]; omega)
          rw [ro_setTab, Nat.zero_add] at this
          exact HR2.out.turn this (But.one 56 _)
        case measure => simp [intOf]; omega
    · go_upto_region 14 with fail
      obtain rfl : k = n := by omega
      obtain ⟨Z, hzl, hz⟩ := HR.out.z
      have HZ := Lib.hid hz
      have HZL := Lib.hid hzl
      clear hz hzl
      refine wp_region_lit ?_
      go_wp2_with (first
        | (refine wpList_load_pin rfl 61 (.tmp 5) rfl HR.out.q (by simp [Act.eval, Act.put]) _ Try.underlying61 rfl 57 size_rrow (roL_len _ _ _ _ _) ?_)
        | (refine wpList_store_pin rfl 61 (.tmp 4) (.tmp 60) rfl HZ.out (roL true (plC c) A' k p') (by simp [Act.eval, Act.put]) (by simp [Act.eval, Act.put]) 57 size_rrow HZL.out (roL_len _ _ _ _ _) (roL_one _ _ _ _ _) ?_; intro w2 p2 b2))
      have hld := p2.var 61 _ Try.underlying61 rfl 57 size_rrow (roL_len _ _ _ _ _)
      exact bodyPost_ret (v := .agg (roL true (plC c) A' k p').toArray) (by simp [results, Try.results25, asAddr, Act.put, hld]) rfl ⟨A', p', rfl, ownsF_mono (ownsF_but HO.out b2 (fun g hg => by have := ownsF_lt HO.out hg; have := HR.out.lo; omega)) (Nat.zero_le _), HR.out.b.trans (b2.low (Nat.le_succ _))⟩
/-- In one word. -/
theorem rplain_any (N : Int) (n : Nat) (hN : N = (n : Int)) (hn : n ≤ 16) (r : Rw) (hm : r.n ≤ 65536) (w : World) (hT : LiesH w w.heap.size r.A r.n r.T) :
    Calls Try.prog 25 #[.int .i64 N, .agg r.l.toArray] w fun e w' => ∃ Q : Rw, e = .returned (.agg Q.l.toArray) ∧ Q.ro = plR n r.ro ∧ OwnT w' Q ∧ Below w.heap.size w w' := by
  subst hN
  obtain ⟨b, c, A, m, p, T⟩ := r
  cases b
  · exact (rplain_no n false c A m p rfl w).mono fun e w' ⟨h1, h2⟩ => ⟨rwN, h1, rfl, OwnT.nil_ _ _ _, h2⟩
  · exact (rplain_yes n hn c A m p hm T w hT).mono fun e w' ⟨A', p', h1, h2, h3⟩ => ⟨⟨true, plC c, A', n, p', fun i => plH (fitH T m i)⟩, h1, rfl, h2, h3⟩
end Go.Proofs.Ytmmgbhdjjejacaa

