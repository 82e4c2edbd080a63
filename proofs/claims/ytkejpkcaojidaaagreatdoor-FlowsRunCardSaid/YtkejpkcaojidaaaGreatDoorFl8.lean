/-
  The contract of flows' Begin: of no flow; with an error (then it is in no slot); as a half; as another one. Conditions: the flow's reading; the contracts of what it calls; both tables are as the program's text lays them.
-/
import Derived.Test.YtkejpkcaojidaaaGreatDoorCi
import Derived.Test.YtkejpkcaojidaaaGreatDoorSn4
import Derived.Deep.MidRow
import Derived.Test.YtkejpkcaojidaaaGreatDoorRegM
import Derived.Deep.WholeRow
import Derived.Test.YtkejpkcaojidaaaGreatDoorReg6
import Derived.Deep.RegionLaw
import Derived.Test.YtkejpkcaojidaaaGreatDoorWn4
namespace Go.Proofs.YtkejpkcaojidaaaGreatDoor
set_option linter.unusedVariables false
set_option linter.unusedSimpArgs false
set_option linter.unusedVariables false
set_option linter.unusedSimpArgs false
open Go.RowKit Rg
set_option linter.unusedVariables false


/-- What a flow runs: nothing; a half's sender; another one's ways: their windows, their catches' cells. -/
inductive PSt where
  | no
  | half (p : Option Addr)
  | oth (X Y : Wn) (A B : List Value)
def othL (X Y : Wn) (A B : List Value) : List Value := [.int .u8 X.r, .int .i64 X.p, .int .i64 X.b, .int .i64 X.e] ++ (A ++ ([.int .u8 Y.r, .int .i64 Y.p, .int .i64 Y.b, .int .i64 Y.e] ++ B))
def PSt.val : PSt → Value
  | .no => .nilIface
  | .half p => .iface 161 (.agg #[.pointer p])
  | .oth X Y A B => .iface 165 (.agg (othL X Y A B).toArray)
def PSt.sen : PSt → Value
  | .half p => .pointer p
  | _ => .pointer none
def catN : List Value := catZ .nilFunc
theorem catN_len : catN.length = 123 := by simp [catN, catZ, catL]
def PSt.each : PSt → List Value
  | .oth X Y A B => A ++ B
  | _ => catN ++ catN
/-- Cells that may be those of a catch. -/
structure CatC (A : List Value) : Prop where
  len : A.length = 123
  one : ∀ v ∈ A, v.oneCell' = true
def PSt.Ok : PSt → Prop
  | .oth X Y A B => CatC A ∧ CatC B
  | _ => True
/-- A flow in its block. -/
def FlowB (w : World) (g : Nat) (b c : Cf) (x : Int) (s : PSt) : Prop := Blk w g 82 [.int .i64 b.N, .slice b.pA b.pn b.pc, .slice b.sA b.sn b.sc, .int .i64 b.L, .slice b.bA b.bn b.bc, .slice b.tA b.tn b.tc, .int .i64 b.M, .int .i64 b.G, .int .i64 b.F, .int .i64 c.N, .slice c.pA c.pn c.pc, .slice c.sA c.sn c.sc, .int .i64 c.L, .slice c.bA c.bn c.bc, .slice c.tA c.tn c.tc, .int .i64 c.M, .int .i64 c.G, .int .i64 c.F, .int .i64 x, s.val].toArray
theorem FlowB.on {w w' : World} {g : Nat} {b c : Cf} {x : Int} {s : PSt} (h : FlowB w g b c x s) (hb : Below w.heap.size w w') : FlowB w' g b c x s := Blk.on h hb
theorem FlowB.part {w : World} {g : Nat} {b c : Cf} {x : Int} {s : PSt} (h : FlowB w g b c x s) : w.cell? ⟨g, 19, none⟩ = some s.val := (Blk.cell h 19).trans rfl
theorem FlowB.node {w : World} {g : Nat} {b c : Cf} {x : Int} {s : PSt} (h : FlowB w g b c x s) : w.cell? ⟨g, 18, none⟩ = some (.int .i64 x) := (Blk.cell h 18).trans rfl
theorem FlowB.net {w : World} {g : Nat} {b c : Cf} {x : Int} {s : PSt} (h : FlowB w g b c x s) (hc : CfIn w c) : NetIs w (.pointer (some ⟨g, 0, none⟩)) c := .inr ⟨g, b, rfl, ⟨_, [.int .i64 x, s.val], h⟩, hc⟩

theorem now_nil (w : World) : Calls Tryz.prog 29 #[.pointer none] w fun e w' => e = .returned .nilIface ∧ w = w' := by
  go_enter Tryz.func29, Tryz.ntmps29
  go_wp2_with fail
  go_ret
  exact ⟨rfl, rfl⟩
theorem now_is {g : Nat} {b c : Cf} {x : Int} {s : PSt} (w : World) (h : FlowB w g b c x s) : Calls Tryz.prog 29 #[.pointer (some ⟨g, 0, none⟩)] w fun e w' => e = .returned s.val ∧ w = w' := by
  have c19 := h.part
  have cl := Blk.lt h
  obtain ⟨v, hv⟩ : ∃ v, v = s.val := ⟨_, rfl⟩
  rw [← hv] at c19
  have HV := Lib.hid hv
  clear hv h
  go_enter Tryz.func29, Tryz.ntmps29
  go_wp2_with fail
  go_ret
  rw [HV.out]
  exact ⟨rfl, rfl⟩
/-- Whoever now answers of. -/
def NowF (w : World) (v : Value) (s : PSt) : Prop := (v = .pointer none ∧ s = .no) ∨ ∃ g b c x, v = .pointer (some ⟨g, 0, none⟩) ∧ FlowB w g b c x s
theorem now_any {v : Value} {s : PSt} (w : World) (h : NowF w v s) : Calls Tryz.prog 29 #[v] w fun e w' => e = .returned s.val ∧ w = w' := by
  rcases h with ⟨rfl, rfl⟩ | ⟨g, b, c, x, rfl, h⟩
  · exact now_nil w
  · exact now_is w h
theorem NowF.on {w w' : World} {v : Value} {s : PSt} (h : NowF w v s) (hb : Below w.heap.size w w') : NowF w' v s := by
  rcases h with h | ⟨g, b, c, x, e, h⟩
  · exact .inl h
  · exact .inr ⟨g, b, c, x, e, h.on hb⟩

def EachB (g : Nat) (E : List Value) (u : World) : Prop := Blk u g 117 E.toArray
theorem zero_each : Tryz.zeroCells117 = (catN ++ catN).toArray := by kernel_rfl
theorem size_each : (Tryz.prog.info? 117).map (·.size) = some 246 := by kernel_rfl
theorem size_oth : (Tryz.prog.info? 165).map (·.size) = some 254 := by kernel_rfl
theorem size_way : (Tryz.prog.info? 163).map (·.size) = some 127 := by kernel_rfl
theorem size_cat : (Tryz.prog.info? 116).map (·.size) = some 123 := by kernel_rfl
theorem ta_no_half (w : World) : (Instr.typeAssert .nilIface 80 161 true).run Tryz.prog w = .ok (.tuple #[.agg #[.pointer none], .bool false]) w := by kernel_rfl
theorem ta_no_oth (w : World) : (Instr.typeAssert .nilIface 80 165 true).run Tryz.prog w = .ok (.tuple #[.agg Tryz.zeroCells165, .bool false]) w := by kernel_rfl
theorem ta_half_half (v : Value) (w : World) : (Instr.typeAssert (.iface 161 v) 80 161 true).run Tryz.prog w = .ok (.tuple #[v, .bool true]) w := by kernel_rfl
theorem ta_oth_half (v : Value) (w : World) : (Instr.typeAssert (.iface 165 v) 80 161 true).run Tryz.prog w = .ok (.tuple #[.agg #[.pointer none], .bool false]) w := by kernel_rfl
theorem ta_oth_oth (v : Value) (w : World) : (Instr.typeAssert (.iface 165 v) 80 165 true).run Tryz.prog w = .ok (.tuple #[v, .bool true]) w := by kernel_rfl
theorem loadVar_each {w : World} {g : Nat} {cs : List Value} (h : Blk w g 117 cs.toArray) (hl : cs.length = 246) : (loadVar 117 ⟨g, 0, none⟩).run Tryz.prog w = .ok (.agg cs.toArray) w :=
  run_loadVar_row w g _ _ cs.toArray (0, 0) _ h Tryz.underlying117 rfl (by rw [size_each]; simp [hl])
theorem catN_one : ∀ v ∈ catN, v.oneCell' = true := by
  have : catN.all (·.oneCell') = true := by kernel_rfl
  exact List.all_eq_true.1 this
theorem two_len {A B : List Value} (hA : A.length = 123) (hB : B.length = 123) : (A ++ B).length = 246 := by rw [List.length_append, hA, hB]
theorem eachN_len : (catN ++ catN).length = 246 := two_len catN_len catN_len
theorem eachN_one : ∀ v ∈ catN ++ catN, v.oneCell' = true := List.forall_mem_append.2 ⟨catN_one, catN_one⟩
theorem idx_way {k : Nat} (hk : k < 2) (cs : Array Value) (w : World) : (Instr.index 165 (.agg cs) (.int .i64 (k : Int))).run Tryz.prog w = .ok (.agg (cs.extract (k * 127) (k * 127 + 127))) w := by
  have hu := run_underlying (P := Tryz.prog) Tryz.underlying165 w
  have hs : (sizeOf 163).run Tryz.prog w = .ok 127 w := by kernel_rfl
  have ha : (isAgg 163).run Tryz.prog w = .ok true w := by kernel_rfl
  simp [Instr.index, asIntOf, hu, Result.andThen, part, hs, ha, hk]
theorem idx_way0 {A B : List Value} (hA : A.length = 127) (hB : B.length = 127) (w : World) : (Instr.index 165 (.agg (A ++ B).toArray) (.int .i64 0)).run Tryz.prog w = .ok (.agg A.toArray) w := by
  have := idx_way (k := 0) (by omega) (A ++ B).toArray w
  rw [show (A ++ B).toArray.extract (0 * 127) (0 * 127 + 127) = A.toArray by simp [List.take_append_of_le_length, hA]] at this
  exact this
theorem idx_way1 {A B : List Value} (hA : A.length = 127) (hB : B.length = 127) (w : World) : (Instr.index 165 (.agg (A ++ B).toArray) (.int .i64 1)).run Tryz.prog w = .ok (.agg B.toArray) w := by
  have := idx_way (k := 1) (by omega) (A ++ B).toArray w
  rw [show (A ++ B).toArray.extract (1 * 127) (1 * 127 + 127) = B.toArray by
    have e : ((A ++ B).drop 127).take 127 = B := by rw [List.drop_append_of_le_length (by omega), List.drop_of_length_le (by omega), List.nil_append, List.take_of_length_le (by omega)]
    rw [List.extract_toArray, List.extract_eq_take_drop]
    exact congrArg List.toArray e] at this
  exact this
set_option maxRecDepth 100000 in
set_option maxHeartbeats 4000000 in
theorem standsOn_no (v : Value) (w : World) (h : NowF w v .no) :
    Calls Tryz.prog 34 #[v] w fun e w' => e = .returned (.tuple #[.pointer none, .agg (catN ++ catN).toArray]) ∧ Below w.heap.size w w' := by
  have HN := Lib.hid (show ∀ u, Below w.heap.size w u → Calls Tryz.prog 29 #[v] u fun e w' => e = .returned (.nilIface) ∧ u = w' from fun u hb => now_any (s := .no) u (h.on (w' := u) hb))
  have HZ := Lib.hid zero_each
  have hB := Blk.new w 117 (catN ++ catN).toArray
  obtain ⟨E, hE⟩ : ∃ E, E = catN ++ catN := ⟨_, rfl⟩
  have HL := Lib.hid (show E.length = 246 from hE ▸ eachN_len)
  have H1 := Lib.hid (show ∀ v ∈ E, v.oneCell' = true from hE ▸ eachN_one)
  have HJ := Lib.hid (show ∀ J ∈ [EachB w.heap.size E], ∀ u u', Below u.heap.size u u' → J u → J u' by simp only [List.forall_mem_cons]; exact ⟨fun u u' hb hj => Blk.on hj hb, fun _ h => by cases h⟩)
  have HG := Lib.hid (Nat.le_refl w.heap.size)
  have HBL := Lib.hid (below_al (Below.refl w.heap.size w) (.cells E.toArray 117))
  rw [← hE] at HZ hB ⊢
  have HBE := Lib.hid hB
  have t1 := ta_no_half
  have t2 := ta_no_oth
  clear h hE hB
  go_enter Tryz.func34, Tryz.ntmps34
  go_wp2_with (go_at_call 29; (with_reducible refine (HN.out _ (below_al (Below.refl _ _) _)).mono ?_); rintro e w1 ⟨rfl, rfl⟩)
  rw [HZ.out]
  refine Reg.wp_slots5 (fun t => t == 2 || decide (28 ≤ t)) (Reg.KJ w.heap.size [w.heap.size] [EachB w.heap.size E]) (Reg.KJ.drew _ HJ.out) Reg.KJ.trans (by kernel_rfl) (by kernel_rfl) (by kernel_rfl) (fun zz => (Reg.tblK [
    (28, .is (.pointer none)),
    (29, .is (.agg E.toArray)),
    (2, .is (.pointer none))] zz).P) (fun zz => (Reg.tblK _ zz).on) (fun zz => (Reg.memK [] zz).P) (fun zz => (Reg.memK _ zz).on) [2] (by simp only [List.forall_mem_cons]; exact ⟨rfl, fun _ h => by cases h⟩) ?_ ?_
  · simp only [Reg.frame, Reg.over, Nat.reduceAdd, Nat.reduceBEq, Nat.reduceLeDiff, decide_true, decide_false, Bool.or_true, Bool.or_false, if_true, Bool.false_eq_true, if_false]
    refine ⟨?_, ?_, ?_, ?_, trivial⟩
    · intro x u hku h0s hd
      have h2 : x 2 = .pointer none := h0s 2 (by simp)
      refine wpOp_step rfl fun KK hK => ?_
      simp only [h2] at hK ⊢
      go_simp
      exact hK _ _ ⟨_, rfl, Reg.KJ.refl _, fun d hd => by cases hd; exact rfl, fun h => by cases h⟩
    · intro x u hku h0s hd
      refine wpOp_step rfl fun KK hK => ?_
      refine Reg.step_load_row (by rfl) 117 (.tmp 3) (by rfl) w.heap.size (by rfl) E 117 (hku.j (EachB w.heap.size E) (by simp) HBE.out) _ Tryz.underlying117 rfl (by rw [size_each, HL.out]) ?_
      exact hK _ _ ⟨_, rfl, Reg.KJ.refl _, fun d hd => by cases hd; exact rfl, fun h => by cases h⟩
    · intro x u hku h0s hd
      have h28 : x 28 = .pointer none := hd 0 (by decide)
      refine wpOp_step rfl fun KK hK => ?_
      simp only [h28] at hK ⊢
      go_simp
      exact hK _ _ ⟨_, rfl, Reg.KJ.refl _, fun d hd => by cases hd; exact rfl, fun h => by cases h⟩
    · intro x u hku h0s hd
      have h29 : x 29 = .agg E.toArray := hd 1 (by decide)
      refine wpOp_step rfl fun KK hK => ?_
      refine Reg.step_store_row (by rfl) 117 (.tmp 3) (.tmp 29) (by rfl) w.heap.size E.toArray (by rfl) (by exact h29) 117 E.toArray (hku.j (EachB w.heap.size E) (by simp) HBE.out) (by rw [size_each]; simp [HL.out]) rfl (all_oneCell_toArray H1.out) ?_
      exact hK _ _ ⟨_, rfl, Reg.KJ.row HG.out (by simp) (by simp only [List.forall_mem_cons]; exact ⟨fun hj => Blk.rowF hj, fun _ h => by cases h⟩), fun d hd => (by cases hd), fun _ => trivial⟩
  · intro x u hku h0s hd
    have e2 : x 2 = .pointer none := hd 2 (by decide)
    have hfin : Blk u w.heap.size 117 E.toArray := hku.j (EachB w.heap.size E) (by simp) HBE.out
    simp only [Reg.frame, Reg.over, Nat.reduceAdd, Nat.reduceBEq, Nat.reduceLeDiff, decide_true, decide_false, Bool.or_true, Bool.or_false, if_true, Bool.false_eq_true, if_false, e2]
    have hlv := loadVar_each hfin HL.out
    go_wp2_with fail
    exact bodyPost_ret (v := .tuple #[.pointer none, .agg E.toArray]) (by simp [results, Tryz.results34, asAddr, hlv]) rfl ⟨rfl, HBL.out.trans hku.1⟩
set_option maxRecDepth 100000 in
set_option maxHeartbeats 4000000 in
theorem standsOn_oth (v : Value) (w : World) (X Y : Wn) (A B : List Value) (hA : CatC A) (hB : CatC B) (h : NowF w v (.oth X Y A B)) :
    Calls Tryz.prog 34 #[v] w fun e w' => e = .returned (.tuple #[.pointer none, .agg (A ++ B).toArray]) ∧ Below w.heap.size w w' := by
  have HN := Lib.hid (show ∀ u, Below w.heap.size w u → Calls Tryz.prog 29 #[v] u fun e w' => e = .returned (.iface 165 (.agg (othL X Y A B).toArray)) ∧ u = w' from fun u hb => now_any (s := .oth X Y A B) u (h.on (w' := u) hb))
  have HZ := Lib.hid zero_each
  have hBN := Blk.new w 117 (catN ++ catN).toArray
  obtain ⟨E, hE⟩ : ∃ E, E = A ++ B := ⟨_, rfl⟩
  have HL := Lib.hid (show E.length = 246 from hE ▸ two_len hA.len hB.len)
  have H1 := Lib.hid (show ∀ v ∈ E, v.oneCell' = true from hE ▸ (List.forall_mem_append.2 ⟨hA.one, hB.one⟩))
  have HJ := Lib.hid (show ∀ J ∈ [EachB w.heap.size E], ∀ u u', Below u.heap.size u u' → J u → J u' by simp only [List.forall_mem_cons]; exact ⟨fun u u' hb hj => Blk.on hj hb, fun _ h => by cases h⟩)
  have HG := Lib.hid (Nat.le_refl w.heap.size)
  have HBL := Lib.hid (below_al (Below.refl w.heap.size w) (.cells E.toArray 117))
  obtain ⟨O, hO⟩ : ∃ O, O = othL X Y A B := ⟨_, rfl⟩
  obtain ⟨WA, hWA⟩ : ∃ WA, WA = [.int .u8 X.r, .int .i64 X.p, .int .i64 X.b, .int .i64 X.e] ++ A := ⟨_, rfl⟩
  obtain ⟨WB, hWB⟩ : ∃ WB, WB = [.int .u8 Y.r, .int .i64 Y.p, .int .i64 Y.b, .int .i64 Y.e] ++ B := ⟨_, rfl⟩
  have hWAl : WA.length = 127 := by rw [hWA, List.length_append, hA.len]; rfl
  have hWBl : WB.length = 127 := by rw [hWB, List.length_append, hB.len]; rfl
  have hOW : O = WA ++ WB := by rw [hO, hWA, hWB]; simp [othL]
  have hOl : O.length = 254 := by rw [hOW, List.length_append, hWAl, hWBl]
  have H2 := Lib.hid (show ∀ v ∈ WA, v.oneCell' = true by rw [hWA]; exact List.forall_mem_append.2 ⟨by simp [Value.oneCell'], hA.one⟩)
  have H3 := Lib.hid (show ∀ v ∈ WB, v.oneCell' = true by rw [hWB]; exact List.forall_mem_append.2 ⟨by simp [Value.oneCell'], hB.one⟩)
  have H4 := Lib.hid (show ∀ v ∈ O, v.oneCell' = true by rw [hOW]; exact List.forall_mem_append.2 ⟨H2.out, H3.out⟩)
  have hix0 := fun W => idx_way0 (A := WA) (B := WB) hWAl hWBl W
  have hix1 := fun W => idx_way1 (A := WA) (B := WB) hWAl hWBl W
  rw [← hOW] at hix0 hix1
  rw [← hO] at HN
  have HE := Lib.hid hE
  have HWA := Lib.hid hWA
  have HWB := Lib.hid hWB
  have HWAL := Lib.hid hWAl
  have HWBL := Lib.hid hWBl
  have t1 := ta_oth_half (.agg O.toArray)
  have t2 := ta_oth_oth (.agg O.toArray)
  have hst := store_big (O := O) 165 (w.alloc (.cells (catN ++ catN).toArray 117)) (w.heap.size + 1) (by simp) Tryz.zeroCells165 (by rw [hOl]; kernel_rfl) H4.out
  rw [← hE]
  clear h hE hBN hO hOW hWA hWB
  go_enter Tryz.func34, Tryz.ntmps34
  go_upto_region 7 with (go_at_call 29; (with_reducible refine (HN.out _ (below_al (Below.refl _ _) _)).mono ?_); rintro e w1 ⟨rfl, rfl⟩; rw [HZ.out])
  refine wp_region_lit ?_
  refine wpList_load_mid rfl 165 (.tmp 5) rfl (w.heap.size + 1) 0 ?hx O _ (fun j v hv => ?hr) Tryz.underlying165 rfl (by rw [size_oth, hOl]) ?_
  case hx => simp [Act.eval]
  case hr => rw [Nat.zero_add, (Blk.newIn (by simp)).cell]; simpa using hv
  go_wp2_with fail
  have HBC : Hid (Below w.heap.size w ((w.alloc (.cells (catN ++ catN).toArray 117)).alloc (.cells O.toArray 165))) := Lib.hid (below_al (below_al (Below.refl _ _) _) _)
  have HB0 : Hid (EachB w.heap.size (catN ++ catN) ((w.alloc (.cells (catN ++ catN).toArray 117)).alloc (.cells O.toArray 165))) := Lib.hid (Blk.alloc (Blk.new w 117 (catN ++ catN).toArray) _)
  obtain ⟨U, hU⟩ : ∃ U, U = (w.alloc (.cells (catN ++ catN).toArray 117)).alloc (.cells O.toArray 165) := ⟨_, rfl⟩
  rw [← hU] at HBC HB0 ⊢
  clear hU hst t1 t2
  obtain ⟨g, hg⟩ : ∃ g, g = w.heap.size := ⟨_, rfl⟩
  have HGW := Lib.hid hg
  rw [← hg] at HB0
  have HAL := Lib.hid hA.len
  have HBLN := Lib.hid hB.len
  have HAO := Lib.hid hA.one
  have HBO := Lib.hid hB.one
  clear hA hB
  go_loopw [19] (fun s wr => ∃ k : Nat, k ≤ 2 ∧ s = .int .i64 (k : Int) ∧ Hid (EachB w.heap.size ((if 0 < k then A else catN) ++ (if 1 < k then B else catN)) wr) ∧ Hid (Below w.heap.size w wr)) (fun s _ => 2 - (intOf s).toNat)
  case atStart => exact ⟨0, by omega, rfl, Lib.hid (by rw [← HGW.out]; exact HB0.out), HBC⟩
  case round =>
    clear HB0 HBC
    obtain ⟨k, hk, rfl, HB1, HBW⟩ := hrel
    rcases (show k = 0 ∨ k = 1 ∨ k = 2 by omega) with rfl | rfl | rfl
    · have E1 := HB1.out
      simp only [Nat.lt_irrefl, if_false, Nat.not_lt_zero] at E1
      have hst2 := store_big (O := WA) 163 wr wr.heap.size rfl Tryz.zeroCells163 (by rw [HWAL.out]; kernel_rfl) H2.out
      have hwl := HWAL.out
      have hal := HAL.out
      have HRA := Lib.hid (range_of (w := wr.alloc (.cells WA.toArray 163)) (g := wr.heap.size) (o := 4) (t := 163) A [.int .u8 X.r, .int .i64 X.p, .int .i64 X.b, .int .i64 X.e] [] (by rw [List.append_nil, ← HWA.out]; exact Blk.new _ _ _) rfl)
      have E2 : Blk (wr.alloc (.cells WA.toArray 163)) w.heap.size 117 ([] ++ (catN ++ catN)).toArray := by
        have := Blk.alloc (t := 117) (cs := (catN ++ catN).toArray) E1 (.cells WA.toArray 163)
        simpa using this
      have hst3 := store_part (o := 0) A catN [] catN E2 (by rw [hal, catN_len]) rfl HAO.out
      obtain ⟨q1, q2⟩ := setCells_heap A catN [] catN 0 w.heap.size 117 _ E2 (by rw [hal, catN_len]) rfl
      have HQ1 := Lib.hid q1
      have HQ2 := Lib.hid q2
      have HU := Lib.hid HAL.out
      clear E1 E2 q1 q2
      go_upto_region 10 with fail
      clear hst2
      refine wp_region_lit ?_
      go_wp2_with (refine wpList_load_mid rfl 116 (.tmp 24) rfl wr.heap.size 4 (by simp [Act.eval]) A _ HRA.out Tryz.underlying116 rfl (by rw [size_cat, HAL.out]) ?_)
      go_roundw
      case rel => exact ⟨1, by omega, rfl, Lib.hid (by have := HQ1.out; unfold EachB; simpa using this), Lib.hid ((below_al HBW.out _).trans (HQ2.out.low (Nat.le_refl _)))⟩
      case measure => simp [intOf]
    · have E1 := HB1.out
      simp only [Nat.lt_irrefl, if_false, Nat.zero_lt_one, if_true] at E1
      have hst2 := store_big (O := WB) 163 wr wr.heap.size rfl Tryz.zeroCells163 (by rw [HWBL.out]; kernel_rfl) H3.out
      have hwl := HWBL.out
      have hal := HBLN.out
      have HRA := Lib.hid (range_of (w := wr.alloc (.cells WB.toArray 163)) (g := wr.heap.size) (o := 4) (t := 163) B [.int .u8 Y.r, .int .i64 Y.p, .int .i64 Y.b, .int .i64 Y.e] [] (by rw [List.append_nil, ← HWB.out]; exact Blk.new _ _ _) rfl)
      have E2 : Blk (wr.alloc (.cells WB.toArray 163)) w.heap.size 117 (A ++ (catN ++ [])).toArray := by
        have := Blk.alloc (t := 117) (cs := (A ++ catN).toArray) E1 (.cells WB.toArray 163)
        simpa using this
      have hst3 := store_part B catN A [] E2 (by rw [hal, catN_len]) HAL.out HBO.out
      obtain ⟨q1, q2⟩ := setCells_heap B catN A [] 123 w.heap.size 117 _ E2 (by rw [hal, catN_len]) HAL.out
      have HQ1 := Lib.hid q1
      have HQ2 := Lib.hid q2
      have HU := Lib.hid HAL.out
      clear E1 E2 q1 q2
      go_upto_region 10 with fail
      clear hst2
      refine wp_region_lit ?_
      go_wp2_with (refine wpList_load_mid rfl 116 (.tmp 24) rfl wr.heap.size 4 (by simp [Act.eval]) B _ HRA.out Tryz.underlying116 rfl (by rw [size_cat, HBLN.out]) ?_)
      go_roundw
      case rel => exact ⟨2, by omega, rfl, Lib.hid (by have := HQ1.out; unfold EachB; simpa using this), Lib.hid ((below_al HBW.out _).trans (HQ2.out.low (Nat.le_refl _)))⟩
      case measure => simp [intOf]
    · have HX : Hid (EachB w.heap.size E wr) := Lib.hid (by rw [HE.out]; exact HB1.out)
      have HBL := HBW
      have HBE := HX
      clear HB1 HX
      go_wp2_with fail
      refine Reg.wp_slots5 (fun t => t == 2 || decide (28 ≤ t)) (Reg.KJ w.heap.size [w.heap.size] [EachB w.heap.size E]) (Reg.KJ.drew _ HJ.out) Reg.KJ.trans (by kernel_rfl) (by kernel_rfl) (by kernel_rfl) (fun zz => (Reg.tblK [
        (28, .is (.pointer none)),
        (29, .is (.agg E.toArray)),
        (2, .is (.pointer none))] zz).P) (fun zz => (Reg.tblK _ zz).on) (fun zz => (Reg.memK [] zz).P) (fun zz => (Reg.memK _ zz).on) [2] (by simp only [List.forall_mem_cons]; exact ⟨rfl, fun _ h => by cases h⟩) ?_ ?_
      · simp only [Reg.frame, Reg.over, Nat.reduceAdd, Nat.reduceBEq, Nat.reduceLeDiff, decide_true, decide_false, Bool.or_true, Bool.or_false, if_true, Bool.false_eq_true, if_false]
        refine ⟨?_, ?_, ?_, ?_, trivial⟩
        · intro x u hku h0s hd
          have h2 : x 2 = .pointer none := h0s 2 (by simp)
          refine wpOp_step rfl fun KK hK => ?_
          simp only [h2] at hK ⊢
          go_simp
          exact hK _ _ ⟨_, rfl, Reg.KJ.refl _, fun d hd => by cases hd; exact rfl, fun h => by cases h⟩
        · intro x u hku h0s hd
          refine wpOp_step rfl fun KK hK => ?_
          refine Reg.step_load_row (by rfl) 117 (.tmp 3) (by rfl) w.heap.size (by rfl) E 117 (hku.j (EachB w.heap.size E) (by simp) HBE.out) _ Tryz.underlying117 rfl (by rw [size_each, HL.out]) ?_
          exact hK _ _ ⟨_, rfl, Reg.KJ.refl _, fun d hd => by cases hd; exact rfl, fun h => by cases h⟩
        · intro x u hku h0s hd
          have h28 : x 28 = .pointer none := hd 0 (by decide)
          refine wpOp_step rfl fun KK hK => ?_
          simp only [h28] at hK ⊢
          go_simp
          exact hK _ _ ⟨_, rfl, Reg.KJ.refl _, fun d hd => by cases hd; exact rfl, fun h => by cases h⟩
        · intro x u hku h0s hd
          have h29 : x 29 = .agg E.toArray := hd 1 (by decide)
          refine wpOp_step rfl fun KK hK => ?_
          refine Reg.step_store_row (by rfl) 117 (.tmp 3) (.tmp 29) (by rfl) w.heap.size E.toArray (by rfl) (by exact h29) 117 E.toArray (hku.j (EachB w.heap.size E) (by simp) HBE.out) (by rw [size_each]; simp [HL.out]) rfl (all_oneCell_toArray H1.out) ?_
          exact hK _ _ ⟨_, rfl, Reg.KJ.row HG.out (by simp) (by simp only [List.forall_mem_cons]; exact ⟨fun hj => Blk.rowF hj, fun _ h => by cases h⟩), fun d hd => (by cases hd), fun _ => trivial⟩
      · intro x u hku h0s hd
        have e2 : x 2 = .pointer none := hd 2 (by decide)
        have hfin : Blk u w.heap.size 117 E.toArray := hku.j (EachB w.heap.size E) (by simp) HBE.out
        simp only [Reg.frame, Reg.over, Nat.reduceAdd, Nat.reduceBEq, Nat.reduceLeDiff, decide_true, decide_false, Bool.or_true, Bool.or_false, if_true, Bool.false_eq_true, if_false, e2]
        have hlv := loadVar_each hfin HL.out
        go_wp2_with fail
        exact bodyPost_ret (v := .tuple #[.pointer none, .agg E.toArray]) (by simp [results, Tryz.results34, asAddr, hlv]) rfl ⟨rfl, HBL.out.trans hku.1⟩
set_option maxRecDepth 100000 in
set_option maxHeartbeats 4000000 in
theorem standsOn_half (v : Value) (w : World) (p : Option Addr) (h : NowF w v (.half p)) :
    Calls Tryz.prog 34 #[v] w fun e w' => e = .returned (.tuple #[.pointer p, .agg (catN ++ catN).toArray]) ∧ Below w.heap.size w w' := by
  have HN := Lib.hid (show ∀ u, Below w.heap.size w u → Calls Tryz.prog 29 #[v] u fun e w' => e = .returned (.iface 161 (.agg #[.pointer p])) ∧ u = w' from fun u hb => now_any (s := .half p) u (h.on (w' := u) hb))
  have HZ := Lib.hid zero_each
  have hB := Blk.new w 117 (catN ++ catN).toArray
  obtain ⟨E, hE⟩ : ∃ E, E = catN ++ catN := ⟨_, rfl⟩
  have HL := Lib.hid (show E.length = 246 from hE ▸ eachN_len)
  have H1 := Lib.hid (show ∀ v ∈ E, v.oneCell' = true from hE ▸ eachN_one)
  have HJ := Lib.hid (show ∀ J ∈ [EachB w.heap.size E], ∀ u u', Below u.heap.size u u' → J u → J u' by simp only [List.forall_mem_cons]; exact ⟨fun u u' hb hj => Blk.on hj hb, fun _ h => by cases h⟩)
  have HG := Lib.hid (Nat.le_refl w.heap.size)
  have HBL := Lib.hid (below_al (Below.refl w.heap.size w) (.cells E.toArray 117))
  rw [← hE] at HZ hB ⊢
  have HBE : Hid (EachB w.heap.size E ((w.alloc (.cells E.toArray 117)).alloc (.cells #[.pointer p] 161))) := Lib.hid (Blk.alloc (t := 117) (cs := E.toArray) hB _)
  have HBL : Hid (Below w.heap.size w ((w.alloc (.cells E.toArray 117)).alloc (.cells #[.pointer p] 161))) := Lib.hid (below_al (below_al (Below.refl _ _) _) _)
  have t1 := ta_half_half (.agg #[.pointer p])
  clear h hE hB
  go_enter Tryz.func34, Tryz.ntmps34
  go_wp2_with (go_at_call 29; (with_reducible refine (HN.out _ (below_al (Below.refl _ _) _)).mono ?_); rintro e w1 ⟨rfl, rfl⟩)
  rw [HZ.out]
  refine Reg.wp_slots5 (fun t => t == 2 || decide (28 ≤ t)) (Reg.KJ w.heap.size [w.heap.size] [EachB w.heap.size E]) (Reg.KJ.drew _ HJ.out) Reg.KJ.trans (by kernel_rfl) (by kernel_rfl) (by kernel_rfl) (fun zz => (Reg.tblK [
    (28, .is (.pointer p)),
    (29, .is (.agg E.toArray)),
    (2, .is (.pointer p))] zz).P) (fun zz => (Reg.tblK _ zz).on) (fun zz => (Reg.memK [] zz).P) (fun zz => (Reg.memK _ zz).on) [2] (by simp only [List.forall_mem_cons]; exact ⟨rfl, fun _ h => by cases h⟩) ?_ ?_
  · simp only [Reg.frame, Reg.over, Nat.reduceAdd, Nat.reduceBEq, Nat.reduceLeDiff, decide_true, decide_false, Bool.or_true, Bool.or_false, if_true, Bool.false_eq_true, if_false]
    refine ⟨?_, ?_, ?_, ?_, trivial⟩
    · intro x u hku h0s hd
      have h2 : x 2 = .pointer p := h0s 2 (by simp)
      refine wpOp_step rfl fun KK hK => ?_
      simp only [h2] at hK ⊢
      go_simp
      exact hK _ _ ⟨_, rfl, Reg.KJ.refl _, fun d hd => by cases hd; exact rfl, fun h => by cases h⟩
    · intro x u hku h0s hd
      refine wpOp_step rfl fun KK hK => ?_
      refine Reg.step_load_row (by rfl) 117 (.tmp 3) (by rfl) w.heap.size (by rfl) E 117 (hku.j (EachB w.heap.size E) (by simp) HBE.out) _ Tryz.underlying117 rfl (by rw [size_each, HL.out]) ?_
      exact hK _ _ ⟨_, rfl, Reg.KJ.refl _, fun d hd => by cases hd; exact rfl, fun h => by cases h⟩
    · intro x u hku h0s hd
      have h28 : x 28 = .pointer p := hd 0 (by decide)
      refine wpOp_step rfl fun KK hK => ?_
      simp only [h28] at hK ⊢
      go_simp
      exact hK _ _ ⟨_, rfl, Reg.KJ.refl _, fun d hd => by cases hd; exact rfl, fun h => by cases h⟩
    · intro x u hku h0s hd
      have h29 : x 29 = .agg E.toArray := hd 1 (by decide)
      refine wpOp_step rfl fun KK hK => ?_
      refine Reg.step_store_row (by rfl) 117 (.tmp 3) (.tmp 29) (by rfl) w.heap.size E.toArray (by rfl) (by exact h29) 117 E.toArray (hku.j (EachB w.heap.size E) (by simp) HBE.out) (by rw [size_each]; simp [HL.out]) rfl (all_oneCell_toArray H1.out) ?_
      exact hK _ _ ⟨_, rfl, Reg.KJ.row HG.out (by simp) (by simp only [List.forall_mem_cons]; exact ⟨fun hj => Blk.rowF hj, fun _ h => by cases h⟩), fun d hd => (by cases hd), fun _ => trivial⟩
  · intro x u hku h0s hd
    have e2 : x 2 = .pointer p := hd 2 (by decide)
    have hfin : Blk u w.heap.size 117 E.toArray := hku.j (EachB w.heap.size E) (by simp) HBE.out
    simp only [Reg.frame, Reg.over, Nat.reduceAdd, Nat.reduceBEq, Nat.reduceLeDiff, decide_true, decide_false, Bool.or_true, Bool.or_false, if_true, Bool.false_eq_true, if_false, e2]
    have hlv := loadVar_each hfin HL.out
    go_wp2_with fail
    exact bodyPost_ret (v := .tuple #[.pointer p, .agg E.toArray]) (by simp [results, Tryz.results34, asAddr, hlv]) rfl ⟨rfl, HBL.out.trans hku.1⟩
theorem standsOn_any (s : PSt) (hs : s.Ok) (v : Value) (w : World) (h : NowF w v s) :
    Calls Tryz.prog 34 #[v] w fun e w' => e = .returned (.tuple #[s.sen, .agg s.each.toArray]) ∧ Below w.heap.size w w' := by
  cases s with
  | no => exact standsOn_no v w h
  | half p => exact standsOn_half v w p h
  | oth X Y A B => exact standsOn_oth v w X Y A B hs.1 hs.2 h
end Go.Proofs.YtkejpkcaojidaaaGreatDoor

namespace Go.Proofs.YtkejpkcaojidaaaGreatDoor
set_option linter.unusedVariables false
set_option linter.unusedSimpArgs false
open Go.RowKit Rg
set_option linter.unusedVariables false

/-- A catch of these cells answers so. -/
def HiC (A : List Value) (F : Fr) (r : Bool) : Prop := ∀ u g, Blk u g 116 A.toArray → Calls Tryz.prog 35 #[.pointer (some ⟨g, 0, none⟩)] u fun e w' => e = .returned (.tuple #[.agg #[.int .i64 F.o, .int .u8 F.k, .int .u8 F.s, .int .u32 F.q, .int .u32 F.v], .bool r]) ∧ Below u.heap.size u w'
theorem HiC.at_ {A : List Value} {F : Fr} {r : Bool} {u : World} {g : Nat} (h : HiC A F r) (hB : Blk u g 116 A.toArray) : Calls Tryz.prog 35 #[.pointer (some ⟨g, 0, none⟩)] u fun e w' => e = .returned (.tuple #[.agg #[.int .i64 F.o, .int .u8 F.k, .int .u8 F.s, .int .u32 F.q, .int .u32 F.v], .bool r]) ∧ Below u.heap.size u w' := h u g hB
theorem hiC_none : HiC catN Fr.zero false := fun u g hB => high_is (n := 0) (s := 0) hB (by simp) false (by simp) Fr.zero (by rfl)
theorem hiC_cat (x y : Nat → Int) (o : Int) (n : Nat) : HiC (catS x y o n) (hiF x y o n) (hiB x y o n) := fun u g hB => cHigh (g := g) (x := x) (y := y) (o := o) (n := n) (w := u) hB _ rfl _ rfl
theorem catS_len (x y : Nat → Int) (o : Int) (n : Nat) : (catS x y o n).length = 123 := by rw [catS]; exact catL_length (bodyF_length n)
theorem catC_none : CatC catN := ⟨catN_len, catN_one⟩
theorem nextV_one (o : Int) (n : Nat) : (nextV o n).oneCell' = true := by
  unfold nextV firstV secondV thirdV
  split
  · rfl
  · split
    · rfl
    · split <;> rfl
theorem catC_of (x y : Nat → Int) (o : Int) (n : Nat) : CatC (catS x y o n) := by
  refine ⟨catS_len x y o n, fun v hv => ?_⟩
  unfold catS catL at hv
  simp only [List.cons_append, List.nil_append, List.mem_cons, List.mem_append, List.mem_map, List.not_mem_nil, or_false] at hv
  rcases hv with h | h | h | h | ⟨a, _, h⟩ | h | h | h | h | h | h | h
  · rw [h]; exact nextV_one o n
  all_goals subst h; rfl
theorem idx_each {k : Nat} (hk : k < 2) (cs : Array Value) (w : World) : (Instr.index 117 (.agg cs) (.int .i64 (k : Int))).run Tryz.prog w = .ok (.agg (cs.extract (k * 123) (k * 123 + 123))) w := by
  have hu := run_underlying (P := Tryz.prog) Tryz.underlying117 w
  have hs : (sizeOf 116).run Tryz.prog w = .ok 123 w := by kernel_rfl
  have ha : (isAgg 116).run Tryz.prog w = .ok true w := by kernel_rfl
  simp [Instr.index, asIntOf, hu, Result.andThen, part, hs, ha, hk]
theorem idx_each0 {A B : List Value} (hA : A.length = 123) (hB : B.length = 123) (w : World) : (Instr.index 117 (.agg (A ++ B).toArray) (.int .i64 0)).run Tryz.prog w = .ok (.agg A.toArray) w := by
  have := idx_each (k := 0) (by omega) (A ++ B).toArray w
  rw [show (A ++ B).toArray.extract (0 * 123) (0 * 123 + 123) = A.toArray by simp [List.take_append_of_le_length, hA]] at this
  exact this
theorem idx_each1 {A B : List Value} (hA : A.length = 123) (hB : B.length = 123) (w : World) : (Instr.index 117 (.agg (A ++ B).toArray) (.int .i64 1)).run Tryz.prog w = .ok (.agg B.toArray) w := by
  have := idx_each (k := 1) (by omega) (A ++ B).toArray w
  rw [show (A ++ B).toArray.extract (1 * 123) (1 * 123 + 123) = B.toArray by
    have e : ((A ++ B).drop 123).take 123 = B := by rw [List.drop_append_of_le_length (by omega), List.drop_of_length_le (by omega), List.nil_append, List.take_of_length_le (by omega)]
    rw [List.extract_toArray, List.extract_eq_take_drop]
    exact congrArg List.toArray e] at this
  exact this
set_option maxRecDepth 100000 in
set_option maxHeartbeats 4000000 in
theorem fSent_is (s : PSt) (hs : s.Ok) (hE1 : s.each.length = 246) (hE2 : ∀ v ∈ s.each, v.oneCell' = true) (v : Value) (w : World) (h : NowF w v s) (f : Fr) (t : Bool) (HS : ∀ u, Below w.heap.size w u → Calls Tryz.prog 37 #[s.sen] u fun e w' => e = .returned (.tuple #[.agg #[.int .u8 f.k, .int .u8 f.s, .int .u32 f.q, .int .u32 f.v], .bool t]) ∧ Below u.heap.size u w') :
    Calls Tryz.prog 15 #[v] w fun e w' => e = .returned (.tuple #[.agg #[.int .u8 f.k, .int .u8 f.s, .int .u32 f.q, .int .u32 f.v], .bool t]) ∧ Below w.heap.size w w' := by
  have hb0 := below_al (Below.refl w.heap.size w) (.cells #[.int .u8 0, .int .u8 0, .int .u32 0, .int .u32 0] 40)
  have hZ := Blk.new w 40 #[.int .u8 0, .int .u8 0, .int .u32 0, .int .u32 0]
  have HB0 := Lib.hid hb0
  have HSO := Lib.hid (standsOn_any s hs v _ (h.on hb0))
  have HSE := Lib.hid HS
  obtain ⟨E, hE⟩ : ∃ E, E = s.each := ⟨_, rfl⟩
  obtain ⟨V, hV⟩ : ∃ V, V = s.sen := ⟨_, rfl⟩
  rw [← hE] at HSO hE1 hE2
  rw [← hV] at HSO HSE
  have H1 := Lib.hid hE2
  clear h HS hE hV hE2 hs hb0
  go_enter Tryz.func15, Tryz.ntmps15
  go_wp2_with (first
    | (go_at_call 34; (with_reducible refine HSO.out.mono ?_); rintro e w1 ⟨rfl, b1⟩; have hst := store_big (O := E) 117 w1 w1.heap.size rfl Tryz.zeroCells117 (by rw [hE1]; kernel_rfl) H1.out; have hZ1 := (hZ.on b1).alloc (.cells E.toArray 117); have b2 := below_al (below_then HB0.out b1) (.cells E.toArray 117))
    | (go_at_call 37; (with_reducible refine (HSE.out _ b2).mono ?_); rintro e w3 ⟨rfl, b3⟩; have hZ3 := hZ1.on b3; have z0 := hZ3.cell 0; have z1 := hZ3.cell 1; have z2 := hZ3.cell 2; have z3 := hZ3.cell 3; have zl := hZ3.lt; simp only [List.getElem?_toArray, List.getElem?_cons_zero, List.getElem?_cons_succ] at z0 z1 z2 z3; have zf := hZ3.frozen))
  exact bodyPost_ret (v := .tuple #[.agg #[.int .u8 f.k, .int .u8 f.s, .int .u32 f.q, .int .u32 f.v], .bool t]) (by simp [results, Tryz.results15, go_sem, z0, z1, z2, z3, zl]) rfl ⟨rfl, below_four (below_then b2 b3) (Nat.le_refl _) _ _ _ _⟩
set_option maxRecDepth 100000 in
set_option maxHeartbeats 4000000 in
theorem fHigh_of (s : PSt) (hs : s.Ok) (A B : List Value) (hAB : s.each = A ++ B) (hA : CatC A) (hB : CatC B) (Fa Fb : Fr) (ra rb : Bool) (ha : HiC A Fa ra) (hb : HiC B Fb rb) (v : Value) (w : World) (h : NowF w v s) :
    Calls Tryz.prog 17 #[v] w fun e w' => e = .returned (.agg #[.bool ra, .bool rb]) ∧ Below w.heap.size w w' := by
  have hb0 := below_al (Below.refl w.heap.size w) (.cells #[.bool false, .bool false] 57)
  have hZ := Blk.new w 57 #[.bool false, .bool false]
  have HB0 := Lib.hid hb0
  have HSO := Lib.hid (standsOn_any s hs v _ (h.on hb0))
  have hix0 := fun W => idx_each0 (A := A) (B := B) hA.len hB.len W
  have hix1 := fun W => idx_each1 (A := A) (B := B) hA.len hB.len W
  obtain ⟨E, hE⟩ : ∃ E, E = A ++ B := ⟨_, rfl⟩
  have hE1 : E.length = 246 := hE ▸ two_len hA.len hB.len
  have H1 := Lib.hid (show ∀ v ∈ E, v.oneCell' = true from hE ▸ List.forall_mem_append.2 ⟨hA.one, hB.one⟩)
  rw [hAB] at HSO
  rw [← hE] at HSO hix0 hix1
  obtain ⟨V, hV⟩ : ∃ V, V = s.sen := ⟨_, rfl⟩
  rw [← hV] at HSO
  have HAL := Lib.hid hA.len
  have HBLN := Lib.hid hB.len
  have HAO := Lib.hid hA.one
  have HBO := Lib.hid hB.one
  have HHA := Lib.hid ha
  have HHB := Lib.hid hb
  clear h hE hV hs hb0 hA hB ha hb hAB
  go_enter Tryz.func17, Tryz.ntmps17
  go_upto_region 2 with (go_at_call 34; (with_reducible refine HSO.out.mono ?_); rintro e w1 ⟨rfl, b1⟩; have hst := store_big (O := E) 117 w1 w1.heap.size rfl Tryz.zeroCells117 (by rw [hE1]; kernel_rfl) H1.out; have hZ1 := (hZ.on b1).alloc (.cells E.toArray 117); have b2 := below_al (below_then HB0.out b1) (.cells E.toArray 117))
  clear hst
  refine wp_region_lit ?_
  refine wpList_load_mid rfl 117 (.tmp 4) rfl w1.heap.size 0 ?hx E _ (fun j v hv => ?hr) Tryz.underlying117 rfl (by rw [size_each, hE1]) ?_
  case hx => simp [Act.eval]
  case hr => rw [Nat.zero_add, (Blk.new w1 117 E.toArray).cell]; simpa using hv
  go_wp2_with fail
  have HZ0 := Lib.hid hZ1
  have HB2 := Lib.hid b2
  clear hZ1 b2 hZ b1 HSO
  go_loopw [13] (fun s wr => ∃ k : Nat, k ≤ 2 ∧ s = .int .i64 (k : Int) ∧ Hid (Blk wr w.heap.size 57 #[.bool (if 0 < k then ra else false), .bool (if 1 < k then rb else false)]) ∧ Hid (Below w.heap.size w wr)) (fun s _ => 2 - (intOf s).toNat)
  case atStart => exact ⟨0, by omega, rfl, HZ0, HB2⟩
  case round =>
    clear HZ0 HB2
    obtain ⟨k, hk, rfl, HB1, HBW⟩ := hrel
    rcases (show k = 0 ∨ k = 1 ∨ k = 2 by omega) with rfl | rfl | rfl
    · have hst := store_big (O := A) 116 wr wr.heap.size rfl Tryz.zeroCells116 (by rw [HAL.out]; kernel_rfl) HAO.out
      have hal := HAL.out
      have E1 : Blk wr w.heap.size 57 #[.bool false, .bool false] := HB1.out
      have HN1 := Lib.hid (Blk.alloc E1 (.cells A.toArray 116))
      clear E1
      go_wp2_with (go_at_call 35; (with_reducible refine (HHA.out.at_ (Blk.new wr 116 A.toArray)).mono ?_); rintro e w3 ⟨rfl, b3⟩; have hZ3 := HN1.out.on b3; have z0 := hZ3.cell 0; have z1 := hZ3.cell 1; have zl := hZ3.lt; simp only [List.getElem?_toArray, List.getElem?_cons_zero, List.getElem?_cons_succ] at z0 z1; have zf := hZ3.frozen)
      have hq := hZ3.set_ 0 (.bool ra)
      go_roundw
      case rel => exact ⟨1, by omega, rfl, Lib.hid hq, Lib.hid ((below_then (below_al HBW.out _) b3).setCell (p := ⟨w.heap.size, 0, none⟩) (Nat.le_refl _) _)⟩
      case measure => simp [intOf]
    · have hst := store_big (O := B) 116 wr wr.heap.size rfl Tryz.zeroCells116 (by rw [HBLN.out]; kernel_rfl) HBO.out
      have hal := HBLN.out
      have E1 : Blk wr w.heap.size 57 #[.bool ra, .bool false] := HB1.out
      have HN1 := Lib.hid (Blk.alloc E1 (.cells B.toArray 116))
      clear E1
      go_wp2_with (go_at_call 35; (with_reducible refine (HHB.out.at_ (Blk.new wr 116 B.toArray)).mono ?_); rintro e w3 ⟨rfl, b3⟩; have hZ3 := HN1.out.on b3; have z0 := hZ3.cell 0; have z1 := hZ3.cell 1; have zl := hZ3.lt; simp only [List.getElem?_toArray, List.getElem?_cons_zero, List.getElem?_cons_succ] at z0 z1; have zf := hZ3.frozen)
      have hq := hZ3.set_ 1 (.bool rb)
      go_roundw
      case rel => exact ⟨2, by omega, rfl, Lib.hid hq, Lib.hid ((below_then (below_al HBW.out _) b3).setCell (p := ⟨w.heap.size, 1, none⟩) (Nat.le_refl _) _)⟩
      case measure => simp [intOf]
    · have hZ3 : Blk wr w.heap.size 57 #[.bool ra, .bool rb] := HB1.out
      have z0 := hZ3.cell 0
      have z1 := hZ3.cell 1
      have zl := hZ3.lt
      have zf := hZ3.frozen
      simp only [List.getElem?_toArray, List.getElem?_cons_zero, List.getElem?_cons_succ] at z0 z1
      go_wp2_with fail
      exact bodyPost_ret (v := .agg #[.bool ra, .bool rb]) (by simp [results, Tryz.results17, go_sem, z0, z1, zl]) rfl ⟨rfl, ((HBW.out.setCell (p := ⟨w.heap.size, 0, none⟩) (Nat.le_refl _) _).setCell (p := ⟨w.heap.size, 1, none⟩) (Nat.le_refl _) _)⟩
set_option maxRecDepth 100000 in
set_option maxHeartbeats 4000000 in
/-- What is heard: of the first one that is high. -/
def heardF (Fa Fb : Fr) (ra rb : Bool) : Fr := if ra = true then Fa else if rb = true then Fb else Fr.zero
theorem fHeard_of (s : PSt) (hs : s.Ok) (A B : List Value) (hAB : s.each = A ++ B) (hA : CatC A) (hB : CatC B) (Fa Fb : Fr) (ra rb : Bool) (ha : HiC A Fa ra) (hb : HiC B Fb rb) (v : Value) (w : World) (h : NowF w v s) (G : Fr) (hG : heardF Fa Fb ra rb = G) (r : Bool) (hr : (ra || rb) = r) :
    Calls Tryz.prog 13 #[v] w fun e w' => e = .returned (.tuple #[.agg #[.int .u8 G.k, .int .u8 G.s, .int .u32 G.q, .int .u32 G.v], .bool r]) ∧ Below w.heap.size w w' := by
  have hb0 := below_al (Below.refl w.heap.size w) (.cells #[.int .u8 0, .int .u8 0, .int .u32 0, .int .u32 0] 40)
  have hZ := Blk.new w 40 #[.int .u8 0, .int .u8 0, .int .u32 0, .int .u32 0]
  have HB0 := Lib.hid hb0
  have HSO := Lib.hid (standsOn_any s hs v _ (h.on hb0))
  have hix0 := fun W => idx_each0 (A := A) (B := B) hA.len hB.len W
  have hix1 := fun W => idx_each1 (A := A) (B := B) hA.len hB.len W
  obtain ⟨E, hE⟩ : ∃ E, E = A ++ B := ⟨_, rfl⟩
  have hE1 : E.length = 246 := hE ▸ two_len hA.len hB.len
  have H1 := Lib.hid (show ∀ v ∈ E, v.oneCell' = true from hE ▸ List.forall_mem_append.2 ⟨hA.one, hB.one⟩)
  rw [hAB] at HSO
  rw [← hE] at HSO hix0 hix1
  obtain ⟨V, hV⟩ : ∃ V, V = s.sen := ⟨_, rfl⟩
  rw [← hV] at HSO
  have HAL := Lib.hid hA.len
  have HBLN := Lib.hid hB.len
  have HAO := Lib.hid hA.one
  have HBO := Lib.hid hB.one
  have HHA := Lib.hid ha
  have HHB := Lib.hid hb
  have HG := Lib.hid hG
  have HR := Lib.hid hr
  clear h hE hV hs hb0 hA hB ha hb hAB hG hr
  go_enter Tryz.func13, Tryz.ntmps13
  go_upto_region 2 with (go_at_call 34; (with_reducible refine HSO.out.mono ?_); rintro e w1 ⟨rfl, b1⟩; have hst := store_big (O := E) 117 w1 w1.heap.size rfl Tryz.zeroCells117 (by rw [hE1]; kernel_rfl) H1.out; have hZ1 := (hZ.on b1).alloc (.cells E.toArray 117); have b2 := below_al (below_then HB0.out b1) (.cells E.toArray 117))
  clear hst
  refine wp_region_lit ?_
  refine wpList_load_mid rfl 117 (.tmp 5) rfl w1.heap.size 0 ?hx E _ (fun j v hv => ?hr) Tryz.underlying117 rfl (by rw [size_each, hE1]) ?_
  case hx => simp [Act.eval]
  case hr => rw [Nat.zero_add, (Blk.new w1 117 E.toArray).cell]; simpa using hv
  go_wp2_with fail
  have HZ0 := Lib.hid hZ1
  have HB2 := Lib.hid b2
  clear hZ1 b2 hZ b1 HSO
  go_loopw [16] (fun s wr => ∃ k : Nat, k ≤ 2 ∧ s = .int .i64 (k : Int) ∧ Hid ((0 < k → ra = false) ∧ (1 < k → rb = false)) ∧ Hid (Blk wr w.heap.size 40 #[.int .u8 0, .int .u8 0, .int .u32 0, .int .u32 0]) ∧ Hid (Below w.heap.size w wr)) (fun s _ => 2 - (intOf s).toNat)
  case atStart => exact ⟨0, by omega, rfl, Lib.hid ⟨fun h => absurd h (by decide), fun h => absurd h (by decide)⟩, HZ0, HB2⟩
  case round =>
    clear HZ0 HB2
    obtain ⟨k, hk, rfl, HK, HB1, HBW⟩ := hrel
    rcases (show k = 0 ∨ k = 1 ∨ k = 2 by omega) with rfl | rfl | rfl
    · have hst := store_big (O := A) 116 wr wr.heap.size rfl Tryz.zeroCells116 (by rw [HAL.out]; kernel_rfl) HAO.out
      have hal := HAL.out
      have HN1 := Lib.hid (Blk.alloc HB1.out (.cells A.toArray 116))
      cases ra with
      | true =>
        have HGF := Lib.hid (show G = Fa by rw [← HG.out, heardF]; rw [if_pos rfl])
        have HRT := Lib.hid (show r = true by rw [← HR.out]; simp)
        go_wp2_with (go_at_call 35; (with_reducible refine (HHA.out.at_ (Blk.new wr 116 A.toArray)).mono ?_); rintro e w3 ⟨rfl, b3⟩; have hZ3 := (HN1.out.on b3).alloc (.cells #[.int .i64 Fa.o, .int .u8 Fa.k, .int .u8 Fa.s, .int .u32 Fa.q, .int .u32 Fa.v] 112); have z0 := hZ3.cell 0; have z1 := hZ3.cell 1; have z2 := hZ3.cell 2; have z3 := hZ3.cell 3; have zl := hZ3.lt; simp only [List.getElem?_toArray, List.getElem?_cons_zero, List.getElem?_cons_succ] at z0 z1 z2 z3; have zf := hZ3.frozen; have hN3 := Blk.new w3 112 #[.int .i64 Fa.o, .int .u8 Fa.k, .int .u8 Fa.s, .int .u32 Fa.q, .int .u32 Fa.v]; have n1 := hN3.cell 1; have n2 := hN3.cell 2; have n3 := hN3.cell 3; have n4 := hN3.cell 4; have nl := hN3.lt; simp only [List.getElem?_toArray, List.getElem?_cons_zero, List.getElem?_cons_succ] at n1 n2 n3 n4)
        rw [HGF.out, HRT.out]
        exact bodyPost_ret (v := .tuple #[.agg #[.int .u8 Fa.k, .int .u8 Fa.s, .int .u32 Fa.q, .int .u32 Fa.v], .bool true]) (by simp [results, Tryz.results13, go_sem, z0, z1, z2, z3, zl]) rfl ⟨rfl, below_four (below_al (below_then (below_al HBW.out _) b3) _) (Nat.le_refl _) _ _ _ _⟩
      | false =>
        go_wp2_with (go_at_call 35; (with_reducible refine (HHA.out.at_ (Blk.new wr 116 A.toArray)).mono ?_); rintro e w3 ⟨rfl, b3⟩; have hZ3 := (HN1.out.on b3).alloc (.cells #[.int .i64 Fa.o, .int .u8 Fa.k, .int .u8 Fa.s, .int .u32 Fa.q, .int .u32 Fa.v] 112))
        go_roundw
        case rel => exact ⟨1, by omega, rfl, Lib.hid (by refine ⟨?_, ?_⟩ <;> first | trivial | (intro h; first | rfl | exact absurd h (by decide) | exact HK.out.1 (by decide))), Lib.hid hZ3, Lib.hid (below_al (below_then (below_al HBW.out _) b3) _)⟩
        case measure => simp [intOf]
    · have hst := store_big (O := B) 116 wr wr.heap.size rfl Tryz.zeroCells116 (by rw [HBLN.out]; kernel_rfl) HBO.out
      have hal := HBLN.out
      have HN1 := Lib.hid (Blk.alloc HB1.out (.cells B.toArray 116))
      cases rb with
      | true =>
        have HGF := Lib.hid (show G = Fb by rw [← HG.out, heardF]; rw [HK.out.1 (by decide), if_neg (by decide), if_pos rfl])
        have HRT := Lib.hid (show r = true by rw [← HR.out]; simp)
        go_wp2_with (go_at_call 35; (with_reducible refine (HHB.out.at_ (Blk.new wr 116 B.toArray)).mono ?_); rintro e w3 ⟨rfl, b3⟩; have hZ3 := (HN1.out.on b3).alloc (.cells #[.int .i64 Fb.o, .int .u8 Fb.k, .int .u8 Fb.s, .int .u32 Fb.q, .int .u32 Fb.v] 112); have z0 := hZ3.cell 0; have z1 := hZ3.cell 1; have z2 := hZ3.cell 2; have z3 := hZ3.cell 3; have zl := hZ3.lt; simp only [List.getElem?_toArray, List.getElem?_cons_zero, List.getElem?_cons_succ] at z0 z1 z2 z3; have zf := hZ3.frozen; have hN3 := Blk.new w3 112 #[.int .i64 Fb.o, .int .u8 Fb.k, .int .u8 Fb.s, .int .u32 Fb.q, .int .u32 Fb.v]; have n1 := hN3.cell 1; have n2 := hN3.cell 2; have n3 := hN3.cell 3; have n4 := hN3.cell 4; have nl := hN3.lt; simp only [List.getElem?_toArray, List.getElem?_cons_zero, List.getElem?_cons_succ] at n1 n2 n3 n4)
        rw [HGF.out, HRT.out]
        exact bodyPost_ret (v := .tuple #[.agg #[.int .u8 Fb.k, .int .u8 Fb.s, .int .u32 Fb.q, .int .u32 Fb.v], .bool true]) (by simp [results, Tryz.results13, go_sem, z0, z1, z2, z3, zl]) rfl ⟨rfl, below_four (below_al (below_then (below_al HBW.out _) b3) _) (Nat.le_refl _) _ _ _ _⟩
      | false =>
        go_wp2_with (go_at_call 35; (with_reducible refine (HHB.out.at_ (Blk.new wr 116 B.toArray)).mono ?_); rintro e w3 ⟨rfl, b3⟩; have hZ3 := (HN1.out.on b3).alloc (.cells #[.int .i64 Fb.o, .int .u8 Fb.k, .int .u8 Fb.s, .int .u32 Fb.q, .int .u32 Fb.v] 112))
        go_roundw
        case rel => exact ⟨2, by omega, rfl, Lib.hid (by refine ⟨?_, ?_⟩ <;> first | trivial | (intro h; first | rfl | exact absurd h (by decide) | exact HK.out.1 (by decide))), Lib.hid hZ3, Lib.hid (below_al (below_then (below_al HBW.out _) b3) _)⟩
        case measure => simp [intOf]
    · have HGF := Lib.hid (show G = Fr.zero by rw [← HG.out, heardF, HK.out.1 (by decide), HK.out.2 (by decide)]; rfl)
      have HRT := Lib.hid (show r = false by rw [← HR.out, HK.out.1 (by decide), HK.out.2 (by decide)]; rfl)
      have hZ3 := HB1.out
      have z0 := hZ3.cell 0; have z1 := hZ3.cell 1; have z2 := hZ3.cell 2; have z3 := hZ3.cell 3; have zl := hZ3.lt; simp only [List.getElem?_toArray, List.getElem?_cons_zero, List.getElem?_cons_succ] at z0 z1 z2 z3; have zf := hZ3.frozen
      go_wp2_with fail
      rw [HGF.out, HRT.out]
      exact bodyPost_ret (v := .tuple #[.agg #[.int .u8 0, .int .u8 0, .int .u32 0, .int .u32 0], .bool false]) (by simp [results, Tryz.results13, go_sem, z0, z1, z2, z3, zl]) rfl ⟨rfl, below_four HBW.out (Nat.le_refl _) _ _ _ _⟩
end Go.Proofs.YtkejpkcaojidaaaGreatDoor

namespace Go.Proofs.YtkejpkcaojidaaaGreatDoor
set_option linter.unusedVariables false
set_option linter.unusedSimpArgs false
open Go.RowKit Rg
set_option linter.unusedVariables false

/-- A catch's next count, and what it gives, if its window is open there. -/
def stepN (b : Bool) (n : Nat) : Nat := if b = true ∧ n < 114 then n + 1 else n
def stepR (b : Bool) (x y : Nat → Int) (o : Int) (n : Nat) : Int := if b = true ∧ n < 114 then outC x y o n else 0
theorem step_at {g O n : Nat} {T : TypeId} {A Z : List Value} {x y : Nat → Int} {o a d : Int} {w : World} (h : CatI w g O T A Z x y o n) (hn : n ≤ 114) (hx : n < 114 → kn a = x n ∧ kn d = y n) (r : Int) (hr : stepR true x y o n = r) (n' : Nat) (hn' : stepN true n = n') :
    Calls Tryz.prog 173 #[.pointer (some ⟨g, O, none⟩), .int .u8 a, .int .u8 d] w fun e w' => e = .returned (.int .u8 r) ∧ CatI w' g O T A Z x y o n' ∧ But g w w' := by
  subst hr hn'
  by_cases h1 : n < 114
  · obtain ⟨h2, h3⟩ := hx h1
    rw [stepR, stepN, if_pos ⟨rfl, h1⟩, if_pos ⟨rfl, h1⟩]
    exact iStep a d h h1 h2 h3 _ rfl
  · obtain rfl : n = 114 := by omega
    rw [stepR, stepN, if_neg (by omega), if_neg (by omega)]
    exact (iDone a d h).mono fun e w' ⟨q1, q2⟩ => by subst q2; exact ⟨q1, h, But.refl _ _⟩
theorem loadVar_two {w : World} {g : Nat} {a b : Value} (h : Blk w g 48 #[a, b]) : (loadVar 48 ⟨g, 0, none⟩).run Tryz.prog w = .ok (.agg #[a, b]) w :=
  run_loadVar_row w g _ _ #[a, b] (0, 0) _ h Tryz.underlying48 rfl (by kernel_rfl)
set_option maxRecDepth 100000 in
set_option maxHeartbeats 4000000 in
theorem halfTick_is (p : Option Addr) (q : Int) (a b c d : Int) (ra rb : Int) (w : World) (HO : ∀ u, Below w.heap.size w u → Calls Tryz.prog 171 #[.pointer p, .int .i64 q] u fun e w' => e = .returned (.tuple #[.int .u8 ra, .int .u8 rb]) ∧ Below u.heap.size u w') :
    Calls Tryz.prog 170 #[.agg #[.pointer p], .int .i64 q, .agg #[.int .u8 a, .int .u8 b, .int .u8 c, .int .u8 d]] w fun e w' => e = .returned (.tuple #[.agg #[.int .u8 ra, .int .u8 rb], (PSt.half p).val]) ∧ Below w.heap.size w w' := by
  have hb0 := below_al (below_al (below_al (Below.refl w.heap.size w) (.cells #[.pointer p] 161)) (.cells #[.int .u8 a, .int .u8 b, .int .u8 c, .int .u8 d] 51)) (.cells #[.int .u8 0, .int .u8 0] 48)
  have HB0 := Lib.hid hb0
  have HP := Lib.hid (((Blk.new w 161 #[.pointer p]).alloc (.cells #[.int .u8 a, .int .u8 b, .int .u8 c, .int .u8 d] 51)).alloc (.cells #[.int .u8 0, .int .u8 0] 48))
  have HZ : Hid (Blk (((w.alloc (.cells #[.pointer p] 161)).alloc (.cells #[.int .u8 a, .int .u8 b, .int .u8 c, .int .u8 d] 51)).alloc (.cells #[.int .u8 0, .int .u8 0] 48)) (w.heap.size + 1 + 1) 48 #[.int .u8 0, .int .u8 0]) := Lib.hid (Blk.newIn (by simp))
  have HOU := Lib.hid (HO _ hb0)
  clear HO hb0
  go_enter Tryz.func170, Tryz.ntmps170
  go_wp2_with (go_at_call 171; (with_reducible refine HOU.out.mono ?_); rintro e w1 ⟨rfl, b1⟩; have hZ1 := HZ.out.on b1; have z0 := hZ1.cell 0; have z1 := hZ1.cell 1; have zl := hZ1.lt; have zf := hZ1.frozen; have hP1 := HP.out.on b1; have p0 := hP1.cell 0; have pl := hP1.lt; simp only [List.getElem?_toArray, List.getElem?_cons_zero, List.getElem?_cons_succ] at z0 z1 p0)
  have hb1 := below_then HB0.out b1
  have hk := (((hZ1.set_ 0 (.int .u8 ra)).set_ 1 (.int .u8 rb)).set_ 0 (.int .u8 ra)).set_ 1 (.int .u8 rb)
  have hbk : Below w.heap.size w ((((w1.setCell ⟨w.heap.size + 1 + 1, 0, none⟩ (.int .u8 ra)).setCell ⟨w.heap.size + 1 + 1, 1, none⟩ (.int .u8 rb)).setCell ⟨w.heap.size + 1 + 1, 0, none⟩ (.int .u8 ra)).setCell ⟨w.heap.size + 1 + 1, 1, none⟩ (.int .u8 rb)).drew :=
    ((((hb1.setCell (p := ⟨w.heap.size + 1 + 1, 0, none⟩) (by show w.heap.size ≤ w.heap.size + 1 + 1; omega) _).setCell (p := ⟨w.heap.size + 1 + 1, 1, none⟩) (by show w.heap.size ≤ w.heap.size + 1 + 1; omega) _).setCell (p := ⟨w.heap.size + 1 + 1, 0, none⟩) (by show w.heap.size ≤ w.heap.size + 1 + 1; omega) _).setCell (p := ⟨w.heap.size + 1 + 1, 1, none⟩) (by show w.heap.size ≤ w.heap.size + 1 + 1; omega) _).drew
  have hlv := loadVar_two (w := ((((w1.setCell ⟨w.heap.size + 1 + 1, 0, none⟩ (.int .u8 ra)).setCell ⟨w.heap.size + 1 + 1, 1, none⟩ (.int .u8 rb)).setCell ⟨w.heap.size + 1 + 1, 0, none⟩ (.int .u8 ra)).setCell ⟨w.heap.size + 1 + 1, 1, none⟩ (.int .u8 rb)).drew) hk
  have HLV := Lib.hid hlv
  have HBK := Lib.hid hbk
  clear hlv hbk hk
  go_region
  all_goals (go_wp2_with fail)
  exact bodyPost_ret (v := .tuple #[.agg #[.int .u8 ra, .int .u8 rb], (PSt.half p).val]) (by simp [results, Tryz.results170, asAddr, HLV.out, PSt.val]) rfl ⟨rfl, HBK.out⟩
theorem oth_len {X Y : Wn} {A B : List Value} (hA : A.length = 123) (hB : B.length = 123) : (othL X Y A B).length = 254 := by simp [othL, hA, hB]
section
variable {w w' : World} {g n m : Nat} {X Y : Wn} {x y x' y' : Nat → Int} {o : Int}
/-- Another one's ways in their block. -/
def OthB (w : World) (g : Nat) (X Y : Wn) (x y x' y' : Nat → Int) (o : Int) (n m : Nat) : Prop := Blk w g 165 (othL X Y (catS x y o n) (catS x' y' o m)).toArray
theorem OthB.cat0 (h : OthB w g X Y x y x' y' o n m) : CatI w g 4 165 [.int .u8 X.r, .int .i64 X.p, .int .i64 X.b, .int .i64 X.e] ([.int .u8 Y.r, .int .i64 Y.p, .int .i64 Y.b, .int .i64 Y.e] ++ catS x' y' o m) x y o n := ⟨h, rfl, catS_len _ _ _ _⟩
theorem OthB.of0 (h : CatI w g 4 165 [.int .u8 X.r, .int .i64 X.p, .int .i64 X.b, .int .i64 X.e] ([.int .u8 Y.r, .int .i64 Y.p, .int .i64 Y.b, .int .i64 Y.e] ++ catS x' y' o m) x y o n) : OthB w g X Y x y x' y' o n m := h.blk
theorem oth_eq (X Y : Wn) (A B : List Value) : othL X Y A B = ([.int .u8 X.r, .int .i64 X.p, .int .i64 X.b, .int .i64 X.e] ++ (A ++ [.int .u8 Y.r, .int .i64 Y.p, .int .i64 Y.b, .int .i64 Y.e])) ++ (B ++ []) := by simp [othL]
theorem OthB.cat1 (h : OthB w g X Y x y x' y' o n m) : CatI w g 131 165 ([.int .u8 X.r, .int .i64 X.p, .int .i64 X.b, .int .i64 X.e] ++ (catS x y o n ++ [.int .u8 Y.r, .int .i64 Y.p, .int .i64 Y.b, .int .i64 Y.e])) [] x' y' o m := ⟨by rw [← oth_eq]; exact h, by simp [catS_len], catS_len _ _ _ _⟩
theorem OthB.of1 (h : CatI w g 131 165 ([.int .u8 X.r, .int .i64 X.p, .int .i64 X.b, .int .i64 X.e] ++ (catS x y o n ++ [.int .u8 Y.r, .int .i64 Y.p, .int .i64 Y.b, .int .i64 Y.e])) [] x' y' o m) : OthB w g X Y x y x' y' o n m := by
  have := h.blk
  rw [← oth_eq] at this
  exact this
theorem OthB.win0 (h : OthB w g X Y x y x' y' o n m) : w.cell? ⟨g, 0, none⟩ = some (.int .u8 X.r) ∧ w.cell? ⟨g, 1, none⟩ = some (.int .i64 X.p) ∧ w.cell? ⟨g, 2, none⟩ = some (.int .i64 X.b) ∧ w.cell? ⟨g, 3, none⟩ = some (.int .i64 X.e) :=
  ⟨(Blk.cell h 0).trans rfl, (Blk.cell h 1).trans rfl, (Blk.cell h 2).trans rfl, (Blk.cell h 3).trans rfl⟩
theorem OthB.win1 (h : OthB w g X Y x y x' y' o n m) : w.cell? ⟨g, 127, none⟩ = some (.int .u8 Y.r) ∧ w.cell? ⟨g, 128, none⟩ = some (.int .i64 Y.p) ∧ w.cell? ⟨g, 129, none⟩ = some (.int .i64 Y.b) ∧ w.cell? ⟨g, 130, none⟩ = some (.int .i64 Y.e) := by
  have hl := catS_len x y o n
  have e : ∀ i, i < 4 → (othL X Y (catS x y o n) (catS x' y' o m))[127 + i]? = ([.int .u8 Y.r, .int .i64 Y.p, .int .i64 Y.b, .int .i64 Y.e] : List Value)[i]? := fun i hi => by
    unfold othL
    rw [List.getElem?_append_right (by simp; omega), List.getElem?_append_right (by simp [hl]; omega), List.getElem?_append_left (by simp [hl]; omega)]
    rw [hl]
    show ([.int .u8 Y.r, .int .i64 Y.p, .int .i64 Y.b, .int .i64 Y.e] : List Value)[127 + i - 4 - 123]? = _
    rw [show 127 + i - 4 - 123 = i by omega]
  refine ⟨?_, ?_, ?_, ?_⟩
  · rw [Blk.cell h, List.getElem?_toArray, e 0 (by decide)]; rfl
  · rw [Blk.cell h, List.getElem?_toArray, e 1 (by decide)]; rfl
  · rw [Blk.cell h, List.getElem?_toArray, e 2 (by decide)]; rfl
  · rw [Blk.cell h, List.getElem?_toArray, e 3 (by decide)]; rfl
theorem OthB.on (h : OthB w g X Y x y x' y' o n m) (hb : Below w.heap.size w w') : OthB w' g X Y x y x' y' o n m := Blk.on h hb
theorem OthB.al (h : OthB w g X Y x y x' y' o n m) (ob : Obj) : OthB (w.alloc ob) g X Y x y x' y' o n m := Blk.alloc h ob
theorem OthB.lt (h : OthB w g X Y x y x' y' o n m) : g < w.heap.size := Blk.lt h
end
def OutB (g : Nat) (a b : Int) (u : World) : Prop := Blk u g 48 #[.int .u8 a, .int .u8 b]
def OthC (g : Nat) (O : List Value) (u : World) : Prop := Blk u g 165 O.toArray
set_option maxRecDepth 100000 in
set_option maxHeartbeats 4000000 in
theorem othTick_is (X Y : Wn) (hfX : WnFit X) (hfY : WnFit Y) (x y x' y' : Nat → Int) (o : Int) (n m : Nat) (hn : n ≤ 114) (hm : m ≤ 114) (q a0 a1 b0 b1 : Int) (ba bb : Bool) (hba : opB X q = ba) (hbb : opB Y q = bb)
    (hxa : ba = true → n < 114 → kn a0 = x n ∧ kn a1 = y n) (hxb : bb = true → m < 114 → kn b0 = x' m ∧ kn b1 = y' m) (ra rb : Int) (hra : stepR ba x y o n = ra) (hrb : stepR bb x' y' o m = rb) (n' m' : Nat) (hn' : stepN ba n = n') (hm' : stepN bb m = m') (w : World) :
    Calls Tryz.prog 172 #[.agg (othL X Y (catS x y o n) (catS x' y' o m)).toArray, .int .i64 q, .agg #[.int .u8 a0, .int .u8 a1, .int .u8 b0, .int .u8 b1]] w fun e w' => e = .returned (.tuple #[.agg #[.int .u8 ra, .int .u8 rb], (PSt.oth X Y (catS x y o n') (catS x' y' o m')).val]) ∧ Below w.heap.size w w' := by
  have HFX := Lib.hid hfX
  have HFY := Lib.hid hfY
  have HBA := Lib.hid hba
  have HBB := Lib.hid hbb
  have HXA := Lib.hid hxa
  have HXB := Lib.hid hxb
  have HRA := Lib.hid hra
  have HRB := Lib.hid hrb
  have HNA := Lib.hid hn'
  have HNB := Lib.hid hm'
  have HNLE := Lib.hid hn
  have HMLE := Lib.hid hm
  have HLA := Lib.hid (catS_len x y o n)
  have HO0 : Hid (OthB (((w.alloc (.cells (othL X Y (catS x y o n) (catS x' y' o m)).toArray 165)).alloc (.cells #[.int .u8 a0, .int .u8 a1, .int .u8 b0, .int .u8 b1] 51)).alloc (.cells #[.int .u8 0, .int .u8 0] 48)) w.heap.size X Y x y x' y' o n m) := Lib.hid (Blk.alloc (Blk.alloc (Blk.new w 165 _) _) _)
  have HI0 : Hid (Blk (((w.alloc (.cells (othL X Y (catS x y o n) (catS x' y' o m)).toArray 165)).alloc (.cells #[.int .u8 a0, .int .u8 a1, .int .u8 b0, .int .u8 b1] 51)).alloc (.cells #[.int .u8 0, .int .u8 0] 48)) (w.heap.size + 1) 51 #[.int .u8 a0, .int .u8 a1, .int .u8 b0, .int .u8 b1]) := Lib.hid (Blk.alloc (Blk.newIn (by simp)) _)
  have HZ0 : Hid (Blk (((w.alloc (.cells (othL X Y (catS x y o n) (catS x' y' o m)).toArray 165)).alloc (.cells #[.int .u8 a0, .int .u8 a1, .int .u8 b0, .int .u8 b1] 51)).alloc (.cells #[.int .u8 0, .int .u8 0] 48)) (w.heap.size + 1 + 1) 48 #[.int .u8 0, .int .u8 0]) := Lib.hid (Blk.newIn (by simp))
  have HB0 := Lib.hid (below_al (below_al (below_al (Below.refl w.heap.size w) (.cells (othL X Y (catS x y o n) (catS x' y' o m)).toArray 165)) (.cells #[.int .u8 a0, .int .u8 a1, .int .u8 b0, .int .u8 b1] 51)) (.cells #[.int .u8 0, .int .u8 0] 48))
  obtain ⟨O, hO⟩ : ∃ O, O = (othL X Y (catS x y o n) (catS x' y' o m)).toArray := ⟨_, rfl⟩
  rw [← hO] at HO0 HI0 HZ0 HB0 ⊢
  clear hO hfX hfY hba hbb hxa hxb hra hrb hn' hm' hn hm
  go_enter Tryz.func172, Tryz.ntmps172
  go_wp2_with fail
  obtain ⟨U, hU⟩ : ∃ U, U = ((w.alloc (.cells O 165)).alloc (.cells #[.int .u8 a0, .int .u8 a1, .int .u8 b0, .int .u8 b1] 51)).alloc (.cells #[.int .u8 0, .int .u8 0] 48) := ⟨_, rfl⟩
  rw [← hU] at HO0 HI0 HZ0 HB0 ⊢
  clear hU
  obtain ⟨g, hg⟩ : ∃ g, g = w.heap.size := ⟨_, rfl⟩
  have HG := Lib.hid hg
  rw [← hg] at HO0 HI0 HZ0 ⊢
  clear hg
  go_loopw [11] (fun s wr => ∃ k : Nat, k ≤ 2 ∧ s = .int .i64 (k : Int) ∧ Hid (OthB wr g X Y x y x' y' o (if 0 < k then n' else n) (if 1 < k then m' else m)) ∧ Hid (Blk wr (g + 1) 51 #[.int .u8 a0, .int .u8 a1, .int .u8 b0, .int .u8 b1]) ∧ Hid (Blk wr (g + 1 + 1) 48 #[.int .u8 (if 0 < k then ra else 0), .int .u8 (if 1 < k then rb else 0)]) ∧ Hid (Below w.heap.size w wr)) (fun s _ => 2 - (intOf s).toNat)
  case atStart => exact ⟨0, by omega, rfl, HO0, HI0, HZ0, HB0⟩
  case round =>
    clear HO0 HI0 HZ0 HB0
    obtain ⟨k, hk, rfl, HO, HI, HZ, HBW⟩ := hrel
    rcases (show k = 0 ∨ k = 1 ∨ k = 2 by omega) with rfl | rfl | rfl
    · have hO : OthB wr g X Y x y x' y' o n m := HO.out
      have hI := HI.out
      have hZ : Blk wr (g + 1 + 1) 48 #[.int .u8 0, .int .u8 0] := HZ.out
      obtain ⟨c0, c1, c2, c3⟩ := hO.win0
      have cl := hO.lt
      obtain ⟨i, hi⟩ : ∃ i, opI X q = i := ⟨_, rfl⟩
      have HAT := Lib.hid (winAt_is X q i hi ba HBA.out wr HFX.out)
      have HO2 := Lib.hid hO
      have HI2 := Lib.hid hI
      have HZ2 := Lib.hid hZ
      clear HO HI HZ hO hI hZ hi
      cases ba with
      | true =>
        have HSTEP := Lib.hid (fun u (hu : OthB u g X Y x y x' y' o n m) => step_at (a := a0) (d := a1) hu.cat0 HNLE.out (HXA.out rfl) ra HRA.out n' HNA.out)
        go_upto_region 6 with (go_at_call 132; (with_reducible refine HAT.out.mono ?_); rintro e w2 ⟨rfl, b2⟩)
        have hO3 := HO2.out.on b2
        have hI3 := HI2.out.on b2
        have hZ3 := HZ2.out.on b2
        have hb3 := below_then HBW.out b2
        clear c0 c1 c2 c3 cl HO2 HI2 HZ2
        have j0 := hI3.cell 0
        have j1 := hI3.cell 1
        have jl := hI3.lt
        have kl := hO3.lt
        simp only [List.getElem?_toArray, List.getElem?_cons_zero, List.getElem?_cons_succ] at j0 j1
        have HO4 : Hid (OthB w2.drew g X Y x y x' y' o n m) := Lib.hid hO3
        have HI4 : Hid (Blk w2.drew (g + 1) 51 #[.int .u8 a0, .int .u8 a1, .int .u8 b0, .int .u8 b1]) := Lib.hid hI3
        have HZ4 : Hid (Blk w2.drew (g + 1 + 1) 48 #[.int .u8 0, .int .u8 0]) := Lib.hid hZ3
        clear hI3 hZ3 hO3
        go_region_law (go_simp; go_at_call 173; (with_reducible refine (HSTEP.out _ HO4.out).mono ?_); rintro e w5 ⟨rfl, hC5, hk5⟩; have hO5 := OthB.of0 hC5; have hI5 := hk5.blk HI4.out (by omega); have hZ5 := hk5.blk HZ4.out (by omega); have z0 := hZ5.cell 0; have zl := hZ5.lt; have zf := hZ5.frozen; simp only [List.getElem?_toArray, List.getElem?_cons_zero, List.getElem?_cons_succ] at z0)
        all_goals
          have hZ6 := hZ5.set_ 0 (.int .u8 ra)
          have hO6 : OthB (w5.setCell ⟨g + 1 + 1, 0, none⟩ (.int .u8 ra)) g X Y x y x' y' o n' m := Blk.far hO5 (by show g ≠ g + 1 + 1; omega) _
          have hI6 := Blk.far hI5 (p := ⟨g + 1 + 1, 0, none⟩) (by show g + 1 ≠ g + 1 + 1; omega) (.int .u8 ra)
          have hb6 := ((hb3.drew).trans (hk5.low (Nat.le_of_eq HG.out.symm))).setCell (p := ⟨g + 1 + 1, 0, none⟩) (by show w.heap.size ≤ g + 1 + 1; rw [HG.out]; omega) (.int .u8 ra)
          go_wp2_with fail
          go_roundw
          case rel => exact ⟨1, by omega, rfl, Lib.hid hO6, Lib.hid hI6, Lib.hid hZ6, Lib.hid hb6⟩
          case measure => simp [intOf]
      | false =>
        have e1 : n = n' := by rw [← HNA.out]; simp [stepN]
        have e2 : 0 = ra := by rw [← HRA.out]; simp [stepR]
        subst e1 e2
        go_wp2_with (go_at_call 132; (with_reducible refine HAT.out.mono ?_); rintro e w2 ⟨rfl, b2⟩)
        have hO3 := HO2.out.on b2
        have hI3 := HI2.out.on b2
        have hZ3 := HZ2.out.on b2
        have hb3 := below_then HBW.out b2
        go_roundw
        case rel => exact ⟨1, by omega, rfl, Lib.hid hO3, Lib.hid hI3, Lib.hid hZ3, Lib.hid hb3⟩
        case measure => simp [intOf]
    · have hO : OthB wr g X Y x y x' y' o n' m := HO.out
      have hI := HI.out
      have hZ : Blk wr (g + 1 + 1) 48 #[.int .u8 ra, .int .u8 0] := HZ.out
      obtain ⟨c0, c1, c2, c3⟩ := hO.win1
      have cl := hO.lt
      obtain ⟨i, hi⟩ : ∃ i, opI Y q = i := ⟨_, rfl⟩
      have HAT := Lib.hid (winAt_is Y q i hi bb HBB.out wr HFY.out)
      have HO2 := Lib.hid hO
      have HI2 := Lib.hid hI
      have HZ2 := Lib.hid hZ
      clear HO HI HZ hO hI hZ hi
      cases bb with
      | true =>
        have HSTEP := Lib.hid (fun u (hu : OthB u g X Y x y x' y' o n' m) => step_at (a := b0) (d := b1) hu.cat1 HMLE.out (HXB.out rfl) rb HRB.out m' HNB.out)
        go_upto_region 6 with (go_at_call 132; (with_reducible refine HAT.out.mono ?_); rintro e w2 ⟨rfl, b2⟩)
        have hO3 := HO2.out.on b2
        have hI3 := HI2.out.on b2
        have hZ3 := HZ2.out.on b2
        have hb3 := below_then HBW.out b2
        clear c0 c1 c2 c3 cl HO2 HI2 HZ2
        have j0 := hI3.cell 2
        have j1 := hI3.cell 3
        have jl := hI3.lt
        have kl := hO3.lt
        simp only [List.getElem?_toArray, List.getElem?_cons_zero, List.getElem?_cons_succ] at j0 j1
        have HO4 : Hid (OthB w2.drew g X Y x y x' y' o n' m) := Lib.hid hO3
        have HI4 : Hid (Blk w2.drew (g + 1) 51 #[.int .u8 a0, .int .u8 a1, .int .u8 b0, .int .u8 b1]) := Lib.hid hI3
        have HZ4 : Hid (Blk w2.drew (g + 1 + 1) 48 #[.int .u8 ra, .int .u8 0]) := Lib.hid hZ3
        clear hI3 hZ3 hO3
        go_region_law (go_simp; go_at_call 173; (with_reducible refine (HSTEP.out _ HO4.out).mono ?_); rintro e w5 ⟨rfl, hC5, hk5⟩; have hO5 := OthB.of1 hC5; have hI5 := hk5.blk HI4.out (by omega); have hZ5 := hk5.blk HZ4.out (by omega); have z0 := hZ5.cell 1; have zl := hZ5.lt; have zf := hZ5.frozen; simp only [List.getElem?_toArray, List.getElem?_cons_zero, List.getElem?_cons_succ] at z0)
        all_goals
          have hZ6 := hZ5.set_ 1 (.int .u8 rb)
          have hO6 : OthB (w5.setCell ⟨g + 1 + 1, 1, none⟩ (.int .u8 rb)) g X Y x y x' y' o n' m' := Blk.far hO5 (by show g ≠ g + 1 + 1; omega) _
          have hI6 := Blk.far hI5 (p := ⟨g + 1 + 1, 1, none⟩) (by show g + 1 ≠ g + 1 + 1; omega) (.int .u8 rb)
          have hb6 := ((hb3.drew).trans (hk5.low (Nat.le_of_eq HG.out.symm))).setCell (p := ⟨g + 1 + 1, 1, none⟩) (by show w.heap.size ≤ g + 1 + 1; rw [HG.out]; omega) (.int .u8 rb)
          go_wp2_with fail
          go_roundw
          case rel => exact ⟨2, by omega, rfl, Lib.hid hO6, Lib.hid hI6, Lib.hid hZ6, Lib.hid hb6⟩
          case measure => simp [intOf]
      | false =>
        have e1 : m = m' := by rw [← HNB.out]; simp [stepN]
        have e2 : 0 = rb := by rw [← HRB.out]; simp [stepR]
        subst e1 e2
        go_wp2_with (go_at_call 132; (with_reducible refine HAT.out.mono ?_); rintro e w2 ⟨rfl, b2⟩)
        have hO3 := HO2.out.on b2
        have hI3 := HI2.out.on b2
        have hZ3 := HZ2.out.on b2
        have hb3 := below_then HBW.out b2
        go_roundw
        case rel => exact ⟨2, by omega, rfl, Lib.hid hO3, Lib.hid hI3, Lib.hid hZ3, Lib.hid hb3⟩
        case measure => simp [intOf]
    · have hO : OthB wr g X Y x y x' y' o n' m' := HO.out
      have hZ : Blk wr (g + 1 + 1) 48 [.int .u8 ra, .int .u8 rb].toArray := HZ.out
      have hOl : (othL X Y (catS x y o n') (catS x' y' o m')).length = 254 := oth_len (catS_len _ _ _ _) (catS_len _ _ _ _)
      have hPV : (PSt.oth X Y (catS x y o n') (catS x' y' o m')).val = .iface 165 (.agg (othL X Y (catS x y o n') (catS x' y' o m')).toArray) := rfl
      obtain ⟨O', hO'⟩ : ∃ O', O' = othL X Y (catS x y o n') (catS x' y' o m') := ⟨_, rfl⟩
      unfold OthB at hO
      rw [← hO'] at hO hOl hPV
      have HPV := Lib.hid hPV
      have HOL := Lib.hid hOl
      have HOB : Hid (Blk wr g 165 O'.toArray) := Lib.hid hO
      have HZB : Hid (OutB (g + 1 + 1) ra rb wr) := Lib.hid hZ
      have HJ := Lib.hid (show ∀ J ∈ [OutB (g + 1 + 1) ra rb, OthC g O'], ∀ u u', Below u.heap.size u u' → J u → J u' by simp only [List.forall_mem_cons]; exact ⟨fun u u' hb hj => Blk.on hj hb, fun u u' hb hj => Blk.on hj hb, fun _ h => by cases h⟩)
      have HGL := Lib.hid (show w.heap.size ≤ g + 1 + 1 by rw [HG.out]; omega)
      have HNE := Lib.hid (show g ≠ g + 1 + 1 by omega)
      clear HO HZ HI hO hZ hO' hPV hOl HFX HFY HBA HBB HXA HXB HRA HRB HNA HNB HNLE HMLE HLA HG
      go_wp2_with fail
      refine Reg.wp_slots2 (fun t => t == 7 || decide (39 ≤ t)) (Reg.KJ w.heap.size [g + 1 + 1] [OutB (g + 1 + 1) ra rb, OthC g O']) (Reg.KJ.drew _ HJ.out) Reg.KJ.trans (by kernel_rfl) (by kernel_rfl) (by kernel_rfl) (fun zz => (Reg.tblK [
        (39, .is (.agg #[.int .u8 ra, .int .u8 rb])),
        (40, .is (.agg O'.toArray)),
        (41, .is (.iface 165 (.agg O'.toArray))),
        (7, .is (.iface 165 (.agg O'.toArray)))] zz).P) (fun zz => (Reg.tblK _ zz).on) (fun zz => (Reg.memK [] zz).P) (fun zz => (Reg.memK _ zz).on) ?_ ?_
      · simp only [Reg.frame, Reg.over, Nat.reduceAdd, Nat.reduceBEq, Nat.reduceLeDiff, decide_true, decide_false, Bool.or_true, Bool.or_false, if_true, Bool.false_eq_true, if_false]
        refine ⟨?_, ?_, ?_, ?_, ?_, trivial⟩
        · intro x u hku hd
          refine wpOp_step rfl fun KK hK => ?_
          refine Reg.step_load_row (by rfl) 48 (.tmp 6) (by rfl) (g + 1 + 1) (by rfl) [.int .u8 ra, .int .u8 rb] 48 (hku.j (OutB (g + 1 + 1) ra rb) (by simp) HZB.out) _ Tryz.underlying48 rfl (by kernel_rfl) ?_
          exact hK _ _ ⟨_, rfl, Reg.KJ.refl _, fun d hd => by cases hd; exact rfl, fun h => by cases h⟩
        · intro x u hku hd
          refine wpOp_step rfl fun KK hK => ?_
          refine Reg.step_load_row (by rfl) 165 (.tmp 3) (by rfl) g (by rfl) O' 165 (hku.j (OthC g O') (by simp) HOB.out) _ Tryz.underlying165 rfl (by rw [size_oth, HOL.out]) ?_
          exact hK _ _ ⟨_, rfl, Reg.KJ.refl _, fun d hd => by cases hd; exact rfl, fun h => by cases h⟩
        · intro x u hku hd
          have h40 : x 40 = .agg O'.toArray := hd 1 (by decide)
          refine wpOp_step rfl fun KK hK => ?_
          simp only [h40] at hK ⊢
          go_simp
          exact hK _ _ ⟨_, rfl, Reg.KJ.refl _, fun d hd => by cases hd; exact rfl, fun h => by cases h⟩
        · intro x u hku hd
          have h39 : x 39 = .agg #[.int .u8 ra, .int .u8 rb] := hd 0 (by decide)
          refine wpOp_step rfl fun KK hK => ?_
          refine Reg.step_store_row (by rfl) 48 (.tmp 6) (.tmp 39) (by rfl) (g + 1 + 1) #[.int .u8 ra, .int .u8 rb] (by rfl) (by exact h39) 48 #[.int .u8 ra, .int .u8 rb] (hku.j (OutB (g + 1 + 1) ra rb) (by simp) HZB.out) (by kernel_rfl) rfl (by simp [Value.oneCell']) ?_
          exact hK _ _ ⟨_, rfl, Reg.KJ.row HGL.out (by simp) (by simp only [List.forall_mem_cons]; exact ⟨fun hj => Blk.rowF hj, fun hj => (setRow_other _ _ _ _ HNE.out).trans hj, fun _ h => by cases h⟩), fun d hd => (by cases hd), fun _ => trivial⟩
        · intro x u hku hd
          have h41 : x 41 = .iface 165 (.agg O'.toArray) := hd 2 (by decide)
          refine wpOp_step rfl fun KK hK => ?_
          simp only [h41] at hK ⊢
          go_simp
          exact hK _ _ ⟨_, rfl, Reg.KJ.refl _, fun d hd => by cases hd; exact rfl, fun h => by cases h⟩
      · intro x u hku hd
        have e7 : x 7 = .iface 165 (.agg O'.toArray) := hd 4 (by decide)
        have hlv := loadVar_two (hku.j (OutB (g + 1 + 1) ra rb) (by simp) HZB.out)
        simp only [Reg.frame, Reg.over, Nat.reduceAdd, Nat.reduceBEq, Nat.reduceLeDiff, decide_true, decide_false, Bool.or_true, Bool.or_false, if_true, Bool.false_eq_true, if_false, e7]
        go_wp2_with fail
        exact bodyPost_ret (v := .tuple #[.agg #[.int .u8 ra, .int .u8 rb], .iface 165 (.agg O'.toArray)]) (by simp [results, Tryz.results172, asAddr, hlv]) rfl ⟨by rw [HPV.out], HBW.out.trans hku.1⟩
end Go.Proofs.YtkejpkcaojidaaaGreatDoor

namespace Go.Proofs.YtkejpkcaojidaaaGreatDoor
set_option linter.unusedVariables false
set_option linter.unusedSimpArgs false
open Go.RowKit Rg
set_option linter.unusedVariables false

theorem neq_no (w : World) : (binOp .neq 80 .nilIface .nilIface).run Tryz.prog w = .ok (.bool false) w := by kernel_rfl
theorem But.new_ {g : Nat} {w u : World} (h : But g w u) (hg : g < w.heap.size) {p : Addr} (hp : w.heap.size ≤ p.block) (v : Value) : But g w (u.setCell p v) :=
  ⟨h.1.setCell (Nat.le_trans (Nat.le_of_lt hg) hp) v, fun b hb hn => (Below.heap_setCell u p v b (Nat.ne_of_lt (Nat.lt_of_lt_of_le hb hp))).trans (h.2 b hb hn)⟩
theorem method_half (v : Value) (w : World) : (method 375 161 v "sennit/flows.tick").run Tryz.prog w = .ok (170, v) w := by kernel_rfl
theorem method_oth (v : Value) (w : World) : (method 375 165 v "sennit/flows.tick").run Tryz.prog w = .ok (172, v) w := by kernel_rfl
theorem neq_some (t : TypeId) (v : Value) (w : World) : (binOp .neq 80 (.iface t v) .nilIface).run Tryz.prog w = .ok (.bool true) w := by kernel_rfl
set_option maxRecDepth 100000 in
set_option maxHeartbeats 4000000 in
theorem tick_no (v : Value) (q a0 a1 b0 b1 : Int) (w : World) (h : NowF w v .no) :
    Calls Tryz.prog 10 #[v, .int .i64 q, .agg #[.int .u8 a0, .int .u8 a1, .int .u8 b0, .int .u8 b1]] w fun e w' => e = .returned (.agg #[.int .u8 0, .int .u8 0]) ∧ Below w.heap.size w w' := by
  have hb0 := below_al (below_al (Below.refl w.heap.size w) (.cells #[.int .u8 a0, .int .u8 a1, .int .u8 b0, .int .u8 b1] 51)) (.cells #[.int .u8 0, .int .u8 0] 48)
  have HB0 := Lib.hid hb0
  have HN := Lib.hid (show Calls Tryz.prog 29 #[v] _ fun e w' => e = .returned .nilIface ∧ _ = w' from now_any (s := .no) _ (h.on hb0))
  have hZ : Blk ((w.alloc (.cells #[.int .u8 a0, .int .u8 a1, .int .u8 b0, .int .u8 b1] 51)).alloc (.cells #[.int .u8 0, .int .u8 0] 48)) (w.heap.size + 1) 48 #[.int .u8 0, .int .u8 0] := Blk.newIn (by simp)
  have z0 := hZ.cell 0
  have z1 := hZ.cell 1
  have zl := hZ.lt
  have zf := hZ.frozen
  simp only [List.getElem?_toArray, List.getElem?_cons_zero, List.getElem?_cons_succ] at z0 z1
  have q0 := fun W => neq_no W
  clear h hb0
  go_enter Tryz.func10, Tryz.ntmps10
  go_wp2_with (go_at_call 29; (with_reducible refine HN.out.mono ?_); rintro e w1 ⟨rfl, rfl⟩)
  exact bodyPost_ret (v := .agg #[.int .u8 0, .int .u8 0]) (by simp [results, Tryz.results10, go_sem, z0, z1, zl]) rfl ⟨rfl, by first | exact HB0.out | exact ((HB0.out.setCell (p := ⟨w.heap.size + 1, 0, none⟩) (by show w.heap.size ≤ w.heap.size + 1; omega) _).setCell (p := ⟨w.heap.size + 1, 1, none⟩) (by show w.heap.size ≤ w.heap.size + 1; omega) _)⟩
set_option maxRecDepth 100000 in
set_option maxHeartbeats 4000000 in
theorem tick_half {g : Nat} {fb fc : Cf} {x : Int} {p : Option Addr} (s s' : PSt) (hsv : s.val = .iface 161 (.agg #[.pointer p])) (V : Value) (hsv' : s'.val = .iface 161 V) (q a0 a1 b0 b1 : Int) (ra rb : Int) (w : World) (h : FlowB w g fb fc x s)
    (HT : ∀ u, Below w.heap.size w u → Calls Tryz.prog 170 #[(.agg #[.pointer p]), .int .i64 q, .agg #[.int .u8 a0, .int .u8 a1, .int .u8 b0, .int .u8 b1]] u fun e w' => e = .returned (.tuple #[.agg #[.int .u8 ra, .int .u8 rb], s'.val]) ∧ Below u.heap.size u w') :
    Calls Tryz.prog 10 #[.pointer (some ⟨g, 0, none⟩), .int .i64 q, .agg #[.int .u8 a0, .int .u8 a1, .int .u8 b0, .int .u8 b1]] w fun e w' => e = .returned (.agg #[.int .u8 ra, .int .u8 rb]) ∧ FlowB w' g fb fc x s' ∧ But g w w' := by
  have hb0 := below_al (below_al (Below.refl w.heap.size w) (.cells #[.int .u8 a0, .int .u8 a1, .int .u8 b0, .int .u8 b1] 51)) (.cells #[.int .u8 0, .int .u8 0] 48)
  have HB0 := Lib.hid hb0
  have HN := Lib.hid (show Calls Tryz.prog 29 #[.pointer (some ⟨g, 0, none⟩)] _ fun e w' => e = .returned (.iface 161 (.agg #[.pointer p])) ∧ _ = w' from hsv ▸ now_is _ (h.on hb0))
  have hI : Blk ((w.alloc (.cells #[.int .u8 a0, .int .u8 a1, .int .u8 b0, .int .u8 b1] 51)).alloc (.cells #[.int .u8 0, .int .u8 0] 48)) w.heap.size 51 #[.int .u8 a0, .int .u8 a1, .int .u8 b0, .int .u8 b1] := Blk.alloc (Blk.new w _ _) _
  have hZ : Blk ((w.alloc (.cells #[.int .u8 a0, .int .u8 a1, .int .u8 b0, .int .u8 b1] 51)).alloc (.cells #[.int .u8 0, .int .u8 0] 48)) (w.heap.size + 1) 48 #[.int .u8 0, .int .u8 0] := Blk.newIn (by simp)
  have HZ := Lib.hid hZ
  have j0 := hI.cell 0
  have j1 := hI.cell 1
  have j2 := hI.cell 2
  have j3 := hI.cell 3
  have jl := hI.lt
  simp only [List.getElem?_toArray, List.getElem?_cons_zero, List.getElem?_cons_succ] at j0 j1 j2 j3
  have HTK := Lib.hid (HT _ hb0)
  have HF := Lib.hid (h.on hb0)
  have HLT := Lib.hid (Blk.lt h)
  have HGR := Lib.hid (But.grow (g := g) (Nat.le_of_lt (Blk.lt h)) hb0)
  rw [hsv'] at HTK
  have HV := Lib.hid hsv'
  have hme := fun W => method_half (.agg #[.pointer p]) W
  have q1 := fun W => neq_some 161 (.agg #[.pointer p]) W
  clear h hb0 hI hZ HT hsv hsv'
  go_enter Tryz.func10, Tryz.ntmps10
  go_wp2_with (first
    | (go_at_call 29; (with_reducible refine HN.out.mono ?_); rintro e w1 ⟨rfl, rfl⟩)
    | (go_at_call 170; (with_reducible refine HTK.out.mono ?_); rintro e w2 ⟨rfl, b2⟩; have hF2 := HF.out.on b2; have hZ2 := HZ.out.on b2; have z0 := hZ2.cell 0; have z1 := hZ2.cell 1; have zl := hZ2.lt; have zf := hZ2.frozen; have f0 := hF2.part; have f1 := Blk.frozen hF2 19; have fl := Blk.lt hF2; simp only [List.getElem?_toArray, List.getElem?_cons_zero, List.getElem?_cons_succ] at z0 z1))
  have hg := HLT.out
  have hp : w.heap.size ≤ w.heap.size + 1 := by omega
  have hne : w.heap.size + 1 ≠ g := by omega
  have hk := ((((hZ2.set_ 0 (.int .u8 ra)).set_ 1 (.int .u8 rb)).farC hne 19 (.iface 161 V)).set_ 0 (.int .u8 ra)).set_ 1 (.int .u8 rb)
  have hlv := loadVar_two (w := ((((w2.setCell ⟨w.heap.size + 1, 0, none⟩ (.int .u8 ra)).setCell ⟨w.heap.size + 1, 1, none⟩ (.int .u8 rb)).setCell ⟨g, 19, none⟩ (.iface 161 V)).setCell ⟨w.heap.size + 1, 0, none⟩ (.int .u8 ra)).setCell ⟨w.heap.size + 1, 1, none⟩ (.int .u8 rb)) hk
  have hfl := (((((Blk.farC hF2 (Ne.symm hne) 0 (.int .u8 ra)).farC (Ne.symm hne) 1 (.int .u8 rb)).set_ 19 (.iface 161 V)).farC (Ne.symm hne) 0 (.int .u8 ra)).farC (Ne.symm hne) 1 (.int .u8 rb))
  have hbt := (((((HGR.out.trans (But.grow (Nat.le_trans (Nat.le_of_lt hg) HB0.out.size) b2)).new_ hg (p := ⟨w.heap.size + 1, 0, none⟩) hp (.int .u8 ra)).new_ hg (p := ⟨w.heap.size + 1, 1, none⟩) hp (.int .u8 rb)).set 19 (.iface 161 V)).new_ hg (p := ⟨w.heap.size + 1, 0, none⟩) hp (.int .u8 ra)).new_ hg (p := ⟨w.heap.size + 1, 1, none⟩) hp (.int .u8 rb)
  exact bodyPost_ret (v := .agg #[.int .u8 ra, .int .u8 rb]) (by simp [results, Tryz.results10, asAddr, hlv]) rfl ⟨rfl, by unfold FlowB; rw [HV.out]; exact hfl, hbt⟩
set_option maxRecDepth 100000 in
set_option maxHeartbeats 4000000 in
theorem tick_oth {g : Nat} {fb fc : Cf} {x : Int} {O : Array Value} (s s' : PSt) (hsv : s.val = .iface 165 (.agg O)) (V : Value) (hsv' : s'.val = .iface 165 V) (q a0 a1 b0 b1 : Int) (ra rb : Int) (w : World) (h : FlowB w g fb fc x s)
    (HT : ∀ u, Below w.heap.size w u → Calls Tryz.prog 172 #[(.agg O), .int .i64 q, .agg #[.int .u8 a0, .int .u8 a1, .int .u8 b0, .int .u8 b1]] u fun e w' => e = .returned (.tuple #[.agg #[.int .u8 ra, .int .u8 rb], s'.val]) ∧ Below u.heap.size u w') :
    Calls Tryz.prog 10 #[.pointer (some ⟨g, 0, none⟩), .int .i64 q, .agg #[.int .u8 a0, .int .u8 a1, .int .u8 b0, .int .u8 b1]] w fun e w' => e = .returned (.agg #[.int .u8 ra, .int .u8 rb]) ∧ FlowB w' g fb fc x s' ∧ But g w w' := by
  have hb0 := below_al (below_al (Below.refl w.heap.size w) (.cells #[.int .u8 a0, .int .u8 a1, .int .u8 b0, .int .u8 b1] 51)) (.cells #[.int .u8 0, .int .u8 0] 48)
  have HB0 := Lib.hid hb0
  have HN := Lib.hid (show Calls Tryz.prog 29 #[.pointer (some ⟨g, 0, none⟩)] _ fun e w' => e = .returned (.iface 165 (.agg O)) ∧ _ = w' from hsv ▸ now_is _ (h.on hb0))
  have hI : Blk ((w.alloc (.cells #[.int .u8 a0, .int .u8 a1, .int .u8 b0, .int .u8 b1] 51)).alloc (.cells #[.int .u8 0, .int .u8 0] 48)) w.heap.size 51 #[.int .u8 a0, .int .u8 a1, .int .u8 b0, .int .u8 b1] := Blk.alloc (Blk.new w _ _) _
  have hZ : Blk ((w.alloc (.cells #[.int .u8 a0, .int .u8 a1, .int .u8 b0, .int .u8 b1] 51)).alloc (.cells #[.int .u8 0, .int .u8 0] 48)) (w.heap.size + 1) 48 #[.int .u8 0, .int .u8 0] := Blk.newIn (by simp)
  have HZ := Lib.hid hZ
  have j0 := hI.cell 0
  have j1 := hI.cell 1
  have j2 := hI.cell 2
  have j3 := hI.cell 3
  have jl := hI.lt
  simp only [List.getElem?_toArray, List.getElem?_cons_zero, List.getElem?_cons_succ] at j0 j1 j2 j3
  have HTK := Lib.hid (HT _ hb0)
  have HF := Lib.hid (h.on hb0)
  have HLT := Lib.hid (Blk.lt h)
  have HGR := Lib.hid (But.grow (g := g) (Nat.le_of_lt (Blk.lt h)) hb0)
  rw [hsv'] at HTK
  have HV := Lib.hid hsv'
  have hme := fun W => method_oth (.agg O) W
  have q1 := fun W => neq_some 165 (.agg O) W
  clear h hb0 hI hZ HT hsv hsv'
  go_enter Tryz.func10, Tryz.ntmps10
  go_wp2_with (first
    | (go_at_call 29; (with_reducible refine HN.out.mono ?_); rintro e w1 ⟨rfl, rfl⟩)
    | (go_at_call 172; (with_reducible refine HTK.out.mono ?_); rintro e w2 ⟨rfl, b2⟩; have hF2 := HF.out.on b2; have hZ2 := HZ.out.on b2; have z0 := hZ2.cell 0; have z1 := hZ2.cell 1; have zl := hZ2.lt; have zf := hZ2.frozen; have f0 := hF2.part; have f1 := Blk.frozen hF2 19; have fl := Blk.lt hF2; simp only [List.getElem?_toArray, List.getElem?_cons_zero, List.getElem?_cons_succ] at z0 z1))
  have hg := HLT.out
  have hp : w.heap.size ≤ w.heap.size + 1 := by omega
  have hne : w.heap.size + 1 ≠ g := by omega
  have hk := ((((hZ2.set_ 0 (.int .u8 ra)).set_ 1 (.int .u8 rb)).farC hne 19 (.iface 165 V)).set_ 0 (.int .u8 ra)).set_ 1 (.int .u8 rb)
  have hlv := loadVar_two (w := ((((w2.setCell ⟨w.heap.size + 1, 0, none⟩ (.int .u8 ra)).setCell ⟨w.heap.size + 1, 1, none⟩ (.int .u8 rb)).setCell ⟨g, 19, none⟩ (.iface 165 V)).setCell ⟨w.heap.size + 1, 0, none⟩ (.int .u8 ra)).setCell ⟨w.heap.size + 1, 1, none⟩ (.int .u8 rb)) hk
  have hfl := (((((Blk.farC hF2 (Ne.symm hne) 0 (.int .u8 ra)).farC (Ne.symm hne) 1 (.int .u8 rb)).set_ 19 (.iface 165 V)).farC (Ne.symm hne) 0 (.int .u8 ra)).farC (Ne.symm hne) 1 (.int .u8 rb))
  have hbt := (((((HGR.out.trans (But.grow (Nat.le_trans (Nat.le_of_lt hg) HB0.out.size) b2)).new_ hg (p := ⟨w.heap.size + 1, 0, none⟩) hp (.int .u8 ra)).new_ hg (p := ⟨w.heap.size + 1, 1, none⟩) hp (.int .u8 rb)).set 19 (.iface 165 V)).new_ hg (p := ⟨w.heap.size + 1, 0, none⟩) hp (.int .u8 ra)).new_ hg (p := ⟨w.heap.size + 1, 1, none⟩) hp (.int .u8 rb)
  exact bodyPost_ret (v := .agg #[.int .u8 ra, .int .u8 rb]) (by simp [results, Tryz.results10, asAddr, hlv]) rfl ⟨rfl, by unfold FlowB; rw [HV.out]; exact hfl, hbt⟩
end Go.Proofs.YtkejpkcaojidaaaGreatDoor

namespace Go.Proofs.YtkejpkcaojidaaaGreatDoor
set_option linter.unusedVariables false
set_option linter.unusedSimpArgs false
open Go.RowKit Rg
set_option linter.unusedVariables false

set_option maxRecDepth 100000 in
set_option maxHeartbeats 4000000 in
theorem fNew_no (v : Value) (N : Int) (P : List Int) (x E : Int) (hE : ofWE N P 0 0 x = E) (h0 : E ≠ 0) (w : World) (hn : NetP w v N P) (hw : Laid2 w) :
    Calls Tryz.prog 6 #[v, .int .i64 x] w fun e w' => e = .returned (.tuple #[.pointer none, .int .i64 E]) ∧ Below w.heap.size w w' := by
  obtain ⟨X, hX⟩ : ∃ X, ofW N P 0 0 x = X := ⟨_, rfl⟩
  have HO := Lib.hid (winOf_is v N P 0 0 x X hX E hE w hn hw (by decide) (by decide))
  have e1 : (E != 0) = true := by simpa using h0
  clear hX hE hn hw h0
  go_enter Tryz.func6, Tryz.ntmps6
  go_wp2_with (go_at_call 24; (with_reducible refine HO.out.mono ?_); rintro e w1 ⟨rfl, b1⟩)
  go_ret2
  exact ⟨rfl, below_al b1 _⟩
/-- A config whose lists lie below a block. -/
structure CfLow (w : World) (B : Nat) (c : Cf) : Prop where
  p : Lies .i64 w B c.pA c.pn c.P
  s : Lies .i64 w B c.sA c.sn c.S
  b : Lies .i64 w B c.bA c.bn c.B
  t : LiesT w B c.tA c.tn c.T
  few : c.pn ≤ 65536 ∧ c.sn ≤ 65536 ∧ c.bn ≤ 65536 ∧ c.tn ≤ 65536
theorem CfLow.keep {w w' : World} {B B' : Nat} {c : Cf} (h : CfLow w B c) (hB : B ≤ B') (hb : Below B w w') : CfLow w' B' c :=
  ⟨h.p.keep hB fun _ hp => hb.cell hp, h.s.keep hB fun _ hp => hb.cell hp, h.b.keep hB fun _ hp => hb.cell hp, h.t.keep hB fun _ hp => hb.cell hp, h.few⟩
theorem CfLow.in_ {w : World} {B : Nat} {c : Cf} (h : CfLow w B c) (hB : B ≤ w.heap.size) : CfIn w c := by
  have k := h.keep hB (Below.refl B w)
  exact ⟨k.p, k.s, k.b, k.t, k.few⟩
theorem CfIn.low {w : World} {c : Cf} (h : CfIn w c) : CfLow w w.heap.size c := ⟨h.p, h.s, h.b, h.t, h.few⟩
/-- A flow of a net of so many nodes and of these pairs. -/
def FlowN (w : World) (f B : Nat) (N : Int) (P : List Int) (x : Int) (s : PSt) : Prop := ∃ (fb c : Cf), FlowB w f fb c x s ∧ CfLow w B c ∧ c.N = N ∧ c.P = P ∧ (N = 0 ∨ 4 ≤ N ∧ N ≤ 16) ∧ B ≤ f
/-- A net whose lists lie below B. -/
def NetQ (w : World) (g B : Nat) (N : Int) (P : List Int) : Prop := ∃ (fb c : Cf) (T : TypeId) (Z : List Value), Blk w g T (([.int .i64 fb.N, .slice fb.pA fb.pn fb.pc, .slice fb.sA fb.sn fb.sc, .int .i64 fb.L, .slice fb.bA fb.bn fb.bc, .slice fb.tA fb.tn fb.tc, .int .i64 fb.M, .int .i64 fb.G, .int .i64 fb.F, .int .i64 c.N, .slice c.pA c.pn c.pc, .slice c.sA c.sn c.sc, .int .i64 c.L, .slice c.bA c.bn c.bc, .slice c.tA c.tn c.tc, .int .i64 c.M, .int .i64 c.G, .int .i64 c.F] : List Value) ++ Z).toArray ∧ CfLow w B c ∧ c.N = N ∧ c.P = P ∧ (N = 0 ∨ 4 ≤ N ∧ N ≤ 16) ∧ B ≤ w.heap.size
theorem NetQ.of {w : World} {g : Nat} {N : Int} {P : List Int} (h : NetP w (.pointer (some ⟨g, 0, none⟩)) N P) : NetQ w g w.heap.size N P := by
  obtain ⟨c, hnet, hcN, hcP, hNb⟩ := h
  obtain ⟨h1, _⟩ | ⟨g', fb, h1, ⟨T, Z, hB⟩, hc⟩ := hnet
  · cases h1
  · obtain rfl : g = g' := by injection h1 with h1; injection h1 with h1; injection h1
    exact ⟨fb, c, T, Z, hB, hc.low, hcN, hcP, hNb, Nat.le_refl _⟩
theorem NetQ.net {w : World} {g B : Nat} {N : Int} {P : List Int} (h : NetQ w g B N P) : NetP w (.pointer (some ⟨g, 0, none⟩)) N P := by
  obtain ⟨fb, c, T, Z, h1, h2, h3, h4, h5, h6⟩ := h
  exact ⟨c, .inr ⟨g, fb, rfl, ⟨T, Z, h1⟩, h2.in_ h6⟩, h3, h4, h5⟩
theorem NetQ.on {w w' : World} {g B : Nat} {N : Int} {P : List Int} (h : NetQ w g B N P) (hb : Below w.heap.size w w') : NetQ w' g B N P := by
  obtain ⟨fb, c, T, Z, h1, h2, h3, h4, h5, h6⟩ := h
  exact ⟨fb, c, T, Z, h1.on hb, h2.keep (Nat.le_refl _) (hb.mono h6), h3, h4, h5, Nat.le_trans h6 hb.size⟩
section
variable {w w' : World} {f B : Nat} {N : Int} {P : List Int} {x : Int} {s s' : PSt}
theorem FlowN.on (h : FlowN w f B N P x s) (hb : Below w.heap.size w w') : FlowN w' f B N P x s := by
  obtain ⟨fb, c, h1, h2, h3⟩ := h
  exact ⟨fb, c, h1.on hb, h2.keep (Nat.le_refl _) (hb.mono (Nat.le_trans h3.2.2.2 (Nat.le_of_lt (Blk.lt h1)))), h3⟩
theorem FlowN.now (h : FlowN w f B N P x s) : NowF w (.pointer (some ⟨f, 0, none⟩)) s := by
  obtain ⟨fb, c, h1, h2, h3⟩ := h
  exact .inr ⟨f, fb, c, x, rfl, h1⟩
theorem FlowN.net (h : FlowN w f B N P x s) : NetP w (.pointer (some ⟨f, 0, none⟩)) N P := by
  obtain ⟨fb, c, h1, h2, rfl, rfl, h5, h6⟩ := h
  exact ⟨c, h1.net (h2.in_ (Nat.le_trans h6 (Nat.le_of_lt (Blk.lt h1)))), rfl, rfl, h5⟩
theorem FlowN.lt (h : FlowN w f B N P x s) : f < w.heap.size := by
  obtain ⟨fb, c, h1, _⟩ := h
  exact Blk.lt h1
theorem FlowN.node (h : FlowN w f B N P x s) : w.cell? ⟨f, 18, none⟩ = some (.int .i64 x) := by
  obtain ⟨fb, c, h1, _⟩ := h
  exact h1.node
theorem FlowN.part (h : FlowN w f B N P x s) : w.cell? ⟨f, 19, none⟩ = some s.val := by
  obtain ⟨fb, c, h1, _⟩ := h
  exact h1.part
theorem FlowN.frozen (h : FlowN w f B N P x s) (i : Nat) : w.frozen? ⟨f, i, none⟩ = false := by
  obtain ⟨fb, c, h1, _⟩ := h
  exact Blk.frozen h1 i
end
set_option maxRecDepth 100000 in
set_option maxHeartbeats 4000000 in
theorem fNew_yes (g B : Nat) (N : Int) (P : List Int) (x : Int) (hE : ofWE N P 0 0 x = 0) (w : World) (hq : NetQ w g B N P) (hw : Laid2 w) :
    Calls Tryz.prog 6 #[.pointer (some ⟨g, 0, none⟩), .int .i64 x] w fun e w' => ∃ f, e = .returned (.tuple #[.pointer (some ⟨f, 0, none⟩), .int .i64 0]) ∧ w.heap.size ≤ f ∧ FlowN w' f B N P x .no ∧ Below w.heap.size w w' := by
  obtain ⟨X, hX⟩ : ∃ X, ofW N P 0 0 x = X := ⟨_, rfl⟩
  have HO := Lib.hid (winOf_is _ N P 0 0 x X hX 0 hE w hq.net hw (by decide) (by decide))
  obtain ⟨fb, c, T, Z, hB, hc, hcN, hcP, hNb, hBw⟩ := hq
  · have HN := Lib.hid (show c.N = N ∧ c.P = P ∧ (N = 0 ∨ 4 ≤ N ∧ N ≤ 16) from ⟨hcN, hcP, hNb⟩)
    have HB := Lib.hid hB
    have HC := Lib.hid hc
    have HBW := Lib.hid hBw
    clear hX hE hw hB hc hcN hcP hNb hBw
    go_enter Tryz.func6, Tryz.ntmps6
    go_wp2_with (go_at_call 24; (with_reducible refine HO.out.mono ?_); rintro e w1 ⟨rfl, b1⟩; have hB1 := (HB.out.on b1).alloc (.cells #[.int .u8 X.r, .int .i64 X.p, .int .i64 X.b, .int .i64 X.e] 73); have cl := hB1.lt; have c0 := hB1.cell 0; have c1 := hB1.cell 1; have c2 := hB1.cell 2; have c3 := hB1.cell 3; have c4 := hB1.cell 4; have c5 := hB1.cell 5; have c6 := hB1.cell 6; have c7 := hB1.cell 7; have c8 := hB1.cell 8; have c9 := hB1.cell 9; have c10 := hB1.cell 10; have c11 := hB1.cell 11; have c12 := hB1.cell 12; have c13 := hB1.cell 13; have c14 := hB1.cell 14; have c15 := hB1.cell 15; have c16 := hB1.cell 16; have c17 := hB1.cell 17; simp only [List.cons_append, List.nil_append, List.getElem?_toArray, List.getElem?_cons_zero, List.getElem?_cons_succ] at c0 c1 c2 c3 c4 c5 c6 c7 c8 c9 c10 c11 c12 c13 c14 c15 c16 c17)
    go_ret2
    have hb2 := below_al (below_al b1 (.cells #[.int .u8 X.r, .int .i64 X.p, .int .i64 X.b, .int .i64 X.e] 73)) (.cells #[.int .i64 fb.N, .slice fb.pA fb.pn fb.pc, .slice fb.sA fb.sn fb.sc, .int .i64 fb.L, .slice fb.bA fb.bn fb.bc, .slice fb.tA fb.tn fb.tc, .int .i64 fb.M, .int .i64 fb.G, .int .i64 fb.F, .int .i64 c.N, .slice c.pA c.pn c.pc, .slice c.sA c.sn c.sc, .int .i64 c.L, .slice c.bA c.bn c.bc, .slice c.tA c.tn c.tc, .int .i64 c.M, .int .i64 c.G, .int .i64 c.F, .int .i64 x, .nilIface] 82)
    exact ⟨w1.heap.size + 1, rfl, Nat.le_succ_of_le b1.size, ⟨fb, c, Blk.newIn (by simp), HC.out.keep (Nat.le_refl _) (hb2.mono HBW.out), HN.out.1, HN.out.2.1, HN.out.2.2, Nat.le_trans HBW.out (Nat.le_succ_of_le b1.size)⟩, hb2⟩
end Go.Proofs.YtkejpkcaojidaaaGreatDoor

namespace Go.Proofs.YtkejpkcaojidaaaGreatDoor
set_option linter.unusedVariables false
set_option linter.unusedSimpArgs false
open Go.RowKit Rg
set_option linter.unusedVariables false

set_option maxRecDepth 100000 in
set_option maxHeartbeats 4000000 in
theorem halfOf_no (f B : Nat) (N : Int) (P : List Int) (x : Int) (s : PSt) (o : Int) (a b : Sd) (w : World) (h : FlowN w f B N P x s) (E : Int) (h0 : E ≠ 0) (HS : ∀ u, Below w.heap.size w u → Calls Tryz.prog 95 #[.pointer (some ⟨f, 0, none⟩), .int .i64 x, .int .i64 o, .agg #[.bool a.i, .int .i64 a.a, .int .u8 a.k, .int .u8 a.s, .int .u32 a.q, .int .u32 a.v], .agg #[.bool b.i, .int .i64 b.a, .int .u8 b.k, .int .u8 b.s, .int .u32 b.q, .int .u32 b.v]] u fun e w' => e = .returned (.tuple #[.pointer none, .int .i64 E]) ∧ Below u.heap.size u w') :
    Calls Tryz.prog 54 #[.pointer (some ⟨f, 0, none⟩), .int .i64 o, .agg #[.bool a.i, .int .i64 a.a, .int .u8 a.k, .int .u8 a.s, .int .u32 a.q, .int .u32 a.v], .agg #[.bool b.i, .int .i64 b.a, .int .u8 b.k, .int .u8 b.s, .int .u32 b.q, .int .u32 b.v]] w fun e w' => e = .returned (.tuple #[.nilIface, .int .i64 E]) ∧ Below w.heap.size w w' := by
  have hb0 := below_al (below_al (Below.refl w.heap.size w) (.cells #[.bool a.i, .int .i64 a.a, .int .u8 a.k, .int .u8 a.s, .int .u32 a.q, .int .u32 a.v] 42)) (.cells #[.bool b.i, .int .i64 b.a, .int .u8 b.k, .int .u8 b.s, .int .u32 b.q, .int .u32 b.v] 42)
  have hA : Blk ((w.alloc (.cells #[.bool a.i, .int .i64 a.a, .int .u8 a.k, .int .u8 a.s, .int .u32 a.q, .int .u32 a.v] 42)).alloc (.cells #[.bool b.i, .int .i64 b.a, .int .u8 b.k, .int .u8 b.s, .int .u32 b.q, .int .u32 b.v] 42)) w.heap.size 42 #[.bool a.i, .int .i64 a.a, .int .u8 a.k, .int .u8 a.s, .int .u32 a.q, .int .u32 a.v] := Blk.alloc (Blk.new w _ _) _
  have hBb : Blk ((w.alloc (.cells #[.bool a.i, .int .i64 a.a, .int .u8 a.k, .int .u8 a.s, .int .u32 a.q, .int .u32 a.v] 42)).alloc (.cells #[.bool b.i, .int .i64 b.a, .int .u8 b.k, .int .u8 b.s, .int .u32 b.q, .int .u32 b.v] 42)) (w.heap.size + 1) 42 #[.bool b.i, .int .i64 b.a, .int .u8 b.k, .int .u8 b.s, .int .u32 b.q, .int .u32 b.v] := Blk.newIn (by simp)
  have hF := h.on hb0
  have n18 := hF.node
  have nl := hF.lt
  have HB0 := Lib.hid hb0
  obtain ⟨c0, c1, c2, c3, c4, c5, cl⟩ := hA.sd
  obtain ⟨d0, d1, d2, d3, d4, d5, dl⟩ := hBb.sd
  have HSN := Lib.hid (HS _ hb0.drew)
  clear h hb0 hF hA hBb HS
  go_enter Tryz.func54, Tryz.ntmps54
  go_upto_region 1 with fail
  go_region_law (go_simp; go_at_call 95; (with_reducible refine HSN.out.mono ?_); rintro e w1 ⟨rfl, b1⟩; have e1 : (E != 0) = true := (by simpa using h0))
  all_goals (go_wp2_with fail)
  all_goals go_ret2
  all_goals exact ⟨rfl, below_then HB0.out.drew b1⟩
set_option maxRecDepth 100000 in
set_option maxHeartbeats 4000000 in
theorem halfOf_yes (f B : Nat) (N : Int) (P : List Int) (x : Int) (s : PSt) (o : Int) (a b : Sd) (w : World) (h : FlowN w f B N P x s) (R : Option Addr → World → Prop) (HS : ∀ u, Below w.heap.size w u → Calls Tryz.prog 95 #[.pointer (some ⟨f, 0, none⟩), .int .i64 x, .int .i64 o, .agg #[.bool a.i, .int .i64 a.a, .int .u8 a.k, .int .u8 a.s, .int .u32 a.q, .int .u32 a.v], .agg #[.bool b.i, .int .i64 b.a, .int .u8 b.k, .int .u8 b.s, .int .u32 b.q, .int .u32 b.v]] u fun e w' => ∃ p, e = .returned (.tuple #[.pointer p, .int .i64 0]) ∧ R p w' ∧ Below u.heap.size u w') :
    Calls Tryz.prog 54 #[.pointer (some ⟨f, 0, none⟩), .int .i64 o, .agg #[.bool a.i, .int .i64 a.a, .int .u8 a.k, .int .u8 a.s, .int .u32 a.q, .int .u32 a.v], .agg #[.bool b.i, .int .i64 b.a, .int .u8 b.k, .int .u8 b.s, .int .u32 b.q, .int .u32 b.v]] w fun e w' => ∃ p, e = .returned (.tuple #[(PSt.half p).val, .int .i64 0]) ∧ R p w' ∧ Below w.heap.size w w' := by
  have hb0 := below_al (below_al (Below.refl w.heap.size w) (.cells #[.bool a.i, .int .i64 a.a, .int .u8 a.k, .int .u8 a.s, .int .u32 a.q, .int .u32 a.v] 42)) (.cells #[.bool b.i, .int .i64 b.a, .int .u8 b.k, .int .u8 b.s, .int .u32 b.q, .int .u32 b.v] 42)
  have hA : Blk ((w.alloc (.cells #[.bool a.i, .int .i64 a.a, .int .u8 a.k, .int .u8 a.s, .int .u32 a.q, .int .u32 a.v] 42)).alloc (.cells #[.bool b.i, .int .i64 b.a, .int .u8 b.k, .int .u8 b.s, .int .u32 b.q, .int .u32 b.v] 42)) w.heap.size 42 #[.bool a.i, .int .i64 a.a, .int .u8 a.k, .int .u8 a.s, .int .u32 a.q, .int .u32 a.v] := Blk.alloc (Blk.new w _ _) _
  have hBb : Blk ((w.alloc (.cells #[.bool a.i, .int .i64 a.a, .int .u8 a.k, .int .u8 a.s, .int .u32 a.q, .int .u32 a.v] 42)).alloc (.cells #[.bool b.i, .int .i64 b.a, .int .u8 b.k, .int .u8 b.s, .int .u32 b.q, .int .u32 b.v] 42)) (w.heap.size + 1) 42 #[.bool b.i, .int .i64 b.a, .int .u8 b.k, .int .u8 b.s, .int .u32 b.q, .int .u32 b.v] := Blk.newIn (by simp)
  have hF := h.on hb0
  have n18 := hF.node
  have nl := hF.lt
  have HB0 := Lib.hid hb0
  obtain ⟨c0, c1, c2, c3, c4, c5, cl⟩ := hA.sd
  obtain ⟨d0, d1, d2, d3, d4, d5, dl⟩ := hBb.sd
  have HSN := Lib.hid (HS _ hb0.drew)
  clear h hb0 hF hA hBb HS
  go_enter Tryz.func54, Tryz.ntmps54
  go_upto_region 1 with fail
  go_region_law (go_simp; go_at_call 95; (with_reducible refine HSN.out.mono ?_); rintro e w1 ⟨p, rfl, hR, b1⟩)
  all_goals (go_wp2_with fail)
  all_goals go_ret2
  all_goals exact ⟨p, rfl, hR, below_then HB0.out.drew b1⟩
set_option maxRecDepth 100000 in
set_option maxHeartbeats 4000000 in
theorem partOf_bad (f B : Nat) (N : Int) (P : List Int) (x : Int) (s : PSt) (o : Int) (a b : Sd) (X : Wn) (hX : ofW N P 0 o x = X) (w : World) (h : FlowN w f B N P x s) (hw : Laid2 w) (E : Int) (hE : ofWE N P 0 o x = E) (h0 : E ≠ 0) :
    Calls Tryz.prog 25 #[.pointer (some ⟨f, 0, none⟩), .int .i64 o, .agg #[.bool a.i, .int .i64 a.a, .int .u8 a.k, .int .u8 a.s, .int .u32 a.q, .int .u32 a.v], .agg #[.bool b.i, .int .i64 b.a, .int .u8 b.k, .int .u8 b.s, .int .u32 b.q, .int .u32 b.v]] w fun e w' => e = .returned (.tuple #[.nilIface, .int .i64 E]) ∧ Below w.heap.size w w' := by
  have hb0 := below_al (below_al (Below.refl w.heap.size w) (.cells #[.bool a.i, .int .i64 a.a, .int .u8 a.k, .int .u8 a.s, .int .u32 a.q, .int .u32 a.v] 42)) (.cells #[.bool b.i, .int .i64 b.a, .int .u8 b.k, .int .u8 b.s, .int .u32 b.q, .int .u32 b.v] 42)
  have hA : Blk ((w.alloc (.cells #[.bool a.i, .int .i64 a.a, .int .u8 a.k, .int .u8 a.s, .int .u32 a.q, .int .u32 a.v] 42)).alloc (.cells #[.bool b.i, .int .i64 b.a, .int .u8 b.k, .int .u8 b.s, .int .u32 b.q, .int .u32 b.v] 42)) w.heap.size 42 #[.bool a.i, .int .i64 a.a, .int .u8 a.k, .int .u8 a.s, .int .u32 a.q, .int .u32 a.v] := Blk.alloc (Blk.new w _ _) _
  have hBb : Blk ((w.alloc (.cells #[.bool a.i, .int .i64 a.a, .int .u8 a.k, .int .u8 a.s, .int .u32 a.q, .int .u32 a.v] 42)).alloc (.cells #[.bool b.i, .int .i64 b.a, .int .u8 b.k, .int .u8 b.s, .int .u32 b.q, .int .u32 b.v] 42)) (w.heap.size + 1) 42 #[.bool b.i, .int .i64 b.a, .int .u8 b.k, .int .u8 b.s, .int .u32 b.q, .int .u32 b.v] := Blk.newIn (by simp)
  have hF := h.on hb0
  have n18 := hF.node
  have nl := hF.lt
  have HB0 := Lib.hid hb0
  have HA := Lib.hid hA
  have HBB := Lib.hid hBb
  have HFN := Lib.hid hF
  have HWL := Lib.hid (hw.on hb0)
  have e1 : (E != 0) = true := by simpa using h0
  have HOF := Lib.hid (show ∀ u, Below ((w.alloc (.cells #[.bool a.i, .int .i64 a.a, .int .u8 a.k, .int .u8 a.s, .int .u32 a.q, .int .u32 a.v] 42)).alloc (.cells #[.bool b.i, .int .i64 b.a, .int .u8 b.k, .int .u8 b.s, .int .u32 b.q, .int .u32 b.v] 42)).heap.size ((w.alloc (.cells #[.bool a.i, .int .i64 a.a, .int .u8 a.k, .int .u8 a.s, .int .u32 a.q, .int .u32 a.v] 42)).alloc (.cells #[.bool b.i, .int .i64 b.a, .int .u8 b.k, .int .u8 b.s, .int .u32 b.q, .int .u32 b.v] 42)) u → Calls Tryz.prog 24 #[.pointer (some ⟨f, 0, none⟩), .int .u8 0, .int .i64 o, .int .i64 x] u fun e w' => e = .returned (.tuple #[.agg #[.int .u8 X.r, .int .i64 X.p, .int .i64 X.b, .int .i64 X.e], .int .i64 E]) ∧ Below u.heap.size u w' from fun u hu => winOf_is _ N P 0 o x X hX E hE u (hF.on hu).net ((hw.on hb0).on hu) (by decide) (by decide))
  have HY1 : Hid (Below ((w.alloc (.cells #[.bool a.i, .int .i64 a.a, .int .u8 a.k, .int .u8 a.s, .int .u32 a.q, .int .u32 a.v] 42)).alloc (.cells #[.bool b.i, .int .i64 b.a, .int .u8 b.k, .int .u8 b.s, .int .u32 b.q, .int .u32 b.v] 42)).heap.size ((w.alloc (.cells #[.bool a.i, .int .i64 a.a, .int .u8 a.k, .int .u8 a.s, .int .u32 a.q, .int .u32 a.v] 42)).alloc (.cells #[.bool b.i, .int .i64 b.a, .int .u8 b.k, .int .u8 b.s, .int .u32 b.q, .int .u32 b.v] 42)) ((w.alloc (.cells #[.bool a.i, .int .i64 a.a, .int .u8 a.k, .int .u8 a.s, .int .u32 a.q, .int .u32 a.v] 42)).alloc (.cells #[.bool b.i, .int .i64 b.a, .int .u8 b.k, .int .u8 b.s, .int .u32 b.q, .int .u32 b.v] 42)).drew) := Lib.hid (Below.refl _ _).drew
  have HY2 : Hid (Below ((w.alloc (.cells #[.bool a.i, .int .i64 a.a, .int .u8 a.k, .int .u8 a.s, .int .u32 a.q, .int .u32 a.v] 42)).alloc (.cells #[.bool b.i, .int .i64 b.a, .int .u8 b.k, .int .u8 b.s, .int .u32 b.q, .int .u32 b.v] 42)).heap.size ((w.alloc (.cells #[.bool a.i, .int .i64 a.a, .int .u8 a.k, .int .u8 a.s, .int .u32 a.q, .int .u32 a.v] 42)).alloc (.cells #[.bool b.i, .int .i64 b.a, .int .u8 b.k, .int .u8 b.s, .int .u32 b.q, .int .u32 b.v] 42)) (((w.alloc (.cells #[.bool a.i, .int .i64 a.a, .int .u8 a.k, .int .u8 a.s, .int .u32 a.q, .int .u32 a.v] 42)).alloc (.cells #[.bool b.i, .int .i64 b.a, .int .u8 b.k, .int .u8 b.s, .int .u32 b.q, .int .u32 b.v] 42)).alloc (.cells #[.int .u8 0, .int .i64 0, .int .i64 0, .int .i64 0] 73)).drew) := Lib.hid (below_al (Below.refl _ _) _).drew
  have HWA : Hid (Blk (((w.alloc (.cells #[.bool a.i, .int .i64 a.a, .int .u8 a.k, .int .u8 a.s, .int .u32 a.q, .int .u32 a.v] 42)).alloc (.cells #[.bool b.i, .int .i64 b.a, .int .u8 b.k, .int .u8 b.s, .int .u32 b.q, .int .u32 b.v] 42)).alloc (.cells #[.int .u8 0, .int .i64 0, .int .i64 0, .int .i64 0] 73)).drew (w.heap.size + 1 + 1) 73 #[.int .u8 0, .int .i64 0, .int .i64 0, .int .i64 0]) := Lib.hid (show Blk (((w.alloc (.cells #[.bool a.i, .int .i64 a.a, .int .u8 a.k, .int .u8 a.s, .int .u32 a.q, .int .u32 a.v] 42)).alloc (.cells #[.bool b.i, .int .i64 b.a, .int .u8 b.k, .int .u8 b.s, .int .u32 b.q, .int .u32 b.v] 42)).alloc (.cells #[.int .u8 0, .int .i64 0, .int .i64 0, .int .i64 0] 73)) (w.heap.size + 1 + 1) 73 #[.int .u8 0, .int .i64 0, .int .i64 0, .int .i64 0] from Blk.newIn (by simp))
  have n19 := (hF.on HY2.out).node
  have nl2 := (hF.on HY2.out).lt
  clear h hb0 hF hA hBb hX hw
  go_enter Tryz.func25, Tryz.ntmps25
  go_upto_region 1 with fail
  go_region_law (go_simp; go_at_call 24; first
    | ((with_reducible refine (HOF.out _ HY1.out).mono ?_); rintro e w1 ⟨rfl, b1⟩; have hb1 := below_then HY1.out b1)
    | ((with_reducible refine (HOF.out _ HY2.out).mono ?_); rintro e w1 ⟨rfl, b1⟩; have hb1 := below_then HY2.out b1; have hW1 := HWA.out.on b1; have y0 := hW1.cell 0; have y1 := hW1.cell 1; have y2 := hW1.cell 2; have y3 := hW1.cell 3; have yl := hW1.lt; have yf := hW1.frozen; simp only [List.getElem?_toArray, List.getElem?_cons_zero, List.getElem?_cons_succ] at y0 y1 y2 y3))
  all_goals (go_wp2_with fail)
  all_goals go_ret2
  all_goals exact ⟨rfl, by first | exact below_four (below_then HB0.out hb1) (by omega) _ _ _ _ | exact below_al (below_then HB0.out hb1) _⟩
set_option maxRecDepth 100000 in
set_option maxHeartbeats 4000000 in
theorem partOf_half (f B : Nat) (N : Int) (P : List Int) (x : Int) (s : PSt) (o : Int) (a b : Sd) (X : Wn) (hX : ofW N P 0 o x = X) (w : World) (h : FlowN w f B N P x s) (hw : Laid2 w) (hE : ofWE N P 0 o x = 0) (hr : (X.r == 1) = true) (R : Value → Int → World → Prop) (HH : ∀ u, FlowN u f B N P x s → Laid2 u → Calls Tryz.prog 54 #[.pointer (some ⟨f, 0, none⟩), .int .i64 o, .agg #[.bool a.i, .int .i64 a.a, .int .u8 a.k, .int .u8 a.s, .int .u32 a.q, .int .u32 a.v], .agg #[.bool b.i, .int .i64 b.a, .int .u8 b.k, .int .u8 b.s, .int .u32 b.q, .int .u32 b.v]] u fun e w' => ∃ V E', e = .returned (.tuple #[V, .int .i64 E']) ∧ R V E' w' ∧ Below u.heap.size u w') :
    Calls Tryz.prog 25 #[.pointer (some ⟨f, 0, none⟩), .int .i64 o, .agg #[.bool a.i, .int .i64 a.a, .int .u8 a.k, .int .u8 a.s, .int .u32 a.q, .int .u32 a.v], .agg #[.bool b.i, .int .i64 b.a, .int .u8 b.k, .int .u8 b.s, .int .u32 b.q, .int .u32 b.v]] w fun e w' => ∃ V E', e = .returned (.tuple #[V, .int .i64 E']) ∧ R V E' w' ∧ Below w.heap.size w w' := by
  have hb0 := below_al (below_al (Below.refl w.heap.size w) (.cells #[.bool a.i, .int .i64 a.a, .int .u8 a.k, .int .u8 a.s, .int .u32 a.q, .int .u32 a.v] 42)) (.cells #[.bool b.i, .int .i64 b.a, .int .u8 b.k, .int .u8 b.s, .int .u32 b.q, .int .u32 b.v] 42)
  have hA : Blk ((w.alloc (.cells #[.bool a.i, .int .i64 a.a, .int .u8 a.k, .int .u8 a.s, .int .u32 a.q, .int .u32 a.v] 42)).alloc (.cells #[.bool b.i, .int .i64 b.a, .int .u8 b.k, .int .u8 b.s, .int .u32 b.q, .int .u32 b.v] 42)) w.heap.size 42 #[.bool a.i, .int .i64 a.a, .int .u8 a.k, .int .u8 a.s, .int .u32 a.q, .int .u32 a.v] := Blk.alloc (Blk.new w _ _) _
  have hBb : Blk ((w.alloc (.cells #[.bool a.i, .int .i64 a.a, .int .u8 a.k, .int .u8 a.s, .int .u32 a.q, .int .u32 a.v] 42)).alloc (.cells #[.bool b.i, .int .i64 b.a, .int .u8 b.k, .int .u8 b.s, .int .u32 b.q, .int .u32 b.v] 42)) (w.heap.size + 1) 42 #[.bool b.i, .int .i64 b.a, .int .u8 b.k, .int .u8 b.s, .int .u32 b.q, .int .u32 b.v] := Blk.newIn (by simp)
  have hF := h.on hb0
  have n18 := hF.node
  have nl := hF.lt
  have HB0 := Lib.hid hb0
  have HA := Lib.hid hA
  have HBB := Lib.hid hBb
  have HFN := Lib.hid hF
  have HWL := Lib.hid (hw.on hb0)
  have HH := Lib.hid HH
  have HOF := Lib.hid (show ∀ u, Below ((w.alloc (.cells #[.bool a.i, .int .i64 a.a, .int .u8 a.k, .int .u8 a.s, .int .u32 a.q, .int .u32 a.v] 42)).alloc (.cells #[.bool b.i, .int .i64 b.a, .int .u8 b.k, .int .u8 b.s, .int .u32 b.q, .int .u32 b.v] 42)).heap.size ((w.alloc (.cells #[.bool a.i, .int .i64 a.a, .int .u8 a.k, .int .u8 a.s, .int .u32 a.q, .int .u32 a.v] 42)).alloc (.cells #[.bool b.i, .int .i64 b.a, .int .u8 b.k, .int .u8 b.s, .int .u32 b.q, .int .u32 b.v] 42)) u → Calls Tryz.prog 24 #[.pointer (some ⟨f, 0, none⟩), .int .u8 0, .int .i64 o, .int .i64 x] u fun e w' => e = .returned (.tuple #[.agg #[.int .u8 X.r, .int .i64 X.p, .int .i64 X.b, .int .i64 X.e], .int .i64 0]) ∧ Below u.heap.size u w' from fun u hu => winOf_is _ N P 0 o x X hX 0 hE u (hF.on hu).net ((hw.on hb0).on hu) (by decide) (by decide))
  have HY1 : Hid (Below ((w.alloc (.cells #[.bool a.i, .int .i64 a.a, .int .u8 a.k, .int .u8 a.s, .int .u32 a.q, .int .u32 a.v] 42)).alloc (.cells #[.bool b.i, .int .i64 b.a, .int .u8 b.k, .int .u8 b.s, .int .u32 b.q, .int .u32 b.v] 42)).heap.size ((w.alloc (.cells #[.bool a.i, .int .i64 a.a, .int .u8 a.k, .int .u8 a.s, .int .u32 a.q, .int .u32 a.v] 42)).alloc (.cells #[.bool b.i, .int .i64 b.a, .int .u8 b.k, .int .u8 b.s, .int .u32 b.q, .int .u32 b.v] 42)) ((w.alloc (.cells #[.bool a.i, .int .i64 a.a, .int .u8 a.k, .int .u8 a.s, .int .u32 a.q, .int .u32 a.v] 42)).alloc (.cells #[.bool b.i, .int .i64 b.a, .int .u8 b.k, .int .u8 b.s, .int .u32 b.q, .int .u32 b.v] 42)).drew) := Lib.hid (Below.refl _ _).drew
  have HY2 : Hid (Below ((w.alloc (.cells #[.bool a.i, .int .i64 a.a, .int .u8 a.k, .int .u8 a.s, .int .u32 a.q, .int .u32 a.v] 42)).alloc (.cells #[.bool b.i, .int .i64 b.a, .int .u8 b.k, .int .u8 b.s, .int .u32 b.q, .int .u32 b.v] 42)).heap.size ((w.alloc (.cells #[.bool a.i, .int .i64 a.a, .int .u8 a.k, .int .u8 a.s, .int .u32 a.q, .int .u32 a.v] 42)).alloc (.cells #[.bool b.i, .int .i64 b.a, .int .u8 b.k, .int .u8 b.s, .int .u32 b.q, .int .u32 b.v] 42)) (((w.alloc (.cells #[.bool a.i, .int .i64 a.a, .int .u8 a.k, .int .u8 a.s, .int .u32 a.q, .int .u32 a.v] 42)).alloc (.cells #[.bool b.i, .int .i64 b.a, .int .u8 b.k, .int .u8 b.s, .int .u32 b.q, .int .u32 b.v] 42)).alloc (.cells #[.int .u8 0, .int .i64 0, .int .i64 0, .int .i64 0] 73)).drew) := Lib.hid (below_al (Below.refl _ _) _).drew
  have HWA : Hid (Blk (((w.alloc (.cells #[.bool a.i, .int .i64 a.a, .int .u8 a.k, .int .u8 a.s, .int .u32 a.q, .int .u32 a.v] 42)).alloc (.cells #[.bool b.i, .int .i64 b.a, .int .u8 b.k, .int .u8 b.s, .int .u32 b.q, .int .u32 b.v] 42)).alloc (.cells #[.int .u8 0, .int .i64 0, .int .i64 0, .int .i64 0] 73)).drew (w.heap.size + 1 + 1) 73 #[.int .u8 0, .int .i64 0, .int .i64 0, .int .i64 0]) := Lib.hid (show Blk (((w.alloc (.cells #[.bool a.i, .int .i64 a.a, .int .u8 a.k, .int .u8 a.s, .int .u32 a.q, .int .u32 a.v] 42)).alloc (.cells #[.bool b.i, .int .i64 b.a, .int .u8 b.k, .int .u8 b.s, .int .u32 b.q, .int .u32 b.v] 42)).alloc (.cells #[.int .u8 0, .int .i64 0, .int .i64 0, .int .i64 0] 73)) (w.heap.size + 1 + 1) 73 #[.int .u8 0, .int .i64 0, .int .i64 0, .int .i64 0] from Blk.newIn (by simp))
  have n19 := (hF.on HY2.out).node
  have nl2 := (hF.on HY2.out).lt
  clear h hb0 hF hA hBb hX hw
  go_enter Tryz.func25, Tryz.ntmps25
  go_upto_region 1 with fail
  go_region_law (go_simp; go_at_call 24; first
    | ((with_reducible refine (HOF.out _ HY1.out).mono ?_); rintro e w1 ⟨rfl, b1⟩; have hb1 := below_then HY1.out b1)
    | ((with_reducible refine (HOF.out _ HY2.out).mono ?_); rintro e w1 ⟨rfl, b1⟩; have hb1 := below_then HY2.out b1; have hW1 := HWA.out.on b1; have y0 := hW1.cell 0; have y1 := hW1.cell 1; have y2 := hW1.cell 2; have y3 := hW1.cell 3; have yl := hW1.lt; have yf := hW1.frozen; simp only [List.getElem?_toArray, List.getElem?_cons_zero, List.getElem?_cons_succ] at y0 y1 y2 y3))
  all_goals
    first
      | (have hWX := (((hW1.set_ 0 (.int .u8 X.r)).set_ 1 (.int .i64 X.p)).set_ 2 (.int .i64 X.b)).set_ 3 (.int .i64 X.e); have hU : Below ((w.alloc (.cells #[.bool a.i, .int .i64 a.a, .int .u8 a.k, .int .u8 a.s, .int .u32 a.q, .int .u32 a.v] 42)).alloc (.cells #[.bool b.i, .int .i64 b.a, .int .u8 b.k, .int .u8 b.s, .int .u32 b.q, .int .u32 b.v] 42)).heap.size ((w.alloc (.cells #[.bool a.i, .int .i64 a.a, .int .u8 a.k, .int .u8 a.s, .int .u32 a.q, .int .u32 a.v] 42)).alloc (.cells #[.bool b.i, .int .i64 b.a, .int .u8 b.k, .int .u8 b.s, .int .u32 b.q, .int .u32 b.v] 42)) ((((w1.setCell ⟨w.heap.size + 1 + 1, 0, none⟩ (.int .u8 X.r)).setCell ⟨w.heap.size + 1 + 1, 1, none⟩ (.int .i64 X.p)).setCell ⟨w.heap.size + 1 + 1, 2, none⟩ (.int .i64 X.b)).setCell ⟨w.heap.size + 1 + 1, 3, none⟩ (.int .i64 X.e)) := below_four hb1 (by simp) _ _ _ _)
      | (have hWX := Blk.new w1 73 #[.int .u8 X.r, .int .i64 X.p, .int .i64 X.b, .int .i64 X.e]; have hU := below_al hb1 (.cells #[.int .u8 X.r, .int .i64 X.p, .int .i64 X.b, .int .i64 X.e] 73))
    have v0 := (hWX.cell 0).trans rfl
    have vl := hWX.lt
    have hA2 := HA.out.on hU
    have hB2 := HBB.out.on hU
    obtain ⟨c0, c1, c2, c3, c4, c5, cl⟩ := hA2.sd
    obtain ⟨d0, d1, d2, d3, d4, d5, dl⟩ := hB2.sd
    have HF2 := Lib.hid (HFN.out.on hU)
    have HL2 := Lib.hid (HWL.out.on hU)
    have HBU := Lib.hid (below_then HB0.out hU)
    clear hWX hU hA2 hB2
    go_wp2_with (go_at_call 54; (with_reducible refine (HH.out _ HF2.out HL2.out).mono ?_); rintro e w5 ⟨V, E', rfl, hR, b5⟩)
    go_ret2
    exact ⟨V, E', rfl, hR, below_then HBU.out b5⟩
set_option maxRecDepth 100000 in
set_option maxHeartbeats 4000000 in
theorem partOf_oth (f B : Nat) (N : Int) (P : List Int) (x : Int) (s : PSt) (o : Int) (a b : Sd) (X : Wn) (hX : ofW N P 0 o x = X) (w : World) (h : FlowN w f B N P x s) (hw : Laid2 w) (hE : ofWE N P 0 o x = 0) (hr : (X.r == 1) = false) (R : Value → Int → World → Prop) (HH : ∀ u, FlowN u f B N P x s → Laid2 u → Calls Tryz.prog 55 #[.pointer (some ⟨f, 0, none⟩), .int .i64 o] u fun e w' => ∃ V E', e = .returned (.tuple #[V, .int .i64 E']) ∧ R V E' w' ∧ Below u.heap.size u w') :
    Calls Tryz.prog 25 #[.pointer (some ⟨f, 0, none⟩), .int .i64 o, .agg #[.bool a.i, .int .i64 a.a, .int .u8 a.k, .int .u8 a.s, .int .u32 a.q, .int .u32 a.v], .agg #[.bool b.i, .int .i64 b.a, .int .u8 b.k, .int .u8 b.s, .int .u32 b.q, .int .u32 b.v]] w fun e w' => ∃ V E', e = .returned (.tuple #[V, .int .i64 E']) ∧ R V E' w' ∧ Below w.heap.size w w' := by
  have hb0 := below_al (below_al (Below.refl w.heap.size w) (.cells #[.bool a.i, .int .i64 a.a, .int .u8 a.k, .int .u8 a.s, .int .u32 a.q, .int .u32 a.v] 42)) (.cells #[.bool b.i, .int .i64 b.a, .int .u8 b.k, .int .u8 b.s, .int .u32 b.q, .int .u32 b.v] 42)
  have hA : Blk ((w.alloc (.cells #[.bool a.i, .int .i64 a.a, .int .u8 a.k, .int .u8 a.s, .int .u32 a.q, .int .u32 a.v] 42)).alloc (.cells #[.bool b.i, .int .i64 b.a, .int .u8 b.k, .int .u8 b.s, .int .u32 b.q, .int .u32 b.v] 42)) w.heap.size 42 #[.bool a.i, .int .i64 a.a, .int .u8 a.k, .int .u8 a.s, .int .u32 a.q, .int .u32 a.v] := Blk.alloc (Blk.new w _ _) _
  have hBb : Blk ((w.alloc (.cells #[.bool a.i, .int .i64 a.a, .int .u8 a.k, .int .u8 a.s, .int .u32 a.q, .int .u32 a.v] 42)).alloc (.cells #[.bool b.i, .int .i64 b.a, .int .u8 b.k, .int .u8 b.s, .int .u32 b.q, .int .u32 b.v] 42)) (w.heap.size + 1) 42 #[.bool b.i, .int .i64 b.a, .int .u8 b.k, .int .u8 b.s, .int .u32 b.q, .int .u32 b.v] := Blk.newIn (by simp)
  have hF := h.on hb0
  have n18 := hF.node
  have nl := hF.lt
  have HB0 := Lib.hid hb0
  have HA := Lib.hid hA
  have HBB := Lib.hid hBb
  have HFN := Lib.hid hF
  have HWL := Lib.hid (hw.on hb0)
  have HH := Lib.hid HH
  have HOF := Lib.hid (show ∀ u, Below ((w.alloc (.cells #[.bool a.i, .int .i64 a.a, .int .u8 a.k, .int .u8 a.s, .int .u32 a.q, .int .u32 a.v] 42)).alloc (.cells #[.bool b.i, .int .i64 b.a, .int .u8 b.k, .int .u8 b.s, .int .u32 b.q, .int .u32 b.v] 42)).heap.size ((w.alloc (.cells #[.bool a.i, .int .i64 a.a, .int .u8 a.k, .int .u8 a.s, .int .u32 a.q, .int .u32 a.v] 42)).alloc (.cells #[.bool b.i, .int .i64 b.a, .int .u8 b.k, .int .u8 b.s, .int .u32 b.q, .int .u32 b.v] 42)) u → Calls Tryz.prog 24 #[.pointer (some ⟨f, 0, none⟩), .int .u8 0, .int .i64 o, .int .i64 x] u fun e w' => e = .returned (.tuple #[.agg #[.int .u8 X.r, .int .i64 X.p, .int .i64 X.b, .int .i64 X.e], .int .i64 0]) ∧ Below u.heap.size u w' from fun u hu => winOf_is _ N P 0 o x X hX 0 hE u (hF.on hu).net ((hw.on hb0).on hu) (by decide) (by decide))
  have HY1 : Hid (Below ((w.alloc (.cells #[.bool a.i, .int .i64 a.a, .int .u8 a.k, .int .u8 a.s, .int .u32 a.q, .int .u32 a.v] 42)).alloc (.cells #[.bool b.i, .int .i64 b.a, .int .u8 b.k, .int .u8 b.s, .int .u32 b.q, .int .u32 b.v] 42)).heap.size ((w.alloc (.cells #[.bool a.i, .int .i64 a.a, .int .u8 a.k, .int .u8 a.s, .int .u32 a.q, .int .u32 a.v] 42)).alloc (.cells #[.bool b.i, .int .i64 b.a, .int .u8 b.k, .int .u8 b.s, .int .u32 b.q, .int .u32 b.v] 42)) ((w.alloc (.cells #[.bool a.i, .int .i64 a.a, .int .u8 a.k, .int .u8 a.s, .int .u32 a.q, .int .u32 a.v] 42)).alloc (.cells #[.bool b.i, .int .i64 b.a, .int .u8 b.k, .int .u8 b.s, .int .u32 b.q, .int .u32 b.v] 42)).drew) := Lib.hid (Below.refl _ _).drew
  have HY2 : Hid (Below ((w.alloc (.cells #[.bool a.i, .int .i64 a.a, .int .u8 a.k, .int .u8 a.s, .int .u32 a.q, .int .u32 a.v] 42)).alloc (.cells #[.bool b.i, .int .i64 b.a, .int .u8 b.k, .int .u8 b.s, .int .u32 b.q, .int .u32 b.v] 42)).heap.size ((w.alloc (.cells #[.bool a.i, .int .i64 a.a, .int .u8 a.k, .int .u8 a.s, .int .u32 a.q, .int .u32 a.v] 42)).alloc (.cells #[.bool b.i, .int .i64 b.a, .int .u8 b.k, .int .u8 b.s, .int .u32 b.q, .int .u32 b.v] 42)) (((w.alloc (.cells #[.bool a.i, .int .i64 a.a, .int .u8 a.k, .int .u8 a.s, .int .u32 a.q, .int .u32 a.v] 42)).alloc (.cells #[.bool b.i, .int .i64 b.a, .int .u8 b.k, .int .u8 b.s, .int .u32 b.q, .int .u32 b.v] 42)).alloc (.cells #[.int .u8 0, .int .i64 0, .int .i64 0, .int .i64 0] 73)).drew) := Lib.hid (below_al (Below.refl _ _) _).drew
  have HWA : Hid (Blk (((w.alloc (.cells #[.bool a.i, .int .i64 a.a, .int .u8 a.k, .int .u8 a.s, .int .u32 a.q, .int .u32 a.v] 42)).alloc (.cells #[.bool b.i, .int .i64 b.a, .int .u8 b.k, .int .u8 b.s, .int .u32 b.q, .int .u32 b.v] 42)).alloc (.cells #[.int .u8 0, .int .i64 0, .int .i64 0, .int .i64 0] 73)).drew (w.heap.size + 1 + 1) 73 #[.int .u8 0, .int .i64 0, .int .i64 0, .int .i64 0]) := Lib.hid (show Blk (((w.alloc (.cells #[.bool a.i, .int .i64 a.a, .int .u8 a.k, .int .u8 a.s, .int .u32 a.q, .int .u32 a.v] 42)).alloc (.cells #[.bool b.i, .int .i64 b.a, .int .u8 b.k, .int .u8 b.s, .int .u32 b.q, .int .u32 b.v] 42)).alloc (.cells #[.int .u8 0, .int .i64 0, .int .i64 0, .int .i64 0] 73)) (w.heap.size + 1 + 1) 73 #[.int .u8 0, .int .i64 0, .int .i64 0, .int .i64 0] from Blk.newIn (by simp))
  have n19 := (hF.on HY2.out).node
  have nl2 := (hF.on HY2.out).lt
  clear h hb0 hF hA hBb hX hw
  go_enter Tryz.func25, Tryz.ntmps25
  go_upto_region 1 with fail
  go_region_law (go_simp; go_at_call 24; first
    | ((with_reducible refine (HOF.out _ HY1.out).mono ?_); rintro e w1 ⟨rfl, b1⟩; have hb1 := below_then HY1.out b1)
    | ((with_reducible refine (HOF.out _ HY2.out).mono ?_); rintro e w1 ⟨rfl, b1⟩; have hb1 := below_then HY2.out b1; have hW1 := HWA.out.on b1; have y0 := hW1.cell 0; have y1 := hW1.cell 1; have y2 := hW1.cell 2; have y3 := hW1.cell 3; have yl := hW1.lt; have yf := hW1.frozen; simp only [List.getElem?_toArray, List.getElem?_cons_zero, List.getElem?_cons_succ] at y0 y1 y2 y3))
  all_goals
    first
      | (have hWX := (((hW1.set_ 0 (.int .u8 X.r)).set_ 1 (.int .i64 X.p)).set_ 2 (.int .i64 X.b)).set_ 3 (.int .i64 X.e); have hU : Below ((w.alloc (.cells #[.bool a.i, .int .i64 a.a, .int .u8 a.k, .int .u8 a.s, .int .u32 a.q, .int .u32 a.v] 42)).alloc (.cells #[.bool b.i, .int .i64 b.a, .int .u8 b.k, .int .u8 b.s, .int .u32 b.q, .int .u32 b.v] 42)).heap.size ((w.alloc (.cells #[.bool a.i, .int .i64 a.a, .int .u8 a.k, .int .u8 a.s, .int .u32 a.q, .int .u32 a.v] 42)).alloc (.cells #[.bool b.i, .int .i64 b.a, .int .u8 b.k, .int .u8 b.s, .int .u32 b.q, .int .u32 b.v] 42)) ((((w1.setCell ⟨w.heap.size + 1 + 1, 0, none⟩ (.int .u8 X.r)).setCell ⟨w.heap.size + 1 + 1, 1, none⟩ (.int .i64 X.p)).setCell ⟨w.heap.size + 1 + 1, 2, none⟩ (.int .i64 X.b)).setCell ⟨w.heap.size + 1 + 1, 3, none⟩ (.int .i64 X.e)) := below_four hb1 (by simp) _ _ _ _)
      | (have hWX := Blk.new w1 73 #[.int .u8 X.r, .int .i64 X.p, .int .i64 X.b, .int .i64 X.e]; have hU := below_al hb1 (.cells #[.int .u8 X.r, .int .i64 X.p, .int .i64 X.b, .int .i64 X.e] 73))
    have v0 := (hWX.cell 0).trans rfl
    have vl := hWX.lt
    have hA2 := HA.out.on hU
    have hB2 := HBB.out.on hU
    obtain ⟨c0, c1, c2, c3, c4, c5, cl⟩ := hA2.sd
    obtain ⟨d0, d1, d2, d3, d4, d5, dl⟩ := hB2.sd
    have HF2 := Lib.hid (HFN.out.on hU)
    have HL2 := Lib.hid (HWL.out.on hU)
    have HBU := Lib.hid (below_then HB0.out hU)
    clear hWX hU hA2 hB2
    go_wp2_with (go_at_call 55; (with_reducible refine (HH.out _ HF2.out HL2.out).mono ?_); rintro e w5 ⟨V, E', rfl, hR, b5⟩)
    go_ret2
    exact ⟨V, E', rfl, hR, below_then HBU.out b5⟩
end Go.Proofs.YtkejpkcaojidaaaGreatDoor

namespace Go.Proofs.YtkejpkcaojidaaaGreatDoor
set_option linter.unusedVariables false
set_option linter.unusedSimpArgs false
open Go.RowKit Rg
set_option linter.unusedVariables false

/-- A way's cells. -/
def wayL (X : Wn) (A : List Value) : List Value := [.int .u8 X.r, .int .i64 X.p, .int .i64 X.b, .int .i64 X.e] ++ A
def wayZ : List Value := wayL ⟨0, 0, 0, 0⟩ catN
theorem wayL_len {X : Wn} {A : List Value} (h : A.length = 123) : (wayL X A).length = 127 := by rw [wayL, List.length_append, h]; rfl
theorem wayL_one {X : Wn} {A : List Value} (h : CatC A) : ∀ v ∈ wayL X A, v.oneCell' = true := List.forall_mem_append.2 ⟨by simp [Value.oneCell'], h.one⟩
theorem zero_oth : Tryz.zeroCells165 = (wayZ ++ wayZ).toArray := by kernel_rfl
theorem catZ_c (o : Int) : CatC (catZ (firstV o)) := by
  rw [← catS_zero (fun _ => 0) (fun _ => 0) o]
  exact catC_of _ _ o 0
set_option maxRecDepth 100000 in
theorem built_way (X : Wn) (o : Int) : (Tryz.prog).built 163 [(0, .agg #[.int .u8 X.r, .int .i64 X.p, .int .i64 X.b, .int .i64 X.e]), (1, .agg (catZ (firstV o)).toArray)] = some (wayL X (catZ (firstV o))).toArray := by kernel_rfl
theorem caNewE (o : Int) (h0 : 0 ≤ o) (h1 : o < 8) (w : World) : Calls Tryz.prog 96 #[.int .i64 o] w fun e w' => ∃ gc, e = .returned (.tuple #[.pointer (some ⟨gc, 0, none⟩), .int .i64 0]) ∧ w.heap.size ≤ gc ∧ Blk w' gc 116 (catZ (firstV o)).toArray ∧ Below w.heap.size w w' :=
  (caNew_yes o w h0 h1).mono fun e w' ⟨q1, q2, q3⟩ => ⟨_, q1, Nat.le_refl _, q2, q3⟩
def OthJ (g : Nat) (Pr Su : List Value) (u : World) : Prop := ∃ L : List Value, L.length = 127 ∧ Blk u g 165 (Pr ++ (L ++ Su)).toArray
def OthD (g : Nat) (Pr W Su : List Value) (u : World) : Prop := Blk u g 165 (Pr ++ (W ++ Su)).toArray
theorem wayZ_len : wayZ.length = 127 := wayL_len catN_len
set_option maxRecDepth 100000 in
set_option maxHeartbeats 4000000 in
theorem otherOf_is (f B : Nat) (N : Int) (P : List Int) (x : Int) (s : PSt) (o : Int) (h0 : 0 ≤ o) (h1 : o < 8) (X Y : Wn) (hX : ofW N P 0 o x = X) (hY : ofW N P 1 o x = Y) (hE0 : ofWE N P 0 o x = 0) (hE1 : ofWE N P 1 o x = 0) (w : World) (h : FlowN w f B N P x s) (hw : Laid2 w) :
    Calls Tryz.prog 55 #[.pointer (some ⟨f, 0, none⟩), .int .i64 o] w fun e w' => e = .returned (.tuple #[(PSt.oth X Y (catZ (firstV o)) (catZ (firstV o))).val, .int .i64 0]) ∧ Below w.heap.size w w' := by
  have HX := Lib.hid hX
  have HY := Lib.hid hY
  have HE0 := Lib.hid hE0
  have HE1 := Lib.hid hE1
  have HFN := Lib.hid h
  have HWL := Lib.hid hw
  have HNEW := Lib.hid (caNewE o h0 h1)
  have HVAL := Lib.hid (show (PSt.oth X Y (catZ (firstV o)) (catZ (firstV o))).val = .iface 165 (.agg (wayL X (catZ (firstV o)) ++ wayL Y (catZ (firstV o))).toArray) by simp [PSt.val, othL, wayL])
  have HWXB := Lib.hid (built_way X o)
  have HWYB := Lib.hid (built_way Y o)
  have hc := catZ_c o
  obtain ⟨C, hC⟩ : ∃ C, C = catZ (firstV o) := ⟨_, rfl⟩
  rw [← hC] at HNEW HVAL HWXB HWYB hc
  have HCL := Lib.hid hc.len
  have HWXL := Lib.hid (wayL_len (X := X) hc.len)
  have HWYL := Lib.hid (wayL_len (X := Y) hc.len)
  have HWXO := Lib.hid (wayL_one (X := X) hc)
  have HWYO := Lib.hid (wayL_one (X := Y) hc)
  obtain ⟨WX, hWX⟩ : ∃ W, W = wayL X C := ⟨_, rfl⟩
  obtain ⟨WY, hWY⟩ : ∃ W, W = wayL Y C := ⟨_, rfl⟩
  rw [← hWX] at HWXB HWXL HWXO
  rw [← hWY] at HWYB HWYL HWYO
  rw [← hWX, ← hWY] at HVAL
  have HOZ : Hid (Blk (w.alloc (.cells Tryz.zeroCells165 165)) w.heap.size 165 (wayZ ++ wayZ).toArray) := Lib.hid (by rw [← zero_oth]; exact Blk.new _ _ _)
  have HBZ := Lib.hid (below_al (Below.refl w.heap.size w) (.cells Tryz.zeroCells165 165))
  rw [← hC]
  clear hX hY hE0 hE1 h hw hc hC hWX hWY h0 h1
  go_enter Tryz.func55, Tryz.ntmps55
  go_wp2_with fail
  obtain ⟨U, hU⟩ : ∃ U, U = w.alloc (.cells Tryz.zeroCells165 165) := ⟨_, rfl⟩
  rw [← hU] at HOZ HBZ ⊢
  clear hU
  obtain ⟨g, hg⟩ : ∃ g, g = w.heap.size := ⟨_, rfl⟩
  have HG := Lib.hid hg
  rw [← hg] at HOZ ⊢
  clear hg
  go_loopw [11] (fun s wr => ∃ k : Nat, k ≤ 2 ∧ s = .int .i64 (k : Int) ∧ Hid (Blk wr g 165 ((if 0 < k then WX else wayZ) ++ (if 1 < k then WY else wayZ)).toArray) ∧ Hid (Below w.heap.size w wr)) (fun s _ => 2 - (intOf s).toNat)
  case atStart => exact ⟨0, by omega, rfl, HOZ, HBZ⟩
  case round =>
    clear HOZ HBZ
    obtain ⟨k, hk, rfl, HO, HBW⟩ := hrel
    rcases (show k = 0 ∨ k = 1 ∨ k = 2 by omega) with rfl | rfl | rfl
    · have hO : Blk wr g 165 (wayZ ++ wayZ).toArray := HO.out
      have HFR := Lib.hid (HFN.out.on HBW.out)
      have HLR := Lib.hid (HWL.out.on HBW.out)
      have HY1 : Hid (Below wr.heap.size wr wr.drew) := Lib.hid (Below.refl _ _).drew
      have HY2 : Hid (Below wr.heap.size wr (wr.alloc (.cells #[.int .u8 0, .int .i64 0, .int .i64 0, .int .i64 0] 73)).drew) := Lib.hid (below_al (Below.refl _ _) _).drew
      have HWA : Hid (Blk (wr.alloc (.cells #[.int .u8 0, .int .i64 0, .int .i64 0, .int .i64 0] 73)).drew wr.heap.size 73 #[.int .u8 0, .int .i64 0, .int .i64 0, .int .i64 0]) := Lib.hid (Blk.new wr 73 #[.int .u8 0, .int .i64 0, .int .i64 0, .int .i64 0])
      have HOF := Lib.hid (show ∀ u, Below wr.heap.size wr u → Calls Tryz.prog 24 #[.pointer (some ⟨f, 0, none⟩), .int .u8 0, .int .i64 o, .int .i64 x] u fun e w' => e = .returned (.tuple #[.agg #[.int .u8 X.r, .int .i64 X.p, .int .i64 X.b, .int .i64 X.e], .int .i64 0]) ∧ Below u.heap.size u w' from fun u hu => winOf_is _ N P 0 o x X HX.out 0 HE0.out u (HFR.out.on hu).net (HLR.out.on hu) (by decide) (by decide))
      have n18 := HFR.out.node
      have nl := HFR.out.lt
      have n19 := (HFR.out.on HY2.out).node
      have nl2 := (HFR.out.on HY2.out).lt
      have HOK := Lib.hid hO
      have HGN := Lib.hid (Blk.lt hO)
      clear HO hO
      have hw8 : IntKind.u8.wrap 0 = 0 := by decide
      go_upto_region 5 with fail
      go_region_law (go_simp; go_at_call 24; first
        | ((with_reducible refine (HOF.out _ HY1.out).mono ?_); rintro e w1 ⟨rfl, b1⟩; have hb1 := below_then HY1.out b1)
        | ((with_reducible refine (HOF.out _ HY2.out).mono ?_); rintro e w1 ⟨rfl, b1⟩; have hb1 := below_then HY2.out b1; have hW1 := HWA.out.on b1; have y0 := hW1.cell 0; have y1 := hW1.cell 1; have y2 := hW1.cell 2; have y3 := hW1.cell 3; have yl := hW1.lt; have yf := hW1.frozen; simp only [List.getElem?_toArray, List.getElem?_cons_zero, List.getElem?_cons_succ] at y0 y1 y2 y3))
      all_goals
        first
          | (have HWX := Lib.hid (show Blk ((((w1.setCell ⟨wr.heap.size, 0, none⟩ (.int .u8 X.r)).setCell ⟨wr.heap.size, 1, none⟩ (.int .i64 X.p)).setCell ⟨wr.heap.size, 2, none⟩ (.int .i64 X.b)).setCell ⟨wr.heap.size, 3, none⟩ (.int .i64 X.e)) wr.heap.size 73 [.int .u8 X.r, .int .i64 X.p, .int .i64 X.b, .int .i64 X.e].toArray from (((hW1.set_ 0 (.int .u8 X.r)).set_ 1 (.int .i64 X.p)).set_ 2 (.int .i64 X.b)).set_ 3 (.int .i64 X.e)); have hU : Below wr.heap.size wr ((((w1.setCell ⟨wr.heap.size, 0, none⟩ (.int .u8 X.r)).setCell ⟨wr.heap.size, 1, none⟩ (.int .i64 X.p)).setCell ⟨wr.heap.size, 2, none⟩ (.int .i64 X.b)).setCell ⟨wr.heap.size, 3, none⟩ (.int .i64 X.e)) := below_four hb1 (Nat.le_refl _) _ _ _ _; have HNW := Lib.hid (show wr.heap.size ∉ [g] by have := HGN.out; simp; omega))
          | (have HWX := Lib.hid (show Blk (w1.alloc (.cells #[.int .u8 X.r, .int .i64 X.p, .int .i64 X.b, .int .i64 X.e] 73)) w1.heap.size 73 [.int .u8 X.r, .int .i64 X.p, .int .i64 X.b, .int .i64 X.e].toArray from Blk.new w1 73 #[.int .u8 X.r, .int .i64 X.p, .int .i64 X.b, .int .i64 X.e]); have hU := below_al hb1 (.cells #[.int .u8 X.r, .int .i64 X.p, .int .i64 X.b, .int .i64 X.e] 73); have HNW := Lib.hid (show w1.heap.size ∉ [g] by have := HGN.out; have := hb1.size; simp; omega))
        have HOU := Lib.hid (HOK.out.on hU)
        have HBU := Lib.hid (below_then HBW.out hU)
        clear hU
        try clear hW1 y0 y1 y2 y3 yl yf
        clear n18 nl n19 nl2 b1 hb1
        go_upto_region 11 with (go_at_call 96; (with_reducible refine (HNEW.out _).mono ?_); rintro e w5 ⟨gc, rfl, hgc, hC, b5⟩; have HWX5 := Lib.hid (HWX.out.on b5); have hO5 := HOU.out.on b5; have HB5 := Lib.hid (below_then HBU.out b5); have HNC := Lib.hid (show gc ∉ [g] by have := Blk.lt HOU.out; simp; omega); have HCB := Lib.hid hC; clear hC)
        have HOJ : Hid (OthJ g [] wayZ w5) := Lib.hid ⟨wayZ, wayZ_len, by simpa using hO5⟩
        have HJ := Lib.hid (show ∀ J ∈ [OthJ g [] wayZ, OthD g [] WX wayZ], ∀ u u', Below u.heap.size u u' → J u → J u' by simp only [List.forall_mem_cons]; exact ⟨fun u u' hb ⟨L, h1, h2⟩ => ⟨L, h1, h2.on hb⟩, fun u u' hb hj => Blk.on hj hb, fun _ h => by cases h⟩)
        clear hO5 b5
        refine Reg.wp_slots2 (fun t => decide (39 ≤ t) && decide (t ≤ 45)) (Reg.KJ w.heap.size [g] [OthJ g [] wayZ, OthD g [] WX wayZ]) (Reg.KJ.drew _ HJ.out) Reg.KJ.trans (by kernel_rfl) (by kernel_rfl) (by kernel_rfl) (fun zz => (Reg.tblK [
          (39, .is (.int .i64 0)),
          (40, .is (.agg #[.int .u8 X.r, .int .i64 X.p, .int .i64 X.b, .int .i64 X.e])),
          (41, .is (.pointer (some ⟨gc, 0, none⟩))),
          (42, .is (.pointer (some ⟨gc, 0, none⟩))),
          (43, .is (.agg C.toArray)),
          (44, .is (.agg WX.toArray)),
          (45, .is (.pointer (some ⟨g, 0, none⟩)))] zz).P) (fun zz => (Reg.tblK _ zz).on) (fun zz => (Reg.memK [(7, .j (OthD g [] WX wayZ) (by simp))] zz).P) (fun zz => (Reg.memK _ zz).on) ?_ ?_
        · simp only [Reg.frame, Reg.over, Nat.reduceAdd, Nat.reduceLeDiff, decide_true, decide_false, if_true, Bool.false_eq_true, if_false, Bool.and_true, Bool.and_false]
          refine ⟨?_, ?_, ?_, ?_, ?_, ?_, ?_, ?_, trivial⟩
          · intro x u hku hd
            refine wpOp_step rfl fun KK hK => ?_
            go_simp
            exact hK _ _ ⟨_, rfl, Reg.KJ.refl _, fun d hd => by cases hd; exact rfl, fun h => by cases h⟩
          · intro x u hku hd
            refine wpOp_step rfl fun KK hK => ?_
            refine Reg.step_load_row (by rfl) 73 (.tmp 8) (by rfl) _ (by rfl) [.int .u8 X.r, .int .i64 X.p, .int .i64 X.b, .int .i64 X.e] 73 (hku.blk HNW.out HWX5.out) _ Tryz.underlying73 rfl (by kernel_rfl) ?_
            exact hK _ _ ⟨_, rfl, Reg.KJ.refl _, fun d hd => by cases hd; exact rfl, fun h => by cases h⟩
          · intro x u hku hd
            refine wpOp_step rfl fun KK hK => ?_
            go_simp
            exact hK _ _ ⟨_, rfl, Reg.KJ.refl _, fun d hd => by cases hd; exact rfl, fun h => by cases h⟩
          · intro x u hku hd
            have h41 : x 41 = .pointer (some ⟨gc, 0, none⟩) := hd 2 (by decide)
            refine wpOp_step rfl fun KK hK => ?_
            simp only [h41] at hK ⊢
            go_simp
            exact hK _ _ ⟨_, rfl, Reg.KJ.refl _, fun d hd => by cases hd; exact rfl, fun h => by cases h⟩
          · intro x u hku hd
            have h42 : x 42 = .pointer (some ⟨gc, 0, none⟩) := hd 3 (by decide)
            refine wpOp_step rfl fun KK hK => ?_
            refine Reg.step_load_row (by rfl) 116 (.tmp 42) (by rfl) gc (by exact h42) C 116 (hku.blk HNC.out HCB.out) _ Tryz.underlying116 rfl (by rw [size_cat, HCL.out]) ?_
            exact hK _ _ ⟨_, rfl, Reg.KJ.refl _, fun d hd => by cases hd; exact rfl, fun h => by cases h⟩
          · intro x u hku hd
            have h40 : x 40 = .agg #[.int .u8 X.r, .int .i64 X.p, .int .i64 X.b, .int .i64 X.e] := hd 1 (by decide)
            have h43 : x 43 = .agg C.toArray := hd 4 (by decide)
            refine wpOp_step rfl fun KK hK => ?_
            refine Reg.step_build (by rfl) 163 _ (by rfl) WX.toArray (by simpa [Act.eval, h40, h43] using HWXB.out) ?_
            exact hK _ _ ⟨_, rfl, Reg.KJ.refl _, fun d hd => by cases hd; exact rfl, fun h => by cases h⟩
          · intro x u hku hd
            have h39 : x 39 = .int .i64 0 := hd 0 (by decide)
            refine wpOp_step rfl fun KK hK => ?_
            simp only [h39] at hK ⊢
            go_simp
            exact hK _ _ ⟨_, rfl, Reg.KJ.refl _, fun d hd => by cases hd; exact rfl, fun h => by cases h⟩
          · intro x u hku hd
            have h45 : x 45 = .pointer (some ⟨g, 0, none⟩) := hd 6 (by decide)
            have h44 : x 44 = .agg WX.toArray := hd 5 (by decide)
            refine wpOp_step rfl fun KK hK => ?_
            obtain ⟨L, hL, hLB⟩ := hku.j (OthJ g [] wayZ) (by simp) HOJ.out
            obtain ⟨q1, q2⟩ := setCells_heap WX L [] wayZ 0 g 165 u hLB (by rw [HWXL.out, hL]) rfl
            refine Reg.step_store_mid (by rfl) 163 (.tmp 45) (.tmp 44) (by rfl) g 0 WX L [] wayZ 165 (by exact h45) (by exact h44) hLB (by rw [HWXL.out, hL]) rfl (by rw [size_way, HWXL.out]) HWXO.out ?_
            exact hK _ _ ⟨_, rfl, Reg.KJ.but q2 (Nat.le_of_eq HG.out.symm) (by simp only [List.forall_mem_cons]; exact ⟨fun _ => ⟨WX, HWXL.out, q1⟩, fun _ => q1, fun _ h => by cases h⟩), fun d hd => (by cases hd), fun _ => q1⟩
        · intro xx u hku hd
          have hfin : OthD g [] WX wayZ u := hd 7 (by decide)
          simp only [Reg.frame, Reg.over, Nat.reduceAdd, Nat.reduceBEq, Nat.reduceLeDiff, decide_true, decide_false, Bool.and_true, Bool.and_false, if_true, Bool.false_eq_true, if_false]
          go_wp2_with fail
          go_roundw
          case rel => exact ⟨1, by omega, rfl, Lib.hid (by unfold OthD at hfin; simpa using hfin), Lib.hid (HB5.out.trans hku.1)⟩
          case measure => simp [intOf]
    · have hO : Blk wr g 165 (WX ++ wayZ).toArray := HO.out
      have HFR := Lib.hid (HFN.out.on HBW.out)
      have HLR := Lib.hid (HWL.out.on HBW.out)
      have HY1 : Hid (Below wr.heap.size wr wr.drew) := Lib.hid (Below.refl _ _).drew
      have HY2 : Hid (Below wr.heap.size wr (wr.alloc (.cells #[.int .u8 0, .int .i64 0, .int .i64 0, .int .i64 0] 73)).drew) := Lib.hid (below_al (Below.refl _ _) _).drew
      have HWA : Hid (Blk (wr.alloc (.cells #[.int .u8 0, .int .i64 0, .int .i64 0, .int .i64 0] 73)).drew wr.heap.size 73 #[.int .u8 0, .int .i64 0, .int .i64 0, .int .i64 0]) := Lib.hid (Blk.new wr 73 #[.int .u8 0, .int .i64 0, .int .i64 0, .int .i64 0])
      have HOF := Lib.hid (show ∀ u, Below wr.heap.size wr u → Calls Tryz.prog 24 #[.pointer (some ⟨f, 0, none⟩), .int .u8 1, .int .i64 o, .int .i64 x] u fun e w' => e = .returned (.tuple #[.agg #[.int .u8 Y.r, .int .i64 Y.p, .int .i64 Y.b, .int .i64 Y.e], .int .i64 0]) ∧ Below u.heap.size u w' from fun u hu => winOf_is _ N P 1 o x Y HY.out 0 HE1.out u (HFR.out.on hu).net (HLR.out.on hu) (by decide) (by decide))
      have n18 := HFR.out.node
      have nl := HFR.out.lt
      have n19 := (HFR.out.on HY2.out).node
      have nl2 := (HFR.out.on HY2.out).lt
      have HOK := Lib.hid hO
      have HGN := Lib.hid (Blk.lt hO)
      clear HO hO
      have hw8 : IntKind.u8.wrap 1 = 1 := by decide
      go_upto_region 5 with fail
      go_region_law (go_simp; go_at_call 24; first
        | ((with_reducible refine (HOF.out _ HY1.out).mono ?_); rintro e w1 ⟨rfl, b1⟩; have hb1 := below_then HY1.out b1)
        | ((with_reducible refine (HOF.out _ HY2.out).mono ?_); rintro e w1 ⟨rfl, b1⟩; have hb1 := below_then HY2.out b1; have hW1 := HWA.out.on b1; have y0 := hW1.cell 0; have y1 := hW1.cell 1; have y2 := hW1.cell 2; have y3 := hW1.cell 3; have yl := hW1.lt; have yf := hW1.frozen; simp only [List.getElem?_toArray, List.getElem?_cons_zero, List.getElem?_cons_succ] at y0 y1 y2 y3))
      all_goals
        first
          | (have HWX := Lib.hid (show Blk ((((w1.setCell ⟨wr.heap.size, 0, none⟩ (.int .u8 Y.r)).setCell ⟨wr.heap.size, 1, none⟩ (.int .i64 Y.p)).setCell ⟨wr.heap.size, 2, none⟩ (.int .i64 Y.b)).setCell ⟨wr.heap.size, 3, none⟩ (.int .i64 Y.e)) wr.heap.size 73 [.int .u8 Y.r, .int .i64 Y.p, .int .i64 Y.b, .int .i64 Y.e].toArray from (((hW1.set_ 0 (.int .u8 Y.r)).set_ 1 (.int .i64 Y.p)).set_ 2 (.int .i64 Y.b)).set_ 3 (.int .i64 Y.e)); have hU : Below wr.heap.size wr ((((w1.setCell ⟨wr.heap.size, 0, none⟩ (.int .u8 Y.r)).setCell ⟨wr.heap.size, 1, none⟩ (.int .i64 Y.p)).setCell ⟨wr.heap.size, 2, none⟩ (.int .i64 Y.b)).setCell ⟨wr.heap.size, 3, none⟩ (.int .i64 Y.e)) := below_four hb1 (Nat.le_refl _) _ _ _ _; have HNW := Lib.hid (show wr.heap.size ∉ [g] by have := HGN.out; simp; omega))
          | (have HWX := Lib.hid (show Blk (w1.alloc (.cells #[.int .u8 Y.r, .int .i64 Y.p, .int .i64 Y.b, .int .i64 Y.e] 73)) w1.heap.size 73 [.int .u8 Y.r, .int .i64 Y.p, .int .i64 Y.b, .int .i64 Y.e].toArray from Blk.new w1 73 #[.int .u8 Y.r, .int .i64 Y.p, .int .i64 Y.b, .int .i64 Y.e]); have hU := below_al hb1 (.cells #[.int .u8 Y.r, .int .i64 Y.p, .int .i64 Y.b, .int .i64 Y.e] 73); have HNW := Lib.hid (show w1.heap.size ∉ [g] by have := HGN.out; have := hb1.size; simp; omega))
        have HOU := Lib.hid (HOK.out.on hU)
        have HBU := Lib.hid (below_then HBW.out hU)
        clear hU
        try clear hW1 y0 y1 y2 y3 yl yf
        clear n18 nl n19 nl2 b1 hb1
        go_upto_region 11 with (go_at_call 96; (with_reducible refine (HNEW.out _).mono ?_); rintro e w5 ⟨gc, rfl, hgc, hC, b5⟩; have HWX5 := Lib.hid (HWX.out.on b5); have hO5 := HOU.out.on b5; have HB5 := Lib.hid (below_then HBU.out b5); have HNC := Lib.hid (show gc ∉ [g] by have := Blk.lt HOU.out; simp; omega); have HCB := Lib.hid hC; clear hC)
        have HOJ : Hid (OthJ g WX [] w5) := Lib.hid ⟨wayZ, wayZ_len, by simpa using hO5⟩
        have HJ := Lib.hid (show ∀ J ∈ [OthJ g WX [], OthD g WX WY []], ∀ u u', Below u.heap.size u u' → J u → J u' by simp only [List.forall_mem_cons]; exact ⟨fun u u' hb ⟨L, h1, h2⟩ => ⟨L, h1, h2.on hb⟩, fun u u' hb hj => Blk.on hj hb, fun _ h => by cases h⟩)
        clear hO5 b5
        refine Reg.wp_slots2 (fun t => decide (39 ≤ t) && decide (t ≤ 45)) (Reg.KJ w.heap.size [g] [OthJ g WX [], OthD g WX WY []]) (Reg.KJ.drew _ HJ.out) Reg.KJ.trans (by kernel_rfl) (by kernel_rfl) (by kernel_rfl) (fun zz => (Reg.tblK [
          (39, .is (.int .i64 1)),
          (40, .is (.agg #[.int .u8 Y.r, .int .i64 Y.p, .int .i64 Y.b, .int .i64 Y.e])),
          (41, .is (.pointer (some ⟨gc, 0, none⟩))),
          (42, .is (.pointer (some ⟨gc, 0, none⟩))),
          (43, .is (.agg C.toArray)),
          (44, .is (.agg WY.toArray)),
          (45, .is (.pointer (some ⟨g, 127, none⟩)))] zz).P) (fun zz => (Reg.tblK _ zz).on) (fun zz => (Reg.memK [(7, .j (OthD g WX WY []) (by simp))] zz).P) (fun zz => (Reg.memK _ zz).on) ?_ ?_
        · simp only [Reg.frame, Reg.over, Nat.reduceAdd, Nat.reduceLeDiff, decide_true, decide_false, if_true, Bool.false_eq_true, if_false, Bool.and_true, Bool.and_false]
          refine ⟨?_, ?_, ?_, ?_, ?_, ?_, ?_, ?_, trivial⟩
          · intro x u hku hd
            refine wpOp_step rfl fun KK hK => ?_
            go_simp
            exact hK _ _ ⟨_, rfl, Reg.KJ.refl _, fun d hd => by cases hd; exact rfl, fun h => by cases h⟩
          · intro x u hku hd
            refine wpOp_step rfl fun KK hK => ?_
            refine Reg.step_load_row (by rfl) 73 (.tmp 8) (by rfl) _ (by rfl) [.int .u8 Y.r, .int .i64 Y.p, .int .i64 Y.b, .int .i64 Y.e] 73 (hku.blk HNW.out HWX5.out) _ Tryz.underlying73 rfl (by kernel_rfl) ?_
            exact hK _ _ ⟨_, rfl, Reg.KJ.refl _, fun d hd => by cases hd; exact rfl, fun h => by cases h⟩
          · intro x u hku hd
            refine wpOp_step rfl fun KK hK => ?_
            go_simp
            exact hK _ _ ⟨_, rfl, Reg.KJ.refl _, fun d hd => by cases hd; exact rfl, fun h => by cases h⟩
          · intro x u hku hd
            have h41 : x 41 = .pointer (some ⟨gc, 0, none⟩) := hd 2 (by decide)
            refine wpOp_step rfl fun KK hK => ?_
            simp only [h41] at hK ⊢
            go_simp
            exact hK _ _ ⟨_, rfl, Reg.KJ.refl _, fun d hd => by cases hd; exact rfl, fun h => by cases h⟩
          · intro x u hku hd
            have h42 : x 42 = .pointer (some ⟨gc, 0, none⟩) := hd 3 (by decide)
            refine wpOp_step rfl fun KK hK => ?_
            refine Reg.step_load_row (by rfl) 116 (.tmp 42) (by rfl) gc (by exact h42) C 116 (hku.blk HNC.out HCB.out) _ Tryz.underlying116 rfl (by rw [size_cat, HCL.out]) ?_
            exact hK _ _ ⟨_, rfl, Reg.KJ.refl _, fun d hd => by cases hd; exact rfl, fun h => by cases h⟩
          · intro x u hku hd
            have h40 : x 40 = .agg #[.int .u8 Y.r, .int .i64 Y.p, .int .i64 Y.b, .int .i64 Y.e] := hd 1 (by decide)
            have h43 : x 43 = .agg C.toArray := hd 4 (by decide)
            refine wpOp_step rfl fun KK hK => ?_
            refine Reg.step_build (by rfl) 163 _ (by rfl) WY.toArray (by simpa [Act.eval, h40, h43] using HWYB.out) ?_
            exact hK _ _ ⟨_, rfl, Reg.KJ.refl _, fun d hd => by cases hd; exact rfl, fun h => by cases h⟩
          · intro x u hku hd
            have h39 : x 39 = .int .i64 1 := hd 0 (by decide)
            refine wpOp_step rfl fun KK hK => ?_
            simp only [h39] at hK ⊢
            go_simp
            exact hK _ _ ⟨_, rfl, Reg.KJ.refl _, fun d hd => by cases hd; exact rfl, fun h => by cases h⟩
          · intro x u hku hd
            have h45 : x 45 = .pointer (some ⟨g, 127, none⟩) := hd 6 (by decide)
            have h44 : x 44 = .agg WY.toArray := hd 5 (by decide)
            refine wpOp_step rfl fun KK hK => ?_
            obtain ⟨L, hL, hLB⟩ := hku.j (OthJ g WX []) (by simp) HOJ.out
            obtain ⟨q1, q2⟩ := setCells_heap WY L WX [] 127 g 165 u hLB (by rw [HWYL.out, hL]) HWXL.out
            refine Reg.step_store_mid (by rfl) 163 (.tmp 45) (.tmp 44) (by rfl) g 127 WY L WX [] 165 (by exact h45) (by exact h44) hLB (by rw [HWYL.out, hL]) HWXL.out (by rw [size_way, HWYL.out]) HWYO.out ?_
            exact hK _ _ ⟨_, rfl, Reg.KJ.but q2 (Nat.le_of_eq HG.out.symm) (by simp only [List.forall_mem_cons]; exact ⟨fun _ => ⟨WY, HWYL.out, q1⟩, fun _ => q1, fun _ h => by cases h⟩), fun d hd => (by cases hd), fun _ => q1⟩
        · intro xx u hku hd
          have hfin : OthD g WX WY [] u := hd 7 (by decide)
          simp only [Reg.frame, Reg.over, Nat.reduceAdd, Nat.reduceBEq, Nat.reduceLeDiff, decide_true, decide_false, Bool.and_true, Bool.and_false, if_true, Bool.false_eq_true, if_false]
          go_wp2_with fail
          go_roundw
          case rel => exact ⟨2, by omega, rfl, Lib.hid (by unfold OthD at hfin; simpa using hfin), Lib.hid (HB5.out.trans hku.1)⟩
          case measure => simp [intOf]
    · have HOB := Lib.hid (show Blk wr g 165 (WX ++ WY).toArray from HO.out)
      have hl2 : (WX ++ WY).length = 254 := by rw [List.length_append, HWXL.out, HWYL.out]
      obtain ⟨O', hO'⟩ : ∃ O', O' = WX ++ WY := ⟨_, rfl⟩
      rw [← hO'] at HOB hl2 HVAL
      have HL2 := Lib.hid hl2
      clear HO hO' hl2
      go_upto_region 13 with fail
      refine wp_region_lit ?_
      refine wpList_load_mid rfl 165 (.tmp 6) rfl g 0 ?hx O' _ (fun j v hv => ?hr) Tryz.underlying165 rfl (by rw [size_oth, HL2.out]) ?_
      case hx => simp [Act.eval]
      case hr => rw [Nat.zero_add, HOB.out.cell]; simpa using hv
      go_wp2_with fail
      go_ret2
      exact ⟨by rw [HVAL.out]; rfl, HBW.out⟩
end Go.Proofs.YtkejpkcaojidaaaGreatDoor

namespace Go.Proofs.YtkejpkcaojidaaaGreatDoor
set_option linter.unusedVariables false
set_option linter.unusedSimpArgs false
open Go.RowKit Rg
set_option linter.unusedVariables false

set_option maxRecDepth 100000 in
set_option maxHeartbeats 4000000 in
theorem begin_no (f B : Nat) (N : Int) (P : List Int) (x : Int) (s : PSt) (o : Int) (a b : Sd) (w : World) (h : FlowN w f B N P x s) (hw : Laid2 w) (E : Int)
    (HP : ∀ u, Below w.heap.size w u → FlowN u f B N P x s → Laid2 u → Calls Tryz.prog 25 #[.pointer (some ⟨f, 0, none⟩), .int .i64 o, .agg #[.bool a.i, .int .i64 a.a, .int .u8 a.k, .int .u8 a.s, .int .u32 a.q, .int .u32 a.v], .agg #[.bool b.i, .int .i64 b.a, .int .u8 b.k, .int .u8 b.s, .int .u32 b.q, .int .u32 b.v]] u fun e w' => e = .returned (.tuple #[.nilIface, .int .i64 E]) ∧ Below u.heap.size u w') :
    Calls Tryz.prog 8 #[.pointer (some ⟨f, 0, none⟩), .int .i64 o, .agg #[.bool a.i, .int .i64 a.a, .int .u8 a.k, .int .u8 a.s, .int .u32 a.q, .int .u32 a.v], .agg #[.bool b.i, .int .i64 b.a, .int .u8 b.k, .int .u8 b.s, .int .u32 b.q, .int .u32 b.v]] w fun e w' => ∃ u, e = .returned (.int .i64 E) ∧ Below w.heap.size w u ∧ FlowN u f B N P x s ∧ w' = u.setCell ⟨f, 19, none⟩ (.nilIface) := by
  have hb0 := below_al (below_al (Below.refl w.heap.size w) (.cells #[.bool a.i, .int .i64 a.a, .int .u8 a.k, .int .u8 a.s, .int .u32 a.q, .int .u32 a.v] 42)) (.cells #[.bool b.i, .int .i64 b.a, .int .u8 b.k, .int .u8 b.s, .int .u32 b.q, .int .u32 b.v] 42)
  have hA : Blk ((w.alloc (.cells #[.bool a.i, .int .i64 a.a, .int .u8 a.k, .int .u8 a.s, .int .u32 a.q, .int .u32 a.v] 42)).alloc (.cells #[.bool b.i, .int .i64 b.a, .int .u8 b.k, .int .u8 b.s, .int .u32 b.q, .int .u32 b.v] 42)) w.heap.size 42 #[.bool a.i, .int .i64 a.a, .int .u8 a.k, .int .u8 a.s, .int .u32 a.q, .int .u32 a.v] := Blk.alloc (Blk.new w _ _) _
  have hBb : Blk ((w.alloc (.cells #[.bool a.i, .int .i64 a.a, .int .u8 a.k, .int .u8 a.s, .int .u32 a.q, .int .u32 a.v] 42)).alloc (.cells #[.bool b.i, .int .i64 b.a, .int .u8 b.k, .int .u8 b.s, .int .u32 b.q, .int .u32 b.v] 42)) (w.heap.size + 1) 42 #[.bool b.i, .int .i64 b.a, .int .u8 b.k, .int .u8 b.s, .int .u32 b.q, .int .u32 b.v] := Blk.newIn (by simp)
  obtain ⟨c0, c1, c2, c3, c4, c5, cl⟩ := hA.sd
  obtain ⟨d0, d1, d2, d3, d4, d5, dl⟩ := hBb.sd
  have HB0 := Lib.hid hb0
  have HFN := Lib.hid (h.on hb0)
  have HPO := Lib.hid (HP _ hb0 (h.on hb0) (hw.on hb0))
  clear h hw hb0 hA hBb HP
  go_enter Tryz.func8, Tryz.ntmps8
  go_wp2_with (go_at_call 25; (with_reducible refine HPO.out.mono ?_); rintro e w1 ⟨rfl, b1⟩; have HF2 := Lib.hid (HFN.out.on b1); have f19 := HF2.out.part; have ff := HF2.out.frozen 19; have fl := HF2.out.lt)
  go_ret
  exact ⟨w1, rfl, below_then HB0.out b1, HF2.out, rfl⟩
set_option maxRecDepth 100000 in
set_option maxHeartbeats 4000000 in
theorem begin_some (f B : Nat) (N : Int) (P : List Int) (x : Int) (s : PSt) (o : Int) (a b : Sd) (w : World) (h : FlowN w f B N P x s) (hw : Laid2 w) (T : TypeId) (R : Value → World → Prop)
    (HP : ∀ u, Below w.heap.size w u → FlowN u f B N P x s → Laid2 u → Calls Tryz.prog 25 #[.pointer (some ⟨f, 0, none⟩), .int .i64 o, .agg #[.bool a.i, .int .i64 a.a, .int .u8 a.k, .int .u8 a.s, .int .u32 a.q, .int .u32 a.v], .agg #[.bool b.i, .int .i64 b.a, .int .u8 b.k, .int .u8 b.s, .int .u32 b.q, .int .u32 b.v]] u fun e w' => ∃ v, e = .returned (.tuple #[.iface T v, .int .i64 0]) ∧ R v w' ∧ Below u.heap.size u w') :
    Calls Tryz.prog 8 #[.pointer (some ⟨f, 0, none⟩), .int .i64 o, .agg #[.bool a.i, .int .i64 a.a, .int .u8 a.k, .int .u8 a.s, .int .u32 a.q, .int .u32 a.v], .agg #[.bool b.i, .int .i64 b.a, .int .u8 b.k, .int .u8 b.s, .int .u32 b.q, .int .u32 b.v]] w fun e w' => ∃ u v, e = .returned (.int .i64 0) ∧ R v u ∧ Below w.heap.size w u ∧ FlowN u f B N P x s ∧ w' = u.setCell ⟨f, 19, none⟩ (.iface T v) := by
  have hb0 := below_al (below_al (Below.refl w.heap.size w) (.cells #[.bool a.i, .int .i64 a.a, .int .u8 a.k, .int .u8 a.s, .int .u32 a.q, .int .u32 a.v] 42)) (.cells #[.bool b.i, .int .i64 b.a, .int .u8 b.k, .int .u8 b.s, .int .u32 b.q, .int .u32 b.v] 42)
  have hA : Blk ((w.alloc (.cells #[.bool a.i, .int .i64 a.a, .int .u8 a.k, .int .u8 a.s, .int .u32 a.q, .int .u32 a.v] 42)).alloc (.cells #[.bool b.i, .int .i64 b.a, .int .u8 b.k, .int .u8 b.s, .int .u32 b.q, .int .u32 b.v] 42)) w.heap.size 42 #[.bool a.i, .int .i64 a.a, .int .u8 a.k, .int .u8 a.s, .int .u32 a.q, .int .u32 a.v] := Blk.alloc (Blk.new w _ _) _
  have hBb : Blk ((w.alloc (.cells #[.bool a.i, .int .i64 a.a, .int .u8 a.k, .int .u8 a.s, .int .u32 a.q, .int .u32 a.v] 42)).alloc (.cells #[.bool b.i, .int .i64 b.a, .int .u8 b.k, .int .u8 b.s, .int .u32 b.q, .int .u32 b.v] 42)) (w.heap.size + 1) 42 #[.bool b.i, .int .i64 b.a, .int .u8 b.k, .int .u8 b.s, .int .u32 b.q, .int .u32 b.v] := Blk.newIn (by simp)
  obtain ⟨c0, c1, c2, c3, c4, c5, cl⟩ := hA.sd
  obtain ⟨d0, d1, d2, d3, d4, d5, dl⟩ := hBb.sd
  have HB0 := Lib.hid hb0
  have HFN := Lib.hid (h.on hb0)
  have HPO := Lib.hid (HP _ hb0 (h.on hb0) (hw.on hb0))
  clear h hw hb0 hA hBb HP
  go_enter Tryz.func8, Tryz.ntmps8
  go_wp2_with (go_at_call 25; (with_reducible refine HPO.out.mono ?_); rintro e w1 ⟨v, rfl, hR, b1⟩; have HF2 := Lib.hid (HFN.out.on b1); have f19 := HF2.out.part; have ff := HF2.out.frozen 19; have fl := HF2.out.lt)
  go_ret
  exact ⟨w1, v, rfl, hR, below_then HB0.out b1, HF2.out, rfl⟩
section
variable {w u w' : World} {f B : Nat} {N : Int} {P : List Int} {x : Int} {s s' : PSt}
theorem FlowN.put (h : FlowN u f B N P x s) (s' : PSt) (v : Value) (hv : s'.val = v) : FlowN (u.setCell ⟨f, 19, none⟩ v) f B N P x s' ∧ But f u (u.setCell ⟨f, 19, none⟩ v) := by
  subst hv
  obtain ⟨fb, c, h1, h2, h3, h4, h5, h6⟩ := h
  have hB := Blk.set_ h1 19 s'.val
  have hk := But.one (u := u) (g := f) 19 s'.val
  exact ⟨⟨fb, c, hB, h2.keep (Nat.le_refl _) (hk.1.mono h6), h3, h4, h5, h6⟩, hk⟩
end
end Go.Proofs.YtkejpkcaojidaaaGreatDoor

