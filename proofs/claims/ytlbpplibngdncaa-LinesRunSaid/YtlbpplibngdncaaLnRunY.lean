/-
  The law LinesRun, walked: whatever is sent, one thing, none, or too many, tick by tick, both lines answer alike: true; nothing that was there has turned. Conditions: the argument's reading.
-/
import Derived.Test.YtlbpplibngdncaaLnRun
import Derived.Test.YtlbpplibngdncaaLnI
import Derived.Test.YtlbpplibngdncaaNums
import Derived.Test.YtlbpplibngdncaaTwin
import Derived.Test.YtlbpplibngdncaaBookW
import Derived.Test.YtlbpplibngdncaaApartK
import Derived.Test.YtlbpplibngdncaaReg3
namespace Go.Proofs.Ytlbpplibngdncaa
open Go.RowKit
set_option linter.unusedVariables false

theorem WayI.lies {w w' : World} {A : Option Addr} {n : Nat} {o : Option Int} (h : WayI w w' A n o) : Lies .i64 w' w'.heap.size A n o.toList := by
  cases o with
  | none => obtain ⟨_, rfl⟩ := h; exact Lies.nil_
  | some x =>
    obtain ⟨rfl, rfl, hB⟩ := h
    exact Blk.lies (k := .i64) (xs := [x]) hB rfl
theorem WayI.le {w w' : World} {A : Option Addr} {n : Nat} {o : Option Int} (h : WayI w w' A n o) : n ≤ 65536 := by
  cases o with
  | none => obtain ⟨_, rfl⟩ := h; omega
  | some x => obtain ⟨_, rfl, _⟩ := h; omega
/-- Both lines, as they stand behind what was sent so far. -/
def Two (w : World) (gx gy base : Nat) (hop : Int) (l : List (Option Int)) (B : Option Addr) (d : Nat) : Prop := OnI w gx hop l.length (hereR hop l) (wayR hop l) ∧ RefL w gy base hop l B d
theorem Two.on {w w' : World} {gx gy base : Nat} {hop : Int} {l : List (Option Int)} {B : Option Addr} {d : Nat} (h : Two w gx gy base hop l B d) (hb : Below w.heap.size w w') : Two w' gx gy base hop l B d := ⟨h.1.on hb, h.2.on hb⟩
theorem Two.x {w : World} {gx gy base : Nat} {hop : Int} {l : List (Option Int)} {B : Option Addr} {d : Nat} (h : Two w gx gy base hop l B d) : OnI w gx hop l.length (hereR hop l) (wayR hop l) := h.1
theorem Two.y {w : World} {gx gy base : Nat} {hop : Int} {l : List (Option Int)} {B : Option Addr} {d : Nat} (h : Two w gx gy base hop l B d) : RefL w gy base hop l B d := h.2
theorem way_at {w w' : World} {A : Option Addr} {n : Nat} {o : Option Int} (h : WayI w w' A n o) (h0 : 0 < n) : A = some ⟨w.heap.size, 0, none⟩ ∧ w.heap.size < w'.heap.size := by
  cases o with
  | none => obtain ⟨_, rfl⟩ := h; omega
  | some x => obtain ⟨rfl, _, hB⟩ := h; exact ⟨rfl, hB.lt⟩
theorem ent_way {w w' : World} {A : Option Addr} {n base : Nat} {o : Option Int} (h : WayI w w' A n o) (hb : base ≤ w.heap.size) : Ent w' 3 base (A, n) := fun h0 => by
  cases o with
  | none => obtain ⟨_, rfl⟩ := h; simp at h0
  | some x => obtain ⟨rfl, rfl, hB⟩ := h; exact ⟨_, _, rfl, hb, hB, by simp⟩
theorem ofEnts_lt {w : World} {T : TypeId} {base : Nat} {l : List (Option Addr × Nat)} (h : Ents w T base l) : OfEnts (fun g => g < w.heap.size) l := fun i hi g m e hm => by
  obtain ⟨g', cs, e', _, hB, _⟩ := h i hi (by rw [← e]; exact hm)
  rw [← e] at e'
  have : g = g' := by simpa using e'
  rw [this]; exact hB.lt
theorem ofEnts0 (E : Nat → Prop) : OfEnts E [] := fun i hi => absurd hi (Nat.not_lt_zero i)
theorem TwinOf.move {k : IntKind} {w w' : World} {t : TypeId} {g n c : Nat} {xs : List Int} (h : TwinOf k w t g n c xs) (hk : w'.heap[g]? = w.heap[g]?) : TwinOf k w' t g n c xs := by
  obtain ⟨h1, h2, h3, cs, h4, h5⟩ := h
  exact ⟨h1, h2, h3, cs, hk.trans h4, h5⟩
theorem TwinOf.ofType {k : IntKind} {w : World} {t t' : TypeId} {g g' n c : Nat} {xs : List Int} {cs : Array Value} (h : TwinOf k w t g n c xs) (hB : Blk w g' t' cs) (hne : t ≠ t') : g ≠ g' := by
  obtain ⟨_, _, _, cs', h4, _⟩ := h
  exact h4.ne hB hne
theorem sendI_lots (g : Nat) (h k : Int) (a b : Option Int) (A : Option Addr) (n c : Nat) (w : World) (hL : OnI w g h k a b) (hh : h = 1 ∨ h = 2) (hn : 1 < n) :
    Calls Try.prog 18 #[.pointer (some ⟨g, 0, none⟩), .slice A n c] w fun e w' => e = .returned (.int .i64 1) ∧ Below w.heap.size w w' := sendI_many g h k _ _ _ _ A n c w hL hh hn
/-- What is known of memory behind so many calls. -/
def Steps (P0 P1 P2 P3 P5 : World → Prop) : Nat → World → Prop
  | 0 => P0
  | 1 => P1
  | 2 => P2
  | 3 => P3
  | 4 => P3
  | 5 => P5
  | _ => fun _ => False
theorem Steps.all {P0 P1 P2 P3 P5 X : World → Prop} (h0 : ∀ u, P0 u → X u) (h1 : ∀ u, P1 u → X u) (h2 : ∀ u, P2 u → X u) (h3 : ∀ u, P3 u → X u) (h5 : ∀ u, P5 u → X u) : ∀ c u, Steps P0 P1 P2 P3 P5 c u → X u
  | 0, u, h => h0 u h
  | 1, u, h => h1 u h
  | 2, u, h => h2 u h
  | 3, u, h => h3 u h
  | 4, u, h => h3 u h
  | 5, u, h => h5 u h
  | _ + 6, _, h => h.elim
theorem Steps.late {P0 P1 P2 P3 P5 X : World → Prop} (h3 : ∀ u, P3 u → X u) (h5 : ∀ u, P5 u → X u) : ∀ c u, 3 ≤ c → Steps P0 P1 P2 P3 P5 c u → X u
  | 0, _, h, _ => absurd h (by decide)
  | 1, _, h, _ => absurd h (by decide)
  | 2, _, h, _ => absurd h (by decide)
  | 3, u, _, h => h3 u h
  | 4, u, _, h => h3 u h
  | 5, u, _, h => h5 u h
  | _ + 6, _, _, h => h.elim
/-- One more list is sent down both lines: what each call leaves. -/
theorem linesRun_pack (hop : Int) (w u1 wr v4 v5 : World) (l : List (Option Int)) (B : Option Addr) (d : Nat) (A1 A3 : Option Addr) (n1 n3 g5 Ni c5 Ci bl ob : Nat) (Ai : Option Addr) (Xi : List Int) (vn4 : Value)
    (hh : hop = 1 ∨ hop = 2) (luw : w.heap.size ≤ u1.heap.size) (htk : Two wr w.heap.size u1.heap.size u1.heap.size hop l B d) (hl : l.length ≤ 65535) (hbk : Below w.heap.size w wr)
    (hcl : ∀ u : World, Below w.heap.size w u → u.cell? ⟨bl, ob, none⟩ = some (.slice Ai Ni Ci) ∧ bl < u.heap.size)
    (hxs : ∀ u : World, Below w.heap.size w u → Lies .i64 u u.heap.size Ai Ni Xi)
    (hqv : Below wr.heap.size wr v5.drew) (hkv : BookIs v5.drew wr.heap.size wr.heap.size (.slice none 0 0) vn4 (.slice none 0 0) [] [(A1, n1), (A3, n3)] [])
    (hen : Ents v5.drew 3 wr.heap.size [(A1, n1), (A3, n3)]) (hdi : Dist [(A1, n1), (A3, n3)]) (hsz : ∀ q ∈ [(A1, n1), (A3, n3)], q.2 ≤ 65536) (hoe : OfEnts (fun g => g < v4.heap.size) [(A1, n1), (A3, n3)])
    (hg5 : v4.heap.size ≤ g5) (ht5 : TwinOf .i64 v5.drew 3 g5 Ni c5 Xi) (hn : Ni ≤ 100) :
    ∃ (M : Nat → World → Prop) (rc : Int) (l' : List (Option Int)), l'.length ≤ l.length + 1 ∧ M 0 v5.drew ∧ (∀ c u, M c u → u.cell? ⟨bl, ob, none⟩ = some (.slice Ai Ni Ci) ∧ bl < u.heap.size) ∧ (∀ c u, 3 ≤ c → M c u → ∃ B8 c8, u.cell? ⟨u1.heap.size, 1, none⟩ = some (.slice B8 l'.length c8) ∧ u1.heap.size < u.heap.size)
      ∧ (∀ u, M 0 u → Calls Try.prog 17 #[.pointer (some ⟨wr.heap.size, 0, none⟩)] u fun e v => e = .returned (.bool true) ∧ M 1 v)
      ∧ (∀ u, M 1 u → Calls Try.prog 18 #[.pointer (some ⟨w.heap.size, 0, none⟩), .slice (some ⟨g5, 0, none⟩) Ni c5] u fun e v => e = .returned (.int .i64 rc) ∧ M 2 v)
      ∧ (∀ u, M 2 u → Calls Try.prog 19 #[.pointer (some ⟨u1.heap.size, 0, none⟩), .slice Ai Ni Ci] u fun e v => e = .returned (.int .i64 rc) ∧ M 3 v)
      ∧ (∀ u, M 3 u → Calls Try.prog 20 #[.pointer (some ⟨w.heap.size, 0, none⟩)] u fun e v => e = .returned (.int .i64 (l'.length : Int)) ∧ M 4 v)
      ∧ (∀ u, M 4 u → Calls Try.prog 21 #[.slice (some ⟨g5, 0, none⟩) Ni c5, .slice Ai Ni Ci] u fun e v => e = .returned (.bool true) ∧ M 5 v)
      ∧ (∀ u, M 5 u → Below w.heap.size w u ∧ ∃ B8 c8, Two u w.heap.size u1.heap.size u1.heap.size hop l' B8 c8) := by
  have HS : ∃ (rc : Int) (l' : List (Option Int)), l'.length ≤ l.length + 1
      ∧ (∀ v6 : World, (Below wr.heap.size wr v6 ∧ TwinOf .i64 v6 3 g5 Ni c5 Xi) → Calls Try.prog 18 #[.pointer (some ⟨w.heap.size, 0, none⟩), .slice (some ⟨g5, 0, none⟩) Ni c5] v6 fun e v => e = .returned (.int .i64 rc) ∧ (Below w.heap.size w v ∧ TwinOf .i64 v 3 g5 Ni c5 Xi ∧ OnI v w.heap.size hop (l'.length : Int) (hereR hop l') (wayR hop l') ∧ RefL v u1.heap.size u1.heap.size hop l B d))
      ∧ (∀ v7 : World, (Below w.heap.size w v7 ∧ TwinOf .i64 v7 3 g5 Ni c5 Xi ∧ OnI v7 w.heap.size hop (l'.length : Int) (hereR hop l') (wayR hop l') ∧ RefL v7 u1.heap.size u1.heap.size hop l B d) → Calls Try.prog 19 #[.pointer (some ⟨u1.heap.size, 0, none⟩), .slice Ai Ni Ci] v7 fun e v => e = .returned (.int .i64 rc) ∧ (∃ B8 c8, Below w.heap.size w v ∧ TwinOf .i64 v 3 g5 Ni c5 Xi ∧ Two v w.heap.size u1.heap.size u1.heap.size hop l' B8 c8)) := by
    by_cases hone : Ni ≤ 1
    · refine ⟨0, l ++ [Xi.head?], by simp, fun v6 ⟨q6, t6⟩ => ?_, fun v7 ⟨q7, t7, hX, hY⟩ => ?_⟩
      · refine (sendI_is w.heap.size hop _ _ _ Xi.head? _ _ (some ⟨g5, 0, none⟩) Ni c5 (here_push hh l Xi.head?) (way_push hh l Xi.head?) _ (show (l.length : Int) + 1 = ((l ++ [Xi.head?]).length : Int) by simp) v6 (htk.x.on q6) hh (by omega) (by omega) (t6.lies.one hone)).mono fun e v ⟨he, hX, t7⟩ => ?_
        have q7 := (hbk.trans (q6.mono hbk.size)).trans (t7.low (Nat.le_refl _))
        have hB : Blk v6 w.heap.size 52 _ := htk.x.on q6
        exact ⟨he, q7, t6.move (t7.2 g5 t6.lt (t6.ofType hB (by decide))), hX, (htk.y.on q6).but t7 hB (by decide) (by decide)⟩
      · refine (refSend_is u1.heap.size u1.heap.size hop l B d Ai Ni Ci Xi v7 hY hl (hxs v7 q7) hone).mono fun e v ⟨he, ⟨B8, c8, hY8⟩, b8, k8⟩ => ?_
        exact ⟨he, B8, c8, q7.trans (b8.mono luw), t7.kept k8 (by decide), k8 _ _ _ (by decide) hX, hY8⟩
    · refine ⟨1, l, by omega, fun v6 ⟨q6, t6⟩ => ?_, fun v7 ⟨q7, t7, hX, hY⟩ => ?_⟩
      · refine (sendI_lots w.heap.size hop _ _ _ (some ⟨g5, 0, none⟩) Ni c5 v6 (htk.x.on q6) hh (by omega)).mono fun e v ⟨he, b⟩ => ?_
        have q := hbk.trans (q6.mono hbk.size)
        exact ⟨he, q.trans (b.mono q.size), t6.on b, (htk.x.on q6).on b, (htk.y.on q6).on b⟩
      · refine (refSend_many u1.heap.size Ai Ni Ci v7 (by omega)).mono fun e v ⟨he, b⟩ => ?_
        exact ⟨he, B, d, q7.trans (b.mono q7.size), t7.on b, hX.on b, hY.on b⟩
  obtain ⟨rc, l', hl', hX, hY⟩ := HS
  refine ⟨Steps (fun u => u = v5.drew) (fun u => Below wr.heap.size wr u ∧ TwinOf .i64 u 3 g5 Ni c5 Xi)
    (fun u => Below w.heap.size w u ∧ TwinOf .i64 u 3 g5 Ni c5 Xi ∧ OnI u w.heap.size hop (l'.length : Int) (hereR hop l') (wayR hop l') ∧ RefL u u1.heap.size u1.heap.size hop l B d)
    (fun u => ∃ B8 c8, Below w.heap.size w u ∧ TwinOf .i64 u 3 g5 Ni c5 Xi ∧ Two u w.heap.size u1.heap.size u1.heap.size hop l' B8 c8)
    (fun u => Below w.heap.size w u ∧ ∃ B8 c8, Two u w.heap.size u1.heap.size u1.heap.size hop l' B8 c8), rc, l', hl', rfl, ?_, ?_, ?_, hX, hY, ?_, ?_, fun u h => h⟩
  · refine Steps.all (fun u h => hcl u ?_) (fun u h => hcl u ?_) (fun u h => hcl u h.1) (fun u ⟨B8, c8, h⟩ => hcl u h.1) (fun u h => hcl u h.1)
    · rw [h]; exact hbk.trans (hqv.mono hbk.size)
    · exact hbk.trans (h.1.mono hbk.size)
  · have key : ∀ (u : World) (B8 : Option Addr) (c8 : Nat), Two u w.heap.size u1.heap.size u1.heap.size hop l' B8 c8 → ∃ B8 c8, u.cell? ⟨u1.heap.size, 1, none⟩ = some (.slice B8 l'.length c8) ∧ u1.heap.size < u.heap.size := fun u B8 c8 h => by
      have y := h.y.blk.cell 1
      exact ⟨B8, c8, by simpa using y, h.y.blk.lt⟩
    exact Steps.late (fun u ⟨B8, c8, h⟩ => key u B8 c8 h.2.2) (fun u ⟨_, B8, c8, h⟩ => key u B8 c8 h)
  · intro u hu
    have hu : u = v5.drew := hu
    subst hu
    exact (apart_only (fun g => g < v4.heap.size) v5.drew wr.heap.size wr.heap.size (.slice none 0 0) vn4 (.slice none 0 0) [] [(A1, n1), (A3, n3)] [] hkv (by simp) (by simp) (by simp) (by simp) hsz (by simp) ents0 hen ents0 dist0 hdi dist0 (ofEnts0 _) hoe (ofEnts0 _)).mono fun e v ⟨he, s6⟩ =>
      ⟨he, hqv.trans s6.below, ht5.move (s6.only g5 ht5.lt (fun (q : g5 < v4.heap.size) => absurd hg5 (Nat.not_le_of_lt q)))⟩
  · intro u ⟨B8, c8, q8, t8, h8⟩
    exact (ticksI_is w.heap.size hop _ _ _ u h8.x).mono fun e v ⟨he, d9⟩ => ⟨he, B8, c8, q8.trans (d9.mono q8.size), t8.on d9, h8.on d9⟩
  · intro u ⟨B8, c8, q9, t9, h9⟩
    exact (leftNums_true g5 Ni c5 Ci Ai Xi u t9 (hxs u q9) (by omega)).mono fun e v ⟨he, d10⟩ => ⟨he, q9.trans (d10.mono q9.size), B8, c8, h9.on d10⟩
set_option maxRecDepth 100000 in
set_option maxHeartbeats 40000000 in
theorem linesRun_yes (hop : Int) (A : Option Addr) (n c : Nat) (ads : Nat → Option Addr) (ns cs : Nat → Nat) (xs : Nat → List Int) (w : World) (hr : RowL .i64 w w.heap.size A n ads ns cs xs) (hn : n ≤ 300) (hh : hop = 1 ∨ hop = 2) :
    Calls Try.prog 3 #[.int .i64 hop, .slice A n c] w fun e w' => e = .returned (.bool true) ∧ Below w.heap.size w w' := by
  have hd : decide ((300 : Int) < (n : Int)) = false := decide_eq_false (by omega)
  have HR := Lib.hid hr
  have HN := Lib.hid hn
  have HH := Lib.hid hh
  clear hr hn hh
  go_enter Try.func3, Try.ntmps3
  go_wp2_with (first
    | (go_at_call 8; (with_reducible refine (newI_is hop w HH.out).mono ?_); rintro e u1 ⟨rfl, hX1, b1⟩)
    | (go_at_call 9; (with_reducible refine (refNew_is hop u1 HH.out).mono ?_); rintro e u2 ⟨rfl, hY2, b2⟩))
  have LUW := Lib.hid (show w.heap.size ≤ u1.heap.size from b1.size)
  have H0 := Lib.hid (show Two u2 w.heap.size u1.heap.size u1.heap.size hop [] none 0 ∧ Below w.heap.size w u2 from ⟨⟨by rw [hereR_nil, wayR_nil]; exact hX1.on b2, hY2⟩, below_then b1 b2⟩)
  clear hX1 hY2 b1 b2 hd
  go_loopw [9] (fun s9 wr => ∃ (i : Nat) (l : List (Option Int)) (B : Option Addr) (d : Nat), i ≤ n ∧ s9 = .int .i64 i ∧ l.length ≤ i ∧ Two wr w.heap.size u1.heap.size u1.heap.size hop l B d ∧ Below w.heap.size w wr) (fun s9 _ => n - (intOf s9).toNat)
  case atStart => exact ⟨0, [], none, 0, by omega, rfl, by simp, H0.out.1, H0.out.2⟩
  case round =>
    obtain ⟨i, l, B, d, hi, rfl, hl, hT, hb⟩ := hrel
    clear H0
    by_cases hlt : i < n
    · obtain ⟨bl, ol, hA, hll, hlc⟩ := HR.out.row (by omega)
      have hix := fun W => idx1Rows (n := n) c hA hlt W
      have HCL := Lib.hid (show ∀ u : World, Below w.heap.size w u → u.cell? ⟨bl, ol + i, none⟩ = some (.slice (ads i) (ns i) (cs i)) ∧ bl < u.heap.size from fun u hu => ⟨(hu.cell hll).trans (hlc i hlt), Nat.lt_of_lt_of_le hll hu.size⟩)
      have HXS := Lib.hid (show ∀ u : World, Below w.heap.size w u → Lies .i64 u u.heap.size (ads i) (ns i) (xs i) from fun u hu => (HR.out.lies i hlt).on hu)
      have hdl : decide ((i : Int) < (n : Int)) = true := decide_eq_true (by omega)
      have hdn : decide (i < n) = true := decide_eq_true hlt
      obtain ⟨Ai, hAi⟩ : ∃ Ai, Ai = ads i := ⟨_, rfl⟩
      obtain ⟨Ni, hNi⟩ : ∃ Ni, Ni = ns i := ⟨_, rfl⟩
      obtain ⟨Ci, hCi⟩ : ∃ Ci, Ci = cs i := ⟨_, rfl⟩
      obtain ⟨Xi, hXi⟩ : ∃ Xi, Xi = xs i := ⟨_, rfl⟩
      rw [← hAi, ← hNi, ← hCi] at HCL
      rw [← hAi, ← hNi, ← hXi] at HXS
      have c0 := (HCL.out wr hb).1
      have l0 := (HCL.out wr hb).2
      have HT := Lib.hid hT
      have HB := Lib.hid hb
      have HL := Lib.hid (show l.length ≤ 65535 by have := HN.out; omega)
      clear hAi hNi hCi hXi hlc hll hA hT hb
      by_cases hg : 100 < Ni
      · have hd1 : decide ((100 : Int) < (Ni : Int)) = true := decide_eq_true (by omega)
        go_wp2_with (go_at_call 7; (with_reducible refine (lives_ln _).mono ?_); rintro e v1 ⟨rfl, d1⟩)
        go_ret
        exact ⟨rfl, below_then HB.out d1⟩
      have hd1 : decide ((100 : Int) < (Ni : Int)) = false := decide_eq_false (by omega)
      obtain ⟨p, hp⟩ : ∃ p, p = (hereR hop l).isSome := ⟨_, rfl⟩
      obtain ⟨y, hy⟩ : ∃ y, y = (hereR hop l).getD 0 := ⟨_, rfl⟩
      obtain ⟨o, ho⟩ : ∃ o, o = wayR hop l := ⟨_, rfl⟩
      have P := Lib.hid hp.symm
      have Y := Lib.hid hy.symm
      have O := Lib.hid ho.symm
      have HL6 := Lib.hid (show l.length ≤ 65536 by have := HL.out; omega)
      clear hp hy ho
      go_wp2_with fail
      clear hd1 c0 l0 hdl hdn
      obtain ⟨u0, rfl⟩ : ∃ u0, u0 = wr := ⟨_, rfl⟩
      go_loopw [10] (fun s10 wr => ∃ k : Nat, k ≤ 2 ∧ s10 = .int .i64 k ∧ Below u0.heap.size u0 wr) (fun s10 _ => 2 - (intOf s10).toNat)
      case atStart => exact ⟨0, by omega, rfl, Below.refl _ _⟩
      case round =>
        obtain ⟨k, hk, rfl, hbk⟩ := hrel
        by_cases hk2 : k < 2
        · have hdk : decide ((k : Int) < 2) = true := decide_eq_true (by omega)
          have HTK := Lib.hid (HT.out.on hbk)
          have HBK := Lib.hid hbk
          clear hbk
          go_wp2_with (first
            | (go_at_call 10; (with_reducible refine (hereI_is w.heap.size hop _ _ _ y Y.out p P.out wr HTK.out.x).mono ?_); rintro e v1 ⟨rfl, d1⟩)
            | (go_at_call 11; (with_reducible refine (refHere_is u1.heap.size u1.heap.size hop l B d y p Y.out P.out v1 (HTK.out.y.on d1) HH.out HL6.out).mono ?_); rintro e v2 ⟨rfl, d2⟩; have e2 := below_then d1 d2)
            | (go_at_call 13; (with_reducible refine (wayI_is w.heap.size hop _ _ _ v2 (HTK.out.x.on e2)).mono ?_); rintro e v3 ⟨A3, n3, rfl, hW3, d3⟩; have HW3 := Lib.hid hW3; have e3 := below_then e2 d3; clear hW3)
            | (go_at_call 14; (with_reducible refine (refWay_is u1.heap.size u1.heap.size hop l B d _ O.out v3 (HTK.out.y.on e3) HH.out HL6.out).mono ?_); rintro e v4 ⟨A4, n4, c4, rfl, hW4, d4⟩; have HW4 := Lib.hid hW4; have e4 := below_then e3 d4; clear hW4; have HN4 := Lib.hid (show n4 ≤ 65536 by have := HW4.out.len; cases o <;> simp at this <;> omega); have HE4 := Lib.hid (show (wayR hop l).toList = o.toList by rw [O.out]))
            | (go_at_call 12; (with_reducible refine (sameNums_true A3 A4 n3 n4 n3 c4 _ _ v4 (HW3.out.lies.on d4) HW4.out HW3.out.le HN4.out HE4.out).mono ?_); rintro e v5 ⟨rfl, d5⟩))
          go_roundw
          case rel => exact ⟨k + 1, by omega, by go_num, below_then HBK.out (below_then e4 d5)⟩
          case measure => simp [intOf]; omega
        · have hdk : decide ((k : Int) < 2) = false := decide_eq_false (by omega)
          have HTK := Lib.hid (HT.out.on hbk)
          have HBK := Lib.hid (below_then HB.out hbk)
          clear hbk hk2
          have HQ0 := Lib.hid (below_al (Below.refl _ wr) (.cells #[.slice none 0 0, .slice none 0 0, .slice none 0 0, .bool false] 39))
          have HK0 := Lib.hid (BookIs.empty (base := wr.heap.size) (Blk.new wr 39 #[.slice none 0 0, .slice none 0 0, .slice none 0 0, .bool false]) (Nat.le_refl _))
          have HZ := Lib.hid (show ([] : List (Option Addr × Nat)).length ≤ 65536 by simp)
          go_upto_region 25 with (first
            | (go_at_call 13; (with_reducible refine (wayI_is w.heap.size hop _ _ _ (wr.alloc (.cells #[.slice none 0 0, .slice none 0 0, .slice none 0 0, .bool false] 39)) (HTK.out.x.on HQ0.out)).mono ?_); rintro e v1 ⟨A1, n1, rfl, hW1, d1⟩; have HW1 := Lib.hid hW1; have HQ1 := Lib.hid (below_then HQ0.out d1); have HK1 := Lib.hid (HK0.out.below d1); clear hW1)
            | (go_at_call 15; (with_reducible refine (bookNums v1 wr.heap.size wr.heap.size _ _ _ [] [] [] A1 n1 HK1.out HZ.out).mono ?_); rintro e v2 ⟨rfl, ⟨vn2, hK2⟩, d2, k2⟩; have HK2 := Lib.hid hK2; have HQ2 := Lib.hid (HQ1.out.trans d2); have KP2 := Lib.hid k2; clear hK2 k2)
            | (go_at_call 13; (with_reducible refine (wayI_is w.heap.size hop _ _ _ v2 (HTK.out.x.on HQ2.out)).mono ?_); rintro e v3 ⟨A3, n3, rfl, hW3, d3⟩; have HW3 := Lib.hid hW3; have HQ3 := Lib.hid (HQ2.out.trans (d3.mono HQ2.out.size)); have HK3 := Lib.hid (HK2.out.below d3); clear hW3)
            | (go_at_call 15; (with_reducible refine (bookNums v3 wr.heap.size wr.heap.size _ _ _ [] _ [] A3 n3 HK3.out (by simp)).mono ?_); rintro e v4 ⟨rfl, ⟨vn4, hK4⟩, d4, k4⟩; have HK4 := Lib.hid hK4; have HQ4 := Lib.hid (HQ3.out.trans d4); have KP4 := Lib.hid k4; have c4 := (HCL.out v4 (HBK.out.trans (HQ4.out.mono HBK.out.size))).1; have l4 := (HCL.out v4 (HBK.out.trans (HQ4.out.mono HBK.out.size))).2; clear hK4 k4)
            | (go_at_call 16; (with_reducible refine (twinNums_any Ai Ni Ci Xi v4 (HXS.out v4 (HBK.out.trans (HQ4.out.mono HBK.out.size))) (by omega)).mono ?_); rintro e v5 ⟨g5, c5, rfl, hg5, hT5, d5⟩; have HT5 := Lib.hid hT5; have HG5 := Lib.hid hg5; have HQ5 := Lib.hid (HQ4.out.trans (d5.mono HQ4.out.size)); have HK5 := Lib.hid (HK4.out.below d5); clear hT5 hg5))
          have V := Lib.hid (show Below v5.heap.size v5 v5.drew from (Below.refl _ _).drew)
          have HQV := Lib.hid (HQ5.out.trans (V.out.mono HQ5.out.size))
          have HKV := Lib.hid (show BookIs v5.drew wr.heap.size wr.heap.size (.slice none 0 0) vn4 (.slice none 0 0) [] [(A1, n1), (A3, n3)] [] from HK5.out.below V.out)
          have HT5V := Lib.hid (HT5.out.on V.out)
          have en4 : Ents v4 3 wr.heap.size [(A1, n1), (A3, n3)] := ents2
            (((((ent_way HW1.out (by simp)).kept KP2.out (by decide)).kept (KeptBut.below d3 []) (by simp)).kept KP4.out (by decide)))
            ((ent_way HW3.out HQ2.out.size).kept KP4.out (by decide))
          have HOE := Lib.hid (ofEnts_lt en4)
          have HEN := Lib.hid (show Ents v5.drew 3 wr.heap.size [(A1, n1), (A3, n3)] from fun q hq => (en4 q hq).kept (KeptBut.below (below_then d5 V.out) []) (by simp))
          have HDI := Lib.hid (show Dist [(A1, n1), (A3, n3)] from dist2 fun p1 p3 => by
            have q1 := way_at HW1.out p1
            have q3 := way_at HW3.out p3
            have := d2.size
            rw [q1.1, q3.1]
            intro e
            injection e with e
            injection e with e
            omega)
          have HSZ := Lib.hid (show ∀ q ∈ [(A1, n1), (A3, n3)], q.2 ≤ 65536 from fun q hq => by
            simp only [List.mem_cons, List.not_mem_nil, or_false] at hq
            rcases hq with rfl | rfl
            · exact HW1.out.le
            · exact HW3.out.le)
          clear en4 d1 d2 d3 d4 d5 c4 l4
          have HPK := Lib.hid (linesRun_pack hop w u1 wr v4 v5 l B d A1 A3 n1 n3 g5 Ni c5 Ci bl (ol + i) Ai Xi vn4 HH.out LUW.out HTK.out HL.out HBK.out HCL.out HXS.out HQV.out HKV.out HEN.out HDI.out HSZ.out HOE.out HG5.out HT5V.out (by omega))
          clear HKV HEN HDI HSZ HOE HG5 HT5V HQV HXS HCL HBK HTK HL HT HB HT5 HQ5 HK5 V KP4 HQ4 HK4 HW3 HQ3 HK3 KP2 HQ2 HK2 HW1 HQ1 HK1 HQ0 HK0 HZ HL6 P Y O
          obtain ⟨M, rc, l', hl', hM0, hC, hY, hA1, hA2, hA3, hA4, hA5, hE⟩ := HPK.out
          clear HPK
          have HM0 := Lib.hid hM0
          have HC := Lib.hid hC
          have HE := Lib.hid hE
          have HA1 := Lib.hid hA1
          have HA2 := Lib.hid hA2
          have HA3 := Lib.hid hA3
          have HA5 := Lib.hid hA5
          have HIT := Lib.hid (show i < n ∧ l'.length ≤ i + 1 ∧ n ≤ 300 from ⟨hlt, by omega, HN.out⟩)
          obtain ⟨L, hL⟩ : ∃ L, L = l'.length := ⟨_, rfl⟩
          rw [← hL] at hY hA4
          have HY := Lib.hid hY
          have HA4 := Lib.hid hA4
          clear hl' hM0 hC hY hA1 hA2 hA3 hA4 hA5 hE hL
          refine Reg.wp_steps (fun t => decide (99 ≤ t) && decide (t ≤ 131)) [0, 5, 11, 16, 30] (fun i => [1, 1, 1, 1, 1, 2, 1, 1, 1, 1, 1, 3, 3, 3, 3, 3, 4, 3, 3, 3, 3, 3, 4, 4, 4, 4, 4, 4, 4, 4, 5, 5, 5].getD i 0) M HM0.out (by kernel_rfl) (by kernel_rfl) (by kernel_rfl) (by decide) (by kernel_rfl) (by kernel_rfl) (by kernel_rfl) (fun zz => Reg.tblP [
            (99, fun v => v = .bool true),
            (100, fun v => v = .bool false),
            (101, fun v => v = .bool false),
            (102, fun v => v = .pointer (some ⟨w.heap.size, 0, none⟩)),
            (103, fun v => v = .slice (some ⟨g5, 0, none⟩) Ni c5),
            (104, fun v => v = .int .i64 rc),
            (105, fun v => v = .pointer (some ⟨u1.heap.size, 0, none⟩)),
            (106, fun v => v = .slice A n c),
            (107, fun v => v = .int .i64 (i : Int)),
            (108, fun v => v = .pointer (some ⟨bl, ol + i, none⟩)),
            (109, fun v => v = .slice Ai Ni Ci),
            (110, fun v => v = .int .i64 rc),
            (111, fun v => v = .bool false),
            (112, fun v => v = .bool false),
            (113, fun v => v = .bool false),
            (114, fun v => v = .pointer (some ⟨w.heap.size, 0, none⟩)),
            (115, fun v => v = .int .i64 (L : Int)),
            (116, fun v => v = .pointer (some ⟨u1.heap.size, 0, none⟩)),
            (117, fun v => v = .pointer (some ⟨u1.heap.size, 0, none⟩)),
            (118, fun v => v = .pointer (some ⟨u1.heap.size, 1, none⟩)),
            (119, fun v => ∃ B8 c8, v = .slice B8 L c8),
            (120, fun v => v = .int .i64 (L : Int)),
            (121, fun v => v = .bool false),
            (122, fun v => v = .bool false),
            (123, fun v => v = .bool false),
            (124, fun v => v = .slice (some ⟨g5, 0, none⟩) Ni c5),
            (125, fun v => v = .slice A n c),
            (126, fun v => v = .int .i64 (i : Int)),
            (127, fun v => v = .pointer (some ⟨bl, ol + i, none⟩)),
            (128, fun v => v = .slice Ai Ni Ci),
            (129, fun v => v = .bool true),
            (130, fun v => v = .bool false),
            (131, fun v => v = .bool false)] zz) ?_ ?_
          · simp only [Reg.frame, Reg.over, Nat.reduceAdd, Nat.reduceLeDiff, decide_true, decide_false, if_true, Bool.false_eq_true, if_false, Bool.and_true, Bool.and_false]
            refine ⟨?_, ?_, ?_, ?_, ?_, ?_, ?_, ?_, ?_, ?_, ?_, ?_, ?_, ?_, ?_, ?_, ?_, ?_, ?_, ?_, ?_, ?_, ?_, ?_, ?_, ?_, ?_, ?_, ?_, ?_, ?_, ?_, ?_, trivial⟩
            · intro x cc u hM hc hlo hd
              obtain rfl := hc 0 rfl
              refine wpOp_step rfl fun KK hK => ?_
              go_simp
              with_reducible refine (HA1.out u hM).mono ?_
              rintro e u' ⟨rfl, hM'⟩
              exact hK _ _ ⟨_, rfl, fun _ => hM', fun h => absurd (by decide) h, fun d hd => by cases hd; exact rfl⟩
            · intro x cc u hM hc hlo hd
              have h99 : x 99 = .bool true := hd 0 (by decide)
              refine wpOp_step rfl fun KK hK => ?_
              simp only [h99] at hK ⊢
              go_simp
              exact hK _ _ ⟨_, rfl, fun h => absurd h (by decide), fun _ => rfl, fun d hd => by cases hd; exact rfl⟩
            · intro x cc u hM hc hlo hd
              have h100 : x 100 = .bool false := hd 1 (by decide)
              refine wpOp_step rfl fun KK hK => ?_
              simp only [h100] at hK ⊢
              go_simp
              exact hK _ _ ⟨_, rfl, fun h => absurd h (by decide), fun _ => rfl, fun d hd => by cases hd; exact rfl⟩
            · intro x cc u hM hc hlo hd
              have h101 : x 101 = .bool false := hd 2 (by decide)
              refine wpOp_step rfl fun KK hK => ?_
              simp only [h101] at hK ⊢
              go_simp
              exact hK _ _ ⟨_, rfl, fun h => absurd h (by decide), fun _ => rfl, fun d hd => by cases hd; exact rfl⟩
            · intro x cc u hM hc hlo hd
              have h101 : x 101 = .bool false := hd 2 (by decide)
              refine wpOp_step rfl fun KK hK => ?_
              simp only [h101] at hK ⊢
              go_simp
              exact hK _ _ ⟨_, rfl, fun h => absurd h (by decide), fun _ => rfl, fun d hd => by cases hd; exact rfl⟩
            · intro x cc u hM hc hlo hd
              have h102 : x 102 = .pointer (some ⟨w.heap.size, 0, none⟩) := hd 3 (by decide)
              have h103 : x 103 = .slice (some ⟨g5, 0, none⟩) Ni c5 := hd 4 (by decide)
              have h101 : x 101 = .bool false := hd 2 (by decide)
              obtain rfl := hc 1 rfl
              refine wpOp_step rfl fun KK hK => ?_
              simp only [h102, h103, h101] at hK ⊢
              go_simp
              with_reducible refine (HA2.out u hM).mono ?_
              rintro e u' ⟨rfl, hM'⟩
              exact hK _ _ ⟨_, rfl, fun _ => hM', fun h => absurd (by decide) h, fun d hd => by cases hd; exact rfl⟩
            · intro x cc u hM hc hlo hd
              have h101 : x 101 = .bool false := hd 2 (by decide)
              refine wpOp_step rfl fun KK hK => ?_
              simp only [h101] at hK ⊢
              go_simp
              exact hK _ _ ⟨_, rfl, fun h => absurd h (by decide), fun _ => rfl, fun d hd => by cases hd; exact rfl⟩
            · intro x cc u hM hc hlo hd
              have h101 : x 101 = .bool false := hd 2 (by decide)
              refine wpOp_step rfl fun KK hK => ?_
              simp only [h101] at hK ⊢
              go_simp
              exact hK _ _ ⟨_, rfl, fun h => absurd h (by decide), fun _ => rfl, fun d hd => by cases hd; exact rfl⟩
            · intro x cc u hM hc hlo hd
              have h101 : x 101 = .bool false := hd 2 (by decide)
              refine wpOp_step rfl fun KK hK => ?_
              simp only [h101] at hK ⊢
              go_simp
              exact hK _ _ ⟨_, rfl, fun h => absurd h (by decide), fun _ => rfl, fun d hd => by cases hd; exact rfl⟩
            · intro x cc u hM hc hlo hd
              have h106 : x 106 = .slice A n c := hd 7 (by decide)
              have h107 : x 107 = .int .i64 (i : Int) := hd 8 (by decide)
              have h101 : x 101 = .bool false := hd 2 (by decide)
              refine wpOp_step rfl fun KK hK => ?_
              simp only [h106, h107, h101] at hK ⊢
              go_simp
              exact hK _ _ ⟨_, rfl, fun h => absurd h (by decide), fun _ => rfl, fun d hd => by cases hd; exact rfl⟩
            · intro x cc u hM hc hlo hd
              have h108 : x 108 = .pointer (some ⟨bl, ol + i, none⟩) := hd 9 (by decide)
              have h101 : x 101 = .bool false := hd 2 (by decide)
              have x6 := (HC.out cc u hM).1
              have x7 := (HC.out cc u hM).2
              refine wpOp_step rfl fun KK hK => ?_
              simp only [h108, h101] at hK ⊢
              go_simp
              exact hK _ _ ⟨_, rfl, fun h => absurd h (by decide), fun _ => rfl, fun d hd => by cases hd; exact rfl⟩
            · intro x cc u hM hc hlo hd
              have h105 : x 105 = .pointer (some ⟨u1.heap.size, 0, none⟩) := hd 6 (by decide)
              have h109 : x 109 = .slice Ai Ni Ci := hd 10 (by decide)
              have h101 : x 101 = .bool false := hd 2 (by decide)
              obtain rfl := hc 2 rfl
              refine wpOp_step rfl fun KK hK => ?_
              simp only [h105, h109, h101] at hK ⊢
              go_simp
              with_reducible refine (HA3.out u hM).mono ?_
              rintro e u' ⟨rfl, hM'⟩
              exact hK _ _ ⟨_, rfl, fun _ => hM', fun h => absurd (by decide) h, fun d hd => by cases hd; exact rfl⟩
            · intro x cc u hM hc hlo hd
              have h104 : x 104 = .int .i64 rc := hd 5 (by decide)
              have h110 : x 110 = .int .i64 rc := hd 11 (by decide)
              have h101 : x 101 = .bool false := hd 2 (by decide)
              refine wpOp_step rfl fun KK hK => ?_
              simp only [h104, h110, h101] at hK ⊢
              go_simp
              exact hK _ _ ⟨_, rfl, fun h => absurd h (by decide), fun _ => rfl, fun d hd => by cases hd; exact rfl⟩
            · intro x cc u hM hc hlo hd
              have h101 : x 101 = .bool false := hd 2 (by decide)
              have h111 : x 111 = .bool false := hd 12 (by decide)
              refine wpOp_step rfl fun KK hK => ?_
              simp only [h101, h111] at hK ⊢
              go_simp
              exact hK _ _ ⟨_, rfl, fun h => absurd h (by decide), fun _ => rfl, fun d hd => by cases hd; exact rfl⟩
            · intro x cc u hM hc hlo hd
              have h112 : x 112 = .bool false := hd 13 (by decide)
              refine wpOp_step rfl fun KK hK => ?_
              simp only [h112] at hK ⊢
              go_simp
              exact hK _ _ ⟨_, rfl, fun h => absurd h (by decide), fun _ => rfl, fun d hd => by cases hd; exact rfl⟩
            · intro x cc u hM hc hlo hd
              have h113 : x 113 = .bool false := hd 14 (by decide)
              refine wpOp_step rfl fun KK hK => ?_
              simp only [h113] at hK ⊢
              go_simp
              exact hK _ _ ⟨_, rfl, fun h => absurd h (by decide), fun _ => rfl, fun d hd => by cases hd; exact rfl⟩
            · intro x cc u hM hc hlo hd
              have h114 : x 114 = .pointer (some ⟨w.heap.size, 0, none⟩) := hd 15 (by decide)
              have h113 : x 113 = .bool false := hd 14 (by decide)
              obtain rfl := hc 3 rfl
              refine wpOp_step rfl fun KK hK => ?_
              simp only [h114, h113] at hK ⊢
              go_simp
              with_reducible refine (HA4.out u hM).mono ?_
              rintro e u' ⟨rfl, hM'⟩
              exact hK _ _ ⟨_, rfl, fun _ => hM', fun h => absurd (by decide) h, fun d hd => by cases hd; exact rfl⟩
            · intro x cc u hM hc hlo hd
              have h113 : x 113 = .bool false := hd 14 (by decide)
              refine wpOp_step rfl fun KK hK => ?_
              simp only [h113] at hK ⊢
              go_simp
              exact hK _ _ ⟨_, rfl, fun h => absurd h (by decide), fun _ => rfl, fun d hd => by cases hd; exact rfl⟩
            · intro x cc u hM hc hlo hd
              have h116 : x 116 = .pointer (some ⟨u1.heap.size, 0, none⟩) := hd 17 (by decide)
              have h113 : x 113 = .bool false := hd 14 (by decide)
              refine wpOp_step rfl fun KK hK => ?_
              simp only [h116, h113] at hK ⊢
              go_simp
              exact hK _ _ ⟨_, rfl, fun h => absurd h (by decide), fun _ => rfl, fun d hd => by cases hd; exact rfl⟩
            · intro x cc u hM hc hlo hd
              have h117 : x 117 = .pointer (some ⟨u1.heap.size, 0, none⟩) := hd 18 (by decide)
              have h113 : x 113 = .bool false := hd 14 (by decide)
              refine wpOp_step rfl fun KK hK => ?_
              simp only [h117, h113] at hK ⊢
              go_simp
              exact hK _ _ ⟨_, rfl, fun h => absurd h (by decide), fun _ => rfl, fun d hd => by cases hd; exact rfl⟩
            · intro x cc u hM hc hlo hd
              have h118 : x 118 = .pointer (some ⟨u1.heap.size, 1, none⟩) := hd 19 (by decide)
              have h113 : x 113 = .bool false := hd 14 (by decide)
              obtain ⟨B7, c7, x6, x7⟩ := HY.out cc u (show 3 ≤ cc from hlo 14 (by decide)) hM
              refine wpOp_step rfl fun KK hK => ?_
              simp only [h118, h113] at hK ⊢
              go_simp
              exact hK _ _ ⟨_, rfl, fun h => absurd h (by decide), fun _ => rfl, fun d hd => by cases hd; exact ⟨_, _, rfl⟩⟩
            · intro x cc u hM hc hlo hd
              have k119 : (fun v => ∃ B8 c8, v = .slice B8 L c8 : Value → Prop) (x 119) := hd 20 (by decide)
              obtain ⟨B9, c9, h119⟩ := k119
              have h113 : x 113 = .bool false := hd 14 (by decide)
              refine wpOp_step rfl fun KK hK => ?_
              simp only [h119, h113] at hK ⊢
              go_simp
              exact hK _ _ ⟨_, rfl, fun h => absurd h (by decide), fun _ => rfl, fun d hd => by cases hd; exact rfl⟩
            · intro x cc u hM hc hlo hd
              have h115 : x 115 = .int .i64 (L : Int) := hd 16 (by decide)
              have h120 : x 120 = .int .i64 (L : Int) := hd 21 (by decide)
              have h113 : x 113 = .bool false := hd 14 (by decide)
              refine wpOp_step rfl fun KK hK => ?_
              simp only [h115, h120, h113] at hK ⊢
              go_simp
              exact hK _ _ ⟨_, rfl, fun h => absurd h (by decide), fun _ => rfl, fun d hd => by cases hd; exact rfl⟩
            · intro x cc u hM hc hlo hd
              have h113 : x 113 = .bool false := hd 14 (by decide)
              have h121 : x 121 = .bool false := hd 22 (by decide)
              refine wpOp_step rfl fun KK hK => ?_
              simp only [h113, h121] at hK ⊢
              go_simp
              exact hK _ _ ⟨_, rfl, fun h => absurd h (by decide), fun _ => rfl, fun d hd => by cases hd; exact rfl⟩
            · intro x cc u hM hc hlo hd
              have h122 : x 122 = .bool false := hd 23 (by decide)
              refine wpOp_step rfl fun KK hK => ?_
              simp only [h122] at hK ⊢
              go_simp
              exact hK _ _ ⟨_, rfl, fun h => absurd h (by decide), fun _ => rfl, fun d hd => by cases hd; exact rfl⟩
            · intro x cc u hM hc hlo hd
              have h123 : x 123 = .bool false := hd 24 (by decide)
              refine wpOp_step rfl fun KK hK => ?_
              simp only [h123] at hK ⊢
              go_simp
              exact hK _ _ ⟨_, rfl, fun h => absurd h (by decide), fun _ => rfl, fun d hd => by cases hd; exact rfl⟩
            · intro x cc u hM hc hlo hd
              have h123 : x 123 = .bool false := hd 24 (by decide)
              refine wpOp_step rfl fun KK hK => ?_
              simp only [h123] at hK ⊢
              go_simp
              exact hK _ _ ⟨_, rfl, fun h => absurd h (by decide), fun _ => rfl, fun d hd => by cases hd; exact rfl⟩
            · intro x cc u hM hc hlo hd
              have h123 : x 123 = .bool false := hd 24 (by decide)
              refine wpOp_step rfl fun KK hK => ?_
              simp only [h123] at hK ⊢
              go_simp
              exact hK _ _ ⟨_, rfl, fun h => absurd h (by decide), fun _ => rfl, fun d hd => by cases hd; exact rfl⟩
            · intro x cc u hM hc hlo hd
              have h125 : x 125 = .slice A n c := hd 26 (by decide)
              have h126 : x 126 = .int .i64 (i : Int) := hd 27 (by decide)
              have h123 : x 123 = .bool false := hd 24 (by decide)
              refine wpOp_step rfl fun KK hK => ?_
              simp only [h125, h126, h123] at hK ⊢
              go_simp
              exact hK _ _ ⟨_, rfl, fun h => absurd h (by decide), fun _ => rfl, fun d hd => by cases hd; exact rfl⟩
            · intro x cc u hM hc hlo hd
              have h127 : x 127 = .pointer (some ⟨bl, ol + i, none⟩) := hd 28 (by decide)
              have h123 : x 123 = .bool false := hd 24 (by decide)
              have x6 := (HC.out cc u hM).1
              have x7 := (HC.out cc u hM).2
              refine wpOp_step rfl fun KK hK => ?_
              simp only [h127, h123] at hK ⊢
              go_simp
              exact hK _ _ ⟨_, rfl, fun h => absurd h (by decide), fun _ => rfl, fun d hd => by cases hd; exact rfl⟩
            · intro x cc u hM hc hlo hd
              have h124 : x 124 = .slice (some ⟨g5, 0, none⟩) Ni c5 := hd 25 (by decide)
              have h128 : x 128 = .slice Ai Ni Ci := hd 29 (by decide)
              have h123 : x 123 = .bool false := hd 24 (by decide)
              obtain rfl := hc 4 rfl
              refine wpOp_step rfl fun KK hK => ?_
              simp only [h124, h128, h123] at hK ⊢
              go_simp
              with_reducible refine (HA5.out u hM).mono ?_
              rintro e u' ⟨rfl, hM'⟩
              exact hK _ _ ⟨_, rfl, fun _ => hM', fun h => absurd (by decide) h, fun d hd => by cases hd; exact rfl⟩
            · intro x cc u hM hc hlo hd
              have h129 : x 129 = .bool true := hd 30 (by decide)
              have h123 : x 123 = .bool false := hd 24 (by decide)
              refine wpOp_step rfl fun KK hK => ?_
              simp only [h129, h123] at hK ⊢
              go_simp
              exact hK _ _ ⟨_, rfl, fun h => absurd h (by decide), fun _ => rfl, fun d hd => by cases hd; exact rfl⟩
            · intro x cc u hM hc hlo hd
              have h123 : x 123 = .bool false := hd 24 (by decide)
              have h130 : x 130 = .bool false := hd 31 (by decide)
              refine wpOp_step rfl fun KK hK => ?_
              simp only [h123, h130] at hK ⊢
              go_simp
              exact hK _ _ ⟨_, rfl, fun h => absurd h (by decide), fun _ => rfl, fun d hd => by cases hd; exact rfl⟩
          · intro x u hM hall
            have h131 : x 131 = .bool false := hall 32 (by decide)
            have hM5 : M 5 u := hM
            obtain ⟨hb5, B8, c8, hT8⟩ := HE.out u hM5
            have HT8 := Lib.hid hT8
            have HB5 := Lib.hid hb5
            clear hT8 hb5 hM5 hM HA1 HA2 HA3 HA4 HA5 HC HE HY HM0 hall
            simp only [Reg.frame, Reg.over, Nat.reduceAdd, Nat.reduceLeDiff, decide_true, decide_false, if_true, Bool.false_eq_true, if_false, Bool.and_true, Bool.and_false, h131]
            have hi3 := HIT.out.1
            have hn3 := HIT.out.2.2
            go_wp2_with fail
            go_roundw
            case rel => exact ⟨i + 1, l', B8, c8, HIT.out.1, by go_num, HIT.out.2.1, HT8.out, HB5.out⟩
            case measure => simp [intOf]; omega
    · have hdl : decide ((i : Int) < (n : Int)) = false := decide_eq_false (by omega)
      have hdn : decide (i < n) = false := decide_eq_false hlt
      clear hT
      go_wp2_with (go_at_call 7; (with_reducible refine (lives_ln _).mono ?_); rintro e v1 ⟨rfl, d1⟩)
      go_ret
      exact ⟨rfl, below_then hb d1⟩
theorem linesRun_walk (hop : Int) (A : Option Addr) (n c : Nat) (ads : Nat → Option Addr) (ns cs : Nat → Nat) (xs : Nat → List Int) (w : World) (hf : (Lit.int .i64 hop).wf = true) (hm : n ≤ maxLen) (hr : RowL .i64 w w.heap.size A n ads ns cs xs) :
    Calls Try.prog 3 #[.int .i64 hop, .slice A n c] w fun e w' => e = .returned (.bool true) ∧ Below w.heap.size w w' := by
  by_cases hn : n ≤ 300
  · by_cases h1 : hop = 1
    · exact linesRun_yes hop A n c ads ns cs xs w hr hn (Or.inl h1)
    · by_cases h2 : hop = 2
      · exact linesRun_yes hop A n c ads ns cs xs w hr hn (Or.inr h2)
      · exact linesRun_bad hop A n c w hn h1 h2
  · exact linesRun_long hop A n c w (by omega)
end Go.Proofs.Ytlbpplibngdncaa
