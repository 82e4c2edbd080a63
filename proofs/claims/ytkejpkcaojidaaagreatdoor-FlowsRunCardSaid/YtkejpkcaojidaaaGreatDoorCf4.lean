/-
  The contracts of package configs' rules on slots and on stations. Conditions: the config's reading.
-/
import Derived.Test.YtkejpkcaojidaaaGreatDoorCfM
import Derived.Test.YtkejpkcaojidaaaGreatDoorRg3
import Derived.Test.YtkejpkcaojidaaaGreatDoorApp
import Derived.Test.YtkejpkcaojidaaaGreatDoorRgLaid
namespace Go.Proofs.YtkejpkcaojidaaaGreatDoor
set_option linter.unusedVariables false
set_option linter.unusedSimpArgs false
open Go.RowKit Rg

/-- The slice '.slice A n c' holds these stations, in blocks below B. -/
def LiesT (w : World) (B : Nat) (A : Option Addr) (n : Nat) (ts : List (Int × Int × Int)) : Prop :=
  ts.length = n ∧ (0 < n → ∃ b off, A = some ⟨b, off, none⟩ ∧ b < B ∧ ∀ j, j < n → w.cell? ⟨b, off + j * 3, none⟩ = some (.int .i64 (ts.getD j (0, 0, 0)).1) ∧ w.cell? ⟨b, off + j * 3 + 1, none⟩ = some (.int .u32 (ts.getD j (0, 0, 0)).2.1) ∧ w.cell? ⟨b, off + j * 3 + 2, none⟩ = some (.int .i64 (ts.getD j (0, 0, 0)).2.2))
section
variable {w w' : World} {B B' n : Nat} {A : Option Addr} {ts : List (Int × Int × Int)}
theorem LiesT.len (h : LiesT w B A n ts) : ts.length = n := h.1
theorem LiesT.nil_ : LiesT w B A 0 [] := ⟨rfl, fun h => absurd h (by omega)⟩
theorem LiesT.keep (h : LiesT w B A n ts) (hB : B ≤ B') (hk : ∀ p : Addr, p.block < B → w'.cell? p = w.cell? p) : LiesT w' B' A n ts :=
  ⟨h.1, fun hn => by
    obtain ⟨b, off, e, hb, hc⟩ := h.2 hn
    exact ⟨b, off, e, by omega, fun j hj => ⟨(hk _ hb).trans (hc j hj).1, (hk _ hb).trans (hc j hj).2.1, (hk _ hb).trans (hc j hj).2.2⟩⟩⟩
theorem LiesT.on (h : LiesT w w.heap.size A n ts) (hb : Below w.heap.size w w') : LiesT w' w'.heap.size A n ts :=
  h.keep hb.size fun _ hp => hb.cell hp
theorem LiesT.at_ (h : LiesT w B A n ts) (hn : 0 < n) : ∃ b off, A = some ⟨b, off, none⟩ ∧ b < B ∧ ∀ j, j < n → w.cell? ⟨b, off + j * 3, none⟩ = some (.int .i64 (ts.getD j (0, 0, 0)).1) ∧ w.cell? ⟨b, off + j * 3 + 1, none⟩ = some (.int .u32 (ts.getD j (0, 0, 0)).2.1) ∧ w.cell? ⟨b, off + j * 3 + 2, none⟩ = some (.int .i64 (ts.getD j (0, 0, 0)).2.2) := h.2 hn
end
/-- A config lies in memory: its lists read so. -/
structure CfIn (w : World) (c : Cf) : Prop where
  p : Lies .i64 w w.heap.size c.pA c.pn c.P
  s : Lies .i64 w w.heap.size c.sA c.sn c.S
  b : Lies .i64 w w.heap.size c.bA c.bn c.B
  t : LiesT w w.heap.size c.tA c.tn c.T
  few : c.pn ≤ 65536 ∧ c.sn ≤ 65536 ∧ c.bn ≤ 65536 ∧ c.tn ≤ 65536
theorem CfIn.on {w w' : World} {c : Cf} (h : CfIn w c) (hb : Below w.heap.size w w') : CfIn w' c := ⟨h.p.on hb, h.s.on hb, h.b.on hb, h.t.on hb, h.few⟩
theorem CfIn.al {w : World} {c : Cf} (h : CfIn w c) (o : Obj) : CfIn (w.alloc o) c := h.on ((Below.refl _ _).alloc (Nat.le_refl _) o)

/-- A config that lies in a block: its cells. -/
theorem Blk.cf {w : World} {g : Nat} {t : TypeId} {c : Cf} (h : Blk w g t #[.int .i64 c.N, .slice c.pA c.pn c.pc, .slice c.sA c.sn c.sc, .int .i64 c.L, .slice c.bA c.bn c.bc, .slice c.tA c.tn c.tc, .int .i64 c.M, .int .i64 c.G, .int .i64 c.F]) : w.cell? ⟨g, 0, none⟩ = some (.int .i64 c.N) ∧ w.cell? ⟨g, 1, none⟩ = some (.slice c.pA c.pn c.pc) ∧ w.cell? ⟨g, 2, none⟩ = some (.slice c.sA c.sn c.sc) ∧ w.cell? ⟨g, 3, none⟩ = some (.int .i64 c.L) ∧ w.cell? ⟨g, 4, none⟩ = some (.slice c.bA c.bn c.bc) ∧ w.cell? ⟨g, 5, none⟩ = some (.slice c.tA c.tn c.tc) ∧ w.cell? ⟨g, 6, none⟩ = some (.int .i64 c.M) ∧ w.cell? ⟨g, 7, none⟩ = some (.int .i64 c.G) ∧ w.cell? ⟨g, 8, none⟩ = some (.int .i64 c.F) :=
  ⟨h.cell 0, h.cell 1, h.cell 2, h.cell 3, h.cell 4, h.cell 5, h.cell 6, h.cell 7, h.cell 8⟩
/-- An element of a list of numbers, of stations: where it lies. -/
theorem idxNums {A : Option Addr} {n : Nat} (c : Nat) {k b off : Nat} (hA : A = some ⟨b, off, none⟩) (hk : k < n) (w : World) :
    (Instr.indexAt 22 (.slice A n c) (.int .i64 (k : Int))).run Tryz.prog w = .ok (.pointer (some ⟨b, off + k, none⟩)) w := by
  subst hA
  rw [run_indexAt_slice (h := elemNums), if_pos (by omega), sizeNums]
  simp [Result.andThen, Addr.add_lit]
theorem elemSts : Tryz.prog.underlying 23 = some (.slice (Tryz.prog.elem 23)) := by kernel_rfl
theorem sizeSts (w : World) : (sizeOf (Tryz.prog.elem 23)).run Tryz.prog w = .ok 3 w := by kernel_rfl
theorem idxSts {A : Option Addr} {n : Nat} (c : Nat) {k b off : Nat} (hA : A = some ⟨b, off, none⟩) (hk : k < n) (w : World) :
    (Instr.indexAt 23 (.slice A n c) (.int .i64 (k : Int))).run Tryz.prog w = .ok (.pointer (some ⟨b, off + k * 3, none⟩)) w := by
  subst hA
  rw [run_indexAt_slice (h := elemSts), if_pos (by omega), sizeSts]
  simp [Result.andThen, Addr.add_lit]

theorem within_any (lo hi : Int) (A : Option Addr) (m c : Nat) (xs : List Int) (w : World) (hx : Lies .i64 w w.heap.size A m xs) (hm : m ≤ 65536) :
    Calls Tryz.prog 67 #[.int .i64 lo, .int .i64 hi, .slice A m c] w fun e w' => e = .returned (.int .i64 (witL lo hi xs)) ∧ w = w' := by
  have HL := Lib.hid hx.len
  go_enter Tryz.func67, Tryz.ntmps67
  go_wp2
  go_loop [11] (fun i => ∃ k : Nat, k ≤ m ∧ i = .int .i64 k ∧ Hid (witL lo hi xs = witL lo hi (xs.drop k))) (fun i => m - (intOf i).toNat)
  case atStart => exact ⟨0, Nat.zero_le _, rfl, Lib.hid rfl⟩
  case round =>
    obtain ⟨k, hk, rfl, ht⟩ := hrel
    by_cases hlt : k < m
    · obtain ⟨b, off, rfl, hb, hc⟩ := hx.at_ (by omega)
      have hcell := hc k hlt
      clear hc
      have HS := Lib.hid (witL_drop lo hi xs k (by have := HL.out; omega))
      have HO := Lib.hid (witL_stop lo hi xs k (by have := HL.out; omega))
      obtain ⟨x, hx1⟩ : ∃ x, x = xs.getD k 0 := ⟨_, rfl⟩
      rw [← hx1] at hcell HS HO
      clear hx1
      by_cases h1 : hi < x
      · have HX := Lib.hid (wit_hi (lo := lo) h1)
        go_wp2
        go_ret
        exact ⟨ret_int (by rw [ht.out, HO.out (by rw [HX.out]; decide), HX.out]), rfl⟩
      · by_cases h2 : x < lo
        · have HX := Lib.hid (wit_lo h1 h2)
          have h1' : x ≤ hi := by omega
          clear h1
          go_wp2
          go_ret
          exact ⟨ret_int (by rw [ht.out, HO.out (by rw [HX.out]; decide), HX.out]), rfl⟩
        · have HX := Lib.hid (wit_ok.2 ⟨Int.not_lt.1 h2, Int.not_lt.1 h1⟩)
          have h1' : x ≤ hi := by omega
          have h2' : lo ≤ x := by omega
          clear h1 h2
          go_wp2
          go_round
          case rel => exact ⟨k + 1, by omega, by go_num, Lib.hid (ht.out.trans (HS.out HX.out))⟩
          case measure => simp [intOf]; omega
    · have HX := Lib.hid (show witL lo hi xs = 0 by rw [ht.out, List.drop_of_length_le (by have := HL.out; omega)]; rfl)
      go_wp2
      go_ret
      exact ⟨ret_int HX.out.symm, rfl⟩
theorem within1 (lo hi x : Int) (w : World) (t : TypeId) (g : Nat) (hg : g = w.heap.size) :
    Calls Tryz.prog 67 #[.int .i64 lo, .int .i64 hi, .slice (some ⟨g, 0, none⟩) 1 1] (w.alloc (.cells #[.int .i64 x] t)) fun e w' => e = .returned (.int .i64 (wit lo hi x)) ∧ (w.alloc (.cells #[.int .i64 x] t)) = w' := by
  rw [← witL_one]
  subst hg
  exact within_any lo hi _ 1 1 [x] _ (Lies.new w t .i64 [x] 1 rfl _ rfl) (by omega)
theorem within1d (lo hi x : Int) (w : World) (t : TypeId) (g : Nat) (hg : g = w.heap.size) :
    Calls Tryz.prog 67 #[.int .i64 lo, .int .i64 hi, .slice (some ⟨g, 0, none⟩) 1 1] (w.alloc (.cells #[.int .i64 x] t)).drew fun e w' => e = .returned (.int .i64 (wit lo hi x)) ∧ (w.alloc (.cells #[.int .i64 x] t)).drew = w' := by
  rw [← witL_one]
  subst hg
  exact within_any lo hi _ 1 1 [x] _ (Lies.new w t .i64 [x] 1 rfl _ rfl).drew (by omega)
theorem within3 (lo hi x y z : Int) (w : World) (t : TypeId) (g : Nat) (hg : g = w.heap.size) :
    Calls Tryz.prog 67 #[.int .i64 lo, .int .i64 hi, .slice (some ⟨g, 0, none⟩) 3 3] (w.alloc (.cells #[.int .i64 x, .int .i64 y, .int .i64 z] t)) fun e w' => e = .returned (.int .i64 (witL lo hi [x, y, z])) ∧ (w.alloc (.cells #[.int .i64 x, .int .i64 y, .int .i64 z] t)) = w' := by
  subst hg
  exact within_any lo hi _ 3 3 [x, y, z] _ (Lies.new w t .i64 [x, y, z] 3 rfl _ rfl) (by omega)

theorem leastLong_any (n : Int) (w : World) (h1 : 4 ≤ n) (h2 : n ≤ 16) :
    Calls Tryz.prog 73 #[.int .i64 n] w fun e w' => e = .returned (.int .i64 (n + 116)) ∧ w = w' := by
  have hm : max (3 * n + 1) (n + 114 + 2) = n + 116 := by omega
  go_enter Tryz.func73, Tryz.ntmps73
  go_wp2
  go_ret
  exact ⟨ret_int (by omega), rfl⟩

/-- Is there such a place? -/
def plB (n : Nat) (x : Int) : Bool := decide (0 ≤ x ∧ x < n)
theorem isPlace_any (A : Option Addr) (n c : Nat) (x : Int) (w : World) :
    Calls Tryz.prog 107 #[.slice A n c, .int .i64 x] w fun e w' => e = .returned (.bool (plB n x)) ∧ w = w' := by
  by_cases h : 0 ≤ x
  · by_cases k : x < n
    · have HP := Lib.hid (show plB n x = true by simp [plB, h, k])
      go_enter Tryz.func107, Tryz.ntmps107
      go_wp2
      go_ret
      exact ⟨ret_bool HP.out.symm, rfl⟩
    · have HP := Lib.hid (show plB n x = false by simp [plB, k])
      go_enter Tryz.func107, Tryz.ntmps107
      go_wp2
      go_ret
      exact ⟨ret_bool HP.out.symm, rfl⟩
  · have HP := Lib.hid (show plB n x = false by simp [plB, h])
    go_enter Tryz.func107, Tryz.ntmps107
    go_wp2
    go_ret
    exact ⟨ret_bool HP.out.symm, rfl⟩
theorem isPlace_b (A : Option Addr) (n c : Nat) (x : Int) (b : Bool) (hb : plB n x = b) (w : World) :
    Calls Tryz.prog 107 #[.slice A n c, .int .i64 x] w fun e w' => e = .returned (.bool b) ∧ w = w' := by
  subst hb; exact isPlace_any A n c x w
/-- What lies at a place of a list; -1: nothing. -/
def atM (xs : List Int) (x : Int) : Int := if 0 ≤ x ∧ x < xs.length then xs.getD x.toNat 0 else -1
theorem at_any (A : Option Addr) (n c : Nat) (xs : List Int) (x : Int) (w : World) (hx : Lies .i64 w w.heap.size A n xs) (hn : n ≤ 65536) :
    Calls Tryz.prog 80 #[.slice A n c, .int .i64 x] w fun e w' => e = .returned (.int .i64 (atM xs x)) ∧ w = w' := by
  have hl := hx.len
  by_cases h : 0 ≤ x ∧ x < n
  · obtain ⟨b, off, rfl, hb, hc⟩ := hx.at_ (by omega)
    have hcell := hc x.toNat (by omega)
    have HA := Lib.hid (show atM xs x = xs.getD x.toNat 0 by rw [atM, if_pos (by omega)])
    have HP := Lib.hid (show plB n x = true by simp [plB, h])
    obtain ⟨k, hk⟩ : ∃ k : Nat, x = k := ⟨x.toNat, by omega⟩
    subst hk
    obtain ⟨y, hy⟩ : ∃ y, y = xs.getD (k : Int).toNat 0 := ⟨_, rfl⟩
    rw [← hy] at hcell HA
    simp only [Int.toNat_natCast] at hcell
    have hk : k < n := by omega
    clear hy hc hl h hx
    go_enter Tryz.func80, Tryz.ntmps80
    go_wp2_with (go_at_call 107; with_reducible refine (isPlace_b _ n c _ true HP.out w).mono ?_; rintro e w' ⟨rfl, rfl⟩)
    go_ret
    exact ⟨ret_int HA.out.symm, rfl⟩
  · have HA := Lib.hid (show atM xs x = -1 by rw [atM, if_neg (by omega)])
    have HP := Lib.hid (show plB n x = false by simp only [plB]; exact decide_eq_false h)
    clear hl h hx
    go_enter Tryz.func80, Tryz.ntmps80
    go_wp2_with (go_at_call 107; with_reducible refine (isPlace_b _ n c _ false HP.out w).mono ?_; rintro e w' ⟨rfl, rfl⟩)
    go_ret
    exact ⟨ret_int HA.out.symm, rfl⟩
theorem second_any (c : Cf) (x : Int) (w : World) (hw : Ways w) :
    Calls Tryz.prog 83 #[.agg #[.int .i64 c.N, .slice c.pA c.pn c.pc, .slice c.sA c.sn c.sc, .int .i64 c.L, .slice c.bA c.bn c.bc, .slice c.tA c.tn c.tc, .int .i64 c.M, .int .i64 c.G, .int .i64 c.F], .int .i64 x] w fun e w' => e = .returned (.int .i64 (stepM c.N 0 x 1)) ∧ Below w.heap.size w w' := by
  go_enter Tryz.func83, Tryz.ntmps83
  go_wp2_with (go_at_call 94; with_reducible refine (step_any c.N 0 x 1 _ (hw.al _) (by omega) (by omega)).mono ?_; rintro e w' ⟨rfl, hb⟩)
  go_ret
  exact ⟨rfl, below_then (below_al (Below.refl _ _) _) hb⟩
end Go.Proofs.YtkejpkcaojidaaaGreatDoor

namespace Go.Proofs.YtkejpkcaojidaaaGreatDoor
open Go.RowKit Rg

theorem index_any (A : Option Addr) (n c : Nat) (xs : List Int) (x : Int) (w : World) (hx : Lies .i64 w w.heap.size A n xs) (hn : n ≤ 65536) :
    Calls Tryz.prog 127 #[.slice A n c, .int .i64 x] w fun e w' => (∃ y : Int, e = .returned (.int .i64 y) ∧ (0 ≤ y ↔ x ∈ xs)) ∧ w = w' := by
  have HL := Lib.hid hx.len
  go_enter Tryz.func127, Tryz.ntmps127
  go_wp2
  go_loop [8] (fun i => ∃ k : Nat, k ≤ n ∧ i = .int .i64 k ∧ Hid (¬ x ∈ xs.take k)) (fun i => n - (intOf i).toNat)
  case atStart => exact ⟨0, Nat.zero_le _, rfl, Lib.hid (by simp)⟩
  case round =>
    obtain ⟨k, hk, rfl, ht⟩ := hrel
    by_cases hlt : k < n
    · obtain ⟨b, off, rfl, hb, hc⟩ := hx.at_ (by omega)
      have hcell := hc k hlt
      clear hc
      have HS := Lib.hid (take_snoc xs k (by have := HL.out; omega))
      have HM := Lib.hid (show xs.getD k 0 ∈ xs by rw [getD_at _ _ (by have := HL.out; omega)]; exact List.getElem_mem _)
      obtain ⟨y, hy⟩ : ∃ y, y = xs.getD k 0 := ⟨_, rfl⟩
      rw [← hy] at hcell HS HM
      clear hy
      by_cases he : x = y
      · subst he
        go_wp2
        go_ret
        exact ⟨⟨k, rfl, by simp [HM.out]⟩, rfl⟩
      · have he' : (x == y) = false := by simpa using he
        have HE := Lib.hid he
        clear he
        go_wp2
        go_round
        case rel => exact ⟨k + 1, by omega, by go_num, Lib.hid (by rw [HS.out]; simp [ht.out, HE.out])⟩
        case measure => simp [intOf]; omega
    · have HX := Lib.hid (show ¬ x ∈ xs by have := ht.out; rwa [List.take_of_length_le (by have := HL.out; omega)] at this)
      go_wp2
      go_ret
      exact ⟨⟨-1, rfl, by simp [HX.out]⟩, rfl⟩
theorem contains_any (A : Option Addr) (n c : Nat) (xs : List Int) (x : Int) (b : Bool) (hb : decide (x ∈ xs) = b) (w : World) (hx : Lies .i64 w w.heap.size A n xs) (hn : n ≤ 65536) :
    Calls Tryz.prog 108 #[.slice A n c, .int .i64 x] w fun e w' => e = .returned (.bool b) ∧ w = w' := by
  have HB := Lib.hid hb
  clear hb
  go_enter Tryz.func108, Tryz.ntmps108
  go_wp2_with (go_at_call 127; (with_reducible refine (index_any A n c xs x w hx hn).mono ?_); rintro e w' ⟨⟨y, rfl, hy⟩, rfl⟩; have HY := Lib.hid hy; clear hy)
  go_ret
  refine ⟨ret_bool ?_, rfl⟩
  rw [← HB.out]
  exact decide_eq_decide.2 HY.out

theorem rule1_any (c : Cf) (w : World) :
    Calls Tryz.prog 66 #[.agg #[.int .i64 c.N, .slice c.pA c.pn c.pc, .slice c.sA c.sn c.sc, .int .i64 c.L, .slice c.bA c.bn c.bc, .slice c.tA c.tn c.tc, .int .i64 c.M, .int .i64 c.G, .int .i64 c.F]] w fun e w' => e = .returned (.int .i64 (wit 4 16 c.N)) ∧ Below w.heap.size w w' := by
  go_enter Tryz.func66, Tryz.ntmps66
  go_wp2_with (go_at_call 67; (with_reducible refine (within1 4 16 c.N _ _ _ (by simp)).mono ?_); rintro e w' ⟨rfl, rfl⟩)
  go_ret
  exact ⟨rfl, below_al (below_al (Below.refl _ _) _) _⟩
theorem rule2_any (c : Cf) (w : World) :
    Calls Tryz.prog 68 #[.agg #[.int .i64 c.N, .slice c.pA c.pn c.pc, .slice c.sA c.sn c.sc, .int .i64 c.L, .slice c.bA c.bn c.bc, .slice c.tA c.tn c.tc, .int .i64 c.M, .int .i64 c.G, .int .i64 c.F]] w fun e w' => e = .returned (.int .i64 (wit 2 8 c.pn)) ∧ Below w.heap.size w w' := by
  go_enter Tryz.func68, Tryz.ntmps68
  go_wp2_with (go_at_call 67; (with_reducible refine (within1 2 8 c.pn _ _ _ (by simp)).mono ?_); rintro e w' ⟨rfl, rfl⟩)
  go_ret
  exact ⟨rfl, below_al (below_al (Below.refl _ _) _) _⟩
theorem rule4_any (c : Cf) (w : World) :
    Calls Tryz.prog 70 #[.agg #[.int .i64 c.N, .slice c.pA c.pn c.pc, .slice c.sA c.sn c.sc, .int .i64 c.L, .slice c.bA c.bn c.bc, .slice c.tA c.tn c.tc, .int .i64 c.M, .int .i64 c.G, .int .i64 c.F]] w fun e w' => e = .returned (.int .i64 (wit 1 16 c.sn)) ∧ Below w.heap.size w w' := by
  go_enter Tryz.func70, Tryz.ntmps70
  go_wp2_with (go_at_call 67; (with_reducible refine (within1 1 16 c.sn _ _ _ (by simp)).mono ?_); rintro e w' ⟨rfl, rfl⟩)
  go_ret
  exact ⟨rfl, below_al (below_al (Below.refl _ _) _) _⟩
theorem rule8_any (c : Cf) (w : World) :
    Calls Tryz.prog 75 #[.agg #[.int .i64 c.N, .slice c.pA c.pn c.pc, .slice c.sA c.sn c.sc, .int .i64 c.L, .slice c.bA c.bn c.bc, .slice c.tA c.tn c.tc, .int .i64 c.M, .int .i64 c.G, .int .i64 c.F]] w fun e w' => e = .returned (.int .i64 (wit 0 8 c.tn)) ∧ Below w.heap.size w w' := by
  go_enter Tryz.func75, Tryz.ntmps75
  go_wp2_with (go_at_call 67; (with_reducible refine (within1 0 8 c.tn _ _ _ (by simp)).mono ?_); rintro e w' ⟨rfl, rfl⟩)
  go_ret
  exact ⟨rfl, below_al (below_al (Below.refl _ _) _) _⟩
theorem rule10_any (c : Cf) (w : World) :
    Calls Tryz.prog 77 #[.agg #[.int .i64 c.N, .slice c.pA c.pn c.pc, .slice c.sA c.sn c.sc, .int .i64 c.L, .slice c.bA c.bn c.bc, .slice c.tA c.tn c.tc, .int .i64 c.M, .int .i64 c.G, .int .i64 c.F]] w fun e w' => e = .returned (.int .i64 (witL 1 100 [c.M, c.G, c.F])) ∧ Below w.heap.size w w' := by
  go_enter Tryz.func77, Tryz.ntmps77
  go_wp2_with (go_at_call 67; (with_reducible refine (within3 1 100 c.M c.G c.F _ _ _ (by simp)).mono ?_); rintro e w' ⟨rfl, rfl⟩)
  go_ret
  exact ⟨rfl, below_al (below_al (Below.refl _ _) _) _⟩
theorem rule7_any (c : Cf) (w : World) (hc : CfIn w c) :
    Calls Tryz.prog 74 #[.agg #[.int .i64 c.N, .slice c.pA c.pn c.pc, .slice c.sA c.sn c.sc, .int .i64 c.L, .slice c.bA c.bn c.bc, .slice c.tA c.tn c.tc, .int .i64 c.M, .int .i64 c.G, .int .i64 c.F]] w fun e w' => e = .returned (.int .i64 (bootsE c.N c.bn c.B)) ∧ Below w.heap.size w w' := by
  by_cases h : (c.bn : Int) = c.N
  · have HE := Lib.hid (show bootsE c.N c.bn c.B = witL 0 4096 c.B by rw [bootsE, if_pos h])
    have hn := beq_iff_eq.2 h
    clear h
    go_enter Tryz.func74, Tryz.ntmps74
    go_wp2_with (go_at_call 67; (with_reducible refine (within_any 0 4096 _ c.bn c.bc c.B _ (hc.al _).b hc.few.2.2.1).mono ?_); rintro e w' ⟨rfl, rfl⟩)
    go_ret
    exact ⟨ret_int HE.out.symm, below_al (Below.refl _ _) _⟩
  · have HE := Lib.hid (show bootsE c.N c.bn c.B = 1 by rw [bootsE, if_neg h])
    have hn := beq_eq_false_iff_ne.2 h
    clear h
    go_enter Tryz.func74, Tryz.ntmps74
    go_wp2
    go_ret
    exact ⟨ret_int HE.out.symm, below_al (Below.refl _ _) _⟩
end Go.Proofs.YtkejpkcaojidaaaGreatDoor

namespace Go.Proofs.YtkejpkcaojidaaaGreatDoor
open Go.RowKit Rg

theorem second_is (c : Cf) (x y : Int) (hy : stepM c.N 0 x 1 = y) (w : World) (hw : Ways w) :
    Calls Tryz.prog 83 #[.agg #[.int .i64 c.N, .slice c.pA c.pn c.pc, .slice c.sA c.sn c.sc, .int .i64 c.L, .slice c.bA c.bn c.bc, .slice c.tA c.tn c.tc, .int .i64 c.M, .int .i64 c.G, .int .i64 c.F], .int .i64 x] w fun e w' => e = .returned (.int .i64 y) ∧ Below w.heap.size w w' := by
  subst hy; exact second_any c x w hw

theorem Blk.far_ {w : World} {g : Nat} {t : TypeId} {cs : Array Value} (h : Blk w g t cs) {p : Addr} (hp : g ≠ p.block) (u : Value) : Blk (w.setCell p u) g t cs := (Below.heap_setCell w p u g hp).trans h
set_option maxRecDepth 100000 in
theorem rule3_any (c : Cf) (w : World) (hc : CfIn w c) (hw : Ways w) (h1 : 4 ≤ c.N) (h2 : c.N ≤ 16) :
    Calls Tryz.prog 69 #[.agg #[.int .i64 c.N, .slice c.pA c.pn c.pc, .slice c.sA c.sn c.sc, .int .i64 c.L, .slice c.bA c.bn c.bc, .slice c.tA c.tn c.tc, .int .i64 c.M, .int .i64 c.G, .int .i64 c.F]] w fun e w' => e = .returned (.int .i64 (pairsE c.N c.P)) ∧ Below w.heap.size w w' := by
  have HL := Lib.hid hc.p.len
  have hfew := hc.few.1
  have HC := Lib.hid hc
  have HW := Lib.hid hw
  clear hc hw
  go_enter Tryz.func69, Tryz.ntmps69
  go_wp2_with fail
  go_loopw [4, 11] (fun l i wr => ∃ k : Nat, k ≤ c.pn ∧ i = .int .i64 k ∧ l = .int .i64 (lastP (c.P.take k)) ∧ Hid (okP c.N (c.P.take k)) ∧ Blk wr w.heap.size 25 #[.int .i64 c.N, .slice c.pA c.pn c.pc, .slice c.sA c.sn c.sc, .int .i64 c.L, .slice c.bA c.bn c.bc, .slice c.tA c.tn c.tc, .int .i64 c.M, .int .i64 c.G, .int .i64 c.F] ∧ Blk wr (w.heap.size + 1) 211 (cellsB (tkL c.N (c.P.take k))) ∧ Below w.heap.size w wr) (fun _ i _ => c.pn - (intOf i).toNat)
  case atStart =>
    refine ⟨0, Nat.zero_le _, rfl, rfl, Lib.hid (okP_nil _), (Blk.new w _ _).alloc _, ?_, below_al (below_al (Below.refl _ _) _) _⟩
    have := Blk.new (w.alloc (.cells #[.int .i64 c.N, .slice c.pA c.pn c.pc, .slice c.sA c.sn c.sc, .int .i64 c.L, .slice c.bA c.bn c.bc, .slice c.tA c.tn c.tc, .int .i64 c.M, .int .i64 c.G, .int .i64 c.F] 25)) 211 (cellsB (tkL c.N []))
    rw [alloc_size] at this
    exact this
  case round =>
    obtain ⟨k, hk, rfl, rfl, hok, hB1, hB2, hb⟩ := hrel
    by_cases hlt : k < c.pn
    · obtain ⟨b, off, hA, hbl, hcc⟩ := (HC.out.on hb).p.at_ (by omega)
      have hcell := hcc k hlt
      clear hcc
      have HS := Lib.hid (take_snoc c.P k (by have := HL.out; omega))
      have HT := Lib.hid (fun (h : okP c.N c.P) => okP_take h (k + 1))
      obtain ⟨a, ha⟩ : ∃ a, a = c.P.getD k 0 := ⟨_, rfl⟩
      obtain ⟨Q, hQ⟩ : ∃ Q, Q = c.P.take k := ⟨_, rfl⟩
      rw [← ha] at hcell HS
      rw [← hQ] at HS hok hB2 ⊢
      clear ha hQ
      have HO := Lib.hid (okP_snoc (a := a) h1 hok.out)
      have HR := Lib.hid (show ¬ oneP c.N Q a → pairsE c.N c.P = 1 from fun h => by
        rw [pairsE, if_neg fun q => h (HO.out.1 (by have := HT.out q; rwa [HS.out] at this))])
      have hz := hb.size
      by_cases hin : 0 ≤ a ∧ a < c.N
      · obtain ⟨ka, rfl⟩ : ∃ ka : Nat, a = ka := ⟨a.toNat, by omega⟩
        have hm := mod_bd ((ka : Int) + 1) c.N (by omega)
        obtain ⟨kb, hkb⟩ : ∃ kb : Nat, (kb : Int) = ((ka : Int) + 1) % c.N := ⟨(((ka : Int) + 1) % c.N).toNat, by omega⟩
        have HST := Lib.hid (show stepM c.N 0 ka 1 = kb by rw [step_of 1 ⟨h1, h2, by omega, hin.1, hin.2⟩, sg0, hkb])
        have HKB := Lib.hid hkb
        have hka : ka < 16 := by omega
        have hkb16 : kb < 16 := by omega
        have hcA := (hB2.cell ka).trans (cellsB_at _ ka (by rw [tkL_len]; exact hka))
        have hcB := (hB2.cell kb).trans (cellsB_at _ kb (by rw [tkL_len]; exact hkb16))
        have HTA := Lib.hid (tkL_at c.N Q ka hka)
        have HTB := Lib.hid (tkL_at c.N Q kb hkb16)
        have HSN := Lib.hid (tkL_snoc c.N Q ka kb hkb)
        obtain ⟨ta, hta⟩ : ∃ t, t = (tkL c.N Q).getD ka false := ⟨_, rfl⟩
        obtain ⟨tb, htb⟩ : ∃ t, t = (tkL c.N Q).getD kb false := ⟨_, rfl⟩
        rw [← hta] at hcA HTA
        rw [← htb] at hcB HTB
        have HIN := Lib.hid hin
        clear hta htb hkb hm hin
        have hnb : ((kb : Int) == -1) = false := beq_eq_false_iff_ne.2 (by omega)
        obtain ⟨l, hl⟩ : ∃ l, l = lastP Q := ⟨_, rfl⟩
        rw [← hl]
        have HLL := Lib.hid hl
        clear hl
        have hix := fun W => idxNums (n := c.pn) c.pc hA hlt W
        clear hA
        obtain ⟨k0, k1, k2, k3, k4, k5, k6, k7, k8⟩ := hB1.cf
        by_cases hlast : (ka : Int) ≤ l
        · have HX := Lib.hid (HR.out fun q => by have := q.2.1; rw [← HLL.out] at this; omega)
          go_wp2_with (go_at_call 83; (with_reducible refine (second_is c ka kb HST.out wr (HW.out.on hb)).mono ?_); rintro e w1 ⟨rfl, hb1⟩)
          go_ret
          exact ⟨ret_int HX.out.symm, hb.trans (hb1.mono hz)⟩
        · have hlast' : l < (ka : Int) := by omega
          clear hlast hcA hcB
          by_cases hta : ta = true
          · subst hta
            have HX := Lib.hid (HR.out fun q => by
              have h3 := any_not.2 q.2.2.1
              rw [← HTA.out] at h3
              cases h3)
            go_wp2_with (go_at_call 83; (with_reducible refine (second_is c ka kb HST.out wr (HW.out.on hb)).mono ?_); rintro e w1 ⟨rfl, hb1⟩; have hcA := (hB2.on hb1).cell ka; rw [cellsB_at _ ka (by rw [tkL_len]; exact hka), (tkL_at c.N Q ka hka).trans HTA.out.symm] at hcA)
            go_ret
            exact ⟨ret_int HX.out.symm, hb.trans (hb1.mono hz)⟩
          · have hta : ta = false := by simpa using hta
            subst hta
            by_cases htb : tb = true
            · subst htb
              have HX := Lib.hid (HR.out fun q => by
                have h3 := q.2.2.2
                rw [← HKB.out] at h3
                have h3 := any_not.2 h3
                rw [← HTB.out] at h3
                cases h3)
              go_wp2_with (go_at_call 83; (with_reducible refine (second_is c ka kb HST.out wr (HW.out.on hb)).mono ?_); rintro e w1 ⟨rfl, hb1⟩; have hcA := (hB2.on hb1).cell ka; rw [cellsB_at _ ka (by rw [tkL_len]; exact hka), (tkL_at c.N Q ka hka).trans HTA.out.symm] at hcA; have hcB := (hB2.on hb1).cell kb; rw [cellsB_at _ kb (by rw [tkL_len]; exact hkb16), (tkL_at c.N Q kb hkb16).trans HTB.out.symm] at hcB)
              go_ret
              exact ⟨ret_int HX.out.symm, hb.trans (hb1.mono hz)⟩
            · have htb : tb = false := by simpa using htb
              subst htb
              have HX := Lib.hid (HO.out.2 ⟨HIN.out, by rw [← HLL.out]; omega, any_not.1 HTA.out.symm, by rw [← HKB.out]; exact any_not.1 HTB.out.symm⟩)
              go_wp2_with (go_at_call 83; (with_reducible refine (second_is c ka kb HST.out wr (HW.out.on hb)).mono ?_); rintro e w1 ⟨rfl, hb1⟩; have hcA := (hB2.on hb1).cell ka; rw [cellsB_at _ ka (by rw [tkL_len]; exact hka), (tkL_at c.N Q ka hka).trans HTA.out.symm] at hcA; have hcB := (hB2.on hb1).cell kb; rw [cellsB_at _ kb (by rw [tkL_len]; exact hkb16), (tkL_at c.N Q kb hkb16).trans HTB.out.symm] at hcB; have hfr := (hB2.on hb1).frozen; have hcB2 := ((hB2.on hb1).set_ ka (.bool true)).cell kb; rw [cellsB_set, cellsB_at _ kb (by rw [List.length_set, tkL_len]; exact hkb16)] at hcB2)
              have hS := ((hB2.on hb1).set_ ka (.bool true)).set_ kb (.bool true)
              have hD := (((hB1.on hb1).far_ (p := ⟨w.heap.size + 1, ka, none⟩) (by simp) (.bool true)).far_ (p := ⟨w.heap.size + 1, kb, none⟩) (by simp) (.bool true))
              rw [cellsB_set, cellsB_set, HSN.out] at hS
              go_roundw
              case rel => exact ⟨k + 1, by omega, by go_num, by rw [HS.out, lastP_snoc], Lib.hid (by rw [HS.out]; exact HX.out), hD, by rw [HS.out]; exact hS, ((hb.trans (hb1.mono hz)).setCell (by simp) _).setCell (by simp) _⟩
              case measure => simp [intOf]; omega
      · have HX := Lib.hid (HR.out fun q => hin q.1)
        have HST := Lib.hid (show stepM c.N 0 a 1 = -1 by rw [step_no 1 (bfalse fun h => hin ⟨(ex1.1 h).2.2.2.1, (ex1.1 h).2.2.2.2⟩)])
        have hix := fun W => idxNums (n := c.pn) c.pc hA hlt W
        clear hA hin
        obtain ⟨k0, k1, k2, k3, k4, k5, k6, k7, k8⟩ := hB1.cf
        go_wp2_with (go_at_call 83; (with_reducible refine (second_is c a (-1) HST.out wr (HW.out.on hb)).mono ?_); rintro e w1 ⟨rfl, hb1⟩)
        go_ret
        exact ⟨ret_int HX.out.symm, hb.trans (hb1.mono hz)⟩
    · have HX := Lib.hid (show pairsE c.N c.P = 0 by have := hok.out; rw [List.take_of_length_le (by have := HL.out; omega)] at this; exact pairsE_ok.2 this)
      go_wp2_with fail
      go_ret
      exact ⟨ret_int HX.out.symm, hb⟩
end Go.Proofs.YtkejpkcaojidaaaGreatDoor

namespace Go.Proofs.YtkejpkcaojidaaaGreatDoor
open Go.RowKit Rg

theorem okS_first {n : Nat} {S : List Int} (k : Nat) (hk : k < S.length) (h : plB n (S.getD k 0) = false) : slotsE n S = 1 := by
  rw [slotsE, if_neg]
  intro q
  have := q.1 (S.getD k 0) (by rw [getD_at S k hk]; exact List.getElem_mem _)
  simp only [plB, decide_eq_false_iff_not] at h
  omega
theorem okS_second {n : Nat} {S : List Int} (k : Nat) (hk : k < n) (h : decide ((k : Int) ∈ S) = false) : slotsE n S = 1 := by
  rw [slotsE, if_neg]
  intro q
  simp at h
  exact h (q.2 k hk)
theorem okS_all {n : Nat} {S : List Int} (h1 : ∀ j, j < S.length → plB n (S.getD j 0) = true) (h2 : ∀ p, p < n → (p : Int) ∈ S) : slotsE n S = 0 := by
  rw [slotsE_ok]
  refine ⟨fun s hs => ?_, h2⟩
  obtain ⟨j, hj, rfl⟩ := List.getElem_of_mem hs
  have := h1 j hj
  rw [getD_at S j hj] at this
  simpa [plB] using this

set_option maxRecDepth 100000 in
theorem rule5_any (c : Cf) (w : World) (hc : CfIn w c) :
    Calls Tryz.prog 71 #[.agg #[.int .i64 c.N, .slice c.pA c.pn c.pc, .slice c.sA c.sn c.sc, .int .i64 c.L, .slice c.bA c.bn c.bc, .slice c.tA c.tn c.tc, .int .i64 c.M, .int .i64 c.G, .int .i64 c.F]] w fun e w' => e = .returned (.int .i64 (slotsE c.pn c.S)) ∧ Below w.heap.size w w' := by
  have HL := Lib.hid hc.s.len
  have hfs := hc.few.2.1
  have hfp := hc.few.1
  have hS := (hc.al (.cells #[.int .i64 c.N, .slice c.pA c.pn c.pc, .slice c.sA c.sn c.sc, .int .i64 c.L, .slice c.bA c.bn c.bc, .slice c.tA c.tn c.tc, .int .i64 c.M, .int .i64 c.G, .int .i64 c.F] 25)).s
  clear hc
  go_enter Tryz.func71, Tryz.ntmps71
  go_wp2_with fail
  go_loop [9] (fun i => ∃ k : Nat, k ≤ c.sn ∧ i = .int .i64 k ∧ Hid (∀ j, j < k → plB c.pn (c.S.getD j 0) = true)) (fun i => c.sn - (intOf i).toNat)
  case atStart => exact ⟨0, Nat.zero_le _, rfl, Lib.hid fun j hj => absurd hj (by omega)⟩
  case round =>
    obtain ⟨k, hk, rfl, ht⟩ := hrel
    by_cases hlt : k < c.sn
    · obtain ⟨b, off, hA, hbl, hcc⟩ := hS.at_ (by omega)
      have hcell := hcc k hlt
      clear hcc
      have hix := fun W => idxNums (n := c.sn) c.sc hA hlt W
      have HF := Lib.hid (okS_first (n := c.pn) (S := c.S) k (by have := HL.out; omega))
      have HN := Lib.hid (show plB c.pn (c.S.getD k 0) = true → ∀ j, j < k + 1 → plB c.pn (c.S.getD j 0) = true from fun h j hj => by
        rcases Nat.lt_succ_iff_lt_or_eq.1 hj with q | q
        · exact ht.out j q
        · rw [q]; exact h)
      obtain ⟨a, ha⟩ : ∃ a, a = c.S.getD k 0 := ⟨_, rfl⟩
      rw [← ha] at hcell HF HN
      clear ha hA
      by_cases hp : plB c.pn a = true
      · have HP := Lib.hid hp
        clear hp
        go_wp2_with (go_at_call 107; (with_reducible refine (isPlace_b _ _ _ _ true HP.out _).mono ?_); rintro e w1 ⟨rfl, rfl⟩)
        go_round
        case rel => exact ⟨k + 1, by omega, by go_num, Lib.hid (HN.out HP.out)⟩
        case measure => simp [intOf]; omega
      · have HP := Lib.hid (bfalse hp)
        clear hp
        go_wp2_with (go_at_call 107; (with_reducible refine (isPlace_b _ _ _ _ false HP.out _).mono ?_); rintro e w1 ⟨rfl, rfl⟩)
        go_ret
        exact ⟨ret_int (HF.out HP.out).symm, below_al (Below.refl _ _) _⟩
    · have H1 := Lib.hid (show ∀ j, j < c.S.length → plB c.pn (c.S.getD j 0) = true from fun j hj => ht.out j (by have := HL.out; omega))
      clear ht
      go_wp2_with fail
      go_loop [22] (fun i => ∃ p : Nat, p ≤ c.pn ∧ i = .int .i64 p ∧ Hid (∀ j, j < p → (j : Int) ∈ c.S)) (fun i => c.pn - (intOf i).toNat)
      case atStart => exact ⟨0, Nat.zero_le _, rfl, Lib.hid fun j hj => absurd hj (by omega)⟩
      case round =>
        obtain ⟨p, hpk, rfl, ht⟩ := hrel
        by_cases hlt2 : p < c.pn
        · have HF := Lib.hid (okS_second (n := c.pn) (S := c.S) p hlt2)
          have HN := Lib.hid (show (p : Int) ∈ c.S → ∀ j : Nat, j < p + 1 → (j : Int) ∈ c.S from fun h j hj => by
            rcases Nat.lt_succ_iff_lt_or_eq.1 hj with q | q
            · exact ht.out j q
            · rw [q]; exact h)
          by_cases hp : decide ((p : Int) ∈ c.S) = true
          · have HP := Lib.hid hp
            clear hp
            go_wp2_with (go_at_call 108; (with_reducible refine (contains_any _ _ _ c.S _ true HP.out _ hS hfs).mono ?_); rintro e w1 ⟨rfl, rfl⟩)
            go_round
            case rel => exact ⟨p + 1, by omega, by go_num, Lib.hid (HN.out (of_decide_eq_true HP.out))⟩
            case measure => simp [intOf]; omega
          · have HP := Lib.hid (bfalse hp)
            clear hp
            go_wp2_with (go_at_call 108; (with_reducible refine (contains_any _ _ _ c.S _ false HP.out _ hS hfs).mono ?_); rintro e w1 ⟨rfl, rfl⟩)
            go_ret
            exact ⟨ret_int (HF.out HP.out).symm, below_al (Below.refl _ _) _⟩
        · have HX := Lib.hid (okS_all (n := c.pn) (S := c.S) H1.out fun q hq => ht.out q (by omega))
          go_wp2_with fail
          go_ret
          exact ⟨ret_int HX.out.symm, below_al (Below.refl _ _) _⟩

set_option maxRecDepth 100000 in
theorem rule9_any (c : Cf) (w : World) (hc : CfIn w c) :
    Calls Tryz.prog 76 #[.agg #[.int .i64 c.N, .slice c.pA c.pn c.pc, .slice c.sA c.sn c.sc, .int .i64 c.L, .slice c.bA c.bn c.bc, .slice c.tA c.tn c.tc, .int .i64 c.M, .int .i64 c.G, .int .i64 c.F]] w fun e w' => e = .returned (.int .i64 (stL c.N c.T)) ∧ Below w.heap.size w w' := by
  have HL := Lib.hid hc.t.len
  have hft := hc.few.2.2.2
  have HC := Lib.hid hc
  clear hc
  go_enter Tryz.func76, Tryz.ntmps76
  go_wp2_with fail
  go_loopw [9] (fun i wr => ∃ k : Nat, k ≤ c.tn ∧ i = .int .i64 k ∧ Hid (stL c.N c.T = stL c.N (c.T.drop k)) ∧ Blk wr w.heap.size 25 #[.int .i64 c.N, .slice c.pA c.pn c.pc, .slice c.sA c.sn c.sc, .int .i64 c.L, .slice c.bA c.bn c.bc, .slice c.tA c.tn c.tc, .int .i64 c.M, .int .i64 c.G, .int .i64 c.F] ∧ Below w.heap.size w wr) (fun i _ => c.tn - (intOf i).toNat)
  case atStart => exact ⟨0, Nat.zero_le _, rfl, Lib.hid rfl, Blk.new w _ _, below_al (Below.refl _ _) _⟩
  case round =>
    obtain ⟨k, hk, rfl, ht, hB1, hb⟩ := hrel
    have hz := hb.size
    by_cases hlt : k < c.tn
    · obtain ⟨b, off, hA, hbl, hcc⟩ := (HC.out.on hb).t.at_ (by omega)
      obtain ⟨q0, q1, q2⟩ := hcc k hlt
      clear hcc
      have hix := fun W => idxSts (n := c.tn) c.tc hA hlt W
      have HD := Lib.hid (stL_drop c.N c.T k (by have := HL.out; omega))
      have HS := Lib.hid (stL_stop c.N c.T k (by have := HL.out; omega))
      obtain ⟨⟨x, y, z⟩, ha⟩ : ∃ s, s = c.T.getD k (0, 0, 0) := ⟨_, rfl⟩
      rw [← ha] at q0 q1 q2 HD HS
      clear ha hA
      simp only at q0 q1 q2
      obtain ⟨k0, k1, k2, k3, k4, k5, k6, k7, k8⟩ := hB1.cf
      have hbk : w.heap.size < wr.heap.size := hB1.lt
      by_cases hx0 : x < 0
      · have HE := Lib.hid (show stE c.N (x, y, z) = 1 by rw [stE, if_pos (by left; exact hx0)])
        go_wp2_with fail
        go_ret
        exact ⟨ret_int (by rw [ht.out, HS.out (by rw [HE.out]; decide), HE.out]), hb.alloc hz _⟩
      · by_cases hxN : c.N ≤ x
        · have HE := Lib.hid (show stE c.N (x, y, z) = 1 by rw [stE, if_pos (by right; exact hxN)])
          have hx0' : 0 ≤ x := by omega
          clear hx0
          go_wp2_with fail
          go_ret
          exact ⟨ret_int (by rw [ht.out, HS.out (by rw [HE.out]; decide), HE.out]), hb.alloc hz _⟩
        · have HE := Lib.hid (show stE c.N (x, y, z) = wit 1 100 z by rw [stE, if_neg (by simp only; omega)])
          have hx0' : 0 ≤ x := by omega
          have hxN' : x < c.N := by omega
          clear hx0 hxN
          by_cases hw0 : wit 1 100 z = 0
          · have HW := Lib.hid hw0
            clear hw0
            go_wp2_with (go_at_call 67; (with_reducible refine (within1 1 100 z _ _ _ (by simp)).mono ?_); rintro e w1 ⟨rfl, rfl⟩; rw [HW.out])
            go_roundw
            case rel => exact ⟨k + 1, by omega, by go_num, Lib.hid (ht.out.trans (HD.out (HE.out.trans HW.out))), (hB1.alloc _).alloc _, (hb.alloc hz _).alloc (by simp; omega) _⟩
            case measure => simp [intOf]; omega
          · have HW := Lib.hid hw0
            have hwb := beq_eq_false_iff_ne.2 hw0
            obtain ⟨v, hv⟩ : ∃ v, v = wit 1 100 z := ⟨_, rfl⟩
            rw [← hv] at hwb
            have HV := Lib.hid hv
            clear hw0 hv
            go_wp2_with (go_at_call 67; (with_reducible refine (within1 1 100 z _ _ _ (by simp)).mono ?_); rintro e w1 ⟨rfl, rfl⟩; rw [← HV.out])
            go_ret
            exact ⟨ret_int (by rw [ht.out, HS.out (by rw [HE.out]; exact HW.out), HE.out, HV.out]), (hb.alloc hz _).alloc (by simp; omega) _⟩
    · have HX := Lib.hid (show stL c.N c.T = 0 by rw [ht.out, List.drop_of_length_le (by have := HL.out; omega)]; rfl)
      go_wp2_with fail
      go_ret
      exact ⟨ret_int HX.out.symm, hb⟩
end Go.Proofs.YtkejpkcaojidaaaGreatDoor

