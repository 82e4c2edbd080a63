/-
  A config in memory, and the contracts of package configs' small functions: within, leastLong, isPlace, at, second. Conditions: those that are named; the table of directions is as the program's text lays it.
-/
import Derived.Test.YtajkpbmjgncbbaaDoorCfM
import Derived.Test.YtajkpbmjgncbbaaDoorRg2
import Derived.Test.YtajkpbmjgncbbaaDoorApp
namespace Go.Proofs.YtajkpbmjgncbbaaDoor
open Go.RowKit Rg

/-- The slice '.slice A n c' holds these stations, in blocks below B. -/
def LiesT (w : World) (B : Nat) (A : Option Addr) (n : Nat) (ts : List (Int × Int × Int)) : Prop :=
  ts.length = n ∧ (0 < n → ∃ b off, A = some ⟨b, off, none⟩ ∧ b < B ∧ ∀ j, j < n → w.cell? ⟨b, off + j * 3, none⟩ = some (.int .i64 (ts.getD j (0, 0, 0)).1) ∧ w.cell? ⟨b, off + j * 3 + 1, none⟩ = some (.int .u32 (ts.getD j (0, 0, 0)).2.1) ∧ w.cell? ⟨b, off + j * 3 + 2, none⟩ = some (.int .i64 (ts.getD j (0, 0, 0)).2.2))
section
variable {w w' : World} {B B' n : Nat} {A : Option Addr} {ts : List (Int × Int × Int)}
theorem LiesT.len (h : LiesT w B A n ts) : ts.length = n := h.1
theorem LiesT.nil_ : LiesT w B A 0 [] := ⟨rfl, fun h => absurd h (by omega)⟩
theorem LiesT.keep (h : LiesT w B A n ts) (hB : B ≤ B') (hk : ∀ p : Addr, p.block < B → w'.cell? p = w.cell? p) : LiesT w' B' A n ts :=
  ⟨h.1, fun hn => by
    obtain ⟨b, off, e, hb, hc⟩ := h.2 hn
    exact ⟨b, off, e, by omega, fun j hj => ⟨(hk _ hb).trans (hc j hj).1, (hk _ hb).trans (hc j hj).2.1, (hk _ hb).trans (hc j hj).2.2⟩⟩⟩
theorem LiesT.on (h : LiesT w w.heap.size A n ts) (hb : Below w.heap.size w w') : LiesT w' w'.heap.size A n ts :=
  h.keep hb.size fun _ hp => hb.cell hp
theorem LiesT.at_ (h : LiesT w B A n ts) (hn : 0 < n) : ∃ b off, A = some ⟨b, off, none⟩ ∧ b < B ∧ ∀ j, j < n → w.cell? ⟨b, off + j * 3, none⟩ = some (.int .i64 (ts.getD j (0, 0, 0)).1) ∧ w.cell? ⟨b, off + j * 3 + 1, none⟩ = some (.int .u32 (ts.getD j (0, 0, 0)).2.1) ∧ w.cell? ⟨b, off + j * 3 + 2, none⟩ = some (.int .i64 (ts.getD j (0, 0, 0)).2.2) := h.2 hn
end
/-- A config lies in memory: its lists read so. -/
structure CfIn (w : World) (c : Cf) : Prop where
  p : Lies .i64 w w.heap.size c.pA c.pn c.P
  s : Lies .i64 w w.heap.size c.sA c.sn c.S
  b : Lies .i64 w w.heap.size c.bA c.bn c.B
  t : LiesT w w.heap.size c.tA c.tn c.T
  few : c.pn ≤ 65536 ∧ c.sn ≤ 65536 ∧ c.bn ≤ 65536 ∧ c.tn ≤ 65536
theorem CfIn.on {w w' : World} {c : Cf} (h : CfIn w c) (hb : Below w.heap.size w w') : CfIn w' c := ⟨h.p.on hb, h.s.on hb, h.b.on hb, h.t.on hb, h.few⟩
theorem CfIn.al {w : World} {c : Cf} (h : CfIn w c) (o : Obj) : CfIn (w.alloc o) c := h.on ((Below.refl _ _).alloc (Nat.le_refl _) o)

/-- A config that lies in a block: its cells. -/
theorem Blk.cf {w : World} {g : Nat} {t : TypeId} {c : Cf} (h : Blk w g t #[.int .i64 c.N, .slice c.pA c.pn c.pc, .slice c.sA c.sn c.sc, .int .i64 c.L, .slice c.bA c.bn c.bc, .slice c.tA c.tn c.tc, .int .i64 c.M, .int .i64 c.G, .int .i64 c.F]) : w.cell? ⟨g, 0, none⟩ = some (.int .i64 c.N) ∧ w.cell? ⟨g, 1, none⟩ = some (.slice c.pA c.pn c.pc) ∧ w.cell? ⟨g, 2, none⟩ = some (.slice c.sA c.sn c.sc) ∧ w.cell? ⟨g, 3, none⟩ = some (.int .i64 c.L) ∧ w.cell? ⟨g, 4, none⟩ = some (.slice c.bA c.bn c.bc) ∧ w.cell? ⟨g, 5, none⟩ = some (.slice c.tA c.tn c.tc) ∧ w.cell? ⟨g, 6, none⟩ = some (.int .i64 c.M) ∧ w.cell? ⟨g, 7, none⟩ = some (.int .i64 c.G) ∧ w.cell? ⟨g, 8, none⟩ = some (.int .i64 c.F) :=
  ⟨h.cell 0, h.cell 1, h.cell 2, h.cell 3, h.cell 4, h.cell 5, h.cell 6, h.cell 7, h.cell 8⟩
/-- An element of a list of numbers, of stations: where it lies. -/
theorem idxNums {A : Option Addr} {n : Nat} (c : Nat) {k b off : Nat} (hA : A = some ⟨b, off, none⟩) (hk : k < n) (w : World) :
    (Instr.indexAt 22 (.slice A n c) (.int .i64 (k : Int))).run Tryd.prog w = .ok (.pointer (some ⟨b, off + k, none⟩)) w := by
  subst hA
  rw [run_indexAt_slice (h := elemNums), if_pos (by omega), sizeNums]
  simp [Result.andThen, Addr.add_lit]
theorem elemSts : Tryd.prog.underlying 23 = some (.slice (Tryd.prog.elem 23)) := by kernel_rfl
theorem sizeSts (w : World) : (sizeOf (Tryd.prog.elem 23)).run Tryd.prog w = .ok 3 w := by kernel_rfl
theorem idxSts {A : Option Addr} {n : Nat} (c : Nat) {k b off : Nat} (hA : A = some ⟨b, off, none⟩) (hk : k < n) (w : World) :
    (Instr.indexAt 23 (.slice A n c) (.int .i64 (k : Int))).run Tryd.prog w = .ok (.pointer (some ⟨b, off + k * 3, none⟩)) w := by
  subst hA
  rw [run_indexAt_slice (h := elemSts), if_pos (by omega), sizeSts]
  simp [Result.andThen, Addr.add_lit]

theorem within_any (lo hi : Int) (A : Option Addr) (m c : Nat) (xs : List Int) (w : World) (hx : Lies .i64 w w.heap.size A m xs) (hm : m ≤ 65536) :
    Calls Tryd.prog 49 #[.int .i64 lo, .int .i64 hi, .slice A m c] w fun e w' => e = .returned (.int .i64 (witL lo hi xs)) ∧ w = w' := by
  have HL := Lib.hid hx.len
  go_enter Tryd.func49, Tryd.ntmps49
  go_wp2
  go_loop [11] (fun i => ∃ k : Nat, k ≤ m ∧ i = .int .i64 k ∧ Hid (witL lo hi xs = witL lo hi (xs.drop k))) (fun i => m - (intOf i).toNat)
  case atStart => exact ⟨0, Nat.zero_le _, rfl, Lib.hid rfl⟩
  case round =>
    obtain ⟨k, hk, rfl, ht⟩ := hrel
    by_cases hlt : k < m
    · obtain ⟨b, off, rfl, hb, hc⟩ := hx.at_ (by omega)
      have hcell := hc k hlt
      clear hc
      have HS := Lib.hid (witL_drop lo hi xs k (by have := HL.out; omega))
      have HO := Lib.hid (witL_stop lo hi xs k (by have := HL.out; omega))
      obtain ⟨x, hx1⟩ : ∃ x, x = xs.getD k 0 := ⟨_, rfl⟩
      rw [← hx1] at hcell HS HO
      clear hx1
      by_cases h1 : hi < x
      · have HX := Lib.hid (wit_hi (lo := lo) h1)
        go_wp2
        go_ret
        exact ⟨ret_int (by rw [ht.out, HO.out (by rw [HX.out]; decide), HX.out]), rfl⟩
      · by_cases h2 : x < lo
        · have HX := Lib.hid (wit_lo h1 h2)
          have h1' : x ≤ hi := by omega
          clear h1
          go_wp2
          go_ret
          exact ⟨ret_int (by rw [ht.out, HO.out (by rw [HX.out]; decide), HX.out]), rfl⟩
        · have HX := Lib.hid (wit_ok.2 ⟨Int.not_lt.1 h2, Int.not_lt.1 h1⟩)
          have h1' : x ≤ hi := by omega
          have h2' : lo ≤ x := by omega
          clear h1 h2
          go_wp2
          go_round
          case rel => exact ⟨k + 1, by omega, by go_num, Lib.hid (ht.out.trans (HS.out HX.out))⟩
          case measure => simp [intOf]; omega
    · have HX := Lib.hid (show witL lo hi xs = 0 by rw [ht.out, List.drop_of_length_le (by have := HL.out; omega)]; rfl)
      go_wp2
      go_ret
      exact ⟨ret_int HX.out.symm, rfl⟩
theorem within1 (lo hi x : Int) (w : World) (t : TypeId) (g : Nat) (hg : g = w.heap.size) :
    Calls Tryd.prog 49 #[.int .i64 lo, .int .i64 hi, .slice (some ⟨g, 0, none⟩) 1 1] (w.alloc (.cells #[.int .i64 x] t)) fun e w' => e = .returned (.int .i64 (wit lo hi x)) ∧ (w.alloc (.cells #[.int .i64 x] t)) = w' := by
  rw [← witL_one]
  subst hg
  exact within_any lo hi _ 1 1 [x] _ (Lies.new w t .i64 [x] 1 rfl _ rfl) (by omega)
theorem within1d (lo hi x : Int) (w : World) (t : TypeId) (g : Nat) (hg : g = w.heap.size) :
    Calls Tryd.prog 49 #[.int .i64 lo, .int .i64 hi, .slice (some ⟨g, 0, none⟩) 1 1] (w.alloc (.cells #[.int .i64 x] t)).drew fun e w' => e = .returned (.int .i64 (wit lo hi x)) ∧ (w.alloc (.cells #[.int .i64 x] t)).drew = w' := by
  rw [← witL_one]
  subst hg
  exact within_any lo hi _ 1 1 [x] _ (Lies.new w t .i64 [x] 1 rfl _ rfl).drew (by omega)
theorem within3 (lo hi x y z : Int) (w : World) (t : TypeId) (g : Nat) (hg : g = w.heap.size) :
    Calls Tryd.prog 49 #[.int .i64 lo, .int .i64 hi, .slice (some ⟨g, 0, none⟩) 3 3] (w.alloc (.cells #[.int .i64 x, .int .i64 y, .int .i64 z] t)) fun e w' => e = .returned (.int .i64 (witL lo hi [x, y, z])) ∧ (w.alloc (.cells #[.int .i64 x, .int .i64 y, .int .i64 z] t)) = w' := by
  subst hg
  exact within_any lo hi _ 3 3 [x, y, z] _ (Lies.new w t .i64 [x, y, z] 3 rfl _ rfl) (by omega)

theorem leastLong_any (n : Int) (w : World) (h1 : 4 ≤ n) (h2 : n ≤ 16) :
    Calls Tryd.prog 55 #[.int .i64 n] w fun e w' => e = .returned (.int .i64 (n + 116)) ∧ w = w' := by
  have hm : max (3 * n + 1) (n + 114 + 2) = n + 116 := by omega
  go_enter Tryd.func55, Tryd.ntmps55
  go_wp2
  go_ret
  exact ⟨ret_int (by omega), rfl⟩

/-- Is there such a place? -/
def plB (n : Nat) (x : Int) : Bool := decide (0 ≤ x ∧ x < n)
theorem isPlace_any (A : Option Addr) (n c : Nat) (x : Int) (w : World) :
    Calls Tryd.prog 62 #[.slice A n c, .int .i64 x] w fun e w' => e = .returned (.bool (plB n x)) ∧ w = w' := by
  by_cases h : 0 ≤ x
  · by_cases k : x < n
    · have HP := Lib.hid (show plB n x = true by simp [plB, h, k])
      go_enter Tryd.func62, Tryd.ntmps62
      go_wp2
      go_ret
      exact ⟨ret_bool HP.out.symm, rfl⟩
    · have HP := Lib.hid (show plB n x = false by simp [plB, k])
      go_enter Tryd.func62, Tryd.ntmps62
      go_wp2
      go_ret
      exact ⟨ret_bool HP.out.symm, rfl⟩
  · have HP := Lib.hid (show plB n x = false by simp [plB, h])
    go_enter Tryd.func62, Tryd.ntmps62
    go_wp2
    go_ret
    exact ⟨ret_bool HP.out.symm, rfl⟩
theorem isPlace_b (A : Option Addr) (n c : Nat) (x : Int) (b : Bool) (hb : plB n x = b) (w : World) :
    Calls Tryd.prog 62 #[.slice A n c, .int .i64 x] w fun e w' => e = .returned (.bool b) ∧ w = w' := by
  subst hb; exact isPlace_any A n c x w
/-- What lies at a place of a list; -1: nothing. -/
def atM (xs : List Int) (x : Int) : Int := if 0 ≤ x ∧ x < xs.length then xs.getD x.toNat 0 else -1
theorem at_any (A : Option Addr) (n c : Nat) (xs : List Int) (x : Int) (w : World) (hx : Lies .i64 w w.heap.size A n xs) (hn : n ≤ 65536) :
    Calls Tryd.prog 43 #[.slice A n c, .int .i64 x] w fun e w' => e = .returned (.int .i64 (atM xs x)) ∧ w = w' := by
  have hl := hx.len
  by_cases h : 0 ≤ x ∧ x < n
  · obtain ⟨b, off, rfl, hb, hc⟩ := hx.at_ (by omega)
    have hcell := hc x.toNat (by omega)
    have HA := Lib.hid (show atM xs x = xs.getD x.toNat 0 by rw [atM, if_pos (by omega)])
    have HP := Lib.hid (show plB n x = true by simp [plB, h])
    obtain ⟨k, hk⟩ : ∃ k : Nat, x = k := ⟨x.toNat, by omega⟩
    subst hk
    obtain ⟨y, hy⟩ : ∃ y, y = xs.getD (k : Int).toNat 0 := ⟨_, rfl⟩
    rw [← hy] at hcell HA
    simp only [Int.toNat_natCast] at hcell
    have hk : k < n := by omega
    clear hy hc hl h hx
    go_enter Tryd.func43, Tryd.ntmps43
    go_wp2_with (go_at_call 62; with_reducible refine (isPlace_b _ n c _ true HP.out w).mono ?_; rintro e w' ⟨rfl, rfl⟩)
    go_ret
    exact ⟨ret_int HA.out.symm, rfl⟩
  · have HA := Lib.hid (show atM xs x = -1 by rw [atM, if_neg (by omega)])
    have HP := Lib.hid (show plB n x = false by simp only [plB]; exact decide_eq_false h)
    clear hl h hx
    go_enter Tryd.func43, Tryd.ntmps43
    go_wp2_with (go_at_call 62; with_reducible refine (isPlace_b _ n c _ false HP.out w).mono ?_; rintro e w' ⟨rfl, rfl⟩)
    go_ret
    exact ⟨ret_int HA.out.symm, rfl⟩
theorem second_any (c : Cf) (x : Int) (w : World) (hw : Ways w) :
    Calls Tryd.prog 34 #[.agg #[.int .i64 c.N, .slice c.pA c.pn c.pc, .slice c.sA c.sn c.sc, .int .i64 c.L, .slice c.bA c.bn c.bc, .slice c.tA c.tn c.tc, .int .i64 c.M, .int .i64 c.G, .int .i64 c.F], .int .i64 x] w fun e w' => e = .returned (.int .i64 (stepM c.N 0 x 1)) ∧ Below w.heap.size w w' := by
  go_enter Tryd.func34, Tryd.ntmps34
  go_wp2_with (go_at_call 32; with_reducible refine (step_any c.N 0 x 1 _ (hw.al _) (by omega) (by omega)).mono ?_; rintro e w' ⟨rfl, hb⟩)
  go_ret
  exact ⟨rfl, below_then (below_al (Below.refl _ _) _) hb⟩
end Go.Proofs.YtajkpbmjgncbbaaDoor

