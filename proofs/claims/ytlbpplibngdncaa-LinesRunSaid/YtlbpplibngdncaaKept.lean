/-
  The contracts of the law's mark and of its book's kept: it returns true where each list of the book is full of its own mark; nothing that was there has turned. Conditions: what the book holds.
-/
import Derived.Test.YtlbpplibngdncaaBook
import Derived.Deep.QuietTactic
import Derived.BigQuiet
namespace Go.Proofs.Ytlbpplibngdncaa
open Go.RowKit

def markN (i t : Nat) : Nat := if t = 0 then i % 200 else i / 200 % 200
theorem markN_lt (i t : Nat) : markN i t < 200 := by unfold markN; split <;> omega
theorem mark_any (i t : Nat) (w : World) (hi : i ≤ 65536) (ht : t ≤ 1) :
    Calls Try.prog 35 #[.int .i64 i, .int .i64 t] w fun e w' => e = .returned (.int .i64 ((markN i t : Nat) : Int)) ∧ w' = w := by
  by_cases h : t = 0
  · subst h
    go_enter Try.func35, Try.ntmps35
    go_wp2
    go_ret
    exact ⟨ret_int (by simp [markN]), rfl⟩
  · obtain rfl : t = 1 := by omega
    go_enter Try.func35, Try.ntmps35
    go_wp2
    go_ret
    exact ⟨ret_int (by simp [markN]), rfl⟩

/-- A list of the book is full of v. -/
def Full (k : IntKind) (w : World) (p : Option Addr × Nat) (v : Nat) : Prop := 0 < p.2 → ∃ g, p.1 = some ⟨g, 0, none⟩ ∧ g < w.heap.size ∧ ∀ j, j < p.2 → w.cell? ⟨g, j, none⟩ = some (.int k (v : Int))
def FullAll (k : IntKind) (w : World) (l : List (Option Addr × Nat)) (t : Nat) : Prop := ∀ i, i < l.length → Full k w (l.getD i (none, 0)) (markN i t)
theorem Full.on {k : IntKind} {w w' : World} {p : Option Addr × Nat} {v : Nat} (h : Full k w p v) (hb : Below w.heap.size w w') : Full k w' p v := fun h0 => by
  obtain ⟨g, e, hg, hc⟩ := h h0
  exact ⟨g, e, Nat.lt_of_lt_of_le hg hb.size, fun j hj => (hb.cell (p := ⟨g, j, none⟩) hg).trans (hc j hj)⟩
theorem FullAll.on {k : IntKind} {w w' : World} {l : List (Option Addr × Nat)} {t : Nat} (h : FullAll k w l t) (hb : Below w.heap.size w w') : FullAll k w' l t := fun i hi => (h i hi).on hb

/-- A list's value in the book's row. -/
theorem owns_at {w : World} {base n : Nat} {e : TypeId} {A : Option Addr} {c : Nat} {l : List (Option Addr × Nat)} (h : w.ownsRow base e 1 (.slice A n c) l.length (hdr l)) {i : Nat} (hi : i < l.length) :
    ∃ g, A = some ⟨g, 0, none⟩ ∧ n = l.length ∧ g < w.heap.size ∧ base ≤ g ∧ w.cell? ⟨g, i, none⟩ = some (.slice (l.getD i (none, 0)).1 (l.getD i (none, 0)).2 (l.getD i (none, 0)).2) := by
  rcases h.2 with ⟨_, h0⟩ | ⟨g, cap, cur, hv, hb, hh, hnc, _, hcs, htk⟩
  · omega
  · injection hv with h1 h2 h3
    refine ⟨g, h1, h2, Blk.lt (t := e) (cs := cur) hh, hb, ?_⟩
    rw [Blk.cell (t := e) (cs := cur) hh i]
    have h4 : (cur.toList.take (l.length * 1))[i]? = cur[i]? := by
      rw [List.getElem?_take_of_lt (by omega)]; simp
    rw [← h4, htk]
    simp [hdr, List.getD, hi]
theorem owns_len {w : World} {base n : Nat} {e : TypeId} {v : Value} {xs : List Value} (h : w.ownsRow base e 1 v n xs) : ∃ A c, v = .slice A n c := by
  rcases h.2 with ⟨hv, h0⟩ | ⟨g, cap, cur, hv, _⟩
  · subst h0; exact ⟨_, _, hv⟩
  · exact ⟨_, _, hv⟩

set_option maxRecDepth 100000 in
theorem kept_any (w : World) (kb base t : Nat) (vb vn vs : Value) (lb ln ls : List (Option Addr × Nat)) (h : BookIs w kb base vb vn vs lb ln ls) (ht : t ≤ 1) (hlb : lb.length ≤ 65536) (hln : ln.length ≤ 65536) (hls : ls.length ≤ 65536)
    (hsb : ∀ p ∈ lb, p.2 ≤ 65536) (hsn : ∀ p ∈ ln, p.2 ≤ 65536) (hss : ∀ p ∈ ls, p.2 ≤ 65536) (fb : FullAll .u8 w lb t) (fn : FullAll .i64 w ln t) (fs : FullAll .u8 w ls t) :
    Calls Try.prog 36 #[.pointer (some ⟨kb, 0, none⟩), .int .i64 t] w fun e w' => e = .returned (.bool true) ∧ Below w.heap.size w w' := by
  obtain ⟨Ab, cb, hvb⟩ := owns_len h.ob
  obtain ⟨An, cn, hvn⟩ := owns_len h.on
  obtain ⟨As, cs, hvs⟩ := owns_len h.os
  subst hvb hvn hvs
  have HSB := Lib.hid hsb
  have HSN := Lib.hid hsn
  have HSS := Lib.hid hss
  clear hsb hsn hss
  go_enter Try.func36, Try.ntmps36
  go_wp2_with fail
  go_loopw [5] (fun v wr => ∃ i : Nat, i ≤ lb.length ∧ v = .int .i64 i ∧ Below w.heap.size w wr) (fun v _ => lb.length - (intOf v).toNat)
  case atStart => exact ⟨0, Nat.zero_le _, rfl, Below.refl _ _⟩
  case round =>
    obtain ⟨i, hi, rfl, hb⟩ := hrel
    have hbk := h.below hb
    have hk := hbk.blk.cell 0
    simp at hk
    by_cases hlt : i < lb.length
    · have hlti : (i : Int) < (lb.length : Int) := by omega
      obtain ⟨gh, hA, _, hgh, _, hch⟩ := owns_at hbk.ob hlt
      have hpm := HSB.out (lb.getD i (none, 0)) (by rw [List.getD, List.getElem?_eq_getElem hlt]; exact List.getElem_mem _)
      have hfull := Lib.hid ((fb.on hb) i hlt)
      obtain ⟨p, hp⟩ : ∃ p, p = lb.getD i (none, 0) := ⟨_, rfl⟩
      rw [← hp] at hch hpm hfull
      clear hp
      obtain ⟨Ap, m⟩ := p
      simp only at hch hpm
      obtain ⟨mk, hmk⟩ : ∃ mk, mk = markN i t := ⟨_, rfl⟩
      have hmk9 : mk < 200 := by rw [hmk]; exact markN_lt i t
      have hM := mark_any i t
      rw [← hmk] at hM hfull
      clear hmk
      have HMK := Lib.hid hM
      clear hM
      subst hA
      go_wp2_with fail
      go_loopw [6] (fun v wx => ∃ j : Nat, j ≤ m ∧ v = .int .i64 j ∧ Below wr.heap.size wr wx) (fun v _ => m - (intOf v).toNat)
      case atStart => exact ⟨0, Nat.zero_le _, rfl, Below.refl _ _⟩
      case round =>
        obtain ⟨j, hj, rfl, hbx⟩ := hrel
        have hk' := (hbx.cell (p := ⟨kb, 0, none⟩) hbk.blk.lt).trans hk
        have hch' := (hbx.cell (p := ⟨gh, i, none⟩) hgh).trans hch
        by_cases hjm : j < m
        · have hjmi : (j : Int) < (m : Int) := by omega
          have hi0 : (0 : Int) ≤ (i : Int) := by omega
          have hj0 : (0 : Int) ≤ (j : Int) := by omega
          obtain ⟨g, hg, hgl, hc⟩ := hfull.out (by simp only; omega)
          simp only at hg
          subst hg
          have hcd := (hbx.cell (p := ⟨g, j, none⟩) hgl).trans (hc j hjm)
          have hne : ((mk : Int) != (mk : Int)) = false := by simp
          have hwr : IntKind.u8.wrap (mk : Int) = (mk : Int) := by rw [IntKind.wrap_u8]; omega
          clear hc hk hch
          go_wp2_with fail
          go_quiet ((go_at_call 35; exact Calls.quiet_of_same (HMK.out _ (by omega) (by omega))))
          go_wp2_with fail
          go_roundw
          case rel => exact ⟨j + 1, by omega, by go_num, below_drewN hbx _⟩
          case measure => simp [intOf]; omega
        · have hjmi : (m : Int) ≤ (j : Int) := by omega
          go_wp2_with fail
          go_roundw
          case rel => exact ⟨i + 1, by omega, by go_num, below_then hb hbx⟩
          case measure => simp [intOf]; omega
    · have hlti : (lb.length : Int) ≤ (i : Int) := by omega
      clear hbk
      go_wp2_with fail
      go_loopw [7] (fun v wr => ∃ i : Nat, i ≤ ln.length ∧ v = .int .i64 i ∧ Below w.heap.size w wr) (fun v _ => ln.length - (intOf v).toNat)
      case atStart => exact ⟨0, Nat.zero_le _, rfl, hb⟩
      case round =>
        obtain ⟨i, hi, rfl, hb⟩ := hrel
        have hbk := h.below hb
        have hk := hbk.blk.cell 1
        simp at hk
        by_cases hlt : i < ln.length
        · have hlti : (i : Int) < (ln.length : Int) := by omega
          obtain ⟨gh, hA, _, hgh, _, hch⟩ := owns_at hbk.on hlt
          have hpm := HSN.out (ln.getD i (none, 0)) (by rw [List.getD, List.getElem?_eq_getElem hlt]; exact List.getElem_mem _)
          have hfull := Lib.hid ((fn.on hb) i hlt)
          obtain ⟨p, hp⟩ : ∃ p, p = ln.getD i (none, 0) := ⟨_, rfl⟩
          rw [← hp] at hch hpm hfull
          clear hp
          obtain ⟨Ap, m⟩ := p
          simp only at hch hpm
          obtain ⟨mk, hmk⟩ : ∃ mk, mk = markN i t := ⟨_, rfl⟩
          have hmk9 : mk < 200 := by rw [hmk]; exact markN_lt i t
          have hM := mark_any i t
          rw [← hmk] at hM hfull
          clear hmk
          have HMK := Lib.hid hM
          clear hM
          subst hA
          go_wp2_with fail
          go_loopw [8] (fun v wx => ∃ j : Nat, j ≤ m ∧ v = .int .i64 j ∧ Below wr.heap.size wr wx) (fun v _ => m - (intOf v).toNat)
          case atStart => exact ⟨0, Nat.zero_le _, rfl, Below.refl _ _⟩
          case round =>
            obtain ⟨j, hj, rfl, hbx⟩ := hrel
            have hk' := (hbx.cell (p := ⟨kb, 1, none⟩) hbk.blk.lt).trans hk
            have hch' := (hbx.cell (p := ⟨gh, i, none⟩) hgh).trans hch
            by_cases hjm : j < m
            · have hjmi : (j : Int) < (m : Int) := by omega
              have hi0 : (0 : Int) ≤ (i : Int) := by omega
              have hj0 : (0 : Int) ≤ (j : Int) := by omega
              obtain ⟨g, hg, hgl, hc⟩ := hfull.out (by simp only; omega)
              simp only at hg
              subst hg
              have hcd := (hbx.cell (p := ⟨g, j, none⟩) hgl).trans (hc j hjm)
              have hne : ((mk : Int) != (mk : Int)) = false := by simp
              clear hc hk hch
              go_wp2_with fail
              go_quiet ((go_at_call 35; exact Calls.quiet_of_same (HMK.out _ (by omega) (by omega))))
              go_wp2_with fail
              go_roundw
              case rel => exact ⟨j + 1, by omega, by go_num, below_drewN hbx _⟩
              case measure => simp [intOf]; omega
            · have hjmi : (m : Int) ≤ (j : Int) := by omega
              go_wp2_with fail
              go_roundw
              case rel => exact ⟨i + 1, by omega, by go_num, below_then hb hbx⟩
              case measure => simp [intOf]; omega
        · have hlti : (ln.length : Int) ≤ (i : Int) := by omega
          clear hbk
          go_wp2_with fail
          go_loopw [9] (fun v wr => ∃ i : Nat, i ≤ ls.length ∧ v = .int .i64 i ∧ Below w.heap.size w wr) (fun v _ => ls.length - (intOf v).toNat)
          case atStart => exact ⟨0, Nat.zero_le _, rfl, hb⟩
          case round =>
            obtain ⟨i, hi, rfl, hb⟩ := hrel
            have hbk := h.below hb
            have hk := hbk.blk.cell 2
            simp at hk
            by_cases hlt : i < ls.length
            · have hlti : (i : Int) < (ls.length : Int) := by omega
              obtain ⟨gh, hA, _, hgh, _, hch⟩ := owns_at hbk.os hlt
              have hpm := HSS.out (ls.getD i (none, 0)) (by rw [List.getD, List.getElem?_eq_getElem hlt]; exact List.getElem_mem _)
              have hfull := Lib.hid ((fs.on hb) i hlt)
              obtain ⟨p, hp⟩ : ∃ p, p = ls.getD i (none, 0) := ⟨_, rfl⟩
              rw [← hp] at hch hpm hfull
              clear hp
              obtain ⟨Ap, m⟩ := p
              simp only at hch hpm
              obtain ⟨mk, hmk⟩ : ∃ mk, mk = markN i t := ⟨_, rfl⟩
              have hmk9 : mk < 200 := by rw [hmk]; exact markN_lt i t
              have hM := mark_any i t
              rw [← hmk] at hM hfull
              clear hmk
              have HMK := Lib.hid hM
              clear hM
              subst hA
              go_wp2_with fail
              go_loopw [10] (fun v wx => ∃ j : Nat, j ≤ m ∧ v = .int .i64 j ∧ Below wr.heap.size wr wx) (fun v _ => m - (intOf v).toNat)
              case atStart => exact ⟨0, Nat.zero_le _, rfl, Below.refl _ _⟩
              case round =>
                obtain ⟨j, hj, rfl, hbx⟩ := hrel
                have hk' := (hbx.cell (p := ⟨kb, 2, none⟩) hbk.blk.lt).trans hk
                have hch' := (hbx.cell (p := ⟨gh, i, none⟩) hgh).trans hch
                by_cases hjm : j < m
                · have hjmi : (j : Int) < (m : Int) := by omega
                  have hi0 : (0 : Int) ≤ (i : Int) := by omega
                  have hj0 : (0 : Int) ≤ (j : Int) := by omega
                  obtain ⟨g, hg, hgl, hc⟩ := hfull.out (by simp only; omega)
                  simp only at hg
                  subst hg
                  have hcd := (hbx.cell (p := ⟨g, j, none⟩) hgl).trans (hc j hjm)
                  have hne : ((mk : Int) != (mk : Int)) = false := by simp
                  have hwr : IntKind.u8.wrap (mk : Int) = (mk : Int) := by rw [IntKind.wrap_u8]; omega
                  clear hc hk hch
                  go_wp2_with fail
                  go_quiet ((go_at_call 35; exact Calls.quiet_of_same (HMK.out _ (by omega) (by omega))))
                  go_wp2_with fail
                  go_roundw
                  case rel => exact ⟨j + 1, by omega, by go_num, below_drewN hbx _⟩
                  case measure => simp [intOf]; omega
                · have hjmi : (m : Int) ≤ (j : Int) := by omega
                  go_wp2_with fail
                  go_roundw
                  case rel => exact ⟨i + 1, by omega, by go_num, below_then hb hbx⟩
                  case measure => simp [intOf]; omega
            · have hlti : (ls.length : Int) ≤ (i : Int) := by omega
              clear hbk
              go_wp2_with fail
              go_ret
              exact ⟨rfl, hb⟩
end Go.Proofs.Ytlbpplibngdncaa
