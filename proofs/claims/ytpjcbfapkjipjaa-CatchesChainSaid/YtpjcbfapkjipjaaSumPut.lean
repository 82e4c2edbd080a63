/-
  The contract of sums.Put: the parts, one behind the other, and their sum's four bytes, in new memory without room behind; nothing that was there has turned. Conditions: the parts' readings, bytes, few parts of at most 65536 bytes.
-/
import Derived.Test.YtpjcbfapkjipjaaSumOf
import Derived.Test.YtpjcbfapkjipjaaKeep
namespace Go.Proofs.Ytpjcbfapkjipjaa
open Go.RowKit Crc

/-- A number's four bytes, the greatest first. -/
def four (v : Int) : List Int := [v / 16777216, v / 65536 % 256, v / 256 % 256, v % 256]
def sumI (l : List Int) : Int := iv (crc (bitsL l))
def putL (l : List Int) : List Int := l ++ four (sumI l)
theorem putL_length (l : List Int) : (putL l).length = l.length + 4 := by simp [putL, four]
theorem flat_length (ps : List (List Int)) (hb : ∀ l ∈ ps, l.length ≤ 65536) : ps.flatten.length ≤ 65536 * ps.length := by
  induction ps with
  | nil => simp
  | cons p ps ih =>
    have h1 := hb p (by simp)
    have h2 := ih fun l hl => hb l (by simp [hl])
    simp only [List.flatten_cons, List.length_append, List.length_cons]
    omega
theorem flat_take (ps : List (List Int)) (i : Nat) : (ps.take i).flatten.length ≤ ps.flatten.length := by
  have : ps.flatten = (ps.take i).flatten ++ (ps.drop i).flatten := by rw [← List.flatten_append, List.take_append_drop]
  rw [this, List.length_append]
  omega
theorem Parts.size {w : World} {A : Option Addr} {n : Nat} {ps : List (List Int)} (h : Parts w A n ps) : ps.flatten.length ≤ 524288 := by
  have h1 := flat_length ps (fun l hl => by
    obtain ⟨i, hi, rfl⟩ := List.getElem_of_mem hl
    obtain ⟨_, _, _, _, B, m, c, _, hl, hm⟩ := h.at_ i (by rw [← h.len]; exact hi)
    have := hl.len
    simp [List.getD, hi] at this
    omega)
  have := h.len
  have := h.few
  omega

set_option maxRecDepth 100000 in
theorem sumPut_any (A : Option Addr) (n c : Nat) (ps : List (List Int)) (w : World) (hp : Parts w A n ps) :
    Calls Try.prog 58 #[.slice A n c] w fun e w' => ∃ g, e = .returned (.slice (some ⟨g, 0, none⟩) (ps.flatten.length + 4) (ps.flatten.length + 4)) ∧ w.heap.size ≤ g ∧ Blk w' g 5 (cellsOf .u8 (putL ps.flatten)) ∧ Below w.heap.size w w' := by
  obtain ⟨i0, hi0, hz0, hz1, hz2⟩ := info_parts infoBytes
  have HP := Lib.hid hp
  have hfew := hp.few
  have HL := Lib.hid hp.len
  have hsz := hp.size
  have HFT := Lib.hid (flat_take ps)
  have HSN := Lib.hid (parts_snoc ps)
  have HOF := Lib.hid (fun W (h : Parts W A n ps) => sumOf_any A n c ps W h)
  have HPL := Lib.hid (show putL ps.flatten = ps.flatten ++ four (iv (crc (bitsL ps.flatten))) from rfl)
  have h0 := iv_lo (crc (bitsL ps.flatten))
  have h1 := iv_hi (crc (bitsL ps.flatten))
  obtain ⟨v, hv⟩ : ∃ v, v = iv (crc (bitsL ps.flatten)) := ⟨_, rfl⟩
  rw [← hv] at h0 h1 HPL HOF
  clear hv hp
  obtain ⟨M, hM⟩ : ∃ M, M = ps.flatten.length := ⟨_, rfl⟩
  rw [← hM] at hsz HFT ⊢
  have HM := Lib.hid hM
  clear hM
  go_enter Try.func58, Try.ntmps58
  go_wp2_with fail
  go_loop [3, 12] (fun a iv' => ∃ i : Nat, i ≤ n ∧ iv' = .int .i64 i ∧ a = .int .i64 ((4 + (ps.take i).flatten.length : Nat) : Int)) (fun _ iv' => n - (intOf iv').toNat)
  case atStart => exact ⟨0, Nat.zero_le _, rfl, rfl⟩
  case round =>
    obtain ⟨i, hi, rfl, rfl⟩ := hrel
    have hle := HFT.out i
    by_cases hlt : i < n
    · have hlti : (i : Int) < (n : Int) := by omega
      obtain ⟨b, off, rfl, hbl, B, m, cc, hcp, hlp, hm⟩ := HP.out.at_ i hlt
      have hS := HSN.out i (by rw [HL.out]; exact hlt)
      have hS' := congrArg List.length hS
      rw [List.length_append, hlp.len] at hS'
      obtain ⟨q, hq⟩ : ∃ q, q = (ps.take i).flatten.length := ⟨_, rfl⟩
      rw [← hq] at hS' hle ⊢
      have HS := Lib.hid hS'
      clear hS hS' hq hlp
      go_wp2_with fail
      go_round
      case rel => exact ⟨i + 1, by omega, by go_num, congrArg (Value.int .i64) (by rw [HS.out]; omega)⟩
      case measure => simp [intOf]; omega
    · have hlti : (n : Int) ≤ (i : Int) := by omega
      rw [List.take_of_length_le (by rw [HL.out]; omega), ← HM.out]
      clear hle
      go_wp2_with (first
        | (at_make; with_reducible refine wpList_make_own _ rfl (.const (.int .i64 0)) (.tmp 21) 79 rfl w.heap.size 5 i0 _ 1 Try.underlying79 hi0 hz0 hz1 .i64 .i64 _ (4 + M) rfl rfl rfl (by rw [hz2]; omega) (by unfold maxLen; omega) (Nat.le_refl _) ?_))
      intro w1 hown hg
      have hb := (Below.refl w.heap.size w).grown hg (Nat.le_refl _) (by simp)
      clear hg
      go_wp2_with fail
      go_loopw [6, 25] (fun a iv' wr => ∃ i : Nat, i ≤ n ∧ iv' = .int .i64 i ∧ a = .slice (some ⟨w.heap.size, 0, none⟩) (ps.take i).flatten.length (4 + M) ∧ wr.ownsRow w.heap.size 5 1 (.slice (some ⟨w.heap.size, 0, none⟩) (ps.take i).flatten.length (4 + M)) (ps.take i).flatten.length ((ps.take i).flatten.map (Value.int .u8)) ∧ Below w.heap.size w wr) (fun _ iv' _ => n - (intOf iv').toNat)
      case atStart => exact ⟨0, Nat.zero_le _, rfl, rfl, hown, hb⟩
      case round =>
        clear hown hb hlti hlt hi
        obtain ⟨i, hi, rfl, rfl, hown, hb⟩ := hrel
        have hle := HFT.out i
        by_cases hlt : i < n
        · have hlti : (i : Int) < (n : Int) := by omega
          obtain ⟨b, off, rfl, hbl, B, m, cc, hcp, hlp, hm⟩ := (HP.out.on hb).at_ i hlt
          have HS := Lib.hid (HSN.out i (by rw [HL.out]; exact hlt))
          have hS' := congrArg List.length HS.out
          have hle' := HFT.out (i + 1)
          rw [List.length_append, hlp.len] at hS'
          obtain ⟨L, hL⟩ : ∃ L, L = (ps.take i).flatten := ⟨_, rfl⟩
          obtain ⟨l, hl⟩ : ∃ l, l = ps.getD i [] := ⟨_, rfl⟩
          rw [← hl] at HS hlp
          clear hl
          rw [← hL] at hS' hle HS hown ⊢
          have hroom : L.length + m ≤ 4 + M := by omega
          have HS' := Lib.hid hS'
          clear hS' hle'
          obtain ⟨K, hK⟩ : ∃ K, K = L.length := ⟨_, rfl⟩
          rw [← hK] at hown hroom hle HS' ⊢
          clear hL hK
          go_wp2_with (first
            | (at_builtin; with_reducible refine wpList_append_room rfl (.tmp 29) (.tmp 30) 79 rfl w.heap.size 5 i0 Try.underlying79 hi0 hz1 .u8 w.heap.size K (4 + M) L rfl hown B m cc _ rfl hlp (K + m) rfl hroom ?_))
          intro w2 hown2 hg2
          have hb2 := hb.grown hg2 hb.size (fun g hg => by cases hg; exact Nat.le_refl _)
          clear hown hg2 hlp hcp hb
          go_wp2_with fail
          go_roundw
          case rel => exact ⟨i + 1, by omega, by go_num, by rw [HS'.out], by rw [HS'.out, HS.out, List.map_append]; exact hown2, hb2⟩
          case measure => simp [intOf]; omega
        · have hlti : (n : Int) ≤ (i : Int) := by omega
          rw [List.take_of_length_le (by rw [HL.out]; omega), ← HM.out] at hown ⊢
          obtain ⟨F, hF⟩ : ∃ F, F = ps.flatten := ⟨_, rfl⟩
          rw [← hF] at hown
          have HF := Lib.hid hF
          clear hle hF
          go_wp2_with fail
          with_reducible refine (HOF.out _ (HP.out.on hb)).mono ?_
          rintro e w3 ⟨rfl, hb3⟩
          have hown3 := owns_kept hown (KeptBut.below hb3 []) (by simp)
          have hb3' := below_then hb hb3
          clear hb hown hb3
          have hl4 := Lies.new w3 5 .u8 (four v) 4 rfl #[.int .u8 (v / 16777216), .int .u8 (v / 65536 % 256), .int .u8 (v / 256 % 256), .int .u8 (v % 256)] rfl
          have hown4 := hown3.alloc (.cells #[.int .u8 (v / 16777216), .int .u8 (v / 65536 % 256), .int .u8 (v / 256 % 256), .int .u8 (v % 256)] 5)
          go_wp2_with (first
            | (at_builtin; with_reducible refine wpList_append_room rfl (.tmp 35) (.tmp 47) 79 rfl w.heap.size 5 i0 Try.underlying79 hi0 hz1 .u8 w.heap.size M (4 + M) F rfl hown4 (some ⟨w3.heap.size, 0, none⟩) 4 4 (four v) rfl hl4 (M + 4) rfl (by omega) ?_))
          intro w5 hown5 hg5
          have hb5 := (below_al hb3' (.cells #[.int .u8 (v / 16777216), .int .u8 (v / 65536 % 256), .int .u8 (v / 256 % 256), .int .u8 (v % 256)] 5)).grown hg5 (Nat.le_trans hb3'.size (by simp)) (fun g hg => by cases hg; exact Nat.le_refl _)
          rw [Nat.add_comm 4 M] at hown5 ⊢
          obtain ⟨hB, hge, _⟩ := owns_full (xs := F ++ four v) (by rw [List.map_append]; exact hown5)
          clear hown3 hown4 hown5 hg5 hl4
          go_wp2_with fail
          go_ret
          exact ⟨w.heap.size, rfl, Nat.le_refl _, by rw [HPL.out, ← HF.out]; exact hB, hb5⟩
end Go.Proofs.Ytpjcbfapkjipjaa
