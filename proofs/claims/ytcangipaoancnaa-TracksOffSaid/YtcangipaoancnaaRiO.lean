/-
  The walk of the law TracksOff: it returns true, and nothing that was there has turned. Conditions: the fault's, the rows' and the switches' reading.
-/
import Derived.Test.YtcangipaoancnaaRiT
import Derived.Test.YtcangipaoancnaaRiV3
import Derived.Test.YtcangipaoancnaaTk16
import Derived.Deep.CutBlock
import Derived.Lib.MinMax
namespace Go.Proofs.Ytcangipaoancnaa
open Go.RowKit
set_option linter.unusedVariables false
set_option linter.unusedSimpArgs false

set_option maxRecDepth 100000 in
theorem elemU16 : Try.prog.underlying 94 = some (.slice 45) := by kernel_rfl
set_option maxRecDepth 100000 in
theorem idxU16 {A : Option Addr} {n : Nat} (c : Nat) {k b off : Nat} (hA : A = some ⟨b, off, none⟩) (hk : k < n) (w : World) :
    (Instr.indexAt 94 (.slice A n c) (.int .i64 (k : Int))).run Try.prog w = .ok (.pointer (some ⟨b, off + k, none⟩)) w := by
  subst hA
  rw [run_indexAt_slice (h := elemU16), if_pos (by omega), show Try.prog.elem 94 = 45 by kernel_rfl, show (sizeOf 45).run Try.prog w = .ok 1 w by kernel_rfl]
  simp [Result.andThen, Addr.add_lit]
/-- Switches as they lie. -/
def LiesZ (w : World) (A : Option Addr) (n : Nat) (Z : Nat → Nat) : Prop := 0 < n → ∃ b off, A = some ⟨b, off, none⟩ ∧ b < w.heap.size ∧ ∀ j, j < n → w.cell? ⟨b, off + j, none⟩ = some (.int .u16 (Z j : Int))
set_option maxRecDepth 100000 in
set_option maxHeartbeats 40000000 in
theorem tracksOff_walk (F : Fa) (A : Option Addr) (m c : Nat) (Rs : Nat → Rw) (As : Option Addr) (ms cs : Nat) (Z : Nat → Nat) (w : World) (hF : FaRd w F) (hR : LiesR w w.heap.size A m Rs) (hm : m ≤ 9223372036854775807) (hS : LiesZ w As ms Z) (hZ : ∀ j, j < ms → Z j < 65536) (hms : ms ≤ 9223372036854775807) :
    Calls Try.prog 5 #[.agg (faL F).toArray, .slice A m c, .slice As ms cs] w fun e w' => e = .returned (.bool true) ∧ Below w.heap.size w w' := by
  have HR := Lib.hid hR
  have HFR := Lib.hid hF
  have HM0 := Lib.hid hm
  have HS := Lib.hid hS
  have HZ := Lib.hid hZ
  have HMS := Lib.hid hms
  clear hR hF hm hS hZ
  go_enter Try.func5, Try.ntmps5
  go_upto_region 1 with fail
  refine wp_at (fun U => Blk U w.heap.size 83 (faL F).toArray ∧ Below w.heap.size w U) ⟨Blk.new w _ _, below_al (Below.refl _ w) _⟩ ?_
  rintro U0 ⟨h1, h2⟩
  have HFB := Lib.hid h1
  have HB0 := Lib.hid h2
  clear h1 h2
  have HGR := Lib.hid (greatF_is F HFR.out.n U0 (HFR.out.f.on HB0.out))
  go_upto_region 2 with (refine wpList_load_mid rfl 83 (.tmp 3) rfl w.heap.size 0 (by simp [Act.eval, Act.put]) (faL F) _ HFB.out.pin.range Try.underlying83 rfl (by rw [size_fault]; rfl) ?_)
  (with_reducible refine HGR.out.mono ?_)
  rintro e w2 ⟨⟨g0, rfl, hg⟩, q1⟩
  have HG0 := Lib.hid hg
  have HB2 := Lib.hid (below_then HB0.out q1)
  have HF2 := Lib.hid (HFB.out.on q1)
  clear HGR HFB HB0 q1 hg
  cases g0 with
  | true =>
    go_wp2_with (go_at_call 14; (with_reducible refine (lives_tk _).mono ?_); rintro e w7 ⟨rfl, b7⟩)
    go_ret
    exact ⟨rfl, below_then HB2.out b7⟩
  | false =>
    have HFN : Hid (F.n < 900) := Lib.hid (HG0.out rfl)
    have HLI := Lib.hid (light_is A m c Rs w2 (HR.out.on HB2.out) HM0.out)
    by_cases h80 : 80 < ms
    · have d80 : decide ((80 : Int) < (ms : Int)) = true := decide_eq_true (by omega)
      clear h80 hms
      go_wp2_with (first
        | (go_at_call 30; (with_reducible refine HLI.out.mono ?_); rintro e w1 ⟨⟨g, rfl, hg⟩, b1⟩; have HG := Lib.hid hg; have HB1 := Lib.hid (below_then HB2.out b1); have HF3 := Lib.hid (HF2.out.on b1); clear b1 hg)
        | (go_at_call 14; (with_reducible refine (lives_tk _).mono ?_); rintro e w7 ⟨rfl, b7⟩))
      any_goals (go_ret; exact ⟨rfl, below_then HB1.out b7⟩)
    have d80 : decide ((80 : Int) < (ms : Int)) = false := decide_eq_false (by omega)
    by_cases hs0 : ms = 0
    · subst hs0
      clear h80 hms
      go_wp2_with (first
        | (go_at_call 30; (with_reducible refine HLI.out.mono ?_); rintro e w1 ⟨⟨g, rfl, hg⟩, b1⟩; have HG := Lib.hid hg; have HB1 := Lib.hid (below_then HB2.out b1); have HF3 := Lib.hid (HF2.out.on b1); clear b1 hg)
        | (go_at_call 14; (with_reducible refine (lives_tk _).mono ?_); rintro e w7 ⟨rfl, b7⟩))
      any_goals (go_ret; exact ⟨rfl, below_then HB1.out b7⟩)
    have hms1 : 0 < ms ∧ ms ≤ 80 := by omega
    have ds0 : ((ms : Int) == 0) = false := by simp; omega
    obtain ⟨sb, so, rfl, hsb, hsc⟩ := HS.out hms1.1
    have HSB := Lib.hid hsb
    have HSC := Lib.hid hsc
    obtain ⟨z0, hz0⟩ : ∃ z, z = Z 0 := ⟨_, rfl⟩
    have lz0 : z0 < 65536 := by rw [hz0]; exact HZ.out 0 hms1.1
    obtain ⟨N3, hN3⟩ : ∃ n, n = z0 % 13 := ⟨_, rfl⟩
    obtain ⟨N, hN⟩ : ∃ n, n = 4 + N3 := ⟨_, rfl⟩
    have lN : 4 ≤ N ∧ N ≤ 16 := by omega
    have HN : Hid (4 ≤ N ∧ N ≤ 16) := Lib.hid lN
    have en : (z0 : Int).tmod 13 = (N3 : Int) := by rw [hN3]; rfl
    have en1 : IntKind.i64.wrap (z0 : Int) = (z0 : Int) := IntWalk.i64_in _ (by omega)
    have en2 : IntKind.i64.wrap (N3 : Int) = (N3 : Int) := IntWalk.i64_in _ (by omega)
    have en' : (4 : Int) + (N3 : Int) = (N : Int) := by omega
    have en3 : IntKind.i64.wrap (N : Int) = (N : Int) := IntWalk.i64_in _ (by omega)
    have HNR : Hid (∀ u : World, Calls Try.prog 31 #[.int .i64 (N : Int), .agg (faL F).toArray] u fun e v => ∃ gr gl cl go L, e = .returned (.pointer (some ⟨gr, 0, none⟩)) ∧ RiS u.heap.size v gr gl cl go N F (.slice none 0 0) L onN 0 (fun _ _ _ => woN) ∧ (∀ i, i < N → (L i).nw = none) ∧ Below u.heap.size u v) := Lib.hid (fun u => newRing_is N F lN u)
    have HZ0 := Lib.hid hz0
    clear hz0 hN3 hN h80 hs0 hms hsb hsc
    go_upto_region 3 with (first
        | (go_at_call 30; (with_reducible refine HLI.out.mono ?_); rintro e w1 ⟨⟨g, rfl, hg⟩, b1⟩; have HG := Lib.hid hg; have HB1 := Lib.hid (below_then HB2.out b1); have HF3 := Lib.hid (HF2.out.on b1); clear b1 hg)
        | (go_at_call 14; (with_reducible refine (lives_tk _).mono ?_); rintro e w7 ⟨rfl, b7⟩))
    any_goals (go_ret; exact ⟨rfl, below_then HB1.out b7⟩)
    have hm2 : m ≤ 200 := HG.out (by first | rfl | assumption | simp_all)
    refine wp_at (fun V => Blk V w.heap.size 83 (faL F).toArray ∧ Below w.heap.size w V) ⟨HF3.out, HB1.out⟩ ?_
    clear HB1 HF3 HG HLI HG0 HB2 HF2 HM0
    rintro V ⟨hv1, hV⟩
    have HFV := Lib.hid hv1
    have HV := Lib.hid hV
    have HFI := Lib.hid (HFR.out.fain HFN.out hV)
    have cz : V.cell? ⟨sb, so, none⟩ = some (.int .u16 (z0 : Int)) := (hV.cell (p := ⟨sb, _, none⟩) HSB.out).trans (by rw [HZ0.out]; exact HSC.out 0 hms1.1)
    have lsb := Nat.lt_of_lt_of_le HSB.out hV.size
    have hiz : ∀ W, (Instr.indexAt 94 (.slice (some ⟨sb, so, none⟩) ms cs) (.int .i64 0)).run Try.prog W = .ok (.pointer (some ⟨sb, so, none⟩)) W := fun W => idxU16 (A := some ⟨sb, so, none⟩) (n := ms) cs rfl hms1.1 W
    clear hv1 hV
    have hnr := fun (a : Addr) (W : World) => nilRing a W
    go_upto_region 7 with (first
      | (refine wpList_load_mid rfl 83 (.tmp 3) rfl w.heap.size 0 (by simp [Act.eval, Act.put]) (faL F) _ HFV.out.pin.range Try.underlying83 rfl (by rw [size_fault]; rfl) ?_)
      | (go_at_call 31; (with_reducible refine (HNR.out _).mono ?_); rintro e w2 ⟨gr, gl, cl, go, L, rfl, q1, q2, q3⟩; have HQ1 := Lib.hid q1; have HQ2 := Lib.hid q2; have HQ3 := Lib.hid q3; clear q1 q2 q3))
    clear cz lsb hiz
    obtain ⟨N2, hN2⟩ : ∃ n, n = 2 * N := ⟨_, rfl⟩
    obtain ⟨N8, hN8⟩ : ∃ n, n = N2 + 8 := ⟨_, rfl⟩
    obtain ⟨N4, hN4⟩ : ∃ n, n = min 50 N8 := ⟨_, rfl⟩
    have eN2 : (2 : Int) * (N : Int) = (N2 : Int) := by omega
    have eN8 : (N2 : Int) + 8 = (N8 : Int) := by omega
    have lN2 : N2 ≤ 32 := by omega
    have lN8 : N8 ≤ 40 := by omega
    have lN4 : N4 ≤ 40 := by omega
    have hmin : min (50 : Int) (N8 : Int) = (N4 : Int) := by omega
    clear hN4 hN2 hN8
    obtain ⟨B, hB⟩ : ∃ B, B = V.heap.size := ⟨_, rfl⟩
    rw [← hB] at HQ1 HFI
    have HQ4 := Lib.hid (show FaIn B V F from HFI.out)
    refine wp_at (fun U => RiS B U gr gl cl go N F (.slice none 0 0) L onN 0 (fun _ _ _ => woN) ∧ FaIn B U F ∧ w.heap.size ≤ B ∧ Below w.heap.size w U) ⟨HQ1.out, HQ4.out.low (by rw [hB]; exact HQ3.out), by rw [hB]; exact HV.out.size, below_then HV.out HQ3.out⟩ ?_
    clear HV HQ1 HQ2 HQ3 HQ4 HFI HFV HFN HFR hB hnr en en1 en2 en3 en' HNR
    rintro U ⟨u1, uf, u2, u3⟩
    have HU1 := Lib.hid u1
    have HUF := Lib.hid uf
    have HWB := Lib.hid u2
    have HU3 := Lib.hid u3
    clear u1 uf u2 u3
    obtain ⟨b0, hb0, bz0, bz1, bz2⟩ := info_parts infoBoolR
    have BI := Lib.hid hb0
    have BZ0 := Lib.hid bz0
    have BZ1 := Lib.hid bz1
    have BZ2 := Lib.hid bz2
    obtain ⟨r0, hr0, rz0, rz1, rz2⟩ := info_parts infoRow
    have RI := Lib.hid hr0
    have RZ0 := Lib.hid rz0
    have RZ1 := Lib.hid rz1
    have RZ2 := Lib.hid rz2
    obtain ⟨l0, hl0, lz0', lz1, lz2⟩ := info_parts infoRowsE
    have LI := Lib.hid hl0
    have LZ0 := Lib.hid lz0'
    have LZ1 := Lib.hid lz1
    have LZ2 := Lib.hid lz2
    clear hb0 bz0 bz1 bz2 hr0 rz0 rz1 rz2 hl0 lz0' lz1 lz2
    -- who is on, and what each has to say
    obtain ⟨on, hon⟩ : ∃ on : Nat → Nat → Bool, on = fun K i => (bits .and .u16 (((Z ((K / 5) % ms) : Nat) : Int) / 2 ^ i) 1 == 0) := ⟨_, rfl⟩
    obtain ⟨ow, how⟩ : ∃ ow : Nat → Nat → Rw, ow = fun K i => if on K i = true then owM m N Rs K i else rwN := ⟨_, rfl⟩
    have HONE := Lib.hid hon
    have HOWE := Lib.hid how
    obtain ⟨Q, hQ⟩ : ∃ Q : Nat → (Nat → Ln) → (Nat → Bool) → (Nat → Nat → Nat → Wo) → Prop, Q = fun K L o S => HistV F N K ow S o L := ⟨_, rfl⟩
    have HQE := Lib.hid hQ
    have HT0 : Hid (TG w B gr gl cl go N F ow Q 0 none 0 (fun _ => woN) (.slice none 0 0) L onN (fun _ _ _ => woN) U) := Lib.hid ⟨HU1.out, (by rw [HQE.out]; exact HistV.zero), HUF.out, ownsF_nil, fun t ht => absurd ht (by omega), HU3.out⟩
    clear HU1 HU3 HUF hon how hQ
    go_wp2_with fail
    go_loopw [9, 10] (fun sv iv wr => ∃ K : Nat, K ≤ N4 ∧ iv = .int .i64 (K : Int) ∧ ∃ (A1 : Option Addr) (c1 : Nat) (H : Nat → Wo) (VS : Value) (L : Nat → Ln) (o : Nat → Bool) (S : Nat → Nat → Nat → Wo), sv = .slice A1 K c1 ∧ Hid (TG w B gr gl cl go N F ow Q K A1 c1 H VS L o S wr)) (fun _ iv _ => N4 - (intOf iv).toNat)
    case atStart => exact ⟨0, by omega, rfl, none, 0, _, _, _, _, _, rfl, HT0⟩
    case round =>
      clear HT0
      obtain ⟨K, hK, rfl, A1, c1, H, VS, L1, o1, S, rfl, HT⟩ := hrel
      by_cases hltK : K < N4
      · have dK : decide ((K : Int) < (N4 : Int)) = true := decide_eq_true (by omega)
        go_upto_region 13 with (first
          | (refine wpList_make_flat rfl (.tmp 55) (.tmp 55) 32 rfl 54 r0 _ rwN.l 160 57 elemRows RI.out RZ0.out rfl RZ1.out RZ2.out (Rw.l_len _) (by decide) N N (by simp [Act.eval]) (by simp [Act.eval]) (Nat.le_refl _) (by omega) (by omega) ?_; intro w1 hB1 hb1 hs1; have HB1 : Hid (Blk w1 wr.heap.size 54 (flL (fun _ => rwN.l) N).toArray) := Lib.hid hB1; have Hb1 := Lib.hid hb1; clear hB1 hb1 hs1)
          | (refine wpList_make_flat rfl (.tmp 57) (.tmp 57) 87 rfl 4 b0 _ [.bool false] 1 1 elemTruths BI.out BZ0.out rfl BZ1.out BZ2.out rfl (by decide) N N (by simp [Act.eval]) (by simp [Act.eval]) (Nat.le_refl _) (by omega) (by omega) ?_; intro w2 hB1 hb1 hs1; have HC1 : Hid (Blk w2 w1.heap.size 4 (flL (trL onN) N).toArray) := Lib.hid hB1; have HD1 := Lib.hid (HB1.out.on hb1); have Hd1 := Lib.hid (below_then Hb1.out hb1); clear hB1 hb1 hs1))
        obtain ⟨gW, hgW⟩ : ∃ g, g = wr.heap.size := ⟨_, rfl⟩
        obtain ⟨gO, hgO⟩ : ∃ g, g = w1.heap.size := ⟨_, rfl⟩
        have HGW : Hid (wr.heap.size ≤ gW ∧ wr.heap.size ≤ gO ∧ gW ≠ gO) := Lib.hid (by have := HB1.out.lt; have := Hb1.out.size; omega)
        rw [← hgO] at HC1 ⊢
        rw [← hgW] at HD1 ⊢
        clear hgW hgO HB1 Hb1
        obtain ⟨U1, hU1⟩ : ∃ x, x = wr := ⟨_, rfl⟩
        rw [← hU1] at HT Hd1 HGW
        clear hU1
        obtain ⟨k5, hk5⟩ : ∃ n, n = K / 5 := ⟨_, rfl⟩
        obtain ⟨q5, hq5⟩ : ∃ n, n = k5 % ms := ⟨_, rfl⟩
        have lq5 : q5 < ms := by rw [hq5]; exact Nat.mod_lt _ hms1.1
        obtain ⟨zq, hzq⟩ : ∃ z, z = Z q5 := ⟨_, rfl⟩
        have lzq : zq < 65536 := by rw [hzq]; exact HZ.out q5 lq5
        have HON : Hid (∀ j, on K j = (bits .and .u16 ((zq : Int) / 2 ^ j) 1 == 0)) := Lib.hid (fun j => by rw [HONE.out, hzq, hq5, hk5])
        have HOW : Hid (∀ j, ow K j = if on K j = true then (if 0 < m then Rs ((K * N + j) % m) else rwN) else rwN) := Lib.hid (fun j => by rw [HOWE.out]; rfl)
        have e51 : (K : Int).tdiv 5 = (k5 : Int) := by rw [hk5]; rfl
        have w51 : IntKind.i64.wrap (k5 : Int) = (k5 : Int) := IntWalk.i64_in _ (by omega)
        have e52 : (k5 : Int).tmod (ms : Int) = (q5 : Int) := by rw [hq5]; rfl
        have e53 : (k5 : Int) % (ms : Int) = (q5 : Int) := by rw [hq5]; rfl
        have w52 : IntKind.i64.wrap (q5 : Int) = (q5 : Int) := IntWalk.i64_in _ (by omega)
        have ms0 : ms ≠ 0 := by omega
        have HZC : Hid (∀ u, Below w.heap.size w u → u.cell? ⟨sb, so + q5, none⟩ = some (.int .u16 (zq : Int)) ∧ sb < u.heap.size) := Lib.hid (fun u hu => ⟨(hu.cell (p := ⟨sb, _, none⟩) HSB.out).trans (by rw [hzq]; exact HSC.out q5 lq5), Nat.lt_of_lt_of_le HSB.out hu.size⟩)
        have hixz := fun W => idxU16 (A := some ⟨sb, so, none⟩) (n := ms) cs rfl lq5 W
        clear hk5 hq5 hzq
        go_upto_block 2 with fail
        go_cut [13] from 59 to 101 (fun s13 wx => Hid (Below U1.heap.size U1 wx ∧ Blk wx gW 54 (flL (fun j => (ow K j).l) N).toArray ∧ Blk wx gO 4 (flL (trL (on K)) N).toArray))
        case first =>
          go_wp2_with fail
          go_loopw [13] (fun iv wr => ∃ k : Nat, k ≤ N ∧ iv = .int .i64 (k : Int) ∧ Hid (Blk wr gW 54 (flL (fun j => ((if j < k then ow K j else rwN : Rw)).l) N).toArray) ∧ Hid (Blk wr gO 4 (flL (trL fun j => if j < k then on K j else false) N).toArray) ∧ Hid (Below U1.heap.size U1 wr)) (fun iv _ => N - (intOf iv).toNat)
          case atStart => exact ⟨0, by omega, rfl, Lib.hid (by rw [show flL (fun j => ((if j < 0 then ow K j else rwN : Rw)).l) N = flL (fun _ => rwN.l) N from flL_congr fun j _ => by rw [if_neg (by omega)]]; exact HD1.out), Lib.hid (by rw [show flL (trL fun j => if j < 0 then on K j else false) N = flL (trL onN) N from flL_congr fun j _ => by unfold trL onN; simp]; exact HC1.out), Hd1⟩
          case round =>
            clear HD1 HC1 Hd1
            obtain ⟨k, hk, rfl, HB, HO, HW⟩ := hrel
            by_cases hlt : k < N
            · have dk : decide ((k : Int) < (N : Int)) = true := decide_eq_true (by omega)
              obtain ⟨cz, lz⟩ := HZC.out wr (below_then HT.out.b HW.out)
              have hix2 := fun W => idxTruths (A := some ⟨gO, 0, none⟩) (n := N) N rfl hlt W
              simp only [Nat.zero_add] at hix2
              have ck : wr.cell? ⟨gO, k, none⟩ = some (.bool false) := by
                have h := HO.out
                rw [← List.append_nil (flL (trL fun j => if j < k then on K j else false) N)] at h
                exact flL1_cell h (fun _ => rfl) hlt (by unfold trL; simp)
              have fk := HO.out.frozen k
              have lk := HO.out.lt
              obtain ⟨bk, hbk⟩ : ∃ b, b = on K k := ⟨_, rfl⟩
              have hbe : (bits .and .u16 ((zq : Int) / 2 ^ k) 1 == 0) = bk := (HON.out k).symm.trans hbk.symm
              have HBK := Lib.hid hbk
              clear hbk
              go_upto_region 17 with fail
              refine wp_at (fun V => Blk V gO 4 (flL (trL fun j => if j < k + 1 then on K j else false) N).toArray ∧ Blk V gW 54 (flL (fun j => ((if j < k then ow K j else rwN : Rw)).l) N).toArray ∧ Below U1.heap.size U1 V) ⟨?_, (But.one k _).blk HB.out HGW.out.2.2, HW.out.trans ((But.one (u := wr) (g := gO) k _).low HGW.out.2.1)⟩ ?_
              · have hP : PIn wr gO k 4 (flL (trL fun j => if j < k then on K j else false) k) (flL (fun j => trL (fun j => if j < k then on K j else false) (k + 1 + j)) (N - (k + 1))) (trL (fun j => if j < k then on K j else false) k) := ⟨by
                  have := HO.out
                  rwa [flL_at _ hlt] at this, by rw [flL_len (m := 1) (fun _ => rfl), Nat.mul_one]⟩
                have h2 := (hP.set0 (.bool bk) Nat.one_pos).blk
                rw [show (trL (fun j => if j < k then on K j else false) k).set 0 (.bool bk) = [.bool bk] from rfl, flL_upd _ _ _ hlt] at h2
                rw [show flL (trL fun j => if j < k + 1 then on K j else false) N = flL (fun j => if j = k then [.bool bk] else trL (fun j => if j < k then on K j else false) j) N from flL_congr fun j _ => by
                  unfold trL
                  by_cases e : j = k
                  · rw [if_pos e, e, HBK.out]; simp
                  · rw [if_neg e]
                    by_cases e2 : j < k
                    · simp only [if_pos e2, if_pos (show j < k + 1 by omega)]
                    · simp only [if_neg e2, if_neg (show ¬ j < k + 1 by omega)]]
                exact h2
              clear HB HO HW ck fk lk cz lz
              rintro V ⟨v1, v2, v3⟩
              have HO := Lib.hid v1
              have HB := Lib.hid v2
              have HW := Lib.hid v3
              clear v1 v2 v3
              have ck2 : V.cell? ⟨gO, k, none⟩ = some (.bool bk) := by
                have h := HO.out
                rw [← List.append_nil (flL (trL fun j => if j < k + 1 then on K j else false) N)] at h
                exact flL1_cell h (fun _ => rfl) hlt (by unfold trL; rw [HBK.out]; simp)
              have lk2 := HO.out.lt
              cases bk with
              | true =>
                by_cases h0 : 0 < m
                · have dm : decide (0 < (m : Int)) = true := decide_eq_true (by omega)
                  obtain ⟨p1, hp1⟩ : ∃ n, n = K * N := ⟨_, rfl⟩
                  obtain ⟨p2, hp2⟩ : ∃ n, n = p1 + k := ⟨_, rfl⟩
                  obtain ⟨q, hq⟩ : ∃ n, n = p2 % m := ⟨_, rfl⟩
                  have lp1 : p1 ≤ 700 := by rw [hp1]; exact Nat.le_trans (Nat.mul_le_mul (show K ≤ 40 by omega) (show N ≤ 16 by omega)) (by decide)
                  have hqm : q < m := by rw [hq]; exact Nat.mod_lt _ h0
                  have hw1 : IntKind.i64.wrap ((K : Int) * (N : Int)) = (p1 : Int) := by rw [show (K : Int) * (N : Int) = (p1 : Int) by rw [hp1]; exact (Int.natCast_mul K N).symm]; exact IntWalk.i64_in _ (by omega)
                  have hw2 : IntKind.i64.wrap ((p1 : Int) + (k : Int)) = (p2 : Int) := by rw [IntWalk.i64_in _ (by omega)]; omega
                  have hw3 : IntKind.i64.wrap (q : Int) = (q : Int) := IntWalk.i64_in _ (by omega)
                  have ht1 : (p2 : Int).tmod (m : Int) = (q : Int) := by rw [hq]; rfl
                  have ht2 : (p2 : Int) % (m : Int) = (q : Int) := by rw [hq]; rfl
                  have hm0 : m ≠ 0 := by omega
                  have HE : Hid (ow K k = Rs q) := Lib.hid (by rw [HOW.out, if_pos HBK.out.symm, if_pos h0, hq, hp2, hp1])
                  obtain ⟨ba, oa, rfl, hba, hca⟩ := HR.out.f h0
                  have HRG : Hid (V.rangeAt ba (oa + q * 57) (Rs q).l) := Lib.hid (fun j v hv => ((below_then HT.out.b HW.out).cell (p := ⟨ba, _, none⟩) hba).trans (hca q hqm j v hv))
                  have hix := fun W => idxRows (A := some ⟨ba, oa, none⟩) (n := m) c rfl hqm W
                  have hix3 := fun W => idxRows (A := some ⟨gW, 0, none⟩) (n := N) N rfl hlt W
                  simp only [Nat.zero_add] at hix3
                  have HP : Hid (PIn V gW (k * 57) 54 (flL (fun j => ((if j < k then ow K j else rwN : Rw)).l) k) (flL (fun j => ((if (k + 1 + j) < k then ow K (k + 1 + j) else rwN : Rw)).l) (N - (k + 1))) rwN.l) := Lib.hid ⟨by
                    have := HB.out
                    rw [flL_at _ hlt] at this
                    rwa [if_neg (Nat.lt_irrefl k)] at this, flL_len (fun _ => Rw.l_len _) _⟩
                  clear hp1 hp2 hq hba hca
                  go_wp2_with (first
                    | (refine wpList_load_mid rfl 54 (.tmp 99) rfl ba (oa + q * 57) (by simp [Act.eval, Act.put]) (Rs q).l _ HRG.out Try.underlying54 rfl (by rw [size_row, Rw.l_len]) ?_)
                    | (refine wpList_store_pin rfl 54 (.tmp 101) (.tmp 100) rfl HP.out (Rs q).l (by simp [Act.eval, Act.put]) (by simp [Act.eval, Act.put]) 57 size_row (Rw.l_len _) (Rw.l_len _) (roL_one _ _ _ _ _) ?_; intro w5 p5 b5; have HP5 := Lib.hid p5; have HB5 := Lib.hid b5; clear p5 b5))
                  go_roundw
                  case rel =>
                    refine ⟨k + 1, by omega, by go_num, Lib.hid ?_, Lib.hid (HB5.out.blk HO.out (Ne.symm HGW.out.2.2)), Lib.hid (HW.out.trans (HB5.out.low HGW.out.1))⟩
                    have h2 := HP5.out.blk
                    rw [flL_upd (fun j => ((if j < k then ow K j else rwN : Rw)).l) k (Rs q).l hlt] at h2
                    rw [show flL (fun j => ((if j < k + 1 then ow K j else rwN : Rw)).l) N = flL (fun j => if j = k then (Rs q).l else ((if j < k then ow K j else rwN : Rw)).l) N from flL_congr fun j _ => by
                      by_cases e : j = k
                      · rw [if_pos e, if_pos (by omega), e, HE.out]
                      · rw [if_neg e]
                        by_cases e2 : j < k
                        · rw [if_pos e2, if_pos (by omega)]
                        · rw [if_neg e2, if_neg (by omega)]]
                    exact h2
                  case measure => simp [intOf]; omega
                · have dm : decide (0 < (m : Int)) = false := decide_eq_false (by omega)
                  have HE : Hid (ow K k = rwN) := Lib.hid (by rw [HOW.out, if_neg h0]; split <;> rfl)
                  go_wp2_with fail
                  go_roundw
                  case rel =>
                    refine ⟨k + 1, by omega, by go_num, Lib.hid ?_, HO, HW⟩
                    rw [show flL (fun j => ((if j < k + 1 then ow K j else rwN : Rw)).l) N = flL (fun j => ((if j < k then ow K j else rwN : Rw)).l) N from flL_congr fun j _ => by
                      by_cases e : j = k
                      · rw [if_pos (by omega), if_neg (by omega), e, HE.out]
                      · by_cases e2 : j < k
                        · rw [if_pos e2, if_pos (by omega)]
                        · rw [if_neg e2, if_neg (by omega)]]
                    exact HB.out
                  case measure => simp [intOf]; omega
              | false =>
                have HE : Hid (ow K k = rwN) := Lib.hid (by rw [HOW.out, if_neg (by rw [← HBK.out]; decide)])
                go_wp2_with fail
                go_roundw
                case rel =>
                  refine ⟨k + 1, by omega, by go_num, Lib.hid ?_, HO, HW⟩
                  rw [show flL (fun j => ((if j < k + 1 then ow K j else rwN : Rw)).l) N = flL (fun j => ((if j < k then ow K j else rwN : Rw)).l) N from flL_congr fun j _ => by
                    by_cases e : j = k
                    · rw [if_pos (by omega), if_neg (by omega), e, HE.out]
                    · by_cases e2 : j < k
                      · rw [if_pos e2, if_pos (by omega)]
                      · rw [if_neg e2, if_neg (by omega)]]
                  exact HB.out
                case measure => simp [intOf]; omega
            · obtain rfl : N = k := by omega
              have dk : decide ((N : Int) < (N : Int)) = false := decide_eq_false (by omega)
              have HX : Hid (Blk wr gW 54 (flL (fun j => (ow K j).l) N).toArray ∧ Blk wr gO 4 (flL (trL (on K)) N).toArray) := Lib.hid (by
                rw [show flL (fun j => (ow K j).l) N = flL (fun j => ((if j < N then ow K j else rwN : Rw)).l) N from flL_congr fun j hj => by rw [if_pos hj]]
                rw [show flL (trL (on K)) N = flL (trL fun j => if j < N then on K j else false) N from flL_congr fun j hj => by unfold trL; simp [hj]]
                exact ⟨HB.out, HO.out⟩)
              go_wp2_with fail
              go_meet
              exact Lib.hid ⟨HW.out, HX.out⟩
        case rest =>
          have HC : Hid (Below U1.heap.size U1 wc ∧ Blk wc gW 54 (flL (fun j => (ow K j).l) N).toArray ∧ Blk wc gO 4 (flL (trL (on K)) N).toArray) := hcut
          clear hcut HD1 HC1 Hd1 e51 w51 e52 e53 w52 ms0 hixz HZC HON
          have HTA : Hid (∀ (i : Nat) (v : World), Below B U1 v → LiesH v v.heap.size (ow K i).A (ow K i).n (ow K i).T) := Lib.hid (fun i v hv => by
            rw [HOW.out]
            split
            · split
              · rename_i h0
                have h1 := (HR.out.t _ (Nat.mod_lt (K * N + i) h0))
                have hb : Below w.heap.size w v := HT.out.b.trans (hv.mono HWB.out)
                exact (h1.low hb).up hb.size
              · exact LiesH.nil_
            · exact LiesH.nil_)
          have HB1U : Hid (B ≤ U1.heap.size) := Lib.hid HT.out.r.B.2.2.2
          have HNA : Hid (gO ≠ go) := Lib.hid (by have h1 := HT.out.r.lts.2.2; have h2 := HGW.out.2.1; omega)
          obtain ⟨Y, hY⟩ : ∃ Y, Y = wc := ⟨_, rfl⟩
          have HT2 : Hid (TG w B gr gl cl go N F ow Q K A1 c1 H VS L1 o1 S Y) := Lib.hid (by rw [hY]; exact HT.out.up HC.out.1)
          have HA2 : Hid (Blk Y gO 4 (flL (trL (on K)) N).toArray) := Lib.hid (by rw [hY]; exact HC.out.2.2)
          have HBY : Hid (Below B U1 Y) := Lib.hid (by rw [hY]; exact HC.out.1.mono HB1U.out)
          have HGY : Hid (Blk Y gW 54 (flL (fun j => (ow K j).l) N).toArray) := Lib.hid (by rw [hY]; exact HC.out.2.1)
          have HPL := Lib.hid (plain14_is N HN.out.2 (some ⟨gW, 0, none⟩) N N (by omega) (ow K) Y ⟨Blk.liesF (by decide) (fun _ => Rw.l_len _) HGY.out, fun i hi => HTA.out i Y HBY.out⟩)
          rw [← hY]
          clear hY HC HT
          have HBS := Lib.hid (fun (A3 : Option Addr) (c3 : Nat) (u : World) => run_bsl_rows A3 N c3 u)
          go_upto_region 20 with (first
            | (go_at_call 32; (with_reducible refine HPL.out.mono ?_); rintro e w1 ⟨A3, c3, Q3, rfl, q1, q2, q3⟩; have HQ1 := Lib.hid q1; have HQ2 := Lib.hid q2; have HQ3 := Lib.hid q3; clear q1 q2 q3)
            | (refine wpList_bsl rfl 78 1 _ rfl #[(0, .slice A3 N c3)] (by simp [Act.eval, Act.put]) _ _ (HBS.out A3 c3 w1) ?_)
            | (at_builtin; refine wpList_append_G rfl (.tmp 102) (.tmp 106) 78 rfl B 32 l0 _ 1 24 elemRowsL LI.out LZ0.out LZ1.out LZ2.out rfl (by decide) A1 K c1 (flL (woL1 H) K) (by simp [Act.eval, Act.put]) (ownsF_on (ownsF_on HT2.out.wl HQ3.out) (below_al (Below.refl _ w1) _)) w1.heap.size 1 1 [.slice A3 N c3] (by simp [Act.eval, Act.put]) (Blk.new w1 32 #[.slice A3 N c3]) rfl (by simp [Value.oneCell']) (by decide) (by unfold maxLen; omega) (by omega) (by have h1 := HT2.out.r.B.2.2.2; have h2 := HQ3.out.size; simp; omega) ?_; intro A2 c2 w2 hO2 hb2 hk2; have HO2 := Lib.hid hO2; have HB2 := Lib.hid hb2; have HK2 := Lib.hid hk2; clear hO2 hb2 hk2))
          have hal := below_al (Below.refl w1.heap.size w1) (.cells #[.slice A3 N c3] 32)
          have hYa : Below Y.heap.size Y (w1.alloc (.cells #[.slice A3 N c3] 32)) := below_then HQ3.out hal
          have hap := ((HT2.out.up HQ3.out).up hal).app (X := ⟨A3, N, c3, Q3⟩) HWB.out HB2.out HK2.out HO2.out ⟨HQ1.out.kr (B := B) (KR.below (Nat.le_trans HT2.out.r.B.2.2.2 HQ3.out.size) hal), rfl, HQ2.out⟩
          obtain ⟨H2, hH2⟩ : ∃ X, X = updW H K ⟨A3, N, c3, Q3⟩ := ⟨_, rfl⟩
          rw [← hH2] at hap
          refine wp_at (fun Q2 => (RiS B Q2 gr gl cl go N F VS L1 o1 K S ∧ FaIn B Q2 F ∧ Q2.ownsRow B 32 1 (.slice A2 (K + 1) c2) (K + 1) (flL (woL1 H2) (K + 1)) ∧ (∀ t, t < K + 1 → OwR Q2 (H2 t).A N (H2 t).R ∧ (H2 t).m = N ∧ ∀ s, s < N → ((H2 t).R s).ro = plR N (ow t s).ro) ∧ Below w.heap.size w Q2) ∧ Blk Q2 gO 4 (flL (trL (on K)) N).toArray ∧ Blk Q2 gW 54 (flL (fun j => (ow K j).l) N).toArray ∧ Below B U1 Q2) ⟨hap, HK2.out _ _ _ (by decide) (HA2.out.on hYa), HK2.out _ _ _ (by decide) (HGY.out.on hYa), (HBY.out.trans (hYa.mono HT2.out.r.B.2.2.2)).trans HB2.out⟩ ?_
          have HOK := Lib.hid (show HistV F N K ow S o1 L1 by have h := HT2.out.ok; rw [HQE.out] at h; exact h)
          clear hH2 hal hYa hap HQ1 HQ2 HQ3 HO2 HB2 HK2 HT2 HA2 HBY HGY HPL HBS
          rintro Q2 ⟨⟨v1, vf, v3, v4, v5⟩, v2, v6, v7⟩
          have HV1 := Lib.hid v1
          have HVF := Lib.hid vf
          have HV2 := Lib.hid v2
          have HV3 := Lib.hid v3
          have HV4 := Lib.hid v4
          have HV5 := Lib.hid v5
          have HV6 := Lib.hid v6
          have HV7 := Lib.hid v7
          have HHR := Lib.hid (ring_hear B gr gl cl go N K gO F VS L1 (on K) o1 S HN.out (by omega) Q2 v1.B.2.2.2 v1 v2 HNA.out)
          clear v1 vf v2 v3 v4 v5 v6 v7
          go_upto_region 21 with (go_at_call 33; (with_reducible refine HHR.out.mono ?_); rintro e w3 ⟨Ah, ch, L2, Hh, rfl, q1⟩; have HQ1 := Lib.hid q1; clear q1)
          have hSay := ring_say B gr gl cl go N K ⟨gW, 0, none⟩ F VS L2 (on K) S (ow K) HN.out (by omega) w3 HQ1.out.r.B.2.2.2 HQ1.out.r (HVF.out.low HQ1.out.kr.b) (fun x kx => by
            have hB0 := HQ1.out.kr.t _ _ _ (.inl rfl) HV6.out
            have hB1 := kx.t _ _ _ (.inl rfl) hB0
            exact ⟨Blk.liesF (by decide) (fun _ => Rw.l_len _) hB1, fun i hi => HTA.out i x ((HV7.out.trans HQ1.out.kr.b).trans kx.b)⟩) (fun i hi ho => by
            obtain ⟨t, ht, _⟩ := ((HQ1.out.s i hi).yes ho).qk
            exact ⟨t, ht⟩)
          have HSY := Lib.hid hSay
          clear hSay HHR
          go_upto_region 22 with (go_at_call 34; (with_reducible refine HSY.out.mono ?_); rintro e w4 ⟨rfl, q2⟩; have HQ2 := Lib.hid q2; clear q2)
          obtain ⟨VS2, L3, ZZ, W, r1, r2, r3⟩ := HQ2.out.x
          have hkr := HQ1.out.kr.trans HQ2.out.kr
          have hTG : TG w B gr gl cl go N F ow Q (K + 1) A2 c2 H2 VS2 L3 (on K) (fun t => if t = K then W else S t) w4 :=
            ⟨r1, (by rw [HQE.out]; exact (HOK.out.hear (fun j hj => HQ1.out.s j hj)).say HN.out.1 (fun i _ => rfl) (fun j hj => r2 j hj) r3), HVF.out.low hkr.b, ownsF_kept (ownsF_kept HV3.out HQ1.out.kt (by decide)) HQ2.out.kt (by decide), fun t ht => ⟨(HV4.out t ht).1.kr hkr, (HV4.out t ht).2⟩, HV5.out.trans (hkr.b.mono HWB.out)⟩
          obtain ⟨S2, hS2⟩ : ∃ S2 : Nat → Nat → Nat → Wo, S2 = fun t => if t = K then W else S t := ⟨_, rfl⟩
          rw [← hS2] at hTG
          have hHE : ∀ me s, me < N → on K me = true → s < N → badB N F s = false → ∃ P, RowsW w3 N (Hh me) P ∧ ((P s).b = false ∨ (N ≤ K ∧ eqR (P s) (plR N (ow (K - N) s).ro) = true)) := fun me s hm ho hs hb =>
            HOK.out.holds HN.out.1 (fun j hj => HQ1.out.s j hj) hm ho hs (badB_no hb)
          refine wp_at (fun X => TG w B gr gl cl go N F ow Q (K + 1) A2 c2 H2 VS2 L3 (on K) S2 X ∧ Blk X gO 4 (flL (trL (on K)) N).toArray ∧ X.ownsRow Q2.heap.size 32 1 (.slice Ah N ch) N (flL (woL1 Hh) N) ∧ (∀ me s, me < N → on K me = true → s < N → badB N F s = false → ∃ P, RowsW X N (Hh me) P ∧ ((P s).b = false ∨ (N ≤ K ∧ eqR (P s) (plR N (ow (K - N) s).ro) = true))) ∧ ∀ me, me < N → on K me = true → ∃ P, RowsW X N (Hh me) P) ⟨hTG, HQ2.out.kt _ _ _ (by decide) (HQ1.out.kb _ _ HNA.out HV2.out), ownsF_kept HQ1.out.h HQ2.out.kt (by decide), fun me s hm ho hs hb => (by
            obtain ⟨P, h1, h2⟩ := hHE me s hm ho hs hb
            exact ⟨P, h1.kr HQ2.out.kr, h2⟩), fun me hm ho => ⟨_, ((HQ1.out.s me hm).yes ho).qh.kr HQ2.out.kr⟩⟩ ?_
          clear hS2 hTG hHE hkr r1 r2 r3 HQ1 HQ2 HV1 HVF HV2 HV3 HV4 HV5 HV6 HV7 HSY HOK HTA HB1U HGW
          rintro X ⟨hX, hX2, hX3, hX4, hX5⟩
          have HX := Lib.hid hX
          have HXA := Lib.hid hX2
          have HXH := Lib.hid hX3
          have HXR := Lib.hid hX4
          have HXM := Lib.hid hX5
          obtain ⟨ha, hha, _, lha, hch⟩ := ownsF_get hX3 (by omega)
          subst hha
          have HBX : Hid (B ≤ X.heap.size) := Lib.hid hX.r.B.2.2.2
          have HHC : Hid (∀ i, i < N → X.cell? ⟨ha, i, none⟩ = some (Hh i).v ∧ ha < X.heap.size) := Lib.hid (fun i hi => ⟨by
            have h1 := hch (i * 1 + 0) (Hh i).v (by rw [flL_get (f := woL1 Hh) (fun _ => rfl) hi 0 (by decide)]; rfl)
            rwa [show i * 1 + 0 = i by omega] at h1, lha⟩)
          obtain ⟨bw, hbw, _, lbw, hcw⟩ := ownsF_get hX.wl (by omega)
          subst hbw
          have HCW : Hid (∀ t, t < K + 1 → X.cell? ⟨bw, t, none⟩ = some (H2 t).v ∧ bw < X.heap.size) := Lib.hid (fun t ht => ⟨by
            have h := hcw (t * 1 + 0) (H2 t).v (by rw [flL_get (f := woL1 H2) (fun _ => rfl) ht 0 (by decide)]; rfl)
            rwa [show t * 1 + 0 = t by omega] at h, lbw⟩)
          have HBAD : Hid (∀ (u : World) (i : Nat), Below X.heap.size X u → Calls Try.prog 35 #[.pointer (some ⟨gr, 0, none⟩), .int .i64 (i : Int)] u fun e w' => e = .returned (.bool (badB N F i)) ∧ Below u.heap.size u w') := Lib.hid (fun u i hu => bad_is gr N i F _ _ _ HN.out HX.out.f.a u (HX.out.r.r.on hu))
          have HFIT : Hid (∀ (u : World) (i : Nat), i < N → on K i = true → Below X.heap.size X u → Calls Try.prog 36 #[.pointer (some ⟨gr, 0, none⟩), .slice (some ⟨ha, 0, none⟩) N ch, .int .i64 (i : Int)] u fun e w' => e = .returned (.bool true) ∧ Below u.heap.size u w') := Lib.hid (fun u i hi ho hu => by
            have h := fits_is Q2.heap.size gr N i ch F _ _ _ (some ⟨ha, 0, none⟩) Hh HN.out hi u (HX.out.r.r.on hu) (ownsF_on HXH.out hu)
            obtain ⟨P9, hP9⟩ := HXM.out i hi ho
            rwa [hP9.m, show ((N : Int) == (N : Int)) = true by simp] at h)
          have HCO : Hid (∀ (u : World) (i : Nat), i < N → Below X.heap.size X u → u.cell? ⟨gO, i, none⟩ = some (.bool (on K i)) ∧ gO < u.heap.size) := Lib.hid (fun u i hi hu => ⟨by
            have h := HXA.out.on hu
            rw [← List.append_nil (flL (trL (on K)) N)] at h
            exact flL1_cell h (fun _ => rfl) hi rfl, (HXA.out.on hu).lt⟩)
          clear hX hX2 hX3 hX4 hX5 hch lha hcw lbw
          go_wp2_with fail
          go_loopw [15] (fun iv wr => ∃ i : Nat, i ≤ N ∧ iv = .int .i64 (i : Int) ∧ Hid (Below X.heap.size X wr)) (fun iv _ => N - (intOf iv).toNat)
          case atStart => exact ⟨0, by omega, rfl, Lib.hid (Below.refl _ _)⟩
          case round =>
            obtain ⟨i, hi, rfl, HI⟩ := hrel
            by_cases hil : i < N
            · have di : decide ((i : Int) < (N : Int)) = true := decide_eq_true (by omega)
              obtain ⟨bi, hbi⟩ : ∃ b, b = badB N F i := ⟨_, rfl⟩
              obtain ⟨oi, hoi⟩ : ∃ b, b = on K i := ⟨_, rfl⟩
              have HBI := Lib.hid (HBAD.out wr i HI.out)
              have HOI := Lib.hid hoi
              have HCI : Hid (∀ u : World, Below X.heap.size X u → u.cell? ⟨gO, i, none⟩ = some (.bool oi) ∧ gO < u.heap.size) := Lib.hid (fun u hu => by rw [hoi]; exact HCO.out u i hil hu)
              have hixo := fun W => idxTruths (A := some ⟨gO, 0, none⟩) (n := N) N rfl hil W
              simp only [Nat.zero_add] at hixo
              rw [← hbi] at HBI
              clear hbi hoi
              cases bi with
              | true =>
                go_wp2_with (go_at_call 35; (with_reducible refine HBI.out.mono ?_); rintro e w5 ⟨rfl, b5⟩; have HB5 := Lib.hid (below_then HI.out b5); clear b5)
                go_roundw
                case rel => exact ⟨i + 1, by omega, by go_num, HB5⟩
                case measure => simp [intOf]; omega
              | false =>
                cases oi with
                | false =>
                  go_wp2_with (go_at_call 35; (with_reducible refine HBI.out.mono ?_); rintro e w5 ⟨rfl, b5⟩; have HB5 := Lib.hid (below_then HI.out b5); obtain ⟨co, lo⟩ := HCI.out _ HB5.out; clear b5)
                  go_roundw
                  case rel => exact ⟨i + 1, by omega, by go_num, HB5⟩
                  case measure => simp [intOf]; omega
                | true =>
                  go_upto_region 26 with (go_at_call 35; (with_reducible refine HBI.out.mono ?_); rintro e w5 ⟨rfl, b5⟩; have HB5 := Lib.hid (below_then HI.out b5); obtain ⟨co, lo⟩ := HCI.out _ HB5.out; clear b5)
                  have HFI := Lib.hid (HFIT.out w5 i hil HOI.out.symm HB5.out)
                  go_upto_region 28 with (go_at_call 36; (with_reducible refine HFI.out.mono ?_); rintro e w6 ⟨rfl, b6⟩; have HB6 := Lib.hid (below_then HB5.out b6); clear b6)
                  clear HBI HFI co lo hixo
                  go_wp2_with fail
                  go_loopw [16] (fun sv wr => ∃ s : Nat, s ≤ N ∧ sv = .int .i64 (s : Int) ∧ Hid (Below X.heap.size X wr)) (fun sv _ => N - (intOf sv).toNat)
                  case atStart => exact ⟨0, by omega, rfl, HB6⟩
                  case round =>
                    clear HI HB5 HB6
                    obtain ⟨s, hs, rfl, HW⟩ := hrel
                    by_cases hsl : s < N
                    · have dS : decide ((s : Int) < (N : Int)) = true := decide_eq_true (by omega)
                      obtain ⟨P0, hP0⟩ := HXM.out i hil HOI.out.symm
                      obtain ⟨bs, hbs⟩ : ∃ b, b = badB N F s := ⟨_, rfl⟩
                      have hHC := HHC.out i hil
                      have hTR : badB N F s = false → ((Hh i).R s).ro.b = true → N ≤ K ∧ eqR ((Hh i).R s).ro (plR N (ow (K - N) s).ro) = true := fun hb h1 => by
                        obtain ⟨P, h2, h3⟩ := HXR.out i s hil HOI.out.symm hsl hb
                        rw [← h2.r s hsl] at h3
                        rcases h3 with h3 | h3
                        · rw [h1] at h3; cases h3
                        · exact h3
                      obtain ⟨HV, hHV⟩ : ∃ HV : Wo, HV = Hh i := ⟨_, rfl⟩
                      rw [← hHV] at hP0 hHC hTR
                      clear hHV
                      obtain ⟨G, hG1, hG2⟩ := hP0.A
                      have hqm := hP0.m
                      have hqc := hP0.c
                      have HTS : Hid (∀ u : World, Below X.heap.size X u → LiesH u u.heap.size (HV.R s).A (HV.R s).n (HV.R s).T) := Lib.hid (fun u hu => ((hP0.sw (B := B)) u (KR.below HBX.out hu)).t s (by rw [hqm]; exact hsl))
                      obtain ⟨vA, vm, vc, vR⟩ := HV
                      have hG1 : vA = some ⟨G, 0, none⟩ := hG1
                      have hqm : vm = N := hqm
                      have hqc : vc = N := hqc
                      have HRG : Hid (∀ u, Below X.heap.size X u → u.rangeAt G (s * 57) (vR s).l) := Lib.hid (fun u hu => by
                        have h := (hG2.on hu)
                        have h2 : LiesF u u.heap.size (some ⟨G, 0, none⟩) N 57 (fun s => (vR s).l) := Blk.liesF (by decide) (fun _ => Rw.l_len _) h
                        obtain ⟨b2, o2, e2, _, h3⟩ := h2 (by omega)
                        cases e2
                        intro j v hv
                        have := h3 s hsl j v hv
                        rwa [Nat.zero_add] at this)
                      have hHC1 : X.cell? ⟨ha, i, none⟩ = some (.slice (some ⟨G, 0, none⟩) N N) := by have h := hHC.1; simp only [Wo.v, hG1, hqm, hqc] at h; exact h
                      have ch1 : wr.cell? ⟨ha, i, none⟩ = some (.slice (some ⟨G, 0, none⟩) N N) := belowW HW.out hHC1
                      have lh1 := Nat.lt_of_lt_of_le hHC.2 HW.out.size
                      have hix := fun W => idxRowsL (A := some ⟨ha, 0, none⟩) (n := N) ch rfl hil W
                      have hix2 := fun W => idxRows (A := some ⟨G, 0, none⟩) (n := N) N rfl hsl W
                      simp only [Nat.zero_add] at hix hix2
                      have HTR : Hid (badB N F s = false → (vR s).b = true → N ≤ K ∧ eqR (vR s).ro (plR N (ow (K - N) s).ro) = true) := Lib.hid hTR
                      have HL0 : Hid ((vR s).l[0]? = some (.bool (vR s).b)) := Lib.hid rfl
                      obtain ⟨b1, hb1⟩ : ∃ b, b = (vR s).b := ⟨_, rfl⟩
                      have HB1 := Lib.hid hb1
                      have HBSE := Lib.hid hbs
                      have HZN : Hid (∀ (u : World) (Z : Array Value), Z.size = 57 → PIn (u.alloc (.cells Z 54)) u.heap.size 0 54 [] [] Z.toList ∧ Z.toList.length = 57) := Lib.hid (fun u Z hZ => ⟨Blk.pin (by simpa using Blk.new u 54 Z), by simpa using hZ⟩)
                      have HGE : Hid (X.heap.size ≤ wr.heap.size) := Lib.hid HW.out.size
                      clear hP0 hTR hG1 hqm hqc hHC hHC1 hb1 hbs hG2
                      go_upto_region 32 with (first
                        | (refine wpList_load_mid rfl 54 (.tmp 144) rfl G (s * 57) (by simp [Act.eval, Act.put]) (vR s).l _ (HRG.out wr HW.out) Try.underlying54 rfl (by rw [size_row, Rw.l_len]) ?_)
                        | (refine wpList_store_pin rfl 54 (.tmp 17) (.tmp 145) rfl (HZN.out wr _ rfl).1 (vR s).l (by simp [Act.eval, Act.put]) (by simp [Act.eval, Act.put]) 57 size_row (HZN.out wr _ rfl).2 (Rw.l_len _) (roL_one _ _ _ _ _) ?_; intro w8 p8 b8; have HP8 := Lib.hid p8; have HB8 := Lib.hid (below_al HW.out (.cells _ 54) |>.trans (b8.low HGE.out)); clear p8 b8))
                      refine wp_at (fun V => PIn V wr.heap.size 0 54 [] [] (vR s).l ∧ Below X.heap.size X V) ⟨HP8.out, HB8.out⟩ ?_
                      clear HP8 HB8 HZN hix hix2 ch1 lh1
                      obtain ⟨gw, hgw⟩ : ∃ g, g = wr.heap.size := ⟨_, rfl⟩
                      rw [← hgw]
                      clear hgw HGE HW
                      rintro V0 ⟨hp0, hb0⟩
                      have HP0 := Lib.hid hp0
                      have HB0 := Lib.hid hb0
                      have HBS := Lib.hid (HBAD.out V0 s hb0)
                      rw [← HBSE.out] at HBS
                      clear hp0 hb0
                      cases bs with
                      | true =>
                        go_wp2_with (go_at_call 35; (with_reducible refine HBS.out.mono ?_); rintro e w5 ⟨rfl, b5⟩; have HB5 := Lib.hid (below_then HB0.out b5); clear b5)
                        go_roundw
                        case rel => exact ⟨s + 1, by omega, by go_num, HB5⟩
                        case measure => simp [intOf]; omega
                      | false =>
                        cases b1 with
                        | false =>
                          go_wp2_with (go_at_call 35; (with_reducible refine HBS.out.mono ?_); rintro e w5 ⟨rfl, b5⟩; have HB5 := Lib.hid (below_then HB0.out b5); have cb : w5.cell? ⟨gw, 0, none⟩ = some (.bool false) := (by rw [(HP0.out.on b5).cell0 (by rw [Rw.l_len]; decide), HL0.out, ← HB1.out]); have lb := (HP0.out.on b5).lt; clear b5)
                          go_roundw
                          case rel => exact ⟨s + 1, by omega, by go_num, HB5⟩
                          case measure => simp [intOf]; omega
                        | true =>
                          obtain ⟨hNK, hqe⟩ := HTR.out HBSE.out.symm HB1.out.symm
                          go_upto_region 33 with (go_at_call 35; (with_reducible refine HBS.out.mono ?_); rintro e w5 ⟨rfl, b5⟩; have HB5 := Lib.hid (below_then HB0.out b5); have HPW := Lib.hid (HP0.out.on b5); have cb : w5.cell? ⟨gw, 0, none⟩ = some (.bool true) := (by rw [(HP0.out.on b5).cell0 (by rw [Rw.l_len]; decide), HL0.out, ← HB1.out]); have lb := (HP0.out.on b5).lt; clear b5)
                          have dKN : decide ((K : Int) < (N : Int)) = false := decide_eq_false (by omega)
                          obtain ⟨kn, hkn⟩ : ∃ k, k = K - N := ⟨_, rfl⟩
                          have hkn1 : (K : Int) - (N : Int) = (kn : Int) := by omega
                          have hkn2 : kn < K + 1 := by omega
                          have hkw : IntKind.i64.wrap (kn : Int) = (kn : Int) := IntWalk.i64_in _ (by omega)
                          have dKN2 : decide (K < N) = false := decide_eq_false (by omega)
                          rw [← hkn] at hqe
                          obtain ⟨hcw1, hcw2⟩ := HCW.out kn hkn2
                          obtain ⟨hT1, hT2, hT3⟩ := HX.out.wt kn hkn2
                          have hT4 := hT1.lies
                          obtain ⟨wv, hwv⟩ : ∃ r : Rw, r = (H2 kn).R s := ⟨_, rfl⟩
                          have hwr : wv.ro = plR N (ow kn s).ro := by rw [hwv]; exact hT3 s hsl
                          have hwl : ∀ u : World, Below X.heap.size X u → LiesH u u.heap.size wv.A wv.n wv.T := fun u hu => by
                            rw [hwv]; exact (hT1.kr (KR.below HBX.out hu)).lies.t s hsl
                          have hwn : wv.n ≤ 65536 := by
                            have h := congrArg Ro.n hwr
                            rw [show wv.n = wv.ro.n from rfl, h]
                            exact Nat.le_trans (plR_n _ _) (by omega)
                          rw [← hwr] at hqe
                          have hqn : (vR s).n ≤ 65536 := by
                            have h := ((eqR_iff _ _).1 hqe).2.2.1
                            show (vR s).ro.n ≤ 65536
                            rw [h]; exact hwn
                          have HSA : Hid (∀ u : World, Below X.heap.size X u → Calls Try.prog 37 #[.agg (vR s).l.toArray, .agg wv.l.toArray] u fun e w' => e = .returned (.bool true) ∧ Below u.heap.size u w') := Lib.hid (fun u hu => by
                            have h := same14_is (vR s) wv hqn hwn u (HTS.out u hu) (hwl u hu)
                            rwa [hqe] at h)
                          obtain ⟨X2, hX2⟩ : ∃ X2, X2 = H2 kn := ⟨_, rfl⟩
                          rw [← hX2] at hcw1 hT2 hT4 hwv
                          obtain ⟨yA, ym, yc, yR⟩ := X2
                          have hT2 : ym = N := hT2
                          obtain ⟨rb, ro, hyA, hrb, hrc⟩ := hT4.f (by omega)
                          have hyA : yA = some ⟨rb, ro, none⟩ := hyA
                          have hcw3 : X.cell? ⟨bw, kn, none⟩ = some (.slice (some ⟨rb, ro, none⟩) N yc) := by have h := hcw1; simp only [Wo.v, hyA, hT2] at h; exact h
                          have HC3 : Hid (∀ u, Below X.heap.size X u → u.cell? ⟨bw, kn, none⟩ = some (.slice (some ⟨rb, ro, none⟩) N yc) ∧ bw < u.heap.size) := Lib.hid (fun u hu => ⟨belowW hu hcw3, Nat.lt_of_lt_of_le hcw2 hu.size⟩)
                          have hwv2 : yR s = wv := hwv.symm
                          have HRY : Hid (∀ u, Below X.heap.size X u → u.rangeAt rb (ro + s * 57) wv.l) := Lib.hid (fun u hu => by
                            intro j v hv
                            rw [← hwv2] at hv
                            exact (hu.cell (p := ⟨rb, _, none⟩) hrb).trans (hrc s hsl j v hv))
                          have hix3 := fun W => idxRowsL (A := some ⟨bw, 0, none⟩) (n := K + 1) c2 rfl hkn2 W
                          have hix4 := fun W => idxRows (A := some ⟨rb, ro, none⟩) (n := N) yc rfl hsl W
                          simp only [Nat.zero_add] at hix3
                          clear hkn hcw1 hcw2 hT1 hT2 hT3 hT4 hwv hwr hwl hwn hqe hqn hX2 hyA hrb hrc hcw3 hwv2 HTS HTR HRG cb lb
                          refine Reg.wp_slots2 (fun tt => decide (154 ≤ tt) && decide (tt ≤ 170)) (Reg.KJ w5.heap.size [] []) (Reg.KJ.drew _ (by simp)) Reg.KJ.trans (by kernel_rfl) (by kernel_rfl) (by kernel_rfl) (fun zz => (Reg.tblK [
                            (154, .is (.int .i64 (K : Int))),
                            (155, .is (.int .i64 (N : Int))),
                            (156, .is (.bool false)),
                            (157, .is (.bool false)),
                            (158, .is (.agg (vR s).l.toArray)),
                            (159, .is (.slice (some ⟨bw, 0, none⟩) (K + 1) c2)),
                            (160, .is (.int .i64 (K : Int))),
                            (161, .is (.int .i64 (N : Int))),
                            (162, .is (.int .i64 (kn : Int))),
                            (163, .is (.pointer (some ⟨bw, kn, none⟩))),
                            (164, .is (.slice (some ⟨rb, ro, none⟩) N yc)),
                            (165, .is (.int .i64 (s : Int))),
                            (166, .is (.pointer (some ⟨rb, ro + s * 57, none⟩))),
                            (167, .is (.agg wv.l.toArray)),
                            (168, .is (.bool true)),
                            (169, .is (.bool false)),
                            (170, .is (.bool false))] zz).P) (fun zz => (Reg.tblK _ zz).on) (fun zz => (Reg.memK [] zz).P) (fun zz => (Reg.memK _ zz).on) ?_ ?_
                          · simp only [Reg.frame, Reg.over, Nat.reduceAdd, Nat.reduceLeDiff, decide_true, decide_false, if_true, Bool.false_eq_true, if_false, Bool.and_true, Bool.and_false]
                            refine ⟨?_, ?_, ?_, ?_, ?_, ?_, ?_, ?_, ?_, ?_, ?_, ?_, ?_, ?_, ?_, ?_, ?_, trivial⟩
                            · intro y u hku hd
                              refine wpOp_step rfl fun KK hK => ?_
                              go_simp
                              exact hK _ _ ⟨_, rfl, Reg.KJ.refl _, fun d hd => by cases hd; exact rfl, fun h => by cases h⟩
                            · intro y u hku hd
                              refine wpOp_step rfl fun KK hK => ?_
                              go_simp
                              exact hK _ _ ⟨_, rfl, Reg.KJ.refl _, fun d hd => by cases hd; exact rfl, fun h => by cases h⟩
                            · intro y u hku hd
                              have h154 : y 154 = .int .i64 (K : Int) := hd 0 (by decide)
                              have h155 : y 155 = .int .i64 (N : Int) := hd 1 (by decide)
                              refine wpOp_step rfl fun KK hK => ?_
                              simp only [h154, h155] at hK ⊢
                              go_simp
                              exact hK _ _ ⟨_, rfl, Reg.KJ.refl _, fun d hd => by cases hd; exact rfl, fun h => by cases h⟩
                            · intro y u hku hd
                              have h156 : y 156 = .bool false := hd 2 (by decide)
                              refine wpOp_step rfl fun KK hK => ?_
                              simp only [h156] at hK ⊢
                              go_simp
                              exact hK _ _ ⟨_, rfl, Reg.KJ.refl _, fun d hd => by cases hd; exact rfl, fun h => by cases h⟩
                            · intro y u hku hd
                              have h157 : y 157 = .bool false := hd 3 (by decide)
                              refine wpOp_step rfl fun KK hK => ?_
                              refine Reg.step_load_wantT (by simp only [h157]; kernel_rfl) 54 (.tmp 17) (by rfl) gw 0 (by rfl) (vR s).l (HPW.out.on hku.below).range _ Try.underlying54 rfl (by rw [size_row, Rw.l_len]) ?_
                              exact hK _ _ ⟨_, rfl, Reg.KJ.refl _, fun d hd => by cases hd; exact rfl, fun h => by cases h⟩
                            · intro y u hku hd
                              have h157 : y 157 = .bool false := hd 3 (by decide)
                              refine wpOp_step rfl fun KK hK => ?_
                              simp only [h157] at hK ⊢
                              go_simp
                              exact hK _ _ ⟨_, rfl, Reg.KJ.refl _, fun d hd => by cases hd; exact rfl, fun h => by cases h⟩
                            · intro y u hku hd
                              have h157 : y 157 = .bool false := hd 3 (by decide)
                              refine wpOp_step rfl fun KK hK => ?_
                              simp only [h157] at hK ⊢
                              go_simp
                              exact hK _ _ ⟨_, rfl, Reg.KJ.refl _, fun d hd => by cases hd; exact rfl, fun h => by cases h⟩
                            · intro y u hku hd
                              have h157 : y 157 = .bool false := hd 3 (by decide)
                              refine wpOp_step rfl fun KK hK => ?_
                              simp only [h157] at hK ⊢
                              go_simp
                              exact hK _ _ ⟨_, rfl, Reg.KJ.refl _, fun d hd => by cases hd; exact rfl, fun h => by cases h⟩
                            · intro y u hku hd
                              have h160 : y 160 = .int .i64 (K : Int) := hd 6 (by decide)
                              have h161 : y 161 = .int .i64 (N : Int) := hd 7 (by decide)
                              have h157 : y 157 = .bool false := hd 3 (by decide)
                              refine wpOp_step rfl fun KK hK => ?_
                              simp only [h160, h161, h157] at hK ⊢
                              go_simp
                              exact hK _ _ ⟨_, rfl, Reg.KJ.refl _, fun d hd => by cases hd; exact rfl, fun h => by cases h⟩
                            · intro y u hku hd
                              have h159 : y 159 = .slice (some ⟨bw, 0, none⟩) (K + 1) c2 := hd 5 (by decide)
                              have h162 : y 162 = .int .i64 (kn : Int) := hd 8 (by decide)
                              have h157 : y 157 = .bool false := hd 3 (by decide)
                              refine wpOp_step rfl fun KK hK => ?_
                              simp only [h159, h162, h157] at hK ⊢
                              go_simp
                              exact hK _ _ ⟨_, rfl, Reg.KJ.refl _, fun d hd => by cases hd; exact rfl, fun h => by cases h⟩
                            · intro y u hku hd
                              have h163 : y 163 = .pointer (some ⟨bw, kn, none⟩) := hd 9 (by decide)
                              have h157 : y 157 = .bool false := hd 3 (by decide)
                              obtain ⟨hcc, hll⟩ := HC3.out u (HB5.out.trans (hku.below.mono HB5.out.size))
                              refine wpOp_step rfl fun KK hK => ?_
                              simp only [h163, h157] at hK ⊢
                              go_simp
                              exact hK _ _ ⟨_, rfl, Reg.KJ.refl _, fun d hd => by cases hd; exact rfl, fun h => by cases h⟩
                            · intro y u hku hd
                              have h157 : y 157 = .bool false := hd 3 (by decide)
                              refine wpOp_step rfl fun KK hK => ?_
                              simp only [h157] at hK ⊢
                              go_simp
                              exact hK _ _ ⟨_, rfl, Reg.KJ.refl _, fun d hd => by cases hd; exact rfl, fun h => by cases h⟩
                            · intro y u hku hd
                              have h164 : y 164 = .slice (some ⟨rb, ro, none⟩) N yc := hd 10 (by decide)
                              have h165 : y 165 = .int .i64 (s : Int) := hd 11 (by decide)
                              have h157 : y 157 = .bool false := hd 3 (by decide)
                              refine wpOp_step rfl fun KK hK => ?_
                              simp only [h164, h165, h157] at hK ⊢
                              go_simp
                              exact hK _ _ ⟨_, rfl, Reg.KJ.refl _, fun d hd => by cases hd; exact rfl, fun h => by cases h⟩
                            · intro y u hku hd
                              have h166 : y 166 = .pointer (some ⟨rb, ro + s * 57, none⟩) := hd 12 (by decide)
                              have h157 : y 157 = .bool false := hd 3 (by decide)
                              refine wpOp_step rfl fun KK hK => ?_
                              refine Reg.step_load_wantT (by simp only [h157]; kernel_rfl) 54 (.tmp 166) (by rfl) rb (ro + s * 57) (by exact h166) wv.l (HRY.out u (HB5.out.trans (hku.below.mono HB5.out.size))) _ Try.underlying54 rfl (by rw [size_row, Rw.l_len]) ?_
                              exact hK _ _ ⟨_, rfl, Reg.KJ.refl _, fun d hd => by cases hd; exact rfl, fun h => by cases h⟩
                            · intro y u hku hd
                              have h158 : y 158 = .agg (vR s).l.toArray := hd 4 (by decide)
                              have h167 : y 167 = .agg wv.l.toArray := hd 13 (by decide)
                              have h157 : y 157 = .bool false := hd 3 (by decide)
                              refine wpOp_step rfl fun KK hK => ?_
                              simp only [h158, h167, h157] at hK ⊢
                              go_simp
                              (with_reducible refine (HSA.out u (HB5.out.trans (hku.below.mono HB5.out.size))).mono ?_)
                              rintro e u' ⟨rfl, hb'⟩
                              exact hK _ _ ⟨_, rfl, Reg.KJ.grow (by simp) hku.size hb', fun d hd => by cases hd; exact rfl, fun h => by cases h⟩
                            · intro y u hku hd
                              have h168 : y 168 = .bool true := hd 14 (by decide)
                              have h157 : y 157 = .bool false := hd 3 (by decide)
                              refine wpOp_step rfl fun KK hK => ?_
                              simp only [h168, h157] at hK ⊢
                              go_simp
                              exact hK _ _ ⟨_, rfl, Reg.KJ.refl _, fun d hd => by cases hd; exact rfl, fun h => by cases h⟩
                            · intro y u hku hd
                              have h157 : y 157 = .bool false := hd 3 (by decide)
                              have h169 : y 169 = .bool false := hd 15 (by decide)
                              refine wpOp_step rfl fun KK hK => ?_
                              simp only [h157, h169] at hK ⊢
                              go_simp
                              exact hK _ _ ⟨_, rfl, Reg.KJ.refl _, fun d hd => by cases hd; exact rfl, fun h => by cases h⟩
                          · intro y u hku hall
                            have e170 : y 170 = .bool false := hall 16 (by decide)
                            simp only [Reg.frame, Reg.over, Nat.reduceAdd, Nat.reduceLeDiff, decide_true, decide_false, if_true, Bool.false_eq_true, if_false, Bool.and_true, Bool.and_false, e170]
                            have HKU := Lib.hid hku.below
                            clear hku hall
                            go_wp2_with fail
                            go_roundw
                            case rel => exact ⟨s + 1, by omega, by go_num, Lib.hid (HB5.out.trans (HKU.out.mono HB5.out.size))⟩
                            case measure => simp [intOf]; omega
                    · obtain rfl : N = s := by omega
                      have dS : decide ((N : Int) < (N : Int)) = false := decide_eq_false (by omega)
                      go_wp2_with fail
                      go_roundw
                      case rel => exact ⟨i + 1, by omega, by go_num, HW⟩
                      case measure => simp [intOf]; omega
            · obtain rfl : N = i := by omega
              have di : decide ((N : Int) < (N : Int)) = false := decide_eq_false (by omega)
              go_wp2_with fail
              go_roundw
              case rel => exact ⟨K + 1, by omega, by go_num, _, c2, H2, _, L3, on K, S2, rfl, Lib.hid (HX.out.up HI.out)⟩
              case measure => simp [intOf]; omega
      · obtain rfl : N4 = K := by omega
        have dK : decide ((N4 : Int) < (N4 : Int)) = false := decide_eq_false (by omega)
        go_wp2_with (go_at_call 14; (with_reducible refine (lives_tk _).mono ?_); rintro e w7 ⟨rfl, b7⟩)
        go_ret
        exact ⟨rfl, below_then HT.out.b b7⟩
end Go.Proofs.Ytcangipaoancnaa

