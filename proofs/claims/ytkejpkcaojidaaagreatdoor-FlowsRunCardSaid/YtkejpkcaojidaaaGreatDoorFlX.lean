/-
  The law FlowsRun, walked, for whatever config, node and slots: true; nothing that was there has turned. Conditions: the config's and the slots' reading; both tables are as the program's text lays them.
-/
import Derived.Test.YtkejpkcaojidaaaGreatDoorFlK
import Derived.Test.YtkejpkcaojidaaaGreatDoorFlRu
import Derived.Test.YtkejpkcaojidaaaGreatDoorWnR1
import Derived.Test.YtkejpkcaojidaaaGreatDoorSnOut
import Derived.Test.YtkejpkcaojidaaaGreatDoorFlL
import Derived.Test.YtkejpkcaojidaaaGreatDoorReg10
import Derived.Test.YtkejpkcaojidaaaGreatDoorReg3
import Derived.Test.YtkejpkcaojidaaaGreatDoorLawNet
namespace Go.Proofs.YtkejpkcaojidaaaGreatDoor
set_option linter.unusedVariables false
set_option linter.unusedSimpArgs false
open Go.RowKit Rg
set_option linter.unusedVariables false
set_option linter.unusedSimpArgs false

/-- Blocks of these types alone may turn. -/
def flTs : List TypeId := [82, 87, 155, 47]
/-- A flow f and the document's m, for n ticks: at the k-th one the place is q k, what comes ia k .. jb k; R k: what is known of memory ahead of it, M k: between both; ra k, rb k: what both give. Behind k ticks both have heard G k (r k), are high so (r0 k, r1 k), have sent H (t). -/
structure Pk (lo f m n : Nat) (q ia ib ja jb : Nat → Int) (R M : Nat → World → Prop) (ra rb : Nat → Int) (G : Nat → Fr) (r r0 r1 : Nat → Bool) (H : Fr) (t : Bool) : Prop where
  onR : ∀ k u u', R k u → Below u.heap.size u u' → R k u'
  onM : ∀ k u u', M k u → Below u.heap.size u u' → M k u'
  tf : ∀ k u, k < n → R k u → Calls Tryz.prog 10 #[.pointer (some ⟨f, 0, none⟩), .int .i64 (q k), .agg #[.int .u8 (ia k), .int .u8 (ib k), .int .u8 (ja k), .int .u8 (jb k)]] u fun e w' => e = .returned (.agg #[.int .u8 (ra k), .int .u8 (rb k)]) ∧ M k w' ∧ Below lo u w' ∧ KeptBut u w' flTs
  tm : ∀ k u, k < n → M k u → Calls Tryz.prog 12 #[.pointer (some ⟨m, 0, none⟩), .int .i64 (q k), .agg #[.int .u8 (ia k), .int .u8 (ib k), .int .u8 (ja k), .int .u8 (jb k)]] u fun e w' => e = .returned (.agg #[.int .u8 (ra k), .int .u8 (rb k)]) ∧ R (k + 1) w' ∧ Below lo u w' ∧ KeptBut u w' flTs
  hf : ∀ k u, R k u → Calls Tryz.prog 13 #[.pointer (some ⟨f, 0, none⟩)] u fun e w' => e = .returned (.tuple #[.agg #[.int .u8 (G k).k, .int .u8 (G k).s, .int .u32 (G k).q, .int .u32 (G k).v], .bool (r k)]) ∧ Below u.heap.size u w'
  hm : ∀ k u, R k u → Calls Tryz.prog 14 #[.pointer (some ⟨m, 0, none⟩)] u fun e w' => e = .returned (.tuple #[.agg #[.int .u8 (G k).k, .int .u8 (G k).s, .int .u32 (G k).q, .int .u32 (G k).v], .bool (r k)]) ∧ Below u.heap.size u w'
  sf : ∀ k u, R k u → Calls Tryz.prog 15 #[.pointer (some ⟨f, 0, none⟩)] u fun e w' => e = .returned (.tuple #[.agg #[.int .u8 H.k, .int .u8 H.s, .int .u32 H.q, .int .u32 H.v], .bool t]) ∧ Below u.heap.size u w'
  sm : ∀ k u, R k u → Calls Tryz.prog 16 #[.pointer (some ⟨m, 0, none⟩)] u fun e w' => e = .returned (.tuple #[.agg #[.int .u8 H.k, .int .u8 H.s, .int .u32 H.q, .int .u32 H.v], .bool t]) ∧ Below u.heap.size u w'
  gf : ∀ k u, R k u → Calls Tryz.prog 17 #[.pointer (some ⟨f, 0, none⟩)] u fun e w' => e = .returned (.agg #[.bool (r0 k), .bool (r1 k)]) ∧ Below u.heap.size u w'
  gm : ∀ k u, R k u → Calls Tryz.prog 18 #[.pointer (some ⟨m, 0, none⟩)] u fun e w' => e = .returned (.agg #[.bool (r0 k), .bool (r1 k)]) ∧ Below u.heap.size u w'
  farM : ∀ k u u' g cs, M k u → Blk u g 48 cs → cs.size ≤ 113 → f < g → But g u u' → M k u'
theorem keptBelow {w w' : World} {ts : List TypeId} (h : Below w.heap.size w w') : KeptBut w w' ts := fun g t cs _ hB => hB.on h
theorem But.kept1 {w w' : World} {g : Nat} {t : TypeId} {cs : Array Value} (hB : Blk w g t cs) (h : But g w w') : KeptBut w w' [t] := fun x t' cs' ht hX => h.blk hX (blk_neT hX hB (by simpa using ht))
theorem KeptBut.up {w w' : World} {ts us : List TypeId} (h : KeptBut w w' ts) (hs : ∀ t ∈ ts, t ∈ us) : KeptBut w w' us := fun g t cs ht hB => h g t cs (fun hm => ht (hs t hm)) hB
theorem FlowN.kept {w w' : World} {f B : Nat} {N : Int} {P : List Int} {x : Int} {s : PSt} (h : FlowN w f B N P x s) (hk : But f w w') : KeptBut w w' flTs := by
  obtain ⟨fb, c, h1, _⟩ := h
  exact (But.kept1 h1 hk).up (by decide)
theorem FlowN.low {w : World} {f B : Nat} {N : Int} {P : List Int} {x : Int} {s : PSt} (h : FlowN w f B N P x s) : B ≤ f := by
  obtain ⟨fb, c, _, _, _, _, _, h6⟩ := h
  exact h6
/-- What all three have: nothing below lo has turned; the flow, its part, the document's. -/
structure FM (w0 : World) (fp B mp : Nat) (c : Cf) (x : Int) (s : PSt) (o : Int) (S P0 P1 : Option Addr) (u : World) : Prop where
  b : Below w0.heap.size w0 u
  f : FlowN u fp B c.N c.P x s
  m : RfB u mp c x o S P0 P1
  lo : w0.heap.size ≤ B
  ne : fp ≠ mp
  bm : B ≤ mp
section
variable {w0 u u' : World} {f B m : Nat} {c : Cf} {x o : Int} {s : PSt} {S P0 P1 : Option Addr}
theorem FM.on (h : FM w0 f B m c x s o S P0 P1 u) (hb : Below u.heap.size u u') : FM w0 f B m c x s o S P0 P1 u' := ⟨below_then h.b hb, h.f.on hb, h.m.on hb, h.lo, h.ne, h.bm⟩
theorem FM.tick {s' : PSt} (h : FM w0 f B m c x s o S P0 P1 u) (hf : FlowN u' f B c.N c.P x s') (hk : But f u u') : FM w0 f B m c x s' o S P0 P1 u' :=
  ⟨h.b.trans (hk.low (by have := h.lo; have := h.f.low; omega)), hf, hk.blk h.m h.ne.symm, h.lo, h.ne, h.bm⟩
theorem FM.lowF (h : FM w0 f B m c x s o S P0 P1 u) (hk : But f u u') : Below w0.heap.size u u' := hk.low (by have := h.lo; have := h.f.low; omega)
theorem FM.far {g : Nat} {cs : Array Value} (h : FM w0 f B m c x s o S P0 P1 u) (hB : Blk u g 48 cs) (hg : f < g) (hk : But g u u') : FM w0 f B m c x s o S P0 P1 u' := by
  have hl : Below B u u' := hk.low (by have := h.f.low; omega)
  refine ⟨h.b.trans (hl.mono h.lo), ?_, hk.blk h.m (fun e => ?_), h.lo, h.ne, h.bm⟩
  · obtain ⟨fb, cc, k1, k2, k3⟩ := h.f
    exact ⟨fb, cc, hk.blk k1 (by omega), k2.keep (Nat.le_refl _) hl, k3⟩
  · exact blk_neT h.m hB (by decide) e
theorem FM.low (h : FM w0 f B m c x s o S P0 P1 u) (hb : Below u.heap.size u u') : Below w0.heap.size u u' := hb.mono h.b.size
end
/-- None. -/
theorem pk_none (w0 : World) (f B m : Nat) (c : Cf) (x o : Int) (n : Nat) (q ia ib ja jb : Nat → Int) :
    Pk w0.heap.size f m n q ia ib ja jb (fun _ => FM w0 f B m c x .no o none none none) (fun _ => FM w0 f B m c x .no o none none none) (fun _ => 0) (fun _ => 0) (fun _ => heardF Fr.zero Fr.zero false false) (fun _ => false) (fun _ => false) (fun _ => false) ⟨0, 0, 0, 0, 0⟩ false where
  onR := fun k u u' h hb => h.on hb
  onM := fun k u u' h hb => h.on hb
  tf := fun k u hk h => (tick_no _ _ _ _ _ _ u h.f.now).mono fun e w' ⟨h1, h2⟩ => ⟨h1, h.on h2, h.low h2, keptBelow h2⟩
  tm := fun k u hk h => (rfTick_none m c x o _ _ _ _ _ u h.m).mono fun e w' ⟨h1, h2⟩ => ⟨h1, h.on h2, h.low h2, keptBelow h2⟩
  hf := fun k u h => fHeard_of .no trivial catN catN rfl catC_none catC_none Fr.zero Fr.zero false false hiC_none hiC_none _ u h.f.now _ rfl _ rfl
  hm := fun k u h => rfHeard_is m c x o none none none Fr.zero Fr.zero false false u h.m (.inl ⟨rfl, rfl⟩) (.inl ⟨rfl, rfl⟩) _ rfl _ rfl
  sf := fun k u h => fSent_is .no trivial (by simp [PSt.each, catN_len]) (fun v hv => by rcases List.mem_append.1 hv with h | h <;> exact catN_one v h) _ u h.f.now ⟨0, 0, 0, 0, 0⟩ false fun u' hu' => sends_mute (.pointer none) u' (.inl rfl)
  sm := fun k u h => rfSent_none m c x o none none u h.m
  gf := fun k u h => fHigh_of .no trivial catN catN rfl catC_none catC_none Fr.zero Fr.zero false false hiC_none hiC_none _ u h.f.now
  gm := fun k u h => rfHigh_is m c x o none none none Fr.zero Fr.zero false false u h.m (.inl ⟨rfl, rfl⟩) (.inl ⟨rfl, rfl⟩)
  farM := fun k u u' g cs h hB hs hg hk => h.far hB hg hk
/-- The document's sender outlives what turns in another block that is small. -/
theorem RSnd.far {t : Bool} {F : Fr} {c : Cf} {x o : Int} {w w' : World} {v : Value} {g : Nat} {T : TypeId} {cs : Array Value} (h : RSnd t F c x o w v) (hB : Blk w g T cs) (hT : 128 ≠ T) (hs : cs.size ≤ 113) (hk : But g w w') (hc : CfIn w' c) : RSnd t F c x o w' v := by
  obtain ⟨A, n, cp, ⟨g', rfl, h1, h2⟩, h3⟩ := h
  refine ⟨A, n, cp, ⟨g', rfl, hk.blk h1 (blk_neT h1 hB hT), hc⟩, fun ht => ⟨(h3 ht).1, ?_⟩⟩
  obtain ⟨rfl, h4⟩ := h3 ht
  refine ⟨h4.1, fun hn => ?_⟩
  obtain ⟨b, off, e, hb, hj⟩ := h4.2 hn
  have hbg : b ≠ g := by
    rintro rfl
    have := hj 113 (by omega)
    rw [hB.cell, Array.getElem?_eq_none (by omega)] at this
    cases this
  refine ⟨b, off, e, Nat.lt_of_lt_of_le hb hk.1.size, fun j hj' => ?_⟩
  rw [← hj j hj']
  simp only [World.cell?, hk.2 b hb hbg]
/-- The program's sender outlives what turns in another block that is small. -/
theorem Snd.far {t sd : Bool} {F : Fr} {w w' : World} {v : Value} {g : Nat} {T : TypeId} {cs : Array Value} (h : Snd t sd F w v) (hB : Blk w g T cs) (hT : 171 ≠ T) (hT2 : 126 ≠ T) (hs : cs.size ≤ 113) (hk : But g w w') : Snd t sd F w' v := by
  rcases h with ⟨e, g', k, A, rfl, h1, h2, h4⟩ | ⟨e, e2, h⟩
  · refine .inl ⟨e, g', k, A, rfl, hk.blk h1 (blk_neT h1 hB hT), hk.blk h2 (blk_neT h2 hB hT2), h4.1, fun hn => ?_⟩
    obtain ⟨b, off, ea, hb, hj⟩ := h4.2 hn
    have hbg : b ≠ g := by
      rintro rfl
      have := hj 113 (by omega)
      rw [hB.cell, Array.getElem?_eq_none (by omega)] at this
      cases this
    refine ⟨b, off, ea, Nat.lt_of_lt_of_le hb hk.1.size, fun j hj' => ?_⟩
    rw [← hj j hj']
    simp only [World.cell?, hk.2 b hb hbg]
  · refine .inr ⟨e, e2, ?_⟩
    rcases h with rfl | ⟨g', rfl, h⟩
    · exact .inl rfl
    · exact .inr ⟨g', rfl, hk.blk h (blk_neT h hB hT)⟩
/-- A half. -/
structure HF (w0 : World) (f B m : Nat) (c : Cf) (x o : Int) (sd t : Bool) (F : Fr) (p : Option Addr) (g : Nat) (u : World) : Prop where
  a : FM w0 f B m c x (.half p) o (some ⟨g, 0, none⟩) none none u
  s : Snd t sd F u (.pointer p)
  r : RSnd t F c x o u (.pointer (some ⟨g, 0, none⟩))
theorem HF.on {w0 u u' : World} {f B m : Nat} {c : Cf} {x o : Int} {sd t : Bool} {F : Fr} {p : Option Addr} {g : Nat} (h : HF w0 f B m c x o sd t F p g u) (hb : Below u.heap.size u u') : HF w0 f B m c x o sd t F p g u' := ⟨h.a.on hb, h.s.on hb, h.r.on hb⟩
theorem pk_half (w0 : World) (f B m : Nat) (c : Cf) (hc : CfLow w0 w0.heap.size c) (hE : newE c = 0) (x o : Int) (n : Nat) (q ia ib ja jb : Nat → Int) (sd t : Bool) (hs : plM c.N c.P 0 o x = halfI sd) (F : Fr) (hF : t = false → F = ⟨0, 0, 0, 0, 0⟩) :
    Pk w0.heap.size f m n q ia ib ja jb (fun _ u => ∃ p g, HF w0 f B m c x o sd t F p g u) (fun _ u => ∃ p g, HF w0 f B m c x o sd t F p g u) (fun k => if t = true then outM (symF F) (wb sd) (q k) else 0) (fun k => if t = true then outM (symF F) (wb (!sd)) (q k) else 0) (fun _ => heardF Fr.zero Fr.zero false false) (fun _ => false) (fun _ => false) (fun _ => false) F t where
  onR := fun k u u' ⟨p, g, h⟩ hb => ⟨p, g, h.on hb⟩
  onM := fun k u u' ⟨p, g, h⟩ hb => ⟨p, g, h.on hb⟩
  tf := fun k u hk ⟨p, g, h⟩ => (node_half h.a.f (q k) (ia k) (ib k) (ja k) (jb k) _ _ fun u' hu' => by
      rcases h.s with ⟨e, h1⟩ | ⟨e, e2, h1⟩
      · simp only [e, if_true]
        exact out_says sd F _ (q k) _ _ rfl rfl u' (h1.on hu')
      · simp only [e, Bool.false_eq_true, if_false]
        exact out_mute _ (q k) u' (h1.on hu')).mono fun e w' ⟨h1, h2, h3⟩ => ⟨h1, ⟨p, g, h.a.tick h2 h3, (by obtain ⟨fb, cc, k1, _⟩ := h.a.f; exact h.s.but k1 h3), (by
      obtain ⟨fb, cc, k1, _⟩ := h.a.f
      exact h.r.far k1 (by decide) (by show (20 : Nat) ≤ 113; decide) h3 ((hc.keep (Nat.le_refl _) (h.a.b.trans (h.a.lowF h3))).in_ (h.a.b.trans (h.a.lowF h3)).size))⟩, h.a.lowF h3, h.a.f.kept h3⟩
  tm := fun k u hk ⟨p, g, h⟩ => (rfTick_half m c x o g (q k) (ia k) (ib k) (ja k) (jb k) _ _ u h.a.m fun u' hu' => by
      have e1 := half_ofW (show c.N ≠ 0 by have := (newE_ok.1 hE).nodes; omega) hs
      have e2 := half_ofW (show c.N ≠ 0 by have := (newE_ok.1 hE).nodes; omega) (half_other hs)
      obtain ⟨A, n', cp, k1, k2⟩ := h.r
      exact rout_is c x o (q k) t F (symF F) A n' cp (wb sd) (wb (!sd)) e1.1 e2.1 hE _ _ rfl rfl _ u' (k1.on hu') fun e => ⟨(k2 e).1, .inl (wb_len sd), .inl (wb_len _), (k2 e).2.on hu'⟩).mono fun e w' ⟨h1, h2⟩ => ⟨h1, ⟨p, g, h.on h2⟩, h.a.low h2, keptBelow h2⟩
  hf := fun k u ⟨p, g, h⟩ => fHeard_of (.half p) trivial catN catN rfl catC_none catC_none Fr.zero Fr.zero false false hiC_none hiC_none _ u h.a.f.now _ rfl _ rfl
  hm := fun k u ⟨p, g, h⟩ => rfHeard_is m c x o _ none none Fr.zero Fr.zero false false u h.a.m (.inl ⟨rfl, rfl⟩) (.inl ⟨rfl, rfl⟩) _ rfl _ rfl
  sf := fun k u ⟨p, g, h⟩ => fSent_is (.half p) trivial (by simp [PSt.each, catN_len]) (fun v hv => by rcases List.mem_append.1 hv with h | h <;> exact catN_one v h) _ u h.a.f.now F t fun u' hu' => snd_sends (h.s.on hu')
  sm := fun k u ⟨p, g, h⟩ => by
    obtain ⟨A, n', cp, ⟨g', e, k1, _⟩, k2⟩ := h.r
    obtain rfl : g = g' := by injection e with e; injection e with e; injection e
    exact rfSent_some m g c x o none none u h.a.m c x o t F A n' cp k1 hF
  gf := fun k u ⟨p, g, h⟩ => fHigh_of (.half p) trivial catN catN rfl catC_none catC_none Fr.zero Fr.zero false false hiC_none hiC_none _ u h.a.f.now
  gm := fun k u ⟨p, g, h⟩ => rfHigh_is m c x o _ none none Fr.zero Fr.zero false false u h.a.m (.inl ⟨rfl, rfl⟩) (.inl ⟨rfl, rfl⟩)
  farM := fun k u u' g cs ⟨p, g', h⟩ hB hs hg hk => ⟨p, g', h.a.far hB hg hk, h.s.far hB (by decide) (by decide) hs hk, h.r.far hB (by decide) hs hk ((hc.keep (Nat.le_refl _) (h.a.far hB hg hk).b).in_ (h.a.far hB hg hk).b.size)⟩
/-- How many pairs were taken ahead of the k-th tick, by the window; the first tick of it. -/
def cntO (X : Wn) (z : Int) : Nat → Nat
  | 0 => 0
  | k + 1 => stepN (opB X (z + k)) (cntO X z k)
def firstO (X : Wn) (z : Int) : Nat := (X.b - z).toNat
theorem cntO_le (X : Wn) (z : Int) : ∀ k, cntO X z k ≤ 114
  | 0 => by show (0 : Nat) ≤ 114; decide
  | k + 1 => by
    have := cntO_le X z k
    unfold cntO stepN
    split <;> omega
theorem cntO_is (X : Wn) (z : Int) : ∀ k : Nat, (k ≤ firstO X z → cntO X z k = 0) ∧ (firstO X z ≤ k → z + k ≤ X.e → cntO X z k = min 114 (k - firstO X z))
  | 0 => ⟨fun _ => rfl, fun h _ => by have : firstO X z = 0 := by omega
                                      simp [cntO]⟩
  | k + 1 => by
    obtain ⟨h1, h2⟩ := cntO_is X z k
    have hf : firstO X z = (X.b - z).toNat := rfl
    have ho : opB X (z + k) = decide (X.b ≤ z + k ∧ z + k < X.e) := rfl
    constructor
    · intro h
      have : opB X (z + k) = false := by rw [ho]; simp; omega
      rw [cntO, this, h1 (by omega)]
      rfl
    · intro h he
      by_cases hk : k < firstO X z
      · have : opB X (z + k) = false := by rw [ho]; simp; omega
        rw [cntO, this, h1 (by omega)]
        unfold stepN
        rw [if_neg (by simp)]
        omega
      · have : opB X (z + k) = true := by rw [ho]; simp; omega
        rw [cntO, this, h2 (by omega) (by omega)]
        unfold stepN
        by_cases hl : min 114 (k - firstO X z) < 114
        · rw [if_pos ⟨rfl, hl⟩]
          omega
        · rw [if_neg (fun h => hl h.2)]
          omega
theorem cntO_at {X : Wn} {z : Int} {k : Nat} (ho : opB X (z + k) = true) (hn : cntO X z k < 114) : k = firstO X z + cntO X z k := by
  have ho' : X.b ≤ z + k ∧ z + k < X.e := by simpa [opB] using ho
  have hf : firstO X z = (X.b - z).toNat := rfl
  have h2 := (cntO_is X z k).2 (by omega) (by omega)
  omega
/-- Another one. -/
structure OF (w0 : World) (f B m : Nat) (c : Cf) (x o : Int) (X Y : Wn) (xa ya xb yb : Nat → Int) (n k : Nat) (g0 g1 base : Nat) (n' k' : Nat) (u : World) : Prop where
  a : FM w0 f B m c x (.oth X Y (catS xa ya o n) (catS xb yb o k)) o none (some ⟨g0, 0, none⟩) (some ⟨g1, 0, none⟩) u
  t : TwoC u base o g0 xa ya n' g1 xb yb k'
  lo : base ≤ u.heap.size ∧ f < base ∧ m < base
theorem OF.on {w0 u u' : World} {f B m : Nat} {c : Cf} {x o : Int} {X Y : Wn} {xa ya xb yb : Nat → Int} {n k g0 g1 base n' k' : Nat} (h : OF w0 f B m c x o X Y xa ya xb yb n k g0 g1 base n' k' u) (hb : Below u.heap.size u u') : OF w0 f B m c x o X Y xa ya xb yb n k g0 g1 base n' k' u' := ⟨h.a.on hb, h.t.on hb, by have := h.lo; have := hb.size; omega⟩
theorem pk_oth (w0 : World) (f B m : Nat) (c : Cf) (hc : CfLow w0 w0.heap.size c) (hE : newE c = 0) (x o : Int) (n : Nat) (z : Int) (ia ib ja jb : Nat → Int) (X Y : Wn) (hX : ofW c.N c.P 0 o x = X) (hY : ofW c.N c.P 1 o x = Y) (hX0 : ofWE c.N c.P 0 o x = 0) (hY0 : ofWE c.N c.P 1 o x = 0) (hfX : WnFit X) (hfY : WnFit Y) (xa ya xb yb : Nat → Int)
    (hxa : ∀ i, xa i = kn (ia (firstO X z + i))) (hya : ∀ i, ya i = kn (ib (firstO X z + i))) (hxb : ∀ i, xb i = kn (ja (firstO Y z + i))) (hyb : ∀ i, yb i = kn (jb (firstO Y z + i))) :
    Pk w0.heap.size f m n (fun k => z + k) ia ib ja jb (fun k u => ∃ g0 g1 base, OF w0 f B m c x o X Y xa ya xb yb (cntO X z k) (cntO Y z k) g0 g1 base (cntO X z k) (cntO Y z k) u) (fun k u => ∃ g0 g1 base, OF w0 f B m c x o X Y xa ya xb yb (cntO X z (k + 1)) (cntO Y z (k + 1)) g0 g1 base (cntO X z k) (cntO Y z k) u)
      (fun k => stepR (opB X (z + k)) xa ya o (cntO X z k)) (fun k => stepR (opB Y (z + k)) xb yb o (cntO Y z k)) (fun k => heardF (hiF xa ya o (cntO X z k)) (hiF xb yb o (cntO Y z k)) (hiB xa ya o (cntO X z k)) (hiB xb yb o (cntO Y z k))) (fun k => hiB xa ya o (cntO X z k) || hiB xb yb o (cntO Y z k)) (fun k => hiB xa ya o (cntO X z k)) (fun k => hiB xb yb o (cntO Y z k)) ⟨0, 0, 0, 0, 0⟩ false where
  onR := fun k u u' ⟨g0, g1, base, h⟩ hb => ⟨g0, g1, base, h.on hb⟩
  onM := fun k u u' ⟨g0, g1, base, h⟩ hb => ⟨g0, g1, base, h.on hb⟩
  tf := fun k u hk ⟨g0, g1, base, h⟩ => (node_oth h.a.f hfX hfY (cntO_le X z k) (cntO_le Y z k) (z + k) (ia k) (ib k) (ja k) (jb k)
      (fun ho hn => by rw [hxa, hya, ← cntO_at ho hn]; exact ⟨rfl, rfl⟩) (fun ho hn => by rw [hxb, hyb, ← cntO_at ho hn]; exact ⟨rfl, rfl⟩) _ _ rfl rfl _ _ rfl rfl).mono fun e w' ⟨h1, h2, h3⟩ => ⟨h1, ⟨g0, g1, base, h.a.tick h2 h3, (by obtain ⟨fb, cc, k1, _⟩ := h.a.f; exact h.t.but k1 (by decide) (by decide) h3), by have := h.lo; have := h3.1.size; omega⟩, h.a.lowF h3, h.a.f.kept h3⟩
  tm := fun k u hk ⟨g0, g1, base, h⟩ => (rfTick_oth m c x o g0 g1 base w0.heap.size _ _ _ _ xa ya xb yb (z + k) (ia k) (ib k) (ja k) (jb k) _ _ X Y u h.a.m h.t h.lo.1 (hc.keep (Nat.le_refl _) h.a.b) (by have := h.lo; have := h.a.lo; have := h.a.f.low; omega) hE hX hY hX0 hY0 hfX hfY (cntO_le X z k) (cntO_le Y z k)
      (fun ho hn => by rw [hxa, hya, ← cntO_at ho hn]; exact ⟨rfl, rfl⟩) (fun ho hn => by rw [hxb, hyb, ← cntO_at ho hn]; exact ⟨rfl, rfl⟩) rfl rfl rfl rfl).mono fun e w' ⟨h1, h2, h3, h4⟩ => ⟨h1, ⟨g0, g1, base, ⟨h.a.b.trans (h3.mono (by have := h.lo; have := h.a.lo; have := h.a.f.low; omega)), (by
      obtain ⟨fb, cc, k1, k2, k3⟩ := h.a.f
      exact ⟨fb, cc, k1.below h3 h.lo.2.1, k2.keep (Nat.le_refl _) (h3.mono (by have := h.lo; have := h.a.f.low; omega)), k3⟩), Blk.below h.a.m h3 h.lo.2.2, h.a.lo, h.a.ne, h.a.bm⟩, h2, by have := h.lo; have := h3.size; omega⟩, h3.mono (by have := h.lo; have := h.a.lo; have := h.a.f.low; omega), h4.up (by decide)⟩
  hf := fun k u ⟨g0, g1, base, h⟩ => fHeard_of (.oth X Y (catS xa ya o (cntO X z k)) (catS xb yb o (cntO Y z k))) ⟨catC_of _ _ _ _, catC_of _ _ _ _⟩ _ _ rfl (catC_of _ _ _ _) (catC_of _ _ _ _) _ _ _ _ (hiC_cat xa ya o _) (hiC_cat xb yb o _) _ u h.a.f.now _ rfl _ rfl
  hm := fun k u ⟨g0, g1, base, h⟩ => rfHeard_is m c x o none _ _ _ _ _ _ u h.a.m (two_high h.t).1 (two_high h.t).2 _ rfl _ rfl
  sf := fun k u ⟨g0, g1, base, h⟩ => fSent_is (.oth X Y (catS xa ya o (cntO X z k)) (catS xb yb o (cntO Y z k))) ⟨catC_of _ _ _ _, catC_of _ _ _ _⟩ (by simp [PSt.each, catS_len]) (fun v hv => by rcases List.mem_append.1 hv with h | h <;> exact (catC_of _ _ _ _).one v h) _ u h.a.f.now ⟨0, 0, 0, 0, 0⟩ false fun u' hu' => sends_mute (.pointer none) u' (.inl rfl)
  sm := fun k u ⟨g0, g1, base, h⟩ => rfSent_none m c x o _ _ u h.a.m
  gf := fun k u ⟨g0, g1, base, h⟩ => fHigh_of (.oth X Y (catS xa ya o (cntO X z k)) (catS xb yb o (cntO Y z k))) ⟨catC_of _ _ _ _, catC_of _ _ _ _⟩ _ _ rfl (catC_of _ _ _ _) (catC_of _ _ _ _) _ _ _ _ (hiC_cat xa ya o _) (hiC_cat xb yb o _) _ u h.a.f.now
  gm := fun k u ⟨g0, g1, base, h⟩ => rfHigh_is m c x o none _ _ _ _ _ _ u h.a.m (two_high h.t).1 (two_high h.t).2
  farM := fun k u u' g cs ⟨g0, g1, base, h⟩ hB hs hg hk => ⟨g0, g1, base, h.a.far hB hg hk, h.t.but hB (by decide) (by decide) hk, by have := h.lo; have := hk.1.size; omega⟩
end Go.Proofs.YtkejpkcaojidaaaGreatDoor

namespace Go.Proofs.YtkejpkcaojidaaaGreatDoor
set_option linter.unusedVariables false
set_option linter.unusedSimpArgs false
open Go.RowKit Rg
set_option linter.unusedVariables false
set_option linter.unusedSimpArgs false

theorem wnM_fitK {k : Int} (h0 : 0 ≤ k) (h : k ≤ 15) : WnFit (wnM k) := by
  unfold WnFit wnM
  simp only [roleM]
  refine ⟨?_, ?_⟩ <;> first | omega | (split <;> omega) | (repeat (first | split | omega | constructor))
theorem own_out {c : Cf} (h0 : newE c = 0) (hl : c.P.length = c.pn) {o x : Int} (ho : o < 0 ∨ (c.pn : Int) ≤ o) : ofWE c.N c.P 0 o x = 1 := by
  have hN := (newE_ok.1 h0).nodes
  have hat : atM c.P o = -1 := by rw [atM, if_neg]; omega
  have : plM c.N c.P 0 o x = -1 := pl_none fun h => by rw [hat] at h; omega
  rw [ofWE, if_neg (by omega), if_pos this]
theorem own_in {c : Cf} (h0 : newE c = 0) (hl : c.P.length = c.pn) {o x : Int} (ho : 0 ≤ o ∧ o < (c.pn : Int)) (hx : 0 ≤ x ∧ x < c.N) :
    ∃ X Y, ofW c.N c.P 0 o x = X ∧ ofW c.N c.P 1 o x = Y ∧ ofWE c.N c.P 0 o x = 0 ∧ ofWE c.N c.P 1 o x = 0 ∧ WnFit X ∧ WnFit Y ∧ ((pairM c.N c.P x = o ∧ ∃ sd, plM c.N c.P 0 o x = halfI sd) ∨ (pairM c.N c.P x ≠ o ∧ X.r ≠ 1)) := by
  have hN := (newE_ok.1 h0).nodes
  obtain ⟨ka, f, hf, hf0, hf1, hka, a0, a1, hwa, hea⟩ := of_ok h0 hl (d := 0) (o := o) (x := x) (.inl rfl) ho hx
  obtain ⟨kb, f', hf', -, -, hkb, b0, b1, hwb, heb⟩ := of_ok h0 hl (d := 1) (o := o) (x := x) (.inr rfl) ho hx
  obtain ⟨q, rfl⟩ : ∃ q : Nat, o = q := ⟨o.toNat, by omega⟩
  have hp := half_pairO h0 hl (q := q) (by omega) hx
  have hpl : plM c.N c.P 0 q x = ka := by rw [plM, hf]; exact hka
  refine ⟨_, _, hwa, hwb, hea, heb, wnM_fitK a0 (by omega), wnM_fitK b0 (by omega), ?_⟩
  by_cases h : pairM c.N c.P x = q
  · obtain ⟨_, s, hs⟩ := half_ok (hp.1 h)
    exact .inl ⟨h, s, hs⟩
  · have h2 := hp.2 h
    rw [halfE, if_neg (by omega), hpl] at h2
    refine .inr ⟨h, ?_⟩
    show roleM ka ≠ 1
    have : ¬ (ka = 0 ∨ ka = 1) := fun h3 => by rw [if_pos h3] at h2; omega
    unfold roleM
    split
    · omega
    · split <;> omega
section
variable {w0 u u' : World} {f B m : Nat} {c : Cf} {x o : Int} {s s' : PSt} {S P0 P1 : Option Addr}
theorem FM.begun (h : FM w0 f B m c x s o S P0 P1 u) (hb : Begun u u' f B c.N c.P x s') : FM w0 f B m c x s' o S P0 P1 u' ∧ Below w0.heap.size u u' ∧ KeptBut u u' flTs := by
  obtain ⟨h1, v, h2, h3⟩ := hb
  have hv := h.on h2
  exact ⟨hv.tick h1 h3, (h.low h2).trans (hv.lowF h3), (keptBelow h2).trans (hv.f.kept h3)⟩
theorem FM.ref {o' : Int} {S' P0' P1' : Option Addr} (h : FM w0 f B m c x s o S P0 P1 u) (hm : RfB u' m c x o' S' P0' P1') (hk : But m u u') : FM w0 f B m c x s o' S' P0' P1' u' ∧ Below w0.heap.size u u' ∧ KeptBut u u' flTs := by
  have hl : Below B u u' := hk.low h.bm
  refine ⟨⟨h.b.trans (hl.mono h.lo), ?_, hm, h.lo, h.ne, h.bm⟩, hl.mono h.lo, (But.kept1 h.m hk).up (by decide)⟩
  obtain ⟨fb, cc, k1, k2, k3⟩ := h.f
  exact ⟨fb, cc, hk.blk k1 h.ne, k2.keep (Nat.le_refl _) hl, k3⟩
end
theorem RfB.setS {w : World} {m : Nat} {c : Cf} {x o : Int} {S P0 P1 : Option Addr} (h : RfB w m c x o S P0 P1) (S' : Option Addr) : RfB (w.setCell ⟨m, 11, none⟩ (.pointer S')) m c x o S' P0 P1 := by
  have := Blk.set_ h 11 (.pointer S')
  exact this
/-- Both begin a slot, and go on as one. -/
def BeginsOne (w0 : World) (f B m : Nat) (c : Cf) (x : Int) (o z : Int) (a b : Sd) (n : Nat) (ia ib ja jb : Nat → Int) : Prop :=
  ∃ (E : Int) (B1 : World → Prop) (R M : Nat → World → Prop) (ra rb : Nat → Int) (G : Nat → Fr) (r r0 r1 : Nat → Bool) (H : Fr) (t : Bool),
    (∀ u s o' S P0 P1, FM w0 f B m c x s o' S P0 P1 u → Calls Tryz.prog 8 #[.pointer (some ⟨f, 0, none⟩), .int .i64 o, .agg #[.bool a.i, .int .i64 a.a, .int .u8 a.k, .int .u8 a.s, .int .u32 a.q, .int .u32 a.v], .agg #[.bool b.i, .int .i64 b.a, .int .u8 b.k, .int .u8 b.s, .int .u32 b.q, .int .u32 b.v]] u fun e w' => e = .returned (.int .i64 E) ∧ B1 w' ∧ Below w0.heap.size u w' ∧ KeptBut u w' flTs) ∧
    (∀ u, B1 u → Calls Tryz.prog 9 #[.pointer (some ⟨m, 0, none⟩), .int .i64 o, .agg #[.bool a.i, .int .i64 a.a, .int .u8 a.k, .int .u8 a.s, .int .u32 a.q, .int .u32 a.v], .agg #[.bool b.i, .int .i64 b.a, .int .u8 b.k, .int .u8 b.s, .int .u32 b.q, .int .u32 b.v]] u fun e w' => e = .returned (.int .i64 E) ∧ R 0 w' ∧ Below w0.heap.size u w' ∧ KeptBut u w' flTs) ∧
    Pk w0.heap.size f m n (fun k => z + k) ia ib ja jb R M ra rb G r r0 r1 H t ∧ ∀ k u, R k u → ∃ s o S P0 P1, FM w0 f B m c x s o S P0 P1 u
theorem begins_none (w0 : World) (hw : Laid2 w0) (f B m : Nat) (c : Cf) (x o z : Int) (a b : Sd) (n : Nat) (ia ib ja jb : Nat → Int) (E : Int)
    (HF : ∀ u s, FlowN u f B c.N c.P x s → Laid2 u → Calls Tryz.prog 8 #[.pointer (some ⟨f, 0, none⟩), .int .i64 o, .agg #[.bool a.i, .int .i64 a.a, .int .u8 a.k, .int .u8 a.s, .int .u32 a.q, .int .u32 a.v], .agg #[.bool b.i, .int .i64 b.a, .int .u8 b.k, .int .u8 b.s, .int .u32 b.q, .int .u32 b.v]] u fun e w' => e = .returned (.int .i64 E) ∧ Begun u w' f B c.N c.P x .no)
    (HM : ∀ u s o' S P0 P1, FM w0 f B m c x s o' S P0 P1 u → Calls Tryz.prog 9 #[.pointer (some ⟨m, 0, none⟩), .int .i64 o, .agg #[.bool a.i, .int .i64 a.a, .int .u8 a.k, .int .u8 a.s, .int .u32 a.q, .int .u32 a.v], .agg #[.bool b.i, .int .i64 b.a, .int .u8 b.k, .int .u8 b.s, .int .u32 b.q, .int .u32 b.v]] u fun e w' => e = .returned (.int .i64 E) ∧ RfB w' m c x o none none none ∧ But m u w') :
    BeginsOne w0 f B m c x o z a b n ia ib ja jb := by
  refine ⟨E, fun u => ∃ o' S P0 P1, FM w0 f B m c x .no o' S P0 P1 u, _, _, _, _, _, _, _, _, _, _, fun u s o' S P0 P1 h => ?_, fun u ⟨o', S, P0, P1, h⟩ => ?_, pk_none w0 f B m c x o n _ ia ib ja jb, fun k u h => ⟨_, _, _, _, _, h⟩⟩
  · exact (HF u s h.f (hw.on h.b)).mono fun e w' ⟨h1, h2⟩ => ⟨h1, ⟨_, _, _, _, (h.begun h2).1⟩, (h.begun h2).2⟩
  · exact (HM u _ _ _ _ _ h).mono fun e w' ⟨h1, h2, h3⟩ => ⟨h1, (h.ref h2 h3).1, (h.ref h2 h3).2⟩
theorem begins_any (w0 : World) (hw : Laid2 w0) (f B m : Nat) (c : Cf) (hc : CfLow w0 w0.heap.size c) (hE : newE c = 0) (hl : c.P.length = c.pn) (x : Int) (hx : 0 ≤ x ∧ x < c.N) (o z : Int) (a b : Sd) (ha : a.Fit) (n : Nat) (ia ib ja jb : Nat → Int) :
    BeginsOne w0 f B m c x o z a b n ia ib ja jb := by
  have ok := newE_ok.1 hE
  have hN : c.N ≠ 0 := by have := ok.nodes; omega
  by_cases ho : 0 ≤ o ∧ o < (c.pn : Int)
  · obtain ⟨X, Y, hX, hY, hX0, hY0, hfX, hfY, hk⟩ := own_in hE hl ho hx
    have hlow : ∀ {u s o' S P0 P1}, FM w0 f B m c x s o' S P0 P1 u → CfLow u w0.heap.size c := fun h => hc.keep (Nat.le_refl _) h.b
    rcases hk with ⟨hp, sd, hs⟩ | ⟨hp, hr⟩
    · by_cases hkd : sameB a b = true ∧ mayB o a.k = false
      · refine begins_none w0 hw f B m c x o z a b n ia ib ja jb 1 (fun u s h hl => (begin_kind hN hs hkd.1 hkd.2 h hl).mono fun e w' ⟨h1, h2, _⟩ => ⟨h1, h2⟩) (fun u s o' S P0 P1 h => ?_)
        refine (rfBegin_half m c x o' o S P0 P1 a b u h.m (hlow h) (by have := h.lo; have := h.bm; omega) ho.1 ho.2 hp 1 (fun s' _ => s' = none) (fun _ _ _ h _ => h) fun v hv => (rnew_kind c x o a b v hv ho.1 hp hkd.1 hkd.2).mono fun e w' ⟨h1, h2⟩ => ⟨none, h1, rfl, h2⟩).mono fun e w' ⟨s', v, h1, h2, h3, h4, h5⟩ => ?_
        subst h2
        rw [h4]
        exact ⟨h1, h3.setS none, h5.trans (But.one 11 _)⟩
      · obtain ⟨t, ht⟩ : ∃ t, sameB a b = t := ⟨_, rfl⟩
        have hm : t = true → mayB o a.k = true := fun e => by
          cases h : mayB o a.k
          · exact absurd ⟨ht.trans e, h⟩ hkd
          · rfl
        obtain ⟨F, hF⟩ : ∃ F : Fr, F = if t = true then a.fr o else ⟨0, 0, 0, 0, 0⟩ := ⟨_, rfl⟩
        refine ⟨0, fun u => ∃ p o' S P0 P1, FM w0 f B m c x (.half p) o' S P0 P1 u ∧ Snd t sd F u (.pointer p), _, _, _, _, _, _, _, _, _, _, fun u s o' S P0 P1 h => ?_, fun u ⟨p, o', S, P0, P1, h, hS⟩ => ?_, pk_half w0 f B m c hc hE x o n _ ia ib ja jb sd t hs F (fun e => by rw [hF, e]; rfl), fun k u ⟨p, g, h⟩ => ⟨_, _, _, _, _, h.a⟩⟩
        · exact (begin_half hN hs t ht ha hm F hF h.f (hw.on h.b)).mono fun e w' ⟨p, h1, h2, h3⟩ => ⟨h1, ⟨p, _, _, _, _, (h.begun h3).1, h2⟩, (h.begun h3).2⟩
        · refine (rfBegin_half m c x o' o S P0 P1 a b u h.m (hlow h) (by have := h.lo; have := h.bm; omega) ho.1 ho.2 hp 0 (fun s' v => ∃ g : Nat, s' = some ⟨g, 0, none⟩ ∧ RSnd t F c x o v (.pointer s')) (fun s' v v' ⟨g, e, h⟩ hb => ⟨g, e, h.on hb⟩) fun v hv => (rnew_any c x o a b ho.1 hp t ht ha hm F hF v hv).mono fun e w' ⟨g, h1, h2, h3⟩ => ⟨some ⟨g, 0, none⟩, h1, ⟨g, rfl, h2⟩, h3⟩).mono fun e w' ⟨s', v, h1, ⟨g, h2, h3⟩, h4, h5, h6⟩ => ?_
          subst h2
          have hbv : Below w0.heap.size w0 v := h.b.trans (h6.low (by have := h.lo; have := h.bm; omega))
          have hk := h6.trans (But.one (u := v) (g := m) 11 (.pointer (some ⟨g, 0, none⟩)))
          rw [← h5] at hk
          have hcw : CfIn w' c := (hc.keep (Nat.le_refl _) (h.b.trans (hk.low (by have := h.lo; have := h.bm; omega)))).in_ (h.b.trans (hk.low (B := w0.heap.size) (by have := h.lo; have := h.bm; omega))).size
          have hr := h.ref (u' := w') (by rw [h5]; exact h4.setS _) hk
          refine ⟨h1, ⟨p, g, hr.1, hS.far h.m (by decide) (by decide) (by show (14 : Nat) ≤ 113; decide) hk, ?_⟩, hr.2⟩
          rw [h5] at hcw ⊢
          exact h3.far h4 (by decide) (by show (14 : Nat) ≤ 113; decide) (But.one 11 _) hcw
    · have ho8 : o < 8 := by have := ok.pairs; omega
      refine ⟨0, fun u => ∃ o' S P0 P1, FM w0 f B m c x (.oth X Y (catZ (firstV o)) (catZ (firstV o))) o' S P0 P1 u, _, _, _, _, _, _, _, _, _, _, fun u s o' S P0 P1 h => ?_, fun u ⟨o', S, P0, P1, h⟩ => ?_, pk_oth w0 f B m c hc hE x o n z ia ib ja jb X Y hX hY hX0 hY0 hfX hfY (fun i => kn (ia (firstO X z + i))) (fun i => kn (ib (firstO X z + i))) (fun i => kn (ja (firstO Y z + i))) (fun i => kn (jb (firstO Y z + i))) (fun _ => rfl) (fun _ => rfl) (fun _ => rfl) (fun _ => rfl), fun k u ⟨g0, g1, base, h⟩ => ⟨_, _, _, _, _, h.a⟩⟩
      · exact (begin_oth ho.1 ho8 X Y hX hY hX0 hY0 hr h.f (hw.on h.b)).mono fun e w' ⟨h1, h2⟩ => ⟨h1, ⟨_, _, _, _, (h.begun h2).1⟩, (h.begun h2).2⟩
      · refine (rfBegin_oth m c x o' o S P0 P1 a b u h.m (hlow h) (by have := h.lo; have := h.bm; omega) ho.1 ho.2 ho8 hp).mono fun e w' ⟨g0, g1, h1, h2, h3, h4, h5, h6, h7, h8⟩ => ?_
        have hr := h.ref h2 h8
        refine ⟨h1, ⟨g0, g1, u.heap.size, ⟨?_, TwoC.zero _ _ _ _ h3 h4 h5 h6 h7, by have := h8.1.size; have := h.f.lt; have := Blk.lt h.m; omega⟩⟩, hr.2⟩
        have e1 : cntO X z 0 = 0 := rfl
        have e2 : cntO Y z 0 = 0 := rfl
        rw [e1, e2, catS_zero, catS_zero]
        exact hr.1
  · have ho' : o < 0 ∨ (c.pn : Int) ≤ o := by omega
    refine begins_none w0 hw f B m c x o z a b n ia ib ja jb 1 (fun u s h hl' => (begin_bad (own_out hE hl ho') (by decide) h hl').mono fun e w' ⟨h1, h2, _⟩ => ⟨h1, h2⟩) (fun u s o' S P0 P1 h => rfBegin_bad m c x o' o S P0 P1 a b u h.m ho')
end Go.Proofs.YtkejpkcaojidaaaGreatDoor

namespace Go.Proofs.YtkejpkcaojidaaaGreatDoor
set_option linter.unusedVariables false
set_option linter.unusedSimpArgs false
open Go.RowKit Rg
set_option linter.unusedVariables false
set_option linter.unusedSimpArgs false

def FMX (w0 : World) (f B m : Nat) (c : Cf) (x : Int) (u : World) : Prop := ∃ s o S P0 P1, FM w0 f B m c x s o S P0 P1 u
theorem FMX.on {w0 u u' : World} {f B m : Nat} {c : Cf} {x : Int} (h : FMX w0 f B m c x u) (hb : Below u.heap.size u u') : FMX w0 f B m c x u' := by
  obtain ⟨s, o, S, P0, P1, h⟩ := h
  exact ⟨s, o, S, P0, P1, h.on hb⟩
theorem FMX.low {w0 u : World} {f B m : Nat} {c : Cf} {x : Int} (h : FMX w0 f B m c x u) : Below w0.heap.size w0 u := by
  obtain ⟨s, o, S, P0, P1, h⟩ := h
  exact h.b
/-- The slot's box; what is known behind so many of both Begins. -/
structure MB16 (w : World) (gX : Nat) (s : Sl) (A B1 B2 : World → Prop) (c : Nat) (u : World) : Prop where
  x : Blk u gX 45 (slL s).toArray
  j : match c with | 0 => A u | 1 => B1 u | _ => B2 u
/-- The slot's box, what the flow gave; what is known behind so many calls. -/
structure MB22 (w : World) (gX gT : Nat) (s : Sl) (ra rb : Int) (M R : World → Prop) (c : Nat) (u : World) : Prop where
  x : Blk u gX 45 (slL s).toArray
  t : Blk u gT 48 #[.int .u8 ra, .int .u8 rb]
  l : Below w.heap.size w u
  j : match c with | 0 => M u | 1 => M u | _ => R u
theorem MB22.on {w u u' : World} {gX gT : Nat} {s : Sl} {ra rb : Int} {M R : World → Prop} {c c' : Nat} (h : MB22 w gX gT s ra rb M R c u) (hb : Below u.heap.size u u') (hj : match c' with | 0 => M u' | 1 => M u' | _ => R u') : MB22 w gX gT s ra rb M R c' u' := ⟨h.x.on hb, h.t.on hb, below_then h.l hb, hj⟩
theorem Blk.pay {w : World} {g : Nat} {k s q v : Int} (h : Blk w g 40 #[.int .u8 k, .int .u8 s, .int .u32 q, .int .u32 v]) : w.cell? ⟨g, 0, none⟩ = some (.int .u8 k) ∧ w.cell? ⟨g, 1, none⟩ = some (.int .u8 s) ∧ w.cell? ⟨g, 2, none⟩ = some (.int .u32 q) ∧ w.cell? ⟨g, 3, none⟩ = some (.int .u32 v) ∧ g < w.heap.size := ⟨(h.cell 0).trans rfl, (h.cell 1).trans rfl, (h.cell 2).trans rfl, (h.cell 3).trans rfl, h.lt⟩
/-- Behind a tick of both: the slot's box. -/
structure RX (w : World) (gX : Nat) (s : Sl) (R : World → Prop) (u : World) : Prop where
  x : Blk u gX 45 (slL s).toArray
  l : Below w.heap.size w u
  r : R u
theorem ulive {w u u' : World} (h : Below w.heap.size w u) (h' : Below u.heap.size u u') : Below w.heap.size w u' := below_then h h'
set_option maxRecDepth 100000 in
set_option maxHeartbeats 16000000 in
theorem run_main (c : Cf) (x : Int) (lA : Option Addr) (ln lc : Nat) (S : Nat → Sl) (w : World) (hw : Laid2 w) (hc : CfIn w c) (hg : greatB c = false) (hE : newE c = 0) (hS : SlotsIn w lA ln S) (hl3 : ln ≤ 3) (hx : 0 ≤ x ∧ x < c.N) :
    Calls Tryz.prog 3 #[.agg #[.int .i64 c.N, .slice c.pA c.pn c.pc, .slice c.sA c.sn c.sc, .int .i64 c.L, .slice c.bA c.bn c.bc, .slice c.tA c.tn c.tc, .int .i64 c.M, .int .i64 c.G, .int .i64 c.F], .int .i64 x, .slice lA ln lc] w fun e w' => e = .returned (.bool true) ∧ Below w.heap.size w w' := by
  have ok := newE_ok.1 hE
  have hl : c.P.length = c.pn := hc.p.len
  have hpn : (0 : Int) ≤ 0 ∧ (0 : Int) < (c.pn : Int) := by have := ok.pairs; omega
  have hE0 : ofWE c.N c.P 0 0 x = 0 := by
    obtain ⟨X, Y, _, _, h, _⟩ := own_in hE hl hpn hx
    exact h
  have HW := Lib.hid hw
  have HCL : Hid (CfLow w w.heap.size c) := Lib.hid hc.low
  have HS := Lib.hid hS
  have HNT : Hid (∀ u, Below w.heap.size w u → Calls Tryz.prog 4 #[.agg #[.int .i64 c.N, .slice c.pA c.pn c.pc, .slice c.sA c.sn c.sc, .int .i64 c.L, .slice c.bA c.bn c.bc, .slice c.tA c.tn c.tc, .int .i64 c.M, .int .i64 c.G, .int .i64 c.F]] u fun e w' => ∃ g : Nat, e = .returned (.pointer (some ⟨g, 0, none⟩)) ∧ NetP w' (.pointer (some ⟨g, 0, none⟩)) c.N c.P ∧ Below u.heap.size u w') := Lib.hid (fun u hu => netWn c u (hw.on hu) (hc.on hu) hg hE)
  have HNF : Hid (∀ u g, Below w.heap.size w u → NetP u (.pointer (some ⟨g, 0, none⟩)) c.N c.P → Calls Tryz.prog 6 #[.pointer (some ⟨g, 0, none⟩), .int .i64 x] u fun e w' => ∃ f, e = .returned (.tuple #[.pointer (some ⟨f, 0, none⟩), .int .i64 0]) ∧ u.heap.size ≤ f ∧ FlowN w' f u.heap.size c.N c.P x .no ∧ Below u.heap.size u w') := Lib.hid (fun u g hu h => fNew_yes g u.heap.size c.N c.P x hE0 u (NetQ.of h) (hw.on hu))
  have HNR : Hid (∀ u, Calls Tryz.prog 7 #[.agg #[.int .i64 c.N, .slice c.pA c.pn c.pc, .slice c.sA c.sn c.sc, .int .i64 c.L, .slice c.bA c.bn c.bc, .slice c.tA c.tn c.tc, .int .i64 c.M, .int .i64 c.G, .int .i64 c.F], .int .i64 x] u fun e w' => ∃ m, e = .returned (.tuple #[.pointer (some ⟨m, 0, none⟩), .int .i64 0]) ∧ u.heap.size ≤ m ∧ RfB w' m c x 0 none none none ∧ Below u.heap.size u w') := Lib.hid (fun u => rfNew_yes c x hx.1 hx.2 u)
  have HBG : Hid (∀ (f B m : Nat) (o z : Int) (a b : Sd) (n : Nat) (ia ib ja jb : Nat → Int), a.Fit → BeginsOne w f B m c x o z a b n ia ib ja jb) := Lib.hid (fun f B m o z a b n ia ib ja jb ha => begins_any w hw f B m c HCL.out hE hl x hx o z a b ha n ia ib ja jb)
  have h3 : ¬ (3 : Int) < (ln : Int) := by omega
  clear hw hc hg hS hpn hE0 ok hl
  go_enter Tryz.func3, Tryz.ntmps3
  go_upto_region 1 with fail
  refine wp_at (fun U => Blk U w.heap.size 25 #[.int .i64 c.N, .slice c.pA c.pn c.pc, .slice c.sA c.sn c.sc, .int .i64 c.L, .slice c.bA c.bn c.bc, .slice c.tA c.tn c.tc, .int .i64 c.M, .int .i64 c.G, .int .i64 c.F] ∧ Below w.heap.size w U) ⟨Blk.new w _ _, below_al (Below.refl _ w) _⟩ ?_
  rintro U ⟨u1, u2⟩
  have HU1 := Lib.hid u1
  have HU2 := Lib.hid u2
  have k0 := (u1.cell 0).trans rfl
  have k1 := (u1.cell 1).trans rfl
  have k2 := (u1.cell 2).trans rfl
  have k3 := (u1.cell 3).trans rfl
  have k4 := (u1.cell 4).trans rfl
  have k5 := (u1.cell 5).trans rfl
  have k6 := (u1.cell 6).trans rfl
  have k7 := (u1.cell 7).trans rfl
  have k8 := (u1.cell 8).trans rfl
  have kl := u1.lt
  clear u1 u2
  go_upto_region 5 with (first
    | (go_at_call 4; (with_reducible refine (HNT.out _ HU2.out).mono ?_); rintro e w1 ⟨gN, rfl, q1, q2⟩; have HQ1 := Lib.hid q1; have HQ2 := Lib.hid q2; clear q1 q2)
    | (go_at_call 6; (with_reducible refine (HNF.out _ _ (ulive HU2.out HQ2.out) HQ1.out).mono ?_); rintro e w2 ⟨f, rfl, q3, q4, q5⟩; have HQ3 := Lib.hid q3; have HQ4 := Lib.hid q4; have HQ5 := Lib.hid q5; clear q3 q4 q5))
  refine wp_at (fun V => Blk V w.heap.size 25 #[.int .i64 c.N, .slice c.pA c.pn c.pc, .slice c.sA c.sn c.sc, .int .i64 c.L, .slice c.bA c.bn c.bc, .slice c.tA c.tn c.tc, .int .i64 c.M, .int .i64 c.G, .int .i64 c.F] ∧ FlowN V f w1.heap.size c.N c.P x .no ∧ Below w.heap.size w V) ⟨(HU1.out.on HQ2.out).on HQ5.out, HQ4.out, ulive (ulive HU2.out HQ2.out) HQ5.out⟩ ?_
  obtain ⟨B, hB⟩ : ∃ B, B = w1.heap.size := ⟨_, rfl⟩
  have HBB : Hid (w.heap.size ≤ B ∧ B ≤ f) := Lib.hid ⟨by rw [hB]; exact (ulive HU2.out HQ2.out).size, by rw [hB]; exact HQ3.out⟩
  rw [← hB]
  clear hB HU1 HU2 HQ1 HQ2 HQ3 HQ4 HQ5 HNT HNF k0 k1 k2 k3 k4 k5 k6 k7 k8 kl
  rintro V ⟨u1, u2, u3⟩
  have HV2 := Lib.hid u2
  have HV3 := Lib.hid u3
  have k0 := (u1.cell 0).trans rfl
  have k1 := (u1.cell 1).trans rfl
  have k2 := (u1.cell 2).trans rfl
  have k3 := (u1.cell 3).trans rfl
  have k4 := (u1.cell 4).trans rfl
  have k5 := (u1.cell 5).trans rfl
  have k6 := (u1.cell 6).trans rfl
  have k7 := (u1.cell 7).trans rfl
  have k8 := (u1.cell 8).trans rfl
  have kl := u1.lt
  clear u1 u2 u3
  go_upto_region 10 with (go_at_call 7; (with_reducible refine (HNR.out _).mono ?_); rintro e w3 ⟨m, rfl, q1, q2, q3⟩; have HQ1 := Lib.hid q1; have HQ2 := Lib.hid q2; have HQ3 := Lib.hid q3; clear q1 q2 q3)
  refine wp_at (FMX w f B m c x) ⟨_, _, _, _, _, ⟨ulive HV3.out HQ3.out, HV2.out.on HQ3.out, HQ2.out, HBB.out.1, (by have := HV2.out.lt; have := HQ1.out; omega), (by have := HV2.out.lt; have := HQ1.out; have := HBB.out.2; omega)⟩⟩ ?_
  clear HV2 HV3 HQ1 HQ2 HQ3 HBB HNR k0 k1 k2 k3 k4 k5 k6 k7 k8 kl
  intro X hX
  have HX0 := Lib.hid hX
  clear hX
  go_wp2_with fail
  go_loopw [12] (fun s wr => ∃ i : Nat, i ≤ ln ∧ s = .int .i64 (i : Int) ∧ Hid (FMX w f B m c x wr)) (fun s _ => ln - (intOf s).toNat)
  case atStart => exact ⟨0, by omega, rfl, HX0⟩
  case round =>
    clear HX0
    obtain ⟨i, hi, rfl, HF⟩ := hrel
    by_cases hil : i < ln
    · obtain ⟨tb, toff, hlA, htb, hct⟩ := HS.out.f (by omega)
      have HTS : Hid (wr.rangeAt tb (toff + i * 15) (slL (S i))) := Lib.hid (fun j v hv => (HF.out.low.cell (p := ⟨tb, _, none⟩) htb).trans (hct i hil j v hv))
      have hix := fun W => idxSlots (A := lA) (n := ln) lc hlA hil W
      have ltb : tb < wr.heap.size := Nat.lt_of_lt_of_le htb HF.out.low.size
      clear hct htb hlA
      go_upto_region 14 with (first
        | (refine wpList_load_mid rfl 45 (.tmp 67) rfl tb (toff + i * 15) (by simp [Act.eval, Act.put]) [.int .i64 (S i).o, .bool (S i).a.i, .int .i64 (S i).a.a, .int .u8 (S i).a.k, .int .u8 (S i).a.s, .int .u32 (S i).a.q, .int .u32 (S i).a.v, .bool (S i).b.i, .int .i64 (S i).b.a, .int .u8 (S i).b.k, .int .u8 (S i).b.s, .int .u32 (S i).b.q, .int .u32 (S i).b.v, .int .i64 (S i).z, .slice (S i).A (S i).n (S i).c] _ HTS.out Tryz.underlying45 rfl (by kernel_rfl) ?_))
      refine wp_at (fun U => Blk U wr.heap.size 45 (slL (S i)).toArray ∧ FMX w f B m c x U) ⟨(Blk.new wr _ _), HF.out.on (below_al (Below.refl _ wr) _)⟩ ?_
      obtain ⟨gX, hgX⟩ : ∃ g, g = wr.heap.size := ⟨_, rfl⟩
      rw [← hgX]
      clear HTS hgX ltb hix
      rintro U ⟨u1, u2⟩
      have HU1 := Lib.hid u1
      have HU2 := Lib.hid u2
      obtain ⟨o0, ⟨a0, a1, a2, a3, a4, a5⟩, ⟨b0, b1, b2, b3, b4, b5⟩, z0, r0', lx⟩ := u1.sl
      have HLV : Hid (Laid2 U) := Lib.hid (HW.out.on u2.low)
      have HND : Hid (∀ v, Below U.heap.size U v → Below w.heap.size w v) := Lib.hid (fun v hv => ulive u2.low hv)
      clear u1 u2 o0 a0 a1 a2 a3 a4 a5 b0 b1 b2 b3 b4 b5
      by_cases hn : (200 : Int) < ((S i).n : Int)
      · have hnd : decide ((200 : Int) < ((S i).n : Int)) = true := decide_eq_true hn
        go_wp2_with (go_at_call 5; (with_reducible refine (lives_fl _ HLV.out).mono ?_); rintro e v9 ⟨rfl, q9⟩; have HQ9 := Lib.hid q9; clear q9)
        go_ret
        exact ⟨rfl, HND.out _ HQ9.out⟩
      have hnd : decide ((200 : Int) < ((S i).n : Int)) = false := decide_eq_false hn
      by_cases hz1 : (S i).z < -1000
      · have hzd : decide ((S i).z < -1000) = true := decide_eq_true hz1
        go_wp2_with (go_at_call 5; (with_reducible refine (lives_fl _ HLV.out).mono ?_); rintro e v9 ⟨rfl, q9⟩; have HQ9 := Lib.hid q9; clear q9)
        go_ret
        exact ⟨rfl, HND.out _ HQ9.out⟩
      have hzd : decide ((S i).z < -1000) = false := decide_eq_false hz1
      by_cases hz2 : (1000 : Int) < (S i).z
      · have hze : decide ((1000 : Int) < (S i).z) = true := decide_eq_true hz2
        go_wp2_with (go_at_call 5; (with_reducible refine (lives_fl _ HLV.out).mono ?_); rintro e v9 ⟨rfl, q9⟩; have HQ9 := Lib.hid q9; clear q9)
        go_ret
        exact ⟨rfl, HND.out _ HQ9.out⟩
      have hze : decide ((1000 : Int) < (S i).z) = false := decide_eq_false hz2
      obtain ⟨ia, hia⟩ : ∃ ia : Nat → Int, ia = fun k => ((S i).I k).1 := ⟨_, rfl⟩
      obtain ⟨ib, hib⟩ : ∃ ib : Nat → Int, ib = fun k => ((S i).I k).2.1 := ⟨_, rfl⟩
      obtain ⟨ja, hja⟩ : ∃ ja : Nat → Int, ja = fun k => ((S i).I k).2.2.1 := ⟨_, rfl⟩
      obtain ⟨jb, hjb⟩ : ∃ jb : Nat → Int, jb = fun k => ((S i).I k).2.2.2 := ⟨_, rfl⟩
      obtain ⟨E, B1, R, M, ra, rb, G, r, r0, r1, H, t, hb1, hb2, hpk, hen⟩ := HBG.out f B m (S i).o (S i).z (S i).a (S i).b (S i).n ia ib ja jb (HS.out.a i hil)
      have HBF : Hid (∀ u, FMX w f B m c x u → Calls Tryz.prog 8 #[.pointer (some ⟨f, 0, none⟩), .int .i64 (S i).o, .agg #[.bool (S i).a.i, .int .i64 (S i).a.a, .int .u8 (S i).a.k, .int .u8 (S i).a.s, .int .u32 (S i).a.q, .int .u32 (S i).a.v], .agg #[.bool (S i).b.i, .int .i64 (S i).b.a, .int .u8 (S i).b.k, .int .u8 (S i).b.s, .int .u32 (S i).b.q, .int .u32 (S i).b.v]] u fun e w' => e = .returned (.int .i64 E) ∧ B1 w' ∧ Below w.heap.size u w' ∧ KeptBut u w' flTs) := Lib.hid (fun u ⟨s, o, S', P0, P1, h⟩ => hb1 u s o S' P0 P1 h)
      have HBM := Lib.hid hb2
      have HPK := Lib.hid hpk
      have HEN := Lib.hid hen
      have HIA : Hid ((fun k => qL ((S i).I k)) = fun k => [.int .u8 (ia k), .int .u8 (ib k), .int .u8 (ja k), .int .u8 (jb k)]) := Lib.hid (by rw [hia, hib, hja, hjb]; rfl)
      have HTQ := Lib.hid (HS.out.t i hil)
      have hn2 : (S i).n ≤ 200 := by omega
      obtain ⟨zz, hzz⟩ : ∃ zz, zz = (S i).z := ⟨_, rfl⟩
      have HM0 : Hid (MB16 w gX (S i) (FMX w f B m c x) B1 (R 0) 0 U.drew) := Lib.hid ⟨HU1.out.on (Below.refl _ U).drew, HU2.out.on (Below.refl _ U).drew⟩
      clear hb1 hb2 hpk hen hia hib hja hjb hzz zz HBG HU1 HU2 HLV HND
      go_upto_region 16 with fail
      clear lx r0' z0 hnd hzd hze
      refine Reg.wp_steps (fun t => decide (84 ≤ t) && decide (t ≤ 100)) [7, 15] (fun i => if i = 15 ∨ i = 16 then 2 else if i = 7 then 1 else 0) (MB16 w gX (S i) (FMX w f B m c x) B1 (R 0)) HM0.out (by kernel_rfl) (by kernel_rfl) (by kernel_rfl) (by decide) (by kernel_rfl) (by kernel_rfl) (by kernel_rfl) (fun zz => Reg.tblP [
        (84, fun v => v = .pointer (some ⟨f, 0, none⟩)),
        (85, fun v => v = .pointer (some ⟨gX, 0, none⟩)),
        (86, fun v => v = .int .i64 (S i).o),
        (87, fun v => v = .pointer (some ⟨gX, 1, none⟩)),
        (88, fun v => v = .agg #[.bool (S i).a.i, .int .i64 (S i).a.a, .int .u8 (S i).a.k, .int .u8 (S i).a.s, .int .u32 (S i).a.q, .int .u32 (S i).a.v]),
        (89, fun v => v = .pointer (some ⟨gX, 7, none⟩)),
        (90, fun v => v = .agg #[.bool (S i).b.i, .int .i64 (S i).b.a, .int .u8 (S i).b.k, .int .u8 (S i).b.s, .int .u32 (S i).b.q, .int .u32 (S i).b.v]),
        (91, fun v => v = .int .i64 E),
        (92, fun v => v = .pointer (some ⟨m, 0, none⟩)),
        (93, fun v => v = .pointer (some ⟨gX, 0, none⟩)),
        (94, fun v => v = .int .i64 (S i).o),
        (95, fun v => v = .pointer (some ⟨gX, 1, none⟩)),
        (96, fun v => v = .agg #[.bool (S i).a.i, .int .i64 (S i).a.a, .int .u8 (S i).a.k, .int .u8 (S i).a.s, .int .u32 (S i).a.q, .int .u32 (S i).a.v]),
        (97, fun v => v = .pointer (some ⟨gX, 7, none⟩)),
        (98, fun v => v = .agg #[.bool (S i).b.i, .int .i64 (S i).b.a, .int .u8 (S i).b.k, .int .u8 (S i).b.s, .int .u32 (S i).b.q, .int .u32 (S i).b.v]),
        (99, fun v => v = .int .i64 E),
        (100, fun v => v = .bool false)] zz) ?_ ?_
      · simp only [Reg.frame, Reg.over, Nat.reduceAdd, Nat.reduceLeDiff, decide_true, decide_false, if_true, Bool.false_eq_true, if_false, Bool.and_true, Bool.and_false]
        refine ⟨?_, ?_, ?_, ?_, ?_, ?_, ?_, ?_, ?_, ?_, ?_, ?_, ?_, ?_, ?_, ?_, ?_, trivial⟩
        · intro y cc u hM hc hlo hd
          refine wpOp_step rfl fun KK hK => ?_
          go_simp
          exact hK _ _ ⟨_, rfl, fun h => absurd h (by decide), fun _ => rfl, fun d hd => by cases hd; exact rfl⟩
        · intro y cc u hM hc hlo hd
          refine wpOp_step rfl fun KK hK => ?_
          go_simp
          exact hK _ _ ⟨_, rfl, fun h => absurd h (by decide), fun _ => rfl, fun d hd => by cases hd; exact rfl⟩
        · intro y cc u hM hc hlo hd
          have h85 : y 85 = .pointer (some ⟨gX, 0, none⟩) := hd 1 (by decide)
          obtain ⟨o0, ⟨a0, a1, a2, a3, a4, a5⟩, ⟨b0, b1, b2, b3, b4, b5⟩, z0, r0', lx⟩ := hM.x.sl
          refine wpOp_step rfl fun KK hK => ?_
          simp only [h85] at hK ⊢
          go_simp
          exact hK _ _ ⟨_, rfl, fun h => absurd h (by decide), fun _ => rfl, fun d hd => by cases hd; exact rfl⟩
        · intro y cc u hM hc hlo hd
          refine wpOp_step rfl fun KK hK => ?_
          go_simp
          exact hK _ _ ⟨_, rfl, fun h => absurd h (by decide), fun _ => rfl, fun d hd => by cases hd; exact rfl⟩
        · intro y cc u hM hc hlo hd
          have h87 : y 87 = .pointer (some ⟨gX, 1, none⟩) := hd 3 (by decide)
          obtain ⟨o0, ⟨a0, a1, a2, a3, a4, a5⟩, ⟨b0, b1, b2, b3, b4, b5⟩, z0, r0', lx⟩ := hM.x.sl
          refine wpOp_step rfl fun KK hK => ?_
          simp only [h87] at hK ⊢
          go_simp
          exact hK _ _ ⟨_, rfl, fun h => absurd h (by decide), fun _ => rfl, fun d hd => by cases hd; exact rfl⟩
        · intro y cc u hM hc hlo hd
          refine wpOp_step rfl fun KK hK => ?_
          go_simp
          exact hK _ _ ⟨_, rfl, fun h => absurd h (by decide), fun _ => rfl, fun d hd => by cases hd; exact rfl⟩
        · intro y cc u hM hc hlo hd
          have h89 : y 89 = .pointer (some ⟨gX, 7, none⟩) := hd 5 (by decide)
          obtain ⟨o0, ⟨a0, a1, a2, a3, a4, a5⟩, ⟨b0, b1, b2, b3, b4, b5⟩, z0, r0', lx⟩ := hM.x.sl
          refine wpOp_step rfl fun KK hK => ?_
          simp only [h89] at hK ⊢
          go_simp
          exact hK _ _ ⟨_, rfl, fun h => absurd h (by decide), fun _ => rfl, fun d hd => by cases hd; exact rfl⟩
        · intro y cc u hM hc hlo hd
          have h84 : y 84 = .pointer (some ⟨f, 0, none⟩) := hd 0 (by decide)
          have h86 : y 86 = .int .i64 (S i).o := hd 2 (by decide)
          have h88 : y 88 = .agg #[.bool (S i).a.i, .int .i64 (S i).a.a, .int .u8 (S i).a.k, .int .u8 (S i).a.s, .int .u32 (S i).a.q, .int .u32 (S i).a.v] := hd 4 (by decide)
          have h90 : y 90 = .agg #[.bool (S i).b.i, .int .i64 (S i).b.a, .int .u8 (S i).b.k, .int .u8 (S i).b.s, .int .u32 (S i).b.q, .int .u32 (S i).b.v] := hd 6 (by decide)
          obtain rfl := hc 0 rfl
          refine wpOp_step rfl fun KK hK => ?_
          simp only [h84, h86, h88, h90] at hK ⊢
          go_simp
          have hA : FMX w f B m c x u := hM.j
          (with_reducible refine (HBF.out u hA).mono ?_)
          rintro e u' ⟨rfl, q1, q2, q3⟩
          have hM' : (MB16 w gX (S i) (FMX w f B m c x) B1 (R 0) 1 : World → Prop) u' := ⟨q3 _ _ _ (by decide) hM.x, q1⟩
          exact hK _ _ ⟨_, rfl, fun _ => hM', fun h => absurd (by decide) h, fun d hd => by cases hd; exact rfl⟩
        · intro y cc u hM hc hlo hd
          refine wpOp_step rfl fun KK hK => ?_
          go_simp
          exact hK _ _ ⟨_, rfl, fun h => absurd h (by decide), fun _ => rfl, fun d hd => by cases hd; exact rfl⟩
        · intro y cc u hM hc hlo hd
          refine wpOp_step rfl fun KK hK => ?_
          go_simp
          exact hK _ _ ⟨_, rfl, fun h => absurd h (by decide), fun _ => rfl, fun d hd => by cases hd; exact rfl⟩
        · intro y cc u hM hc hlo hd
          have h93 : y 93 = .pointer (some ⟨gX, 0, none⟩) := hd 9 (by decide)
          obtain ⟨o0, ⟨a0, a1, a2, a3, a4, a5⟩, ⟨b0, b1, b2, b3, b4, b5⟩, z0, r0', lx⟩ := hM.x.sl
          refine wpOp_step rfl fun KK hK => ?_
          simp only [h93] at hK ⊢
          go_simp
          exact hK _ _ ⟨_, rfl, fun h => absurd h (by decide), fun _ => rfl, fun d hd => by cases hd; exact rfl⟩
        · intro y cc u hM hc hlo hd
          refine wpOp_step rfl fun KK hK => ?_
          go_simp
          exact hK _ _ ⟨_, rfl, fun h => absurd h (by decide), fun _ => rfl, fun d hd => by cases hd; exact rfl⟩
        · intro y cc u hM hc hlo hd
          have h95 : y 95 = .pointer (some ⟨gX, 1, none⟩) := hd 11 (by decide)
          obtain ⟨o0, ⟨a0, a1, a2, a3, a4, a5⟩, ⟨b0, b1, b2, b3, b4, b5⟩, z0, r0', lx⟩ := hM.x.sl
          refine wpOp_step rfl fun KK hK => ?_
          simp only [h95] at hK ⊢
          go_simp
          exact hK _ _ ⟨_, rfl, fun h => absurd h (by decide), fun _ => rfl, fun d hd => by cases hd; exact rfl⟩
        · intro y cc u hM hc hlo hd
          refine wpOp_step rfl fun KK hK => ?_
          go_simp
          exact hK _ _ ⟨_, rfl, fun h => absurd h (by decide), fun _ => rfl, fun d hd => by cases hd; exact rfl⟩
        · intro y cc u hM hc hlo hd
          have h97 : y 97 = .pointer (some ⟨gX, 7, none⟩) := hd 13 (by decide)
          obtain ⟨o0, ⟨a0, a1, a2, a3, a4, a5⟩, ⟨b0, b1, b2, b3, b4, b5⟩, z0, r0', lx⟩ := hM.x.sl
          refine wpOp_step rfl fun KK hK => ?_
          simp only [h97] at hK ⊢
          go_simp
          exact hK _ _ ⟨_, rfl, fun h => absurd h (by decide), fun _ => rfl, fun d hd => by cases hd; exact rfl⟩
        · intro y cc u hM hc hlo hd
          have h92 : y 92 = .pointer (some ⟨m, 0, none⟩) := hd 8 (by decide)
          have h94 : y 94 = .int .i64 (S i).o := hd 10 (by decide)
          have h96 : y 96 = .agg #[.bool (S i).a.i, .int .i64 (S i).a.a, .int .u8 (S i).a.k, .int .u8 (S i).a.s, .int .u32 (S i).a.q, .int .u32 (S i).a.v] := hd 12 (by decide)
          have h98 : y 98 = .agg #[.bool (S i).b.i, .int .i64 (S i).b.a, .int .u8 (S i).b.k, .int .u8 (S i).b.s, .int .u32 (S i).b.q, .int .u32 (S i).b.v] := hd 14 (by decide)
          obtain rfl := hc 1 rfl
          refine wpOp_step rfl fun KK hK => ?_
          simp only [h92, h94, h96, h98] at hK ⊢
          go_simp
          have hA : B1 u := hM.j
          (with_reducible refine (HBM.out u hA).mono ?_)
          rintro e u' ⟨rfl, q1, q2, q3⟩
          have hM' : (MB16 w gX (S i) (FMX w f B m c x) B1 (R 0) 2 : World → Prop) u' := ⟨q3 _ _ _ (by decide) hM.x, q1⟩
          exact hK _ _ ⟨_, rfl, fun _ => hM', fun h => absurd (by decide) h, fun d hd => by cases hd; exact rfl⟩
        · intro y cc u hM hc hlo hd
          have h91 : y 91 = .int .i64 E := hd 7 (by decide)
          have h99 : y 99 = .int .i64 E := hd 15 (by decide)
          refine wpOp_step rfl fun KK hK => ?_
          simp only [h91, h99] at hK ⊢
          go_simp
          exact hK _ _ ⟨_, rfl, fun h => absurd h (by decide), fun _ => rfl, fun d hd => by cases hd; exact rfl⟩
      · intro x' u hM hd
        have e100 : x' 100 = .bool false := hd 16 (by decide)
        have HXU := Lib.hid hM.x
        have HRU : Hid (R 0 u) := Lib.hid hM.j
        clear HBF HBM HM0
        simp only [Reg.frame, Reg.over, Nat.reduceAdd, Nat.reduceLeDiff, decide_true, decide_false, if_true, Bool.false_eq_true, if_false, Bool.and_true, Bool.and_false, e100]
        go_wp2_with fail
        go_loopw [14] (fun s wi => ∃ k : Nat, k ≤ (S i).n ∧ s = .int .i64 (k : Int) ∧ Hid (RX w gX (S i) (R k) wi)) (fun s _ => (S i).n - (intOf s).toNat)
        case atStart => exact ⟨0, by omega, rfl, Lib.hid ⟨HXU.out, (by obtain ⟨s, o, S', P0, P1, h⟩ := HEN.out 0 u HRU.out; exact h.b), HRU.out⟩⟩
        case round =>
          clear HXU HRU
          obtain ⟨k, hk, rfl, HX⟩ := hrel
          obtain ⟨o0, ⟨a0, a1, a2, a3, a4, a5⟩, ⟨b0, b1, b2, b3, b4, b5⟩, z0, r0', lx⟩ := HX.out.x.sl
          clear o0 a0 a1 a2 a3 a4 a5 b0 b1 b2 b3 b4 b5
          by_cases hlt : k < (S i).n
          · have hkd : decide ((k : Int) < ((S i).n : Int)) = true := decide_eq_true (by omega)
            obtain ⟨bq, oq, hSA, hbq, hcq⟩ := HTQ.out (by omega)
            have HQ : Hid (∀ u, Below w.heap.size w u → u.rangeAt bq (oq + k * 4) [.int .u8 (ia k), .int .u8 (ib k), .int .u8 (ja k), .int .u8 (jb k)]) := Lib.hid (fun u hu j v hv => (hu.cell (p := ⟨bq, _, none⟩) hbq).trans (hcq k hlt j v ((congrArg (fun l : List Value => l[j]?) (congrFun HIA.out k)).trans hv)))
            have HQL := Lib.hid hbq
            have hix := fun W => idxQs (A := (S i).A) (n := (S i).n) (S i).c hSA hlt W
            have HWZ : IntKind.i64.wrap ((S i).z + (k : Int)) = (S i).z + (k : Int) := IntWalk.i64_in _ (by omega)
            have HJ : Hid (∀ J ∈ [fun u => M k u], ∀ u u', Below u.heap.size u u' → J u → J u') := Lib.hid (fun J hJ u u' hb hj => by
              simp only [List.mem_cons, List.not_mem_nil, or_false] at hJ
              subst hJ
              exact HPK.out.onM k u u' hj hb)
            have HL : Hid (Below w.heap.size w wr) := Lib.hid HX.out.l
            have HRD : Hid (R k wr.drew) := Lib.hid (HPK.out.onR k _ _ HX.out.r (Below.refl _ wr).drew)
            have HLF : Hid (f < wr.heap.size) := Lib.hid (by obtain ⟨s, o, S', P0, P1, h⟩ := HEN.out k wr HX.out.r; exact h.f.lt)
            clear hcq hbq hSA
            go_upto_region 21 with fail
            clear r0' z0 lx
            refine Reg.wp_prefixP 11 (fun u => R k u) HRD.out 13 (by kernel_rfl) (fun t => t == 15 || (decide (108 ≤ t) && decide (t ≤ 119))) (Reg.KT w.heap.size flTs [fun u => M k u]) (Reg.KT.drew _ HJ.out HL.out.size) Reg.KT.trans (by kernel_rfl) (by kernel_rfl) (by kernel_rfl) (by kernel_rfl) (fun zz => (Reg.tblK [
              (108, .is (.pointer (some ⟨f, 0, none⟩))),
              (109, .is (.pointer (some ⟨gX, 13, none⟩))),
              (110, .is (.int .i64 (S i).z)),
              (111, .is (.int .i64 (k : Int))),
              (112, .is (.int .i64 ((S i).z + (k : Int)))),
              (113, .is (.pointer (some ⟨gX, 14, none⟩))),
              (114, .is (.slice (S i).A (S i).n (S i).c)),
              (115, .is (.int .i64 (k : Int))),
              (116, .is (.pointer (some ⟨bq, oq + k * 4, none⟩))),
              (117, .is (.agg #[.int .u8 (ia k), .int .u8 (ib k), .int .u8 (ja k), .int .u8 (jb k)])),
              (118, .is (.agg #[.int .u8 (ia k), .int .u8 (ib k), .int .u8 (ja k), .int .u8 (jb k)])),
              (119, .vt (.agg #[.int .u8 (ra k), .int .u8 (rb k)]) (fun u => M k u) (by simp)),
              (15, .box wr.heap.size 48 #[.int .u8 0, .int .u8 0] (by decide))] zz).P) (fun zz => (Reg.tblK _ zz).on) (fun zz => (Reg.memK [] zz).P) (fun zz => (Reg.memK _ zz).on) ?_ ?_
            · simp only [Reg.frame, Reg.over, Nat.reduceAdd, Nat.reduceBEq, Nat.reduceLeDiff, decide_true, decide_false, Bool.or_true, Bool.or_false, if_true, Bool.false_eq_true, if_false, Bool.and_true, Bool.and_false]
              refine ⟨?_, ?_, ?_, ?_, ?_, ?_, ?_, ?_, ?_, ?_, ?_, ?_, ?_, trivial⟩
              · intro y u hku hd hpr
                refine wpOp_step rfl fun KK hK => ?_
                go_simp
                exact hK _ _ ⟨_, rfl, Reg.KT.refl _, fun d hd => by cases hd; exact rfl, (fun h => by cases h), fun _ hp => hp⟩
              · intro y u hku hd hpr
                refine wpOp_step rfl fun KK hK => ?_
                go_simp
                exact hK _ _ ⟨_, rfl, Reg.KT.refl _, fun d hd => by cases hd; exact rfl, (fun h => by cases h), fun _ hp => hp⟩
              · intro y u hku hd hpr
                have h109 : y 109 = .pointer (some ⟨gX, 13, none⟩) := hd 1 (by decide)
                have hbx := hku.blk (by decide) HX.out.x
                obtain ⟨o0, ⟨a0, a1, a2, a3, a4, a5⟩, ⟨b0, b1, b2, b3, b4, b5⟩, z0, r0', lx⟩ := hbx.sl
                clear hbx
                refine wpOp_step rfl fun KK hK => ?_
                simp only [h109] at hK ⊢
                go_simp
                exact hK _ _ ⟨_, rfl, Reg.KT.refl _, fun d hd => by cases hd; exact rfl, (fun h => by cases h), fun _ hp => hp⟩
              · intro y u hku hd hpr
                refine wpOp_step rfl fun KK hK => ?_
                go_simp
                exact hK _ _ ⟨_, rfl, Reg.KT.refl _, fun d hd => by cases hd; exact rfl, (fun h => by cases h), fun _ hp => hp⟩
              · intro y u hku hd hpr
                have h110 : y 110 = .int .i64 (S i).z := hd 2 (by decide)
                have h111 : y 111 = .int .i64 (k : Int) := hd 3 (by decide)
                refine wpOp_step rfl fun KK hK => ?_
                simp only [h110, h111] at hK ⊢
                go_simp
                exact hK _ _ ⟨_, rfl, Reg.KT.refl _, fun d hd => by cases hd; exact rfl, (fun h => by cases h), fun _ hp => hp⟩
              · intro y u hku hd hpr
                refine wpOp_step rfl fun KK hK => ?_
                go_simp
                exact hK _ _ ⟨_, rfl, Reg.KT.refl _, fun d hd => by cases hd; exact rfl, (fun h => by cases h), fun _ hp => hp⟩
              · intro y u hku hd hpr
                have h113 : y 113 = .pointer (some ⟨gX, 14, none⟩) := hd 5 (by decide)
                have hbx := hku.blk (by decide) HX.out.x
                obtain ⟨o0, ⟨a0, a1, a2, a3, a4, a5⟩, ⟨b0, b1, b2, b3, b4, b5⟩, z0, r0', lx⟩ := hbx.sl
                clear hbx
                refine wpOp_step rfl fun KK hK => ?_
                simp only [h113] at hK ⊢
                go_simp
                exact hK _ _ ⟨_, rfl, Reg.KT.refl _, fun d hd => by cases hd; exact rfl, (fun h => by cases h), fun _ hp => hp⟩
              · intro y u hku hd hpr
                refine wpOp_step rfl fun KK hK => ?_
                go_simp
                exact hK _ _ ⟨_, rfl, Reg.KT.refl _, fun d hd => by cases hd; exact rfl, (fun h => by cases h), fun _ hp => hp⟩
              · intro y u hku hd hpr
                have h114 : y 114 = .slice (S i).A (S i).n (S i).c := hd 6 (by decide)
                have h115 : y 115 = .int .i64 (k : Int) := hd 7 (by decide)
                refine wpOp_step rfl fun KK hK => ?_
                simp only [h114, h115] at hK ⊢
                go_simp
                exact hK _ _ ⟨_, rfl, Reg.KT.refl _, fun d hd => by cases hd; exact rfl, (fun h => by cases h), fun _ hp => hp⟩
              · intro y u hku hd hpr
                have h116 : y 116 = .pointer (some ⟨bq, oq + k * 4, none⟩) := hd 8 (by decide)
                have q0 : u.cell? ⟨bq, oq + k * 4, none⟩ = some (.int .u8 (ia k)) := (HQ.out u (HL.out.trans hku.1)) 0 _ rfl
                have q1 : u.cell? ⟨bq, oq + k * 4 + 1, none⟩ = some (.int .u8 (ib k)) := (HQ.out u (HL.out.trans hku.1)) 1 _ rfl
                have q2 : u.cell? ⟨bq, oq + k * 4 + 2, none⟩ = some (.int .u8 (ja k)) := (HQ.out u (HL.out.trans hku.1)) 2 _ rfl
                have q3 : u.cell? ⟨bq, oq + k * 4 + 3, none⟩ = some (.int .u8 (jb k)) := (HQ.out u (HL.out.trans hku.1)) 3 _ rfl
                have lq : bq < u.heap.size := Nat.lt_of_lt_of_le HQL.out (HL.out.trans hku.1).size
                refine wpOp_step rfl fun KK hK => ?_
                simp only [h116] at hK ⊢
                go_simp
                exact hK _ _ ⟨_, rfl, Reg.KT.refl _, fun d hd => by cases hd; exact rfl, (fun h => by cases h), fun _ hp => hp⟩
              · intro y u hku hd hpr
                have h117 : y 117 = .agg #[.int .u8 (ia k), .int .u8 (ib k), .int .u8 (ja k), .int .u8 (jb k)] := hd 9 (by decide)
                refine wpOp_step rfl fun KK hK => ?_
                simp only [h117] at hK ⊢
                go_simp
                (with_reducible refine (ins12_is _ _ _ _ _).mono ?_)
                rintro e u' ⟨rfl, hb'⟩
                exact hK _ _ ⟨_, rfl, Reg.KT.grow HJ.out (HL.out.trans hku.1).size hb', fun d hd => by cases hd; exact rfl, (fun h => by cases h), fun _ hp => HPK.out.onR _ _ _ hp hb'⟩
              · intro y u hku hd hpr
                have h108 : y 108 = .pointer (some ⟨f, 0, none⟩) := hd 0 (by decide)
                have h112 : y 112 = .int .i64 ((S i).z + (k : Int)) := hd 4 (by decide)
                have h118 : y 118 = .agg #[.int .u8 (ia k), .int .u8 (ib k), .int .u8 (ja k), .int .u8 (jb k)] := hd 10 (by decide)
                refine wpOp_step rfl fun KK hK => ?_
                simp only [h108, h112, h118] at hK ⊢
                go_simp
                (with_reducible refine (HPK.out.tf k u hlt (hpr rfl)).mono ?_)
                rintro e u' ⟨rfl, q1, q2, q3⟩
                exact hK _ _ ⟨_, rfl, ⟨q2, q3, fun J hJ _ => by simp only [List.mem_cons, List.not_mem_nil, or_false] at hJ; subst hJ; exact q1⟩, fun d hd => by cases hd; exact ⟨rfl, q1⟩, (fun h => by cases h), fun h => absurd rfl h⟩
              · intro y u hku hd hpr
                refine wpOp_step rfl fun KK hK => ?_
                go_simp
                exact hK _ _ ⟨_, rfl, Reg.KT.grow HJ.out (HL.out.trans hku.1).size (below_al (Below.refl _ u) _), fun d hd => by cases hd; exact ⟨_, rfl, hku.size, Blk.new u _ _⟩, (fun h => by cases h), fun _ hp => HPK.out.onR _ _ _ hp (below_al (Below.refl _ u) _)⟩
            · intro y u hku hd
              obtain ⟨e119, hmu⟩ : y 119 = .agg #[.int .u8 (ra k), .int .u8 (rb k)] ∧ M k u := hd 11 (by decide)
              obtain ⟨gT, e15, hgT, hBT⟩ : (∃ g, y 15 = .pointer (some ⟨g, 0, none⟩) ∧ wr.heap.size ≤ g ∧ Blk u g 48 #[.int .u8 0, .int .u8 0]) := hd 12 (by decide)
              have hb2 : But gT u ((u.setCell ⟨gT, 0, none⟩ (.int .u8 (ra k))).setCell ⟨gT, 1, none⟩ (.int .u8 (rb k))) := (But.one 0 _).trans (But.one 1 _)
              have HMB : Hid (MB22 w gX gT (S i) (ra k) (rb k) (M k) (R (k + 1)) 0 ((u.setCell ⟨gT, 0, none⟩ (.int .u8 (ra k))).setCell ⟨gT, 1, none⟩ (.int .u8 (rb k)))) := Lib.hid ⟨hb2.blk (hku.blk (by decide) HX.out.x) (blk_neT (hku.blk (by decide) HX.out.x) hBT (by decide)), (by have h1 := Blk.set_ hBT 0 (.int .u8 (ra k)); have h2 := Blk.set_ h1 1 (.int .u8 (rb k)); exact h2), (HL.out.trans hku.1).trans (hb2.low (Nat.le_trans HL.out.size hgT)), HPK.out.farM k u _ gT _ hmu hBT (by show (2 : Nat) ≤ 113; decide) (Nat.lt_of_lt_of_le HLF.out hgT) hb2⟩
              have t0 : u.cell? ⟨gT, 0, none⟩ = some (.int .u8 0) := (hBT.cell 0).trans rfl
              have t1 : u.cell? ⟨gT, 1, none⟩ = some (.int .u8 0) := (hBT.cell 1).trans rfl
              have lT := hBT.lt
              have f0 := hBT.frozen 0
              have f1 := hBT.frozen 1
              clear hb2 hgT hBT hmu hku hd HX HJ HL HRD HLF
              simp only [Reg.frame, Reg.over, Nat.reduceAdd, Nat.reduceBEq, Nat.reduceLeDiff, decide_true, decide_false, Bool.or_true, Bool.or_false, Bool.true_or, Bool.false_or, if_true, Bool.false_eq_true, if_false, Bool.and_true, Bool.and_false, e119, e15, List.drop_succ_cons, List.drop_zero]
              go_upto_region 22 with fail
              refine wp_at (MB22 w gX gT (S i) (ra k) (rb k) (M k) (R (k + 1)) 0) HMB.out ?_
              clear t0 t1 lT f0 f1 HMB e119 e15
              intro U2 hMB
              have HM0 : Hid (MB22 w gX gT (S i) (ra k) (rb k) (M k) (R (k + 1)) 0 U2.drew) := Lib.hid (hMB.on (c' := 0) (Below.refl _ U2).drew (HPK.out.onM k _ _ hMB.j (Below.refl _ U2).drew))
              clear hMB
              refine Reg.wp_steps (fun t => decide (120 ≤ t) && decide (t ≤ 133)) [11, 12] (fun i => if i = 12 ∨ i = 13 then 2 else if i = 11 then 1 else 0) (MB22 w gX gT (S i) (ra k) (rb k) (M k) (R (k + 1))) HM0.out (by kernel_rfl) (by kernel_rfl) (by kernel_rfl) (by decide) (by kernel_rfl) (by kernel_rfl) (by kernel_rfl) (fun zz => Reg.tblP [
                (120, fun v => v = .agg #[.int .u8 (ra k), .int .u8 (rb k)]),
                (121, fun v => v = .pointer (some ⟨m, 0, none⟩)),
                (122, fun v => v = .pointer (some ⟨gX, 13, none⟩)),
                (123, fun v => v = .int .i64 (S i).z),
                (124, fun v => v = .int .i64 (k : Int)),
                (125, fun v => v = .int .i64 ((S i).z + (k : Int))),
                (126, fun v => v = .pointer (some ⟨gX, 14, none⟩)),
                (127, fun v => v = .slice (S i).A (S i).n (S i).c),
                (128, fun v => v = .int .i64 (k : Int)),
                (129, fun v => v = .pointer (some ⟨bq, oq + k * 4, none⟩)),
                (130, fun v => v = .agg #[.int .u8 (ia k), .int .u8 (ib k), .int .u8 (ja k), .int .u8 (jb k)]),
                (131, fun v => v = .agg #[.int .u8 (ia k), .int .u8 (ib k), .int .u8 (ja k), .int .u8 (jb k)]),
                (132, fun v => v = .agg #[.int .u8 (ra k), .int .u8 (rb k)]),
                (133, fun v => v = .bool false)] zz) ?_ ?_
              · simp only [Reg.frame, Reg.over, Nat.reduceAdd, Nat.reduceLeDiff, decide_true, decide_false, if_true, Bool.false_eq_true, if_false, Bool.and_true, Bool.and_false]
                refine ⟨?_, ?_, ?_, ?_, ?_, ?_, ?_, ?_, ?_, ?_, ?_, ?_, ?_, ?_, trivial⟩
                · intro y cc u hM hc hlo hd
                  have p0 : u.cell? ⟨gT, 0, none⟩ = some (.int .u8 (ra k)) := (hM.t.cell 0).trans rfl
                  have p1 : u.cell? ⟨gT, 1, none⟩ = some (.int .u8 (rb k)) := (hM.t.cell 1).trans rfl
                  have lt := hM.t.lt
                  refine wpOp_step rfl fun KK hK => ?_
                  go_simp
                  exact hK _ _ ⟨_, rfl, fun h => absurd h (by decide), fun _ => rfl, fun d hd => by cases hd; exact rfl⟩
                · intro y cc u hM hc hlo hd
                  refine wpOp_step rfl fun KK hK => ?_
                  go_simp
                  exact hK _ _ ⟨_, rfl, fun h => absurd h (by decide), fun _ => rfl, fun d hd => by cases hd; exact rfl⟩
                · intro y cc u hM hc hlo hd
                  refine wpOp_step rfl fun KK hK => ?_
                  go_simp
                  exact hK _ _ ⟨_, rfl, fun h => absurd h (by decide), fun _ => rfl, fun d hd => by cases hd; exact rfl⟩
                · intro y cc u hM hc hlo hd
                  have h122 : y 122 = .pointer (some ⟨gX, 13, none⟩) := hd 2 (by decide)
                  obtain ⟨o0, ⟨a0, a1, a2, a3, a4, a5⟩, ⟨b0, b1, b2, b3, b4, b5⟩, z0, r0', lx⟩ := hM.x.sl
                  refine wpOp_step rfl fun KK hK => ?_
                  simp only [h122] at hK ⊢
                  go_simp
                  exact hK _ _ ⟨_, rfl, fun h => absurd h (by decide), fun _ => rfl, fun d hd => by cases hd; exact rfl⟩
                · intro y cc u hM hc hlo hd
                  refine wpOp_step rfl fun KK hK => ?_
                  go_simp
                  exact hK _ _ ⟨_, rfl, fun h => absurd h (by decide), fun _ => rfl, fun d hd => by cases hd; exact rfl⟩
                · intro y cc u hM hc hlo hd
                  have h123 : y 123 = .int .i64 (S i).z := hd 3 (by decide)
                  have h124 : y 124 = .int .i64 (k : Int) := hd 4 (by decide)
                  refine wpOp_step rfl fun KK hK => ?_
                  simp only [h123, h124] at hK ⊢
                  go_simp
                  exact hK _ _ ⟨_, rfl, fun h => absurd h (by decide), fun _ => rfl, fun d hd => by cases hd; exact rfl⟩
                · intro y cc u hM hc hlo hd
                  refine wpOp_step rfl fun KK hK => ?_
                  go_simp
                  exact hK _ _ ⟨_, rfl, fun h => absurd h (by decide), fun _ => rfl, fun d hd => by cases hd; exact rfl⟩
                · intro y cc u hM hc hlo hd
                  have h126 : y 126 = .pointer (some ⟨gX, 14, none⟩) := hd 6 (by decide)
                  obtain ⟨o0, ⟨a0, a1, a2, a3, a4, a5⟩, ⟨b0, b1, b2, b3, b4, b5⟩, z0, r0', lx⟩ := hM.x.sl
                  refine wpOp_step rfl fun KK hK => ?_
                  simp only [h126] at hK ⊢
                  go_simp
                  exact hK _ _ ⟨_, rfl, fun h => absurd h (by decide), fun _ => rfl, fun d hd => by cases hd; exact rfl⟩
                · intro y cc u hM hc hlo hd
                  refine wpOp_step rfl fun KK hK => ?_
                  go_simp
                  exact hK _ _ ⟨_, rfl, fun h => absurd h (by decide), fun _ => rfl, fun d hd => by cases hd; exact rfl⟩
                · intro y cc u hM hc hlo hd
                  have h127 : y 127 = .slice (S i).A (S i).n (S i).c := hd 7 (by decide)
                  have h128 : y 128 = .int .i64 (k : Int) := hd 8 (by decide)
                  refine wpOp_step rfl fun KK hK => ?_
                  simp only [h127, h128] at hK ⊢
                  go_simp
                  exact hK _ _ ⟨_, rfl, fun h => absurd h (by decide), fun _ => rfl, fun d hd => by cases hd; exact rfl⟩
                · intro y cc u hM hc hlo hd
                  have h129 : y 129 = .pointer (some ⟨bq, oq + k * 4, none⟩) := hd 9 (by decide)
                  have q0 : u.cell? ⟨bq, oq + k * 4, none⟩ = some (.int .u8 (ia k)) := (HQ.out u hM.l) 0 _ rfl
                  have q1 : u.cell? ⟨bq, oq + k * 4 + 1, none⟩ = some (.int .u8 (ib k)) := (HQ.out u hM.l) 1 _ rfl
                  have q2 : u.cell? ⟨bq, oq + k * 4 + 2, none⟩ = some (.int .u8 (ja k)) := (HQ.out u hM.l) 2 _ rfl
                  have q3 : u.cell? ⟨bq, oq + k * 4 + 3, none⟩ = some (.int .u8 (jb k)) := (HQ.out u hM.l) 3 _ rfl
                  have lq : bq < u.heap.size := Nat.lt_of_lt_of_le HQL.out hM.l.size
                  refine wpOp_step rfl fun KK hK => ?_
                  simp only [h129] at hK ⊢
                  go_simp
                  exact hK _ _ ⟨_, rfl, fun h => absurd h (by decide), fun _ => rfl, fun d hd => by cases hd; exact rfl⟩
                · intro y cc u hM hc hlo hd
                  have h130 : y 130 = .agg #[.int .u8 (ia k), .int .u8 (ib k), .int .u8 (ja k), .int .u8 (jb k)] := hd 10 (by decide)
                  obtain rfl := hc 0 rfl
                  refine wpOp_step rfl fun KK hK => ?_
                  simp only [h130] at hK ⊢
                  go_simp
                  (with_reducible refine (ins12_is _ _ _ _ _).mono ?_)
                  rintro e u' ⟨rfl, hb'⟩
                  have hM' : MB22 w gX gT (S i) (ra k) (rb k) (M k) (R (k + 1)) 1 u' := hM.on hb' (HPK.out.onM k u u' hM.j hb')
                  exact hK _ _ ⟨_, rfl, fun _ => hM', fun h => absurd (by decide) h, fun d hd => by cases hd; exact rfl⟩
                · intro y cc u hM hc hlo hd
                  have h121 : y 121 = .pointer (some ⟨m, 0, none⟩) := hd 1 (by decide)
                  have h125 : y 125 = .int .i64 ((S i).z + (k : Int)) := hd 5 (by decide)
                  have h131 : y 131 = .agg #[.int .u8 (ia k), .int .u8 (ib k), .int .u8 (ja k), .int .u8 (jb k)] := hd 11 (by decide)
                  obtain rfl := hc 1 rfl
                  refine wpOp_step rfl fun KK hK => ?_
                  simp only [h121, h125, h131] at hK ⊢
                  go_simp
                  have hA : M k u := hM.j
                  (with_reducible refine (HPK.out.tm k u hlt hA).mono ?_)
                  rintro e u' ⟨rfl, q1, q2, q3⟩
                  have hM' : MB22 w gX gT (S i) (ra k) (rb k) (M k) (R (k + 1)) 2 u' := ⟨q3 _ _ _ (by decide) hM.x, q3 _ _ _ (by decide) hM.t, hM.l.trans q2, q1⟩
                  exact hK _ _ ⟨_, rfl, fun _ => hM', fun h => absurd (by decide) h, fun d hd => by cases hd; exact rfl⟩
                · intro y cc u hM hc hlo hd
                  have h120 : y 120 = .agg #[.int .u8 (ra k), .int .u8 (rb k)] := hd 0 (by decide)
                  have h132 : y 132 = .agg #[.int .u8 (ra k), .int .u8 (rb k)] := hd 12 (by decide)
                  have hne := fun W => sy2_neq (ra k) (rb k) W
                  refine wpOp_step rfl fun KK hK => ?_
                  simp only [h120, h132] at hK ⊢
                  go_simp
                  exact hK _ _ ⟨_, rfl, fun h => absurd h (by decide), fun _ => rfl, fun d hd => by cases hd; exact rfl⟩
              · intro y2 u3 hM hd
                have e133 : y2 133 = .bool false := hd 13 (by decide)
                have HX3 := Lib.hid hM.x
                have HL3 := Lib.hid hM.l
                have HR3 : Hid (R (k + 1) u3) := Lib.hid hM.j
                obtain ⟨o0, ⟨a0, a1, a2, a3, a4, a5⟩, ⟨b0, b1, b2, b3, b4, b5⟩, z0, r0', lx⟩ := hM.x.sl
                clear o0 a0 a1 a2 a3 a4 a5 b0 b1 b2 b3 b4 b5 hM hd HM0
                simp only [Reg.frame, Reg.over, Nat.reduceAdd, Nat.reduceLeDiff, decide_true, decide_false, if_true, Bool.false_eq_true, if_false, Bool.and_true, Bool.and_false, e133]
                have hrm : (k : Int).tmod 32 = ((k % 32 : Nat) : Int) := by rw [Int.tmod_eq_emod_of_nonneg (by omega)]; omega
                have hw3 : IntKind.i64.wrap (((S i).n : Int) - 3) = ((S i).n : Int) - 3 := IntWalk.i64_in _ (by omega)
                obtain ⟨kr, hkr⟩ : ∃ kr : Nat, kr = k % 32 := ⟨_, rfl⟩
                rw [← hkr] at hrm
                clear hkr
                have hw1 : IntKind.i64.wrap ((k : Int) + 1) = ((k + 1 : Nat) : Int) := by rw [IntWalk.i64_in _ (by omega)]; omega
                have n1 := fun W => pay_neq_self (G (k + 1)).k (G (k + 1)).s (G (k + 1)).q (G (k + 1)).v W
                have n2 := fun W => pay_neq_self H.k H.s H.q H.v W
                have n3 := fun W => bo2_neq (r0 (k + 1)) (r1 (k + 1)) W
                by_cases hk0 : kr = 0
                · subst hk0
                  go_upto_region 29 with (first
                    | (go_at_call 13; (with_reducible refine (HPK.out.hf (k + 1) _ HR3.out).mono ?_); rintro e v1 ⟨rfl, b1⟩; have HV1 := Lib.hid (below_al b1 (.cells #[.int .u8 (G (k + 1)).k, .int .u8 (G (k + 1)).s, .int .u32 (G (k + 1)).q, .int .u32 (G (k + 1)).v] 40)); have HP1 := Lib.hid (Blk.new v1 40 #[.int .u8 (G (k + 1)).k, .int .u8 (G (k + 1)).s, .int .u32 (G (k + 1)).q, .int .u32 (G (k + 1)).v]); clear b1)
                    | (go_at_call 14; (with_reducible refine (HPK.out.hm (k + 1) _ (HPK.out.onR _ _ _ HR3.out HV1.out)).mono ?_); rintro e v2 ⟨rfl, b2⟩; have HV2 := Lib.hid (below_then HV1.out (below_al b2 (.cells #[.int .u8 (G (k + 1)).k, .int .u8 (G (k + 1)).s, .int .u32 (G (k + 1)).q, .int .u32 (G (k + 1)).v] 40))); have HP2 := Lib.hid (Blk.new v2 40 #[.int .u8 (G (k + 1)).k, .int .u8 (G (k + 1)).s, .int .u32 (G (k + 1)).q, .int .u32 (G (k + 1)).v]); have HP1 := Lib.hid (HP1.out.on (below_al b2 (.cells #[.int .u8 (G (k + 1)).k, .int .u8 (G (k + 1)).s, .int .u32 (G (k + 1)).q, .int .u32 (G (k + 1)).v] 40))); clear b2)
                    | (go_at_call 15; (with_reducible refine (HPK.out.sf (k + 1) _ (HPK.out.onR _ _ _ HR3.out HV2.out)).mono ?_); rintro e v3 ⟨rfl, b3⟩; have HV3 := Lib.hid (below_then HV2.out (below_al b3 (.cells #[.int .u8 H.k, .int .u8 H.s, .int .u32 H.q, .int .u32 H.v] 40))); have HP3 := Lib.hid (Blk.new v3 40 #[.int .u8 H.k, .int .u8 H.s, .int .u32 H.q, .int .u32 H.v]); have HP1 := Lib.hid (HP1.out.on (below_al b3 (.cells #[.int .u8 H.k, .int .u8 H.s, .int .u32 H.q, .int .u32 H.v] 40))); have HP2 := Lib.hid (HP2.out.on (below_al b3 (.cells #[.int .u8 H.k, .int .u8 H.s, .int .u32 H.q, .int .u32 H.v] 40))); clear b3)
                    | (go_at_call 16; (with_reducible refine (HPK.out.sm (k + 1) _ (HPK.out.onR _ _ _ HR3.out HV3.out)).mono ?_); rintro e v4 ⟨rfl, b4⟩; have HV4 := Lib.hid (below_then HV3.out (below_al b4 (.cells #[.int .u8 H.k, .int .u8 H.s, .int .u32 H.q, .int .u32 H.v] 40))); have HP4 := Lib.hid (Blk.new v4 40 #[.int .u8 H.k, .int .u8 H.s, .int .u32 H.q, .int .u32 H.v]); have HP1 := Lib.hid (HP1.out.on (below_al b4 (.cells #[.int .u8 H.k, .int .u8 H.s, .int .u32 H.q, .int .u32 H.v] 40))); have HP2 := Lib.hid (HP2.out.on (below_al b4 (.cells #[.int .u8 H.k, .int .u8 H.s, .int .u32 H.q, .int .u32 H.v] 40))); have HP3 := Lib.hid (HP3.out.on (below_al b4 (.cells #[.int .u8 H.k, .int .u8 H.s, .int .u32 H.q, .int .u32 H.v] 40))); clear b4))
                  obtain ⟨p10, p11, p12, p13, p1l⟩ := HP1.out.pay
                  obtain ⟨p20, p21, p22, p23, p2l⟩ := HP2.out.pay
                  obtain ⟨p30, p31, p32, p33, p3l⟩ := HP3.out.pay
                  obtain ⟨p40, p41, p42, p43, p4l⟩ := HP4.out.pay
                  go_wp2_with (first
                    | (go_at_call 17; (with_reducible refine (HPK.out.gf (k + 1) _ (HPK.out.onR _ _ _ HR3.out HV4.out)).mono ?_); rintro e v5 ⟨rfl, b5⟩; have HV5 := Lib.hid (below_then HV4.out b5); clear b5)
                    | (go_at_call 18; (with_reducible refine (HPK.out.gm (k + 1) _ (HPK.out.onR _ _ _ HR3.out HV5.out)).mono ?_); rintro e v6 ⟨rfl, b6⟩; have HV6 := Lib.hid (below_then HV5.out b6); clear b6))
                  go_roundw
                  case rel => exact ⟨k + 1, by omega, by go_num, Lib.hid ⟨HX3.out.on HV6.out, below_then HL3.out HV6.out, HPK.out.onR _ _ _ HR3.out HV6.out⟩⟩
                  case measure => simp [intOf]; omega
                · have hne : ((kr : Int) != 0) = true := by simp; omega
                  have hne2 : ((kr : Int) == 0) = false := by simp; omega
                  by_cases hc3 : (k : Int) < ((S i).n : Int) - 3
                  · have hd3 : decide ((k : Int) < ((S i).n : Int) - 3) = true := decide_eq_true hc3
                    go_wp2_with fail
                    go_roundw
                    case rel => exact ⟨k + 1, by omega, by go_num, Lib.hid ⟨HX3.out, HL3.out, HR3.out⟩⟩
                    case measure => simp [intOf]; omega
                  · have hd3 : decide ((k : Int) < ((S i).n : Int) - 3) = false := decide_eq_false hc3
                    go_upto_region 29 with (first
                      | (go_at_call 13; (with_reducible refine (HPK.out.hf (k + 1) _ HR3.out).mono ?_); rintro e v1 ⟨rfl, b1⟩; have HV1 := Lib.hid (below_al b1 (.cells #[.int .u8 (G (k + 1)).k, .int .u8 (G (k + 1)).s, .int .u32 (G (k + 1)).q, .int .u32 (G (k + 1)).v] 40)); have HP1 := Lib.hid (Blk.new v1 40 #[.int .u8 (G (k + 1)).k, .int .u8 (G (k + 1)).s, .int .u32 (G (k + 1)).q, .int .u32 (G (k + 1)).v]); clear b1)
                      | (go_at_call 14; (with_reducible refine (HPK.out.hm (k + 1) _ (HPK.out.onR _ _ _ HR3.out HV1.out)).mono ?_); rintro e v2 ⟨rfl, b2⟩; have HV2 := Lib.hid (below_then HV1.out (below_al b2 (.cells #[.int .u8 (G (k + 1)).k, .int .u8 (G (k + 1)).s, .int .u32 (G (k + 1)).q, .int .u32 (G (k + 1)).v] 40))); have HP2 := Lib.hid (Blk.new v2 40 #[.int .u8 (G (k + 1)).k, .int .u8 (G (k + 1)).s, .int .u32 (G (k + 1)).q, .int .u32 (G (k + 1)).v]); have HP1 := Lib.hid (HP1.out.on (below_al b2 (.cells #[.int .u8 (G (k + 1)).k, .int .u8 (G (k + 1)).s, .int .u32 (G (k + 1)).q, .int .u32 (G (k + 1)).v] 40))); clear b2)
                      | (go_at_call 15; (with_reducible refine (HPK.out.sf (k + 1) _ (HPK.out.onR _ _ _ HR3.out HV2.out)).mono ?_); rintro e v3 ⟨rfl, b3⟩; have HV3 := Lib.hid (below_then HV2.out (below_al b3 (.cells #[.int .u8 H.k, .int .u8 H.s, .int .u32 H.q, .int .u32 H.v] 40))); have HP3 := Lib.hid (Blk.new v3 40 #[.int .u8 H.k, .int .u8 H.s, .int .u32 H.q, .int .u32 H.v]); have HP1 := Lib.hid (HP1.out.on (below_al b3 (.cells #[.int .u8 H.k, .int .u8 H.s, .int .u32 H.q, .int .u32 H.v] 40))); have HP2 := Lib.hid (HP2.out.on (below_al b3 (.cells #[.int .u8 H.k, .int .u8 H.s, .int .u32 H.q, .int .u32 H.v] 40))); clear b3)
                      | (go_at_call 16; (with_reducible refine (HPK.out.sm (k + 1) _ (HPK.out.onR _ _ _ HR3.out HV3.out)).mono ?_); rintro e v4 ⟨rfl, b4⟩; have HV4 := Lib.hid (below_then HV3.out (below_al b4 (.cells #[.int .u8 H.k, .int .u8 H.s, .int .u32 H.q, .int .u32 H.v] 40))); have HP4 := Lib.hid (Blk.new v4 40 #[.int .u8 H.k, .int .u8 H.s, .int .u32 H.q, .int .u32 H.v]); have HP1 := Lib.hid (HP1.out.on (below_al b4 (.cells #[.int .u8 H.k, .int .u8 H.s, .int .u32 H.q, .int .u32 H.v] 40))); have HP2 := Lib.hid (HP2.out.on (below_al b4 (.cells #[.int .u8 H.k, .int .u8 H.s, .int .u32 H.q, .int .u32 H.v] 40))); have HP3 := Lib.hid (HP3.out.on (below_al b4 (.cells #[.int .u8 H.k, .int .u8 H.s, .int .u32 H.q, .int .u32 H.v] 40))); clear b4))
                    obtain ⟨p10, p11, p12, p13, p1l⟩ := HP1.out.pay
                    obtain ⟨p20, p21, p22, p23, p2l⟩ := HP2.out.pay
                    obtain ⟨p30, p31, p32, p33, p3l⟩ := HP3.out.pay
                    obtain ⟨p40, p41, p42, p43, p4l⟩ := HP4.out.pay
                    go_wp2_with (first
                      | (go_at_call 17; (with_reducible refine (HPK.out.gf (k + 1) _ (HPK.out.onR _ _ _ HR3.out HV4.out)).mono ?_); rintro e v5 ⟨rfl, b5⟩; have HV5 := Lib.hid (below_then HV4.out b5); clear b5)
                      | (go_at_call 18; (with_reducible refine (HPK.out.gm (k + 1) _ (HPK.out.onR _ _ _ HR3.out HV5.out)).mono ?_); rintro e v6 ⟨rfl, b6⟩; have HV6 := Lib.hid (below_then HV5.out b6); clear b6))
                    go_roundw
                    case rel => exact ⟨k + 1, by omega, by go_num, Lib.hid ⟨HX3.out.on HV6.out, below_then HL3.out HV6.out, HPK.out.onR _ _ _ HR3.out HV6.out⟩⟩
                    case measure => simp [intOf]; omega
          · obtain rfl : k = (S i).n := by omega
            go_wp2_with fail
            go_roundw
            case rel => exact ⟨i + 1, by omega, by go_num, Lib.hid (HEN.out _ wr HX.out.r)⟩
            case measure => simp [intOf]; omega
    · obtain rfl : i = ln := by omega
      have HLV : Hid (Laid2 wr) := Lib.hid (HW.out.on HF.out.low)
      go_wp2_with (go_at_call 5; (with_reducible refine (lives_fl _ HLV.out).mono ?_); rintro e v9 ⟨rfl, q9⟩; have HQ9 := Lib.hid q9; clear q9)
      go_ret
      exact ⟨rfl, ulive HF.out.low HQ9.out⟩
end Go.Proofs.YtkejpkcaojidaaaGreatDoor

namespace Go.Proofs.YtkejpkcaojidaaaGreatDoor
set_option linter.unusedVariables false
set_option linter.unusedSimpArgs false
open Go.RowKit Rg
set_option linter.unusedVariables false
set_option linter.unusedSimpArgs false

set_option maxRecDepth 100000 in
theorem run_none (c : Cf) (x : Int) (lA : Option Addr) (ln lc : Nat) (w : World) (hw : Laid2 w) (hn : ∀ u, Below w.heap.size w u → Calls Tryz.prog 4 #[.agg #[.int .i64 c.N, .slice c.pA c.pn c.pc, .slice c.sA c.sn c.sc, .int .i64 c.L, .slice c.bA c.bn c.bc, .slice c.tA c.tn c.tc, .int .i64 c.M, .int .i64 c.G, .int .i64 c.F]] u fun e w' => e = .returned (.pointer none) ∧ Below u.heap.size u w') :
    Calls Tryz.prog 3 #[.agg #[.int .i64 c.N, .slice c.pA c.pn c.pc, .slice c.sA c.sn c.sc, .int .i64 c.L, .slice c.bA c.bn c.bc, .slice c.tA c.tn c.tc, .int .i64 c.M, .int .i64 c.G, .int .i64 c.F], .int .i64 x, .slice lA ln lc] w fun e w' => e = .returned (.bool true) ∧ Below w.heap.size w w' := by
  have HW := Lib.hid hw
  have HN := Lib.hid hn
  clear hw hn
  go_enter Tryz.func3, Tryz.ntmps3
  go_wp2_with (first
    | (go_at_call 4; (with_reducible refine (HN.out _ (below_al (Below.refl _ w) (.cells #[.int .i64 c.N, .slice c.pA c.pn c.pc, .slice c.sA c.sn c.sc, .int .i64 c.L, .slice c.bA c.bn c.bc, .slice c.tA c.tn c.tc, .int .i64 c.M, .int .i64 c.G, .int .i64 c.F] 25))).mono ?_); rintro e w1 ⟨rfl, q1⟩; have HB1 := Lib.hid (below_then (below_al (Below.refl _ w) (.cells #[.int .i64 c.N, .slice c.pA c.pn c.pc, .slice c.sA c.sn c.sc, .int .i64 c.L, .slice c.bA c.bn c.bc, .slice c.tA c.tn c.tc, .int .i64 c.M, .int .i64 c.G, .int .i64 c.F] 25)) q1); clear q1)
    | (go_at_call 5; (with_reducible refine (lives_fl _ (HW.out.on HB1.out)).mono ?_); rintro e v9 ⟨rfl, q9⟩; have HQ9 := Lib.hid (below_then HB1.out q9); clear q9))
  go_ret
  exact ⟨rfl, HQ9.out⟩
set_option maxRecDepth 100000 in
theorem run_long (c : Cf) (x : Int) (lA : Option Addr) (ln lc : Nat) (hl : ¬ ln ≤ 3) (w : World) (hw : Laid2 w) (hc : CfIn w c) (hg : greatB c = false) (hE : newE c = 0) :
    Calls Tryz.prog 3 #[.agg #[.int .i64 c.N, .slice c.pA c.pn c.pc, .slice c.sA c.sn c.sc, .int .i64 c.L, .slice c.bA c.bn c.bc, .slice c.tA c.tn c.tc, .int .i64 c.M, .int .i64 c.G, .int .i64 c.F], .int .i64 x, .slice lA ln lc] w fun e w' => e = .returned (.bool true) ∧ Below w.heap.size w w' := by
  have HW := Lib.hid hw
  have HN : Hid (∀ u, Below w.heap.size w u → Calls Tryz.prog 4 #[.agg #[.int .i64 c.N, .slice c.pA c.pn c.pc, .slice c.sA c.sn c.sc, .int .i64 c.L, .slice c.bA c.bn c.bc, .slice c.tA c.tn c.tc, .int .i64 c.M, .int .i64 c.G, .int .i64 c.F]] u fun e w' => ∃ g : Nat, e = .returned (.pointer (some ⟨g, 0, none⟩)) ∧ NetP w' (.pointer (some ⟨g, 0, none⟩)) c.N c.P ∧ Below u.heap.size u w') := Lib.hid (fun u hu => netWn c u (hw.on hu) (hc.on hu) hg hE)
  have h3 : (3 : Int) < (ln : Int) := by omega
  have h3d : decide ((3 : Int) < (ln : Int)) = true := decide_eq_true h3
  clear hw hc hg hE hl h3
  go_enter Tryz.func3, Tryz.ntmps3
  go_wp2_with (first
    | (go_at_call 4; (with_reducible refine (HN.out _ (below_al (Below.refl _ w) (.cells #[.int .i64 c.N, .slice c.pA c.pn c.pc, .slice c.sA c.sn c.sc, .int .i64 c.L, .slice c.bA c.bn c.bc, .slice c.tA c.tn c.tc, .int .i64 c.M, .int .i64 c.G, .int .i64 c.F] 25))).mono ?_); rintro e w1 ⟨gN, rfl, q0, q1⟩; have HB1 := Lib.hid (below_then (below_al (Below.refl _ w) (.cells #[.int .i64 c.N, .slice c.pA c.pn c.pc, .slice c.sA c.sn c.sc, .int .i64 c.L, .slice c.bA c.bn c.bc, .slice c.tA c.tn c.tc, .int .i64 c.M, .int .i64 c.G, .int .i64 c.F] 25)) q1); clear q0 q1)
    | (go_at_call 5; (with_reducible refine (lives_fl _ (HW.out.on HB1.out)).mono ?_); rintro e v9 ⟨rfl, q9⟩; have HQ9 := Lib.hid (below_then HB1.out q9); clear q9))
  go_ret
  exact ⟨rfl, HQ9.out⟩
set_option maxRecDepth 100000 in
theorem run_out (c : Cf) (x : Int) (lA : Option Addr) (ln lc : Nat) (hl : ln ≤ 3) (hx : ¬ (0 ≤ x ∧ x < c.N)) (w : World) (hw : Laid2 w) (hc : CfIn w c) (hg : greatB c = false) (hE : newE c = 0) :
    Calls Tryz.prog 3 #[.agg #[.int .i64 c.N, .slice c.pA c.pn c.pc, .slice c.sA c.sn c.sc, .int .i64 c.L, .slice c.bA c.bn c.bc, .slice c.tA c.tn c.tc, .int .i64 c.M, .int .i64 c.G, .int .i64 c.F], .int .i64 x, .slice lA ln lc] w fun e w' => e = .returned (.bool true) ∧ Below w.heap.size w w' := by
  have hN := (newE_ok.1 hE).nodes
  have hE1 : ofWE c.N c.P 0 0 x = 1 := (of_no (by omega) (pl_none fun h => hx ⟨h.2.2.2.2.2.1, h.2.2.2.2.2.2⟩)).2
  have HW := Lib.hid hw
  have HN : Hid (∀ u, Below w.heap.size w u → Calls Tryz.prog 4 #[.agg #[.int .i64 c.N, .slice c.pA c.pn c.pc, .slice c.sA c.sn c.sc, .int .i64 c.L, .slice c.bA c.bn c.bc, .slice c.tA c.tn c.tc, .int .i64 c.M, .int .i64 c.G, .int .i64 c.F]] u fun e w' => ∃ g : Nat, e = .returned (.pointer (some ⟨g, 0, none⟩)) ∧ NetP w' (.pointer (some ⟨g, 0, none⟩)) c.N c.P ∧ Below u.heap.size u w') := Lib.hid (fun u hu => netWn c u (hw.on hu) (hc.on hu) hg hE)
  have HF : Hid (∀ v u, Below w.heap.size w u → NetP u v c.N c.P → Calls Tryz.prog 6 #[v, .int .i64 x] u fun e w' => e = .returned (.tuple #[.pointer none, .int .i64 1]) ∧ Below u.heap.size u w') := Lib.hid (fun v u hu h => fNew_no v c.N c.P x 1 hE1 (by decide) u h (hw.on hu))
  have HR : Hid (∀ u, Calls Tryz.prog 7 #[.agg #[.int .i64 c.N, .slice c.pA c.pn c.pc, .slice c.sA c.sn c.sc, .int .i64 c.L, .slice c.bA c.bn c.bc, .slice c.tA c.tn c.tc, .int .i64 c.M, .int .i64 c.G, .int .i64 c.F], .int .i64 x] u fun e w' => e = .returned (.tuple #[.pointer none, .int .i64 1]) ∧ Below u.heap.size u w') := Lib.hid (fun u => rfNew_no c x (by omega) u)
  have h3d : decide ((3 : Int) < (ln : Int)) = false := decide_eq_false (by omega)
  clear hw hc hg hE hl hx hN hE1
  go_enter Tryz.func3, Tryz.ntmps3
  go_wp2_with (first
    | (go_at_call 4; (with_reducible refine (HN.out _ (below_al (Below.refl _ w) (.cells #[.int .i64 c.N, .slice c.pA c.pn c.pc, .slice c.sA c.sn c.sc, .int .i64 c.L, .slice c.bA c.bn c.bc, .slice c.tA c.tn c.tc, .int .i64 c.M, .int .i64 c.G, .int .i64 c.F] 25))).mono ?_); rintro e w1 ⟨gN, rfl, q0, q1⟩; have HP := Lib.hid q0; have HB1 := Lib.hid (below_then (below_al (Below.refl _ w) (.cells #[.int .i64 c.N, .slice c.pA c.pn c.pc, .slice c.sA c.sn c.sc, .int .i64 c.L, .slice c.bA c.bn c.bc, .slice c.tA c.tn c.tc, .int .i64 c.M, .int .i64 c.G, .int .i64 c.F] 25)) q1); have HX := Lib.hid ((Blk.new w 25 #[.int .i64 c.N, .slice c.pA c.pn c.pc, .slice c.sA c.sn c.sc, .int .i64 c.L, .slice c.bA c.bn c.bc, .slice c.tA c.tn c.tc, .int .i64 c.M, .int .i64 c.G, .int .i64 c.F]).on q1); clear q0 q1)
    | (go_at_call 6; (with_reducible refine (HF.out _ _ HB1.out HP.out).mono ?_); rintro e w2 ⟨rfl, q2⟩; have HB2 := Lib.hid (below_then HB1.out q2); obtain ⟨k0, k1, k2, k3, k4, k5, k6, k7, k8⟩ := (HX.out.on q2).cf; have kl := (HX.out.on q2).lt; clear q2)
    | (go_at_call 7; (with_reducible refine (HR.out _).mono ?_); rintro e w3 ⟨rfl, q3⟩; have HB3 := Lib.hid (below_then HB2.out q3); clear q3 k0 k1 k2 k3 k4 k5 k6 k7 k8 kl)
    | (go_at_call 5; (with_reducible refine (lives_fl _ (HW.out.on HB3.out)).mono ?_); rintro e v9 ⟨rfl, q9⟩; have HQ9 := Lib.hid (below_then HB3.out q9); clear q9))
  go_ret
  exact ⟨rfl, HQ9.out⟩
theorem flowsRun_walk (c : Cf) (x : Int) (lA : Option Addr) (ln lc : Nat) (S : Nat → Sl) (w : World) (hw : Laid2 w) (hr : CfRaw w c) (hS : SlotsIn w lA ln S) :
    Calls Tryz.prog 3 #[.agg #[.int .i64 c.N, .slice c.pA c.pn c.pc, .slice c.sA c.sn c.sc, .int .i64 c.L, .slice c.bA c.bn c.bc, .slice c.tA c.tn c.tc, .int .i64 c.M, .int .i64 c.G, .int .i64 c.F], .int .i64 x, .slice lA ln lc] w fun e w' => e = .returned (.bool true) ∧ Below w.heap.size w w' := by
  rcases raw_cases hr with hn | ⟨hc, hg, h0⟩
  · exact run_none c x lA ln lc w hw hn
  · by_cases hl : ln ≤ 3
    · by_cases hx : 0 ≤ x ∧ x < c.N
      · exact run_main c x lA ln lc S w hw hc hg h0 hS hl hx
      · exact run_out c x lA ln lc hl hx w hw hc hg h0
    · exact run_long c x lA ln lc hl w hw hc hg h0
end Go.Proofs.YtkejpkcaojidaaaGreatDoor

