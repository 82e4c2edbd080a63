/-
  Rows of numbers of a call's own that grow one beside another: pushing onto one leaves the others as they were. No condition but those that are named.
-/
import Derived.Test.YtibniadebbgjcaaDoorCfTrM
import Derived.Test.YtibniadebbgjcaaDoorCfEdges
import Derived.Test.YtibniadebbgjcaaDoorCfA
namespace Go.Proofs.YtibniadebbgjcaaDoor
open Go.RowKit Rg

def RowI (w : World) (base : Nat) (A : Option Addr) (n c : Nat) (xs : List Int) : Prop := w.ownsRow base 3 1 (.slice A n c) n (xs.map (Value.int .i64))
def blkOf (A : Option Addr) : Option Nat := A.map (·.block)
def ApB (A B : Option Addr) : Prop := ∀ g, blkOf A = some g → blkOf B ≠ some g
theorem own_blk (A : Option Addr) (n c : Nat) : (Value.slice A n c).ownBlock = blkOf A := by cases A <;> rfl
section
variable {w w' : World} {base n c : Nat} {A B : Option Addr} {xs : List Int}
theorem RowI.len (h : RowI w base A n c xs) : xs.length = n := by simpa using h.1
theorem RowI.none_ (w : World) (base : Nat) : RowI w base none 0 0 [] := owns_none
theorem RowI.at_ (h : RowI w base A n c xs) {g : Nat} (e : blkOf A = some g) : base ≤ g ∧ ∃ cur, Blk w g 3 cur := by
  rcases h.2 with ⟨hv, _⟩ | ⟨g', cap, cur, hv, hg, hh, _⟩
  · injection hv with hA
    subst hA
    cases e
  · injection hv with hA
    subst hA
    obtain rfl : g' = g := by simpa [blkOf] using e
    exact ⟨hg, cur, hh⟩
theorem RowI.lies (h : RowI w base A n c xs) : Lies .i64 w w.heap.size A n xs := lies_of_owns h
theorem RowI.move (h : RowI w base A n c xs) (hk : ∀ g, blkOf A = some g → w'.heap[g]? = w.heap[g]?) : RowI w' base A n c xs := by
  refine ⟨h.1, ?_⟩
  rcases h.2 with q | ⟨g', cap, cur, hv, hg, hh, r⟩
  · exact .inl q
  · have hv2 := hv
    injection hv with hA
    exact .inr ⟨g', cap, cur, hv2, hg, (hk g' (by rw [hA]; rfl)).trans hh, r⟩
theorem RowI.on (h : RowI w base A n c xs) (hb : Below w.heap.size w w') : RowI w' base A n c xs := h.move fun g e => by
  obtain ⟨_, cur, hB⟩ := h.at_ e
  exact hb.block g hB.lt
/-- A store into a block of another type. -/
theorem RowI.far (h : RowI w base A n c xs) {g0 i : Nat} {t : TypeId} {cs : Array Value} (hB : Blk w g0 t cs) (ht : t ≠ 3) (u : Value) : RowI (w.setCell ⟨g0, i, none⟩ u) base A n c xs := h.move fun g e => by
  obtain ⟨_, cur, hC⟩ := h.at_ e
  exact Below.heap_setCell w ⟨g0, i, none⟩ u g (hC.ne hB (fun e => ht e.symm))
/-- Another row was pushed onto. -/
theorem RowI.beside {w2 : World} (h : RowI w base B n c xs) (hb : Below w.heap.size w w2) (hg : w2.grownBy w' (blkOf A)) (hap : ApB A B) : RowI w' base B n c xs := (h.on hb).move fun g e => by
  obtain ⟨_, cur, hB⟩ := (h.on hb).at_ e
  exact hg.block g hB.lt (fun q => hap g q.symm e)
theorem ApB.symm_ (h : ApB A B) : ApB B A := fun g e q => h g q e
theorem ApB.none_ (B : Option Addr) : ApB none B := fun g e => by cases e
theorem ApB.push {w2 : World} {A' : Option Addr} (hap : ApB A B) (h : RowI w base B n c xs) (hb : Below w.heap.size w w2) (hA : blkOf A' = blkOf A ∨ blkOf A' = some w2.heap.size) : ApB A' B := fun g e q => by
  rcases hA with r | r
  · exact hap g (r.symm.trans e) q
  · obtain ⟨_, cur, hB⟩ := h.at_ q
    have := hB.lt
    have := hb.size
    rw [r] at e
    injection e with e
    omega
theorem blk_grown {w2 : World} {g : Nat} {t : TypeId} {cs : Array Value} (hB : Blk w2 g t cs) (h : RowI w2 base A n c xs) (ht : t ≠ 3) (hg : w2.grownBy w' (blkOf A)) : Blk w' g t cs :=
  (hg.block g hB.lt (fun e => by
    obtain ⟨_, cur, hC⟩ := h.at_ e.symm
    exact hB.ne hC ht rfl)).trans hB
end
/-- Three rows apart, behind a world. -/
structure Tr (u w : World) (A : Option Addr) (n c : Nat) (xs : List Int) (B : Option Addr) (m d : Nat) (ys : List Int) (C : Option Addr) (k e : Nat) (zs : List Int) : Prop where
  below : Below u.heap.size u w
  a : RowI w u.heap.size A n c xs
  b : RowI w u.heap.size B m d ys
  c : RowI w u.heap.size C k e zs
  ab : ApB A B
  ac : ApB A C
  bc : ApB B C
section
variable {u w w2 w' : World} {A B C A' : Option Addr} {n c m d k e n' c' : Nat} {xs ys zs xs' : List Int}
theorem Tr.on (h : Tr u w A n c xs B m d ys C k e zs) (hb : Below w.heap.size w w') : Tr u w' A n c xs B m d ys C k e zs := ⟨below_then h.below hb, h.a.on hb, h.b.on hb, h.c.on hb, h.ab, h.ac, h.bc⟩
theorem Tr.swap (h : Tr u w A n c xs B m d ys C k e zs) : Tr u w B m d ys A n c xs C k e zs := ⟨h.below, h.b, h.a, h.c, h.ab.symm_, h.bc, h.ac⟩
theorem Tr.turn (h : Tr u w A n c xs B m d ys C k e zs) : Tr u w C k e zs B m d ys A n c xs := ⟨h.below, h.c, h.b, h.a, h.bc.symm_, h.ac.symm_, h.ab.symm_⟩
theorem Tr.push (h : Tr u w A n c xs B m d ys C k e zs) (hb : Below w.heap.size w w2) (hr : w'.ownsRow u.heap.size 3 1 (.slice A' n' c') n' (xs'.map (Value.int .i64))) (hg : w2.grownBy w' (blkOf A)) (hA : blkOf A' = blkOf A ∨ blkOf A' = some w2.heap.size) :
    Tr u w' A' n' c' xs' B m d ys C k e zs :=
  ⟨(below_then h.below hb).grown hg (Nat.le_trans h.below.size hb.size) (fun _ q => (h.a.at_ q).1), hr, h.b.beside hb hg h.ab, h.c.beside hb hg h.ac, h.ab.push h.b hb hA, h.ac.push h.c hb hA, h.bc⟩
theorem Tr.push1 (h : Tr u w A n c xs B m d ys C k e zs) {y : Int} (hb : Below w.heap.size w w2) (hr : w'.ownsRow u.heap.size 3 1 (.slice A' n' c') n' (xs.map (Value.int .i64) ++ [.int .i64 y])) (hg : w2.grownBy w' (blkOf A)) (hA : blkOf A' = blkOf A ∨ blkOf A' = some w2.heap.size) :
    Tr u w' A' n' c' (xs ++ [y]) B m d ys C k e zs := h.push hb (by rw [List.map_append]; exact hr) hg hA
theorem Tr.push2 (h : Tr u w A n c xs B m d ys C k e zs) {ns : List Int} (hb : Below w.heap.size w w2) (hr : w'.ownsRow u.heap.size 3 1 (.slice A' n' c') n' (xs.map (Value.int .i64) ++ ns.map (Value.int .i64))) (hg : w2.grownBy w' (blkOf A)) (hA : blkOf A' = blkOf A ∨ blkOf A' = some w2.heap.size) :
    Tr u w' A' n' c' (xs ++ ns) B m d ys C k e zs := h.push hb (by rw [List.map_append]; exact hr) hg hA
theorem Tr.far (h : Tr u w A n c xs B m d ys C k e zs) {g0 i : Nat} {t : TypeId} {cs : Array Value} (hB : Blk w g0 t cs) (ht : t ≠ 3) (hu : u.heap.size ≤ g0) (v : Value) : Tr u (w.setCell ⟨g0, i, none⟩ v) A n c xs B m d ys C k e zs :=
  ⟨h.below.setCell hu v, h.a.far hB ht v, h.b.far hB ht v, h.c.far hB ht v, h.ab, h.ac, h.bc⟩
/-- The second row is let go. -/
theorem Tr.fresh (h : Tr u w A n c xs B m d ys C k e zs) : Tr u w A n c xs none 0 0 [] C k e zs := ⟨h.below, h.a, RowI.none_ _ _, h.c, (ApB.none_ _).symm_, h.ac, ApB.none_ _⟩
theorem Tr.start (u : World) : Tr u u none 0 0 [] none 0 0 [] none 0 0 [] := ⟨Below.refl _ _, RowI.none_ _ _, RowI.none_ _ _, RowI.none_ _ _, ApB.none_ _, ApB.none_ _, ApB.none_ _⟩
end
theorem step_append_num {P : Program} {ops : Array Oper} {o : Oper} {a : Act} {w : World} {K : Act → World → Prop} {Q : Exit → Act → World → Prop} {E : Prop} (hgd : o.guard = none) (s x : Operand) (t : TypeId)
    (ho : o.op = .call { callee := .builtin .append, args := #[s, x], argTypes := #[t, t] })
    (base : Nat) (e : TypeId) (i : TypeInfo) (z : Value) (bytes : Nat) (ht : P.underlying t = some (.slice e)) (hi : P.info? e = some i) (hz : i.zero = some z)
    (hsize : i.size = 1) (hby : i.bytes = bytes) (hzs : z.cells.size = 1)
    (A : Option Addr) (n c : Nat) (xs : List Int) (hs : a.eval s = .slice A n c) (hown : w.ownsRow base e 1 (.slice A n c) n (xs.map (Value.int .i64)))
    (B : Option Addr) (m d : Nat) (ys : List Int) (hx : a.eval x = .slice B m d) (hr : Lies .i64 w w.heap.size B m ys) (N : Nat) (hN : n + m = N) (h63 : N ≤ maxLen) (hbytes : N * bytes ≤ 140737488355328) (hbase : base ≤ w.heap.size)
    (h : ∀ A' c' w', w'.ownsRow base e 1 (.slice A' N c') N ((xs ++ ys).map (Value.int .i64)) → w.grownBy w' (blkOf A) → (blkOf A' = blkOf A ∨ blkOf A' = some w.heap.size) → K (a.put o.dst (.slice A' N c')) w') :
    if Region.wanted o (yielded ops a.tmps) = true then Oper.wp P o a w K Q else E := by
  have hw : Region.wanted o (yielded ops a.tmps) = true := by simp [Region.wanted, hgd]
  rw [if_pos hw]
  subst hN
  obtain ⟨A', c', w', hrun, h2, h3, h4⟩ := run_append_lies (P := P) w base t o.type e i z bytes ht hi hz hsize hby hzs .i64 (.slice A n c) n xs hown B m d ys hr h63 hbytes hbase
  rw [own_blk, own_blk] at h4
  rw [own_blk] at h3
  unfold Oper.wp
  simp only [execOp, ho, resolve, invoke, builtin, Sem.run_bind, Sem.run_pure, Result.andThen_ok, List.map_toArray, List.map_cons, List.map_nil, hs, hx, hrun]
  exact h A' c' w' h2 h3 h4
/-- One number in a block just made. -/
theorem one_lies (w : World) (y : Int) : Lies .i64 (w.alloc (.cells #[.int .i64 y] 3)) (w.alloc (.cells #[.int .i64 y] 3)).heap.size (some ⟨w.heap.size, 0, none⟩) 1 [y] := Lies.new w 3 .i64 [y] 1 rfl _ rfl
/-- The turned config may be just if it might. -/
theorem turned_new (c : Cf) (A B : Option Addr) (p q : Nat) (k : Int) (hk : 0 ≤ k ∧ k < c.N) (hl : c.P.length = c.pn) (hN : ∀ a ∈ c.P, 0 ≤ a ∧ a < c.N) (hs : c.P.Pairwise (· < ·)) :
    newE { c with pA := A, pc := p, sA := B, sc := q, P := lowM c.N k c.P ++ highM c.N k c.P, S := c.S.map (posM (ordM c.N k c.P)) } = 0 ↔ newE c = 0 := by
  rw [newE_ok, newE_ok]
  have h1 := turned_ok hk hN hs
  have h2 := slots_turned (S := c.S) (n := c.pn) (O := ordM c.N k c.P) (by rw [ordM_len, hl]) (fun s => by rw [ordM_mem, hl]) (ordM_nodup _ _ _)
  constructor
  · rintro ⟨a0, a1, a2, a3, a4, a5, a6, a7, a8, a9⟩
    exact ⟨a0, a1, h1.1 a2, a3, h2.1 a4, a5, a6, a7, a8, a9⟩
  · rintro ⟨a0, a1, a2, a3, a4, a5, a6, a7, a8, a9⟩
    exact ⟨a0, a1, h1.2 a2, a3, h2.2 a4, a5, a6, a7, a8, a9⟩
end Go.Proofs.YtibniadebbgjcaaDoor
