/- The places of patterns in a tree, told one by one by the program: an iterator that ranges over an iterator. -/
import Derived.Test.YtlmedcmheninaaaVisT
import Derived.Test.YtlmedcmheninaaaRangeB
import Derived.Test.YtlmedcmheninaaaPatI
namespace Go.Proofs.Ytlmedcmheninaaa
open Go.RowKit Go.Shelf

attribute [local go_sem] Oper.semAt_some

/-- A scope through which the run goes without a goto. -/
theorem wpIn_scope_w {n : Nat} {P : Program} {c : Code} {Q : Exit → Act → World → Prop} {a : Act} {w : World} (h : c.wpIn Fence.wide n P (Exit.noGoto Q) a w) : (Code.scope c).wpIn Fence.wide n P Q a w :=
  (wpIn_wide (n := n)).2 (wp_scope_straight ((wpIn_wide (n := n)).1 h))

set_option maxHeartbeats 1000000 in
theorem standings_any (gp np cp : Nat) (ty : TypeId) (a : Addr) (w : World) :
    Calls Try.prog 85 #[.slice (some ⟨gp, 0, none⟩) np cp, .iface ty (.pointer (some a))] w fun e w' =>
      e = .returned (.func (.func 129) #[] #[.pointer (some ⟨w.heap.size + 1, 0, none⟩), .pointer (some ⟨w.heap.size, 0, none⟩)]) ∧
      w' = (w.alloc (.cells #[.slice (some ⟨gp, 0, none⟩) np cp] 126 (0, 0))).alloc (.cells #[.iface ty (.pointer (some a))] 91 (0, 0)) := by
  go_enter Try.func85, Try.ntmps85
  go_wp2_with fail
  go_returns
  exact ⟨by simp, rfl⟩

/-- A place as a round is handed it. -/
structure StA where
  i : Nat
  at' : Nat
  g : Nat
  cap : Nat
  ts : List T

def StA.key (x : StA) : Pl := (x.i, x.at', x.ts)
def StA.enc (x : StA) : Array Value := #[.agg #[.int .i64 x.i, .int .i64 x.at', .slice (some ⟨x.g, 0, none⟩) x.ts.length x.cap]]
/-- The parts lie there, and they are small trees. -/
def StA.X (x : StA) (W : World) : Prop := Rd trI W (fun _ => True) (some ⟨x.g, 0, none⟩) x.ts ∧ x.ts.length ≤ x.cap ∧ x.cap ≤ 9223372036854775807 ∧ ∃ p q : T, p.wf ∧ q.wf ∧ p.leaves ≤ 100 ∧ q.leaves ≤ 12 ∧ q.nodes ≤ 16 ∧ p.partsOf q = some x.ts

theorem stRow_length (ps : List T) (x : T) (a k : Nat) : (stRow ps x a k).length ≤ k := by
  rw [stRow]; exact Nat.le_trans (List.length_filterMap_le _ _) (by simp)
theorem stUp_length (ps : List T) : ∀ (xs : List T) (a : Nat), (stUp ps xs a).length ≤ xs.length * ps.length
  | [], _ => by simp [stUp]
  | x :: xs, a => by
    have h1 := stRow_length ps x a ps.length
    have h2 := stUp_length ps xs (a + 1)
    rw [stUp, List.length_append, List.length_cons, Nat.add_mul]; omega

/-- The iterator's own cells: yield, the index of the node, the patterns. -/
def StC (l By Ba Bp gp np cp m : Nat) (V : World) : Prop :=
  V.cell? ⟨By, 0, none⟩ = some (.func (.yield l) #[] #[]) ∧ V.cell? ⟨Ba, 0, none⟩ = some (.int .i64 m) ∧ V.frozen? ⟨Ba, 0, none⟩ = false ∧ V.cell? ⟨Bp, 0, none⟩ = some (.slice (some ⟨gp, 0, none⟩) np cp)

/-- The patterns' row. -/
def SP (w0 : World) (n₀ gp : Nat) (ps : List T) (V : World) : Prop := ∀ i (h : i < ps.length), ∃ b, V.cell? ⟨gp, i, none⟩ = some (.pointer (some b)) ∧ (ps[i]).wf ∧ RepI w0 (fun b => b < n₀) (ps[i]) 120 b

theorem SP.keep {w0 : World} {n₀ gp : Nat} {ps : List T} {A C : World} (h : SP w0 n₀ gp ps A) (hk : ps ≠ [] → gp < A.heap.size → C.heap[gp]? = A.heap[gp]?) : SP w0 n₀ gp ps C := fun i hi => by
  obtain ⟨b, c, h1, h2⟩ := h i hi
  have hlt := World.block_lt_of_cell? A ⟨gp, i, none⟩ c
  exact ⟨b, (World.cell?_of_block (w := A) (by exact hk (fun e => by subst e; simp at hi) hlt)).trans c, h1, h2⟩

theorem SP.lt {w0 : World} {n₀ gp : Nat} {ps : List T} {A : World} (h : SP w0 n₀ gp ps A) (hne : ps ≠ []) : gp < A.heap.size := by
  obtain ⟨b, c, _, _⟩ := h 0 (List.length_pos_iff.2 hne)
  exact World.block_lt_of_cell? A ⟨gp, 0, none⟩ c

/-- What holds between two rounds. -/
structure StI (l By Ba Bp gp np cp n₀ : Nat) (R : Nat → Prop) (J : List StA → (Nat → Prop) → World → Prop) (w0 : World) (ps : List T) (m : Nat) (sts : List StA) (V : World) : Prop where
  cells : StC l By Ba Bp gp np cp m V
  free : ¬ R By ∧ ¬ R Ba ∧ ¬ R Bp ∧ (ps ≠ [] → ¬ R gp)
  hJ : J sts R V
  below : Below n₀ w0 V
  pats : SP w0 n₀ gp ps V

theorem frozen_same {A C : World} {a : Addr} (h : C.heap[a.block]? = A.heap[a.block]?) : C.frozen? a = A.frozen? a := by
  simp [World.frozen?, h]

theorem StC.blocks {l By Ba Bp gp np cp m : Nat} {A C : World} (h : StC l By Ba Bp gp np cp m A) (h1 : C.heap[By]? = A.heap[By]?) (h2 : C.heap[Ba]? = A.heap[Ba]?) (h3 : C.heap[Bp]? = A.heap[Bp]?) : StC l By Ba Bp gp np cp m C := by
  obtain ⟨c1, c2, c3, c4⟩ := h
  refine ⟨?_, ?_, ?_, ?_⟩
  · rw [World.cell?_of_block (w := A) (by exact h1)]; exact c1
  · rw [World.cell?_of_block (w := A) (by exact h2)]; exact c2
  · rw [frozen_same (A := A) (by exact h2)]; exact c3
  · rw [World.cell?_of_block (w := A) (by exact h3)]; exact c4

theorem StC.lt {l By Ba Bp gp np cp m : Nat} {A : World} (h : StC l By Ba Bp gp np cp m A) : By < A.heap.size ∧ Ba < A.heap.size ∧ Bp < A.heap.size :=
  ⟨World.block_lt_of_cell? A ⟨By, 0, none⟩ h.1, World.block_lt_of_cell? A ⟨Ba, 0, none⟩ h.2.1, World.block_lt_of_cell? A ⟨Bp, 0, none⟩ h.2.2.2⟩

theorem StI.grown {l By Ba Bp gp np cp n₀ C₀ Bin : Nat} {R : Nat → Prop} {J : List StA → (Nat → Prop) → World → Prop} {w0 : World} {ps : List T} {m : Nat} {sts : List StA} {A C : World} {row : Option Nat} (h : StI l By Ba Bp gp np cp n₀ R J w0 ps m sts A)
    (hJ : OwnBut C₀ J) (hC : C₀ ≤ Bin) (hlt : Ba < Bin ∧ By < Bin ∧ Bp < Bin) (hgb : ps ≠ [] → gp < Bin) (hn : n₀ ≤ Bin) (hs : Bin ≤ A.heap.size) (hg : A.grownBy C row) (hr : ∀ r, row = some r → Bin ≤ r ∧ ∃ o : Obj, A.heap[r]? = some o ∧ o.isCells = false) :
    StI l By Ba Bp gp np cp n₀ R J w0 ps m sts C := by
  have hb : Below Bin A C := (Below.refl Bin A).grown hg hs (fun k e => (hr k e).1)
  exact ⟨h.cells.blocks (hb.block _ (by omega)) (hb.block _ (by omega)) (hb.block _ (by omega)), h.free, hJ sts R A C row h.hJ hg (fun r e => ⟨by have := (hr r e).1; omega, .inr (hr r e).2⟩), h.below.trans (hb.mono hn), h.pats.keep (fun hne _ => hb.block _ (hgb hne))⟩

theorem StI.later {l By Ba Bp gp np cp n₀ C₀ : Nat} {R : Nat → Prop} {J : List StA → (Nat → Prop) → World → Prop} {w0 : World} {ps : List T} {m : Nat} {sts : List StA} {A C : World} (h : StI l By Ba Bp gp np cp n₀ R J w0 ps m sts A)
    (hJ : OwnBut C₀ J) (hn : n₀ ≤ A.heap.size) (hb : Below A.heap.size A C) : StI l By Ba Bp gp np cp n₀ R J w0 ps m sts C := by
  have hlt := h.cells.lt
  exact ⟨h.cells.blocks (hb.block _ hlt.1) (hb.block _ hlt.2.1) (hb.block _ hlt.2.2), h.free, hJ.below h.hJ hb, h.below.trans (hb.mono hn), h.pats.keep (fun _ hlt => hb.block _ hlt)⟩

/-- Behind a round of the outer loop. -/
theorem StI.round {l By Ba Bp gp np cp n₀ : Nat} {R R' : Nat → Prop} {J : List StA → (Nat → Prop) → World → Prop} {w0 : World} {ps : List T} {m : Nat} {sts sts' : List StA} {A C : World} (h : StI l By Ba Bp gp np cp n₀ R J w0 ps m sts A)
    (hl : By ≠ l ∧ Ba ≠ l ∧ Bp ≠ l ∧ (ps ≠ [] → gp ≠ l)) (hj : J sts' R' C) (hb : Below n₀ A C) (hk : RKeep l R R' A C) : StI l By Ba Bp gp np cp n₀ R' J w0 ps m sts' C := by
  have hlt := h.cells.lt
  refine ⟨h.cells.blocks (hk.keep _ hlt.1 hl.1 h.free.1) (hk.keep _ hlt.2.1 hl.2.1 h.free.2.1) (hk.keep _ hlt.2.2 hl.2.2.1 h.free.2.2.1), ?_, hj, h.below.trans hb, h.pats.keep (fun hne hg => hk.keep _ hg (hl.2.2.2 hne) (h.free.2.2.2 hne))⟩
  exact ⟨fun e => h.free.1 (hk.row _ hlt.1 e), fun e => h.free.2.1 (hk.row _ hlt.2.1 e), fun e => h.free.2.2.1 (hk.row _ hlt.2.2 e), fun hne e => h.free.2.2.2 hne (hk.row _ (h.pats.lt hne) e)⟩

/-- The index of the node goes on. -/
theorem StI.next {l By Ba Bp gp np cp n₀ C₀ : Nat} {R : Nat → Prop} {J : List StA → (Nat → Prop) → World → Prop} {w0 : World} {ps : List T} {m : Nat} {sts : List StA} {A : World} (h : StI l By Ba Bp gp np cp n₀ R J w0 ps m sts A)
    (hJ : OwnBut C₀ J) (hC : C₀ ≤ Ba) (hn : n₀ ≤ Ba) (hne : By ≠ Ba ∧ Bp ≠ Ba) (hgne : ps ≠ [] → gp ≠ Ba) : StI l By Ba Bp gp np cp n₀ R J w0 ps (m + 1) sts (A.setCell ⟨Ba, 0, none⟩ (.int .i64 ((m : Int) + 1))) := by
  have hlt := h.cells.lt
  have hg := grownBy_setCell' A Ba (.int .i64 ((m : Int) + 1))
  have hbl : ∀ k, k < A.heap.size → k ≠ Ba → (A.setCell ⟨Ba, 0, none⟩ (.int .i64 ((m : Int) + 1))).heap[k]? = A.heap[k]? := fun k hk hne => hg.block k hk (fun e => hne (by cases e; rfl))
  have hb : Below Ba A (A.setCell ⟨Ba, 0, none⟩ (.int .i64 ((m : Int) + 1))) := (Below.refl Ba A).setCell (p := ⟨Ba, 0, none⟩) (Nat.le_refl _) _
  obtain ⟨c1, c2, c3, c4⟩ := h.cells
  refine ⟨⟨?_, ?_, ?_, ?_⟩, h.free, hJ sts R A _ (some Ba) h.hJ hg (fun r e => by cases e; exact ⟨hC, .inl h.free.2.1⟩), h.below.trans (hb.mono hn), h.pats.keep (fun h1 h2 => hbl gp h2 (hgne h1))⟩
  · rw [World.cell?_of_block (w := A) (by exact hbl By hlt.1 hne.1)]; exact c1
  · rw [show ((m + 1 : Nat) : Int) = (m : Int) + 1 by omega]; exact World.cell?_setCell_same' _ _ _ (by rw [c2]; rfl)
  · rw [World.frozen?_setCell]; exact c3
  · rw [World.cell?_of_block (w := A) (by exact hbl Bp hlt.2.2 hne.2)]; exact c4

set_option maxRecDepth 100000 in
set_option maxHeartbeats 4000000 in
theorem standings_stops (n : Nat) (hn : 6 ≤ n) (Bt Bp : Nat) (w0 w : World) (n₀ Br B : Nat) (ps : List T) (t : T) (np gp cp : Nat) (hnp : np = ps.length) (hn100 : np ≤ 100) (ty : TypeId) (a : Addr)
    (hps : SP w0 n₀ gp ps w) (hgBr : Br ≤ gp) (hpb : ∀ p ∈ ps, p.leaves ≤ 100) (htw : t.wf) (htl : t.leaves ≤ 12 ∧ t.nodes ≤ 16) (hrt : RepI w0 (fun b => b < n₀) t ty a)
    (hBt : w.cell? ⟨Bt, 0, none⟩ = some (.iface ty (.pointer (some a)))) (hBp : w.cell? ⟨Bp, 0, none⟩ = some (.slice (some ⟨gp, 0, none⟩) np cp)) (hw0 : w0.heap.size = n₀) (hb : Below n₀ w0 w) (hBB : w.heap.size ≤ B) (hBr : Br ≤ Bp) :
    SeqStopsB Fence.wide n Try.prog 129 #[.pointer (some ⟨Bt, 0, none⟩), .pointer (some ⟨Bp, 0, none⟩)] StA.enc n₀ Br StA.X (fun ys => ys.map StA.key = stAll ps t) (fun pre => pre.map StA.key <+: stAll ps t) (16 * np) B w := by
  intro l J Jx W R0 hBl hlW hW hJ hJx hRr hY h0
  have hn₀w : n₀ ≤ w.heap.size := by have := hb.size; omega
  have hwW : w.heap.size ≤ W.heap.size := hW.size
  have hBpw : Bp < w.heap.size := World.block_lt_of_cell? w ⟨Bp, 0, none⟩ hBp
  have hBtw : Bt < w.heap.size := World.block_lt_of_cell? w ⟨Bt, 0, none⟩ hBt
  have hBtW : Bt < W.heap.size := by omega
  have hbW : Below n₀ w0 W := hb.trans (hW.mono hn₀w)
  have ct : W.cell? ⟨Bt, 0, none⟩ = some (.iface ty (.pointer (some a))) := (hW.cell (p := ⟨Bt, 0, none⟩) hBtw).trans hBt
  have cp0 : W.cell? ⟨Bp, 0, none⟩ = some (.slice (some ⟨gp, 0, none⟩) np cp) := (hW.cell (p := ⟨Bp, 0, none⟩) hBpw).trans hBp
  refine callsIn_of_wp_marks Try.func129 rfl trivial ?_ rfl
  simp only [Try.ntmps129, List.size_toArray, List.length_cons, List.length_nil, Nat.reduceAdd, Nat.reduceSub, Array.replicate_succ, Array.replicate_zero, List.push_toArray, List.append_toArray, List.nil_append, List.cons_append]
  have HY := Lib.hid hY
  have HRr := Lib.hid hRr
  have HJ := Lib.hid hJ
  have HJx := Lib.hid hJx
  have HPS := Lib.hid (hps.keep (fun _ h => hW.block _ h))
  have HPB := Lib.hid hpb
  have HGW : Hid (ps ≠ [] → gp < w.heap.size) := Lib.hid (fun hne => hps.lt hne)
  have HRT := Lib.hid hrt
  have HBW := Lib.hid hbW
  have H0 := Lib.hid h0
  have HNP := Lib.hid hnp
  have HCP := Lib.hid cp0
  clear hY hRr hJ hJx hps hpb hrt hbW hW h0 hb hnp hBt hBp cp0
  gi_wp2
  refine wpIn_scope_w ?_
  gi_wp2
  refine wpIn_label ?_
  gi_wp2_with (refine ⟨trivial, fun _ => (by omega), ?_⟩; gi_at_call 130; refine (nodesOf_in Fence.wide _ trivial rfl _ _ _).mono ?_; rintro e w' ⟨rfl, rfl⟩)
  have d0 := cell_new' W (.func (.yield l) #[] #[]) 185
  have d1 := cell_new' (W.alloc (.cells #[.func (.yield l) #[] #[]] 185)) (.int .i64 0) 3
  have d2 := cell_new' ((W.alloc (.cells #[.func (.yield l) #[] #[]] 185)).alloc (.cells #[.int .i64 0] 3)) (.iface ty (.pointer (some a))) 91
  simp only [World.size_alloc] at d1 d2
  have hB0 : Below W.heap.size W (((W.alloc (.cells #[.func (.yield l) #[] #[]] 185)).alloc (.cells #[.int .i64 0] 3)).alloc (.cells #[.iface ty (.pointer (some a))] 91)) := (((Below.refl _ W).alloc (Nat.le_refl _) _).alloc (by simp) _).alloc (by simp; omega) _
  have hsz : (((W.alloc (.cells #[.func (.yield l) #[] #[]] 185)).alloc (.cells #[.int .i64 0] 3)).alloc (.cells #[.iface ty (.pointer (some a))] 91)).heap.size = W.heap.size + 3 := by simp
  have cells0 : StC l W.heap.size (W.heap.size + 1) Bp gp np cp 0 (((W.alloc (.cells #[.func (.yield l) #[] #[]] 185)).alloc (.cells #[.int .i64 0] 3)).alloc (.cells #[.iface ty (.pointer (some a))] 91)) :=
    ⟨cell_alloc' _ (cell_alloc' _ d0.1), cell_alloc' _ d1.1, frozen_alloc' _ d1.1 d1.2, cell_alloc' _ (cell_alloc' _ (cell_alloc' _ HCP.out))⟩
  obtain ⟨W0, hW0⟩ : ∃ W0, ((W.alloc (.cells #[.func (.yield l) #[] #[]] 185)).alloc (.cells #[.int .i64 0] 3)).alloc (.cells #[.iface ty (.pointer (some a))] 91) = W0 := ⟨_, rfl⟩
  rw [hW0] at d2 hB0 hsz cells0 ⊢
  clear hW0 d0 d1
  have inv0 : StI l W.heap.size (W.heap.size + 1) Bp gp np cp n₀ R0 J w0 ps 0 [] W0 := by
    refine ⟨cells0, ⟨fun e => ?_, fun e => ?_, fun e => ?_, fun _ e => ?_⟩, HJ.out.below H0.out hB0, HBW.out.trans (hB0.mono (by omega)), HPS.out.keep (fun _ h => hB0.block _ h)⟩
    · have := HRr.out _ e; omega
    · have := HRr.out _ e; omega
    · have := HRr.out _ e; omega
    · have := HRr.out _ e; omega
  have HINV0 := Lib.hid inv0
  obtain ⟨xs, hxk, hv⟩ := visitT_any w0 (fun b => b < n₀) n₀ (fun _ h => h) _ t ty a (Nat.le_refl _) htw htl HRT.out
  have HXK := Lib.hid hxk
  have hxl : xs.length ≤ 16 := by
    have h1 : (xs.map NodeT.t).length = t.subs.length := by rw [hxk]
    rw [List.length_map, subs_length] at h1; omega
  clear cells0 inv0 hxk
  refine wpIn_rangeFunc_ownG rfl (by omega) (gf := 156) (lb := #[.pointer (some ⟨W.heap.size + 1 + 1, 0, none⟩)]) rfl trivial (enters_of Try.func156 (by kernel_rfl) rfl)
    (nodesT_stops Fence.wide rfl (n - 1) trivial trivial rfl (W.heap.size + 1 + 1) w0 n₀ xs ty a W0 (by omega) (by omega) (HBW.out.trans (hB0.mono (by omega))) d2.1 hv) belowK_t (belowK_b (by omega)) (Below.refl _ _) (fun _ => rfl)
    (fun pre V => ∃ sts R, sts.map StA.key = stUp ps (pre.map NodeT.t) 0 ∧ StI l W.heap.size (W.heap.size + 1) Bp gp np cp n₀ R J w0 ps pre.length sts V ∧ W0.heap.size ≤ V.heap.size)
    (fun c pre V => c = .exit 0 ∧ ∃ pre' x i sts, pre = pre' ++ [x] ∧ i ≤ np ∧ sts.map StA.key = stUp ps (pre'.map NodeT.t) 0 ++ stRow ps x.t pre'.length i ∧ Jx sts V)
    (fun pre A C row hs hg hr => by
      obtain ⟨sts, R, h1, h2, h3⟩ := hs
      exact ⟨sts, R, h1, h2.grown HJ.out (by omega) (by omega) (fun hne => by have := HGW.out hne; omega) (by omega) h3 hg hr, Nat.le_trans h3 hg.size⟩)
    (fun c pre A C row hs hg hr => by
      obtain ⟨h1, pre', x, i, sts, h2, h3, h4, h5⟩ := hs
      exact ⟨h1, pre', x, i, sts, h2, h3, h4, HJx.out sts A C row h5 hg (fun r e => ⟨by have := (hr r e).1; omega, (hr r e).2⟩)⟩)
    ⟨[], R0, rfl, HINV0.out, Nat.le_refl _⟩
    (fun x => { tmps := #[.func (.yield l) #[] #[], .pointer (some ⟨Bt, 0, none⟩), .pointer (some ⟨Bp, 0, none⟩), .pointer (some ⟨W.heap.size, 0, none⟩), .pointer (some ⟨W.heap.size + 1, 0, none⟩), .pointer (some ⟨x.b, 0, none⟩), undef, undef, undef, undef, .iface ty (.pointer (some a)), .func (.func 156) #[] #[.pointer (some ⟨W.heap.size + 1 + 1, 0, none⟩)], .pointer (some ⟨x.b, 0, none⟩), undef, undef, undef, undef, undef, undef, undef, undef, undef, undef, undef, undef, undef, undef, undef, undef, undef, undef, undef, undef, undef, undef, undef, undef, undef, undef, undef, undef], defers := [] }) ?assign ?body ?done ?stop
  case assign =>
    intro l2 x V K hK
    gi_wp2
    exact hK
  case body =>
    rintro l2 pre x V ⟨sts, R, hsts, hi, hsV⟩ hlen
    have HSTS := Lib.hid hsts
    have HI := Lib.hid hi
    have cP := hi.cells.2.2.2
    have hplen : pre.length < 16 := by omega
    clear hsts hi hv
    gi_wp2
    gi_loopw [15] (fun iv wr => ∃ (i : Nat) (st2 : List StA) (R : Nat → Prop), i ≤ np ∧ iv = .int .i64 i ∧ st2.map StA.key = stUp ps (pre.map NodeT.t) 0 ++ stRow ps x.t pre.length i ∧ StI l W.heap.size (W.heap.size + 1) Bp gp np cp n₀ R J w0 ps pre.length st2 wr ∧ W0.heap.size ≤ wr.heap.size ∧ Below n₀ V wr ∧ KeepsFrom W0.heap.size V wr) (fun iv _ => np - (intOf iv).toNat)
    case atStart => exact ⟨0, sts, R, Nat.zero_le _, rfl, by rw [stRow_zero, List.append_nil]; exact HSTS.out, HI.out, hsV, Below.refl _ _, KeepsFrom.refl _ _⟩
    case round =>
      obtain ⟨i, st2, R2, hik, rfl, hst2, hi2, hs2, hb2, hk2⟩ := hrel
      have HST2 := Lib.hid hst2
      have HI2 := Lib.hid hi2
      have HB2 := Lib.hid hb2
      have HK2 := Lib.hid hk2
      clear hst2 hb2 hk2
      by_cases hlt : i < np
      · have hip : i < ps.length := by rw [← HNP.out]; exact hlt
        obtain ⟨b, c1, hpw, hrp⟩ := hi2.pats i hip
        have hpl := HPB.out (ps[i]) (List.getElem_mem hip)
        obtain ⟨p, hp⟩ : ∃ p, p = ps[i] := ⟨_, rfl⟩
        rw [← hp] at hpw hrp hpl
        have HP := Lib.hid hp
        have hnwr : n₀ ≤ wr.heap.size := by omega
        have HM := Lib.hid (partsAt_any p x.t 120 120 b ⟨x.b, 0, none⟩ wr hpw x.hw (by omega) ((hrp.belowB hpw hi2.below).keep (fun _ _ _ h => h) (fun b h _ => by omega) hpw) ((x.rep.belowB x.hw hi2.below).keep (fun _ _ _ h => h) (fun b h _ => by omega) x.hw))
        have HPW := Lib.hid hpw
        clear hrp hp hi2 hpw
        gi_wp2_with (fail)
        refine ⟨trivial, fun _ => (by omega), ?_⟩
        refine (CallsIn.inRound l2 (callsIn_wide.2 HM.out)).mono ?_
        rintro e w1 ⟨hB1, ⟨hno, rfl⟩ | ⟨ts, g, c, hyes, rfl, hle, hcm, hgl, hrd⟩⟩
        · have HN : Hid (stRow ps x.t pre.length (i + 1) = stRow ps x.t pre.length i) := Lib.hid (by
            rw [stRow_succ, stOf_none hip (by rw [← HP.out]; exact hno)]; simp)
          have HB1 := Lib.hid hB1
          have hs1 := hB1.size
          clear hno hB1
          gi_wp2
          refine ⟨fun _ h => (by cases h), ?_⟩
          gi_wp2
          go_roundw
          case rel => exact ⟨i + 1, st2, R2, by omega, by go_num, by rw [HN.out]; exact HST2.out, HI2.out.later HJ.out (by omega) HB1.out, by omega, HB2.out.trans (HB1.out.mono (by omega)), HK2.out.trans ⟨HB1.out.size, fun k o _ hk _ => (HB1.out.block k (Array.getElem?_eq_some_iff.1 hk).1).trans hk⟩⟩
          case measure => simp [intOf]; omega
        · have HN : Hid (stRow ps x.t pre.length (i + 1) = stRow ps x.t pre.length i ++ [(i, pre.length, ts)]) := Lib.hid (by
            rw [stRow_succ, stOf_some hip (by rw [← HP.out]; exact hyes)]; rfl)
          have hi3 := HI2.out.later HJ.out (by omega) hB1
          have cY := hi3.cells.1
          have cA := hi3.cells.2.1
          have hs1 := hB1.size
          have hlen2 : st2.length < 16 * np := by
            have h1 : (st2.map StA.key).length = (stUp ps (pre.map NodeT.t) 0 ++ stRow ps x.t pre.length i).length := by rw [HST2.out]
            rw [List.length_map, List.length_append] at h1
            have h2 := stUp_length ps (pre.map NodeT.t) 0
            have h3 := stRow_length ps x.t pre.length i
            rw [List.length_map, ← HNP.out] at h2
            have h4 : (pre.length + 1) * np ≤ 16 * np := Nat.mul_le_mul_right np (by omega)
            rw [Nat.add_mul] at h4
            omega
          obtain ⟨fn, tmps, assign, body, hy, hR⟩ := HY.out st2 R2 ⟨i, pre.length, g, c, ts⟩ w1 hi3.hJ ⟨Rd.of_inn hrd, hle, hcm, p, x.t, HPW.out, x.hw, by omega, x.hs.1, x.hs.2, hyes⟩ hlen2
          dsimp only [StA.enc] at hy
          have HI3 := Lib.hid hi3
          have HB1 := Lib.hid hB1
          have HK1 : Hid (KeepsFrom W0.heap.size V w1) := Lib.hid (HK2.out.trans ⟨HB1.out.size, fun k o _ hk _ => (HB1.out.block k (Array.getElem?_eq_some_iff.1 hk).1).trans hk⟩)
          clear hi3 hB1 hyes hrd
          gi_wp2
          refine ⟨fun _ => (by omega), ?_⟩
          refine (show RoundIn (Fence.wide.inRound l2) _ _ _ _ _ _ _ _ _ from round_any rfl hR).mono ?_
          clear hR
          rintro e w3 (⟨rfl, R3, hJ3, hb3, hk3, hkb3⟩ | ⟨rfl, hJx3, hkb3⟩)
          · have HREL : Hid (((st2 ++ [(⟨i, pre.length, g, c, ts⟩ : StA)]).map StA.key = stUp ps (pre.map NodeT.t) 0 ++ stRow ps x.t pre.length (i + 1)) ∧ StI l W.heap.size (W.heap.size + 1) Bp gp np cp n₀ R3 J w0 ps pre.length (st2 ++ [⟨i, pre.length, g, c, ts⟩]) w3 ∧ W0.heap.size ≤ w3.heap.size ∧ Below n₀ V w3 ∧ KeepsFrom W0.heap.size V w3) :=
              Lib.hid ⟨by rw [List.map_append, HST2.out, HN.out, List.append_assoc]; rfl, HI3.out.round ⟨by omega, by omega, by omega, fun hne => by have := HGW.out hne; omega⟩ hJ3 hb3 hk3, by have := hb3.size; omega, (HB2.out.trans (HB1.out.mono (by omega))).trans hb3, HK1.out.trans (hkb3.from (by omega) (by omega))⟩
            clear hJ3 hb3 hk3 hkb3
            gi_wp2
            go_roundw
            case rel => exact ⟨i + 1, st2 ++ [⟨i, pre.length, g, c, ts⟩], R3, by omega, by go_num, HREL.out⟩
            case measure => simp [intOf]; omega
          · have HX : Hid (KeepsFrom W0.heap.size V w3 ∧ (∃ pre' x' i' sts', pre ++ [x] = pre' ++ [x'] ∧ i' ≤ np ∧ sts'.map StA.key = stUp ps (pre'.map NodeT.t) 0 ++ stRow ps x'.t pre'.length i' ∧ Jx sts' w3)) :=
              Lib.hid ⟨HK1.out.trans (hkb3.from (by omega) (by omega)), pre, x, i + 1, st2 ++ [⟨i, pre.length, g, c, ts⟩], rfl, by omega, by rw [List.map_append, HST2.out, HN.out, List.append_assoc]; rfl, hJx3⟩
            clear hJx3 hkb3
            gi_wp2
            exact ⟨HX.out.1, rfl, HX.out.2⟩
      · have hin : i = np := by omega
        subst hin
        have cA := HI2.out.cells.2.1
        have fA := HI2.out.cells.2.2.1
        have HREL : Hid (KeepsFrom W0.heap.size V (wr.setCell ⟨W.heap.size + 1, 0, none⟩ (.int .i64 ((pre.length : Int) + 1))) ∧ Below n₀ V (wr.setCell ⟨W.heap.size + 1, 0, none⟩ (.int .i64 ((pre.length : Int) + 1))) ∧ ∃ sts' R', sts'.map StA.key = stUp ps ((pre ++ [x]).map NodeT.t) 0 ∧ StI l W.heap.size (W.heap.size + 1) Bp gp i cp n₀ R' J w0 ps (pre ++ [x]).length sts' (wr.setCell ⟨W.heap.size + 1, 0, none⟩ (.int .i64 ((pre.length : Int) + 1))) ∧ W0.heap.size ≤ (wr.setCell ⟨W.heap.size + 1, 0, none⟩ (.int .i64 ((pre.length : Int) + 1))).heap.size) :=
          Lib.hid ⟨HK2.out.trans ((KeepsOthers.setCell _ _ _).from _), HB2.out.trans ((Below.refl n₀ wr).setCell (p := ⟨W.heap.size + 1, 0, none⟩) (by simp; omega) _), st2, R2, by rw [List.map_append, List.map_cons, List.map_nil, stUp_snoc, List.length_map, ← HNP.out]; exact HST2.out, by rw [List.length_append]; exact HI2.out.next HJ.out (by omega) (by omega) (by omega) (fun hne => by have := HGW.out hne; omega), by simp; omega⟩
        clear hi2
        gi_wp2
        exact HREL.out
  case done =>
    rintro D ys V hD rfl ⟨sts, R, h1, h2, h3⟩ hK
    have HE : Hid ((sts.map StA.key = stAll ps t) ∧ J sts R (V.putObj D (.deferred none))) := Lib.hid ⟨by rw [h1, HXK.out]; rfl, HJ.out.putObj _ h2.hJ (by omega) hK rfl⟩
    clear h1 h2
    gi_wp2
    refine ⟨by simp, .inl ⟨_, _, rfl, run_takeDeferred hK, ?_⟩⟩
    refine ⟨_, results_none rfl _ _ _, ⟨_, rfl⟩, .inl ⟨sts, R, HE.out⟩⟩
  case stop =>
    rintro D c pre V hD hpre ⟨rfl, pre', x, i, sts, rfl, hin, hk, hjx⟩ hK
    have HE : Hid ((sts.map StA.key <+: stAll ps t) ∧ Jx sts (V.putObj D (.deferred none))) := Lib.hid ⟨by
      obtain ⟨rest, hrest⟩ := hpre
      rw [hk]
      have h1 : t.subs = pre'.map NodeT.t ++ x.t :: rest.map NodeT.t := by rw [← HXK.out, ← hrest]; simp
      have h2 := stAll_prefix (ps := ps) h1 (i := i) (by rw [← HNP.out]; exact hin)
      rw [List.length_map] at h2
      exact h2, HJx.out.putObj _ hjx (by omega) hK rfl⟩
    clear hk hjx hpre
    gi_wp2
    refine ⟨by simp, .inl ⟨_, _, rfl, run_takeDeferred hK, ?_⟩⟩
    refine ⟨_, results_none rfl _ _ _, ⟨_, rfl⟩, .inr ⟨sts, HE.out⟩⟩
end Go.Proofs.Ytlmedcmheninaaa
