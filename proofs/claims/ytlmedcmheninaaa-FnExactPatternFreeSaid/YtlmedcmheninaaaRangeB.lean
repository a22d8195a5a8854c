/- A range over a function whose iterator ranges over another function itself, and calls the outer loop's yield in the inner loop's rounds: the outer round is known to leave every loop's record alone but its own. -/
import Derived.RangeFuncNested
import Derived.RangeFuncBound
import Derived.RangeFuncCalls
import Derived.RangeFuncLeaves
namespace Go.Proofs.Ytlmedcmheninaaa
open Go Go.RowKit

/-- From block B on, all that is no cells lies as it lay, but for block l. -/
structure KeepsBut (B l : Nat) (W W' : World) : Prop where
  size : W.heap.size ≤ W'.heap.size
  same : ∀ (k : Nat) (o : Obj), B ≤ k → k ≠ l → W.heap[k]? = some o → o.isCells = false → W'.heap[k]? = some o

theorem KeepsBut.of_from {B l : Nat} {W W' : World} (h : KeepsFrom B W W') : KeepsBut B l W W' := ⟨h.size, fun k o hB _ hk ho => h.same k o hB hk ho⟩
theorem KeepsBut.trans {B l : Nat} {X Y Z : World} (h : KeepsBut B l X Y) (k : KeepsBut B l Y Z) : KeepsBut B l X Z := ⟨Nat.le_trans h.size k.size, fun i o hB hne hi ho => k.same i o hB hne (h.same i o hB hne hi ho) ho⟩
theorem KeepsBut.put {B l : Nat} (W : World) (o : Obj) : KeepsBut B l W (W.putObj l o) := ⟨by simp, fun _ _ _ hne hk _ => (World.putObj_heap_other (by omega)).trans hk⟩
/-- A loop that began behind l sees nothing of it. -/
theorem KeepsBut.from {B B' l : Nat} {W W' : World} (h : KeepsBut B l W W') (hB : B ≤ B') (hl : l < B') : KeepsFrom B' W W' := ⟨h.size, fun k o hk h0 ho => h.same k o (by omega) (by omega) h0 ho⟩

/-- What a round leaves alone: all blocks but its loop's record and those of R (the caller's own rows); no other block of before comes to R'. -/
structure RKeep (l : Nat) (R R' : Nat → Prop) (W W' : World) : Prop where
  keep : ∀ k, k < W.heap.size → k ≠ l → ¬ R k → W'.heap[k]? = W.heap[k]?
  row : ∀ k, k < W.heap.size → R' k → R k

theorem RKeep.trans {l : Nat} {R R' R'' : Nat → Prop} {X Y Z : World} (hs : X.heap.size ≤ Y.heap.size) (h : RKeep l R R' X Y) (k : RKeep l R' R'' Y Z) : RKeep l R R'' X Z :=
  ⟨fun i hi hne hr => (k.keep i (by omega) hne (fun e => hr (h.row i hi e))).trans (h.keep i hi hne hr), fun i hi hr => h.row i hi (k.row i (by omega) hr)⟩
theorem RKeep.below {l : Nat} {R : Nat → Prop} {W W' : World} (h : Below W.heap.size W W') : RKeep l R R W W' := ⟨fun k hk _ _ => h.block k hk, fun _ _ hr => hr⟩
theorem RKeep.put {l : Nat} {R : Nat → Prop} (W : World) (o : Obj) : RKeep l R R W (W.putObj l o) := ⟨fun _ _ hne _ => World.putObj_heap_other (by omega), fun _ _ hr => hr⟩

/-- What the caller's word abides: a turn of a block from B on that R does not name, or that is no cells. -/
def OwnBut {β : Type} (B : Nat) (I : β → (Nat → Prop) → World → Prop) : Prop :=
  ∀ s R A C row, I s R A → A.grownBy C row → (∀ r, row = some r → B ≤ r ∧ (¬ R r ∨ ∃ o : Obj, A.heap[r]? = some o ∧ o.isCells = false)) → I s R C

theorem OwnBut.putObj {β : Type} {B : Nat} {I : β → (Nat → Prop) → World → Prop} (h : OwnBut B I) {s : β} {R : Nat → Prop} {W : World} {l : Nat} {o : Obj} (o' : Obj) (hs : I s R W) (hB : B ≤ l) (hl : W.heap[l]? = some o) (ho : o.isCells = false) : I s R (W.putObj l o') :=
  h s R W _ (some l) hs (grownBy_putObj' W l o') (fun r e => by cases e; exact ⟨hB, .inr ⟨o, hl, ho⟩⟩)
theorem OwnBut.alloc {β : Type} {B : Nat} {I : β → (Nat → Prop) → World → Prop} (h : OwnBut B I) {s : β} {R : Nat → Prop} {W : World} (o : Obj) (hs : I s R W) : I s R (W.alloc o) :=
  h s R W _ none hs (World.grownBy_alloc W o none) (fun r e => by cases e)
theorem OwnBut.below {β : Type} {B : Nat} {I : β → (Nat → Prop) → World → Prop} (h : OwnBut B I) {s : β} {R : Nat → Prop} {W W' : World} (hs : I s R W) (hb : Below W.heap.size W W') : I s R W' :=
  h s R W W' none hs ⟨hb.os, hb.tape, hb.output, hb.size, fun k hk _ => hb.block k hk⟩ (fun r e => by cases e)

/-- What the body of a round leaves alone, its loop's record included. -/
structure RBody (R R' : Nat → Prop) (W W' : World) : Prop where
  keep : ∀ k, k < W.heap.size → ¬ R k → W'.heap[k]? = W.heap[k]?
  row : ∀ k, k < W.heap.size → R' k → R k

theorem RBody.toKeep {l : Nat} {R R' : Nat → Prop} {W W' : World} (h : RBody R R' W W') : RKeep l R R' W W' := ⟨fun k hk _ hr => h.keep k hk hr, h.row⟩

/-- How the body of a round may be left. -/
def ownPostB {α : Type} (B n₀ : Nat) (R : Nat → Prop) (I : List α → (Nat → Prop) → World → Prop) (Ix : Code → List α → World → Prop) (xs : List α) (W : World) : Exit → Act → World → Prop
  | .normal, _, W' => KeepsFrom B W W' ∧ Below n₀ W W' ∧ ∃ R', RBody R R' W W' ∧ I xs R' W'
  | .ret, _, W' => KeepsFrom B W W' ∧ Ix .ret xs W'
  | .exit id, _, W' => KeepsFrom B W W' ∧ Ix (.exit id) xs W'
  | .goto t, _, W' => KeepsFrom B W W' ∧ Ix (.goto t) xs W'
  | .panic _, _, _ => False
  | .outgrown, _, _ => False

/-- The iterator's contract: the rounds keep what lay below n₀, all records but their own, and all cells but those of R. What a round is handed lies as X says. -/
def SeqStopsB {α : Type} (F : Fence) (n : Nat) (P : Program) (g : Nat) (lb : Array Value) (encs : α → Array Value) (n₀ Br : Nat) (X : α → World → Prop) (S Sp : List α → Prop) (N B : Nat) (w : World) : Prop :=
  ∀ (l : Nat) (J : List α → (Nat → Prop) → World → Prop) (Jx : List α → World → Prop) (W : World) (R0 : Nat → Prop), B ≤ l → l < W.heap.size → Below w.heap.size w W → OwnBut W.heap.size J → OwnFrom W.heap.size Jx → (∀ k, R0 k → k < Br) →
    (∀ pre R x W1, J pre R W1 → X x W1 → pre.length < N → YieldAt F (n - 1) P l (encs x) W1 fun e W' =>
      (e = .returned (.bool true) ∧ ∃ R', J (pre ++ [x]) R' W' ∧ Below n₀ W1 W' ∧ RKeep l R R' W1 W' ∧ KeepsBut B l W1 W') ∨ (e = .returned (.bool false) ∧ Jx (pre ++ [x]) W' ∧ KeepsBut B l W1 W')) →
    J [] R0 W →
    CallsIn F n P g (#[.func (.yield l) #[] #[]] ++ lb) W fun e W' => (∃ v, e = .returned v) ∧ ((∃ xs R, S xs ∧ J xs R W') ∨ (∃ pre, Sp pre ∧ Jx pre W'))

variable {F : Fence} {n : Nat} {P : Program} {w : World}

theorem wpIn_rangeFunc_ownB {α : Type} {g : Operand} {ps : Array Tmp} {assign body : Code} {Q : Exit → Act → World → Prop} {a : Act} {w : World}
    (hro : F.round = none) (h1 : 1 ≤ n) {gf : Nat} {lb : Array Value} (hg : a.eval g = .func (.func gf) #[] lb) (hFg : F.fn gf) (eg : ∀ args w, (callFunc gf args).run P w = .ok (.enter gf args) w)
    {encs : α → Array Value} {n₀ Br : Nat} {R0 : Nat → Prop} {X : α → World → Prop} {S Sp : List α → Prop} {N : Nat} {w0 : World} (hn₀ : n₀ ≤ w.heap.size) (hseq : SeqStopsB F (n - 1) P gf lb encs n₀ Br X S Sp N w.heap.size w0)
    (hb0 : Below w0.heap.size w0 w) (hps : ∀ x, (encs x).size = ps.size) (hRr : ∀ k, R0 k → k < Br)
    (I : List α → (Nat → Prop) → World → Prop) (Ix : Code → List α → World → Prop) (hI : OwnBut w.heap.size I) (hIx : ∀ c, OwnFrom w.heap.size (Ix c)) (h0 : I [] R0 w) (Ax : α → Act → World → Prop) (hAx : ∀ x a', OwnFrom w.heap.size (fun (_ : Unit) W => Ax x a' W))
    (hassign : ∀ (l : Nat) (pre : List α) (R : Nat → Prop) (x : α) (W : World) (K : Act → World → Prop), I pre R W → X x W → w.heap.size ≤ W.heap.size → (∀ a' W', Below W.heap.size W W' → I pre R W' → Ax x a' W' → K a' W') →
      assign.wpIn (F.inRound l) (n - 1 - 1) P (Exit.then K (fun _ _ _ => False)) { tmps := (ps.zip (encs x)).foldl (fun t (p, v) => t.setIfInBounds p v) a.tmps, defers := [] } W)
    (hbody : ∀ (l : Nat) (pre : List α) (R : Nat → Prop) (x : α) (a' : Act) (W : World), w.heap.size ≤ l → (∃ r, W.heap[l]? = some (.loop r)) → I pre R W → Ax x a' W → pre.length < N → body.wpIn (F.inRound l) (n - 1 - 1) P (ownPostB w.heap.size n₀ R I Ix (pre ++ [x]) W) a' W)
    (hdone : ∀ (D : Nat) (xs : List α) (R : Nat → Prop) (W : World), w.heap.size ≤ D → S xs → I xs R W → W.heap[D]? = some (.deferred (some [])) → Q .normal { a with defers := { target := .collected D, args := #[] } :: a.defers } W)
    (hstop : ∀ (D : Nat) (c : Code) (pre : List α) (W : World), w.heap.size ≤ D → Sp pre → Ix c pre W → W.heap[D]? = some (.deferred (some [])) → c.wpIn F n P Q { a with defers := { target := .collected D, args := #[] } :: a.defers } W) :
    (Code.rangeFunc g ps assign body).wpIn F n P Q a w := by
  refine wpIn_rangeFunc (fun fn hfn => ?_)
  rw [hro]
  -- the two blocks that the loop lays: the rounds' deferred calls (D), its record (l)
  obtain ⟨rc, hrc⟩ : ∃ rc : LoopState → Option Code → Loop, rc = fun st pe => { state := st, pending := pe, fn, tmps := a.tmps, params := ps, assign, body, defers := w.heap.size } := ⟨_, rfl⟩
  obtain ⟨V, hV⟩ : ∃ V, V = (w.alloc (.deferred (some []))).alloc (.loop (rc .ready none)) := ⟨_, rfl⟩
  obtain ⟨l, hl⟩ : ∃ l, l = w.heap.size + 1 := ⟨_, rfl⟩
  have hVs : V.heap.size = l + 1 := by rw [hV, hl]; simp
  have hVl : V.heap[l]? = some (.loop (rc .ready none)) := by
    rw [hV, hl]; have := World.alloc_heap_new (w.alloc (.deferred (some []))) (.loop (rc .ready none)); rwa [World.size_alloc] at this
  have hVD : V.heap[w.heap.size]? = some (.deferred (some [])) := by
    rw [hV]; exact (Below.heap_alloc _ _ _ (by simp)).trans (World.alloc_heap_new w _)
  have hVI : I [] R0 V := by rw [hV]; exact hI.alloc _ (hI.alloc _ h0)
  have hVw : Below w.heap.size w V := by rw [hV]; exact ((Below.refl _ w).alloc (Nat.le_refl _) _).alloc (by simp) _
  have hVb : Below w0.heap.size w0 V := hb0.trans (hVw.mono hb0.size)
  have hlD : w.heap.size ≤ l := by omega
  have hlne : l ≠ w.heap.size := by omega
  have kw : ∀ (W : World) (o o' : Obj), W.heap[l]? = some o → o.isCells = false → o.isWalk = false → Below w.heap.size W (W.putObj l o') := fun W o o' h h2 h3 => belowK_b (Nat.le_refl _) W l o o' hlD h h2 h3
  have kb : ∀ (W : World) (o o' : Obj), W.heap[l]? = some o → o.isCells = false → o.isWalk = false → Below n₀ W (W.putObj l o') := fun W o o' h h2 h3 => (kw W o o' h h2 h3).mono hn₀
  have hD' : ∀ (W : World) (o : Obj), W.heap[w.heap.size]? = some (.deferred (some [])) → (W.putObj l o).heap[w.heap.size]? = some (.deferred (some [])) := fun W o h => (World.putObj_heap_other (by omega)).trans h
  refine ⟨l, [{ target := .collected w.heap.size, args := #[] }], V, { target := .fn (.func gf) lb, args := #[.func (.yield l) #[] #[]] }, V, gf, #[.func (.yield l) #[] #[]] ++ lb, V, ?_, ?_, ?_, ?_, fun _ => h1, ?_⟩
  · rw [hV, hrc, hl]; exact run_enterLoop_outer _ _ _ _ _
  · simp only [resolve, hg]
    simp [go_sem]
  · intro f' hf'; simp [Target.leads] at hf'; subst hf'; exact hFg
  · simp [invoke, go_sem, eg]
  -- the book-keeping beside the caller's invariant
  have bk : ∀ (st : LoopState) (pe : Option Code) (A B : World) (row : Option Nat), (A.heap[l]? = some (.loop (rc st pe)) ∧ A.heap[w.heap.size]? = some (.deferred (some []))) → A.grownBy B row → (∀ r, row = some r → V.heap.size ≤ r) →
      (B.heap[l]? = some (.loop (rc st pe)) ∧ B.heap[w.heap.size]? = some (.deferred (some []))) := fun st pe A B row hs hg' hr =>
    ⟨(hg'.block l (Array.getElem?_eq_some_iff.1 hs.1).1 (fun e => by have := hr l e.symm; omega)).trans hs.1, (hg'.block w.heap.size (Array.getElem?_eq_some_iff.1 hs.2).1 (fun e => by have := hr _ e.symm; omega)).trans hs.2⟩
  refine (hseq l (fun pre R W => I pre R W ∧ (W.heap[l]? = some (.loop (rc .ready none)) ∧ W.heap[w.heap.size]? = some (.deferred (some []))))
    (fun pre W => ∃ c, Ix c pre W ∧ (W.heap[l]? = some (.loop (rc .done (some c))) ∧ W.heap[w.heap.size]? = some (.deferred (some []))))
    V R0 hlD (by omega) hVb (fun s R A B row hs hg' hr => ⟨hI s R A B row hs.1 hg' (fun r e => ⟨by have := (hr r e).1; omega, (hr r e).2⟩), bk _ _ A B row hs.2 hg' (fun r e => (hr r e).1)⟩)
    (fun s A B row hs hg' hr => by obtain ⟨c, hc, h⟩ := hs; exact ⟨c, hIx c s A B row hc hg' (fun r e => ⟨by have := (hr r e).1; omega, (hr r e).2⟩), bk _ _ A B row h hg' (fun r e => (hr r e).1)⟩) hRr ?_ ⟨hVI, hVl, hVD⟩).mono ?_
  · rintro pre R x W ⟨hi, hWl, hWD⟩ hXW hlen
    have hsW : w.heap.size ≤ W.heap.size := Nat.le_of_lt (Array.getElem?_eq_some_iff.1 hWD).1
    have hy := run_yield (P := P) (args := encs x) hWl (by rw [hrc]; exact hps x)
    rw [hrc] at hy
    refine ⟨fn, _, assign, body, hy, roundIn_of_wpIn hfn (hassign _ pre R x W _ hi hXW hsW ?_)⟩
    intro a' Xw hbX hiX hax
    -- the assignment is done; the round begins
    have hXl := (hbX.block l (Array.getElem?_eq_some_iff.1 hWl).1).trans hWl
    have hXD := (hbX.block _ (Array.getElem?_eq_some_iff.1 hWD).1).trans hWD
    refine ⟨_, run_beginRound hXl (by rw [hrc]), ?_⟩
    obtain ⟨Y, hY⟩ : ∃ Y, Y = Xw.putObj l (.loop { rc .ready none with state := .busy }) := ⟨_, rfl⟩
    have hYl : Y.heap[l]? = some (.loop { rc .ready none with state := .busy }) := by rw [hY]; exact World.putObj_heap_same (Array.getElem?_eq_some_iff.1 hXl).1
    have hYD : Y.heap[w.heap.size]? = some (.deferred (some [])) := by rw [hY]; exact hD' Xw _ hXD
    have hXY : Below w.heap.size Xw Y := by rw [hY]; exact kw Xw _ _ hXl rfl rfl
    have hWY : Below n₀ W Y := (hbX.mono (Nat.le_trans hn₀ hsW)).trans (hXY.mono hn₀)
    have hfX : KeepsFrom w.heap.size W Xw := ⟨hbX.size, fun k o _ hk _ => (hbX.block k (Array.getElem?_eq_some_iff.1 hk).1).trans hk⟩
    have hWYk : KeepsBut w.heap.size l W Y := (KeepsBut.of_from hfX).trans (by rw [hY]; exact KeepsBut.put Xw _)
    have hWYr : RKeep l R R W Y := (RKeep.below hbX).trans hbX.size (by rw [hY]; exact RKeep.put Xw _)
    have hsY : W.heap.size ≤ Y.heap.size := hWY.size
    have hbd := hbody l pre R x a' Y hlD ⟨_, hYl⟩ (by rw [hY]; exact hI.putObj _ hiX hlD hXl rfl) (by rw [hY]; exact (hAx x a').putObj (s := ()) _ hax hlD hXl rfl) hlen
    rw [← hY]
    refine wpIn_mono hbd ?_
    have fin : ∀ (jump : Option Code) (Z : World), KeepsFrom w.heap.size Y Z →
        ∃ Z', (Instr.endRound l jump).run P Z = .ok (.bool jump.isNone) Z' ∧ Z' = Z.putObj l (.loop (rc (if jump.isNone then .ready else .done) jump)) ∧ Z.heap[l]? = some (.loop { rc .ready none with state := .busy }) ∧
          (Z'.heap[l]? = some (.loop (rc (if jump.isNone then .ready else .done) jump)) ∧ Z'.heap[w.heap.size]? = some (.deferred (some []))) ∧ KeepsBut w.heap.size l W Z' := fun jump Z hk => by
      have hZl := hk.same l _ hlD hYl rfl
      have hrun := run_endRound (P := P) jump hZl
      refine ⟨_, by rw [hrc] at hrun ⊢; exact hrun, rfl, hZl, ⟨World.putObj_heap_same (Array.getElem?_eq_some_iff.1 hZl).1, hD' Z _ (hk.same _ _ (Nat.le_refl _) hYD rfl)⟩, (hWYk.trans (KeepsBut.of_from hk)).trans (KeepsBut.put Z _)⟩
    rintro e a3 Z hp
    cases e with
    | normal =>
      obtain ⟨hk, hb, R', hrb, hi3⟩ := hp
      obtain ⟨Z', hr, hZ', hZl, hbk, hkb⟩ := fin none Z hk
      have hZZ : Below w.heap.size Z Z' := by rw [hZ']; exact kw Z _ _ hZl rfl rfl
      exact ⟨_, _, hr, .inl ⟨rfl, R', ⟨by rw [hZ']; exact hI.putObj _ hi3 hlD hZl rfl, hbk⟩, (hWY.trans hb).trans (hZZ.mono hn₀), (hWYr.trans hsY hrb.toKeep).trans (Nat.le_trans hsY hb.size) (by rw [hZ']; exact RKeep.put Z _), hkb⟩⟩
    | ret =>
      obtain ⟨hk, hi3⟩ := hp
      obtain ⟨Z', hr, hZ', hZl, hbk, hkb⟩ := fin (some .ret) Z hk
      exact ⟨_, _, hr, .inr ⟨rfl, ⟨.ret, by rw [hZ']; exact (hIx _).putObj _ hi3 hlD hZl rfl, hbk⟩, hkb⟩⟩
    | exit id =>
      obtain ⟨hk, hi3⟩ := hp
      obtain ⟨Z', hr, hZ', hZl, hbk, hkb⟩ := fin (some (.exit id)) Z hk
      exact ⟨_, _, hr, .inr ⟨rfl, ⟨.exit id, by rw [hZ']; exact (hIx _).putObj _ hi3 hlD hZl rfl, hbk⟩, hkb⟩⟩
    | goto t =>
      obtain ⟨hk, hi3⟩ := hp
      obtain ⟨Z', hr, hZ', hZl, hbk, hkb⟩ := fin (some (.goto t)) Z hk
      exact ⟨_, _, hr, .inr ⟨rfl, ⟨.goto t, by rw [hZ']; exact (hIx _).putObj _ hi3 hlD hZl rfl, hbk⟩, hkb⟩⟩
    | panic ch => exact hp.elim
    | outgrown => exact hp.elim
  · rintro e W2 ⟨⟨v, rfl⟩, (⟨xs, R, hS, hi, hl2, hD2⟩ | ⟨pre, hSp, c, hi, hl2, hD2⟩)⟩
    · exact ⟨none, _, by have := run_endLoop (P := P) hl2 (by rw [hrc]; simp); rw [hrc] at this; exact this, hdone _ xs R _ (Nat.le_refl _) hS (hI.putObj _ hi hlD hl2 rfl) (hD' _ _ hD2)⟩
    · exact ⟨some c, _, by have := run_endLoop (P := P) hl2 (by rw [hrc]; simp); rw [hrc] at this; exact this, hstop _ c pre _ (Nat.le_refl _) hSp ((hIx c).putObj _ hi hlD hl2 rfl) (hD' _ _ hD2)⟩
end Go.Proofs.Ytlmedcmheninaaa
