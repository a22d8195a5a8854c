/- How a tree lies in memory as the model has it (letter and kids by value), and what keeps it there. -/
import Derived.Test.YtmmfcljkcepahaaRows
import Derived.Test.YtmmfcljkcepahaaTree
import Derived.WalkKit
import Derived.WalkSpells
import Derived.WalkLawsBesides
import Derived.Handy
import Derived.Deep.LoopGhost
import Derived.Deep.Cut
import Derived.Outline
import Derived.Lib.Hide
namespace Go.Proofs.Ytmmfcljkcepahaa
open Go.RowKit

mutual
def RepS (w : World) (P : Nat → Prop) : T → Value → Value → Prop
  | .leaf, l, s => l = .string ⟨#[]⟩ ∧ s = .slice none 0 0
  | .node c ks, l, s => l = .string ⟨#[c]⟩ ∧ ∃ g cap, s = .slice (some ⟨g, 0, none⟩) ks.length cap ∧ P g ∧ ks.length ≤ 6 ∧ RepSL w P ks g 0
def RepSL (w : World) (P : Nat → Prop) : List T → Nat → Nat → Prop
  | [], _, _ => True
  | k :: ks, g, i => (∃ l s, w.cell? ⟨g, i * 2, none⟩ = some l ∧ w.cell? ⟨g, i * 2 + 1, none⟩ = some s ∧ RepS w P k l s) ∧ RepSL w P ks g (i + 1)
end

theorem RepSL.get {w : World} {P : Nat → Prop} : ∀ {ks : List T} {g i : Nat}, RepSL w P ks g i → ∀ j (h : j < ks.length), ∃ l s, w.cell? ⟨g, (i + j) * 2, none⟩ = some l ∧ w.cell? ⟨g, (i + j) * 2 + 1, none⟩ = some s ∧ RepS w P ks[j] l s
  | [], _, _, _, _, h => absurd h (by simp)
  | k :: ks, g, i, hr, 0, h => by
    rw [RepSL] at hr; exact hr.1
  | k :: ks, g, i, hr, j + 1, h => by
    rw [RepSL] at hr
    have := RepSL.get hr.2 j (by simpa using h)
    rw [show i + (j + 1) = i + 1 + j from by omega]; exact this

theorem RepSL.of_get {w : World} {P : Nat → Prop} : ∀ {ks : List T} {g i : Nat}, (∀ j (h : j < ks.length), ∃ l s, w.cell? ⟨g, (i + j) * 2, none⟩ = some l ∧ w.cell? ⟨g, (i + j) * 2 + 1, none⟩ = some s ∧ RepS w P ks[j] l s) → RepSL w P ks g i
  | [], _, _, _ => by rw [RepSL]; trivial
  | k :: ks, g, i, h => by
    rw [RepSL]
    refine ⟨h 0 (by simp), RepSL.of_get (fun j hj => ?_)⟩
    have := h (j + 1) (by simpa using hj)
    rw [show i + (j + 1) = i + 1 + j from by omega] at this; exact this

/-- What was readable reads as it did. -/
def Keeps (P : Nat → Prop) (w w' : World) : Prop := ∀ a v, P a.block → w.cell? a = some v → w'.cell? a = some v

mutual
theorem RepS.keep {w w' : World} {P P' : Nat → Prop} (hk : Keeps P w w') (hp : ∀ g, P g → g < w.heap.size → P' g) : ∀ {t : T} {l s : Value}, t.wf → RepS w P t l s → RepS w' P' t l s
  | .leaf, _, _, _, h => by rw [RepS] at h ⊢; exact h
  | .node c [], _, _, hw, h => by rw [T.wf] at hw; simp at hw
  | .node c (k :: ks), _, _, hw, h => by
    rw [RepS] at h ⊢
    rw [T.wf] at hw
    obtain ⟨h1, g, cap, h2, h3, h4, h5⟩ := h
    have hlt : g < w.heap.size := by
      rw [RepSL] at h5
      obtain ⟨⟨l, s, h6, _⟩, _⟩ := h5
      exact World.block_lt_of_cell? w _ h6
    exact ⟨h1, g, cap, h2, hp _ h3 hlt, h4, RepSL.keep hk hp h3 hw.2.2.2.2 h5⟩
theorem RepSL.keep {w w' : World} {P P' : Nat → Prop} (hk : Keeps P w w') (hp : ∀ g, P g → g < w.heap.size → P' g) : ∀ {ks : List T} {g i : Nat}, P g → T.wfL ks → RepSL w P ks g i → RepSL w' P' ks g i
  | [], _, _, _, _, _ => by rw [RepSL]; trivial
  | k :: ks, g, i, hg, hw, h => by
    rw [RepSL] at h ⊢
    rw [T.wfL] at hw
    obtain ⟨⟨l, s, h1, h2, h3⟩, h4⟩ := h
    exact ⟨⟨l, s, hk _ _ hg h1, hk _ _ hg h2, RepS.keep hk hp hw.1 h3⟩, RepSL.keep hk hp hg hw.2 h4⟩
end

theorem Keeps.of_below {w w' : World} (h : Below w.heap.size w w') (P : Nat → Prop) : Keeps P w w' := fun a _ _ hv =>
  (h.cell (World.block_lt_of_cell? w a hv)).trans hv

theorem Keeps.trans {P : Nat → Prop} {a b c : World} (h : Keeps P a b) (k : Keeps P b c) : Keeps P a c := fun x v hp hv => k x v hp (h x v hp hv)
theorem Keeps.mono {P P' : Nat → Prop} {a b : World} (h : Keeps P a b) (hp : ∀ g, P' g → P g) : Keeps P' a b := fun x v hx hv => h x v (hp _ hx) hv

theorem RepS.below {w w' : World} {P : Nat → Prop} {t : T} {l s : Value} (h : RepS w P t l s) (hw : t.wf) (hb : Below w.heap.size w w') : RepS w' P t l s :=
  h.keep (Keeps.of_below hb P) (fun _ h _ => h) hw

theorem two_cells {w : World} {b : Nat} {x y : Value} {t : TypeId} (h : w.heap[b]? = some (.cells #[x, y] t (0, 0))) :
    w.cell? ⟨b, 0, none⟩ = some x ∧ w.cell? ⟨b, 1, none⟩ = some y ∧ w.frozen? ⟨b, 0, none⟩ = false ∧ w.frozen? ⟨b, 1, none⟩ = false := by
  simp [World.cell?, World.frozen?, h]

/-- A block behind a store into it. -/
theorem heap_setCell_same {w : World} {b k : Nat} {cs : Array Value} {t : TypeId} {fr : Nat × Nat} (h : w.heap[b]? = some (.cells cs t fr)) (u : Value) :
    (w.setCell ⟨b, k, none⟩ u).heap[b]? = some (.cells (cs.setIfInBounds k u) t fr) := by
  have hlt : b < w.heap.size := (Array.getElem?_eq_some_iff.1 h).1
  have hv : w.heap[b] = .cells cs t fr := (Array.getElem?_eq_some_iff.1 h).2
  simp only [World.setCell]
  rw [Array.getElem?_eq_getElem (by simpa using hlt), Array.getElem_modify]
  simp [hv]

theorem byte_eq_ff {x y : UInt8} {n : Int} (h : x ≠ y) (hn : n = (y.toNat : Int)) : ((x.toNat : Int) == n) = false := by
  subst hn
  have : x.toNat ≠ y.toNat := fun e => h (UInt8.toNat_inj.1 e)
  simp; omega

theorem byte_ne_tt {x y : UInt8} {n : Int} (h : x ≠ y) (hn : n = (y.toNat : Int)) : ((x.toNat : Int) != n) = true := by
  simp only [bne, byte_eq_ff h hn, Bool.not_false]

theorem keep1 {w w2 : World} {a : Addr} {v : Value} (hb : Below w.heap.size w w2) (h : w.cell? a = some v) : w2.cell? a = some v :=
  (hb.cell (World.block_lt_of_cell? w a h)).trans h

theorem below_step {a w w2 : World} (h : Below a.heap.size a w) (hb : Below w.heap.size w w2) : Below a.heap.size a w2 := h.trans (hb.mono h.size)

theorem keepf {w w2 : World} {a : Addr} {v : Value} (hb : Below w.heap.size w w2) (h : w.cell? a = some v) (h' : w.frozen? a = false) : w2.frozen? a = false :=
  (hb.frozen (World.block_lt_of_cell? w a h)).trans h'

/-- A fact that the walk does not look into. -/
theorem ret_int' {k : IntKind} {a b : Int} (h : a = b) : Ending.returned (.int k a) = .returned (.int k b) := by rw [h]

end Go.Proofs.Ytmmfcljkcepahaa
