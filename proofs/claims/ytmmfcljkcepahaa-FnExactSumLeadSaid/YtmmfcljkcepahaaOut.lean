/- A node that the model builds kid by kid: its box, its row, how the kids lie. -/
import Derived.Test.YtmmfcljkcepahaaTextS
namespace Go.Proofs.Ytmmfcljkcepahaa
open Go.RowKit

/-- The box of the node that is being made lies in block Bo, its row from 'base' on; what comes from outside keeps to P. -/
def OutRel (P : Nat → Prop) (base Bo : Nat) (c : UInt8) (acc : List T) (v : Value) (xs : List Value) (wr : World) : Prop :=
  wr.heap[Bo]? = some (.cells #[.string ⟨#[c]⟩, v] 93 (0, 0)) ∧ Bo < base ∧ (∀ b, P b → b < Bo) ∧
  wr.ownsRow base 93 2 v acc.length xs ∧
  (∀ k (h : k < acc.length), ∃ l sl, xs[k * 2]? = some l ∧ xs[k * 2 + 1]? = some sl ∧ RepS wr (fun b => (P b ∨ base ≤ b) ∧ v.ownBlock ≠ some b) acc[k] l sl) ∧
  T.wfL acc

theorem OutRel.start {P : Nat → Prop} {base : Nat} {c : UInt8} {w : World} (hB : base = w.heap.size + 1) (hP : ∀ b, P b → b < w.heap.size) :
    OutRel P base w.heap.size c [] (.slice none 0 0) [] (w.alloc (.cells #[.string ⟨#[c]⟩, .slice none 0 0] 93)) :=
  ⟨heap_alloc_new w _, by omega, hP, World.ownsRow_nil _ _ _ _, fun k h => by simp at h, by simp [T.wfL]⟩

/-- Another kid: w1 is the world behind the call that made it, w1' that world with boxes besides, w2 behind the append. -/
theorem OutRel.next {P : Nat → Prop} {base Bo : Nat} {c : UInt8} {acc : List T} {va : Option Addr} {vn vc : Nat} {xs : List Value} {wr w1 w1' w2 : World} {t : T} {lb : ByteArray} {sa : Option Addr} {sn sc g cap : Nat}
    (h : OutRel P base Bo c acc (.slice va vn vc) xs wr) (hbw : base ≤ wr.heap.size) (hb1 : Below wr.heap.size wr w1) (hrep : RepS w1 (fun b => P b ∨ wr.heap.size ≤ b) t (.string lb) (.slice sa sn sc)) (htw : t.wf)
    (hb2 : Below w1.heap.size w1 w1')
    (hown : w2.ownsRow base 93 2 (.slice (some ⟨g, 0, none⟩) (acc.length + 1) cap) (acc.length + 1) (xs ++ [.string lb, .slice sa sn sc]))
    (hg : w1'.grownBy w2 (Value.slice va vn vc).ownBlock) (hf : (Value.slice va vn vc).ownBlock = some g ∨ w1.heap.size ≤ g) :
    OutRel P base Bo c (acc ++ [t]) (.slice (some ⟨g, 0, none⟩) (acc.length + 1) cap) (xs ++ [.string lb, .slice sa sn sc]) (w2.setCell ⟨Bo, 1, none⟩ (.slice (some ⟨g, 0, none⟩) (acc.length + 1) cap)) := by
  obtain ⟨b1, hBo, hP, own, reps, hwf⟩ := h
  have hl1 := (Array.getElem?_eq_some_iff.1 b1).1
  have hsz := hb1.size
  have hsz2 := hb2.size
  have hown0 := own.lt
  have hxl : xs.length = acc.length * 2 := own.1
  have hblk : ∀ b, b < w1.heap.size → (Value.slice va vn vc).ownBlock ≠ some b → b ≠ Bo → (w2.setCell ⟨Bo, 1, none⟩ (.slice (some ⟨g, 0, none⟩) (acc.length + 1) cap)).heap[b]? = w1.heap[b]? := by
    intro b hb hne hn1
    rw [Below.heap_setCell _ _ _ _ (by simpa using hn1), hg.block b (by omega) (fun e => hne e.symm), hb2.block b hb]
  have hne0 : ∀ b, b < base → (Value.slice va vn vc).ownBlock ≠ some b := fun b hb e => by have := (hown0 b e).1; omega
  refine ⟨?_, hBo, hP, ?_, ?_, ?_⟩
  · have : w2.heap[Bo]? = some (.cells #[.string ⟨#[c]⟩, .slice va vn vc] 93 (0, 0)) := by
      rw [hg.block _ (by omega) (fun e => hne0 _ (by omega) e.symm), hb2.block _ (by omega), hb1.block _ hl1, b1]
    rw [heap_setCell_same this]; rfl
  · rw [List.length_append]
    exact ownsRow_setCell_below hown (by simpa using hBo) _
  · intro k hk'
    by_cases hka : k < acc.length
    · obtain ⟨l, sl, e1, e2, e3⟩ := reps k hka
      refine ⟨l, sl, by rw [List.getElem?_append_left (by omega)]; exact e1, by rw [List.getElem?_append_left (by omega)]; exact e2, ?_⟩
      rw [List.getElem_append_left hka]
      refine e3.keep (w := wr) ?_ ?_ (wfL_get hwf k hka)
      · intro a u ha hu
        have hab := World.block_lt_of_cell? wr a hu
        have hne : a.block ≠ Bo := by
          rcases ha.1 with e | e
          · have := hP _ e; omega
          · omega
        rw [World.cell?_of_block (hblk a.block (by omega) ha.2 hne), World.cell?_of_block (hb1.block a.block hab)]
        exact hu
      · intro b hb hlt
        refine ⟨hb.1, fun e => ?_⟩
        simp only [Value.ownBlock, Option.some.injEq] at e
        subst e
        rcases hf with e | e
        · exact hb.2 e
        · omega
    · have hke : k = acc.length := by simp at hk'; omega
      subst hke
      refine ⟨.string lb, .slice sa sn sc, by rw [List.getElem?_append_right (by omega), hxl]; simp, by rw [List.getElem?_append_right (by omega), hxl]; simp, ?_⟩
      rw [List.getElem_append_right (by omega)]
      simp only [Nat.sub_self, List.getElem_singleton]
      have hneo : ∀ b, (P b ∨ wr.heap.size ≤ b) → (Value.slice va vn vc).ownBlock ≠ some b := fun b hb e => by
        have h1 := hown0 b e
        rcases hb with hb | hb
        · have := hP _ hb; omega
        · omega
      refine hrep.keep (w := w1) ?_ ?_ htw
      · intro a u ha hu
        have hab := World.block_lt_of_cell? w1 a hu
        have hne : a.block ≠ Bo := by
          rcases ha with e | e
          · have := hP _ e; omega
          · omega
        rw [World.cell?_of_block (hblk a.block hab (hneo _ ha) hne)]
        exact hu
      · intro b hb hlt
        refine ⟨by rcases hb with e | e; exact .inl e; exact .inr (by omega), fun e => ?_⟩
        simp only [Value.ownBlock, Option.some.injEq] at e
        subst e
        rcases hf with e | e
        · exact hneo _ hb e
        · omega
  · rw [wfL_append]; exact ⟨hwf, by simp [T.wfL, htw]⟩

/-- The node is made: how it lies, also behind stores into boxes that are neither from outside nor the row. -/
theorem OutRel.rep {P : Nat → Prop} {base Bo : Nat} {c : UInt8} {acc : List T} {va : Option Addr} {vn vc : Nat} {xs : List Value} {wr w2 : World}
    (h : OutRel P base Bo c acc (.slice va vn vc) xs wr) (h1 : 1 ≤ acc.length) (h6 : acc.length ≤ 6) (hk : Keeps (fun b => P b ∨ base ≤ b) wr w2) :
    RepS w2 (fun b => P b ∨ base ≤ b) (.node c acc) (.string ⟨#[c]⟩) (.slice va vn vc) := by
  obtain ⟨b1, hBo, hP, own, reps, hwf⟩ := h
  have own0 := own
  rcases own.2 with ⟨_, e⟩ | ⟨g, cap, cur, e, hbg, hgg, hnc, hcm, hcs, htake⟩
  · omega
  · simp only [Value.slice.injEq] at e
    obtain ⟨rfl, rfl, rfl⟩ := e
    rw [RepS]
    refine ⟨rfl, g, vc, rfl, .inr hbg, h6, RepSL.of_get fun k hk' => ?_⟩
    obtain ⟨l, sl, e1, e2, e3⟩ := reps k hk'
    have c1 := own0.cells (g := g) rfl (k * 2) l e1
    have c2 := own0.cells (g := g) rfl (k * 2 + 1) sl e2
    have ha : ∀ n, (⟨g, 0, none⟩ : Addr).add n = ⟨g, n, none⟩ := fun n => by unfold Addr.add; split <;> simp_all
    rw [ha] at c1 c2
    simp only [Nat.zero_add]
    exact ⟨l, sl, hk _ _ (.inr hbg) c1, hk _ _ (.inr hbg) c2, e3.keep (hk.mono fun _ h => h.1) (fun b h _ => h.1) (wfL_get hwf k hk')⟩

theorem OutRel.vn {P : Nat → Prop} {base Bo : Nat} {c : UInt8} {acc : List T} {va : Option Addr} {vn vc : Nat} {xs : List Value} {wr : World}
    (h : OutRel P base Bo c acc (.slice va vn vc) xs wr) : vn = acc.length := by
  obtain ⟨a, m, c', e, e'⟩ := owns_slice h.2.2.2.1; simp at e; omega

end Go.Proofs.Ytmmfcljkcepahaa
