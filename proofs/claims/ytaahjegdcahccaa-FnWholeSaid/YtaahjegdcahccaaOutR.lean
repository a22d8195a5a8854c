/- A node that is built kid by kid beside a reader that moves on. -/
import Derived.Test.YtaahjegdcahccaaOut
import Derived.Test.YtaahjegdcahccaaRepI
namespace Go.Proofs.Ytaahjegdcahccaa
open Go.RowKit

theorem OutRel.nextR {base Bo rb : Nat} {c : UInt8} {acc : List T} {va : Option Addr} {vn vc : Nat} {xs : List Value} {wr w1 w1' w2 : World} {t : T} {lb : ByteArray} {sa : Option Addr} {sn sc g cap : Nat}
    (h : OutRel (fun _ => False) base Bo c acc (.slice va vn vc) xs wr) (hbw : base ≤ wr.heap.size) (hrb : rb < Bo) (hb1 : wr.grownBy w1 (some rb)) (hrep : RepS w1 (fun b => wr.heap.size ≤ b) t (.string lb) (.slice sa sn sc)) (htw : t.wf)
    (hb2 : Below w1.heap.size w1 w1')
    (hown : w2.ownsRow base 70 2 (.slice (some ⟨g, 0, none⟩) (acc.length + 1) cap) (acc.length + 1) (xs ++ [.string lb, .slice sa sn sc]))
    (hg : w1'.grownBy w2 (Value.slice va vn vc).ownBlock) (hf : (Value.slice va vn vc).ownBlock = some g ∨ w1.heap.size ≤ g) :
    OutRel (fun _ => False) base Bo c (acc ++ [t]) (.slice (some ⟨g, 0, none⟩) (acc.length + 1) cap) (xs ++ [.string lb, .slice sa sn sc]) (w2.setCell ⟨Bo, 1, none⟩ (.slice (some ⟨g, 0, none⟩) (acc.length + 1) cap)) := by
  obtain ⟨b1, hBo, hP, own, reps, hwf⟩ := h
  have hl1 := (Array.getElem?_eq_some_iff.1 b1).1
  have hsz := hb1.size
  have hsz2 := hb2.size
  have hown0 := own.lt
  have hxl : xs.length = acc.length * 2 := own.1
  have hblk : ∀ b, b < w1.heap.size → (Value.slice va vn vc).ownBlock ≠ some b → b ≠ Bo → (w2.setCell ⟨Bo, 1, none⟩ (.slice (some ⟨g, 0, none⟩) (acc.length + 1) cap)).heap[b]? = w1.heap[b]? := by
    intro b hb hne hn1
    rw [Below.heap_setCell _ _ _ _ (by simpa using hn1), hg.block b (by omega) (fun e => hne e.symm), hb2.block b hb]
  have hne0 : ∀ b, b < base → (Value.slice va vn vc).ownBlock ≠ some b := fun b hb e => by have := (hown0 b e).1; omega
  refine ⟨?_, hBo, hP, ?_, ?_, ?_⟩
  · have : w2.heap[Bo]? = some (.cells #[.string ⟨#[c]⟩, .slice va vn vc] 70 (0, 0)) := by
      rw [hg.block _ (by omega) (fun e => hne0 _ (by omega) e.symm), hb2.block _ (by omega), hb1.block _ hl1 (by simp; omega), b1]
    rw [heap_setCell_same this]; rfl
  · rw [List.length_append]
    exact ownsRow_setCell_below hown (by simpa using hBo) _
  · intro k hk'
    by_cases hka : k < acc.length
    · obtain ⟨l, sl, e1, e2, e3⟩ := reps k hka
      refine ⟨l, sl, by rw [List.getElem?_append_left (by omega)]; exact e1, by rw [List.getElem?_append_left (by omega)]; exact e2, ?_⟩
      rw [List.getElem_append_left hka]
      refine e3.keep (w := wr) ?_ ?_ (wfL_get hwf k hka)
      · intro a u ha hu
        have hab := World.block_lt_of_cell? wr a hu
        have hba : base ≤ a.block := by rcases ha.1 with e | e; exact e.elim; exact e
        rw [World.cell?_of_block (hblk a.block (by omega) ha.2 (by omega)), World.cell?_of_block (hb1.block a.block hab (by simp; omega))]
        exact hu
      · intro b hb hlt
        refine ⟨hb.1, fun e => ?_⟩
        simp only [Value.ownBlock, Option.some.injEq] at e
        subst e
        rcases hf with e | e
        · exact hb.2 e
        · omega
    · have hke : k = acc.length := by simp at hk'; omega
      subst hke
      refine ⟨.string lb, .slice sa sn sc, by rw [List.getElem?_append_right (by omega), hxl]; simp, by rw [List.getElem?_append_right (by omega), hxl]; simp, ?_⟩
      rw [List.getElem_append_right (by omega)]
      simp only [Nat.sub_self, List.getElem_singleton]
      have hneo : ∀ b, wr.heap.size ≤ b → (Value.slice va vn vc).ownBlock ≠ some b := fun b hb e => by
        have h1 := hown0 b e
        omega
      refine hrep.keep (w := w1) ?_ ?_ htw
      · intro a u ha hu
        have hab := World.block_lt_of_cell? w1 a hu
        rw [World.cell?_of_block (hblk a.block hab (hneo _ ha) (by omega))]
        exact hu
      · intro b hb hlt
        refine ⟨.inr (by omega), fun e => ?_⟩
        simp only [Value.ownBlock, Option.some.injEq] at e
        subst e
        rcases hf with e | e
        · exact hneo _ hb e
        · omega
  · rw [wfL_append]; exact ⟨hwf, by simp [T.wfL, htw]⟩
end Go.Proofs.Ytaahjegdcahccaa
