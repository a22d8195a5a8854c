/- The model: a tree in the place of a part. -/
import Derived.Test.YtoeebipahifpcaaGreatKPartS
import Derived.Deep.AppendLies
import Derived.Deep.RegionLaw
namespace Go.Proofs.YtoeebipahifpcaaGreat
open Go.RowKit

/-- A tree is handed back, made of what came in and of new memory. -/
def NewSP (P : Nat → Prop) (t : T) (w : World) (e : Ending) (w' : World) : Prop :=
  Below w.heap.size w w' ∧ ∃ (lb : ByteArray) (sa : Option Addr) (sn sc : Nat), e = .returned (.agg #[.string lb, .slice sa sn sc]) ∧ RepS w' (fun b => P b ∨ w.heap.size ≤ b) t (.string lb) (.slice sa sn sc)

theorem grown_frozen' {w w' : World} {row : Option Nat} {a : Addr} {v : Value} (hg : w.grownBy w' row) (h : w.cell? a = some v) (hf : w.frozen? a = false) (hne : some a.block ≠ row) : w'.frozen? a = false :=
  (World.frozen?_of_block (hg.block a.block (World.block_lt_of_cell? w a h) hne)).trans hf

/-- What holds ahead of each round. -/
def ReplRel (P : Nat → Prop) (w : World) (c : UInt8) (v0 : Value) (lu su : Value) (acc : List T) (va : Option Addr) (vc : Nat) (xs : List Value) (wr : World) : Prop :=
  OutRel P (w.heap.size + 1 + 1 + 1 + 1) (w.heap.size + 1 + 1 + 1) c acc (.slice va acc.length vc) xs wr ∧
  wr.heap[w.heap.size]? = some (.cells #[.string ⟨#[c]⟩, v0] 66 (0, 0)) ∧
  wr.heap[w.heap.size + 1]? = some (.cells #[lu, su] 66 (0, 0)) ∧
  wr.heap[w.heap.size + 1 + 1]? = some (.cells #[.string ⟨#[]⟩, .slice none 0 0] 66 (0, 0)) ∧
  w.heap.size + 1 + 1 + 1 + 1 ≤ wr.heap.size ∧ Below w.heap.size w wr

/-- A kid more, whether it was made or taken as it lay. -/
theorem ReplRel.next {P : Nat → Prop} {w : World} {c : UInt8} {v0 lu su : Value} {acc : List T} {va : Option Addr} {vc : Nat} {xs : List Value} {wr w1 w1' w2 : World} {t : T} {lb : ByteArray} {sa : Option Addr} {sn sc g cap : Nat}
    (h : ReplRel P w c v0 lu su acc va vc xs wr) (hb1 : Below wr.heap.size wr w1) (hrep : RepS w1 (fun b => P b ∨ wr.heap.size ≤ b) t (.string lb) (.slice sa sn sc)) (htw : t.wf) (hb2 : Below w1.heap.size w1 w1')
    (hown : w2.ownsRow (w.heap.size + 1 + 1 + 1 + 1) 66 2 (.slice (some ⟨g, 0, none⟩) (acc.length + 1) cap) (acc.length + 1) (xs ++ [.string lb, .slice sa sn sc]))
    (hg : w1'.grownBy w2 (Value.slice va acc.length vc).ownBlock) (hf : (Value.slice va acc.length vc).ownBlock = some g ∨ w1.heap.size ≤ g) :
    ReplRel P w c v0 lu su (acc ++ [t]) (some ⟨g, 0, none⟩) cap (xs ++ [.string lb, .slice sa sn sc]) (w2.setCell ⟨w.heap.size + 1 + 1 + 1, 1, none⟩ (.slice (some ⟨g, 0, none⟩) (acc.length + 1) cap)) := by
  obtain ⟨ho, h0, h1, h2, hs, hB⟩ := h
  have hs1 := hb1.size
  have hs2 := hb2.size
  have hs3 := hg.size
  have hown0 := ho.2.2.2.1.lt
  have hblk : ∀ b, b < w.heap.size + 1 + 1 + 1 → (w2.setCell ⟨w.heap.size + 1 + 1 + 1, 1, none⟩ (.slice (some ⟨g, 0, none⟩) (acc.length + 1) cap)).heap[b]? = wr.heap[b]? := by
    intro b hb
    rw [Below.heap_setCell _ _ _ _ (by simp; omega), hg.block b (by omega) (fun e => by have := (hown0 b e.symm).1; omega), hb2.block _ (by omega), hb1.block b (by omega)]
  refine ⟨?_, (hblk _ (by omega)).trans h0, (hblk _ (by omega)).trans h1, (hblk _ (by omega)).trans h2, by simp; omega, ?_⟩
  · have := ho.next hs hb1 hrep htw hb2 hown hg hf
    rw [List.length_append]
    exact this
  · exact ((((hB.trans (hb1.mono (by omega))).trans (hb2.mono (by omega))).grown hg (by omega) (fun q e => by have := (hown0 q e).1; omega))).setCell (p := ⟨w.heap.size + 1 + 1 + 1, 1, none⟩) (by simp; omega) _

end Go.Proofs.YtoeebipahifpcaaGreat
