/- The program mirrors a tree. -/
import Derived.Test.YtoeebipahifpcaaGreatKTextI
import Derived.Test.YtoeebipahifpcaaGreatKReadA
import Derived.Test.YtoeebipahifpcaaGreatKMirrorS
namespace Go.Proofs.YtoeebipahifpcaaGreat
open Go.RowKit

theorem assert_node (v : Value) (w : World) : (Instr.typeAssert (.iface 105 v) 113 105 true).run Tryz.prog w = .ok (.tuple #[v, .bool true]) w := by
  simp [Instr.typeAssert, run_underlying Tryz.underlying105]
theorem assert_leaf (v : Value) (w : World) : (Instr.typeAssert (.iface 106 v) 113 105 true).run Tryz.prog w = .ok (.tuple #[.pointer none, .bool false]) w := by
  have hz : (zeroValue 105).run Tryz.prog w = .ok (.pointer none) w := by kernel_rfl
  simp [Instr.typeAssert, run_underlying Tryz.underlying105, hz]

/-- A tree is handed back; what of it is new lies in new memory. -/
def NewI (t : T) (w : World) (e : Ending) (w' : World) : Prop :=
  Below w.heap.size w w' ∧ ∃ ty a, e = .returned (.iface ty (.pointer (some a))) ∧ RepI w' (fun b => w.heap.size ≤ b) t ty a

/-- Ahead of each round: the row in block G holds the mirrored kids from its end on. -/
def RowRel (w : World) (ks : List T) (k : Nat) (wr : World) : Prop :=
  ∃ cur : Array Value, wr.heap[w.heap.size]? = some (.cells cur 113 (0, 0)) ∧ cur.size = ks.length ∧
    (∀ i (h : i < ks.length), i < k → ∃ ty a, cur[ks.length - 1 - i]? = some (.iface ty (.pointer (some a))) ∧ RepI wr (fun b => w.heap.size + 1 ≤ b) (ks[i]).mirror ty a) ∧ Below w.heap.size w wr

theorem RowRel.next {w wr w1 : World} {ks : List T} {k : Nat} {ty : TypeId} {a : Addr} (h : RowRel w ks k wr) (hk : k < ks.length) (hwf : T.wfL ks) (hb : Below wr.heap.size wr w1)
    (hr : RepI w1 (fun b => wr.heap.size ≤ b) (ks[k]).mirror ty a) : RowRel w ks (k + 1) (w1.setCell ⟨w.heap.size, ks.length - 1 - k, none⟩ (.iface ty (.pointer (some a)))) := by
  obtain ⟨cur, hc, hs, hi, hB⟩ := h
  have hlt := (Array.getElem?_eq_some_iff.1 hc).1
  have hc1 : w1.heap[w.heap.size]? = some (.cells cur 113 (0, 0)) := (hb.block _ hlt).trans hc
  have hkeep : ∀ (w0 : World), Below w0.heap.size w0 w1 → Keeps (fun b => w.heap.size + 1 ≤ b) w0 (w1.setCell ⟨w.heap.size, ks.length - 1 - k, none⟩ (.iface ty (.pointer (some a)))) := by
    intro w0 hb0 q u hq hu
    rw [World.cell?_of_block (w := w0)]
    · exact hu
    · rw [Below.heap_setCell _ _ _ _ (by simp; omega), hb0.block _ (World.block_lt_of_cell? w0 q hu)]
  refine ⟨_, heap_setCell_same hc1 _, by simpa using hs, ?_, (hB.trans (hb.mono (by omega))).setCell (by simp) _⟩
  intro i h hik
  by_cases hi2 : i < k
  · obtain ⟨ty', a', e1, e2⟩ := hi i h hi2
    refine ⟨ty', a', ?_, e2.keep (hkeep wr hb) (fun _ h _ => h) (mirror_wf _ (wfL_get hwf i h))⟩
    rw [Array.getElem?_setIfInBounds, if_neg (by omega)]; exact e1
  · have hie : i = k := by omega
    subst hie
    refine ⟨ty, a, ?_, hr.keep (Keeps.mono (hkeep w1 (Below.refl _ _)) (fun b h => by omega)) (fun b h _ => by omega) (mirror_wf _ (wfL_get hwf i h))⟩
    rw [Array.getElem?_setIfInBounds, if_pos rfl, if_pos (by omega)]

end Go.Proofs.YtoeebipahifpcaaGreat
