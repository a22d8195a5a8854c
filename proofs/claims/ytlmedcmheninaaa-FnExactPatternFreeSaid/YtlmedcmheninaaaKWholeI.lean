/- Merged out of: XWholeI, XLawWhole. -/
import Derived.Test.YtlmedcmheninaaaKWholeS
import Derived.Test.YtlmedcmheninaaaKStrs
section
/- TreeWhole by the program. -/
namespace Go.Proofs.Ytlmedcmheninaaa
open Go.RowKit

/-- Ahead of each round: the row in block g holds the trees that were read. -/
def WRel (base g n : Nat) (us : List T) (wr : World) : Prop :=
  ∃ cur : Array Value, wr.heap[g]? = some (.cells cur 91 (0, 0)) ∧ cur.size = n ∧
    (∀ j (h : j < us.length), ∃ ty a, cur[j]? = some (.iface ty (.pointer (some a))) ∧ RepI wr (fun b => base ≤ b ∧ b ≠ g) us[j] ty a) ∧ T.wfL us

theorem WRel.next {base g n : Nat} {us : List T} {wr w1 : World} {t : T} {ty : TypeId} {a : Addr} (h : WRel base g n us wr) (hb : Below wr.heap.size wr w1) (hbw : base ≤ wr.heap.size) (hr : RepI w1 (fun b => wr.heap.size ≤ b) t ty a) (htw : t.wf) (hl : us.length < n) :
    WRel base g n (us ++ [t]) (w1.setCell ⟨g, us.length, none⟩ (.iface ty (.pointer (some a)))) := by
  obtain ⟨cur, hc, hs, hj, hwf⟩ := h
  have hlt := (Array.getElem?_eq_some_iff.1 hc).1
  have hc1 : w1.heap[g]? = some (.cells cur 91 (0, 0)) := (hb.block _ hlt).trans hc
  have hkeep : ∀ (w0 : World) (P : Nat → Prop), (∀ b, P b → b ≠ g) → Below w0.heap.size w0 w1 → Keeps P w0 (w1.setCell ⟨g, us.length, none⟩ (.iface ty (.pointer (some a)))) := by
    intro w0 P hP hb0 q u hq hu
    rw [World.cell?_of_block (w := w0)]
    · exact hu
    · rw [Below.heap_setCell _ _ _ _ (hP _ hq), hb0.block _ (World.block_lt_of_cell? w0 q hu)]
  refine ⟨_, heap_setCell_same hc1 _, by simpa using hs, ?_, by rw [wfL_append]; exact ⟨hwf, by simp [T.wfL, htw]⟩⟩
  intro j hj'
  by_cases hjl : j < us.length
  · obtain ⟨ty', a', e1, e2⟩ := hj j hjl
    refine ⟨ty', a', by rw [Array.getElem?_setIfInBounds, if_neg (by omega)]; exact e1, ?_⟩
    rw [List.getElem_append_left hjl]
    exact e2.keep (hkeep wr _ (fun b h => h.2) hb) (fun _ h _ => h) (wfL_get hwf j hjl)
  · have hje : j = us.length := by simp at hj'; omega
    subst hje
    refine ⟨ty, a, by rw [Array.getElem?_setIfInBounds, if_pos rfl, if_pos (by omega)], ?_⟩
    rw [List.getElem_append_right (by omega)]
    simp only [Nat.sub_self, List.getElem_singleton]
    exact hr.keep (hkeep w1 _ (fun b h => by omega) (Below.refl _ _)) (fun b h _ => by omega) htw

end Go.Proofs.Ytlmedcmheninaaa
end
section
/- TreeWhole: the law. -/
namespace Go.Proofs.Ytlmedcmheninaaa
open Go.RowKit

end Go.Proofs.Ytlmedcmheninaaa
end
