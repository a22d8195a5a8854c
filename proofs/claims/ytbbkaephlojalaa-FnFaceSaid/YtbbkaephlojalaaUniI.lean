/- The program lays one tree over another. -/
import Derived.Test.YtbbkaephlojalaaKPatM
import Derived.Test.YtbbkaephlojalaaMirrorI
import Derived.Deep.QuietTactic
import Derived.BigQuiet
namespace Go.Proofs.Ytbbkaephlojalaa
open Go.RowKit

/-- What 'overlay' answers. -/
def UnI (P : Nat → Prop) (o : Option T) (w : World) (e : Ending) (w' : World) : Prop :=
  Below w.heap.size w w' ∧ ((o = none ∧ e = .returned (.tuple #[.nilIface, .bool false])) ∨
    ∃ t ty a, o = some t ∧ e = .returned (.tuple #[.iface ty (.pointer (some a)), .bool true]) ∧ RepI w' (fun b => P b ∨ w.heap.size ≤ b) t ty a)

theorem UnI.form {P : Nat → Prop} {o : Option T} {w w' : World} {e : Ending} (h : UnI P o w e w') : Below w.heap.size w w' ∧ ∃ v b, e = .returned (.tuple #[v, .bool b]) ∧
    ((o = none ∧ v = .nilIface ∧ b = false) ∨ ∃ t ty a, o = some t ∧ v = .iface ty (.pointer (some a)) ∧ b = true ∧ RepI w' (fun b => P b ∨ w.heap.size ≤ b) t ty a) := by
  obtain ⟨hB, ⟨h1, h2⟩ | ⟨t, ty, a, h1, h2, h3⟩⟩ := h
  · exact ⟨hB, _, _, h2, .inl ⟨h1, rfl, rfl⟩⟩
  · exact ⟨hB, _, _, h2, .inr ⟨t, ty, a, h1, rfl, rfl, h3⟩⟩

/-- Ahead of each round: the row in the first new block holds the kids laid over each other. -/
def URel (P : Nat → Prop) (w : World) (ks js : List T) (k : Nat) (wr : World) : Prop :=
  ∃ (cur : Array Value) (acc : List T), wr.heap[w.heap.size]? = some (.cells cur 34 (0, 0)) ∧ cur.size = ks.length ∧ acc.length = k ∧ T.uniteL (ks.take k) (js.take k) = some acc ∧ T.wfL acc ∧
    (∀ i (h : i < acc.length), ∃ ty a, cur[i]? = some (.iface ty (.pointer (some a))) ∧ RepI wr (fun b => P b ∨ w.heap.size + 1 ≤ b) acc[i] ty a) ∧ Below w.heap.size w wr

theorem URel.next {P : Nat → Prop} {w wr w1 : World} {ks js : List T} {k : Nat} {u : T} {ty : TypeId} {a : Addr} (h : URel P w ks js k wr) (hP : ∀ b, P b → b < w.heap.size) (hk : k < ks.length) (hj : k < js.length) (hu : (ks[k]).unite (js[k]) = some u) (huw : u.wf) (hb : Below wr.heap.size wr w1)
    (hr : RepI w1 (fun b => P b ∨ wr.heap.size ≤ b) u ty a) : URel P w ks js (k + 1) (w1.setCell ⟨w.heap.size, k, none⟩ (.iface ty (.pointer (some a)))) := by
  obtain ⟨cur, acc, hc, hs, hal, hun, hwf, hi, hB⟩ := h
  have hlt := (Array.getElem?_eq_some_iff.1 hc).1
  have hc1 : w1.heap[w.heap.size]? = some (.cells cur 34 (0, 0)) := (hb.block _ hlt).trans hc
  have hkeep : ∀ (w0 : World), Below w0.heap.size w0 w1 → Keeps (fun b => P b ∨ w.heap.size + 1 ≤ b) w0 (w1.setCell ⟨w.heap.size, k, none⟩ (.iface ty (.pointer (some a)))) := by
    intro w0 hb0 q u hq hu
    rw [World.cell?_of_block (w := w0)]
    · exact hu
    · have : q.block ≠ w.heap.size := by
        rcases hq with h | h
        · have := hP _ h; omega
        · omega
      rw [Below.heap_setCell _ _ _ _ this, hb0.block _ (World.block_lt_of_cell? w0 q hu)]
  refine ⟨_, acc ++ [u], heap_setCell_same hc1 _, by simpa using hs, by simp [hal], uniteL_snoc ks js k acc u hk hj hun hu, by rw [wfL_append]; exact ⟨hwf, by rw [T.wfL, T.wfL]; exact ⟨huw, trivial⟩⟩, ?_, (hB.trans (hb.mono (by omega))).setCell (by simp) _⟩
  intro i h
  by_cases hi2 : i < acc.length
  · obtain ⟨ty', a', e1, e2⟩ := hi i hi2
    rw [List.getElem_append_left hi2]
    refine ⟨ty', a', ?_, e2.keep (hkeep wr hb) (fun _ h _ => h) (wfL_get hwf i hi2)⟩
    rw [Array.getElem?_setIfInBounds, if_neg (by omega)]; exact e1
  · have hie : i = acc.length := by simp at h; omega
    subst hie
    rw [List.getElem_append_right (by omega)]
    simp only [Nat.sub_self, List.getElem_singleton]
    refine ⟨ty, a, ?_, hr.keep (Keeps.mono (hkeep w1 (Below.refl _ _)) (fun b h => by rcases h with h | h; exact .inl h; exact .inr (by omega))) (fun b h _ => by rcases h with h | h; exact .inl h; exact .inr (by omega)) huw⟩
    rw [Array.getElem?_setIfInBounds, if_pos hal.symm, if_pos (by omega)]

end Go.Proofs.Ytbbkaephlojalaa
