/- Merged out of: XKFillS, XKFillI. -/
import Derived.Test.YtoeebipahifpcaaGreatTree
import Derived.Test.YtoeebipahifpcaaGreatReplS
import Derived.Test.YtoeebipahifpcaaGreatMirrorI
import Derived.Test.YtoeebipahifpcaaGreatKReadA
section
/- Merged out of: XFill, XFillS. -/
section
/- Trees in the places of a tree's leaves, plainly. -/
namespace Go.Proofs.YtoeebipahifpcaaGreat

mutual
def T.fill : T → List T → T
  | .leaf, us => us.headD .leaf
  | .node c ks, us => .node c (T.fillL ks us)
def T.fillL : List T → List T → List T
  | [], _ => []
  | t :: ts, us => t.fill us :: T.fillL ts (us.drop t.leaves)
end

theorem fillL_length : ∀ (ks us : List T), (T.fillL ks us).length = ks.length
  | [], _ => by simp [T.fillL]
  | t :: ts, us => by simp [T.fillL, fillL_length ts]

theorem fillL_get : ∀ (ks us : List T) (i : Nat) (h : i < ks.length), (T.fillL ks us)[i]'(by rw [fillL_length]; exact h) = (ks[i]).fill (us.drop (T.leavesL (ks.take i)))
  | [], _, _, h => by simp at h
  | t :: ts, us, 0, _ => by simp [T.fillL, T.leavesL]
  | t :: ts, us, i + 1, h => by
    have ih := fillL_get ts (us.drop t.leaves) i (by simpa using h)
    simp only [T.fillL, List.getElem_cons_succ, List.take_succ_cons, T.leavesL]
    rw [ih, List.drop_drop]

mutual
/-- Only the first trees count, one a leaf. -/
theorem fill_take : ∀ (t : T) (us : List T) (n : Nat), t.wf → t.leaves ≤ n → t.fill (us.take n) = t.fill us
  | .leaf, [], n, _, _ => by simp [T.fill]
  | .leaf, u :: us, n, _, h => by
    rw [T.leaves] at h
    obtain ⟨m, rfl⟩ : ∃ m, n = m + 1 := ⟨n - 1, by omega⟩
    simp [T.fill]
  | .node c ks, us, n, hw, h => by
    rw [T.wf] at hw
    rw [T.leaves] at h
    rw [T.fill, T.fill, fillL_take ks us n hw.2.2.2.2 h]
theorem fillL_take : ∀ (ks us : List T) (n : Nat), T.wfL ks → T.leavesL ks ≤ n → T.fillL ks (us.take n) = T.fillL ks us
  | [], _, _, _, _ => by simp [T.fillL]
  | t :: ts, us, n, hw, h => by
    rw [T.wfL] at hw
    rw [T.leavesL] at h
    rw [T.fillL, T.fillL, fill_take t us n hw.1 (by omega), List.drop_take, fillL_take ts _ _ hw.2 (by omega)]
end

mutual
theorem fill_wf : ∀ (t : T) (us : List T), t.wf → T.wfL us → (t.fill us).wf
  | .leaf, [], _, _ => by simp [T.fill, T.wf]
  | .leaf, u :: us, _, h => by rw [T.wfL] at h; simp only [T.fill, List.headD_cons]; exact h.1
  | .node c ks, us, hw, h => by
    rw [T.wf] at hw
    rw [T.fill, T.wf, fillL_length]
    exact ⟨hw.1, hw.2.1, hw.2.2.1, hw.2.2.2.1, fillL_wf ks us hw.2.2.2.2 h⟩
theorem fillL_wf : ∀ (ks us : List T), T.wfL ks → T.wfL us → T.wfL (T.fillL ks us)
  | [], _, _, _ => by simp [T.fillL, T.wfL]
  | t :: ts, us, hw, h => by
    rw [T.wfL] at hw
    rw [T.fillL, T.wfL]
    have hd : T.wfL (us.drop t.leaves) := by
      have := wfL_append (us.take t.leaves) (us.drop t.leaves)
      rw [List.take_append_drop] at this
      exact (this.1 h).2
    exact ⟨fill_wf t us hw.1 h, fillL_wf ts _ hw.2 hd⟩
end

mutual
theorem fill_size : ∀ (t : T) (us : List T) (M N : Nat), 1 ≤ M → (∀ u ∈ us, u.leaves ≤ M ∧ u.nodes ≤ N) → (t.fill us).leaves ≤ t.leaves * M ∧ (t.fill us).nodes ≤ t.nodes + t.leaves * N
  | .leaf, [], M, N, hM, _ => by simp [T.fill, T.leaves, T.nodes]; exact hM
  | .leaf, u :: us, M, N, hM, h => by
    have := h u (by simp)
    simp only [T.fill, List.headD_cons, T.leaves, T.nodes, Nat.one_mul, Nat.zero_add]
    exact this
  | .node c ks, us, M, N, hM, h => by
    have := fillL_size ks us M N hM h
    simp only [T.fill, T.leaves, T.nodes]
    exact ⟨this.1, by omega⟩
theorem fillL_size : ∀ (ks us : List T) (M N : Nat), 1 ≤ M → (∀ u ∈ us, u.leaves ≤ M ∧ u.nodes ≤ N) → T.leavesL (T.fillL ks us) ≤ T.leavesL ks * M ∧ T.nodesL (T.fillL ks us) ≤ T.nodesL ks + T.leavesL ks * N
  | [], _, M, N, _, _ => by simp [T.fillL, T.leavesL, T.nodesL]
  | t :: ts, us, M, N, hM, h => by
    have h1 := fill_size t us M N hM h
    have h2 := fillL_size ts (us.drop t.leaves) M N hM (fun u hu => h u (List.mem_of_mem_drop hu))
    simp only [T.fillL, T.leavesL, T.nodesL, Nat.add_mul]
    omega
end

/-- What is filled from trees of the document's size is small enough to be written. -/
theorem fill_len {t : T} {us : List T} (hl : t.leaves ≤ 12) (hn : t.nodes ≤ 16) (h : ∀ u ∈ us, u.leaves ≤ 12 ∧ u.nodes ≤ 16) : (t.fill us).leaves ≤ 144 ∧ (t.fill us).nodes ≤ 208 ∧ (t.fill us).text.length ≤ 100000 := by
  have h1 := fill_size t us 12 16 (by omega) h
  have h2 := text_length (t.fill us)
  omega

end Go.Proofs.YtoeebipahifpcaaGreat
end
section
/- The model puts trees in the places of a tree's leaves. -/
namespace Go.Proofs.YtoeebipahifpcaaGreat
open Go.RowKit

/-- A tree is handed back and the rest of the row, from where nobody has taken. -/
def FillS (P : Nat → Prop) (t : T) (ug uo un uc n : Nat) (w : World) (e : Ending) (w' : World) : Prop :=
  Below w.heap.size w w' ∧ ∃ (lb : ByteArray) (sa : Option Addr) (sn sc lo : Nat), e = .returned (.tuple #[.agg #[.string lb, .slice sa sn sc], .slice (some ⟨ug, lo, none⟩) (un - n) (uc - n)]) ∧ (n < uc → lo = (uo + n) * 2) ∧
    RepS w' (fun b => P b ∨ w.heap.size ≤ b) t (.string lb) (.slice sa sn sc)

theorem RepSL.drop {w : World} {P : Nat → Prop} {us : List T} {g i : Nat} (h : RepSL w P us g i) (n : Nat) : RepSL w P (us.drop n) g (i + n) := by
  refine RepSL.of_get fun j hj => ?_
  have hj' : n + j < us.length := by simp at hj; omega
  obtain ⟨l, s, e1, e2, e3⟩ := h.get (n + j) hj'
  rw [show i + n + j = i + (n + j) from by omega]
  exact ⟨l, s, e1, e2, by simpa using e3⟩

theorem wfL_dropS {ks : List T} (h : T.wfL ks) (k : Nat) : T.wfL (ks.drop k) := by
  have := wfL_append (ks.take k) (ks.drop k)
  rw [List.take_append_drop] at this
  exact (this.1 h).2

/-- What holds ahead of each round. -/
def FillRel (P : Nat → Prop) (w : World) (c : UInt8) (v0 : Value) (acc : List T) (va : Option Addr) (vc : Nat) (xs : List Value) (wr : World) : Prop :=
  OutRel P (w.heap.size + 1 + 1 + 1) (w.heap.size + 1 + 1) c acc (.slice va acc.length vc) xs wr ∧
  wr.heap[w.heap.size]? = some (.cells #[.string ⟨#[c]⟩, v0] 66 (0, 0)) ∧
  wr.heap[w.heap.size + 1]? = some (.cells #[.string ⟨#[]⟩, .slice none 0 0] 66 (0, 0)) ∧
  w.heap.size + 1 + 1 + 1 ≤ wr.heap.size ∧ Below w.heap.size w wr

/-- A kid more. -/
theorem FillRel.next {P : Nat → Prop} {w : World} {c : UInt8} {v0 : Value} {acc : List T} {va : Option Addr} {vc : Nat} {xs : List Value} {wr w1 w1' w2 : World} {t : T} {lb : ByteArray} {sa : Option Addr} {sn sc g cap : Nat}
    (h : FillRel P w c v0 acc va vc xs wr) (hb1 : Below wr.heap.size wr w1) (hrep : RepS w1 (fun b => P b ∨ wr.heap.size ≤ b) t (.string lb) (.slice sa sn sc)) (htw : t.wf) (hb2 : Below w1.heap.size w1 w1')
    (hown : w2.ownsRow (w.heap.size + 1 + 1 + 1) 66 2 (.slice (some ⟨g, 0, none⟩) (acc.length + 1) cap) (acc.length + 1) (xs ++ [.string lb, .slice sa sn sc]))
    (hg : w1'.grownBy w2 (Value.slice va acc.length vc).ownBlock) (hf : (Value.slice va acc.length vc).ownBlock = some g ∨ w1.heap.size ≤ g) :
    FillRel P w c v0 (acc ++ [t]) (some ⟨g, 0, none⟩) cap (xs ++ [.string lb, .slice sa sn sc]) (w2.setCell ⟨w.heap.size + 1 + 1, 1, none⟩ (.slice (some ⟨g, 0, none⟩) (acc.length + 1) cap)) := by
  obtain ⟨ho, h0, h1, hs, hB⟩ := h
  have hs1 := hb1.size
  have hs2 := hb2.size
  have hs3 := hg.size
  have hown0 := ho.2.2.2.1.lt
  have hblk : ∀ b, b < w.heap.size + 1 + 1 → (w2.setCell ⟨w.heap.size + 1 + 1, 1, none⟩ (.slice (some ⟨g, 0, none⟩) (acc.length + 1) cap)).heap[b]? = wr.heap[b]? := by
    intro b hb
    rw [Below.heap_setCell _ _ _ _ (by simp; omega), hg.block b (by omega) (fun e => by have := (hown0 b e.symm).1; omega), hb2.block _ (by omega), hb1.block b (by omega)]
  refine ⟨?_, (hblk _ (by omega)).trans h0, (hblk _ (by omega)).trans h1, by simp; omega, ?_⟩
  · have := ho.next hs hb1 hrep htw hb2 hown hg hf
    rw [List.length_append]
    exact this
  · exact ((((hB.trans (hb1.mono (by omega))).trans (hb2.mono (by omega))).grown hg (by omega) (fun q e => by have := (hown0 q e).1; omega))).setCell (p := ⟨w.heap.size + 1 + 1, 1, none⟩) (by simp; omega) _

end Go.Proofs.YtoeebipahifpcaaGreat
end
end
section
/- Merged out of: XFillI, XGraftI. -/
section
/- The program puts trees in the places of a tree's leaves. -/
namespace Go.Proofs.YtoeebipahifpcaaGreat
open Go.RowKit

/-- A tree is handed back, made of what came in and of new memory. -/
def NewIP (P : Nat → Prop) (t : T) (w : World) (e : Ending) (w' : World) : Prop :=
  Below w.heap.size w w' ∧ ∃ ty a, e = .returned (.iface ty (.pointer (some a))) ∧ RepI w' (fun b => P b ∨ w.heap.size ≤ b) t ty a

/-- Ahead of each round: the row in the first new block holds the filled kids. -/
def FRel (P : Nat → Prop) (w : World) (ks us : List T) (k : Nat) (wr : World) : Prop :=
  ∃ cur : Array Value, wr.heap[w.heap.size]? = some (.cells cur 113 (0, 0)) ∧ cur.size = ks.length ∧
    (∀ i (h : i < ks.length), i < k → ∃ ty a, cur[i]? = some (.iface ty (.pointer (some a))) ∧ RepI wr (fun b => P b ∨ w.heap.size + 1 ≤ b) ((ks[i]).fill (us.drop (T.leavesL (ks.take i)))) ty a) ∧ Below w.heap.size w wr

theorem wfL_drop {ks : List T} (h : T.wfL ks) (k : Nat) : T.wfL (ks.drop k) := by
  have := wfL_append (ks.take k) (ks.drop k)
  rw [List.take_append_drop] at this
  exact (this.1 h).2

theorem FRel.next {P : Nat → Prop} {w wr w1 : World} {ks us : List T} {k : Nat} {ty : TypeId} {a : Addr} (h : FRel P w ks us k wr) (hP : ∀ b, P b → b < w.heap.size) (hk : k < ks.length) (hwf : T.wfL ks) (huw : T.wfL us) (hb : Below wr.heap.size wr w1)
    (hr : RepI w1 (fun b => P b ∨ wr.heap.size ≤ b) ((ks[k]).fill (us.drop (T.leavesL (ks.take k)))) ty a) : FRel P w ks us (k + 1) (w1.setCell ⟨w.heap.size, k, none⟩ (.iface ty (.pointer (some a)))) := by
  obtain ⟨cur, hc, hs, hi, hB⟩ := h
  have hlt := (Array.getElem?_eq_some_iff.1 hc).1
  have hc1 : w1.heap[w.heap.size]? = some (.cells cur 113 (0, 0)) := (hb.block _ hlt).trans hc
  have hkeep : ∀ (w0 : World), Below w0.heap.size w0 w1 → Keeps (fun b => P b ∨ w.heap.size + 1 ≤ b) w0 (w1.setCell ⟨w.heap.size, k, none⟩ (.iface ty (.pointer (some a)))) := by
    intro w0 hb0 q u hq hu
    rw [World.cell?_of_block (w := w0)]
    · exact hu
    · have : q.block ≠ w.heap.size := by
        rcases hq with h | h
        · have := hP _ h; omega
        · omega
      rw [Below.heap_setCell _ _ _ _ this, hb0.block _ (World.block_lt_of_cell? w0 q hu)]
  refine ⟨_, heap_setCell_same hc1 _, by simpa using hs, ?_, (hB.trans (hb.mono (by omega))).setCell (by simp) _⟩
  intro i h hik
  by_cases hi2 : i < k
  · obtain ⟨ty', a', e1, e2⟩ := hi i h hi2
    refine ⟨ty', a', ?_, e2.keep (hkeep wr hb) (fun _ h _ => h) (fill_wf _ _ (wfL_get hwf i h) (wfL_drop huw _))⟩
    rw [Array.getElem?_setIfInBounds, if_neg (by omega)]; exact e1
  · have hie : i = k := by omega
    subst hie
    refine ⟨ty, a, ?_, hr.keep (Keeps.mono (hkeep w1 (Below.refl _ _)) (fun b h => by rcases h with h | h; exact .inl h; exact .inr (by omega))) (fun b h _ => by rcases h with h | h; exact .inl h; exact .inr (by omega)) (fill_wf _ _ (wfL_get hwf i h) (wfL_drop huw _))⟩
    rw [Array.getElem?_setIfInBounds, if_pos rfl, if_pos (by omega)]

/-- A tail of a row of trees. -/
theorem RepIL.drop {w : World} {P : Nat → Prop} {us : List T} {g i : Nat} (h : RepIL w P us g i) (n : Nat) : RepIL w P (us.drop n) g (i + n) := by
  refine RepIL.of_get fun j hj => ?_
  have hj' : n + j < us.length := by simp at hj; omega
  obtain ⟨ty, a, e1, e2⟩ := h.get (n + j) hj'
  refine ⟨ty, a, by rw [← e1]; congr 2; omega, ?_⟩
  simpa using e2
theorem RepIL.take {w : World} {P : Nat → Prop} {us : List T} {g i : Nat} (h : RepIL w P us g i) (n : Nat) : RepIL w P (us.take n) g i := by
  refine RepIL.of_get fun j hj => ?_
  have hj' : j < us.length := by simp at hj; omega
  obtain ⟨ty, a, e1, e2⟩ := h.get j hj'
  exact ⟨ty, a, e1, by simpa using e2⟩
theorem wfL_takeI {ks : List T} (h : T.wfL ks) (k : Nat) : T.wfL (ks.take k) := by
  have := wfL_append (ks.take k) (ks.drop k)
  rw [List.take_append_drop] at this
  exact (this.1 h).1

end Go.Proofs.YtoeebipahifpcaaGreat
end
section
/- The program grafts a tree at a leaf, and writes a tree that is small enough. -/
namespace Go.Proofs.YtoeebipahifpcaaGreat
open Go.RowKit

/-- Leaves, with a tree at k. -/
def oneIn (n k : Nat) (u : T) : List T := (List.replicate n T.leaf).set k u

theorem oneIn_length (n k : Nat) (u : T) : (oneIn n k u).length = n := by simp [oneIn]
theorem oneIn_get {n k : Nat} {u : T} {j : Nat} (h : j < (oneIn n k u).length) : (oneIn n k u)[j] = if k = j then u else T.leaf := by
  simp only [oneIn, List.getElem_set, List.getElem_replicate]
theorem wfL_of {ks : List T} (h : ∀ (j : Nat) (hj : j < ks.length), (ks[j]).wf) : T.wfL ks := by
  induction ks with
  | nil => simp [T.wfL]
  | cons k ks ih =>
    rw [T.wfL]
    exact ⟨h 0 (by simp), ih (fun j hj => by have := h (j + 1) (by simpa using hj); simpa using this)⟩
theorem oneIn_wf {n k : Nat} {u : T} (hu : u.wf) : T.wfL (oneIn n k u) := wfL_of fun j hj => by
  rw [oneIn_get hj]
  split
  · exact hu
  · simp [T.wf]
theorem oneIn_size {n k : Nat} {u : T} (hl : u.leaves ≤ 12) (hn : u.nodes ≤ 16) : ∀ v ∈ oneIn n k u, v.leaves ≤ 12 ∧ v.nodes ≤ 16 := by
  intro v hv
  obtain ⟨j, hj, rfl⟩ := List.getElem_of_mem hv
  rw [oneIn_get hj]
  split
  · exact ⟨hl, hn⟩
  · simp [T.leaves, T.nodes]

/-- Ahead of each round: so many cells hold a leaf. -/
def LRel (w : World) (n i : Nat) (wr : World) : Prop :=
  ∃ cur : Array Value, wr.heap[w.heap.size]? = some (.cells cur 113 (0, 0)) ∧ cur.size = n ∧
    (∀ j, j < n → j < i → ∃ a, cur[j]? = some (.iface 106 (.pointer (some a)))) ∧ Below w.heap.size w wr

theorem LRel.next {w wr : World} {n i : Nat} {a : Addr} {X : Obj} (h : LRel w n i wr) (hi : i < n) :
    LRel w n (i + 1) ((wr.setCell ⟨w.heap.size, i, none⟩ (.iface 106 (.pointer (some a)))).alloc X) := by
  obtain ⟨cur, hc, hs, hl, hB⟩ := h
  have hlt := (Array.getElem?_eq_some_iff.1 hc).1
  refine ⟨_, (Below.heap_alloc _ _ _ (by simp; omega)).trans (heap_setCell_same hc _), by simpa using hs, ?_, (hB.setCell (by simp) _).alloc (by simp; omega) _⟩
  intro j hj hji
  by_cases e : j = i
  · subst e
    exact ⟨a, by rw [Array.getElem?_setIfInBounds, if_pos rfl, if_pos (by omega)]⟩
  · obtain ⟨a', e'⟩ := hl j hj (by omega)
    exact ⟨a', by rw [Array.getElem?_setIfInBounds, if_neg (by omega)]; exact e'⟩

end Go.Proofs.YtoeebipahifpcaaGreat
end
end
