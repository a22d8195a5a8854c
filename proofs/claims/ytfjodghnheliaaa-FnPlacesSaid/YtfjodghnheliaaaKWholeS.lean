/- Merged out of: XWhole, XWholeS. -/
import Derived.Test.YtfjodghnheliaaaLawGraft
import Derived.Test.YtfjodghnheliaaaKPathsI
section
/- A tree grafted at all leaves: what is answered; the model's list of parsed trees. -/
namespace Go.Proofs.Ytfjodghnheliaaa
open Go.RowKit

def parseAll : List (List UInt8) → Option (List T)
  | [] => some []
  | p :: r => match parse p, parseAll r with
    | some u, some us => some (u :: us)
    | _, _ => none

theorem parseAll_some : ∀ (ps : List (List UInt8)) (us : List T), us.length = ps.length → (∀ j (h : j < ps.length) (h' : j < us.length), parse ps[j] = some us[j]) → parseAll ps = some us
  | [], [], _, _ => rfl
  | [], _ :: _, h, _ => by simp at h
  | _ :: _, [], h, _ => by simp at h
  | p :: ps, u :: us, h, hj => by
    have h0 : parse p = some u := hj 0 (by simp) (by simp)
    have h1 := parseAll_some ps us (by simpa using h) (fun j hp hu => by have := hj (j + 1) (by simp; omega) (by simp; omega); simpa using this)
    simp only [parseAll, h0, h1]

theorem parseAll_none : ∀ (ps : List (List UInt8)) (j : Nat) (h : j < ps.length), parse ps[j] = none → parseAll ps = none
  | [], _, h, _ => by simp at h
  | p :: ps, 0, _, hj => by
    have h0 : parse p = none := hj
    simp only [parseAll, h0]
  | p :: ps, j + 1, h, hj => by
    have h1 := parseAll_none ps j (by simpa using h) (by simpa using hj)
    simp only [parseAll, h1]
    cases parse p <;> rfl

/-- What is grafted. -/
def wholeOf (s : List UInt8) (ps : List (List UInt8)) : Option T :=
  match parse s with
  | none => none
  | some t => if ps.length = t.leaves then (match parseAll ps with | some us => some (t.fill us) | none => none) else none

theorem wholeOf_no {s : List UInt8} {ps : List (List UInt8)} (h : parse s = none) : wholeOf s ps = none := by simp [wholeOf, h]
theorem wholeOf_len {s : List UInt8} {ps : List (List UInt8)} {t : T} (h : parse s = some t) (hl : ps.length ≠ t.leaves) : wholeOf s ps = none := by
  simp only [wholeOf, h]; rw [if_neg hl]
theorem wholeOf_bad {s : List UInt8} {ps : List (List UInt8)} {j : Nat} (h : j < ps.length) (hj : parse ps[j] = none) : wholeOf s ps = none := by
  have := parseAll_none ps j h hj
  cases hp : parse s with
  | none => exact wholeOf_no hp
  | some t =>
    simp only [wholeOf, hp, this]
    split <;> rfl
theorem wholeOf_yes {s : List UInt8} {ps : List (List UInt8)} {t : T} {us : List T} (h : parse s = some t) (hl : ps.length = t.leaves) (hu : us.length = ps.length) (hj : ∀ j (h : j < ps.length) (h' : j < us.length), parse ps[j] = some us[j]) : wholeOf s ps = some (t.fill us) := by
  simp only [wholeOf, h, parseAll_some ps us hu hj]; rw [if_pos hl]

/-- The model's row of trees. -/
def ListRel (base : Nat) (acc : List T) (va : Option Addr) (vc : Nat) (xs : List Value) (wr : World) : Prop :=
  wr.ownsRow base 70 2 (.slice va acc.length vc) acc.length xs ∧
  (∀ k (h : k < acc.length), ∃ l sl, xs[k * 2]? = some l ∧ xs[k * 2 + 1]? = some sl ∧ RepS wr (fun b => base ≤ b ∧ (Value.slice va acc.length vc).ownBlock ≠ some b) acc[k] l sl) ∧
  T.wfL acc

theorem ListRel.next {base : Nat} {acc : List T} {va : Option Addr} {vc : Nat} {xs : List Value} {wr w1 w1' w2 : World} {t : T} {lb : ByteArray} {sa : Option Addr} {sn sc g cap : Nat}
    (h : ListRel base acc va vc xs wr) (hbw : base ≤ wr.heap.size) (hb1 : Below wr.heap.size wr w1) (hrep : RepS w1 (fun b => wr.heap.size ≤ b) t (.string lb) (.slice sa sn sc)) (htw : t.wf)
    (hb2 : Below w1.heap.size w1 w1')
    (hown : w2.ownsRow base 70 2 (.slice (some ⟨g, 0, none⟩) (acc.length + 1) cap) (acc.length + 1) (xs ++ [.string lb, .slice sa sn sc]))
    (hg : w1'.grownBy w2 (Value.slice va acc.length vc).ownBlock) (hf : (Value.slice va acc.length vc).ownBlock = some g ∨ w1.heap.size ≤ g) :
    ListRel base (acc ++ [t]) (some ⟨g, 0, none⟩) cap (xs ++ [.string lb, .slice sa sn sc]) w2 := by
  obtain ⟨own, reps, hwf⟩ := h
  have hsz := hb1.size
  have hsz2 := hb2.size
  have hown0 := own.lt
  have hxl : xs.length = acc.length * 2 := own.1
  have hblk : ∀ b, b < w1.heap.size → (Value.slice va acc.length vc).ownBlock ≠ some b → w2.heap[b]? = w1.heap[b]? := by
    intro b hb hne
    rw [hg.block b (by omega) (fun e => hne e.symm), hb2.block b hb]
  refine ⟨by rw [List.length_append]; exact hown, ?_, by rw [wfL_append]; exact ⟨hwf, by simp [T.wfL, htw]⟩⟩
  intro k hk'
  rw [List.length_append]
  by_cases hka : k < acc.length
  · obtain ⟨l, sl, e1, e2, e3⟩ := reps k hka
    refine ⟨l, sl, by rw [List.getElem?_append_left (by omega)]; exact e1, by rw [List.getElem?_append_left (by omega)]; exact e2, ?_⟩
    rw [List.getElem_append_left hka]
    refine e3.keep (w := wr) ?_ ?_ (wfL_get hwf k hka)
    · intro a u ha hu
      have hab := World.block_lt_of_cell? wr a hu
      rw [World.cell?_of_block (hblk a.block (by omega) ha.2), World.cell?_of_block (hb1.block a.block hab)]
      exact hu
    · intro b hb hlt
      refine ⟨hb.1, fun e => ?_⟩
      simp only [Value.ownBlock, Option.some.injEq] at e
      subst e
      rcases hf with e | e
      · exact hb.2 e
      · omega
  · have hke : k = acc.length := by simp at hk'; omega
    subst hke
    refine ⟨.string lb, .slice sa sn sc, by rw [List.getElem?_append_right (by omega), hxl]; simp, by rw [List.getElem?_append_right (by omega), hxl]; simp, ?_⟩
    rw [List.getElem_append_right (by omega)]
    simp only [Nat.sub_self, List.getElem_singleton]
    have hneo : ∀ b, wr.heap.size ≤ b → (Value.slice va acc.length vc).ownBlock ≠ some b := fun b hb e => by
      have h1 := hown0 b e
      omega
    refine hrep.keep (w := w1) ?_ ?_ htw
    · intro a u ha hu
      have hab := World.block_lt_of_cell? w1 a hu
      rw [World.cell?_of_block (hblk a.block hab (hneo _ ha))]
      exact hu
    · intro b hb hlt
      refine ⟨by omega, fun e => ?_⟩
      simp only [Value.ownBlock, Option.some.injEq] at e
      subst e
      rcases hf with e | e
      · exact hneo _ hb e
      · omega

/-- The row is made: how its trees lie. -/
theorem ListRel.rep {base : Nat} {acc : List T} {va : Option Addr} {vc : Nat} {xs : List Value} {wr : World}
    (h : ListRel base acc va vc xs wr) (h1 : 1 ≤ acc.length) : ∃ g, va = some ⟨g, 0, none⟩ ∧ base ≤ g ∧ g < wr.heap.size ∧ acc.length ≤ vc ∧ vc ≤ 9223372036854775807 ∧ RepSL wr (fun b => base ≤ b) acc g 0 := by
  obtain ⟨own, reps, hwf⟩ := h
  have own0 := own
  rcases own.2 with ⟨_, e⟩ | ⟨g, cap, cur, e, hbg, hgg, hnc, hcm, hcs, htake⟩
  · omega
  · simp only [Value.slice.injEq] at e
    obtain ⟨rfl, _, rfl⟩ := e
    refine ⟨g, rfl, hbg, (Array.getElem?_eq_some_iff.1 hgg).1, hnc, by simpa [maxLen] using hcm, RepSL.of_get fun k hk' => ?_⟩
    obtain ⟨l, sl, e1, e2, e3⟩ := reps k hk'
    have c1 := own0.cells (g := g) rfl (k * 2) l e1
    have c2 := own0.cells (g := g) rfl (k * 2 + 1) sl e2
    have ha : ∀ n, (⟨g, 0, none⟩ : Addr).add n = ⟨g, n, none⟩ := fun n => by unfold Addr.add; split <;> simp_all
    rw [ha] at c1 c2
    simp only [Nat.zero_add]
    exact ⟨l, sl, c1, c2, e3.keep (fun _ _ _ h => h) (fun b h _ => h.1) (wfL_get hwf k hk')⟩

theorem ListRel.start (w : World) (base : Nat) (hb : base ≤ w.heap.size) : ListRel base [] (some ⟨w.heap.size, 0, none⟩) 0 [] (w.alloc (.cells #[] 70)) := by
  refine ⟨?_, fun k h => by simp at h, by simp [T.wfL]⟩
  have := World.ownsRow_made (base := base) (e := 70) (size := 2) w #[] 0 (by omega) (by simp [maxLen]) rfl
  exact this

theorem sizes_of {us : List T} {ps : List (List UInt8)} (hu : us.length = ps.length) (hj : ∀ j (h : j < ps.length) (h' : j < us.length), parse ps[j] = some us[j]) : ∀ u ∈ us, u.leaves ≤ 12 ∧ u.nodes ≤ 16 := by
  intro u hm
  obtain ⟨j, hj', rfl⟩ := List.getElem_of_mem hm
  have := parse_some (hj j (by omega) hj')
  exact this.2.2
end Go.Proofs.Ytfjodghnheliaaa
end
section
/- TreeWhole by the model. -/
namespace Go.Proofs.Ytfjodghnheliaaa
open Go.RowKit

end Go.Proofs.Ytfjodghnheliaaa
end
