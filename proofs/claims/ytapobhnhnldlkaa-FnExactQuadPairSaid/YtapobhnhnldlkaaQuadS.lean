/- The model's quadratic trees. -/
import Derived.Test.YtapobhnhnldlkaaTrS
import Derived.Test.YtapobhnhnldlkaaKSignS
namespace Go.Proofs.Ytapobhnhnldlkaa
open Go.RowKit

def TxG (w : World) (g : Nat) (ss : List ByteArray) : Prop := ∀ j (h : j < ss.length), w.cell? ⟨g, j, none⟩ = some (.string ss[j])
theorem TxG.below {w w' : World} {g : Nat} {ss : List ByteArray} (h : TxG w g ss) (hb : Below w.heap.size w w') : TxG w' g ss := fun j hj => keep1 hb (h j hj)
theorem TxG.of_lies {w : World} {g : Nat} {ss : List ByteArray} (h : Lies w (some ⟨g, 0, none⟩) (txl ss)) : TxG w g ss := fun j hj => by
  obtain ⟨g', e, hc⟩ := h j (by rw [txl_length]; exact hj)
  cases e
  rw [hc]
  simp only [txl, List.getElem_map, Array.toArray_toList]

/-! Which letters, step by step. -/
theorem lettersOf_bad {ss : List ByteArray} {k : Nat} (h : letAll (ss.take k) = none) : lettersOf ss = none := by
  unfold lettersOf; split
  · exact letAll_none h
  · rfl
theorem let_bad {ss : List ByteArray} {i : Nat} (hi : i < ss.length) (h : letOne (ss[i]).data.toList = none) : lettersOf ss = none :=
  lettersOf_bad (k := i + 1) (by rw [letAll_take hi, letStep_no _ h])
theorem let_dup {ss : List ByteArray} {i k : Nat} (hi : i < ss.length) (hk : k < i) (h : ss[k]'(by omega) = ss[i]) : lettersOf ss = none := by
  apply lettersOf_bad (k := i + 1)
  rw [letAll_take hi]
  cases ha : letAll (ss.take i) with
  | none => unfold letStep; rfl
  | some ds =>
    cases ho : letOne (ss[i]).data.toList with
    | none => exact letStep_no _ ho
    | some c =>
      apply letStep_twice ho
      have h1 := letAll_ok _ _ _ rfl ha
      have h2 : (ss.take i)[k]'(by rw [List.length_take]; omega) = ss[i] := by rw [List.getElem_take]; exact h
      have h3 := h1.txt
      have hlen : ds.length = i := by
        have := congrArg List.length h3
        rw [List.length_take, List.length_map] at this; omega
      have h4 : (ss.take i)[k]'(by rw [List.length_take]; omega) = ⟨#[ds[k]'(by omega)]⟩ := by
        rw [List.getElem_of_eq h3]; simp
      have h5 : ss[i] = ⟨#[ds[k]'(by omega)]⟩ := by rw [← h2, h4]
      have h6 := (letOne_some ho).1
      rw [h5] at h6
      simp only [List.cons.injEq, and_true] at h6
      rw [← h6]
      exact List.getElem_mem _
theorem let_next {ss : List ByteArray} {i : Nat} {c : UInt8} (hi : i < ss.length) (ha : (letAll (ss.take i)).isSome = true) (ho : letOne (ss[i]).data.toList = some c) (hn : ∀ k (h : k < i), ss[k]'(by omega) ≠ ss[i]) : (letAll (ss.take (i + 1))).isSome = true := by
  cases h : letAll (ss.take i) with
  | none => rw [h] at ha; cases ha
  | some ds =>
    rw [letAll_take hi, h, letStep_yes ho]
    · rfl
    · intro hc
      have h1 := letAll_ok _ _ _ rfl h
      obtain ⟨k, hk, e⟩ := List.getElem_of_mem hc
      have h3 := h1.txt
      have hlen : ds.length = i := by
        have := congrArg List.length h3
        rw [List.length_take, List.length_map] at this; omega
      apply hn k (by omega)
      have h4 : (ss.take i)[k]'(by rw [List.length_take]; omega) = ⟨#[ds[k]]⟩ := by
        rw [List.getElem_of_eq h3]; simp
      rw [List.getElem_take] at h4
      rw [h4, e, letOne_bytes ho]
theorem let_one_yes {c : UInt8} (h : 97 ≤ (c.toNat : Int) ∧ (c.toNat : Int) ≤ 104) : letOne (⟨#[c]⟩ : ByteArray).data.toList = some c := by
  simp only [letOne, if_pos h]
theorem let_one_no {c : UInt8} (h : ¬ (97 ≤ (c.toNat : Int) ∧ (c.toNat : Int) ≤ 104)) : letOne (⟨#[c]⟩ : ByteArray).data.toList = none := by
  simp only [letOne, if_neg h]
theorem let_one_size {s : ByteArray} (h : s.size ≠ 1) : letOne s.data.toList = none := by
  cases ho : letOne s.data.toList with
  | none => rfl
  | some c => exact absurd (by rw [letOne_bytes ho]; rfl) h
theorem letters_at {ss : List ByteArray} {cs : List UInt8} (h : lettersOf ss = some cs) {k : Nat} (hk : k < ss.length) : k < cs.length ∧ ss[k] = ⟨#[cs.getD k 0]⟩ ∧ 97 ≤ (cs.getD k 0).toNat ∧ (cs.getD k 0).toNat ≤ 104 := by
  obtain ⟨h1, _, _⟩ := lettersOf_ok h
  have hlen : ss.length = cs.length := by
    have := congrArg List.length h1.txt
    rw [List.length_map] at this; exact this
  have hk2 : k < cs.length := by omega
  have e : cs.getD k 0 = cs[k] := by rw [List.getD_eq_getElem?_getD, List.getElem?_eq_getElem hk2]; rfl
  refine ⟨hk2, ?_, by rw [e]; exact (h1.let_ _ (List.getElem_mem hk2)).1, by rw [e]; exact (h1.let_ _ (List.getElem_mem hk2)).2⟩
  rw [List.getElem_of_eq h1.txt, e]; simp

/-! How a quadratic tree lies. -/
theorem quadL_rep {W : World} {P : Nat → Prop} {B0 B1 : Nat} {x y : UInt8} (hx : 97 ≤ x.toNat ∧ x.toNat ≤ 104) (hy : 97 ≤ y.toNat ∧ y.toNat ≤ 104)
    (h0 : W.heap[B0]? = some (.cells #[.string ⟨#[]⟩, .slice none 0 0, .string ⟨#[]⟩, .slice none 0 0] 44 (0, 0)))
    (h1 : W.heap[B1]? = some (.cells #[.string ⟨#[y]⟩, .slice (some ⟨B0, 0, none⟩) 2 2, .string ⟨#[]⟩, .slice none 0 0] 44 (0, 0))) (p0 : P B0) (p1 : P B1) :
    trS.R W P (quadL x y) [.string ⟨#[x]⟩, .slice (some ⟨B1, 0, none⟩) 2 2] := by
  refine ⟨⟨#[x]⟩, some ⟨B1, 0, none⟩, 2, 2, rfl, ?_, ?_⟩
  · simp only [quadL, T.wf, T.wfL, List.length_cons, List.length_nil]
    exact ⟨hx.1, hx.2, by omega, by omega, ⟨hy.1, hy.2, by omega, by omega, trivial, trivial, trivial⟩, trivial, trivial⟩
  · simp only [quadL, RepS, RepSL]
    exact ⟨trivial, B1, 2, rfl, p1, by simp, ⟨.string ⟨#[y]⟩, .slice (some ⟨B0, 0, none⟩) 2 2, by rw [Lib.cell_of_heap h1]; rfl, by rw [Lib.cell_of_heap h1]; rfl, rfl, B0, 2, rfl, p0, by simp, ⟨_, _, by rw [Lib.cell_of_heap h0]; rfl, by rw [Lib.cell_of_heap h0]; rfl, rfl, rfl⟩, ⟨_, _, by rw [Lib.cell_of_heap h0]; rfl, by rw [Lib.cell_of_heap h0]; rfl, rfl, rfl⟩, trivial⟩, ⟨_, _, by rw [Lib.cell_of_heap h1]; rfl, by rw [Lib.cell_of_heap h1]; rfl, rfl, rfl⟩, trivial⟩
theorem quadR_rep {W : World} {P : Nat → Prop} {B0 B1 : Nat} {x y : UInt8} (hx : 97 ≤ x.toNat ∧ x.toNat ≤ 104) (hy : 97 ≤ y.toNat ∧ y.toNat ≤ 104)
    (h0 : W.heap[B0]? = some (.cells #[.string ⟨#[]⟩, .slice none 0 0, .string ⟨#[]⟩, .slice none 0 0] 44 (0, 0)))
    (h1 : W.heap[B1]? = some (.cells #[.string ⟨#[]⟩, .slice none 0 0, .string ⟨#[y]⟩, .slice (some ⟨B0, 0, none⟩) 2 2] 44 (0, 0))) (p0 : P B0) (p1 : P B1) :
    trS.R W P (quadR x y) [.string ⟨#[x]⟩, .slice (some ⟨B1, 0, none⟩) 2 2] := by
  refine ⟨⟨#[x]⟩, some ⟨B1, 0, none⟩, 2, 2, rfl, ?_, ?_⟩
  · simp only [quadR, T.wf, T.wfL, List.length_cons, List.length_nil]
    exact ⟨hx.1, hx.2, by omega, by omega, trivial, ⟨hy.1, hy.2, by omega, by omega, trivial, trivial, trivial⟩, trivial⟩
  · simp only [quadR, RepS, RepSL]
    exact ⟨trivial, B1, 2, rfl, p1, by simp, ⟨_, _, by rw [Lib.cell_of_heap h1]; rfl, by rw [Lib.cell_of_heap h1]; rfl, rfl, rfl⟩, ⟨.string ⟨#[y]⟩, .slice (some ⟨B0, 0, none⟩) 2 2, by rw [Lib.cell_of_heap h1]; rfl, by rw [Lib.cell_of_heap h1]; rfl, rfl, B0, 2, rfl, p0, by simp, ⟨_, _, by rw [Lib.cell_of_heap h0]; rfl, by rw [Lib.cell_of_heap h0]; rfl, rfl, rfl⟩, ⟨_, _, by rw [Lib.cell_of_heap h0]; rfl, by rw [Lib.cell_of_heap h0]; rfl, rfl, rfl⟩, trivial⟩, trivial⟩

/-- The row of trees that grows: what it is, if the letters are as told. -/
def QAll (ss : List ByteArray) (w : World) (ts : List UInt8 → List T) (m : Nat) (av : Value) (wr : World) : Prop :=
  ∃ va vc vs, av = .slice va m vc ∧ va ≠ none ∧ wr.ownsRow w.heap.size 44 2 av m vs ∧ (∀ cs, lettersOf ss = some cs → (ts cs).length = m ∧ Row trS 44 w.heap.size (ts cs) av vs wr) ∧ Below w.heap.size w wr

theorem QAll.below {ss : List ByteArray} {w wr w2 : World} {ts : List UInt8 → List T} {m : Nat} {av : Value} (h : QAll ss w ts m av wr) (hb : Below wr.heap.size wr w2) : QAll ss w ts m av w2 := by
  obtain ⟨va, vc, vs, e, hva, hown, hrow, hB⟩ := h
  exact ⟨va, vc, vs, e, hva, owns_below hown hb, fun cs hcs => ⟨(hrow cs hcs).1, (hrow cs hcs).2.below hb⟩, below_step hB hb⟩
theorem QAll.congr {ss : List ByteArray} {w wr : World} {ts ts' : List UInt8 → List T} {m : Nat} {av : Value} (h : QAll ss w ts m av wr) (he : ∀ cs, lettersOf ss = some cs → ts cs = ts' cs) : QAll ss w ts' m av wr := by
  obtain ⟨va, vc, vs, e, hva, hown, hrow, hB⟩ := h
  exact ⟨va, vc, vs, e, hva, hown, fun cs hcs => by rw [← he cs hcs]; exact hrow cs hcs, hB⟩

theorem QAll.step {ss : List ByteArray} {w wr w6 : World} {ts ts' : List UInt8 → List T} {m vc g q : Nat} {va : Option Addr} {vs : List Value} {x y : ByteArray}
    (hown : wr.ownsRow w.heap.size 44 2 (.slice va m vc) m vs) (hrow : ∀ cs, lettersOf ss = some cs → (ts cs).length = m ∧ Row trS 44 w.heap.size (ts cs) (.slice va m vc) vs wr) (hB : Below w.heap.size w wr)
    (hts : ∀ cs, lettersOf ss = some cs → ∃ cx cy : UInt8, x = ⟨#[cx]⟩ ∧ y = ⟨#[cy]⟩ ∧ (97 ≤ cx.toNat ∧ cx.toNat ≤ 104) ∧ (97 ≤ cy.toNat ∧ cy.toNat ≤ 104) ∧ ts' cs = ts cs ++ [quadL cx cy, quadR cx cy])
    (hown6 : w6.ownsRow w.heap.size 44 2 (.slice (some ⟨g, 0, none⟩) (m + 2) q) (m + 2) (vs ++ [.string x, .slice (some ⟨wr.heap.size + 1 + 1, 0, none⟩) 2 2, .string x, .slice (some ⟨wr.heap.size + 1 + 1 + 1, 0, none⟩) 2 2])) (hg6 : ((((((wr.alloc (.cells #[.string ⟨#[]⟩, .slice none 0 0, .string ⟨#[]⟩, .slice none 0 0] 44 (0, 0))).alloc (.cells #[.string y, .slice (some ⟨wr.heap.size, 0, none⟩) 2 2] 44 (0, 0))).alloc (.cells #[.string y, .slice (some ⟨wr.heap.size, 0, none⟩) 2 2, .string ⟨#[]⟩, .slice none 0 0] 44 (0, 0))).alloc (.cells #[.string ⟨#[]⟩, .slice none 0 0, .string y, .slice (some ⟨wr.heap.size, 0, none⟩) 2 2] 44 (0, 0))).alloc (.cells #[.string x, .slice (some ⟨wr.heap.size + 1 + 1, 0, none⟩) 2 2, .string x, .slice (some ⟨wr.heap.size + 1 + 1 + 1, 0, none⟩) 2 2] 44 (0, 0)))).grownBy w6 (Value.slice va m vc).ownBlock)
    (hat : (Value.slice va m vc).ownBlock = some g ∨ wr.heap.size + 5 ≤ g) : QAll ss w ts' (m + 2) (.slice (some ⟨g, 0, none⟩) (m + 2) q) w6 := by
  have hbq : Below wr.heap.size wr (((((wr.alloc (.cells #[.string ⟨#[]⟩, .slice none 0 0, .string ⟨#[]⟩, .slice none 0 0] 44 (0, 0))).alloc (.cells #[.string y, .slice (some ⟨wr.heap.size, 0, none⟩) 2 2] 44 (0, 0))).alloc (.cells #[.string y, .slice (some ⟨wr.heap.size, 0, none⟩) 2 2, .string ⟨#[]⟩, .slice none 0 0] 44 (0, 0))).alloc (.cells #[.string ⟨#[]⟩, .slice none 0 0, .string y, .slice (some ⟨wr.heap.size, 0, none⟩) 2 2] 44 (0, 0))).alloc (.cells #[.string x, .slice (some ⟨wr.heap.size + 1 + 1, 0, none⟩) 2 2, .string x, .slice (some ⟨wr.heap.size + 1 + 1 + 1, 0, none⟩) 2 2] 44 (0, 0))) := (((((Below.refl _ _).alloc (Nat.le_refl _) _).alloc (by simp) _).alloc (by simp; omega) _).alloc (by simp; omega) _).alloc (by simp; omega) _
  have hlt : ∀ q, (Value.slice va m vc).ownBlock = some q → w.heap.size ≤ q ∧ q < wr.heap.size := fun q e => hown.lt q e
  refine ⟨_, _, _, rfl, by simp, hown6, fun cs hcs => ?_, ?_⟩
  · obtain ⟨cx, cy, rfl, rfl, hx, hy, e⟩ := hts cs hcs
    obtain ⟨hl, hr⟩ := hrow cs hcs
    refine ⟨by rw [e, List.length_append, hl]; rfl, ?_⟩
    rw [e]
    have b0 : ((((((wr.alloc (.cells #[.string ⟨#[]⟩, .slice none 0 0, .string ⟨#[]⟩, .slice none 0 0] 44 (0, 0))).alloc (.cells #[.string ⟨#[cy]⟩, .slice (some ⟨wr.heap.size, 0, none⟩) 2 2] 44 (0, 0))).alloc (.cells #[.string ⟨#[cy]⟩, .slice (some ⟨wr.heap.size, 0, none⟩) 2 2, .string ⟨#[]⟩, .slice none 0 0] 44 (0, 0))).alloc (.cells #[.string ⟨#[]⟩, .slice none 0 0, .string ⟨#[cy]⟩, .slice (some ⟨wr.heap.size, 0, none⟩) 2 2] 44 (0, 0))).alloc (.cells #[.string ⟨#[cx]⟩, .slice (some ⟨wr.heap.size + 1 + 1, 0, none⟩) 2 2, .string ⟨#[cx]⟩, .slice (some ⟨wr.heap.size + 1 + 1 + 1, 0, none⟩) 2 2] 44 (0, 0)))).heap[wr.heap.size]? = some (.cells #[.string ⟨#[]⟩, .slice none 0 0, .string ⟨#[]⟩, .slice none 0 0] 44 (0, 0)) := by
      rw [Below.heap_alloc _ _ _ (by simp; omega), Below.heap_alloc _ _ _ (by simp; omega), Below.heap_alloc _ _ _ (by simp; omega), Below.heap_alloc _ _ _ (by simp)]
      exact heap_alloc_new wr _
    have b2 : ((((((wr.alloc (.cells #[.string ⟨#[]⟩, .slice none 0 0, .string ⟨#[]⟩, .slice none 0 0] 44 (0, 0))).alloc (.cells #[.string ⟨#[cy]⟩, .slice (some ⟨wr.heap.size, 0, none⟩) 2 2] 44 (0, 0))).alloc (.cells #[.string ⟨#[cy]⟩, .slice (some ⟨wr.heap.size, 0, none⟩) 2 2, .string ⟨#[]⟩, .slice none 0 0] 44 (0, 0))).alloc (.cells #[.string ⟨#[]⟩, .slice none 0 0, .string ⟨#[cy]⟩, .slice (some ⟨wr.heap.size, 0, none⟩) 2 2] 44 (0, 0))).alloc (.cells #[.string ⟨#[cx]⟩, .slice (some ⟨wr.heap.size + 1 + 1, 0, none⟩) 2 2, .string ⟨#[cx]⟩, .slice (some ⟨wr.heap.size + 1 + 1 + 1, 0, none⟩) 2 2] 44 (0, 0)))).heap[wr.heap.size + 1 + 1]? = some (.cells #[.string ⟨#[cy]⟩, .slice (some ⟨wr.heap.size, 0, none⟩) 2 2, .string ⟨#[]⟩, .slice none 0 0] 44 (0, 0)) := by
      rw [Below.heap_alloc _ _ _ (by simp), Below.heap_alloc _ _ _ (by simp), show wr.heap.size + 1 + 1 = ((wr.alloc (.cells #[.string ⟨#[]⟩, .slice none 0 0, .string ⟨#[]⟩, .slice none 0 0] 44 (0, 0))).alloc (.cells #[.string ⟨#[cy]⟩, .slice (some ⟨wr.heap.size, 0, none⟩) 2 2] 44 (0, 0))).heap.size by simp]
      exact heap_alloc_new _ _
    have b3 : ((((((wr.alloc (.cells #[.string ⟨#[]⟩, .slice none 0 0, .string ⟨#[]⟩, .slice none 0 0] 44 (0, 0))).alloc (.cells #[.string ⟨#[cy]⟩, .slice (some ⟨wr.heap.size, 0, none⟩) 2 2] 44 (0, 0))).alloc (.cells #[.string ⟨#[cy]⟩, .slice (some ⟨wr.heap.size, 0, none⟩) 2 2, .string ⟨#[]⟩, .slice none 0 0] 44 (0, 0))).alloc (.cells #[.string ⟨#[]⟩, .slice none 0 0, .string ⟨#[cy]⟩, .slice (some ⟨wr.heap.size, 0, none⟩) 2 2] 44 (0, 0))).alloc (.cells #[.string ⟨#[cx]⟩, .slice (some ⟨wr.heap.size + 1 + 1, 0, none⟩) 2 2, .string ⟨#[cx]⟩, .slice (some ⟨wr.heap.size + 1 + 1 + 1, 0, none⟩) 2 2] 44 (0, 0)))).heap[wr.heap.size + 1 + 1 + 1]? = some (.cells #[.string ⟨#[]⟩, .slice none 0 0, .string ⟨#[cy]⟩, .slice (some ⟨wr.heap.size, 0, none⟩) 2 2] 44 (0, 0)) := by
      rw [Below.heap_alloc _ _ _ (by simp), show wr.heap.size + 1 + 1 + 1 = (((wr.alloc (.cells #[.string ⟨#[]⟩, .slice none 0 0, .string ⟨#[]⟩, .slice none 0 0] 44 (0, 0))).alloc (.cells #[.string ⟨#[cy]⟩, .slice (some ⟨wr.heap.size, 0, none⟩) 2 2] 44 (0, 0))).alloc (.cells #[.string ⟨#[cy]⟩, .slice (some ⟨wr.heap.size, 0, none⟩) 2 2, .string ⟨#[]⟩, .slice none 0 0] 44 (0, 0))).heap.size by simp]
      exact heap_alloc_new _ _
    have hne : ∀ b, wr.heap.size ≤ b → (Value.slice va m vc).ownBlock ≠ some b := fun b hb e => by have := (hlt b e).2; omega
    have hrr := hr.many (bs := [quadL cx cy, quadR cx cy]) (news := [.string ⟨#[cx]⟩, .slice (some ⟨wr.heap.size + 1 + 1, 0, none⟩) 2 2, .string ⟨#[cx]⟩, .slice (some ⟨wr.heap.size + 1 + 1 + 1, 0, none⟩) 2 2]) (w1 := (((((wr.alloc (.cells #[.string ⟨#[]⟩, .slice none 0 0, .string ⟨#[]⟩, .slice none 0 0] 44 (0, 0))).alloc (.cells #[.string ⟨#[cy]⟩, .slice (some ⟨wr.heap.size, 0, none⟩) 2 2] 44 (0, 0))).alloc (.cells #[.string ⟨#[cy]⟩, .slice (some ⟨wr.heap.size, 0, none⟩) 2 2, .string ⟨#[]⟩, .slice none 0 0] 44 (0, 0))).alloc (.cells #[.string ⟨#[]⟩, .slice none 0 0, .string ⟨#[cy]⟩, .slice (some ⟨wr.heap.size, 0, none⟩) 2 2] 44 (0, 0))).alloc (.cells #[.string ⟨#[cx]⟩, .slice (some ⟨wr.heap.size + 1 + 1, 0, none⟩) 2 2, .string ⟨#[cx]⟩, .slice (some ⟨wr.heap.size + 1 + 1 + 1, 0, none⟩) 2 2] 44 (0, 0)))) (w1' := (((((wr.alloc (.cells #[.string ⟨#[]⟩, .slice none 0 0, .string ⟨#[]⟩, .slice none 0 0] 44 (0, 0))).alloc (.cells #[.string ⟨#[cy]⟩, .slice (some ⟨wr.heap.size, 0, none⟩) 2 2] 44 (0, 0))).alloc (.cells #[.string ⟨#[cy]⟩, .slice (some ⟨wr.heap.size, 0, none⟩) 2 2, .string ⟨#[]⟩, .slice none 0 0] 44 (0, 0))).alloc (.cells #[.string ⟨#[]⟩, .slice none 0 0, .string ⟨#[cy]⟩, .slice (some ⟨wr.heap.size, 0, none⟩) 2 2] 44 (0, 0))).alloc (.cells #[.string ⟨#[cx]⟩, .slice (some ⟨wr.heap.size + 1 + 1, 0, none⟩) 2 2, .string ⟨#[cx]⟩, .slice (some ⟨wr.heap.size + 1 + 1 + 1, 0, none⟩) 2 2] 44 (0, 0)))) (v' := .slice (some ⟨g, 0, none⟩) (m + 2) q) (w2 := w6) hbq (fun k hk => by
      simp only [List.length_cons, List.length_nil] at hk
      rcases (show k = 0 ∨ k = 1 by omega) with rfl | rfl
      · exact ⟨_, fun j hj => by
          rcases (show j = 0 ∨ j = 1 by simp only [trS] at hj; omega) with rfl | rfl <;> rfl, quadL_rep hx hy b0 b2 (hne _ (Nat.le_refl _)) (hne _ (by omega))⟩
      · exact ⟨_, fun j hj => by
          rcases (show j = 0 ∨ j = 1 by simp only [trS] at hj; omega) with rfl | rfl <;> rfl, quadR_rep hx hy b0 b3 (hne _ (Nat.le_refl _)) (hne _ (by omega))⟩) (Below.refl _ _) (by rw [hl]; exact hown6) hg6 (fun b e => by
      simp only [Value.ownBlock, Option.some.injEq] at e
      subst e
      rcases hat with h | h
      · exact .inl h
      · exact .inr (by simp; omega))
    exact hrr
  · exact (below_step hB hbq).grown hg6 (by have := hB.size; simp; omega) (fun q e => (hlt q e).1)

end Go.Proofs.Ytapobhnhnldlkaa
