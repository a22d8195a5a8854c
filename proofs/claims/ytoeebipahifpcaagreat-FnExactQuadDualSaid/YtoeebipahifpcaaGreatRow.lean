/- A row of the call's own that grows element by element, and a row that is read: for every kind of element. -/
import Derived.Test.YtoeebipahifpcaaGreatKRead
import Derived.Deep.AppendLies
namespace Go.Proofs.YtoeebipahifpcaaGreat
open Go.RowKit

theorem owns_some {w : World} {base : Nat} {e : TypeId} {size : Nat} {v : Value} {n : Nat} {xs : List Value} (h : w.ownsRow base e size v n xs) (hv : v ≠ .slice none 0 0) :
    ∃ g cap, v = .slice (some ⟨g, 0, none⟩) n cap ∧ n ≤ cap ∧ cap ≤ 9223372036854775807 ∧ base ≤ g := by
  rcases h.2 with ⟨e, _⟩ | ⟨g, cap, cur, e, hb, _, hn, hm, _, _⟩
  · exact absurd e hv
  · exact ⟨g, cap, e, hn, by simpa only [maxLen, show (2 ^ 63 - 1 : Nat) = 9223372036854775807 from rfl] using hm, hb⟩

theorem owns_addr {w : World} {base : Nat} {e : TypeId} {size : Nat} {a : Option Addr} {m c n : Nat} {xs : List Value} (h : w.ownsRow base e size (.slice a m c) n xs) (ha : a ≠ none) : ∃ g, a = some ⟨g, 0, none⟩ ∧ base ≤ g := by
  obtain ⟨g, cap, e, _, _, hb⟩ := owns_some h (fun e => by simp only [Value.slice.injEq] at e; exact ha e.1)
  simp only [Value.slice.injEq] at e
  exact ⟨g, e.1, hb⟩

/-- How an element stands in its cells; what lies behind them keeps to a set of blocks. It stays where these stay. -/
structure Elt (α : Type) where
  size : Nat
  R : World → (Nat → Prop) → α → List Value → Prop
  len : ∀ {w P a cs}, R w P a cs → cs.length = size
  one : ∀ {w P a cs}, R w P a cs → ∀ u ∈ cs, u.oneCell' = true
  keep : ∀ {w w' : World} {P P' : Nat → Prop} {a cs}, Keeps P w w' → (∀ g, P g → g < w.heap.size → P' g) → R w P a cs → R w' P' a cs

/-- A slice reads us these elements. -/
def Rd {α : Type} (E : Elt α) (w : World) (P : Nat → Prop) (a : Option Addr) (us : List α) : Prop :=
  ∀ k (h : k < us.length), ∃ g cs, a = some ⟨g, 0, none⟩ ∧ P g ∧ (∀ j, j < E.size → w.cell? ⟨g, k * E.size + j, none⟩ = cs[j]?) ∧ E.R w P us[k] cs

theorem Rd.nil {α : Type} {E : Elt α} {w : World} {P : Nat → Prop} {a : Option Addr} : Rd E w P a [] := fun _ h => by simp at h

theorem Rd.keep {α : Type} {E : Elt α} {w w' : World} {P P' : Nat → Prop} {a : Option Addr} {us : List α} (h0 : 0 < E.size) (hk : Keeps P w w') (hp : ∀ g, P g → g < w.heap.size → P' g) (h : Rd E w P a us) : Rd E w' P' a us := fun k hlt => by
  obtain ⟨g, cs, e, hg, hc, hr⟩ := h k hlt
  have hl := E.len hr
  have hgl : g < w.heap.size := by
    have := hc 0 h0
    rw [List.getElem?_eq_getElem (by omega)] at this
    exact World.block_lt_of_cell? w _ this
  refine ⟨g, cs, e, hp g hg hgl, fun j hj => ?_, E.keep hk hp hr⟩
  have h1 := hc j hj
  rw [List.getElem?_eq_getElem (by omega)] at h1 ⊢
  exact hk _ _ hg h1

theorem Rd.below {α : Type} {E : Elt α} {w w' : World} {P : Nat → Prop} {a : Option Addr} {us : List α} (h0 : 0 < E.size) (h : Rd E w P a us) (hb : Below w.heap.size w w') : Rd E w' P a us :=
  h.keep h0 (Keeps.of_below hb P) (fun _ h _ => h)

theorem Rd.weak {α : Type} {E : Elt α} {w : World} {P P' : Nat → Prop} {a : Option Addr} {us : List α} (h0 : 0 < E.size) (h : Rd E w P a us) (hp : ∀ g, P g → g < w.heap.size → P' g) : Rd E w P' a us :=
  h.keep h0 (fun _ _ _ h => h) hp

/-- A row of the call's own: what it has been given, and how it lies. -/
structure Row {α : Type} (E : Elt α) (ty : TypeId) (base : Nat) (us : List α) (v : Value) (xs : List Value) (w : World) : Prop where
  own : w.ownsRow base ty E.size v us.length xs
  reps : ∀ k (h : k < us.length), ∃ cs, (∀ j, j < E.size → xs[k * E.size + j]? = cs[j]?) ∧ E.R w (fun b => v.ownBlock ≠ some b) us[k] cs

theorem Row.nil {α : Type} {E : Elt α} {ty : TypeId} {w : World} (base : Nat) : Row E ty base [] (.slice none 0 0) [] w := ⟨World.ownsRow_nil _ _ _ _, fun _ h => by simp at h⟩

theorem Row.shape {α : Type} {E : Elt α} {ty : TypeId} {base : Nat} {us : List α} {v : Value} {xs : List Value} {w : World} (h : Row E ty base us v xs w) : ∃ a c, v = .slice a us.length c := by
  obtain ⟨a, m, c, e, rfl⟩ := owns_slice h.own
  exact ⟨a, c, e⟩

theorem Row.below {α : Type} {E : Elt α} {ty : TypeId} {base : Nat} {us : List α} {v : Value} {xs : List Value} {w w' : World} (h : Row E ty base us v xs w) (hb : Below w.heap.size w w') : Row E ty base us v xs w' :=
  ⟨owns_below h.own hb, fun k hk => by
    obtain ⟨cs, h1, h2⟩ := h.reps k hk
    exact ⟨cs, h1, E.keep (Keeps.of_below hb _) (fun _ h _ => h) h2⟩⟩

/-- Another element: w1 is the world in which it lies, w1' that world with boxes besides, w2 behind the append. -/
theorem Row.next {α : Type} {E : Elt α} {ty : TypeId} {base : Nat} {us : List α} {v : Value} {xs cs : List Value} {w w1 w1' w2 : World} {a : α} {g cap : Nat}
    (h : Row E ty base us v xs w) (hb1 : Below w.heap.size w w1) (hr : E.R w1 (fun b => v.ownBlock ≠ some b) a cs) (hb2 : Below w1.heap.size w1 w1')
    (hown : w2.ownsRow base ty E.size (.slice (some ⟨g, 0, none⟩) (us.length + 1) cap) (us.length + 1) (xs ++ cs))
    (hg : w1'.grownBy w2 v.ownBlock) (hf : v.ownBlock = some g ∨ w1.heap.size ≤ g) :
    Row E ty base (us ++ [a]) (.slice (some ⟨g, 0, none⟩) (us.length + 1) cap) (xs ++ cs) w2 := by
  have hxl : xs.length = us.length * E.size := h.own.1
  have hcl := E.len hr
  have hs1 := hb1.size
  have hs2 := hb2.size
  have hblk : ∀ b, b < w1.heap.size → v.ownBlock ≠ some b → w2.heap[b]? = w1.heap[b]? := fun b hb hne => by
    rw [hg.block b (by omega) (fun e => hne e.symm), hb2.block b hb]
  have hmem : ∀ b, v.ownBlock ≠ some b → b < w1.heap.size → (Value.slice (some ⟨g, 0, none⟩) (us.length + 1) cap).ownBlock ≠ some b := fun b hne hlt e => by
    simp only [Value.ownBlock, Option.some.injEq] at e
    subst e
    rcases hf with e | e
    · exact hne e
    · omega
  refine ⟨by rw [List.length_append]; exact hown, fun k hk => ?_⟩
  by_cases hka : k < us.length
  · obtain ⟨ds, h1, h2⟩ := h.reps k hka
    have hmul : k * E.size + E.size ≤ us.length * E.size := by
      have := Nat.mul_le_mul_right E.size hka
      rw [Nat.succ_mul] at this; exact this
    refine ⟨ds, fun j hj => by rw [List.getElem?_append_left (by omega)]; exact h1 j hj, ?_⟩
    rw [List.getElem_append_left hka]
    refine E.keep ?_ (fun b hb hlt => hmem b hb (by omega)) h2
    intro q u hq hu
    have hqb := World.block_lt_of_cell? w q hu
    rw [World.cell?_of_block (hblk q.block (by omega) hq), World.cell?_of_block (hb1.block q.block hqb)]
    exact hu
  · have hke : k = us.length := by simp at hk; omega
    subst hke
    refine ⟨cs, fun j hj => by rw [List.getElem?_append_right (by omega), hxl]; congr 1; omega, ?_⟩
    rw [List.getElem_append_right (by omega)]
    simp only [Nat.sub_self, List.getElem_singleton]
    refine E.keep ?_ (fun b hb hlt => hmem b hb hlt) hr
    intro q u hq hu
    have hqb := World.block_lt_of_cell? w1 q hu
    rw [World.cell?_of_block (hblk q.block hqb hq)]
    exact hu

/-- Several elements more: w1 is the world in which they lie, w1' that world with boxes besides, w2 behind the append. -/
theorem Row.many {α : Type} {E : Elt α} {ty : TypeId} {base : Nat} {us bs : List α} {v v' : Value} {xs news : List Value} {w w1 w1' w2 : World}
    (h : Row E ty base us v xs w) (hb1 : Below w.heap.size w w1) (hr : ∀ k (h : k < bs.length), ∃ cs, (∀ j, j < E.size → news[k * E.size + j]? = cs[j]?) ∧ E.R w1 (fun b => v.ownBlock ≠ some b) bs[k] cs) (hb2 : Below w1.heap.size w1 w1')
    (hown : w2.ownsRow base ty E.size v' (us.length + bs.length) (xs ++ news))
    (hg : w1'.grownBy w2 v.ownBlock) (hf : ∀ g, v'.ownBlock = some g → v.ownBlock = some g ∨ w1.heap.size ≤ g) :
    Row E ty base (us ++ bs) v' (xs ++ news) w2 := by
  have hxl : xs.length = us.length * E.size := h.own.1
  have hs1 := hb1.size
  have hs2 := hb2.size
  have hblk : ∀ b, b < w1.heap.size → v.ownBlock ≠ some b → w2.heap[b]? = w1.heap[b]? := fun b hb hne => by
    rw [hg.block b (by omega) (fun e => hne e.symm), hb2.block b hb]
  have hmem : ∀ b, v.ownBlock ≠ some b → b < w1.heap.size → v'.ownBlock ≠ some b := fun b hne hlt e => by
    rcases hf b e with e | e
    · exact hne e
    · omega
  refine ⟨by rw [List.length_append]; exact hown, fun k hk => ?_⟩
  by_cases hka : k < us.length
  · obtain ⟨ds, h1, h2⟩ := h.reps k hka
    have hmul : k * E.size + E.size ≤ us.length * E.size := by
      have := Nat.mul_le_mul_right E.size hka
      rw [Nat.succ_mul] at this; exact this
    refine ⟨ds, fun j hj => by rw [List.getElem?_append_left (by omega)]; exact h1 j hj, ?_⟩
    rw [List.getElem_append_left hka]
    refine E.keep ?_ (fun b hb hlt => hmem b hb (by omega)) h2
    intro q u hq hu
    have hqb := World.block_lt_of_cell? w q hu
    rw [World.cell?_of_block (hblk q.block (by omega) hq), World.cell?_of_block (hb1.block q.block hqb)]
    exact hu
  · have hkb : k - us.length < bs.length := by simp at hk; omega
    obtain ⟨ds, h1, h2⟩ := hr (k - us.length) hkb
    have hke : k * E.size = us.length * E.size + (k - us.length) * E.size := by rw [← Nat.add_mul]; congr 1; omega
    refine ⟨ds, fun j hj => by rw [List.getElem?_append_right (by omega), hxl, ← h1 j hj]; congr 1; omega, ?_⟩
    rw [List.getElem_append_right (by omega)]
    refine E.keep ?_ (fun b hb hlt => hmem b hb hlt) h2
    intro q u hq hu
    have hqb := World.block_lt_of_cell? w1 q hu
    rw [World.cell?_of_block (hblk q.block hqb hq)]
    exact hu

/-- A row of what lay before: however the world has gone on, as long as what lay before is as it was. -/
theorem Row.of_old {α : Type} {E : Elt α} {ty : TypeId} {base : Nat} {us : List α} {v : Value} {xs : List Value} {w w' : World} (hb : Below w.heap.size w w') (hown : w'.ownsRow base ty E.size v us.length xs) (hbase : w.heap.size ≤ base)
    (hr : ∀ q (hq : q < us.length), ∃ cs, (∀ j, j < E.size → xs[q * E.size + j]? = cs[j]?) ∧ E.R w (fun b => b < w.heap.size) us[q] cs) : Row E ty base us v xs w' :=
  ⟨hown, fun q hq => by
    obtain ⟨cs, h1, h2⟩ := hr q hq
    exact ⟨cs, h1, E.keep (Keeps.of_below hb _) (fun b hlt _ e => by have := (hown.lt b e).1; omega) h2⟩⟩

/-- The cells of a piece of a row. -/
def rowCells (w : World) (g off n : Nat) : List Value := (List.range n).map fun j => (w.cell? ⟨g, off + j, none⟩).getD undef

theorem rowCells_length (w : World) (g off n : Nat) : (rowCells w g off n).length = n := by simp [rowCells]
theorem rowCells_get {w : World} {g off n j : Nat} (h : j < n) : (rowCells w g off n)[j]? = some ((w.cell? ⟨g, off + j, none⟩).getD undef) := by simp [rowCells, h]

/-- A piece of a row that is read: its cells. -/
theorem Rd.cells {α : Type} {E : Elt α} {w : World} {P : Nat → Prop} {g : Nat} {us : List α} (h : Rd E w P (some ⟨g, 0, none⟩) us) (h0 : 0 < E.size) (i m : Nat) (him : i + m ≤ us.length) :
    (∀ j u, (rowCells w g (i * E.size) (m * E.size))[j]? = some u → w.cell? ⟨g, i * E.size + j, none⟩ = some u) ∧ (∀ u ∈ rowCells w g (i * E.size) (m * E.size), u.oneCell' = true) ∧
      ∀ k (hk : k < m), ∃ cs, (∀ j, j < E.size → (rowCells w g (i * E.size) (m * E.size))[k * E.size + j]? = cs[j]?) ∧ E.R w P (us[i + k]'(by omega)) cs := by
  have hall : ∀ k (hk : k < m), ∃ cs, (∀ j, j < E.size → w.cell? ⟨g, (i + k) * E.size + j, none⟩ = cs[j]?) ∧ cs.length = E.size ∧ E.R w P (us[i + k]'(by omega)) cs := fun k hk => by
    obtain ⟨g', cs, e, _, hc, hr⟩ := h (i + k) (by omega)
    cases e
    exact ⟨cs, hc, E.len hr, hr⟩
  have hmul : ∀ k, k < m → k * E.size + E.size ≤ m * E.size := fun k hk => by
    have := Nat.mul_le_mul_right E.size hk
    rw [Nat.succ_mul] at this; exact this
  have hcell : ∀ j, j < m * E.size → ∃ u, w.cell? ⟨g, i * E.size + j, none⟩ = some u ∧ u.oneCell' = true := fun j hj => by
    have hk : j / E.size < m := by rw [Nat.div_lt_iff_lt_mul h0]; exact hj
    obtain ⟨cs, hc, hl, hr⟩ := hall (j / E.size) hk
    have hm := Nat.mod_lt j h0
    have e : i * E.size + j = (i + j / E.size) * E.size + j % E.size := by
      rw [Nat.add_mul]
      have := Nat.div_add_mod j E.size
      rw [Nat.mul_comm] at this
      omega
    rw [e, hc _ hm, List.getElem?_eq_getElem (by omega)]
    exact ⟨_, rfl, E.one hr _ (List.getElem_mem _)⟩
  refine ⟨fun j u hu => ?_, fun u hu => ?_, fun k hk => ?_⟩
  · have hj : j < m * E.size := by
      rcases Nat.lt_or_ge j (m * E.size) with h | h
      · exact h
      · rw [List.getElem?_eq_none (by rw [rowCells_length]; exact h)] at hu; cases hu
    obtain ⟨u', e, _⟩ := hcell j hj
    rw [rowCells_get hj, e] at hu
    rw [e]; exact hu
  · obtain ⟨j, hj, e⟩ := List.getElem_of_mem hu
    rw [rowCells_length] at hj
    obtain ⟨u', e', h1⟩ := hcell j hj
    have := rowCells_get (w := w) (g := g) (off := i * E.size) hj
    rw [List.getElem?_eq_getElem (by rw [rowCells_length]; exact hj), e, e'] at this
    simp only [Option.some.injEq, Option.getD_some] at this
    rw [this]; exact h1
  · obtain ⟨cs, hc, hl, hr⟩ := hall k hk
    refine ⟨cs, fun j hj => ?_, hr⟩
    have hlt : k * E.size + j < m * E.size := by have := hmul k hk; omega
    have e : i * E.size + (k * E.size + j) = (i + k) * E.size + j := by rw [Nat.add_mul]; omega
    rw [rowCells_get hlt, e, hc j hj, List.getElem?_eq_getElem (by omega)]
    rfl

/-- What has been built, read. -/
theorem Row.rd {α : Type} {E : Elt α} {ty : TypeId} {base : Nat} {us : List α} {a : Option Addr} {n cap : Nat} {xs : List Value} {w : World} (h : Row E ty base us (.slice a n cap) xs w) : Rd E w (fun _ => True) a us := fun k hk => by
  obtain ⟨cs, h1, h2⟩ := h.reps k hk
  have hxl : xs.length = us.length * E.size := h.own.1
  have hmul : k * E.size + E.size ≤ us.length * E.size := by
    have := Nat.mul_le_mul_right E.size hk
    rw [Nat.succ_mul] at this; exact this
  obtain ⟨g, cap', e, _, _⟩ := h.own.form (by omega)
  simp only [Value.slice.injEq] at e
  obtain ⟨rfl, rfl, rfl⟩ := e
  refine ⟨g, cs, rfl, trivial, fun j hj => ?_, E.keep (fun _ _ _ h => h) (fun _ _ _ => trivial) h2⟩
  have := h.own.cells (g := g) rfl (k * E.size + j) (xs[k * E.size + j]'(by omega)) (by rw [List.getElem?_eq_getElem])
  have e : (⟨g, 0, none⟩ : Addr).add (k * E.size + j) = ⟨g, k * E.size + j, none⟩ := by unfold Addr.add; split <;> simp_all
  rw [e] at this
  rw [this, ← h1 j hj, List.getElem?_eq_getElem]

/-- .. outside of what lay before. -/
theorem Row.rd_from {α : Type} {E : Elt α} {ty : TypeId} {base : Nat} {us : List α} {a : Option Addr} {n cap : Nat} {xs : List Value} {w : World} (h : Row E ty base us (.slice a n cap) xs w) : ∀ g, a = some ⟨g, 0, none⟩ → 0 < us.length → base ≤ g := fun g e hk => by
  obtain ⟨g', cap', e', hb, _⟩ := h.own.form hk
  simp only [Value.slice.injEq] at e'
  obtain ⟨e1, _, _⟩ := e'
  rw [e1] at e
  simp only [Option.some.injEq, Addr.mk.injEq] at e
  rw [← e.1]; exact hb

/-- .. whose blocks keep to a set, from beginning to end. -/
def Elt.inn {α : Type} (E : Elt α) (Q : Nat → Prop) : Elt α where
  size := E.size
  R w P a cs := E.R w (fun b => P b ∧ Q b) a cs
  len := E.len
  one := E.one
  keep hk hp h := E.keep (Keeps.mono hk (fun _ h => h.1)) (fun g h hlt => ⟨hp g h.1 hlt, h.2⟩) h

theorem Rd.of_inn {α : Type} {E : Elt α} {Q : Nat → Prop} {w : World} {P : Nat → Prop} {a : Option Addr} {us : List α} (h : Rd (E.inn Q) w P a us) : Rd E w P a us := fun k hk => by
  obtain ⟨g, cs, e, hg, hc, hr⟩ := h k hk
  exact ⟨g, cs, e, hg, hc, E.keep (fun _ _ _ h => h) (fun _ h _ => h.1) hr⟩
theorem Rd.inn {α : Type} {E : Elt α} {Q : Nat → Prop} {w : World} {P : Nat → Prop} {a : Option Addr} {us : List α} (h : Rd (E.inn Q) w P a us) (hq : ∀ g, a = some ⟨g, 0, none⟩ → 0 < us.length → Q g) : Rd E w Q a us := fun k hk => by
  obtain ⟨g, cs, e, hg, hc, hr⟩ := h k hk
  exact ⟨g, cs, e, hq g e (by omega), hc, E.keep (fun _ _ _ h => h) (fun _ h _ => h.2) hr⟩

end Go.Proofs.YtoeebipahifpcaaGreat
