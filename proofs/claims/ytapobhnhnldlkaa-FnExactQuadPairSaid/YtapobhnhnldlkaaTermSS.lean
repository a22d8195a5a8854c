/- Lists of lists of terms that come in: their size told, their copy made, two copies compared. -/
import Derived.Test.YtapobhnhnldlkaaKStrT
import Derived.Deep.Matrix
namespace Go.Proofs.Ytapobhnhnldlkaa
open Go.RowKit

theorem choose_list {α : Type} {n : Nat} {Q : Nat → α → Prop} (h : ∀ j, j < n → ∃ y, Q j y) : ∃ ys : List α, ys.length = n ∧ ∀ j (hj : j < ys.length), Q j ys[j] := by
  induction n with
  | zero => exact ⟨[], rfl, fun j hj => by simp at hj⟩
  | succ n ih =>
    obtain ⟨ys, h1, h2⟩ := ih (fun j hj => h j (by omega))
    obtain ⟨y, hy⟩ := h n (by omega)
    refine ⟨ys ++ [y], by simp [h1], fun j hj => ?_⟩
    by_cases e : j < ys.length
    · rw [List.getElem_append_left e]; exact h2 j e
    · have : j = n := by simp at hj; omega
      subst this
      rw [List.getElem_append_right (by omega)]
      simpa using hy

/-- A slice of slices of terms reads as these lists. -/
def TermsO (w : World) (a : Option Addr) (yss : List (List (Int × ByteArray))) : Prop := ∀ j (h : j < yss.length), ∃ b off aj cj, a = some ⟨b, off, none⟩ ∧ w.cell? ⟨b, off + j, none⟩ = some (.slice aj (yss[j]).length cj) ∧ TermO w aj yss[j]

theorem TermsO.below {w w' : World} {a : Option Addr} {yss : List (List (Int × ByteArray))} (h : TermsO w a yss) (hb : Below w.heap.size w w') : TermsO w' a yss := fun j hj => by
  obtain ⟨b, off, aj, cj, e, hc, hd⟩ := h j hj
  exact ⟨b, off, aj, cj, e, keep1 hb hc, hd.below hb⟩

/-- .. in memory of the call's own. -/
def TermsL (w : World) (g : Nat) (yss : List (List (Int × ByteArray))) : Prop := ∀ j (h : j < yss.length), ∃ gj cj, w.cell? ⟨g, j, none⟩ = some (.slice (some ⟨gj, 0, none⟩) (yss[j]).length cj) ∧ TermL w gj yss[j]

theorem TermsL.below {w w' : World} {g : Nat} {yss : List (List (Int × ByteArray))} (h : TermsL w g yss) (hb : Below w.heap.size w w') : TermsL w' g yss := fun j hj => by
  obtain ⟨gj, cj, hc, hd⟩ := h j hj
  exact ⟨gj, cj, keep1 hb hc, hd.below hb⟩

/-- What is known of a list of terms that comes in. -/
def Open1 (ys : List (Int × ByteArray)) : Prop := (∀ j (h : j < ys.length), (ys[j]).2.size ≤ 9223372036854775807) ∧ Coefs ys ∧ ys.length ≤ 9223372036854775807

/-- A list of terms that is small. -/
def Small1 (ys : List (Int × ByteArray)) : Prop := ys.length ≤ 1048576 ∧ ∀ i (h : i < ys.length), (ys[i]).2.size ≤ 1048576

theorem cellsTermS : Try.prog.cellsOf 23 = 1 := by kernel_rfl

set_option maxRecDepth 100000 in
theorem open_terms_raw {H : Type} {enc : TypeId × Value → H} {W : World} {spare : Nat → Bool} {held : Bool} {v : Value} {fuel : Nat} {x : DataW H × List MemPlace}
    (hf : DataW.trod enc Try.prog W 0 spare held fuel 23 [v] = some x) :
    ∃ (a : Option Addr) (cap : Nat) (ys : List (Int × ByteArray)), v = .slice a ys.length cap ∧ TermO W a ys ∧ Open1 ys := by
  rcases Go.Deep.open_slice_pairs Try.underlying23 Try.underlying35 cellsTermO rfl rfl cellsIntT cellsStr hf with ⟨hcs, hx⟩ | ⟨a, len, cap, m, n, V0, V1, D0, D1, P0, P1, hcs, _, hl, hm, hmm, hx, hcell⟩
  · simp only [List.cons.injEq, and_true] at hcs
    subst hcs
    exact ⟨none, 0, [], rfl, fun j h => by simp at h, fun j h => by simp at h, fun j h => by simp at h, by simp⟩
  · simp only [List.cons.injEq, and_true] at hcs
    subst hcs
    have hle : len ≤ m := by rw [hmm]; split <;> omega
    simp only [maxLen, show (2 ^ 63 - 1 : Nat) = 9223372036854775807 from rfl] at hm
    have hch : ∀ j, j < len → ∃ y : Int × ByteArray, W.cell? (a.add (j * 2)) = some (.int .i64 y.1) ∧ W.cell? (a.add (j * 2 + 1)) = some (.string y.2) ∧ y.2.size ≤ 9223372036854775807 ∧ (-9223372036854775808 ≤ y.1 ∧ y.1 ≤ 9223372036854775807) := by
      intro j hj
      obtain ⟨c0, c1, t0, t1⟩ := hcell j (by omega)
      obtain ⟨x, e0, _, hx⟩ := DataW.trod_int Try.underlying3 t0
      obtain ⟨s, e1, _, hs⟩ := DataW.trod_string Try.underlying9 t1
      simp only [List.cons.injEq, and_true] at e0 e1
      rw [e0] at c0
      rw [e1] at c1
      refine ⟨(x, s), c0, c1, ?_, ?_⟩
      · simpa only [maxLen, show (2 ^ 63 - 1 : Nat) = 9223372036854775807 from rfl] using hs
      · exact bounds_i64 hx
    obtain ⟨ys, hyl, hyq⟩ := choose_terms hch
    refine ⟨some a, cap, ys, by rw [hyl], ?_, fun j h => (hyq j h).2.2.1, fun j h => (hyq j h).2.2.2, by omega⟩
    intro j hj
    obtain ⟨h0, h1, _, _⟩ := hyq j hj
    obtain ⟨b, off, spot⟩ := a
    have hspot : spot = none := by
      have h00 := (hyq 0 (by omega)).1
      simpa [Addr.add] using World.cell?_spot h00
    subst hspot
    have e : ∀ n, (⟨b, off, none⟩ : Addr).add n = ⟨b, off + n, none⟩ := fun n => by unfold Addr.add; split <;> simp_all
    rw [e] at h0 h1
    exact ⟨b, off, rfl, h0, by rw [Nat.add_assoc]; exact h1⟩

/-- How much is left: below 0, or all is small. -/
def SzTerms (yss : List (List (Int × ByteArray))) (w : World) (e : Ending) (w' : World) : Prop :=
  Below w.heap.size w w' ∧ ∃ v : Int, e = .returned (.int .i64 v) ∧ (v < 0 ∨ (0 ≤ v ∧ v ≤ 1048576 ∧ yss.length ≤ 1048576 ∧ ∀ j (h : j < yss.length), Small1 yss[j]))

theorem infoTermSS : (Try.prog.info? 28).map (fun i => (i.zero, i.size, i.bytes)) = some (some (.slice none 0 0), 1, 24) := by kernel_rfl

/-- A copy in new memory. -/
def CopyTerms (yss : List (List (Int × ByteArray))) (n : Nat) (w : World) (e : Ending) (w' : World) : Prop :=
  Below w.heap.size w w' ∧ ∃ g, e = .returned (.slice (some ⟨g, 0, none⟩) n n) ∧ w.heap.size ≤ g ∧ TermsL w' g yss

end Go.Proofs.Ytapobhnhnldlkaa
