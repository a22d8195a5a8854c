/- Lists of lists of terms that come in: their size told, their copy made, two copies compared. -/
import Derived.Test.YtapobhnhnldlkaaGreatKStrT
import Derived.Deep.Matrix
namespace Go.Proofs.YtapobhnhnldlkaaGreat
open Go.RowKit

theorem choose_list {α : Type} {n : Nat} {Q : Nat → α → Prop} (h : ∀ j, j < n → ∃ y, Q j y) : ∃ ys : List α, ys.length = n ∧ ∀ j (hj : j < ys.length), Q j ys[j] := by
  induction n with
  | zero => exact ⟨[], rfl, fun j hj => by simp at hj⟩
  | succ n ih =>
    obtain ⟨ys, h1, h2⟩ := ih (fun j hj => h j (by omega))
    obtain ⟨y, hy⟩ := h n (by omega)
    refine ⟨ys ++ [y], by simp [h1], fun j hj => ?_⟩
    by_cases e : j < ys.length
    · rw [List.getElem_append_left e]; exact h2 j e
    · have : j = n := by simp at hj; omega
      subst this
      rw [List.getElem_append_right (by omega)]
      simpa using hy

/-- A slice of slices of terms reads as these lists. -/
def TermsO (w : World) (a : Option Addr) (yss : List (List (Int × ByteArray))) : Prop := ∀ j (h : j < yss.length), ∃ b off aj cj, a = some ⟨b, off, none⟩ ∧ w.cell? ⟨b, off + j, none⟩ = some (.slice aj (yss[j]).length cj) ∧ TermO w aj yss[j]

theorem TermsO.below {w w' : World} {a : Option Addr} {yss : List (List (Int × ByteArray))} (h : TermsO w a yss) (hb : Below w.heap.size w w') : TermsO w' a yss := fun j hj => by
  obtain ⟨b, off, aj, cj, e, hc, hd⟩ := h j hj
  exact ⟨b, off, aj, cj, e, keep1 hb hc, hd.below hb⟩

/-- .. in memory of the call's own. -/
def TermsL (w : World) (g : Nat) (yss : List (List (Int × ByteArray))) : Prop := ∀ j (h : j < yss.length), ∃ gj cj, w.cell? ⟨g, j, none⟩ = some (.slice (some ⟨gj, 0, none⟩) (yss[j]).length cj) ∧ TermL w gj yss[j]

theorem TermsL.below {w w' : World} {g : Nat} {yss : List (List (Int × ByteArray))} (h : TermsL w g yss) (hb : Below w.heap.size w w') : TermsL w' g yss := fun j hj => by
  obtain ⟨gj, cj, hc, hd⟩ := h j hj
  exact ⟨gj, cj, keep1 hb hc, hd.below hb⟩

/-- What is known of a list of terms that comes in. -/
def Open1 (ys : List (Int × ByteArray)) : Prop := (∀ j (h : j < ys.length), (ys[j]).2.size ≤ 9223372036854775807) ∧ Coefs ys ∧ ys.length ≤ 9223372036854775807

/-- A list of terms that is small. -/
def Small1 (ys : List (Int × ByteArray)) : Prop := ys.length ≤ 1048576 ∧ ∀ i (h : i < ys.length), (ys[i]).2.size ≤ 1048576

/-- How much is left: below 0, or all is small. -/
def SzTerms (yss : List (List (Int × ByteArray))) (w : World) (e : Ending) (w' : World) : Prop :=
  Below w.heap.size w w' ∧ ∃ v : Int, e = .returned (.int .i64 v) ∧ (v < 0 ∨ (0 ≤ v ∧ v ≤ 1048576 ∧ yss.length ≤ 1048576 ∧ ∀ j (h : j < yss.length), Small1 yss[j]))

theorem infoTermSS : (Tryz.prog.info? 24).map (fun i => (i.zero, i.size, i.bytes)) = some (some (.slice none 0 0), 1, 24) := by kernel_rfl

/-- A copy in new memory. -/
def CopyTerms (yss : List (List (Int × ByteArray))) (n : Nat) (w : World) (e : Ending) (w' : World) : Prop :=
  Below w.heap.size w w' ∧ ∃ g, e = .returned (.slice (some ⟨g, 0, none⟩) n n) ∧ w.heap.size ≤ g ∧ TermsL w' g yss

end Go.Proofs.YtapobhnhnldlkaaGreat
