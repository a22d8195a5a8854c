/- Merged out of: XSymC, XSignS. -/
import Derived.Test.YtoeebipahifpcaaGreatKStrT
import Derived.Deep.SlicePairs
import Derived.OpenShut
section
/- A list of symbols that comes in: its size told, its copy made, two copies compared. -/
namespace Go.Proofs.YtoeebipahifpcaaGreat
open Go.RowKit

/-- A slice of symbols reads as these letters and arities. -/
def SymO (w : World) (a : Option Addr) (ys : List (ByteArray × Int)) : Prop := ∀ j (h : j < ys.length), ∃ b off, a = some ⟨b, off, none⟩ ∧ w.cell? ⟨b, off + j * 2, none⟩ = some (.string (ys[j]).1) ∧ w.cell? ⟨b, off + j * 2 + 1, none⟩ = some (.int .i64 (ys[j]).2)

theorem SymO.below {w w' : World} {a : Option Addr} {ys : List (ByteArray × Int)} (h : SymO w a ys) (hb : Below w.heap.size w w') : SymO w' a ys := fun j hj => by
  obtain ⟨b, off, e, hc, hd⟩ := h j hj
  exact ⟨b, off, e, keep1 hb hc, keep1 hb hd⟩

/-- .. in memory of the call's own. -/
def SymL (w : World) (g : Nat) (ys : List (ByteArray × Int)) : Prop := ∀ j (h : j < ys.length), w.cell? ⟨g, j * 2, none⟩ = some (.string (ys[j]).1) ∧ w.cell? ⟨g, j * 2 + 1, none⟩ = some (.int .i64 (ys[j]).2)

theorem SymL.below {w w' : World} {g : Nat} {ys : List (ByteArray × Int)} (h : SymL w g ys) (hb : Below w.heap.size w w') : SymL w' g ys := fun j hj => by
  obtain ⟨hc, hd⟩ := h j hj
  exact ⟨keep1 hb hc, keep1 hb hd⟩

/-- The arities are ints. -/
def Arities (ys : List (ByteArray × Int)) : Prop := ∀ j (h : j < ys.length), -9223372036854775808 ≤ (ys[j]).2 ∧ (ys[j]).2 ≤ 9223372036854775807

theorem cellsInt : Tryz.prog.cellsOf 3 = 1 := by kernel_rfl

/-- The choice of what stands behind each index. -/
theorem choose_pairs {n : Nat} {Q : Nat → ByteArray × Int → Prop} (h : ∀ j, j < n → ∃ y, Q j y) : ∃ ys : List (ByteArray × Int), ys.length = n ∧ ∀ j (hj : j < ys.length), Q j ys[j] := by
  induction n with
  | zero => exact ⟨[], rfl, fun j hj => by simp at hj⟩
  | succ n ih =>
    obtain ⟨ys, h1, h2⟩ := ih (fun j hj => h j (by omega))
    obtain ⟨y, hy⟩ := h n (by omega)
    refine ⟨ys ++ [y], by simp [h1], fun j hj => ?_⟩
    by_cases e : j < ys.length
    · rw [List.getElem_append_left e]; exact h2 j e
    · have : j = n := by simp at hj; omega
      subst this
      rw [List.getElem_append_right (by omega)]
      simpa using hy

/-- How much is left: below 0, or all letters are small. -/
def SzSym (ys : List (ByteArray × Int)) (w : World) (e : Ending) (w' : World) : Prop :=
  Below w.heap.size w w' ∧ ∃ v : Int, e = .returned (.int .i64 v) ∧ (v < 0 ∨ (0 ≤ v ∧ ys.length ≤ 1048576 ∧ ∀ j (h : j < ys.length), (ys[j]).1.size ≤ 1048576))

/-- A copy in new memory. -/
def CopySym (ys : List (ByteArray × Int)) (n : Nat) (w : World) (e : Ending) (w' : World) : Prop :=
  Below w.heap.size w w' ∧ ∃ g, e = .returned (.slice (some ⟨g, 0, none⟩) n n) ∧ w.heap.size ≤ g ∧ SymL w' g ys

end Go.Proofs.YtoeebipahifpcaaGreat
end
section
/- Signatures: what they are; SignValid by the model. -/
namespace Go.Proofs.YtoeebipahifpcaaGreat
open Go.RowKit

/-- A symbol that a signature may have. -/
def okSym (y : ByteArray × Int) : Prop := isLet y.1.data.toList = true ∧ 1 ≤ y.2 ∧ y.2 ≤ 6

/-- The first k symbols are fine, and no letter stands twice. -/
def SignTo (ys : List (ByteArray × Int)) (k : Nat) : Prop := ∀ i (h : i < ys.length), i < k → okSym ys[i] ∧ ∀ j (hj : j < i), (ys[j]'(by omega)).1 ≠ (ys[i]).1

def SignOk (ys : List (ByteArray × Int)) : Prop := ys.length ≤ 6 ∧ SignTo ys ys.length

theorem SignTo.zero (ys : List (ByteArray × Int)) : SignTo ys 0 := fun i _ h => by omega
theorem SignTo.next {ys : List (ByteArray × Int)} {k : Nat} (h : SignTo ys k) (hk : k < ys.length) (h1 : okSym ys[k]) (h2 : ∀ j (hj : j < k), (ys[j]'(by omega)).1 ≠ (ys[k]).1) : SignTo ys (k + 1) := by
  intro i hi hik
  by_cases e : i = k
  · subst e; exact ⟨h1, h2⟩
  · exact h i hi (by omega)

/-- What a function answers that asks whether they are a signature. -/
def SvPost (ys : List (ByteArray × Int)) (w : World) (e : Ending) (w' : World) : Prop :=
  Below w.heap.size w w' ∧ ∃ b, e = .returned (.bool b) ∧ (b = true ↔ SignOk ys)

theorem not_sign {ys : List (ByteArray × Int)} {k : Nat} (hk : k < ys.length) (h : ¬ okSym ys[k]) : ¬ SignOk ys := fun hs => h (hs.2 k hk hk).1

theorem let_of {s : ByteArray} (h : isLet s.data.toList = true) : ∃ c : UInt8, s = ⟨#[c]⟩ ∧ 97 ≤ (c.toNat : Int) ∧ (c.toNat : Int) ≤ 104 := by
  have hd : ∃ c, s.data.toList = [c] := by
    generalize s.data.toList = l at h
    match l, h with
    | [c], _ => exact ⟨c, rfl⟩
    | [], h => simp [isLet] at h
    | _ :: _ :: _, h => simp [isLet] at h
  obtain ⟨c, hc⟩ := hd
  rw [hc] at h
  simp only [isLet, Bool.and_eq_true, decide_eq_true_eq] at h
  refine ⟨c, ?_, h⟩
  apply ByteArray.ext; apply Array.toList_inj.1; rw [hc]

theorem one_of {s : ByteArray} (h : s.size = 1) : ∃ c : UInt8, s = ⟨#[c]⟩ := by
  have h2 : s.data.toList.length = 1 := by rw [Array.length_toList]; exact h
  cases hd : s.data.toList with
  | nil => rw [hd] at h2; simp at h2
  | cons c r => cases r with
    | nil => exact ⟨c, by apply ByteArray.ext; apply Array.toList_inj.1; rw [hd]⟩
    | cons _ _ => rw [hd] at h2; simp at h2

theorem ba_ne {a b : ByteArray} (h : a ≠ b) : (a.toList == b.toList) = false := by
  have : a.toList ≠ b.toList := fun e => h (by
    rw [ByteArray.toList_eq, ByteArray.toList_eq] at e
    exact Go.WideShapes.bytes_inj e)
  exact beq_eq_false_iff_ne.2 this

theorem let_size {s : ByteArray} (h : s.size ≠ 1) : isLet s.data.toList ≠ true := fun hc => by
  obtain ⟨c, rfl, _⟩ := let_of hc
  exact h rfl

theorem let_one {c : UInt8} (h : ¬ (97 ≤ (c.toNat : Int) ∧ (c.toNat : Int) ≤ 104)) : isLet (⟨#[c]⟩ : ByteArray).data.toList ≠ true := fun hc => by
  simp only [isLet, Bool.and_eq_true, decide_eq_true_eq] at hc
  exact h hc

end Go.Proofs.YtoeebipahifpcaaGreat
end
