/- How a tree lies in memory as the program has it (a pointer behind an interface); the program's reader: its small steps. -/
import Derived.Test.YtnobpckmlhgeiaaKRead
import Derived.RegionTactic
import Derived.Deep.RegionWith
import Derived.Deep.QuietTactic
import Derived.BigQuiet
namespace Go.Proofs.Ytnobpckmlhgeiaa
open Go.RowKit



/-- All but block r is as it was. -/
theorem grownBy_refl (w : World) (row : Option Nat) : w.grownBy w row := ⟨rfl, rfl, rfl, Nat.le_refl _, fun _ _ _ => rfl⟩
theorem grownBy_trans {a b c : World} {row : Option Nat} (h : a.grownBy b row) (k : b.grownBy c row) : a.grownBy c row :=
  ⟨k.os.trans h.os, k.tape.trans h.tape, k.output.trans h.output, Nat.le_trans h.size k.size, fun i hi hn => (k.block i (Nat.lt_of_lt_of_le hi h.size) hn).trans (h.block i hi hn)⟩
theorem grownBy_drewN {a b : World} {row : Option Nat} (h : a.grownBy b row) (n : Nat) : a.grownBy (b.drewN n) row := ⟨h.os, h.tape, h.output, h.size, h.block⟩
theorem grownBy_below {a b c : World} {row : Option Nat} (h : a.grownBy b row) (k : Below b.heap.size b c) : a.grownBy c row :=
  ⟨k.os.trans h.os, k.tape.trans h.tape, k.output.trans h.output, Nat.le_trans h.size k.size, fun i hi hn => (k.block i (Nat.lt_of_lt_of_le hi h.size)).trans (h.block i hi hn)⟩
theorem grownBy_setCell {a b : World} {r k : Nat} (h : a.grownBy b (some r)) (v : Value) : a.grownBy (b.setCell ⟨r, k, none⟩ v) (some r) :=
  ⟨h.os, h.tape, h.output, by simpa using h.size, fun i hi hn => by rw [Below.heap_setCell _ _ _ _ (by simpa using hn)]; exact h.block i hi hn⟩
theorem ret_str2 {a b : ByteArray} {v : Value} (h : a = b) : Ending.returned (.tuple #[.string a, v]) = .returned (.tuple #[.string b, v]) := by rw [h]

theorem extract_here {s : ByteArray} {i : Nat} (h : i < s.size) : s.extract i (i + 1) = ⟨#[s[i]]⟩ := by
  apply ByteArray.ext
  apply Array.ext
  · simp [ByteArray.data_extract]; change _ - _ = 1; have : s.data.size = s.size := rfl; omega
  · intro k h1 h2
    simp at h2
    subst h2
    simp [ByteArray.data_extract]; rfl

theorem wrap_next {s : ByteArray} {i : Nat} (hs : s.size ≤ 140737488351232) (hi : i < s.size) : IntKind.i64.wrap ((i : Int) + 1) = (i : Int) + 1 := by
  rw [IntKind.wrap_i64]; omega

/-- A letter that a node may have. -/
def isLet : List UInt8 → Bool
  | [c] => decide (97 ≤ (c.toNat : Int)) && decide ((c.toNat : Int) ≤ 104)
  | _ => false

end Go.Proofs.Ytnobpckmlhgeiaa
