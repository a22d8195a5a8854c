/- The laws' own helpers on lists of texts: equal, marked, held. -/
import Derived.Test.YtmmfcljkcepahaaPathsS
import Derived.Test.YtmmfcljkcepahaaLawAC
import Derived.Deep.QuietTactic
import Derived.BigQuiet
namespace Go.Proofs.Ytmmfcljkcepahaa
open Go.RowKit

/-- The last digit. -/
def dg (k : Nat) : UInt8 := UInt8.ofNat (48 + k % 10)

theorem dg_nat (k : Nat) : (dg k).toNat = 48 + k % 10 := by
  unfold dg
  rw [UInt8.toNat_ofNat']
  omega

def digits : Nat → Nat → List UInt8
  | 0, _ => []
  | f + 1, k => if k = 0 then [] else digits f (k / 10) ++ [dg k]

/-- The k-th mark. -/
def mark (k : Nat) : List UInt8 := 109 :: digits 20 k

theorem digit_conv (j : Nat) (w : World) : (convert 69 9 (.slice (some ⟨w.heap.size, 0, none⟩) 1 1)).run Try.prog (w.alloc (.cells #[.int .u8 (48 + (j : Int) % 10)] 5)) =
    .ok (.string ⟨#[dg j]⟩) (w.alloc (.cells #[.int .u8 (48 + (j : Int) % 10)] 5)) := by
  refine run_convert_bytes_back (l := [dg j]) _ _ _ 5 _ _ Try.underlying69 Try.underlying5 Try.underlying9 ?_
  intro i hi
  simp at hi
  subst hi
  have e : (⟨w.heap.size, 0, none⟩ : Addr).add 0 = ⟨w.heap.size, 0, none⟩ := by unfold Addr.add; split <;> simp_all
  rw [e]
  simp [dg_nat]

theorem below_drewN {B : Nat} {a w : World} (h : Below B a w) (n : Nat) : Below B a (w.drewN n) := ⟨h.os, h.tape, h.output, h.size, h.block⟩

/-- A slice reads as these texts. -/
def Lies (w : World) (a : Option Addr) (ps : List (List UInt8)) : Prop := ∀ j (h : j < ps.length), ∃ g, a = some ⟨g, 0, none⟩ ∧ w.cell? ⟨g, j, none⟩ = some (.string ⟨(ps[j]).toArray⟩)

theorem Lies.below {w w' : World} {a : Option Addr} {ps : List (List UInt8)} (h : Lies w a ps) (hb : Below w.heap.size w w') : Lies w' a ps := fun j hj => by
  obtain ⟨g, e, hc⟩ := h j hj
  exact ⟨g, e, keep1 hb hc⟩

theorem Lies.nil (w : World) (a : Option Addr) : Lies w a [] := fun j h => by simp at h

theorem Lies.of_owns {w : World} {base g n cap : Nat} {ps : List (List UInt8)} (h : w.ownsRow base 9 1 (.slice (some ⟨g, 0, none⟩) n cap) n (txts ps)) (hn : n = ps.length) : Lies w (some ⟨g, 0, none⟩) ps := fun j hj => by
  refine ⟨g, rfl, ?_⟩
  rw [h.cellAt j (by omega)]
  simp [txts, hj]

end Go.Proofs.Ytmmfcljkcepahaa
