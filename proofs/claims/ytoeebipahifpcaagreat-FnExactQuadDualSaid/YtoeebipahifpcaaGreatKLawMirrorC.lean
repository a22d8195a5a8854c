/- Merged out of: XLawMirrorC, XLawCutC. -/
import Derived.Test.YtoeebipahifpcaaGreatMirrorI
import Derived.Test.YtoeebipahifpcaaGreatKReadA
import Derived.Test.YtoeebipahifpcaaGreatReplS
import Derived.Test.YtoeebipahifpcaaGreatCutI
import Derived.Deep.RegionHeld3
section
/- TreeMirror on both sides, and its law. -/
namespace Go.Proofs.YtoeebipahifpcaaGreat
open Go.RowKit

def mirrorOf : Option T → List UInt8
  | none => []
  | some t => t.mirror.text

theorem mirror_len {t : T} (hl : t.leaves ≤ 12) (hn : t.nodes ≤ 16) : t.mirror.text.length ≤ 100000 := by
  have h1 := text_length t.mirror
  have h2 := mirror_size t
  omega

end Go.Proofs.YtoeebipahifpcaaGreat
end
section
/- TreePart and TreeCut on both sides, and their laws. -/
namespace Go.Proofs.YtoeebipahifpcaaGreat
open Go.RowKit

/-- What is cut off a text: the rest, the part, the leaf's index. -/
def cutOf (s : List UInt8) (k : Int) : Option (T × T × Nat) :=
  match parse s with
  | none => none
  | some t => if k < 0 then none else t.cutAt k.toNat

def cutV : Option (T × T × Nat) → Value
  | none => .tuple #[.string ⟨#[]⟩, .string ⟨#[]⟩, .int .i64 0, .bool false]
  | some (r, p, a) => .tuple #[.string ⟨r.text.toArray⟩, .string ⟨p.text.toArray⟩, .int .i64 ((a : Nat) : Int), .bool true]

def partV : Option (T × T × Nat) → Value
  | none => .tuple #[.string ⟨#[]⟩, .bool false]
  | some (_, p, _) => .tuple #[.string ⟨p.text.toArray⟩, .bool true]

theorem cutOf_no {s : List UInt8} {k : Int} (h : parse s = none) : cutOf s k = none := by simp [cutOf, h]

theorem cutOf_neg {s : List UInt8} {k : Int} (h : k < 0) : cutOf s k = none := by
  unfold cutOf
  split
  · rfl
  · rw [if_pos h]

theorem cutOf_nat {s : List UInt8} {k : Nat} {t : T} (h : parse s = some t) : cutOf s k = t.cutAt k := by
  simp only [cutOf, h]
  rw [if_neg (by omega), Int.toNat_natCast]

theorem cut_len {t r p : T} {k a : Nat} (hw : t.wf) (hl : t.leaves ≤ 12) (hn : t.nodes ≤ 16) (h : t.cutAt k = some (r, p, a)) : r.text.length ≤ 100000 ∧ p.text.length ≤ 100000 := by
  have h1 := text_length t
  have h2 := (cutAt_wf t k r p a hw h).2.2.1
  omega

theorem cutOf_out {s : List UInt8} {k : Int} {t : T} (h : parse s = some t) (hk : ¬ (0 ≤ k ∧ k ≤ (t.nodes : Int) - 1)) : cutOf s k = none := by
  by_cases h0 : k < 0
  · exact cutOf_neg h0
  · simp only [cutOf, h]
    rw [if_neg h0, cutAt_none t _ (by omega)]

end Go.Proofs.YtoeebipahifpcaaGreat
end
