/- Merged out of: XLawMirrorC, XLawCutC. -/
import Derived.Test.YtbbkaephlojalaaMirrorI
import Derived.Test.YtbbkaephlojalaaKReadA
import Derived.Test.YtbbkaephlojalaaReplS
import Derived.Test.YtbbkaephlojalaaCutI
import Derived.Deep.RegionHeld3
section
/- TreeMirror on both sides, and its law. -/
namespace Go.Proofs.Ytbbkaephlojalaa
open Go.RowKit

def mirrorOf : Option T → List UInt8
  | none => []
  | some t => t.mirror.text

theorem mirror_len {t : T} (hl : t.leaves ≤ 12) (hn : t.nodes ≤ 16) : t.mirror.text.length ≤ 100000 := by
  have h1 := text_length t.mirror
  have h2 := mirror_size t
  omega

theorem iMirror_any (s : ByteArray) (w : World) (hs : s.size ≤ 140737488351232) :
    Calls Try.prog 11 #[.string s] w (Ans (.tuple #[.string ⟨(mirrorOf (parse s.data.toList)).toArray⟩, .bool (parse s.data.toList).isSome]) w) := by
  go_enter Try.func11, Try.ntmps11
  go_wp2_with fail
  refine (readTree_any s w hs).mono ?_
  rintro e w1 ⟨hB, ⟨hno, rfl⟩ | ⟨t, ty, a, hyes, rfl, hrep⟩⟩
  · have HN := Lib.hid hno
    clear hno
    go_wp2_with fail
    go_ret2
    exact ⟨by rw [HN.out]; rfl, hB⟩
  · obtain ⟨hw, _, hl, hn⟩ := parse_some hyes
    have HN := Lib.hid hyes
    have HR := Lib.hid hrep
    clear hyes hrep
    go_wp2_with fail
    refine (mirrorTree_any _ t _ _ _ _ (Nat.le_refl _) hw HR.out).mono ?_
    rintro e w2 ⟨hB2, ty', a', rfl, hrep'⟩
    go_wp2_with fail
    refine (treeText_any t.mirror _ _ _ _ (mirror_wf _ hw) hrep' (mirror_len hl hn)).mono ?_
    rintro e w3 ⟨rfl, hB3⟩
    go_wp2_with fail
    go_ret2
    exact ⟨by rw [HN.out]; rfl, below_step (below_step hB hB2) hB3⟩

end Go.Proofs.Ytbbkaephlojalaa
end
section
/- TreePart and TreeCut on both sides, and their laws. -/
namespace Go.Proofs.Ytbbkaephlojalaa
open Go.RowKit

/-- What is cut off a text: the rest, the part, the leaf's index. -/
def cutOf (s : List UInt8) (k : Int) : Option (T × T × Nat) :=
  match parse s with
  | none => none
  | some t => if k < 0 then none else t.cutAt k.toNat

def cutV : Option (T × T × Nat) → Value
  | none => .tuple #[.string ⟨#[]⟩, .string ⟨#[]⟩, .int .i64 0, .bool false]
  | some (r, p, a) => .tuple #[.string ⟨r.text.toArray⟩, .string ⟨p.text.toArray⟩, .int .i64 ((a : Nat) : Int), .bool true]

def partV : Option (T × T × Nat) → Value
  | none => .tuple #[.string ⟨#[]⟩, .bool false]
  | some (_, p, _) => .tuple #[.string ⟨p.text.toArray⟩, .bool true]

theorem cutOf_no {s : List UInt8} {k : Int} (h : parse s = none) : cutOf s k = none := by simp [cutOf, h]

theorem cutOf_neg {s : List UInt8} {k : Int} (h : k < 0) : cutOf s k = none := by
  unfold cutOf
  split
  · rfl
  · rw [if_pos h]

theorem cutOf_nat {s : List UInt8} {k : Nat} {t : T} (h : parse s = some t) : cutOf s k = t.cutAt k := by
  simp only [cutOf, h]
  rw [if_neg (by omega), Int.toNat_natCast]

theorem cut_len {t r p : T} {k a : Nat} (hw : t.wf) (hl : t.leaves ≤ 12) (hn : t.nodes ≤ 16) (h : t.cutAt k = some (r, p, a)) : r.text.length ≤ 100000 ∧ p.text.length ≤ 100000 := by
  have h1 := text_length t
  have h2 := (cutAt_wf t k r p a hw h).2.2.1
  omega

theorem cutOf_out {s : List UInt8} {k : Int} {t : T} (h : parse s = some t) (hk : ¬ (0 ≤ k ∧ k ≤ (t.nodes : Int) - 1)) : cutOf s k = none := by
  by_cases h0 : k < 0
  · exact cutOf_neg h0
  · simp only [cutOf, h]
    rw [if_neg h0, cutAt_none t _ (by omega)]

end Go.Proofs.Ytbbkaephlojalaa
end
