/- TreeMirror on both sides, and its law. -/
import Derived.Test.YtaahjegdcahccaaMirrorI
import Derived.Test.YtaahjegdcahccaaLawAC
namespace Go.Proofs.Ytaahjegdcahccaa
open Go.RowKit

def mirrorOf : Option T → List UInt8
  | none => []
  | some t => t.mirror.text

theorem mirror_len {t : T} (hl : t.leaves ≤ 12) (hn : t.nodes ≤ 16) : t.mirror.text.length ≤ 100000 := by
  have h1 := text_length t.mirror
  have h2 := mirror_size t
  omega

theorem sMirror_any (s : ByteArray) (w : World) (hs : s.size ≤ 140737488351232) :
    Calls Try.prog 42 #[.string s] w (Ans (.tuple #[.string ⟨(mirrorOf (parse s.data.toList)).toArray⟩, .bool (parse s.data.toList).isSome]) w) := by
  go_enter Try.func42, Try.ntmps42
  go_wp2_with fail
  refine (l1Parse_any s w hs).mono ?_
  rintro e w1 ⟨hB, lb, sa, sn, sc, b, rfl, ⟨hno, rfl⟩ | ⟨t, hyes, rfl, hrep⟩⟩
  · have HN := Lib.hid hno
    clear hno
    go_wp2_with fail
    go_ret2
    exact ⟨by rw [HN.out]; rfl, hB.alloc hB.size _⟩
  · obtain ⟨hw, _, hl, hn⟩ := parse_some hyes
    have HN := Lib.hid hyes
    have hb2 : Below w1.heap.size w1 (w1.alloc (.cells #[.string lb, .slice sa sn sc] 70 (0, 0))) := (Below.refl _ _).alloc (Nat.le_refl _) _
    have HR := Lib.hid (hrep.below hw hb2)
    clear hyes hrep
    go_wp2_with fail
    refine (l1Mirror_any _ t _ _ _ _ (Nat.le_refl _) hw HR.out).mono ?_
    rintro e w2 ⟨hB2, lb', sa', sn', sc', rfl, hrep'⟩
    go_wp2_with fail
    refine (l1Text_any _ t.mirror _ _ _ _ (Nat.le_refl _) (mirror_wf _ hw) (mirror_len hl hn) hrep').mono ?_
    rintro e w3 ⟨rfl, hB3⟩
    go_wp2_with fail
    go_ret2
    exact ⟨by rw [HN.out]; rfl, below_step (below_step (below_step hB hb2) hB2) hB3⟩

theorem iMirror_any (s : ByteArray) (w : World) (hs : s.size ≤ 140737488351232) :
    Calls Try.prog 43 #[.string s] w (Ans (.tuple #[.string ⟨(mirrorOf (parse s.data.toList)).toArray⟩, .bool (parse s.data.toList).isSome]) w) := by
  go_enter Try.func43, Try.ntmps43
  go_wp2_with fail
  refine (readTree_any s w hs).mono ?_
  rintro e w1 ⟨hB, ⟨hno, rfl⟩ | ⟨t, ty, a, hyes, rfl, hrep⟩⟩
  · have HN := Lib.hid hno
    clear hno
    go_wp2_with fail
    go_ret2
    exact ⟨by rw [HN.out]; rfl, hB⟩
  · obtain ⟨hw, _, hl, hn⟩ := parse_some hyes
    have HN := Lib.hid hyes
    have HR := Lib.hid hrep
    clear hyes hrep
    go_wp2_with fail
    refine (mirrorTree_any _ t _ _ _ _ (Nat.le_refl _) hw HR.out).mono ?_
    rintro e w2 ⟨hB2, ty', a', rfl, hrep'⟩
    go_wp2_with fail
    refine (treeText_any t.mirror _ _ _ _ (mirror_wf _ hw) hrep' (mirror_len hl hn)).mono ?_
    rintro e w3 ⟨rfl, hB3⟩
    go_wp2_with fail
    go_ret2
    exact ⟨by rw [HN.out]; rfl, below_step (below_step hB hB2) hB3⟩

end Go.Proofs.Ytaahjegdcahccaa
