/- Merged out of: XLawMirrorC, XLawCutC. -/
import Derived.Test.YtfjodghnheliaaaMirrorI
import Derived.Test.YtfjodghnheliaaaKReadIC
import Derived.Test.YtfjodghnheliaaaReplS
import Derived.Test.YtfjodghnheliaaaCutI
import Derived.Deep.RegionHeld3
section
/- TreeMirror on both sides, and its law. -/
namespace Go.Proofs.Ytfjodghnheliaaa
open Go.RowKit

def mirrorOf : Option T → List UInt8
  | none => []
  | some t => t.mirror.text

theorem mirror_len {t : T} (hl : t.leaves ≤ 12) (hn : t.nodes ≤ 16) : t.mirror.text.length ≤ 100000 := by
  have h1 := text_length t.mirror
  have h2 := mirror_size t
  omega

end Go.Proofs.Ytfjodghnheliaaa
end
section
/- TreePart and TreeCut on both sides, and their laws. -/
namespace Go.Proofs.Ytfjodghnheliaaa
open Go.RowKit

/-- What is cut off a text: the rest, the part, the leaf's index. -/
def cutOf (s : List UInt8) (k : Int) : Option (T × T × Nat) :=
  match parse s with
  | none => none
  | some t => if k < 0 then none else t.cutAt k.toNat

def cutV : Option (T × T × Nat) → Value
  | none => .tuple #[.string ⟨#[]⟩, .string ⟨#[]⟩, .int .i64 0, .bool false]
  | some (r, p, a) => .tuple #[.string ⟨r.text.toArray⟩, .string ⟨p.text.toArray⟩, .int .i64 ((a : Nat) : Int), .bool true]

def partV : Option (T × T × Nat) → Value
  | none => .tuple #[.string ⟨#[]⟩, .bool false]
  | some (_, p, _) => .tuple #[.string ⟨p.text.toArray⟩, .bool true]

theorem cutOf_no {s : List UInt8} {k : Int} (h : parse s = none) : cutOf s k = none := by simp [cutOf, h]

theorem cutOf_neg {s : List UInt8} {k : Int} (h : k < 0) : cutOf s k = none := by
  unfold cutOf
  split
  · rfl
  · rw [if_pos h]

theorem cutOf_nat {s : List UInt8} {k : Nat} {t : T} (h : parse s = some t) : cutOf s k = t.cutAt k := by
  simp only [cutOf, h]
  rw [if_neg (by omega), Int.toNat_natCast]

theorem cut_len {t r p : T} {k a : Nat} (hw : t.wf) (hl : t.leaves ≤ 12) (hn : t.nodes ≤ 16) (h : t.cutAt k = some (r, p, a)) : r.text.length ≤ 100000 ∧ p.text.length ≤ 100000 := by
  have h1 := text_length t
  have h2 := (cutAt_wf t k r p a hw h).2.2.1
  omega

theorem cutOf_out {s : List UInt8} {k : Int} {t : T} (h : parse s = some t) (hk : ¬ (0 ≤ k ∧ k ≤ (t.nodes : Int) - 1)) : cutOf s k = none := by
  by_cases h0 : k < 0
  · exact cutOf_neg h0
  · simp only [cutOf, h]
    rw [if_neg h0, cutAt_none t _ (by omega)]

set_option maxRecDepth 100000 in
set_option maxHeartbeats 1000000 in
theorem iCut_any (s : ByteArray) (k : Int) (w : World) (hs : s.size ≤ 140737488351232) (hk : k ≤ 9223372036854775807) :
    Calls Try.prog 51 #[.string s, .int .i64 k] w (Ans (cutV (cutOf s.data.toList k)) w) := by
  go_enter Try.func51, Try.ntmps51
  go_wp2_with fail
  refine (readTree_any s w hs).mono ?_
  rintro e w1 ⟨hB, ⟨hno, rfl⟩ | ⟨t, ty, a, hyes, rfl, hrep⟩⟩
  · have HN := Lib.hid (cutOf_no (k := k) hno)
    clear hno
    go_wp2_with fail
    go_returns
    exact ⟨by rw [HN.out]; rfl, hB⟩
  · obtain ⟨hw, htx, hl, hn⟩ := parse_some hyes
    clear htx
    have HN := Lib.hid hyes
    have HR := Lib.hid (hrep.keep (w' := w1) (P' := fun b => b < w1.heap.size) (fun _ _ _ h => h) (fun _ _ h => h) hw)
    clear hyes hrep
    by_cases h0 : k < 0
    · have HO := Lib.hid (cutOf_neg (s := s.data.toList) h0)
      go_wp2_with fail
      go_returns
      exact ⟨by rw [HO.out]; rfl, hB⟩
    · obtain ⟨kn, rfl⟩ : ∃ kn : Nat, k = (kn : Int) := ⟨k.toNat, by omega⟩
      have HV := Lib.hid (cutOf_nat (k := kn) HN.out)
      have HCT := Lib.hid (cutTree_any _ t ty a kn w1 (fun b => b < w1.heap.size) (Nat.le_refl _) hw (by omega) (by omega) (by omega) (fun b hb => hb) HR.out)
      go_wp2_with fail
      refine HCT.out.mono ?_
      rintro e w2 ⟨hB2, ⟨hno, rfl⟩ | ⟨r, p, at', ty1, a1, ty2, a2, hc, rfl, hr1, hr2⟩⟩
      · have HNO := Lib.hid hno
        clear hno
        go_wp2_with fail
        go_returns
        exact ⟨by rw [HV.out, HNO.out]; rfl, below_step hB hB2⟩
      · have HC := Lib.hid hc
        have hwf := cutAt_wf t kn r p at' hw hc
        have hlen := cut_len hw hl hn hc
        have hrw := hwf.1
        have hpw := hwf.2.1
        have hrt := hlen.1
        have hpt := hlen.2
        have HR1 := Lib.hid hr1
        have HR2 := Lib.hid hr2
        clear hc hr1 hr2 hwf hlen
        go_wp2_with fail
        refine (treeText_any r ty1 a1 w2 _ hrw HR1.out hrt).mono ?_
        rintro e w3 ⟨rfl, hB3⟩
        have HR2' := Lib.hid ((HR2.out.keep (w' := w2) (P' := fun b => b < w2.heap.size) (fun _ _ _ h => h) (fun _ _ h => h) hpw).belowB hpw hB3)
        have HB3 := Lib.hid hB3
        clear hB3
        go_wp2_with fail
        refine (treeText_any p ty2 a2 w3 _ hpw HR2'.out hpt).mono ?_
        rintro e w4 ⟨rfl, hB4⟩
        have HB4 := Lib.hid hB4
        clear hB4
        go_wp2_with fail
        go_returns
        exact ⟨by rw [HV.out, HC.out]; rfl, below_step (below_step (below_step hB hB2) HB3.out) HB4.out⟩

theorem iPart_any (s : ByteArray) (k : Int) (w : World) (hs : s.size ≤ 140737488351232) (hk : k ≤ 9223372036854775807) :
    Calls Try.prog 20 #[.string s, .int .i64 k] w (Ans (partV (cutOf s.data.toList k)) w) := by
  have HI := Lib.hid (iCut_any s k w hs hk)
  obtain ⟨o, ho⟩ : ∃ o, cutOf s.data.toList k = o := ⟨_, rfl⟩
  rw [ho] at HI ⊢
  clear ho
  go_enter Try.func20, Try.ntmps20
  go_wp2_with fail
  refine HI.out.mono ?_
  rintro e w1 ⟨rfl, hB⟩
  rcases o with _ | ⟨r, p, a⟩
  · rw [cutV]
    go_wp2_with fail
    go_ret2
    exact ⟨rfl, hB⟩
  · rw [cutV]
    go_wp2_with fail
    go_ret2
    exact ⟨rfl, hB⟩

end Go.Proofs.Ytfjodghnheliaaa
end
