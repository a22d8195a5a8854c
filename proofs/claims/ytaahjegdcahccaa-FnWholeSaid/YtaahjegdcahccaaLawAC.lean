/- Contracts of the functions that only ask of one text: valid, leaves, nodes; on both sides. -/
import Derived.Test.YtaahjegdcahccaaSpecA
import Derived.Test.YtaahjegdcahccaaReadIC
import Derived.Test.YtaahjegdcahccaaSizeI
import Derived.ProofKit
namespace Go.Proofs.Ytaahjegdcahccaa
open Go.RowKit

theorem own : ownKnob Try.prog.godebug = none := by kernel_rfl

theorem laidOut : laidOutB Try.prog = true := by kernel_rfl

/-- What a call answers that only makes memory. -/
def Ans (v : Value) (w : World) (e : Ending) (w' : World) : Prop := e = .returned v ∧ Below w.heap.size w w'

theorem sValid_any (s : ByteArray) (w : World) (hs : s.size ≤ 140737488351232) :
    Calls Try.prog 29 #[.string s] w (Ans (.bool (parse s.data.toList).isSome) w) := by
  go_enter Try.func29, Try.ntmps29
  go_wp2_with fail
  refine (l1Parse_any s w hs).mono ?_
  rintro e w1 ⟨hB, lb, sa, sn, sc, b, rfl, hres⟩
  have hb : b = (parse s.data.toList).isSome := by
    rcases hres with ⟨h, rfl⟩ | ⟨t, h, rfl, _⟩
    · rw [h]; rfl
    · rw [h]; rfl
  have HB := Lib.hid hb
  clear hb hres
  go_wp2_with fail
  go_ret
  exact ⟨by rw [← HB.out]; rfl, hB.alloc hB.size _⟩

theorem iValid_any (s : ByteArray) (w : World) (hs : s.size ≤ 140737488351232) :
    Calls Try.prog 30 #[.string s] w (Ans (.bool (parse s.data.toList).isSome) w) := by
  go_enter Try.func30, Try.ntmps30
  go_wp2_with fail
  refine (readTree_any s w hs).mono ?_
  rintro e w1 ⟨hB, ⟨hno, rfl⟩ | ⟨t, ty, a, hyes, rfl, hrep⟩⟩
  · have HN := Lib.hid hno
    clear hno
    go_wp2_with fail
    go_ret
    exact ⟨by rw [HN.out]; rfl, hB⟩
  · have HN := Lib.hid hyes
    clear hyes
    go_wp2_with fail
    go_ret
    exact ⟨by rw [HN.out]; rfl, hB⟩

theorem sLeaves_any (s : ByteArray) (w : World) (hs : s.size ≤ 140737488351232) :
    Calls Try.prog 31 #[.string s] w (Ans (.int .i64 (leavesOf (parse s.data.toList))) w) := by
  go_enter Try.func31, Try.ntmps31
  go_wp2_with fail
  refine (l1Parse_any s w hs).mono ?_
  rintro e w1 ⟨hB, lb, sa, sn, sc, b, rfl, ⟨hno, rfl⟩ | ⟨t, hyes, rfl, hrep⟩⟩
  · have HN := Lib.hid hno
    clear hno
    go_wp2_with fail
    go_ret
    exact ⟨by rw [HN.out]; rfl, hB.alloc hB.size _⟩
  · obtain ⟨hw, _, hl, hn⟩ := parse_some hyes
    have HN := Lib.hid hyes
    have HR := Lib.hid (hrep.below hw ((Below.refl _ _).alloc (Nat.le_refl _) (.cells #[.string lb, .slice sa sn sc] 70 (0, 0))))
    clear hyes hrep
    go_wp2_with fail
    refine (l1Leaves_any _ t _ _ _ _ (Nat.le_refl _) hw (by omega) HR.out).mono ?_
    rintro e w2 ⟨rfl, hB2⟩
    go_wp2_with fail
    go_ret
    exact ⟨by rw [HN.out]; rfl, (hB.alloc hB.size _).trans (hB2.mono (by have := hB.size; simp; omega))⟩

theorem sNodes_any (s : ByteArray) (w : World) (hs : s.size ≤ 140737488351232) :
    Calls Try.prog 33 #[.string s] w (Ans (.int .i64 (nodesOf (parse s.data.toList))) w) := by
  go_enter Try.func33, Try.ntmps33
  go_wp2_with fail
  refine (l1Parse_any s w hs).mono ?_
  rintro e w1 ⟨hB, lb, sa, sn, sc, b, rfl, ⟨hno, rfl⟩ | ⟨t, hyes, rfl, hrep⟩⟩
  · have HN := Lib.hid hno
    clear hno
    go_wp2_with fail
    go_ret
    exact ⟨by rw [HN.out]; rfl, hB.alloc hB.size _⟩
  · obtain ⟨hw, _, hl, hn⟩ := parse_some hyes
    have HN := Lib.hid hyes
    have HR := Lib.hid (hrep.below hw ((Below.refl _ _).alloc (Nat.le_refl _) (.cells #[.string lb, .slice sa sn sc] 70 (0, 0))))
    clear hyes hrep
    go_wp2_with fail
    refine (l1Nodes_any _ t _ _ _ _ (Nat.le_refl _) hw (by omega) HR.out).mono ?_
    rintro e w2 ⟨rfl, hB2⟩
    go_wp2_with fail
    go_ret
    exact ⟨by rw [HN.out]; rfl, (hB.alloc hB.size _).trans (hB2.mono (by have := hB.size; simp; omega))⟩

theorem iLeaves_any (s : ByteArray) (w : World) (hs : s.size ≤ 140737488351232) :
    Calls Try.prog 32 #[.string s] w (Ans (.int .i64 (leavesOf (parse s.data.toList))) w) := by
  go_enter Try.func32, Try.ntmps32
  go_wp2_with fail
  refine (readTree_any s w hs).mono ?_
  rintro e w1 ⟨hB, ⟨hno, rfl⟩ | ⟨t, ty, a, hyes, rfl, hrep⟩⟩
  · have HN := Lib.hid hno
    clear hno
    go_wp2_with fail
    go_ret
    exact ⟨by rw [HN.out]; rfl, hB⟩
  · obtain ⟨hw, _, hl, hn⟩ := parse_some hyes
    have HN := Lib.hid hyes
    clear hyes
    cases t with
    | leaf =>
      rw [RepI] at hrep
      subst hrep
      go_wp2_with fail
      refine (leafLeaves_any _ _).mono ?_
      rintro e w2 ⟨rfl, rfl⟩
      go_wp2_with fail
      go_ret
      exact ⟨by rw [HN.out]; rfl, hB⟩
    | node c ks =>
      have HR := Lib.hid hrep
      have hty : ty = 133 := by rw [RepI] at hrep; exact hrep.1
      subst hty
      rw [T.wf] at hw
      have HW := Lib.hid hw.2.2.2.2
      clear hrep hw
      go_wp2_with fail
      refine (nodeLeaves_any _ c ks _ _ _ _ (Nat.le_refl _) HW.out (by rw [T.leaves] at hl; omega) HR.out).mono ?_
      rintro e w2 ⟨rfl, rfl⟩
      go_wp2_with fail
      go_ret
      exact ⟨by rw [HN.out]; rfl, hB⟩

theorem iNodes_any (s : ByteArray) (w : World) (hs : s.size ≤ 140737488351232) :
    Calls Try.prog 34 #[.string s] w (Ans (.int .i64 (nodesOf (parse s.data.toList))) w) := by
  go_enter Try.func34, Try.ntmps34
  go_wp2_with fail
  refine (readTree_any s w hs).mono ?_
  rintro e w1 ⟨hB, ⟨hno, rfl⟩ | ⟨t, ty, a, hyes, rfl, hrep⟩⟩
  · have HN := Lib.hid hno
    clear hno
    go_wp2_with fail
    go_ret
    exact ⟨by rw [HN.out]; rfl, hB⟩
  · obtain ⟨hw, _, hl, hn⟩ := parse_some hyes
    have HN := Lib.hid hyes
    clear hyes
    cases t with
    | leaf =>
      rw [RepI] at hrep
      subst hrep
      go_wp2_with fail
      refine (leafNodes_any _ _).mono ?_
      rintro e w2 ⟨rfl, rfl⟩
      go_wp2_with fail
      go_ret
      exact ⟨by rw [HN.out]; rfl, hB⟩
    | node c ks =>
      have HR := Lib.hid hrep
      have hty : ty = 133 := by rw [RepI] at hrep; exact hrep.1
      subst hty
      rw [T.wf] at hw
      have HW := Lib.hid hw.2.2.2.2
      clear hrep hw
      go_wp2_with fail
      refine (nodeNodes_any _ c ks _ _ _ _ (Nat.le_refl _) HW.out (by rw [T.nodes] at hn; omega) HR.out).mono ?_
      rintro e w2 ⟨rfl, rfl⟩
      go_wp2_with fail
      go_ret
      exact ⟨by rw [HN.out]; rfl, hB⟩

end Go.Proofs.Ytaahjegdcahccaa
