/- Merged out of: XLawMirrorC, XLawCutC. -/
import Derived.Test.YtfflgjidapclkaaMirrorI
import Derived.Test.YtfflgjidapclkaaKReadA
import Derived.Test.YtfflgjidapclkaaReplS
import Derived.Test.YtfflgjidapclkaaCutI
import Derived.Deep.RegionHeld3
section
/- TreeMirror on both sides, and its law. -/
namespace Go.Proofs.Ytfflgjidapclkaa
open Go.RowKit

def mirrorOf : Option T → List UInt8
  | none => []
  | some t => t.mirror.text

theorem mirror_len {t : T} (hl : t.leaves ≤ 12) (hn : t.nodes ≤ 16) : t.mirror.text.length ≤ 100000 := by
  have h1 := text_length t.mirror
  have h2 := mirror_size t
  omega

theorem iMirror_any (s : ByteArray) (w : World) (hs : s.size ≤ 140737488351232) :
    Calls Try.prog 13 #[.string s] w (Ans (.tuple #[.string ⟨(mirrorOf (parse s.data.toList)).toArray⟩, .bool (parse s.data.toList).isSome]) w) := by
  go_enter Try.func13, Try.ntmps13
  go_wp2_with fail
  refine (readTree_any s w hs).mono ?_
  rintro e w1 ⟨hB, ⟨hno, rfl⟩ | ⟨t, ty, a, hyes, rfl, hrep⟩⟩
  · have HN := Lib.hid hno
    clear hno
    go_wp2_with fail
    go_ret2
    exact ⟨by rw [HN.out]; rfl, hB⟩
  · obtain ⟨hw, _, hl, hn⟩ := parse_some hyes
    have HN := Lib.hid hyes
    have HR := Lib.hid hrep
    clear hyes hrep
    go_wp2_with fail
    refine (mirrorTree_any _ t _ _ _ _ (Nat.le_refl _) hw HR.out).mono ?_
    rintro e w2 ⟨hB2, ty', a', rfl, hrep'⟩
    go_wp2_with fail
    refine (treeText_any t.mirror _ _ _ _ (mirror_wf _ hw) hrep' (mirror_len hl hn)).mono ?_
    rintro e w3 ⟨rfl, hB3⟩
    go_wp2_with fail
    go_ret2
    exact ⟨by rw [HN.out]; rfl, below_step (below_step hB hB2) hB3⟩

end Go.Proofs.Ytfflgjidapclkaa
end
section
/- TreePart and TreeCut on both sides, and their laws. -/
namespace Go.Proofs.Ytfflgjidapclkaa
open Go.RowKit

/-- What is cut off a text: the rest, the part, the leaf's index. -/
def cutOf (s : List UInt8) (k : Int) : Option (T × T × Nat) :=
  match parse s with
  | none => none
  | some t => if k < 0 then none else t.cutAt k.toNat

def cutV : Option (T × T × Nat) → Value
  | none => .tuple #[.string ⟨#[]⟩, .string ⟨#[]⟩, .int .i64 0, .bool false]
  | some (r, p, a) => .tuple #[.string ⟨r.text.toArray⟩, .string ⟨p.text.toArray⟩, .int .i64 ((a : Nat) : Int), .bool true]

def partV : Option (T × T × Nat) → Value
  | none => .tuple #[.string ⟨#[]⟩, .bool false]
  | some (_, p, _) => .tuple #[.string ⟨p.text.toArray⟩, .bool true]

theorem cutOf_no {s : List UInt8} {k : Int} (h : parse s = none) : cutOf s k = none := by simp [cutOf, h]

theorem cutOf_neg {s : List UInt8} {k : Int} (h : k < 0) : cutOf s k = none := by
  unfold cutOf
  split
  · rfl
  · rw [if_pos h]

theorem cutOf_nat {s : List UInt8} {k : Nat} {t : T} (h : parse s = some t) : cutOf s k = t.cutAt k := by
  simp only [cutOf, h]
  rw [if_neg (by omega), Int.toNat_natCast]

theorem cut_len {t r p : T} {k a : Nat} (hw : t.wf) (hl : t.leaves ≤ 12) (hn : t.nodes ≤ 16) (h : t.cutAt k = some (r, p, a)) : r.text.length ≤ 100000 ∧ p.text.length ≤ 100000 := by
  have h1 := text_length t
  have h2 := (cutAt_wf t k r p a hw h).2.2.1
  omega

theorem cutOf_out {s : List UInt8} {k : Int} {t : T} (h : parse s = some t) (hk : ¬ (0 ≤ k ∧ k ≤ (t.nodes : Int) - 1)) : cutOf s k = none := by
  by_cases h0 : k < 0
  · exact cutOf_neg h0
  · simp only [cutOf, h]
    rw [if_neg h0, cutAt_none t _ (by omega)]

set_option maxRecDepth 100000 in
set_option maxHeartbeats 1000000 in
theorem sCut_any (s : ByteArray) (k : Int) (w : World) (hs : s.size ≤ 140737488351232) :
    Calls Try.prog 19 #[.string s, .int .i64 k] w (Ans (cutV (cutOf s.data.toList k)) w) := by
  go_enter Try.func19, Try.ntmps19
  go_wp2_with fail
  refine (l1Parse_any s w hs).mono ?_
  rintro e w1 ⟨hB, lb, sa, sn, sc, b, rfl, ⟨hno, rfl⟩ | ⟨t, hyes, rfl, hrep⟩⟩
  · have HN := Lib.hid (cutOf_no (k := k) hno)
    clear hno
    go_wp2_with fail
    go_returns
    exact ⟨by rw [HN.out]; rfl, hB.alloc hB.size _⟩
  · obtain ⟨hw, htx, hl, hn⟩ := parse_some hyes
    clear htx
    have HN := Lib.hid hyes
    have hb2 : Below w1.heap.size w1 (w1.alloc (.cells #[.string lb, .slice sa sn sc] 52 (0, 0))) := (Below.refl _ _).alloc (Nat.le_refl _) _
    have hrep0 := hrep.keep (w' := w1) (P' := fun b => b < w1.heap.size) (fun _ _ _ h => h) (fun _ _ h => h) hw
    have HR := Lib.hid (hrep0.below hw hb2)
    have HB2 := Lib.hid hb2
    clear hyes hrep hrep0 hb2
    go_wp2_with fail
    refine (l1Nodes_any _ t _ _ _ _ (Nat.le_refl _) hw (by omega) HR.out).mono ?_
    rintro e w2 ⟨rfl, hB2⟩
    have HBB := Lib.hid hB2
    by_cases hin : 0 ≤ k ∧ k ≤ (t.nodes : Int) - 1
    · obtain ⟨kn, rfl⟩ : ∃ kn : Nat, k = (kn : Int) := ⟨k.toNat, by omega⟩
      have hkn : kn < t.nodes := by omega
      obtain ⟨r, p, a, hc⟩ := cutAt_some t kn hkn
      have hbb : decide ((0 : Int) ≤ (kn : Int) ∧ (kn : Int) ≤ (t.nodes : Int) - 1) = true := by simpa using hin
      have HBN := Lib.hid hbb
      have HC := Lib.hid hc
      have hcell : w2.heap[w1.heap.size]? = some (.cells #[.string lb, .slice sa sn sc] 52 (0, 0)) :=
        (HBB.out.block _ (by simp)).trans (heap_alloc_new w1 _)
      obtain ⟨c0, c1, _, _⟩ := two_cells hcell
      have hlt : w1.heap.size < w2.heap.size := by have := HBB.out.size; simp at this; omega
      have HR2 := Lib.hid (HR.out.below hw HBB.out)
      clear hbb hin hc hcell
      go_wp2_with (go_at_call 29; refine (l6In_any _ _ _ _).mono ?_; rintro e w' ⟨rfl, rfl⟩; rw [HBN.out])
      refine (l1Part_any _ t _ _ kn r p a w2 (fun b => b < w1.heap.size) (Nat.le_refl _) hw (by omega) (by omega) hkn HC.out (fun b hb => by omega) HR2.out).mono ?_
      rintro e w3 ⟨hB3, pb, pa, pn, pc, rfl, hrp⟩
      have d0 := (hB3.cell (p := ⟨w1.heap.size, 0, none⟩) hlt).trans c0
      have d1 := (hB3.cell (p := ⟨w1.heap.size, 1, none⟩) hlt).trans c1
      have HB3 := Lib.hid hB3
      have HRP := Lib.hid hrp
      have hlt3 : w1.heap.size < w3.heap.size := by have := hB3.size; omega
      have HBW : Hid (Below w3.heap.size w3 (w3.alloc (.cells #[.string pb, .slice pa pn pc] 52 (0, 0))).drew) := Lib.hid (((Below.refl _ _).alloc (Nat.le_refl _) _).drew)
      have hcell2 : (w3.alloc (.cells #[.string pb, .slice pa pn pc] 52 (0, 0))).drew.heap[w3.heap.size]? = some (.cells #[.string pb, .slice pa pn pc] 52 (0, 0)) := heap_alloc_new w3 _
      obtain ⟨y0, y1, _, _⟩ := two_cells hcell2
      have u0 := keep1 HBW.out d0
      have u1 := keep1 HBW.out d1
      have hrw := putAt_wf t kn .leaf hw (by rw [T.wf]; trivial)
      have hrt : (t.putAt kn .leaf).text.length ≤ 100000 := by
        have := (cut_len hw hl hn HC.out).1
        rw [cut_put t kn r p a HC.out] at this
        exact this
      have hpw := (cutAt_wf t kn r p a hw HC.out).2.1
      have hpt := (cut_len hw hl hn HC.out).2
      have HRE : Hid (Calls Try.prog 42 #[.agg #[.string lb, .slice sa sn sc], .int .i64 kn, .agg #[.string ⟨#[]⟩, .slice none 0 0]] (w3.alloc (.cells #[.string pb, .slice pa pn pc] 52 (0, 0))).drew
          (NewSP (fun b => b < w1.heap.size) (t.putAt kn .leaf) (w3.alloc (.cells #[.string pb, .slice pa pn pc] 52 (0, 0))).drew)) := Lib.hid
        (l1Replace_any _ t _ _ kn .leaf _ _ _ (fun b => b < w1.heap.size) (Nat.le_refl _) hw (by rw [T.wf]; trivial) (by omega) hkn (fun b hb => by simp; omega)
          ((HR2.out.below hw HB3.out).below hw HBW.out) (by rw [RepS]; exact ⟨rfl, rfl⟩))
      have HRPW := Lib.hid (HRP.out.below hpw HBW.out)
      have HV : Hid (cutOf s.data.toList (kn : Int) = some (t.putAt kn .leaf, p, a)) := Lib.hid (by rw [cutOf_nat HN.out, HC.out, cut_put t kn r p a HC.out])
      clear hB3 hrp hcell2
      go_wp2_with fail
      go_region_held3 (fun w' => w'.cell? ⟨w1.heap.size, 0, none⟩ = some (.string lb) ∧ w'.cell? ⟨w1.heap.size, 1, none⟩ = some (.slice sa sn sc) ∧ w'.cell? ⟨w3.heap.size, 0, none⟩ = some (.string pb) ∧ w'.cell? ⟨w3.heap.size, 1, none⟩ = some (.slice pa pn pc))
        (first | exact ⟨u0, u1, y0, y1⟩ | exact ⟨v0, v1, x0, x1⟩ | exact ⟨v0', v1', z0, z1⟩ | exact ⟨v0'', v1'', z0', z1'⟩)
        (first
        | (go_at_call 42; refine HRE.out.mono ?_; rintro e w4 ⟨hB4, rb, ra, rn, rc, rfl, hrr⟩; have v0 := keep1 hB4 u0; have v1 := keep1 hB4 u1; have x0 := keep1 hB4 y0; have x1 := keep1 hB4 y1; have HB4 := Lib.hid hB4; have HRR := Lib.hid hrr; clear hB4 hrr)
        | (go_at_call 41; have hq := HB5.out; clear hq; refine (l1Text_any _ p _ _ _ _ (Nat.le_refl _) hpw hpt ((HRPW.out.below hpw HB4.out).below hpw HB5.out)).mono ?_; rintro e w6 ⟨rfl, hB6⟩; have v0'' := keep1 hB6 v0'; have v1'' := keep1 hB6 v1'; have z0' := keep1 hB6 z0; have z1' := keep1 hB6 z1; have HB6 := Lib.hid hB6; clear hB6)
        | (go_at_call 41; refine (l1Text_any _ (t.putAt kn .leaf) _ _ _ _ (Nat.le_refl _) hrw hrt HRR.out).mono ?_; rintro e w5 ⟨rfl, hB5⟩; have v0' := keep1 hB5 v0; have v1' := keep1 hB5 v1; have z0 := keep1 hB5 x0; have z1 := keep1 hB5 x1; have HB5 := Lib.hid hB5; clear hB5))
      all_goals
        go_wp2_with fail
        go_returns
        refine ⟨by rw [HV.out]; rfl, ?_⟩
        exact below_step (below_step (below_step (below_step (below_step (below_step (below_step hB HB2.out) HBB.out) HB3.out) HBW.out) HB4.out) HB5.out) HB6.out
    · have HO := Lib.hid (cutOf_out HN.out hin)
      have hbb : decide ((0 : Int) ≤ k ∧ k ≤ (t.nodes : Int) - 1) = false := by simpa using hin
      have HBN := Lib.hid hbb
      clear hbb hin
      go_wp2_with (go_at_call 29; refine (l6In_any _ _ _ _).mono ?_; rintro e w' ⟨rfl, rfl⟩; rw [HBN.out])
      go_returns
      exact ⟨by rw [HO.out]; rfl, (hB.trans (HB2.out.mono hB.size)).trans (HBB.out.mono (by have := HB2.out.size; have := hB.size; omega))⟩

set_option maxRecDepth 100000 in
set_option maxHeartbeats 1000000 in
theorem iCut_any (s : ByteArray) (k : Int) (w : World) (hs : s.size ≤ 140737488351232) (hk : k ≤ 9223372036854775807) :
    Calls Try.prog 18 #[.string s, .int .i64 k] w (Ans (cutV (cutOf s.data.toList k)) w) := by
  go_enter Try.func18, Try.ntmps18
  go_wp2_with fail
  refine (readTree_any s w hs).mono ?_
  rintro e w1 ⟨hB, ⟨hno, rfl⟩ | ⟨t, ty, a, hyes, rfl, hrep⟩⟩
  · have HN := Lib.hid (cutOf_no (k := k) hno)
    clear hno
    go_wp2_with fail
    go_returns
    exact ⟨by rw [HN.out]; rfl, hB⟩
  · obtain ⟨hw, htx, hl, hn⟩ := parse_some hyes
    clear htx
    have HN := Lib.hid hyes
    have HR := Lib.hid (hrep.keep (w' := w1) (P' := fun b => b < w1.heap.size) (fun _ _ _ h => h) (fun _ _ h => h) hw)
    clear hyes hrep
    by_cases h0 : k < 0
    · have HO := Lib.hid (cutOf_neg (s := s.data.toList) h0)
      go_wp2_with fail
      go_returns
      exact ⟨by rw [HO.out]; rfl, hB⟩
    · obtain ⟨kn, rfl⟩ : ∃ kn : Nat, k = (kn : Int) := ⟨k.toNat, by omega⟩
      have HV := Lib.hid (cutOf_nat (k := kn) HN.out)
      have HCT := Lib.hid (cutTree_any _ t ty a kn w1 (fun b => b < w1.heap.size) (Nat.le_refl _) hw (by omega) (by omega) (by omega) (fun b hb => hb) HR.out)
      go_wp2_with fail
      refine HCT.out.mono ?_
      rintro e w2 ⟨hB2, ⟨hno, rfl⟩ | ⟨r, p, at', ty1, a1, ty2, a2, hc, rfl, hr1, hr2⟩⟩
      · have HNO := Lib.hid hno
        clear hno
        go_wp2_with fail
        go_returns
        exact ⟨by rw [HV.out, HNO.out]; rfl, below_step hB hB2⟩
      · have HC := Lib.hid hc
        have hwf := cutAt_wf t kn r p at' hw hc
        have hlen := cut_len hw hl hn hc
        have hrw := hwf.1
        have hpw := hwf.2.1
        have hrt := hlen.1
        have hpt := hlen.2
        have HR1 := Lib.hid hr1
        have HR2 := Lib.hid hr2
        clear hc hr1 hr2 hwf hlen
        go_wp2_with fail
        refine (treeText_any r ty1 a1 w2 _ hrw HR1.out hrt).mono ?_
        rintro e w3 ⟨rfl, hB3⟩
        have HR2' := Lib.hid ((HR2.out.keep (w' := w2) (P' := fun b => b < w2.heap.size) (fun _ _ _ h => h) (fun _ _ h => h) hpw).belowB hpw hB3)
        have HB3 := Lib.hid hB3
        clear hB3
        go_wp2_with fail
        refine (treeText_any p ty2 a2 w3 _ hpw HR2'.out hpt).mono ?_
        rintro e w4 ⟨rfl, hB4⟩
        have HB4 := Lib.hid hB4
        clear hB4
        go_wp2_with fail
        go_returns
        exact ⟨by rw [HV.out, HC.out]; rfl, below_step (below_step (below_step hB hB2) HB3.out) HB4.out⟩

theorem iPart_any (s : ByteArray) (k : Int) (w : World) (hs : s.size ≤ 140737488351232) (hk : k ≤ 9223372036854775807) :
    Calls Try.prog 20 #[.string s, .int .i64 k] w (Ans (partV (cutOf s.data.toList k)) w) := by
  have HI := Lib.hid (iCut_any s k w hs hk)
  obtain ⟨o, ho⟩ : ∃ o, cutOf s.data.toList k = o := ⟨_, rfl⟩
  rw [ho] at HI ⊢
  clear ho
  go_enter Try.func20, Try.ntmps20
  go_wp2_with fail
  refine HI.out.mono ?_
  rintro e w1 ⟨rfl, hB⟩
  rcases o with _ | ⟨r, p, a⟩
  · rw [cutV]
    go_wp2_with fail
    go_ret2
    exact ⟨rfl, hB⟩
  · rw [cutV]
    go_wp2_with fail
    go_ret2
    exact ⟨rfl, hB⟩

end Go.Proofs.Ytfflgjidapclkaa
end
