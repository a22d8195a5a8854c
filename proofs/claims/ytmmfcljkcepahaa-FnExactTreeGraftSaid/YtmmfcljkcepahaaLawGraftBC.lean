/- TreeGraft by the model, and its law. -/
import Derived.Test.YtmmfcljkcepahaaLawGraft
namespace Go.Proofs.Ytmmfcljkcepahaa
open Go.RowKit

set_option maxRecDepth 100000 in
set_option maxHeartbeats 1000000 in
theorem sGraft_any (s : ByteArray) (k : Int) (s2 : ByteArray) (w : World) (hs : s.size ≤ 140737488351232) (hs2 : s2.size ≤ 140737488351232) :
    Calls Try.prog 61 #[.string s, .int .i64 k, .string s2] w (Ans (graftV (graftOf s.data.toList k s2.data.toList)) w) := by
  have HP2 : Hid (∀ w, Calls Try.prog 71 #[.string s2] w (PsPost s2 w)) := Lib.hid (fun w => l1Parse_any s2 w hs2)
  go_enter Try.func61, Try.ntmps61
  go_wp2_with fail
  refine (l1Parse_any s w hs).mono ?_
  rintro e w1 ⟨hB, lb, sa, sn, sc, b, rfl, hres⟩
  have HB := Lib.hid hB
  have HRS := Lib.hid hres
  clear hB hres
  go_wp2_with fail
  refine (HP2.out _).mono ?_
  rintro e w2 ⟨hB2, ub, ua, un, uc, b2, rfl, hres2⟩
  have HB2 := Lib.hid hB2
  have HA1 : Hid (Below w1.heap.size w1 (w1.alloc (.cells #[.string lb, .slice sa sn sc] 93 (0, 0)))) := Lib.hid ((Below.refl _ _).alloc (Nat.le_refl _) _)
  have HA2 : Hid (Below w2.heap.size w2 (w2.alloc (.cells #[.string ub, .slice ua un uc] 93 (0, 0)))) := Lib.hid ((Below.refl _ _).alloc (Nat.le_refl _) _)
  have hlt12 : w1.heap.size < w2.heap.size := by have := hB2.size; simp at this; omega
  have HBB := Lib.hid (below_step (below_step (below_step HB.out HA1.out) hB2) HA2.out)
  have hx0 : w2.heap[w1.heap.size]? = some (.cells #[.string lb, .slice sa sn sc] 93 (0, 0)) := (hB2.block _ (by simp)).trans (heap_alloc_new w1 _)
  have HX0 := Lib.hid hx0
  obtain ⟨x0, x1, _, _⟩ := two_cells hx0
  have HRS2 := Lib.hid hres2
  clear hB2 hres2 hx0
  rcases HRS.out with ⟨hno, rfl⟩ | ⟨t, hyes, rfl, hrep⟩
  · have HN := Lib.hid (graftOf_no (b := s2.data.toList) (k := k) hno)
    clear hno
    go_wp2_with fail
    go_ret2
    exact ⟨by rw [HN.out]; rfl, HBB.out⟩
  · rcases HRS2.out with ⟨hno, rfl⟩ | ⟨u, hyes2, rfl, hrep2⟩
    · have HN := Lib.hid (graftOf_no2 (a := s.data.toList) (k := k) hno)
      clear hno hyes hrep
      go_wp2_with fail
      go_ret2
      exact ⟨by rw [HN.out]; rfl, HBB.out⟩
    · obtain ⟨hw, _, hl, hn⟩ := parse_some hyes
      obtain ⟨huw, _, hul, hun⟩ := parse_some hyes2
      have HRT := Lib.hid (((((hrep.keep (w' := w1) (P' := fun b => b < w2.heap.size) (fun _ _ _ h => h) (fun b _ h => by omega) hw).below hw HA1.out).below hw HB2.out).below hw HA2.out))
      have HRU := Lib.hid ((hrep2.keep (w' := w2) (P' := fun b => b < w2.heap.size) (fun _ _ _ h => h) (fun b _ h => h) huw).below huw HA2.out)
      have HN := Lib.hid hyes
      have HN2 := Lib.hid hyes2
      obtain ⟨nn, hnn⟩ : ∃ nn, nn = t.leaves := ⟨_, rfl⟩
      have HNN := Lib.hid hnn
      have HLV := l1Leaves_any _ t _ _ _ (fun b => b < w2.heap.size) (Nat.le_refl _) hw (by omega) HRT.out
      rw [← hnn] at HLV
      have HLV := Lib.hid HLV
      have HOUT : Hid (¬ (0 ≤ k ∧ k ≤ (nn : Int) - 1) → graftOf s.data.toList k s2.data.toList = none) := Lib.hid (fun h => graftOf_out HN.out (by rw [← HNN.out]; exact h))
      have hnb : nn ≤ 12 := by omega
      have HHH := Lib.hid (And.intro (And.intro hw huw) (And.intro (And.intro hl hn) (And.intro hul hun)))
      clear hyes hyes2 hrep hrep2 hnn hl hn hul hun hw huw
      go_wp2_with fail
      refine HLV.out.mono ?_
      rintro e w3 ⟨rfl, hB3⟩
      have HB3 := Lib.hid hB3
      by_cases hin : 0 ≤ k ∧ k ≤ (nn : Int) - 1
      · obtain ⟨kn, rfl⟩ : ∃ kn : Nat, k = (kn : Int) := ⟨k.toNat, by omega⟩
        have hkn : kn < nn := by omega
        have hbb : decide ((0 : Int) ≤ (kn : Int) ∧ (kn : Int) ≤ (nn : Int) - 1) = true := by simpa using hin
        have HBN := Lib.hid hbb
        have hy0 : w3.heap[w1.heap.size]? = some (.cells #[.string lb, .slice sa sn sc] 93 (0, 0)) := (hB3.block _ (by simp; omega)).trans ((HA2.out.block _ hlt12).trans HX0.out)
        have hy2 : w3.heap[w2.heap.size]? = some (.cells #[.string ub, .slice ua un uc] 93 (0, 0)) := (hB3.block _ (by simp)).trans (heap_alloc_new w2 _)
        obtain ⟨y0, y1, _, _⟩ := two_cells hy0
        obtain ⟨y2, y3, _, _⟩ := two_cells hy2
        have hl3 : w2.heap.size < w3.heap.size := World.block_lt_of_cell? w3 _ y2
        have HV := Lib.hid (graftOf_in (k := kn) HN.out HN2.out (by rw [← HNN.out]; exact hkn))
        have HG := Lib.hid (l1Graft_any t _ _ kn u _ _ w3 (fun b => b < w2.heap.size) HHH.out.1.1 HHH.out.1.2 (by have := HHH.out.2.1.1; omega) (by rw [← HNN.out]; exact hkn) (fun b h => by omega) (HRT.out.below HHH.out.1.1 hB3) (HRU.out.below HHH.out.1.2 hB3))
        have HFW := Lib.hid (fill_wf t (oneIn t.leaves kn u) HHH.out.1.1 (oneIn_wf HHH.out.1.2))
        have HFL := Lib.hid (fill_len (us := oneIn t.leaves kn u) HHH.out.2.1.1 HHH.out.2.1.2 (oneIn_size HHH.out.2.2.1 HHH.out.2.2.2))
        clear hbb hin hy0 hy2 hB3
        go_wp2_with (go_at_call 72; refine (l6In_any _ _ _ _).mono ?_; rintro e w' ⟨rfl, rfl⟩; rw [HBN.out])
        refine HG.out.mono ?_
        rintro e w4 ⟨hB4, kb, ka, kn', kc, rfl, hr4⟩
        have HD := Lib.hid (l1Done_any _ kb ka kn' kc w4 _ HFW.out (by have := HFL.out; omega) (by have := HFL.out; omega) HFL.out.2.2 hr4)
        obtain ⟨x, bb, hx⟩ := doneV_shape (t.fill (oneIn t.leaves kn u))
        rw [hx] at HD
        have HX := Lib.hid hx
        have HB4 := Lib.hid hB4
        clear hr4 hB4 hx
        go_wp2_with fail
        refine HD.out.mono ?_
        rintro e w5 ⟨rfl, hB5⟩
        go_wp2_with fail
        go_ret2
        exact ⟨by rw [HV.out, graftV, HX.out]; rfl, below_step (below_step (below_step HBB.out HB3.out) HB4.out) hB5⟩
      · have HO := Lib.hid (HOUT.out hin)
        have hbb : decide ((0 : Int) ≤ k ∧ k ≤ (nn : Int) - 1) = false := by simpa using hin
        have HBN := Lib.hid hbb
        clear hbb hin hB3
        go_wp2_with (go_at_call 72; refine (l6In_any _ _ _ _).mono ?_; rintro e w' ⟨rfl, rfl⟩; rw [HBN.out])
        go_ret2
        exact ⟨by rw [HO.out]; rfl, below_step HBB.out HB3.out⟩

end Go.Proofs.Ytmmfcljkcepahaa
