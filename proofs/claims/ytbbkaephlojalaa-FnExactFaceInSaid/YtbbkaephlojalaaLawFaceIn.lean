/- The model's FaceIn; the law of FaceIn. -/
import Derived.Test.YtbbkaephlojalaaFaceInS
namespace Go.Proofs.Ytbbkaephlojalaa
open Go.RowKit

theorem l8In_any (s : T) (hsf : s.fc) (hs6 : s.leaves ≤ 6) : ∀ (f : Nat) (t : T) (sb : ByteArray) (sa : Option Addr) (sn sc : Nat) (tb : ByteArray) (ta : Option Addr) (tn tc : Nat) (w : World) (P : Nat → Prop), t.fc → t.leaves ≤ 6 → s.nodes ≤ t.nodes + f → RepS w P s (.string sb) (.slice sa sn sc) → RepS w P t (.string tb) (.slice ta tn tc) →
    Calls Try.prog 30 #[.agg #[.string sb, .slice sa sn sc], .agg #[.string tb, .slice ta tn tc]] w (Ans (.bool (inFB s t)) w)
  | 0, t, sb, sa, sn, sc, tb, ta, tn, tc, w, P, htf, ht6, hf, hrs, hrt => l8In_step s hsf hs6 t sb sa sn sc tb ta tn tc w P htf ht6 hrs hrt (fun h => by omega)
  | f + 1, t, sb, sa, sn, sc, tb, ta, tn, tc, w, P, htf, ht6, hf, hrs, hrt => l8In_step s hsf hs6 t sb sa sn sc tb ta tn tc w P htf ht6 hrs hrt (fun _ t' xb xa xn xc V Q h1 h2 h3 h4 h5 => l8In_any s hsf hs6 f t' sb sa sn sc xb xa xn xc V Q h1 h2 (by omega) h4 h5)

set_option maxRecDepth 100000 in
set_option maxHeartbeats 2000000 in
theorem sFaceIn_any (x y : ByteArray) (w : World) (hx : x.size ≤ 140737488351232) (hy : y.size ≤ 140737488351232) :
    Calls Try.prog 18 #[.string x, .string y] w (Ans (.bool (faceInB (faceOf x.data.toList) (faceOf y.data.toList))) w) := by
  have HPX := Lib.hid (l8Face_any x w hx)
  have HPY := Lib.hid (fun W => l8Face_any y W hy)
  go_enter Try.func18, Try.ntmps18
  go_wp2_with fail
  refine HPX.out.mono ?_
  rintro e w1 ⟨hB1, sb, sa, sn, sc, bs, rfl, hres⟩
  have HS := Lib.hid hres
  obtain ⟨wx, hwx⟩ : ∃ wx, wx = w1.alloc (.cells #[.string sb, .slice sa sn sc] 39 (0, 0)) := ⟨_, rfl⟩
  have HWX := Lib.hid hwx
  have hbx : Below w1.heap.size w1 wx := by rw [hwx]; exact (Below.refl _ _).alloc (Nat.le_refl _) _
  have hx0 : wx.heap[w1.heap.size]? = some (.cells #[.string sb, .slice sa sn sc] 39 (0, 0)) := by rw [hwx]; exact heap_alloc_new _ _
  have HX0 := Lib.hid hx0
  have HBX := Lib.hid (below_step hB1 hbx)
  have HBX1 := Lib.hid hbx
  clear hres hwx hx0 hbx hB1
  go_wp2_with fail
  rw [← HWX.out]
  refine (HPY.out wx).mono ?_
  rintro e w2 ⟨hB2, tb, ta, tn, tc, bt, rfl, hres⟩
  have HT := Lib.hid hres
  obtain ⟨wy, hwy⟩ : ∃ wy, wy = w2.alloc (.cells #[.string tb, .slice ta tn tc] 39 (0, 0)) := ⟨_, rfl⟩
  have HWY := Lib.hid hwy
  have hby : Below w2.heap.size w2 wy := by rw [hwy]; exact (Below.refl _ _).alloc (Nat.le_refl _) _
  have hy0 : wy.heap[w2.heap.size]? = some (.cells #[.string tb, .slice ta tn tc] 39 (0, 0)) := by rw [hwy]; exact heap_alloc_new _ _
  have hx1 := (hby.block _ (Nat.lt_of_lt_of_le (lt_of_block HX0.out) hB2.size)).trans ((hB2.block _ (lt_of_block HX0.out)).trans HX0.out)
  obtain ⟨c0, c1, _, _⟩ := two_cells hx1
  obtain ⟨d0, d1, _, _⟩ := two_cells hy0
  have HBY := Lib.hid (below_step (below_step HBX.out hB2) hby)
  have HB2 := Lib.hid hB2
  have HBY2 := Lib.hid hby
  have HLT := Lib.hid (Nat.lt_of_lt_of_le (lt_of_block HX0.out) hB2.size)
  clear hres hwy hy0 hby hB2 hx1
  rcases HS.out with ⟨hno, rfl⟩ | ⟨s, hyes, rfl, hrs⟩
  · have HN : Hid (faceInB (faceOf x.data.toList) (faceOf y.data.toList) = false) := Lib.hid (by rw [hno]; rfl)
    clear hno
    go_wp2_with fail
    rw [← HWY.out]
    go_ret
    exact ⟨by rw [HN.out]; rfl, HBY.out⟩
  · rcases HT.out with ⟨hno, rfl⟩ | ⟨t, hyt, rfl, hrt⟩
    · have HN : Hid (faceInB (faceOf x.data.toList) (faceOf y.data.toList) = false) := Lib.hid (by rw [hyes, hno]; rfl)
      clear hno
      go_wp2_with fail
      rw [← HWY.out]
      go_ret
      exact ⟨by rw [HN.out]; rfl, HBY.out⟩
    · have hps := faceOf_some.1 hyes
      have hpt := faceOf_some.1 hyt
      have HN : Hid (faceInB (faceOf x.data.toList) (faceOf y.data.toList) = inFB s t) := Lib.hid (by rw [hyes, hyt]; rfl)
      have hsw := (parse_some hps.1).1
      have htw := (parse_some hpt.1).1
      have HIN := Lib.hid (l8In_any s hps.2.1 hps.2.2 (s.nodes) t sb sa sn sc tb ta tn tc wy (fun b => b < wy.heap.size) hpt.2.1 hpt.2.2 (by omega) ((((hrs.below hsw HBX1.out).below hsw HB2.out).below hsw HBY2.out).keep (fun _ _ _ h => h) (fun _ _ h => h) hsw) ((hrt.below htw HBY2.out).keep (fun _ _ _ h => h) (fun _ _ h => h) htw))
      obtain ⟨b, hb⟩ : ∃ b, b = inFB s t := ⟨_, rfl⟩
      rw [← hb] at HIN HN
      clear hyes hyt hps hpt hsw htw hrs hrt hb
      go_upto_region 3 with fail
      rw [← HWY.out]
      go_wp2_with fail
      refine HIN.out.mono ?_
      rintro e w3 ⟨rfl, hB3⟩
      have HB3 := Lib.hid (below_step HBY.out hB3)
      clear hB3
      go_wp2_with fail
      go_ret
      exact ⟨by rw [HN.out]; rfl, HB3.out⟩

set_option maxHeartbeats 1000000 in
theorem lawFaceIn_any (x y : ByteArray) (w : World) (hx : x.size ≤ maxLen) (hy : y.size ≤ maxLen) :
    Calls Try.prog 7 #[.string x, .string y] w (Ans (.bool true) w) := by
  unfold maxLen at hx hy
  by_cases h : (x.size : Int) ≤ 1048576
  · by_cases h' : (y.size : Int) ≤ 1048576
    · obtain ⟨b, hb⟩ : ∃ b, faceInB (faceOf x.data.toList) (faceOf y.data.toList) = b := ⟨_, rfl⟩
      have hS : ∀ w, Calls Try.prog 18 #[.string x, .string y] w (Ans (.bool b) w) := fun w => by rw [← hb]; exact sFaceIn_any x y w (by omega) (by omega)
      have hI : ∀ w, Calls Try.prog 13 #[.string x, .string y] w (Ans (.bool b) w) := fun w => by rw [← hb]; exact iFaceIn_any x y w (by omega) (by omega)
      have HS := Lib.hid hS
      have HI := Lib.hid hI
      clear hS hI hb
      cases b
      all_goals
        go_enter Try.func7, Try.ntmps7
        go_wp2_with fail
        refine (HS.out w).mono ?_
        rintro e w1 ⟨rfl, hB1⟩
        go_wp2_with fail
        refine (HI.out w1).mono ?_
        rintro e w2 ⟨rfl, hB2⟩
        go_wp2_with fail
        go_ret
        exact ⟨rfl, hB1.trans (hB2.mono hB1.size)⟩
    · go_enter Try.func7, Try.ntmps7
      go_wp2_with fail
      go_ret
      exact ⟨rfl, Below.refl _ _⟩
  · go_enter Try.func7, Try.ntmps7
    go_wp2_with fail
    go_ret
    exact ⟨rfl, Below.refl _ _⟩

end Go.Proofs.Ytbbkaephlojalaa
