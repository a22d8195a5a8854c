/- The promises on sums: FnSum, FnSumMirror, FnScale, FnAdd. -/
import Derived.Test.YtipodlckehodnaaPSum1
namespace Go.Proofs.Ytipodlckehodnaa
open Go.RowKit

theorem Ans.is {v v' : Value} {w w' : World} {e : Ending} (h : Ans v w e w') (hv : v = v') : Ans v' w e w' := by rw [← hv]; exact h
theorem TermsPost.gotO {o : Option (List Tm)} {qs : List Tm} {zs : List (Int × ByteArray)} {N : Nat} {w w' : World} {e : Ending} (ho : o = some qs) (hN : N = qs.length) (hz : txtTm qs = zs) (h : TermsPost o w e w') : GotL zs N w e w' := by
  rw [ho] at h; exact h.gotL hN hz
theorem TermsPost.lostO {o : Option (List Tm)} {w w' : World} {e : Ending} (ho : o = none) (h : TermsPost o w e w') : LostL w e w' := by
  rw [ho] at h; exact h.lostL

theorem mirOf_sum {xs : List (Int × ByteArray)} {qs : List Tm} (h : mirOf xs = some qs) : ∃ ps, sumOf xs = some ps := by
  unfold mirOf at h; split at h
  · cases h
  · exact ⟨_, by assumption⟩
theorem sclOf_sum {xs : List (Int × ByteArray)} {m : Int} {qs : List Tm} (h : sclOf xs m = some qs) : ∃ ps, sumOf xs = some ps := by
  unfold sclOf at h; split at h
  · cases h
  · exact ⟨_, by assumption⟩
theorem addOf_sum {xs ys : List (Int × ByteArray)} {qs : List Tm} (h : addOf xs ys = some qs) : (∃ ps, sumOf xs = some ps) ∧ ∃ ps, sumOf ys = some ps := by
  unfold addOf at h; split at h
  · exact ⟨⟨_, by assumption⟩, ⟨_, by assumption⟩⟩
  · cases h
/-- The texts of a sum are short, and it is short. -/
theorem sum_size {xs : List (Int × ByteArray)} (h : ∃ ps, sumOf xs = some ps) : xs.length ≤ 60 ∧ ∀ j (h : j < xs.length), (xs[j]).2.size ≤ 1048576 := by
  obtain ⟨ps, hs⟩ := h
  have e := sum_txt hs
  obtain ⟨h1, h2, _⟩ := sum_trees hs
  have hl := (sumOf_ok hs).1
  refine ⟨by omega, fun j hj => ?_⟩
  have h3 := (txt_small (qs := ps) (fun p hp => ⟨(h2 p hp).2.1, (h2 p hp).2.2.1, (h2 p hp).2.2.2.1, (h2 p hp).2.2.2.2⟩) j (by rw [txtTm_length]; omega)).1
  have e2 : (txtTm ps)[j]'(by rw [txtTm_length]; omega) = xs[j] := by simp only [e]
  rw [e2] at h3
  omega

set_option maxRecDepth 100000 in
set_option maxHeartbeats 2000000 in
theorem pSum_any (bs : List Nat) (a : Option Addr) (cap : Nat) (w : World) (hl : LiesB w a bs) (h8 : ∀ z ∈ bs, z ≤ 255) (hn : bs.length ≤ 9223372036854775807) (hcap : bs.length ≤ cap) :
    Calls Try.prog 3 #[.slice a bs.length cap] w (Ans (.bool true) w) := by
  by_cases h : bs.length ≤ 1048576
  · have HD := Lib.hid (dSumV_any bs a cap w hn hcap h8 hl)
    clear h8 hl
    go_enter Try.func3, Try.ntmps3
    go_wp2_with fail
    refine HD.out.mono ?_
    rintro e w1 ⟨hB1, ys, g, n, c, rfl, hny, hn60, hsm, htl⟩
    have HB1 := Lib.hid hB1
    have A1_1 := Lib.hid (Below.refl w1.heap.size w1)
    have HL := Lib.hid htl
    have HNY := Lib.hid hny
    have HSZ := Lib.hid hsm.size
    clear hB1 htl hny hsm
    cases hs : sumOf ys with
    | none =>
      have HS := Lib.hid (show Value.bool (sumOf ys).isSome = .bool false by rw [hs]; rfl)
      clear hs
      go_wp2_with fail
      refine ((iSumValid_any ys n HNY.out g c w1 (by omega) HSZ.out (HL.out.below A1_1.out)).mono fun _ _ h => Ans.is h HS.out).mono ?_
      rintro e w2 ⟨rfl, hB⟩
      have A1_2 := Lib.hid (below_step A1_1.out hB)
      have HB2 := Lib.hid (below_step HB1.out hB)
      clear hB
      go_wp2_with fail
      refine ((sSumValid_any ys n HNY.out g c w2 (by omega) HSZ.out (HL.out.below A1_2.out)).mono fun _ _ h => Ans.is h HS.out).mono ?_
      rintro e w3 ⟨rfl, hB⟩
      have A1_3 := Lib.hid (below_step A1_2.out hB)
      have HB3 := Lib.hid (below_step HB2.out hB)
      clear hB
      go_wp2_with fail
      go_ret
      exact ⟨rfl, HB3.out⟩
    | some ps =>
      obtain ⟨e1, e2, e3⟩ := fnSum_told hs
      have HS := Lib.hid (show Value.bool (sumOf ys).isSome = .bool true by rw [hs]; rfl)
      have HE1 := Lib.hid e1
      have HE2 := Lib.hid e2
      have HZ := Lib.hid e3
      have HN : Hid (n = ps.length) := Lib.hid (by have h5 := congrArg List.length e3; rw [txtTm_length] at h5; have := HNY.out; omega)
      clear hs e1 e2 e3
      go_wp2_with fail
      refine ((iSumValid_any ys n HNY.out g c w1 (by omega) HSZ.out (HL.out.below A1_1.out)).mono fun _ _ h => Ans.is h HS.out).mono ?_
      rintro e w2 ⟨rfl, hB⟩
      have A1_2 := Lib.hid (below_step A1_1.out hB)
      have HB2 := Lib.hid (below_step HB1.out hB)
      clear hB
      go_wp2_with fail
      refine ((sSumValid_any ys n HNY.out g c w2 (by omega) HSZ.out (HL.out.below A1_2.out)).mono fun _ _ h => Ans.is h HS.out).mono ?_
      rintro e w3 ⟨rfl, hB⟩
      have A1_3 := Lib.hid (below_step A1_2.out hB)
      have HB3 := Lib.hid (below_step HB2.out hB)
      clear hB
      go_wp2_with fail
      refine ((iSumOf_any ys n HNY.out g c w3 (by omega) HSZ.out (HL.out.below A1_3.out)).mono fun _ _ h => TermsPost.gotO HE1.out HN.out HZ.out h).mono ?_
      rintro e w4 ⟨hB, gx, cx, rfl, hx⟩
      have A1_4 := Lib.hid (below_step A1_3.out hB)
      have HB4 := Lib.hid (below_step HB3.out hB)
      have HX := Lib.hid hx
      clear hx
      clear hB
      have A4_4 := Lib.hid (Below.refl w4.heap.size w4)
      go_wp2_with fail
      refine ((iSumAdd_post ys [] n 0 HNY.out rfl g c w4.heap.size 0 (w4.alloc (.cells #[] 32 (0, 0))) (by omega) (by omega) HSZ.out (fun j h => by simp at h) ((HL.out.below A1_4.out).below ((Below.refl _ _).alloc (Nat.le_refl _) _)) (fun j h => by simp at h)).mono fun _ _ h => TermsPost.gotO HE2.out HN.out HZ.out h).mono ?_
      rintro e w5 ⟨hB, gy, cy, rfl, hy⟩
      have HAL4 : Hid (Below w4.heap.size w4 (w4.alloc (.cells #[] 32 (0, 0)))) := Lib.hid ((Below.refl _ _).alloc (Nat.le_refl _) _)
      have hB := below_step HAL4.out hB
      have A1_5 := Lib.hid (below_step A1_4.out hB)
      have A4_5 := Lib.hid (below_step A4_4.out hB)
      have HB5 := Lib.hid (below_step HB4.out hB)
      have HY := Lib.hid hy
      clear hy
      clear hB
      have A5_5 := Lib.hid (Below.refl w5.heap.size w5)
      go_wp2_with fail
      refine (sameSum_any ys n HNY.out (some ⟨gx, 0, none⟩) (some ⟨g, 0, none⟩) cx c w5 (by omega) (TermL.o (HX.out.below A4_5.out)) (TermL.o (HL.out.below A1_5.out))).mono ?_
      rintro e w6 ⟨rfl, hB⟩
      have A1_6 := Lib.hid (below_step A1_5.out hB)
      have A4_6 := Lib.hid (below_step A4_5.out hB)
      have A5_6 := Lib.hid (below_step A5_5.out hB)
      have HB6 := Lib.hid (below_step HB5.out hB)
      clear hB
      go_wp2_with fail
      refine (sameSum_any ys n HNY.out (some ⟨gy, 0, none⟩) (some ⟨g, 0, none⟩) cy c w6 (by omega) (TermL.o (HY.out.below A5_6.out)) (TermL.o (HL.out.below A1_6.out))).mono ?_
      rintro e w7 ⟨rfl, hB⟩
      have A1_7 := Lib.hid (below_step A1_6.out hB)
      have A4_7 := Lib.hid (below_step A4_6.out hB)
      have A5_7 := Lib.hid (below_step A5_6.out hB)
      have HB7 := Lib.hid (below_step HB6.out hB)
      clear hB
      go_wp2_with fail
      go_ret
      exact ⟨rfl, HB7.out⟩
  · clear hl h8
    go_enter Try.func3, Try.ntmps3
    go_wp2_with fail
    go_ret
    exact ⟨rfl, Below.refl _ _⟩

set_option maxRecDepth 100000 in
set_option maxHeartbeats 2000000 in
theorem pSumMirror_any (bs : List Nat) (a : Option Addr) (cap : Nat) (w : World) (hl : LiesB w a bs) (h8 : ∀ z ∈ bs, z ≤ 255) (hn : bs.length ≤ 9223372036854775807) (hcap : bs.length ≤ cap) :
    Calls Try.prog 9 #[.slice a bs.length cap] w (Ans (.bool true) w) := by
  by_cases h : bs.length ≤ 1048576
  · have HD := Lib.hid (dSumMirror_any bs a cap w hn hcap h8 hl)
    clear h8 hl
    go_enter Try.func9, Try.ntmps9
    go_wp2_with fail
    refine HD.out.mono ?_
    rintro e w1 ⟨hB1, ys, g, n, c, rfl, hny, hn60, hsm, htl⟩
    have HB1 := Lib.hid hB1
    have A1_1 := Lib.hid (Below.refl w1.heap.size w1)
    have HL := Lib.hid htl
    have HNY := Lib.hid hny
    have HSZ := Lib.hid hsm.size
    clear hB1 htl hny hsm
    cases hs : mirOf ys with
    | none =>
      have HE := Lib.hid hs
      clear hs
      go_wp2_with fail
      refine ((iSumMirror_any ys n HNY.out g c w1 (by omega) HSZ.out (HL.out.below A1_1.out)).mono fun _ _ h => TermsPost.lostO HE.out h).mono ?_
      rintro e w2 ⟨hB, ax, cx, rfl⟩
      have A1_2 := Lib.hid (below_step A1_1.out hB)
      have HB2 := Lib.hid (below_step HB1.out hB)
      clear hB
      go_wp2_with fail
      refine ((sSumMirror_any ys n HNY.out g c w2 (by omega) HSZ.out (HL.out.below A1_2.out)).mono fun _ _ h => TermsPost.lostO HE.out h).mono ?_
      rintro e w3 ⟨hB, ay, cy, rfl⟩
      have A1_3 := Lib.hid (below_step A1_2.out hB)
      have HB3 := Lib.hid (below_step HB2.out hB)
      clear hB
      go_wp2_with fail
      refine (sameSum_any [] 0 rfl ax ay cx cy w3 (by omega) TermO.none TermO.none).mono ?_
      rintro e w4 ⟨rfl, hB⟩
      have A1_4 := Lib.hid (below_step A1_3.out hB)
      have HB4 := Lib.hid (below_step HB3.out hB)
      clear hB
      go_wp2_with fail
      refine (sameSum_any [] 0 rfl ax ay cx cy w4 (by omega) TermO.none TermO.none).mono ?_
      rintro e w5 ⟨rfl, hB⟩
      have A1_5 := Lib.hid (below_step A1_4.out hB)
      have HB5 := Lib.hid (below_step HB4.out hB)
      clear hB
      go_wp2_with fail
      go_ret
      exact ⟨rfl, HB5.out⟩
    | some qs =>
      obtain ⟨ps, e1, e2, e3, e4⟩ := fnMirror_told hs
      have HE := Lib.hid hs
      have HE2 := Lib.hid e2
      have HZ := Lib.hid e3
      have HNQ : Hid (n = qs.length) := Lib.hid (by have := HNY.out; omega)
      have HNT : Hid (n = (txtTm qs).length) := Lib.hid (by rw [txtTm_length]; have := HNY.out; omega)
      have HN : Hid (n = ps.length) := Lib.hid (by have h5 := congrArg List.length e3; rw [txtTm_length] at h5; have := HNY.out; omega)
      have HSQ := Lib.hid (sum_size (mirOf_sum e2)).2
      clear hs e1 e2 e3 e4
      go_wp2_with fail
      refine ((iSumMirror_any ys n HNY.out g c w1 (by omega) HSZ.out (HL.out.below A1_1.out)).mono fun _ _ h => TermsPost.gotO HE.out HNQ.out rfl h).mono ?_
      rintro e w2 ⟨hB, gx, cx, rfl, hx⟩
      have A1_2 := Lib.hid (below_step A1_1.out hB)
      have HB2 := Lib.hid (below_step HB1.out hB)
      have HX := Lib.hid hx
      clear hx
      clear hB
      have A2_2 := Lib.hid (Below.refl w2.heap.size w2)
      go_wp2_with fail
      refine ((sSumMirror_any ys n HNY.out g c w2 (by omega) HSZ.out (HL.out.below A1_2.out)).mono fun _ _ h => TermsPost.gotO HE.out HNQ.out rfl h).mono ?_
      rintro e w3 ⟨hB, gy, cy, rfl, hy⟩
      have A1_3 := Lib.hid (below_step A1_2.out hB)
      have A2_3 := Lib.hid (below_step A2_2.out hB)
      have HB3 := Lib.hid (below_step HB2.out hB)
      have HY := Lib.hid hy
      clear hy
      clear hB
      have A3_3 := Lib.hid (Below.refl w3.heap.size w3)
      go_wp2_with fail
      refine (sameSum_any (txtTm qs) n HNT.out (some ⟨gx, 0, none⟩) (some ⟨gy, 0, none⟩) cx cy w3 (by omega) (TermL.o (HX.out.below A2_3.out)) (TermL.o (HY.out.below A3_3.out))).mono ?_
      rintro e w4 ⟨rfl, hB⟩
      have A1_4 := Lib.hid (below_step A1_3.out hB)
      have A2_4 := Lib.hid (below_step A2_3.out hB)
      have A3_4 := Lib.hid (below_step A3_3.out hB)
      have HB4 := Lib.hid (below_step HB3.out hB)
      clear hB
      go_wp2_with fail
      refine ((iSumMirror_any (txtTm qs) n HNT.out gx cx w4 (by omega) HSQ.out (HX.out.below A2_4.out)).mono fun _ _ h => TermsPost.gotO HE2.out HN.out HZ.out h).mono ?_
      rintro e w5 ⟨hB, gz, cz, rfl, hz⟩
      have A1_5 := Lib.hid (below_step A1_4.out hB)
      have A2_5 := Lib.hid (below_step A2_4.out hB)
      have A3_5 := Lib.hid (below_step A3_4.out hB)
      have HB5 := Lib.hid (below_step HB4.out hB)
      have HZZ := Lib.hid hz
      clear hz
      clear hB
      have A5_5 := Lib.hid (Below.refl w5.heap.size w5)
      go_wp2_with fail
      refine (sameSum_any ys n HNY.out (some ⟨gz, 0, none⟩) (some ⟨g, 0, none⟩) cz c w5 (by omega) (TermL.o (HZZ.out.below A5_5.out)) (TermL.o (HL.out.below A1_5.out))).mono ?_
      rintro e w6 ⟨rfl, hB⟩
      have A1_6 := Lib.hid (below_step A1_5.out hB)
      have A2_6 := Lib.hid (below_step A2_5.out hB)
      have A3_6 := Lib.hid (below_step A3_5.out hB)
      have A5_6 := Lib.hid (below_step A5_5.out hB)
      have HB6 := Lib.hid (below_step HB5.out hB)
      clear hB
      go_wp2_with fail
      go_ret
      exact ⟨rfl, HB6.out⟩
  · clear hl h8
    go_enter Try.func9, Try.ntmps9
    go_wp2_with fail
    go_ret
    exact ⟨rfl, Below.refl _ _⟩

set_option maxRecDepth 100000 in
set_option maxHeartbeats 2000000 in
theorem pScale_any (bs : List Nat) (a : Option Addr) (cap : Nat) (w : World) (hl : LiesB w a bs) (h8 : ∀ z ∈ bs, z ≤ 255) (hn : bs.length ≤ 9223372036854775807) (hcap : bs.length ≤ cap) :
    Calls Try.prog 6 #[.slice a bs.length cap] w (Ans (.bool true) w) := by
  by_cases h : bs.length ≤ 1048576
  · have HD := Lib.hid (dScale_any bs a cap w hn hcap h8 hl)
    clear h8 hl
    go_enter Try.func6, Try.ntmps6
    go_wp2_with fail
    refine HD.out.mono ?_
    rintro e w1 ⟨hB1, ys, g, n, c, z, rfl, hny, hn60, hsm, htl, hz1, hz2⟩
    have HB1 := Lib.hid hB1
    have A1_1 := Lib.hid (Below.refl w1.heap.size w1)
    have HL := Lib.hid htl
    have HNY := Lib.hid hny
    have HSZ := Lib.hid hsm.size
    clear hB1 htl hny hsm
    cases hs : sclOf ys z with
    | none =>
      have HE := Lib.hid hs
      clear hs
      go_wp2_with fail
      refine ((iSumScale_any ys n HNY.out g c z w1 (by omega) HSZ.out (HL.out.below A1_1.out)).mono fun _ _ h => TermsPost.lostO HE.out h).mono ?_
      rintro e w2 ⟨hB, ax, cx, rfl⟩
      have A1_2 := Lib.hid (below_step A1_1.out hB)
      have HB2 := Lib.hid (below_step HB1.out hB)
      clear hB
      go_wp2_with fail
      refine ((sSumScale_any ys n HNY.out g c z w2 (by omega) HSZ.out (HL.out.below A1_2.out)).mono fun _ _ h => TermsPost.lostO HE.out h).mono ?_
      rintro e w3 ⟨hB, ay, cy, rfl⟩
      have A1_3 := Lib.hid (below_step A1_2.out hB)
      have HB3 := Lib.hid (below_step HB2.out hB)
      clear hB
      go_wp2_with fail
      refine (sameSum_any [] 0 rfl ax ay cx cy w3 (by omega) TermO.none TermO.none).mono ?_
      rintro e w4 ⟨rfl, hB⟩
      have A1_4 := Lib.hid (below_step A1_3.out hB)
      have HB4 := Lib.hid (below_step HB3.out hB)
      clear hB
      go_wp2_with fail
      refine (sameSum_any [] 0 rfl ax ay cx cy w4 (by omega) TermO.none TermO.none).mono ?_
      rintro e w5 ⟨rfl, hB⟩
      have A1_5 := Lib.hid (below_step A1_4.out hB)
      have HB5 := Lib.hid (below_step HB4.out hB)
      clear hB
      go_wp2_with fail
      go_ret
      exact ⟨rfl, HB5.out⟩
    | some qs =>
      obtain ⟨rs, e1, e2⟩ := fnScale_told hs
      obtain ⟨z1, hz1⟩ : ∃ z1 : Int, z1 = z + 1 := ⟨_, rfl⟩
      have hwz : IntKind.i64.wrap (z + 1) = z1 := by rw [IntKind.wrap_i64]; omega
      rw [← hz1] at e2
      have HE := Lib.hid hs
      have HE1 := Lib.hid e1
      have HE2 := Lib.hid e2
      obtain ⟨N, hN⟩ : ∃ N, N = qs.length := ⟨_, rfl⟩
      obtain ⟨M, hM⟩ : ∃ M, M = rs.length := ⟨_, rfl⟩
      have HNQ := Lib.hid hN
      have HNM := Lib.hid hM
      have HNT : Hid (N = (txtTm qs).length) := Lib.hid (by rw [txtTm_length]; exact hN)
      have HNR : Hid (M = (txtTm rs).length) := Lib.hid (by rw [txtTm_length]; exact hM)
      have HSQ := Lib.hid (sum_size (addOf_sum e1).1).2
      have hN60 : N ≤ 60 := by rw [hN]; exact sclOf_len hs.symm
      have hM60 : M ≤ 60 := by rw [hM]; exact addOf_len e1.symm
      clear hs e1 e2 hN hM hz1
      go_wp2_with fail
      refine ((iSumScale_any ys n HNY.out g c z w1 (by omega) HSZ.out (HL.out.below A1_1.out)).mono fun _ _ h => TermsPost.gotO HE.out HNQ.out rfl h).mono ?_
      rintro e w2 ⟨hB, gx, cx, rfl, hx⟩
      have A1_2 := Lib.hid (below_step A1_1.out hB)
      have HB2 := Lib.hid (below_step HB1.out hB)
      have HX := Lib.hid hx
      clear hx
      clear hB
      have A2_2 := Lib.hid (Below.refl w2.heap.size w2)
      go_wp2_with fail
      refine ((sSumScale_any ys n HNY.out g c z w2 (by omega) HSZ.out (HL.out.below A1_2.out)).mono fun _ _ h => TermsPost.gotO HE.out HNQ.out rfl h).mono ?_
      rintro e w3 ⟨hB, gy, cy, rfl, hy⟩
      have A1_3 := Lib.hid (below_step A1_2.out hB)
      have A2_3 := Lib.hid (below_step A2_2.out hB)
      have HB3 := Lib.hid (below_step HB2.out hB)
      have HY := Lib.hid hy
      clear hy
      clear hB
      have A3_3 := Lib.hid (Below.refl w3.heap.size w3)
      go_wp2_with fail
      refine (sameSum_any (txtTm qs) N HNT.out (some ⟨gx, 0, none⟩) (some ⟨gy, 0, none⟩) cx cy w3 (by omega) (TermL.o (HX.out.below A2_3.out)) (TermL.o (HY.out.below A3_3.out))).mono ?_
      rintro e w4 ⟨rfl, hB⟩
      have A1_4 := Lib.hid (below_step A1_3.out hB)
      have A2_4 := Lib.hid (below_step A2_3.out hB)
      have A3_4 := Lib.hid (below_step A3_3.out hB)
      have HB4 := Lib.hid (below_step HB3.out hB)
      clear hB
      cases hu : sclOf ys z1 with
      | none =>
        have HU := Lib.hid hu
        clear hu
        go_wp2_with fail
        refine ((iSumScale_any ys n HNY.out g c z1 w4 (by omega) HSZ.out (HL.out.below A1_4.out)).mono fun _ _ h => TermsPost.lostO HU.out h).mono ?_
        rintro e w5 ⟨hB, au, cu, rfl⟩
        have A1_5 := Lib.hid (below_step A1_4.out hB)
        have A2_5 := Lib.hid (below_step A2_4.out hB)
        have A3_5 := Lib.hid (below_step A3_4.out hB)
        have HB5 := Lib.hid (below_step HB4.out hB)
        clear hB
        go_wp2_with fail
        refine ((iSumAdd_post (txtTm qs) ys N n HNT.out HNY.out gx cx g c w5 (by omega) (by omega) HSQ.out HSZ.out (HX.out.below A2_5.out) (HL.out.below A1_5.out)).mono fun _ _ h => TermsPost.gotO HE1.out HNM.out rfl h).mono ?_
        rintro e w6 ⟨hB, gv, cv, rfl, hv⟩
        have A1_6 := Lib.hid (below_step A1_5.out hB)
        have A2_6 := Lib.hid (below_step A2_5.out hB)
        have A3_6 := Lib.hid (below_step A3_5.out hB)
        have HB6 := Lib.hid (below_step HB5.out hB)
        clear hv
        clear hB
        go_wp2_with fail
        go_ret
        exact ⟨rfl, HB6.out⟩
      | some us =>
        have hur := HE2.out us hu
        subst hur
        have HU := Lib.hid hu
        clear hu
        go_wp2_with fail
        refine ((iSumScale_any ys n HNY.out g c z1 w4 (by omega) HSZ.out (HL.out.below A1_4.out)).mono fun _ _ h => TermsPost.gotO HU.out HNM.out rfl h).mono ?_
        rintro e w5 ⟨hB, gu, cu, rfl, hu⟩
        have A1_5 := Lib.hid (below_step A1_4.out hB)
        have A2_5 := Lib.hid (below_step A2_4.out hB)
        have A3_5 := Lib.hid (below_step A3_4.out hB)
        have HB5 := Lib.hid (below_step HB4.out hB)
        have HUU := Lib.hid hu
        clear hu
        clear hB
        have A5_5 := Lib.hid (Below.refl w5.heap.size w5)
        go_wp2_with fail
        refine ((iSumAdd_post (txtTm qs) ys N n HNT.out HNY.out gx cx g c w5 (by omega) (by omega) HSQ.out HSZ.out (HX.out.below A2_5.out) (HL.out.below A1_5.out)).mono fun _ _ h => TermsPost.gotO HE1.out HNM.out rfl h).mono ?_
        rintro e w6 ⟨hB, gv, cv, rfl, hv⟩
        have A1_6 := Lib.hid (below_step A1_5.out hB)
        have A2_6 := Lib.hid (below_step A2_5.out hB)
        have A3_6 := Lib.hid (below_step A3_5.out hB)
        have A5_6 := Lib.hid (below_step A5_5.out hB)
        have HB6 := Lib.hid (below_step HB5.out hB)
        have HV := Lib.hid hv
        clear hv
        clear hB
        have A6_6 := Lib.hid (Below.refl w6.heap.size w6)
        go_wp2_with fail
        refine (sameSum_any (txtTm us) M HNR.out (some ⟨gu, 0, none⟩) (some ⟨gv, 0, none⟩) cu cv w6 (by omega) (TermL.o (HUU.out.below A5_6.out)) (TermL.o (HV.out.below A6_6.out))).mono ?_
        rintro e w7 ⟨rfl, hB⟩
        have A1_7 := Lib.hid (below_step A1_6.out hB)
        have A2_7 := Lib.hid (below_step A2_6.out hB)
        have A3_7 := Lib.hid (below_step A3_6.out hB)
        have A5_7 := Lib.hid (below_step A5_6.out hB)
        have A6_7 := Lib.hid (below_step A6_6.out hB)
        have HB7 := Lib.hid (below_step HB6.out hB)
        clear hB
        go_wp2_with fail
        go_ret
        exact ⟨rfl, HB7.out⟩
  · clear hl h8
    go_enter Try.func6, Try.ntmps6
    go_wp2_with fail
    go_ret
    exact ⟨rfl, Below.refl _ _⟩

set_option maxRecDepth 100000 in
set_option maxHeartbeats 2000000 in
theorem pAdd_any (bs : List Nat) (a : Option Addr) (cap : Nat) (w : World) (hl : LiesB w a bs) (h8 : ∀ z ∈ bs, z ≤ 255) (hn : bs.length ≤ 9223372036854775807) (hcap : bs.length ≤ cap) :
    Calls Try.prog 5 #[.slice a bs.length cap] w (Ans (.bool true) w) := by
  by_cases h : bs.length ≤ 1048576
  · have HD := Lib.hid (dAdd_any bs a cap w hn hcap h8 hl)
    clear h8 hl
    go_enter Try.func5, Try.ntmps5
    go_wp2_with fail
    refine HD.out.mono ?_
    rintro e w1 ⟨hB1, ys, zs, g, n, c, g', n', c', rfl, hny, hn60, hsm, htl, hny', hn60', hsm', htl'⟩
    have HB1 := Lib.hid hB1
    have A1_1 := Lib.hid (Below.refl w1.heap.size w1)
    have HL := Lib.hid htl
    have HNY := Lib.hid hny
    have HSZ := Lib.hid hsm.size
    have HL' := Lib.hid htl'
    have HNY' := Lib.hid hny'
    have HSZ' := Lib.hid hsm'.size
    clear hB1 htl hny hsm htl' hny' hsm'
    cases hs : addOf ys zs with
    | none =>
      have HE := Lib.hid hs
      clear hs
      go_wp2_with fail
      refine ((iSumAdd_post ys zs n n' HNY.out HNY'.out g c g' c' w1 (by omega) (by omega) HSZ.out HSZ'.out (HL.out.below A1_1.out) (HL'.out.below A1_1.out)).mono fun _ _ h => TermsPost.lostO HE.out h).mono ?_
      rintro e w2 ⟨hB, ax, cx, rfl⟩
      have A1_2 := Lib.hid (below_step A1_1.out hB)
      have HB2 := Lib.hid (below_step HB1.out hB)
      clear hB
      go_wp2_with fail
      refine ((sSumAdd_any ys zs n n' HNY.out HNY'.out g c g' c' w2 (by omega) (by omega) HSZ.out HSZ'.out (HL.out.below A1_2.out) (HL'.out.below A1_2.out)).mono fun _ _ h => TermsPost.lostO HE.out h).mono ?_
      rintro e w3 ⟨hB, ay, cy, rfl⟩
      have A1_3 := Lib.hid (below_step A1_2.out hB)
      have HB3 := Lib.hid (below_step HB2.out hB)
      clear hB
      go_wp2_with fail
      refine (sameSum_any [] 0 rfl ax ay cx cy w3 (by omega) TermO.none TermO.none).mono ?_
      rintro e w4 ⟨rfl, hB⟩
      have A1_4 := Lib.hid (below_step A1_3.out hB)
      have HB4 := Lib.hid (below_step HB3.out hB)
      clear hB
      go_wp2_with fail
      refine (sameSum_any [] 0 rfl ax ay cx cy w4 (by omega) TermO.none TermO.none).mono ?_
      rintro e w5 ⟨rfl, hB⟩
      have A1_5 := Lib.hid (below_step A1_4.out hB)
      have HB5 := Lib.hid (below_step HB4.out hB)
      clear hB
      go_wp2_with fail
      go_ret
      exact ⟨rfl, HB5.out⟩
    | some qs =>
      obtain ⟨e1, ms, ps, e2, e3, e4, e5⟩ := fnAdd_told hs
      obtain ⟨N, hN⟩ : ∃ N, N = qs.length := ⟨_, rfl⟩
      obtain ⟨M, hM⟩ : ∃ M, M = ms.length := ⟨_, rfl⟩
      have HE := Lib.hid hs
      have HE1 := Lib.hid e1
      have HE2 := Lib.hid e2
      have HE4 := Lib.hid e4
      have HZ := Lib.hid e5
      have HNQ := Lib.hid hN
      have HNM := Lib.hid hM
      have HNT : Hid (N = (txtTm qs).length) := Lib.hid (by rw [txtTm_length]; exact hN)
      have HNR : Hid (M = (txtTm ms).length) := Lib.hid (by rw [txtTm_length]; exact hM)
      have HN : Hid (n = ps.length) := Lib.hid (by have h5 := congrArg List.length e5; rw [txtTm_length] at h5; have := HNY.out; omega)
      have HSQ := Lib.hid (sum_size (addOf_sum e4).1).2
      have HSM := Lib.hid (sum_size (addOf_sum e4).2).2
      have hN60 : N ≤ 60 := by rw [hN]; exact addOf_len hs.symm
      have hM60 : M ≤ 60 := by rw [hM]; exact sclOf_len e2.symm
      clear hs e1 e2 e3 e4 e5 hN hM
      go_wp2_with fail
      refine ((iSumAdd_post ys zs n n' HNY.out HNY'.out g c g' c' w1 (by omega) (by omega) HSZ.out HSZ'.out (HL.out.below A1_1.out) (HL'.out.below A1_1.out)).mono fun _ _ h => TermsPost.gotO HE.out HNQ.out rfl h).mono ?_
      rintro e w2 ⟨hB, gx, cx, rfl, hx⟩
      have A1_2 := Lib.hid (below_step A1_1.out hB)
      have HB2 := Lib.hid (below_step HB1.out hB)
      have HX := Lib.hid hx
      clear hx
      clear hB
      have A2_2 := Lib.hid (Below.refl w2.heap.size w2)
      go_wp2_with fail
      refine ((sSumAdd_any ys zs n n' HNY.out HNY'.out g c g' c' w2 (by omega) (by omega) HSZ.out HSZ'.out (HL.out.below A1_2.out) (HL'.out.below A1_2.out)).mono fun _ _ h => TermsPost.gotO HE.out HNQ.out rfl h).mono ?_
      rintro e w3 ⟨hB, gy, cy, rfl, hy⟩
      have A1_3 := Lib.hid (below_step A1_2.out hB)
      have A2_3 := Lib.hid (below_step A2_2.out hB)
      have HB3 := Lib.hid (below_step HB2.out hB)
      have HY := Lib.hid hy
      clear hy
      clear hB
      have A3_3 := Lib.hid (Below.refl w3.heap.size w3)
      go_wp2_with fail
      refine (sameSum_any (txtTm qs) N HNT.out (some ⟨gx, 0, none⟩) (some ⟨gy, 0, none⟩) cx cy w3 (by omega) (TermL.o (HX.out.below A2_3.out)) (TermL.o (HY.out.below A3_3.out))).mono ?_
      rintro e w4 ⟨rfl, hB⟩
      have A1_4 := Lib.hid (below_step A1_3.out hB)
      have A2_4 := Lib.hid (below_step A2_3.out hB)
      have A3_4 := Lib.hid (below_step A3_3.out hB)
      have HB4 := Lib.hid (below_step HB3.out hB)
      clear hB
      go_wp2_with fail
      refine ((iSumAdd_post zs ys n' n HNY'.out HNY.out g' c' g c w4 (by omega) (by omega) HSZ'.out HSZ.out (HL'.out.below A1_4.out) (HL.out.below A1_4.out)).mono fun _ _ h => TermsPost.gotO HE1.out HNQ.out rfl h).mono ?_
      rintro e w5 ⟨hB, gu, cu, rfl, hu⟩
      have A1_5 := Lib.hid (below_step A1_4.out hB)
      have A2_5 := Lib.hid (below_step A2_4.out hB)
      have A3_5 := Lib.hid (below_step A3_4.out hB)
      have HB5 := Lib.hid (below_step HB4.out hB)
      have HU := Lib.hid hu
      clear hu
      clear hB
      have A5_5 := Lib.hid (Below.refl w5.heap.size w5)
      go_wp2_with fail
      refine ((iSumScale_any zs n' HNY'.out g' c' (-1) w5 (by omega) HSZ'.out (HL'.out.below A1_5.out)).mono fun _ _ h => TermsPost.gotO HE2.out HNM.out rfl h).mono ?_
      rintro e w6 ⟨hB, gm, cm, rfl, hm⟩
      have A1_6 := Lib.hid (below_step A1_5.out hB)
      have A2_6 := Lib.hid (below_step A2_5.out hB)
      have A3_6 := Lib.hid (below_step A3_5.out hB)
      have A5_6 := Lib.hid (below_step A5_5.out hB)
      have HB6 := Lib.hid (below_step HB5.out hB)
      have HM := Lib.hid hm
      clear hm
      clear hB
      have A6_6 := Lib.hid (Below.refl w6.heap.size w6)
      go_wp2_with fail
      refine ((iSumAdd_post (txtTm qs) (txtTm ms) N M HNT.out HNR.out gx cx gm cm w6 (by omega) (by omega) HSQ.out HSM.out (HX.out.below A2_6.out) (HM.out.below A6_6.out)).mono fun _ _ h => TermsPost.gotO HE4.out HN.out HZ.out h).mono ?_
      rintro e w7 ⟨hB, gv, cv, rfl, hv⟩
      have A1_7 := Lib.hid (below_step A1_6.out hB)
      have A2_7 := Lib.hid (below_step A2_6.out hB)
      have A3_7 := Lib.hid (below_step A3_6.out hB)
      have A5_7 := Lib.hid (below_step A5_6.out hB)
      have A6_7 := Lib.hid (below_step A6_6.out hB)
      have HB7 := Lib.hid (below_step HB6.out hB)
      have HV := Lib.hid hv
      clear hv
      clear hB
      have A7_7 := Lib.hid (Below.refl w7.heap.size w7)
      go_wp2_with fail
      refine (sameSum_any (txtTm qs) N HNT.out (some ⟨gu, 0, none⟩) (some ⟨gx, 0, none⟩) cu cx w7 (by omega) (TermL.o (HU.out.below A5_7.out)) (TermL.o (HX.out.below A2_7.out))).mono ?_
      rintro e w8 ⟨rfl, hB⟩
      have A1_8 := Lib.hid (below_step A1_7.out hB)
      have A2_8 := Lib.hid (below_step A2_7.out hB)
      have A3_8 := Lib.hid (below_step A3_7.out hB)
      have A5_8 := Lib.hid (below_step A5_7.out hB)
      have A6_8 := Lib.hid (below_step A6_7.out hB)
      have A7_8 := Lib.hid (below_step A7_7.out hB)
      have HB8 := Lib.hid (below_step HB7.out hB)
      clear hB
      go_wp2_with fail
      refine (sameSum_any ys n HNY.out (some ⟨gv, 0, none⟩) (some ⟨g, 0, none⟩) cv c w8 (by omega) (TermL.o (HV.out.below A7_8.out)) (TermL.o (HL.out.below A1_8.out))).mono ?_
      rintro e w9 ⟨rfl, hB⟩
      have A1_9 := Lib.hid (below_step A1_8.out hB)
      have A2_9 := Lib.hid (below_step A2_8.out hB)
      have A3_9 := Lib.hid (below_step A3_8.out hB)
      have A5_9 := Lib.hid (below_step A5_8.out hB)
      have A6_9 := Lib.hid (below_step A6_8.out hB)
      have A7_9 := Lib.hid (below_step A7_8.out hB)
      have HB9 := Lib.hid (below_step HB8.out hB)
      clear hB
      go_wp2_with fail
      go_ret
      exact ⟨rfl, HB9.out⟩
  · clear hl h8
    go_enter Try.func5, Try.ntmps5
    go_wp2_with fail
    go_ret
    exact ⟨rfl, Below.refl _ _⟩

end Go.Proofs.Ytipodlckehodnaa
