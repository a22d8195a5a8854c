/- Terms are drawn in any order; FnSumOf. -/
import Derived.Test.YtipodlckehodnaaKPSum
namespace Go.Proofs.Ytipodlckehodnaa
open Go.RowKit

set_option maxRecDepth 100000 in
set_option maxHeartbeats 2000000 in
theorem dSumOf_any (bs : List Nat) (a : Option Addr) (cap : Nat) (w : World) (hn : bs.length ≤ 9223372036854775807) (hcap : bs.length ≤ cap) (h8 : ∀ z ∈ bs, z ≤ 255) (hl : LiesB w a bs) :
    Calls Try.prog 19 #[.slice a bs.length cap] w (DrL w) := by
  obtain ⟨i0, hi0, hzz, hzs, hzby⟩ := info_parts infoTm2
  have HO := Lib.hid (l6Open_any bs a cap w hn hcap h8 hl)
  clear h8 hl
  go_enter Try.func19, Try.ntmps19
  go_wp2_with fail
  refine HO.out.mono ?_
  rintro e w1 ⟨rfl, hb1, hr1⟩
  have HP := Lib.hid (pick_any w.heap.size a cap 0 4 (bs.take 2000) w1 hr1 (by omega) (by omega) (by omega))
  have HB1 := Lib.hid hb1
  have hRw1 := hr1.cells.2.2.2
  clear hb1 hr1
  go_wp2_with fail
  refine HP.out.mono ?_
  rintro e w2 ⟨⟨k1, hk1, rfl⟩, hg2, hs2, hr2⟩
  obtain ⟨m, hm⟩ : ∃ m, m = 1 + k1 := ⟨_, rfl⟩
  have hwm : IntKind.i64.wrap (1 + (k1 : Int)) = (m : Int) := by rw [IntKind.wrap_i64]; omega
  have hm1 : 1 ≤ m ∧ m ≤ 4 := by omega
  have HB2 := Lib.hid (below_over HB1.out hg2 (fun r e => by cases e; exact Nat.le_refl _))
  obtain ⟨w3, hw3⟩ : ∃ w3, w3 = w2.alloc (.cells #[] 32 (0, 0)) := ⟨_, rfl⟩
  have hb3 : Below w2.heap.size w2 w3 := by rw [hw3]; exact (Below.refl _ _).alloc (Nat.le_refl _) _
  have hr3 := hr2.grown (grownBy_below (grownBy_refl w2 none) hb3) (fun _ e => by cases e)
  have hRw2 := hr2.cells.2.2.2
  have HOWN3 : Hid (w3.ownsRow w2.heap.size 32 2 (.slice (some ⟨w2.heap.size, 0, none⟩) 0 0) 0 (flatT [])) := Lib.hid (by rw [hw3]; exact World.ownsRow_made w2 #[] 0 (Nat.le_refl _) (by simp [maxLen]) rfl)
  have HP4 := Lib.hid (pick_any w.heap.size a cap 1 5 (bs.take 2000) w3 hr3 (by omega) (by omega) (by omega))
  have HB3 := Lib.hid (below_step HB2.out hb3)
  have HW3 := Lib.hid hw3
  clear hg2 hs2 hr2 hm hw3 hb3 hr3
  go_wp2_with fail
  rw [← HW3.out]
  refine HP4.out.mono ?_
  rintro e w4 ⟨⟨k0, hk0, rfl⟩, hg4, hs4, hr4⟩
  have HB4 := Lib.hid (below_over HB3.out hg4 (fun r e => by cases e; exact Nat.le_refl _))
  have HOWN4 := Lib.hid (owns_kept_some HOWN3.out hg4 hRw2)
  have HR4 := Lib.hid hr4
  have hw24 : w2.heap.size ≤ w4.heap.size := by have h5 := HW3.out; have h6 : w3.heap.size = w2.heap.size + 1 := (by rw [h5]; simp); omega
  clear hg4 hs4 hr4
  go_wp2_with fail
  go_loopw [5, 7] (fun lv iv wr => ∃ (ys : List (Int × ByteArray)) (k g vc q : Nat), k = ys.length ∧ k ≤ k0 ∧ iv = .int .i64 k ∧ lv = .slice (some ⟨g, 0, none⟩) k vc ∧ wr.ownsRow w2.heap.size 32 2 (.slice (some ⟨g, 0, none⟩) k vc) k (flatT ys) ∧ RdR wr w.heap.size a cap (bs.take 2000) q ∧ q ≤ 2 + k * 30 ∧ TmSmall ys ∧ Below w.heap.size w wr ∧ w2.heap.size ≤ wr.heap.size) (fun _ iv _ => k0 - (intOf iv).toNat)
  case atStart => exact ⟨[], 0, w2.heap.size, 0, 2, rfl, by omega, rfl, rfl, HOWN4.out, HR4.out, by omega, fun j hj => by simp at hj, HB4.out, hw24⟩
  case round =>
    obtain ⟨ys, k, g, vc, q, hky, hk, rfl, rfl, hown, hr, hq, hsm, hB, hwr⟩ := hrel
    have HKY := Lib.hid hky
    have HOWN := Lib.hid hown
    have HR := Lib.hid hr
    have HSM := Lib.hid hsm
    have HB := Lib.hid hB
    clear hky hown hsm hB
    by_cases hlt : k < k0
    · have HP2 := Lib.hid (pick_any w.heap.size a cap q 21 (bs.take 2000) wr hr (by omega) (by omega) (by omega))
      clear hr
      go_wp2_with fail
      refine HP2.out.mono ?_
      rintro e w5 ⟨⟨x, hx, rfl⟩, hg5, hs5, hr5⟩
      obtain ⟨z, hz⟩ : ∃ z : Int, z = (x : Int) - 10 := ⟨_, rfl⟩
      have hwz : IntKind.i64.wrap ((x : Int) - 10) = z := by rw [IntKind.wrap_i64]; omega
      have hzb : -100 ≤ z ∧ z ≤ 100 := by omega
      have HB5 := Lib.hid (below_over HB.out hg5 (fun r e => by cases e; exact Nat.le_refl _))
      have HOWN5 := Lib.hid (owns_kept_some HOWN.out hg5 hRw2)
      have hw5 := hg5.size
      have HSH := Lib.hid (l91Shape_any w.heap.size a cap (bs.take 2000) m m (q + 1) w5 (Nat.le_refl _) (by omega) (by omega) (by omega) hr5)
      clear hg5 hs5 hr5 hz
      go_wp2_with fail
      refine HSH.out.mono ?_
      rintro e w6 ⟨hg6, t, lb, sa, sn, sc, q3, rfl, hrep, hwf, hlv, hnd, hrd3, hq3⟩
      have HB6 := Lib.hid (below_over HB5.out hg6 (fun r e => by cases e; exact Nat.le_refl _))
      have HOWN6 := Lib.hid (owns_kept_some HOWN5.out hg6 hRw2)
      have hw6 := hg6.size
      have HRD6 := Lib.hid hrd3
      have htl := text_length t
      have HTX := Lib.hid (l1Text_any _ t _ _ _ _ (Nat.le_refl _) hwf (by omega) hrep)
      obtain ⟨tx, htx⟩ : ∃ tx, tx = t.text := ⟨_, rfl⟩
      rw [← htx] at HTX htl
      have hsz : tx.length ≤ 2000 := by omega
      clear hg6 hrep hrd3 htx htl
      go_wp2_with fail
      refine HTX.out.mono ?_
      rintro e w7 ⟨rfl, hb7⟩
      have HB7 := Lib.hid (below_step HB6.out hb7)
      have HOWN7 := Lib.hid (owns_below HOWN6.out hb7)
      have HRD7 := Lib.hid (HRD6.out.grown (grownBy_below (grownBy_refl _ none) hb7) (fun _ e => by cases e))
      have hw7 := hb7.size
      obtain ⟨s, hs⟩ : ∃ s : ByteArray, s = ⟨tx.toArray⟩ := ⟨_, rfl⟩
      have hss : s.size ≤ 2000 := by rw [hs]; change tx.toArray.size ≤ 2000; simpa using hsz
      rw [← hs]
      have HOA := Lib.hid (World.ownsRow.alloc HOWN7.out (.cells #[.int .i64 z, .string s] 32 (0, 0)))
      clear hb7 hs hsz
      go_wp2_with (at_builtin; refine wpList_append_own_at _ rfl _ _ 23 rfl w2.heap.size 32 i0 (.agg #[.int .i64 0, .string ⟨#[]⟩]) 2 24 Try.underlying23 hi0 hzz hzs hzby rfl (by decide) (.slice (some ⟨g, 0, none⟩) k vc) k (flatT ys) rfl HOA.out ⟨w7.heap.size, 0, none⟩ 1 1 [.int .i64 z, .string s] rfl rfl (cells_two (by simp) _ _) (by simp [Value.oneCell']) (by unfold maxLen; omega) (by omega) (by simp; omega) ?_; intro v3 w8 hown3 hg8 hnil3 hat3)
      obtain ⟨g3, q9, rfl, _, _, _⟩ := owns_some hown3 (fun e => by have := hnil3.1 e; simp at this)
      have ha7 : Below w7.heap.size w7 (w7.alloc (.cells #[.int .i64 z, .string s] 32 (0, 0))) := (Below.refl _ _).alloc (Nat.le_refl _) _
      have HO8 : Hid (w8.ownsRow w2.heap.size 32 2 (.slice (some ⟨g3, 0, none⟩) (k + 1) q9) (k + 1) (flatT (ys ++ [(z, s)]))) := Lib.hid (by rw [flatT_snoc]; exact hown3)
      have HR8 := Lib.hid ((HRD7.out.grown (grownBy_below (grownBy_refl _ none) ha7) (fun _ e => by cases e)).grown hg8 (fun r e => by have := (HOWN7.out.lt r e).1; omega))
      have HB8 := Lib.hid (below_over (below_step HB7.out ha7) hg8 (fun r e => by have := (HOWN7.out.lt r e).1; omega))
      have HS8 := Lib.hid (HSM.out.snoc (y := (z, s)) hss hzb.1 hzb.2)
      have hw8 : w2.heap.size ≤ w8.heap.size := by have h5 := hg8.size; have h6 := ha7.size; omega
      clear hown3 hg8 hnil3 hat3 ha7
      exact ⟨⟨ys ++ [(z, s)], k + 1, g3, q9, q3, by rw [List.length_append]; have := HKY.out; simp; omega, by omega, by go_num, rfl, HO8.out, HR8.out, by omega, HS8.out, HB8.out, hw8⟩, by simp [intOf]; omega⟩
    · have HP2 := Lib.hid (pick_any w.heap.size a cap q 12 (bs.take 2000) wr hr (by omega) (by omega) (by omega))
      clear hr
      go_wp2_with fail
      refine HP2.out.mono ?_
      rintro e w5 ⟨⟨x, hx, rfl⟩, hg5, hs5, hr5⟩
      have HB5 := Lib.hid (below_over HB.out hg5 (fun r e => by cases e; exact Nat.le_refl _))
      have HOWN5 := Lib.hid (owns_kept_some HOWN.out hg5 hRw2)
      have hw5 := hg5.size
      by_cases hx0 : x = 0
      · subst hx0
        have HT := Lib.hid (l91Text_any w.heap.size a cap (bs.take 2000) 2 (q + 1) w5 (by decide) (by omega) hr5)
        clear hg5 hs5 hr5
        go_wp2_with fail
        refine HT.out.mono ?_
        rintro e w6 ⟨hg6, s, q6, rfl, hss, hrd6, hq6⟩
        have HB6 := Lib.hid (below_over HB5.out hg6 (fun r e => by cases e; exact Nat.le_refl _))
        have HOWN6 := Lib.hid (owns_kept_some HOWN5.out hg6 hRw2)
        have hw6 := hg6.size
        have HOA := Lib.hid (World.ownsRow.alloc HOWN6.out (.cells #[.int .i64 1, .string s] 32 (0, 0)))
        clear hg6 hrd6
        go_wp2_with (at_builtin; refine wpList_append_own_at _ rfl _ _ 23 rfl w2.heap.size 32 i0 (.agg #[.int .i64 0, .string ⟨#[]⟩]) 2 24 Try.underlying23 hi0 hzz hzs hzby rfl (by decide) (.slice (some ⟨g, 0, none⟩) k vc) k (flatT ys) rfl HOA.out ⟨w6.heap.size, 0, none⟩ 1 1 [.int .i64 1, .string s] rfl rfl (cells_two (by simp) _ _) (by simp [Value.oneCell']) (by unfold maxLen; omega) (by omega) (by simp; omega) ?_; intro v3 w8 hown3 hg8 hnil3 hat3)
        obtain ⟨g3, q9, rfl, _, _, _⟩ := owns_some hown3 (fun e => by have := hnil3.1 e; simp at this)
        have ha7 : Below w6.heap.size w6 (w6.alloc (.cells #[.int .i64 1, .string s] 32 (0, 0))) := (Below.refl _ _).alloc (Nat.le_refl _) _
        have HO8 : Hid (w8.ownsRow w2.heap.size 32 2 (.slice (some ⟨g3, 0, none⟩) (k + 1) q9) (k + 1) (flatT (ys ++ [(1, s)]))) := Lib.hid (by rw [flatT_snoc]; exact hown3)
        have HB8 := Lib.hid (below_over (below_step HB6.out ha7) hg8 (fun r e => by have := (HOWN6.out.lt r e).1; omega))
        have HS8 := Lib.hid (HSM.out.snoc (y := (1, s)) hss (by show (-100 : Int) ≤ 1; omega) (by show (1 : Int) ≤ 100; omega))
        have HL8 : Hid (k + 1 = (ys ++ [((1 : Int), s)]).length) := Lib.hid (by rw [List.length_append]; have := HKY.out; simp; omega)
        clear hown3 hg8 hnil3 hat3 ha7
        go_ret
        exact ⟨HB8.out, ys ++ [(1, s)], g3, k + 1, q9, rfl, HL8.out, by omega, HS8.out, owns_termL HL8.out HO8.out⟩
      · have e1 : ((x : Int) == 0) = false := beq_false_of_ne (by omega)
        clear hg5 hs5 hr5
        go_wp2_with fail
        go_ret
        exact ⟨HB5.out, ys, g, k, vc, rfl, HKY.out, by omega, HSM.out, owns_termL HKY.out HOWN5.out⟩

set_option maxRecDepth 100000 in
set_option maxHeartbeats 2000000 in
theorem pSumOf_any (bs : List Nat) (a : Option Addr) (cap : Nat) (w : World) (hl : LiesB w a bs) (h8 : ∀ z ∈ bs, z ≤ 255) (hn : bs.length ≤ 9223372036854775807) (hcap : bs.length ≤ cap) :
    Calls Try.prog 4 #[.slice a bs.length cap] w (Ans (.bool true) w) := by
  obtain ⟨i0, hi0, hzz, hzs, hzby⟩ := info_parts infoTm2
  by_cases h : bs.length ≤ 1048576
  · have HD := Lib.hid (dSumOf_any bs a cap w hn hcap h8 hl)
    clear h8 hl
    go_enter Try.func4, Try.ntmps4
    go_wp2_with fail
    refine HD.out.mono ?_
    rintro e w1 ⟨hB1, ys, g, n, c, rfl, hny, hn60, hsm, htl⟩
    have HB1 := Lib.hid hB1
    have A1_1 := Lib.hid (Below.refl w1.heap.size w1)
    have HL := Lib.hid htl
    have HNY := Lib.hid hny
    have HSZ := Lib.hid hsm.size
    clear hB1 htl hny hsm
    cases hs : ofList ys with
    | none =>
      have HE := Lib.hid hs
      clear hs
      go_wp2_with fail
      refine ((iSumOf_any ys n HNY.out g c w1 (by omega) HSZ.out (HL.out.below A1_1.out)).mono fun _ _ h => TermsPost.lostO HE.out h).mono ?_
      rintro e w2 ⟨hB, ax, cx, rfl⟩
      have A1_2 := Lib.hid (below_step A1_1.out hB)
      have HB2 := Lib.hid (below_step HB1.out hB)
      clear hB
      go_wp2_with fail
      refine ((sSumOf_any ys n HNY.out g c w2 (by omega) HSZ.out (HL.out.below A1_2.out)).mono fun _ _ h => TermsPost.lostO HE.out h).mono ?_
      rintro e w3 ⟨hB, ay, cy, rfl⟩
      have A1_3 := Lib.hid (below_step A1_2.out hB)
      have HB3 := Lib.hid (below_step HB2.out hB)
      clear hB
      go_wp2_with fail
      refine (sameSum_any [] 0 rfl ax ay cx cy w3 (by omega) TermO.none TermO.none).mono ?_
      rintro e w4 ⟨rfl, hB⟩
      have A1_4 := Lib.hid (below_step A1_3.out hB)
      have HB4 := Lib.hid (below_step HB3.out hB)
      clear hB
      go_wp2_with fail
      refine (sameSum_any [] 0 rfl ax ay cx cy w4 (by omega) TermO.none TermO.none).mono ?_
      rintro e w5 ⟨rfl, hB⟩
      have A1_5 := Lib.hid (below_step A1_4.out hB)
      have HB5 := Lib.hid (below_step HB4.out hB)
      clear hB
      go_wp2_with fail
      go_ret
      exact ⟨rfl, HB5.out⟩
    | some qs =>
      obtain ⟨e1, e2⟩ := fnSumOf_told hs
      obtain ⟨N, hN⟩ : ∃ N, N = qs.length := ⟨_, rfl⟩
      have HE := Lib.hid hs
      have HE1 := Lib.hid e1
      have HNQ := Lib.hid hN
      have HS := Lib.hid (show Value.bool (sumOf (txtTm qs)).isSome = .bool true by rw [e2])
      have HNT : Hid (N = (txtTm qs).length) := Lib.hid (by rw [txtTm_length]; exact hN)
      have HSQ := Lib.hid (sum_size (Option.isSome_iff_exists.1 e2)).2
      have hN60 : N ≤ 60 := by rw [hN]; exact (ofList_ok hs).1
      have HNR : Hid (n = ys.reverse.length) := Lib.hid (by rw [List.length_reverse]; exact HNY.out)
      have HSR : Hid (∀ j (h : j < ys.reverse.length), (ys.reverse[j]).2.size ≤ 1048576) := Lib.hid (fun j hj => by rw [List.getElem_reverse]; exact HSZ.out _ _)
      clear hs e1 e2 hN
      go_wp2_with fail
      refine ((iSumOf_any ys n HNY.out g c w1 (by omega) HSZ.out (HL.out.below A1_1.out)).mono fun _ _ h => TermsPost.gotO HE.out HNQ.out rfl h).mono ?_
      rintro e w2 ⟨hB, gx, cx, rfl, hx⟩
      have A1_2 := Lib.hid (below_step A1_1.out hB)
      have HB2 := Lib.hid (below_step HB1.out hB)
      have HX := Lib.hid hx
      clear hx
      clear hB
      have A2_2 := Lib.hid (Below.refl w2.heap.size w2)
      go_wp2_with fail
      refine ((sSumOf_any ys n HNY.out g c w2 (by omega) HSZ.out (HL.out.below A1_2.out)).mono fun _ _ h => TermsPost.gotO HE.out HNQ.out rfl h).mono ?_
      rintro e w3 ⟨hB, gy, cy, rfl, hy⟩
      have A1_3 := Lib.hid (below_step A1_2.out hB)
      have A2_3 := Lib.hid (below_step A2_2.out hB)
      have HB3 := Lib.hid (below_step HB2.out hB)
      have HY := Lib.hid hy
      clear hy
      clear hB
      have A3_3 := Lib.hid (Below.refl w3.heap.size w3)
      go_wp2_with fail
      refine (sameSum_any (txtTm qs) N HNT.out (some ⟨gx, 0, none⟩) (some ⟨gy, 0, none⟩) cx cy w3 (by omega) (TermL.o (HX.out.below A2_3.out)) (TermL.o (HY.out.below A3_3.out))).mono ?_
      rintro e w4 ⟨rfl, hB⟩
      have A1_4 := Lib.hid (below_step A1_3.out hB)
      have A2_4 := Lib.hid (below_step A2_3.out hB)
      have A3_4 := Lib.hid (below_step A3_3.out hB)
      have HB4 := Lib.hid (below_step HB3.out hB)
      clear hB
      have hwn : IntKind.i64.wrap ((n : Int) - 1) = (n : Int) - 1 := by rw [IntKind.wrap_i64]; omega
      go_wp2_with fail
      go_loopw [8, 9] (fun bv iv wr => ∃ (k gb vc : Nat) (iz : Int), k ≤ n ∧ iz + (k : Int) + 1 = (n : Int) ∧ iv = .int .i64 iz ∧ bv = .slice (some ⟨gb, 0, none⟩) k vc ∧ wr.ownsRow w4.heap.size 32 2 (.slice (some ⟨gb, 0, none⟩) k vc) k (flatT (ys.reverse.take k)) ∧ Below w4.heap.size w4 wr) (fun _ iv _ => (intOf iv + 1).toNat)
      case atStart => exact ⟨0, w4.heap.size, 0, (n : Int) - 1, by omega, by omega, by first | rfl | go_num, rfl, World.ownsRow_made w4 #[] 0 (Nat.le_refl _) (by simp [maxLen]) rfl, (Below.refl _ _).alloc (Nat.le_refl _) _⟩
      case round =>
        obtain ⟨k, gb, vc, iz, hk, hiz, rfl, rfl, hown, hB⟩ := hrel
        have HOWN := Lib.hid hown
        have HBR := Lib.hid hB
        by_cases hlt : k < n
        · obtain ⟨j, hj⟩ : ∃ j : Nat, (j : Int) = iz := ⟨iz.toNat, by omega⟩
          have hjk : j + k + 1 = n := by omega
          subst hj
          have hjy : j < ys.length := by have := HNY.out; omega
          obtain ⟨d1, d2⟩ := (HL.out.below (below_step A1_4.out hB)) j hjy
          have HGET : Hid (ys.reverse.take (k + 1) = ys.reverse.take k ++ [ys[j]]) := Lib.hid (by
            have hkr : k < ys.reverse.length := by have := HNR.out; omega
            rw [List.take_succ_eq_append_getElem hkr, List.getElem_reverse]
            have e5 : ys.length - 1 - k = j := by have := HNY.out; omega
            simp only [e5])
          obtain ⟨x, hx⟩ : ∃ x, x = (ys[j]).1 := ⟨_, rfl⟩
          obtain ⟨s, hs⟩ : ∃ s, s = (ys[j]).2 := ⟨_, rfl⟩
          rw [← hx] at d1
          rw [← hs] at d2
          have HP : Hid (ys[j] = (x, s)) := Lib.hid (by rw [hx, hs])
          have j0 : (0 : Int) ≤ (j : Int) := by omega
          have e0 : decide ((0 : Int) ≤ (j : Int)) = true := decide_eq_true (by omega)
          have jn : (j : Int) < (n : Int) := by omega
          have jn2 : j < n := by omega
          have hwj : IntKind.i64.wrap ((j : Int) - 1) = (j : Int) - 1 := by rw [IntKind.wrap_i64]; omega
          have HOA := Lib.hid (World.ownsRow.alloc HOWN.out (.cells #[.int .i64 x, .string s] 32 (0, 0)))
          have hszb := hB.size
          clear hown hB hx hs hiz
          go_wp2_with (at_builtin; refine wpList_append_own_at _ rfl _ _ 23 rfl w4.heap.size 32 i0 (.agg #[.int .i64 0, .string ⟨#[]⟩]) 2 24 Try.underlying23 hi0 hzz hzs hzby rfl (by decide) (.slice (some ⟨gb, 0, none⟩) k vc) k (flatT (ys.reverse.take k)) rfl HOA.out ⟨wr.heap.size, 0, none⟩ 1 1 [.int .i64 x, .string s] rfl rfl (cells_two (by simp) _ _) (by simp [Value.oneCell']) (by unfold maxLen; omega) (by omega) (by simp; omega) ?_; intro v3 w8 hown3 hg8 hnil3 hat3)
          obtain ⟨g3, q9, rfl, _, _, _⟩ := owns_some hown3 (fun e => by have := hnil3.1 e; simp at this)
          have ha7 : Below wr.heap.size wr (wr.alloc (.cells #[.int .i64 x, .string s] 32 (0, 0))) := (Below.refl _ _).alloc (Nat.le_refl _) _
          have HO8 : Hid (w8.ownsRow w4.heap.size 32 2 (.slice (some ⟨g3, 0, none⟩) (k + 1) q9) (k + 1) (flatT (ys.reverse.take (k + 1)))) := Lib.hid (by rw [HGET.out, flatT_snoc, HP.out]; exact hown3)
          have HB8 := Lib.hid (below_over (below_step HBR.out ha7) hg8 (fun r e => (HOWN.out.lt r e).1))
          clear hown3 hg8 hnil3 hat3 ha7
          exact ⟨⟨k + 1, g3, q9, (j : Int) - 1, by omega, by omega, by first | rfl | go_num, rfl, HO8.out, HB8.out⟩, by first | (simp [intOf]; done) | (simp [intOf]; omega)⟩
        · have hkn : k = n := by omega
          have e0 : decide ((0 : Int) ≤ iz) = false := decide_eq_false (by omega)
          have i0' : ¬ (0 : Int) ≤ iz := by omega
          subst hkn
          have HTB : Hid (TermL wr gb ys.reverse) := Lib.hid (owns_termL HNR.out (by have h5 := HOWN.out; rw [HNR.out, List.take_length] at h5; rw [HNR.out]; exact h5))
          have HBB := Lib.hid (below_step A1_4.out hB)
          have HBC := Lib.hid (below_step HB4.out hB)
          have HBX := Lib.hid (below_step A2_4.out hB)
          clear hown hB hiz
          go_wp2_with fail
          refine (((iSumOf_any ys.reverse k HNR.out gb vc wr (by omega) HSR.out HTB.out).mono fun _ _ h => TermsPost.gotO HE1.out HNQ.out rfl h)).mono ?_
          rintro e u1 ⟨hB, gz, cz, rfl, hz⟩
          have HZ := Lib.hid hz
          have U1 := Lib.hid hB
          clear hB hz
          go_wp2_with fail
          refine (sameSum_any (txtTm qs) N HNT.out (some ⟨gz, 0, none⟩) (some ⟨gx, 0, none⟩) cz cx u1 (by omega) (TermL.o HZ.out) (TermL.o (HX.out.below (below_step HBX.out U1.out)))).mono ?_
          rintro e u2 ⟨rfl, hB⟩
          have U2 := Lib.hid (below_step U1.out hB)
          clear hB
          go_wp2_with fail
          refine ((iSumValid_any (txtTm qs) N HNT.out gx cx u2 (by omega) HSQ.out (HX.out.below (below_step HBX.out U2.out))).mono fun _ _ h => Ans.is h HS.out).mono ?_
          rintro e u3 ⟨rfl, hB⟩
          go_wp2_with fail
          go_ret
          exact ⟨rfl, below_step (below_step HBC.out U2.out) hB⟩
  · clear hl h8
    go_enter Try.func4, Try.ntmps4
    go_wp2_with fail
    go_ret
    exact ⟨rfl, Below.refl _ _⟩

end Go.Proofs.Ytipodlckehodnaa
