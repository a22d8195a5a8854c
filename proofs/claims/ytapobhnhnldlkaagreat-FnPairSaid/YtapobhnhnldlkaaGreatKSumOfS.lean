/- Merged out of: XBndS, XSumOfS. -/
import Derived.Test.YtapobhnhnldlkaaGreatKBndX
import Derived.Test.YtapobhnhnldlkaaGreatKSumA
section
/- The model writes a sum out; SumOf by the model. -/
namespace Go.Proofs.YtapobhnhnldlkaaGreat
open Go.RowKit

set_option maxRecDepth 100000 in
set_option maxHeartbeats 4000000 in
theorem l3Write_any (qs : List Tm) (n : Nat) (hn : n = qs.length) (g cap : Nat) (w : World) (hn2 : n ≤ 1000000) (hqs : ∀ p ∈ qs, p.2.leaves ≤ 1000 ∧ p.2.nodes ≤ 1000) (hr : Rd tmS w (fun _ => True) (some ⟨g, 0, none⟩) qs) :
    Calls Tryz.prog 42 #[.slice (some ⟨g, 0, none⟩) n cap] w (TermsPost (outOf qs) w) := by
  obtain ⟨i0, hi0, hzz, hzs, hzb⟩ := info_parts infoTm2
  have HR := Lib.hid hr
  have HQS := Lib.hid hqs
  have HNN := Lib.hid hn
  clear hr hqs hn
  by_cases h60 : n ≤ 60
  · go_enter Tryz.func42, Tryz.ntmps42
    go_wp2_with fail
    go_loopw [4, 5] (fun ov iv wr => ∃ (k : Nat) (va : Option Addr) (vc : Nat) (vs : List Value), k ≤ n ∧ va ≠ none ∧ iv = .int .i64 k ∧ ov = .slice va k vc ∧ (∀ i (h : i < qs.length), i < k → small (qs[i]).2 = true) ∧ Row trm 74 w.heap.size (txtTm (qs.take k)) (.slice va k vc) vs wr ∧ Below w.heap.size w wr) (fun _ iv _ => n - (intOf iv).toNat)
    case atStart =>
      refine ⟨0, some ⟨w.heap.size, 0, none⟩, 0, [], Nat.zero_le _, by simp, rfl, rfl, fun i _ h => by omega, ?_, (Below.refl _ _).alloc (Nat.le_refl _) _⟩
      have h := World.ownsRow_made (base := w.heap.size) (e := 74) (size := 2) w #[] 0 (Nat.le_refl _) (by simp [maxLen]) rfl
      exact ⟨by rw [show (txtTm (qs.take 0)).length = 0 by simp [txtTm]]; exact h, fun _ h => by simp [txtTm] at h⟩
    case round =>
      obtain ⟨k, va, vc, vs, hk, hva, rfl, rfl, hsm, hrow, hB⟩ := hrel
      have HSM := Lib.hid hsm
      have HROW := Lib.hid hrow
      have HB := Lib.hid hB
      have HVA := Lib.hid hva
      have hlk : (txtTm (qs.take k)).length = k := by rw [txtTm_length, List.length_take]; have := HNN.out; omega
      have HLK := Lib.hid hlk
      clear hsm hrow hva hlk
      by_cases hlt : k < n
      · have hltq : k < qs.length := by rw [← HNN.out]; exact hlt
        obtain ⟨g', lb, sa, sn, sc, e, _, c0, c1, c2, hw, hrep⟩ := tmS.get (HR.out.below (by decide) hB) k hltq
        cases e
        have hq := HQS.out (qs[k]) (List.getElem_mem hltq)
        obtain ⟨t, ht⟩ : ∃ t, t = (qs[k]).2 := ⟨_, rfl⟩
        obtain ⟨x, hx⟩ : ∃ x, x = (qs[k]).1 := ⟨_, rfl⟩
        rw [← ht] at hw hrep hq
        rw [← hx] at c0
        have HT := Lib.hid ht
        have HX := Lib.hid hx
        have hD := l1Done_any t lb sa sn sc wr _ hw (by omega) (by omega) (by have := text_length t; omega) hrep
        obtain ⟨tx, htx⟩ : ∃ tx, tx = t.text.toArray := ⟨_, rfl⟩
        have HTX := Lib.hid htx
        have k0 : (0 : Int) ≤ (k : Int) := by omega
        obtain ⟨b, hb⟩ : ∃ b, small t = b := ⟨_, rfl⟩
        have HBV := Lib.hid hb
        clear ht hx hrep hB
        cases b with
        | false =>
          rw [doneV_no hb] at hD
          have HD := Lib.hid hD
          have HO : Hid (outOf qs = none) := Lib.hid (by rw [outOf, bounded_big hltq (by rw [← HT.out]; exact HBV.out)]; rfl)
          clear hD hb htx
          go_wp2_with fail
          refine HD.out.mono ?_
          rintro e w1 ⟨rfl, hB1⟩
          have HB1 := Lib.hid (below_step HB.out hB1)
          clear hB1
          go_wp2_with fail
          go_ret2
          exact ⟨HB1.out.alloc HB1.out.size _, .inl ⟨HO.out, _, _, rfl⟩⟩
        | true =>
          rw [doneV_yes hb, ← htx] at hD
          have HD := Lib.hid hD
          clear hD hb htx
          go_wp2_with fail
          refine HD.out.mono ?_
          rintro e w1 ⟨rfl, hB1⟩
          have d0 := keep1 hB1 c0
          have OWN := (HROW.out.below hB1).own
          rw [HLK.out] at OWN
          have HOWN := Lib.hid OWN
          have HOA := Lib.hid (World.ownsRow.alloc OWN (.cells #[.int .i64 x, .string ⟨tx⟩] 74 (0, 0)))
          have hszr : w.heap.size ≤ w1.heap.size := (below_step HB.out hB1).size
          have HB1 := Lib.hid hB1
          clear OWN hB1
          go_wp2_with (at_builtin; refine wpList_append_own_at _ rfl _ _ 24 rfl w.heap.size 74 i0 (.agg #[.int .i64 0, .string ⟨#[]⟩]) 2 24 Tryz.underlying24 hi0 hzz hzs hzb rfl (by decide) (.slice va k vc) k vs rfl HOA.out ⟨w1.heap.size, 0, none⟩ 1 1 [.int .i64 x, .string ⟨tx⟩] rfl rfl (cells_two rfl _ _) (by simp [Value.oneCell']) (by unfold maxLen; omega) (by omega) (by simp; omega) ?_; intro v3 w6 hown3 hg3 hnil3 hat3)
          obtain ⟨g3, q3, rfl, _, _, _⟩ := owns_some hown3 (fun e => by have := hnil3.1 e; simp at this)
          have NX : Row trm 74 w.heap.size (txtTm (qs.take (k + 1))) (.slice (some ⟨g3, 0, none⟩) (k + 1) q3) (vs ++ [.int .i64 x, .string ⟨tx⟩]) w6 := by
            have h := HROW.out.next (a := (x, ⟨tx⟩)) (g := g3) (cap := q3) (w1 := w1) (w1' := w1.alloc (.cells #[.int .i64 x, .string ⟨tx⟩] 74 (0, 0))) HB1.out rfl ((Below.refl _ _).alloc (Nat.le_refl _) _) (by rw [HLK.out]; exact hown3) hg3 (by
              rcases hat3 with h | h
              · left; rw [← h]; rfl
              · right; simp [Value.ownBlock] at h; omega)
            rw [HLK.out] at h
            rw [txtTm_take hltq, ← HT.out, ← HX.out, ← HTX.out]
            exact h
          have HNX := Lib.hid NX
          have BB := Lib.hid (((below_step HB.out HB1.out).alloc hszr (.cells #[.int .i64 x, .string ⟨tx⟩] 74 (0, 0))).grown hg3 (by simp; omega) (fun q e => by have := (HOWN.out.lt q e).1; omega))
          clear NX hown3 hg3 hnil3 hat3
          exact ⟨⟨k + 1, some ⟨g3, 0, none⟩, q3, _, by omega, by simp, by go_num, rfl, fun i h hi => by
              by_cases e : i = k
              · subst e; rw [← HT.out]; exact HBV.out
              · exact HSM.out i h (by omega), HNX.out, BB.out⟩, by simp [intOf]; omega⟩
      · have hkn : k = n := by omega
        have HO : Hid (outOf qs = some qs) := Lib.hid (by
          rw [outOf, if_pos (bounded_yes (by have := HNN.out; omega) (fun i hi => HSM.out i hi (by have := HNN.out; omega)))])
        obtain ⟨gv, rfl, _⟩ := owns_addr HROW.out.own HVA.out
        have hRT := row_terms HROW.out
        rw [HLK.out, hkn, HNN.out, List.take_length] at hRT
        have HRT := Lib.hid hRT
        have HKN : Hid (k = qs.length) := Lib.hid (by have := HNN.out; omega)
        clear hRT
        go_wp2_with fail
        go_ret2
        obtain ⟨h1, ⟨cur, h2, h3⟩, h4⟩ := HRT.out
        exact ⟨HB.out, .inr ⟨qs, gv, vc, cur, HO.out, by rw [← HKN.out]; rfl, h1, h2, h3, h4⟩⟩
  · have HO : Hid (outOf qs = none) := Lib.hid (by rw [outOf, bounded_long (by have := HNN.out; omega)]; rfl)
    go_enter Tryz.func42, Tryz.ntmps42
    go_wp2_with fail
    go_ret2
    exact ⟨(Below.refl _ _).alloc (Nat.le_refl _) _, .inl ⟨HO.out, _, _, rfl⟩⟩
end Go.Proofs.YtapobhnhnldlkaaGreat
end
section
/- SumOf by the model. -/
namespace Go.Proofs.YtapobhnhnldlkaaGreat
open Go.RowKit

theorem canon_snoc (ps : List Tm) (c : Int) (t : T) : canon (ps ++ [(c, t)]) = addT (canon ps) c t := addAll_snoc [] ps (c, t)

set_option maxRecDepth 100000 in
set_option maxHeartbeats 4000000 in
theorem sSumOf_any (xs : List (Int × ByteArray)) (n : Nat) (hnx : n = xs.length) (g cap : Nat) (w : World) (hn : n ≤ 1048576) (hz : ∀ j (h : j < xs.length), (xs[j]).2.size ≤ 1048576) (hl : TermL w g xs) :
    Calls Tryz.prog 22 #[.slice (some ⟨g, 0, none⟩) n cap] w (TermsPost (ofList xs) w) := by
  have HL := Lib.hid hl
  have HZ := Lib.hid hz
  have HNN := Lib.hid hnx
  clear hl hz hnx
  go_enter Tryz.func22, Tryz.ntmps22
  go_wp2_with fail
  go_loopw [4, 5, 6] (fun ov lv iv wr => ∃ (ps : List Tm) (k L gq c : Nat), k = ps.length ∧ k ≤ n ∧ (0 < k → n ≤ 60) ∧ iv = .int .i64 k ∧ lv = .int .i64 L ∧ (∀ h : 0 < ps.length, L = (ps[0]).2.leaves) ∧ ov = .slice (some ⟨gq, 0, none⟩) (canon ps).length c ∧ (canon ps).length ≤ c ∧ c ≤ 9223372036854775807 ∧ Rd tmS wr (fun _ => True) (some ⟨gq, 0, none⟩) (canon ps) ∧ rdAll (-1000000) 1000000 false (xs.take k) = some ps ∧ Below w.heap.size w wr) (fun _ _ iv _ => n - (intOf iv).toNat)
  case atStart => exact ⟨[], 0, 0, w.heap.size, 0, rfl, Nat.zero_le _, fun h => by omega, rfl, rfl, fun h => by simp at h, rfl, Nat.zero_le _, by omega, Rd.nil, rfl, (Below.refl _ _).alloc (Nat.le_refl _) _⟩
  case round =>
    obtain ⟨ps, k, L, gq, cq, hkp, hk, h60, rfl, rfl, hL, rfl, hq1, hq2, hrq, hrd, hB⟩ := hrel
    have HKP := Lib.hid hkp
    have HRD := Lib.hid hrd
    have HRQ := Lib.hid hrq
    have HLL := Lib.hid hL
    have HB := Lib.hid hB
    have HOK := Lib.hid (rdAll_ok _ _ _ rfl hrd).2.1
    have H60 := Lib.hid h60
    obtain ⟨nc, hnc⟩ : ∃ nc, nc = (canon ps).length := ⟨_, rfl⟩
    have HNC := Lib.hid hnc
    have hncb : nc ≤ k := by rw [hnc, hkp]; exact canon_length ps
    rw [← hnc] at hq1
    rw [← hnc]
    clear hrq hrd hL h60 hnc
    by_cases hlt : k < n
    · have hltx : k < xs.length := by rw [← HNN.out]; exact hlt
      obtain ⟨c0, c1⟩ := (HL.out.below hB) k hltx
      have hzk := HZ.out k hltx
      obtain ⟨s, hs⟩ : ∃ s, s = (xs[k]).2 := ⟨_, rfl⟩
      obtain ⟨x, hx⟩ : ∃ x, x = (xs[k]).1 := ⟨_, rfl⟩
      rw [← hs] at c1 hzk
      rw [← hx] at c0
      have HS := Lib.hid hs
      have HX := Lib.hid hx
      have HP := Lib.hid (fun w => l1Parse_any s w (by omega))
      clear hkp hB hs hx
      go_wp2_with fail
      refine (HP.out _).mono ?_
      rintro e w1 ⟨hB1, lb, sa, sn, sc, b, rfl, hres⟩
      have HB1 := Lib.hid hB1
      have HA1 : Hid (Below w1.heap.size w1 (w1.alloc (.cells #[.string lb, .slice sa sn sc] 52 (0, 0)))) := Lib.hid ((Below.refl _ _).alloc (Nat.le_refl _) _)
      have HBA := Lib.hid (below_step (below_step HB.out hB1) HA1.out)
      have d0 := keep1 HA1.out (keep1 hB1 c0)
      have hx0 := heap_alloc_new w1 (.cells #[.string lb, .slice sa sn sc] 52 (0, 0))
      obtain ⟨x0, x1, _, _⟩ := two_cells hx0
      clear hB1 hx0
      rcases hres with ⟨hno, rfl⟩ | ⟨t, hyes, rfl, hrep⟩
      · have HN : Hid (ofList xs = none) := Lib.hid (by
          have h : termsOf (-1000000) 1000000 xs = none := by
            rw [termsOf, rd_no_tree hltx (by rw [← HS.out]; exact hno)]; split <;> rfl
          rw [ofList, h])
        clear hno
        go_wp2_with fail
        go_ret2
        exact ⟨HBA.out.alloc HBA.out.size _, .inl ⟨HN.out, _, _, rfl⟩⟩
      · have HY := Lib.hid hyes
        obtain ⟨hw, htx, htl, htn⟩ := parse_some hyes
        have HBW := Lib.hid (below_step (Below.refl wr.heap.size wr) (below_step HB1.out HA1.out))
        have HTR := Lib.hid ((hrep.keep (w' := w1) (P' := fun _ => True) (fun _ _ _ h => h) (fun _ _ _ => trivial) hw).below hw HA1.out)
        clear hyes hrep htx
        go_upto_region 7 with fail
        go_cut [50] from 25 to 50 (fun bv wx => ∃ b : Bool, bv = .bool b ∧ b = (!(fits (-1000000) 1000000 false ps x t) || decide (60 < n)) ∧ Below (w1.alloc (.cells #[.string lb, .slice sa sn sc] 52 (0, 0))).heap.size (w1.alloc (.cells #[.string lb, .slice sa sn sc] 52 (0, 0))) wx)
        case first =>
          obtain ⟨l, hl⟩ : ∃ l, l = t.leaves := ⟨_, rfl⟩
          have HLT := Lib.hid (fun (W : World) (hb : Below (w1.alloc (.cells #[.string lb, .slice sa sn sc] 52 (0, 0))).heap.size (w1.alloc (.cells #[.string lb, .slice sa sn sc] 52 (0, 0))) W) => l1Leaves_any _ t _ _ W _ (Nat.le_refl _) hw (by omega) (HTR.out.below hw hb))
          have HLT2 : Hid (∀ (W : World), Below (w1.alloc (.cells #[.string lb, .slice sa sn sc] 52 (0, 0))).heap.size (w1.alloc (.cells #[.string lb, .slice sa sn sc] 52 (0, 0))) W → Calls Tryz.prog 40 #[.agg #[.string lb, .slice sa sn sc]] W fun e w' => e = .returned (.int .i64 (l : Int)) ∧ Below W.heap.size W w') := Lib.hid (by rw [hl]; exact HLT.out)
          have HFH : Hid (0 < k → fitsHd ps t = decide (l = L)) := Lib.hid (fun h => by
            have hp0 : 0 < ps.length := by have := HKP.out; omega
            rw [fitsHd_get hp0, hl, HLL.out hp0])
          have HF0 : Hid (k = 0 → fitsHd ps t = true) := Lib.hid (fun h => by
            have hps : ps = [] := List.length_eq_zero_iff.1 (by have := HKP.out; omega)
            subst hps; rfl)
          have HDN : Hid ((decide ((60 : Int) < (n : Int))) = decide (60 < n)) := Lib.hid (decide_eq_decide.2 (by omega))
          clear HLT hl
          by_cases hin : -1000000 ≤ x ∧ x ≤ 1000000
          · have HIN : Hid (∀ w, Calls Tryz.prog 39 #[.int .i64 x, .int .i64 (-1000000), .int .i64 1000000] w fun e w' => e = .returned (.bool true) ∧ w = w') := Lib.hid (fun w => by
              have := l6In_any x (-1000000) 1000000 w
              rw [decide_eq_true hin] at this
              exact this)
            have HXI := Lib.hid hin
            clear hin
            by_cases hk0 : k = 0
            · have hd : decide (0 < k) = false := decide_eq_false (by omega)
              have HK0 := Lib.hid hk0
              clear hk0
              have HFT : Hid (fits (-1000000) 1000000 false ps x t = true) := Lib.hid (by
                rw [fits, decide_eq_true HXI.out.1, decide_eq_true HXI.out.2, HF0.out HK0.out]; rfl)
              go_wp2_with (go_at_call 39; refine (HIN.out _).mono ?_; rintro e w' ⟨rfl, rfl⟩)
              go_meet
              exact ⟨_, rfl, by rw [HFT.out, HDN.out]; rfl, Below.refl _ _⟩
            · have hd : decide (0 < k) = true := decide_eq_true (by omega)
              have HK0 := Lib.hid hk0
              clear hk0
              by_cases hLl : l = L
              · have HFT : Hid (fits (-1000000) 1000000 false ps x t = true) := Lib.hid (by
                  rw [fits, decide_eq_true HXI.out.1, decide_eq_true HXI.out.2, HFH.out (by have := HK0.out; omega), decide_eq_true hLl]; rfl)
                have hb2 : ((l : Int) != (L : Int)) = false := by simp [hLl]
                subst hLl
                go_wp2_with (go_at_call 39; refine (HIN.out _).mono ?_; rintro e w' ⟨rfl, rfl⟩)
                go_at_call 40
                refine (HLT2.out _ (Below.refl _ _)).mono ?_
                rintro e w2 ⟨rfl, hB2⟩
                have HC1 := Lib.hid hB2
                clear hB2
                all_goals
                  go_wp2_with fail
                  go_meet
                  exact ⟨_, rfl, by rw [HFT.out, HDN.out]; rfl, HC1.out⟩
              · have HFT : Hid (fits (-1000000) 1000000 false ps x t = false) := Lib.hid (by
                  rw [fits, HFH.out (by have := HK0.out; omega), decide_eq_false hLl]; simp)
                have hb2 : ((l : Int) == (L : Int)) = false := beq_false_of_ne (by omega)
                go_wp2_with (go_at_call 39; refine (HIN.out _).mono ?_; rintro e w' ⟨rfl, rfl⟩)
                go_at_call 40
                refine (HLT2.out _ (Below.refl _ _)).mono ?_
                rintro e w2 ⟨rfl, hB2⟩
                have HC1 := Lib.hid hB2
                clear hB2
                all_goals
                  go_wp2_with fail
                  go_meet
                  exact ⟨_, rfl, by rw [HFT.out]; rfl, HC1.out⟩
          · have HIN : Hid (∀ w, Calls Tryz.prog 39 #[.int .i64 x, .int .i64 (-1000000), .int .i64 1000000] w fun e w' => e = .returned (.bool false) ∧ w = w') := Lib.hid (fun w => by
              have := l6In_any x (-1000000) 1000000 w
              rw [decide_eq_false hin] at this
              exact this)
            have HFT : Hid (fits (-1000000) 1000000 false ps x t = false) := Lib.hid (by
              rw [fits, ← Bool.decide_and, decide_eq_false hin]; rfl)
            clear hin
            go_wp2_with (go_at_call 39; refine (HIN.out _).mono ?_; rintro e w' ⟨rfl, rfl⟩)
            go_meet
            exact ⟨_, rfl, by rw [HFT.out]; rfl, Below.refl _ _⟩
        case rest =>
          obtain ⟨b, rfl, hb, hBc⟩ := hcut
          have HBC := Lib.hid hBc
          have HBX := Lib.hid (below_step HBW.out hBc)
          have d0' := keep1 hBc d0
          have x0' := keep1 hBc x0
          have x1' := keep1 hBc x1
          have HTX := Lib.hid (HTR.out.below hw hBc)
          have HRQ2 := Lib.hid (HRQ.out.below (by decide) (below_step HBW.out hBc))
          clear d0 x0 x1 hBc
          by_cases hbt : b = true
          · have HN : Hid (ofList xs = none) := Lib.hid (by
              rw [hbt] at hb
              have h : termsOf (-1000000) 1000000 xs = none := by
                rw [termsOf]
                split
                · rfl
                · next h60' =>
                  refine rd_no_fit hltx HRD.out (by rw [← HS.out]; exact HY.out) ?_
                  rw [← HX.out]
                  rw [decide_eq_false (by have := HNN.out; omega : ¬ 60 < n), Bool.or_false] at hb
                  simpa using hb.symm
              rw [ofList, h])
            subst hbt
            clear hb
            go_wp2_with fail
            go_ret2
            exact ⟨(below_step HB.out HBX.out).alloc (below_step HB.out HBX.out).size _, .inl ⟨HN.out, _, _, rfl⟩⟩
          · have hbf : b = false := by simpa using hbt
            have HFB : Hid (fits (-1000000) 1000000 false ps x t = true ∧ n ≤ 60) := Lib.hid (by
              rw [hbf] at hb
              have h := hb.symm
              rw [Bool.or_eq_false_iff] at h
              exact ⟨by simpa using h.1, by have := of_decide_eq_false h.2; omega⟩)
            subst hbf
            clear hb hbt
            obtain ⟨l, hl⟩ : ∃ l, l = t.leaves := ⟨_, rfl⟩
            have HLL2 := Lib.hid hl
            have HLT : Hid (Calls Tryz.prog 40 #[.agg #[.string lb, .slice sa sn sc]] wc fun e w' => e = .returned (.int .i64 (l : Int)) ∧ Below wc.heap.size wc w') := Lib.hid (by rw [hl]; exact l1Leaves_any _ t _ _ wc _ (Nat.le_refl _) hw (by omega) HTX.out)
            clear hl
            go_wp2_with (go_at_call 40; refine HLT.out.mono ?_; rintro e w2 ⟨rfl, hB2⟩)
            have HB2 := Lib.hid hB2
            have c0 := keep1 hB2 d0'
            have p0 := keep1 hB2 x0'
            have p1 := keep1 hB2 x1'
            clear hB2 d0' x0' x1'
            have hsW : w.heap.size ≤ w2.heap.size := Nat.le_trans HB.out.size (Nat.le_trans HBX.out.size HB2.out.size)
            have HTB := Lib.hid (HTX.out.below hw HB2.out)
            have HRB := Lib.hid (HRQ2.out.below (by decide) HB2.out)
            have HX4 : Hid (-1000000 ≤ x ∧ x ≤ 1000000) := Lib.hid (by
              have h := HFB.out.1
              simp only [fits, Bool.and_eq_true, decide_eq_true_eq] at h
              exact ⟨h.1.1.1, h.1.1.2⟩)
            have htr : ∀ p ∈ ps, p.2.wf ∧ p.2.leaves ≤ 1000 ∧ p.2.nodes ≤ 1000 := fun p hp => by
              have h := HOK.out.tree p hp
              exact ⟨h.1, by omega, by omega⟩
            have HTRC := Lib.hid (canon_tree htr)
            have HNF := Lib.hid (NF.canon (fun p hp => (htr p hp).1))
            have HAD := Lib.hid (fun (W : World) (hb : Below w2.heap.size w2 W) => l3Add_any (canon ps) nc HNC.out gq cq x t lb sa sn sc W hq1 hq2 (by have := HFB.out.2; omega) (fun p hp => ⟨(HTRC.out p hp).2.1, (HTRC.out p hp).2.2, by have := HNF.out.2 p hp; omega, by have := HNF.out.2 p hp; omega⟩) hw (by omega) (by omega) (by have := HX4.out; omega) (by have := HX4.out; omega) (HRB.out.below (by decide) hb) (HTB.out.below hw hb))
            clear htr
            go_wp2_with fail
            go_region_held3 (fun w' => w'.cell? ⟨w1.heap.size, 0, none⟩ = some (.string lb) ∧ w'.cell? ⟨w1.heap.size, 1, none⟩ = some (.slice sa sn sc) ∧ w'.cell? ⟨g, k * 2, none⟩ = some (.int .i64 x))
              (first | exact ⟨p0, p1, c0⟩ | exact ⟨q0, q1, r0⟩)
              (first
              | (go_at_call 41; refine (HAD.out _ (Below.refl _ _).drew).mono ?_; rintro e w3 ⟨hB3, g3, cp3, rfl, hq3, hq4, hr3⟩; have hB3' : Below w2.heap.size w2 w3 := (Below.refl _ _).drew.trans hB3; have q0 := keep1 hB3' p0; have q1 := keep1 hB3' p1; have r0 := keep1 hB3' c0; have HC1 := Lib.hid hB3'; have HR3 := Lib.hid hr3; clear hB3 hB3' hr3))
            all_goals
              go_wp2_with fail
              go_roundw
              case rel => exact ⟨ps ++ [(x, t)], k + 1, l, g3, cp3, by rw [List.length_append]; have := HKP.out; simp; omega, by omega, fun _ => HFB.out.2, by go_num, rfl, (fun h => by
                  have hl := HLL2.out
                  rw [hl]
                  by_cases hp0 : 0 < ps.length
                  · rw [List.getElem_append_left hp0]
                    have h := HFB.out.1
                    simp only [fits, Bool.and_eq_true, decide_eq_true_eq] at h
                    have h2 := h.1.2
                    rw [fitsHd_get hp0] at h2
                    exact of_decide_eq_true h2
                  · have hps : ps = [] := List.length_eq_zero_iff.1 (by omega)
                    subst hps; rfl), by rw [canon_snoc], by rw [canon_snoc]; exact hq3, hq4, by rw [canon_snoc]; exact HR3.out, (by
                  have := rd_fit hltx HRD.out (by rw [← HS.out]; exact HY.out) (by rw [← HX.out]; exact HFB.out.1)
                  rw [← HX.out] at this
                  exact this), below_step HB.out (below_step HBX.out (below_step HB2.out HC1.out))⟩
              case measure => simp [intOf]; omega
    · have hkn : k = n := by omega
      have hn60 : n ≤ 60 := by
        rcases Nat.eq_zero_or_pos k with h | h
        · omega
        · exact H60.out h
      have hte : termsOf (-1000000) 1000000 xs = some ps := by
        have h := HRD.out
        rw [List.take_of_length_le (by have := HNN.out; omega)] at h
        rw [termsOf, if_neg (by have := HNN.out; omega), h]
      have HO : Hid (ofList xs = outOf (canon ps)) := Lib.hid (by rw [ofList, hte])
      have htr : ∀ p ∈ ps, p.2.wf ∧ p.2.leaves ≤ 1000 ∧ p.2.nodes ≤ 1000 := fun p hp => by
        have h := HOK.out.tree p hp
        exact ⟨h.1, by omega, by omega⟩
      have HW := Lib.hid (l3Write_any (canon ps) nc HNC.out gq cq wr (by omega) (fun p hp => by
        have h := canon_tree htr p hp
        exact ⟨h.2.1, h.2.2⟩) HRQ.out)
      have hBz := HB.out.size
      clear hte htr hB
      go_wp2_with fail
      refine HW.out.mono ?_
      rintro e w1 ⟨hB1, hres⟩
      have HBA := Lib.hid (below_step HB.out hB1)
      rcases hres with ⟨hno, a3, c3, rfl⟩ | ⟨qs, g3, c3, cur, hyes, rfl, hg3, hcur, hcs, hl3⟩
      · have HQ : Hid (ofList xs = none) := Lib.hid (by rw [HO.out, hno])
        clear hno
        go_wp2_with fail
        go_ret2
        exact ⟨HBA.out, .inl ⟨HQ.out, _, _, rfl⟩⟩
      · have HQ : Hid (ofList xs = some qs) := Lib.hid (by rw [HO.out, hyes])
        have HRES : Hid (wr.heap.size ≤ g3 ∧ w1.heap[g3]? = some (.cells cur 74 (0, 0)) ∧ qs.length * 2 ≤ cur.size ∧ TermL w1 g3 (txtTm qs)) := Lib.hid ⟨hg3, hcur, hcs, hl3⟩
        clear hyes hcur hcs hl3
        go_wp2_with fail
        go_ret2
        obtain ⟨h1, h2, h3, h4⟩ := HRES.out
        exact ⟨HBA.out, .inr ⟨qs, g3, c3, cur, HQ.out, rfl, Nat.le_trans HB.out.size h1, h2, h3, h4⟩⟩
end Go.Proofs.YtapobhnhnldlkaaGreat
end
