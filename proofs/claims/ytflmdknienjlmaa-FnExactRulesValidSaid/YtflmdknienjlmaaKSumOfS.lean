/- Merged out of: XBndS, XSumOfS. -/
import Derived.Test.YtflmdknienjlmaaBndI
import Derived.Test.YtflmdknienjlmaaSumAddS
section
/- The model writes a sum out; SumOf by the model. -/
namespace Go.Proofs.Ytflmdknienjlmaa
open Go.RowKit

set_option maxRecDepth 100000 in
set_option maxHeartbeats 4000000 in
theorem l3Write_any (qs : List Tm) (n : Nat) (hn : n = qs.length) (g cap : Nat) (w : World) (hn2 : n ≤ 1000000) (hqs : ∀ p ∈ qs, p.2.leaves ≤ 1000 ∧ p.2.nodes ≤ 1000) (hr : Rd tmS w (fun _ => True) (some ⟨g, 0, none⟩) qs) :
    Calls Try.prog 49 #[.slice (some ⟨g, 0, none⟩) n cap] w (TermsPost (outOf qs) w) := by
  obtain ⟨i0, hi0, hzz, hzs, hzb⟩ := info_parts infoTm2
  have HR := Lib.hid hr
  have HQS := Lib.hid hqs
  have HNN := Lib.hid hn
  clear hr hqs hn
  by_cases h60 : n ≤ 60
  · go_enter Try.func49, Try.ntmps49
    go_wp2_with fail
    go_loopw [4, 5] (fun ov iv wr => ∃ (k : Nat) (va : Option Addr) (vc : Nat) (vs : List Value), k ≤ n ∧ va ≠ none ∧ iv = .int .i64 k ∧ ov = .slice va k vc ∧ (∀ i (h : i < qs.length), i < k → small (qs[i]).2 = true) ∧ Row trm 81 w.heap.size (txtTm (qs.take k)) (.slice va k vc) vs wr ∧ Below w.heap.size w wr) (fun _ iv _ => n - (intOf iv).toNat)
    case atStart =>
      refine ⟨0, some ⟨w.heap.size, 0, none⟩, 0, [], Nat.zero_le _, by simp, rfl, rfl, fun i _ h => by omega, ?_, (Below.refl _ _).alloc (Nat.le_refl _) _⟩
      have h := World.ownsRow_made (base := w.heap.size) (e := 81) (size := 2) w #[] 0 (Nat.le_refl _) (by simp [maxLen]) rfl
      exact ⟨by rw [show (txtTm (qs.take 0)).length = 0 by simp [txtTm]]; exact h, fun _ h => by simp [txtTm] at h⟩
    case round =>
      obtain ⟨k, va, vc, vs, hk, hva, rfl, rfl, hsm, hrow, hB⟩ := hrel
      have HSM := Lib.hid hsm
      have HROW := Lib.hid hrow
      have HB := Lib.hid hB
      have HVA := Lib.hid hva
      have hlk : (txtTm (qs.take k)).length = k := by rw [txtTm_length, List.length_take]; have := HNN.out; omega
      have HLK := Lib.hid hlk
      clear hsm hrow hva hlk
      by_cases hlt : k < n
      · have hltq : k < qs.length := by rw [← HNN.out]; exact hlt
        obtain ⟨g', lb, sa, sn, sc, e, _, c0, c1, c2, hw, hrep⟩ := tmS.get (HR.out.below (by decide) hB) k hltq
        cases e
        have hq := HQS.out (qs[k]) (List.getElem_mem hltq)
        obtain ⟨t, ht⟩ : ∃ t, t = (qs[k]).2 := ⟨_, rfl⟩
        obtain ⟨x, hx⟩ : ∃ x, x = (qs[k]).1 := ⟨_, rfl⟩
        rw [← ht] at hw hrep hq
        rw [← hx] at c0
        have HT := Lib.hid ht
        have HX := Lib.hid hx
        have hD := l1Done_any t lb sa sn sc wr _ hw (by omega) (by omega) (by have := text_length t; omega) hrep
        obtain ⟨tx, htx⟩ : ∃ tx, tx = t.text.toArray := ⟨_, rfl⟩
        have HTX := Lib.hid htx
        have k0 : (0 : Int) ≤ (k : Int) := by omega
        obtain ⟨b, hb⟩ : ∃ b, small t = b := ⟨_, rfl⟩
        have HBV := Lib.hid hb
        clear ht hx hrep hB
        cases b with
        | false =>
          rw [doneV_no hb] at hD
          have HD := Lib.hid hD
          have HO : Hid (outOf qs = none) := Lib.hid (by rw [outOf, bounded_big hltq (by rw [← HT.out]; exact HBV.out)]; rfl)
          clear hD hb htx
          go_wp2_with fail
          refine HD.out.mono ?_
          rintro e w1 ⟨rfl, hB1⟩
          have HB1 := Lib.hid (below_step HB.out hB1)
          clear hB1
          go_wp2_with fail
          go_ret2
          exact ⟨HB1.out.alloc HB1.out.size _, .inl ⟨HO.out, _, _, rfl⟩⟩
        | true =>
          rw [doneV_yes hb, ← htx] at hD
          have HD := Lib.hid hD
          clear hD hb htx
          go_wp2_with fail
          refine HD.out.mono ?_
          rintro e w1 ⟨rfl, hB1⟩
          have d0 := keep1 hB1 c0
          have OWN := (HROW.out.below hB1).own
          rw [HLK.out] at OWN
          have HOWN := Lib.hid OWN
          have HOA := Lib.hid (World.ownsRow.alloc OWN (.cells #[.int .i64 x, .string ⟨tx⟩] 81 (0, 0)))
          have hszr : w.heap.size ≤ w1.heap.size := (below_step HB.out hB1).size
          have HB1 := Lib.hid hB1
          clear OWN hB1
          go_wp2_with (at_builtin; refine wpList_append_own_at _ rfl _ _ 24 rfl w.heap.size 81 i0 (.agg #[.int .i64 0, .string ⟨#[]⟩]) 2 24 Try.underlying24 hi0 hzz hzs hzb rfl (by decide) (.slice va k vc) k vs rfl HOA.out ⟨w1.heap.size, 0, none⟩ 1 1 [.int .i64 x, .string ⟨tx⟩] rfl rfl (cells_two rfl _ _) (by simp [Value.oneCell']) (by unfold maxLen; omega) (by omega) (by simp; omega) ?_; intro v3 w6 hown3 hg3 hnil3 hat3)
          obtain ⟨g3, q3, rfl, _, _, _⟩ := owns_some hown3 (fun e => by have := hnil3.1 e; simp at this)
          have NX : Row trm 81 w.heap.size (txtTm (qs.take (k + 1))) (.slice (some ⟨g3, 0, none⟩) (k + 1) q3) (vs ++ [.int .i64 x, .string ⟨tx⟩]) w6 := by
            have h := HROW.out.next (a := (x, ⟨tx⟩)) (g := g3) (cap := q3) (w1 := w1) (w1' := w1.alloc (.cells #[.int .i64 x, .string ⟨tx⟩] 81 (0, 0))) HB1.out rfl ((Below.refl _ _).alloc (Nat.le_refl _) _) (by rw [HLK.out]; exact hown3) hg3 (by
              rcases hat3 with h | h
              · left; rw [← h]; rfl
              · right; simp [Value.ownBlock] at h; omega)
            rw [HLK.out] at h
            rw [txtTm_take hltq, ← HT.out, ← HX.out, ← HTX.out]
            exact h
          have HNX := Lib.hid NX
          have BB := Lib.hid (((below_step HB.out HB1.out).alloc hszr (.cells #[.int .i64 x, .string ⟨tx⟩] 81 (0, 0))).grown hg3 (by simp; omega) (fun q e => by have := (HOWN.out.lt q e).1; omega))
          clear NX hown3 hg3 hnil3 hat3
          exact ⟨⟨k + 1, some ⟨g3, 0, none⟩, q3, _, by omega, by simp, by go_num, rfl, fun i h hi => by
              by_cases e : i = k
              · subst e; rw [← HT.out]; exact HBV.out
              · exact HSM.out i h (by omega), HNX.out, BB.out⟩, by simp [intOf]; omega⟩
      · have hkn : k = n := by omega
        have HO : Hid (outOf qs = some qs) := Lib.hid (by
          rw [outOf, if_pos (bounded_yes (by have := HNN.out; omega) (fun i hi => HSM.out i hi (by have := HNN.out; omega)))])
        obtain ⟨gv, rfl, _⟩ := owns_addr HROW.out.own HVA.out
        have hRT := row_terms HROW.out
        rw [HLK.out, hkn, HNN.out, List.take_length] at hRT
        have HRT := Lib.hid hRT
        have HKN : Hid (k = qs.length) := Lib.hid (by have := HNN.out; omega)
        clear hRT
        go_wp2_with fail
        go_ret2
        obtain ⟨h1, ⟨cur, h2, h3⟩, h4⟩ := HRT.out
        exact ⟨HB.out, .inr ⟨qs, gv, vc, cur, HO.out, by rw [← HKN.out]; rfl, h1, h2, h3, h4⟩⟩
  · have HO : Hid (outOf qs = none) := Lib.hid (by rw [outOf, bounded_long (by have := HNN.out; omega)]; rfl)
    go_enter Try.func49, Try.ntmps49
    go_wp2_with fail
    go_ret2
    exact ⟨(Below.refl _ _).alloc (Nat.le_refl _) _, .inl ⟨HO.out, _, _, rfl⟩⟩
end Go.Proofs.Ytflmdknienjlmaa
end
section
/- SumOf by the model. -/
namespace Go.Proofs.Ytflmdknienjlmaa
open Go.RowKit

theorem canon_snoc (ps : List Tm) (c : Int) (t : T) : canon (ps ++ [(c, t)]) = addT (canon ps) c t := addAll_snoc [] ps (c, t)

end Go.Proofs.Ytflmdknienjlmaa
end
