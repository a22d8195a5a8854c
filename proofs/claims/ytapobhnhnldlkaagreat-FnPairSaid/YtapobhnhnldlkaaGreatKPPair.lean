/- Merged out of: XPQuadM, XSumOfA, XPQuadL. -/
import Derived.Test.YtapobhnhnldlkaaGreatKQuadP
import Derived.Test.YtapobhnhnldlkaaGreatKPSum
import Derived.Test.YtapobhnhnldlkaaGreatKSumOfS
import Derived.Test.YtapobhnhnldlkaaGreatPQuad
import Derived.Test.YtapobhnhnldlkaaGreatKLawQ
import Derived.Test.YtapobhnhnldlkaaGreatSumOpsI
section
/- What the promise on pairings says, as mathematics. -/
namespace Go.Proofs.YtapobhnhnldlkaaGreat

theorem sumTo_congrQ {f g : Nat → Int} : ∀ k, (∀ j, j < k → f j = g j) → sumTo f k = sumTo g k
  | 0, _ => rfl
  | k + 1, h => by rw [sumTo, sumTo, sumTo_congrQ k (fun j hj => h j (by omega)), h k (by omega)]

theorem pair_sym (ss : List ByteArray) (xs ys : List (Int × ByteArray)) : pairOf ss xs ys = pairOf ss ys xs := by
  cases hq : quadsOf ss with
  | none => rw [pairOf_no hq, pairOf_no hq]
  | some ts =>
    cases hx : qRowOf ts xs with
    | none => rw [pairOf_no1 hq hx, pairOf_no2 hq hx]
    | some f =>
      cases hy : qRowOf ts ys with
      | none => rw [pairOf_no2 hq hy, pairOf_no1 hq hy]
      | some g =>
        rw [pairOf_yes hq hx hy, pairOf_yes hq hy hx]
        congr 1
        exact sumTo_congrQ 18 fun j _ => by rw [Int.mul_comm (f j)]

theorem pair_some {ss : List ByteArray} {xs ys : List (Int × ByteArray)} (h : 0 ≤ pairOf ss xs ys) : ∃ ts f g, quadsOf ss = some ts ∧ qRowOf ts xs = some f ∧ qRowOf ts ys = some g := by
  cases hq : quadsOf ss with
  | none => rw [pairOf_no hq] at h; omega
  | some ts =>
    cases hx : qRowOf ts xs with
    | none => rw [pairOf_no1 hq hx] at h; omega
    | some f =>
      cases hy : qRowOf ts ys with
      | none => rw [pairOf_no2 hq hy] at h; omega
      | some g => exact ⟨ts, f, g, rfl, hx, hy⟩

theorem pair_below {ss : List ByteArray} {xs ys : List (Int × ByteArray)} : pairOf ss xs ys < 101 := by
  cases hq : quadsOf ss with
  | none => rw [pairOf_no hq]; omega
  | some ts =>
    cases hx : qRowOf ts xs with
    | none => rw [pairOf_no1 hq hx]; omega
    | some f =>
      cases hy : qRowOf ts ys with
      | none => rw [pairOf_no2 hq hy]; omega
      | some g => rw [pairOf_yes hq hx hy]; omega

theorem pair_low (ss : List ByteArray) (xs ys : List (Int × ByteArray)) : -1 ≤ pairOf ss xs ys := by
  cases hq : quadsOf ss with
  | none => rw [pairOf_no hq]; omega
  | some ts =>
    cases hx : qRowOf ts xs with
    | none => rw [pairOf_no1 hq hx]; omega
    | some f =>
      cases hy : qRowOf ts ys with
      | none => rw [pairOf_no2 hq hy]; omega
      | some g => rw [pairOf_yes hq hx hy]; omega

theorem sumTo_twice {F G : Nat → Int} : ∀ k, (∀ j, j < k → (G j - 2 * F j) % 101 = 0) → (sumTo G k - 2 * sumTo F k) % 101 = 0
  | 0, _ => rfl
  | k + 1, h => by
    have h1 := sumTo_twice k (fun j hj => h j (by omega))
    have h2 := h k (by omega)
    rw [sumTo, sumTo]
    omega

theorem twice_mod (f g g2 s : Int) (h : (g2 - 2 * g) % 101 = 0) : (f * g2 % 101 * s % 101 - 2 * (f * g % 101 * s % 101)) % 101 = 0 := by
  have h1 : (f * g2 - 2 * (f * g)) % 101 = 0 := by
    rw [show f * g2 - 2 * (f * g) = f * (g2 - 2 * g) by rw [Int.mul_sub, Int.mul_left_comm]]
    rw [Int.mul_emod, h]; simp
  obtain ⟨a, ha⟩ : ∃ a, a = f * g2 := ⟨_, rfl⟩
  obtain ⟨b, hb⟩ : ∃ b, b = f * g := ⟨_, rfl⟩
  rw [← ha, ← hb] at h1 ⊢
  have h2 : (a % 101 - 2 * (b % 101)) % 101 = 0 := by omega
  obtain ⟨c, hc⟩ : ∃ c, c = a % 101 := ⟨_, rfl⟩
  obtain ⟨d, hd⟩ : ∃ d, d = b % 101 := ⟨_, rfl⟩
  rw [← hc, ← hd] at h2 ⊢
  have h3 : (c * s - 2 * (d * s)) % 101 = 0 := by
    rw [show c * s - 2 * (d * s) = (c - 2 * d) * s by rw [Int.sub_mul, Int.mul_assoc]]
    rw [Int.mul_emod, h2]; simp
  omega

theorem qRow_twice {ts : List T} {ys : List (Int × ByteArray)} {ps : List Tm} {g : Nat → Int} (hs : sumOf ys = some ps) (hg : qRowOf ts ys = some g) :
    ∃ g2, qRowOf ts (txtTm (canon (sclTm 2 ps))) = some g2 ∧ ∀ j, (g2 j - 2 * g j) % 101 = 0 := by
  have h1 := (scl_told hs 2 (by omega) (by omega)).2
  unfold qRowOf at hg
  rw [hs] at hg
  simp only at hg
  split at hg
  · rename_i hin
    simp only [Option.some.injEq] at hg
    subst hg
    have hin2 : inTrees ts (canon (sclTm 2 ps)) = true := by
      unfold inTrees at hin ⊢
      rw [List.all_eq_true] at hin ⊢
      intro p hp
      obtain ⟨q, hq, e⟩ := mem_canon hp
      obtain ⟨r, hr, rfl⟩ := List.mem_map.1 hq
      rw [e]
      exact hin r hr
    refine ⟨qRow ts (canon (sclTm 2 ps)), by rw [qRowOf, h1]; simp only [hin2, if_true], fun j => ?_⟩
    unfold qRow
    split
    · rename_i hj
      have a := cf_canon (sclTm 2 ps) ts[j]
      rw [cf_scl] at a
      omega
    · rfl
  · cases hg

theorem pair_twice {ss : List ByteArray} {xs ys : List (Int × ByteArray)} {ps : List Tm} (hs : sumOf ys = some ps) (h : 0 ≤ pairOf ss xs ys) : pairOf ss xs (txtTm (canon (sclTm 2 ps))) = 2 * pairOf ss xs ys % 101 := by
  obtain ⟨ts, f, g, hq, hf, hg⟩ := pair_some h
  obtain ⟨g2, h2, h3⟩ := qRow_twice hs hg
  rw [pairOf_yes hq hf h2, pairOf_yes hq hf hg]
  have := sumTo_twice (F := fun j => f j * g j % 101 * sgn ts j % 101) (G := fun j => f j * g2 j % 101 * sgn ts j % 101) 18 (fun j _ => twice_mod _ _ _ _ (h3 j))
  omega

theorem pair_sum {ss : List ByteArray} {xs ys : List (Int × ByteArray)} (h : 0 ≤ pairOf ss xs ys) : ∃ ps, sumOf ys = some ps := by
  obtain ⟨ts, f, g, _, _, hg⟩ := pair_some h
  unfold qRowOf at hg
  cases hs : sumOf ys with
  | none => rw [hs] at hg; cases hg
  | some ps => exact ⟨ps, rfl⟩

end Go.Proofs.YtapobhnhnldlkaaGreat
end
section
/- SumOf by the model, its empty answer told with its block. -/
namespace Go.Proofs.YtapobhnhnldlkaaGreat
open Go.RowKit

/-- As TermsPost; where there is none, the block of the empty list is told. -/
def TermsPostA (o : Option (List Tm)) (w : World) (e : Ending) (w' : World) : Prop :=
  Below w.heap.size w w' ∧ ((o = none ∧ ∃ g c, e = .returned (.tuple #[.slice (some ⟨g, 0, none⟩) 0 c, .bool false])) ∨
    ∃ qs g c cur, o = some qs ∧ e = .returned (.tuple #[.slice (some ⟨g, 0, none⟩) qs.length c, .bool true]) ∧ w.heap.size ≤ g ∧ w'.heap[g]? = some (.cells cur 74 (0, 0)) ∧ qs.length * 2 ≤ cur.size ∧ TermL w' g (txtTm qs))

set_option maxRecDepth 100000 in
set_option maxHeartbeats 4000000 in
theorem l3WriteA_any (qs : List Tm) (n : Nat) (hn : n = qs.length) (g cap : Nat) (w : World) (hn2 : n ≤ 1000000) (hqs : ∀ p ∈ qs, p.2.leaves ≤ 1000 ∧ p.2.nodes ≤ 1000) (hr : Rd tmS w (fun _ => True) (some ⟨g, 0, none⟩) qs) :
    Calls Tryz.prog 42 #[.slice (some ⟨g, 0, none⟩) n cap] w (TermsPostA (outOf qs) w) := by
  obtain ⟨i0, hi0, hzz, hzs, hzb⟩ := info_parts infoTm2
  have HR := Lib.hid hr
  have HQS := Lib.hid hqs
  have HNN := Lib.hid hn
  clear hr hqs hn
  by_cases h60 : n ≤ 60
  · go_enter Tryz.func42, Tryz.ntmps42
    go_wp2_with fail
    go_loopw [4, 5] (fun ov iv wr => ∃ (k : Nat) (va : Option Addr) (vc : Nat) (vs : List Value), k ≤ n ∧ va ≠ none ∧ iv = .int .i64 k ∧ ov = .slice va k vc ∧ (∀ i (h : i < qs.length), i < k → small (qs[i]).2 = true) ∧ Row trm 74 w.heap.size (txtTm (qs.take k)) (.slice va k vc) vs wr ∧ Below w.heap.size w wr) (fun _ iv _ => n - (intOf iv).toNat)
    case atStart =>
      refine ⟨0, some ⟨w.heap.size, 0, none⟩, 0, [], Nat.zero_le _, by simp, rfl, rfl, fun i _ h => by omega, ?_, (Below.refl _ _).alloc (Nat.le_refl _) _⟩
      have h := World.ownsRow_made (base := w.heap.size) (e := 74) (size := 2) w #[] 0 (Nat.le_refl _) (by simp [maxLen]) rfl
      exact ⟨by rw [show (txtTm (qs.take 0)).length = 0 by simp [txtTm]]; exact h, fun _ h => by simp [txtTm] at h⟩
    case round =>
      obtain ⟨k, va, vc, vs, hk, hva, rfl, rfl, hsm, hrow, hB⟩ := hrel
      have HSM := Lib.hid hsm
      have HROW := Lib.hid hrow
      have HB := Lib.hid hB
      have HVA := Lib.hid hva
      have hlk : (txtTm (qs.take k)).length = k := by rw [txtTm_length, List.length_take]; have := HNN.out; omega
      have HLK := Lib.hid hlk
      clear hsm hrow hva hlk
      by_cases hlt : k < n
      · have hltq : k < qs.length := by rw [← HNN.out]; exact hlt
        obtain ⟨g', lb, sa, sn, sc, e, _, c0, c1, c2, hw, hrep⟩ := tmS.get (HR.out.below (by decide) hB) k hltq
        cases e
        have hq := HQS.out (qs[k]) (List.getElem_mem hltq)
        obtain ⟨t, ht⟩ : ∃ t, t = (qs[k]).2 := ⟨_, rfl⟩
        obtain ⟨x, hx⟩ : ∃ x, x = (qs[k]).1 := ⟨_, rfl⟩
        rw [← ht] at hw hrep hq
        rw [← hx] at c0
        have HT := Lib.hid ht
        have HX := Lib.hid hx
        have hD := l1Done_any t lb sa sn sc wr _ hw (by omega) (by omega) (by have := text_length t; omega) hrep
        obtain ⟨tx, htx⟩ : ∃ tx, tx = t.text.toArray := ⟨_, rfl⟩
        have HTX := Lib.hid htx
        have k0 : (0 : Int) ≤ (k : Int) := by omega
        obtain ⟨b, hb⟩ : ∃ b, small t = b := ⟨_, rfl⟩
        have HBV := Lib.hid hb
        clear ht hx hrep hB
        cases b with
        | false =>
          rw [doneV_no hb] at hD
          have HD := Lib.hid hD
          have HO : Hid (outOf qs = none) := Lib.hid (by rw [outOf, bounded_big hltq (by rw [← HT.out]; exact HBV.out)]; rfl)
          clear hD hb htx
          go_wp2_with fail
          refine HD.out.mono ?_
          rintro e w1 ⟨rfl, hB1⟩
          have HB1 := Lib.hid (below_step HB.out hB1)
          clear hB1
          go_wp2_with fail
          go_ret2
          exact ⟨HB1.out.alloc HB1.out.size _, .inl ⟨HO.out, _, _, rfl⟩⟩
        | true =>
          rw [doneV_yes hb, ← htx] at hD
          have HD := Lib.hid hD
          clear hD hb htx
          go_wp2_with fail
          refine HD.out.mono ?_
          rintro e w1 ⟨rfl, hB1⟩
          have d0 := keep1 hB1 c0
          have OWN := (HROW.out.below hB1).own
          rw [HLK.out] at OWN
          have HOWN := Lib.hid OWN
          have HOA := Lib.hid (World.ownsRow.alloc OWN (.cells #[.int .i64 x, .string ⟨tx⟩] 74 (0, 0)))
          have hszr : w.heap.size ≤ w1.heap.size := (below_step HB.out hB1).size
          have HB1 := Lib.hid hB1
          clear OWN hB1
          go_wp2_with (at_builtin; refine wpList_append_own_at _ rfl _ _ 24 rfl w.heap.size 74 i0 (.agg #[.int .i64 0, .string ⟨#[]⟩]) 2 24 Tryz.underlying24 hi0 hzz hzs hzb rfl (by decide) (.slice va k vc) k vs rfl HOA.out ⟨w1.heap.size, 0, none⟩ 1 1 [.int .i64 x, .string ⟨tx⟩] rfl rfl (cells_two rfl _ _) (by simp [Value.oneCell']) (by unfold maxLen; omega) (by omega) (by simp; omega) ?_; intro v3 w6 hown3 hg3 hnil3 hat3)
          obtain ⟨g3, q3, rfl, _, _, _⟩ := owns_some hown3 (fun e => by have := hnil3.1 e; simp at this)
          have NX : Row trm 74 w.heap.size (txtTm (qs.take (k + 1))) (.slice (some ⟨g3, 0, none⟩) (k + 1) q3) (vs ++ [.int .i64 x, .string ⟨tx⟩]) w6 := by
            have h := HROW.out.next (a := (x, ⟨tx⟩)) (g := g3) (cap := q3) (w1 := w1) (w1' := w1.alloc (.cells #[.int .i64 x, .string ⟨tx⟩] 74 (0, 0))) HB1.out rfl ((Below.refl _ _).alloc (Nat.le_refl _) _) (by rw [HLK.out]; exact hown3) hg3 (by
              rcases hat3 with h | h
              · left; rw [← h]; rfl
              · right; simp [Value.ownBlock] at h; omega)
            rw [HLK.out] at h
            rw [txtTm_take hltq, ← HT.out, ← HX.out, ← HTX.out]
            exact h
          have HNX := Lib.hid NX
          have BB := Lib.hid (((below_step HB.out HB1.out).alloc hszr (.cells #[.int .i64 x, .string ⟨tx⟩] 74 (0, 0))).grown hg3 (by simp; omega) (fun q e => by have := (HOWN.out.lt q e).1; omega))
          clear NX hown3 hg3 hnil3 hat3
          exact ⟨⟨k + 1, some ⟨g3, 0, none⟩, q3, _, by omega, by simp, by go_num, rfl, fun i h hi => by
              by_cases e : i = k
              · subst e; rw [← HT.out]; exact HBV.out
              · exact HSM.out i h (by omega), HNX.out, BB.out⟩, by simp [intOf]; omega⟩
      · have hkn : k = n := by omega
        have HO : Hid (outOf qs = some qs) := Lib.hid (by
          rw [outOf, if_pos (bounded_yes (by have := HNN.out; omega) (fun i hi => HSM.out i hi (by have := HNN.out; omega)))])
        obtain ⟨gv, rfl, _⟩ := owns_addr HROW.out.own HVA.out
        have hRT := row_terms HROW.out
        rw [HLK.out, hkn, HNN.out, List.take_length] at hRT
        have HRT := Lib.hid hRT
        have HKN : Hid (k = qs.length) := Lib.hid (by have := HNN.out; omega)
        clear hRT
        go_wp2_with fail
        go_ret2
        obtain ⟨h1, ⟨cur, h2, h3⟩, h4⟩ := HRT.out
        exact ⟨HB.out, .inr ⟨qs, gv, vc, cur, HO.out, by rw [← HKN.out]; rfl, h1, h2, h3, h4⟩⟩
  · have HO : Hid (outOf qs = none) := Lib.hid (by rw [outOf, bounded_long (by have := HNN.out; omega)]; rfl)
    go_enter Tryz.func42, Tryz.ntmps42
    go_wp2_with fail
    go_ret2
    exact ⟨(Below.refl _ _).alloc (Nat.le_refl _) _, .inl ⟨HO.out, _, _, rfl⟩⟩

set_option maxRecDepth 100000 in
set_option maxHeartbeats 4000000 in
theorem sSumOfA_any (xs : List (Int × ByteArray)) (n : Nat) (hnx : n = xs.length) (g cap : Nat) (w : World) (hn : n ≤ 1048576) (hz : ∀ j (h : j < xs.length), (xs[j]).2.size ≤ 1048576) (hl : TermL w g xs) :
    Calls Tryz.prog 22 #[.slice (some ⟨g, 0, none⟩) n cap] w (TermsPostA (ofList xs) w) := by
  have HL := Lib.hid hl
  have HZ := Lib.hid hz
  have HNN := Lib.hid hnx
  clear hl hz hnx
  go_enter Tryz.func22, Tryz.ntmps22
  go_wp2_with fail
  go_loopw [4, 5, 6] (fun ov lv iv wr => ∃ (ps : List Tm) (k L gq c : Nat), k = ps.length ∧ k ≤ n ∧ (0 < k → n ≤ 60) ∧ iv = .int .i64 k ∧ lv = .int .i64 L ∧ (∀ h : 0 < ps.length, L = (ps[0]).2.leaves) ∧ ov = .slice (some ⟨gq, 0, none⟩) (canon ps).length c ∧ (canon ps).length ≤ c ∧ c ≤ 9223372036854775807 ∧ Rd tmS wr (fun _ => True) (some ⟨gq, 0, none⟩) (canon ps) ∧ rdAll (-1000000) 1000000 false (xs.take k) = some ps ∧ Below w.heap.size w wr) (fun _ _ iv _ => n - (intOf iv).toNat)
  case atStart => exact ⟨[], 0, 0, w.heap.size, 0, rfl, Nat.zero_le _, fun h => by omega, rfl, rfl, fun h => by simp at h, rfl, Nat.zero_le _, by omega, Rd.nil, rfl, (Below.refl _ _).alloc (Nat.le_refl _) _⟩
  case round =>
    obtain ⟨ps, k, L, gq, cq, hkp, hk, h60, rfl, rfl, hL, rfl, hq1, hq2, hrq, hrd, hB⟩ := hrel
    have HKP := Lib.hid hkp
    have HRD := Lib.hid hrd
    have HRQ := Lib.hid hrq
    have HLL := Lib.hid hL
    have HB := Lib.hid hB
    have HOK := Lib.hid (rdAll_ok _ _ _ rfl hrd).2.1
    have H60 := Lib.hid h60
    obtain ⟨nc, hnc⟩ : ∃ nc, nc = (canon ps).length := ⟨_, rfl⟩
    have HNC := Lib.hid hnc
    have hncb : nc ≤ k := by rw [hnc, hkp]; exact canon_length ps
    rw [← hnc] at hq1
    rw [← hnc]
    clear hrq hrd hL h60 hnc
    by_cases hlt : k < n
    · have hltx : k < xs.length := by rw [← HNN.out]; exact hlt
      obtain ⟨c0, c1⟩ := (HL.out.below hB) k hltx
      have hzk := HZ.out k hltx
      obtain ⟨s, hs⟩ : ∃ s, s = (xs[k]).2 := ⟨_, rfl⟩
      obtain ⟨x, hx⟩ : ∃ x, x = (xs[k]).1 := ⟨_, rfl⟩
      rw [← hs] at c1 hzk
      rw [← hx] at c0
      have HS := Lib.hid hs
      have HX := Lib.hid hx
      have HP := Lib.hid (fun w => l1Parse_any s w (by omega))
      clear hkp hB hs hx
      go_wp2_with fail
      refine (HP.out _).mono ?_
      rintro e w1 ⟨hB1, lb, sa, sn, sc, b, rfl, hres⟩
      have HB1 := Lib.hid hB1
      have HA1 : Hid (Below w1.heap.size w1 (w1.alloc (.cells #[.string lb, .slice sa sn sc] 52 (0, 0)))) := Lib.hid ((Below.refl _ _).alloc (Nat.le_refl _) _)
      have HBA := Lib.hid (below_step (below_step HB.out hB1) HA1.out)
      have d0 := keep1 HA1.out (keep1 hB1 c0)
      have hx0 := heap_alloc_new w1 (.cells #[.string lb, .slice sa sn sc] 52 (0, 0))
      obtain ⟨x0, x1, _, _⟩ := two_cells hx0
      clear hB1 hx0
      rcases hres with ⟨hno, rfl⟩ | ⟨t, hyes, rfl, hrep⟩
      · have HN : Hid (ofList xs = none) := Lib.hid (by
          have h : termsOf (-1000000) 1000000 xs = none := by
            rw [termsOf, rd_no_tree hltx (by rw [← HS.out]; exact hno)]; split <;> rfl
          rw [ofList, h])
        clear hno
        go_wp2_with fail
        go_ret2
        exact ⟨HBA.out.alloc HBA.out.size _, .inl ⟨HN.out, _, _, rfl⟩⟩
      · have HY := Lib.hid hyes
        obtain ⟨hw, htx, htl, htn⟩ := parse_some hyes
        have HBW := Lib.hid (below_step (Below.refl wr.heap.size wr) (below_step HB1.out HA1.out))
        have HTR := Lib.hid ((hrep.keep (w' := w1) (P' := fun _ => True) (fun _ _ _ h => h) (fun _ _ _ => trivial) hw).below hw HA1.out)
        clear hyes hrep htx
        go_upto_region 7 with fail
        go_cut [50] from 25 to 50 (fun bv wx => ∃ b : Bool, bv = .bool b ∧ b = (!(fits (-1000000) 1000000 false ps x t) || decide (60 < n)) ∧ Below (w1.alloc (.cells #[.string lb, .slice sa sn sc] 52 (0, 0))).heap.size (w1.alloc (.cells #[.string lb, .slice sa sn sc] 52 (0, 0))) wx)
        case first =>
          obtain ⟨l, hl⟩ : ∃ l, l = t.leaves := ⟨_, rfl⟩
          have HLT := Lib.hid (fun (W : World) (hb : Below (w1.alloc (.cells #[.string lb, .slice sa sn sc] 52 (0, 0))).heap.size (w1.alloc (.cells #[.string lb, .slice sa sn sc] 52 (0, 0))) W) => l1Leaves_any _ t _ _ W _ (Nat.le_refl _) hw (by omega) (HTR.out.below hw hb))
          have HLT2 : Hid (∀ (W : World), Below (w1.alloc (.cells #[.string lb, .slice sa sn sc] 52 (0, 0))).heap.size (w1.alloc (.cells #[.string lb, .slice sa sn sc] 52 (0, 0))) W → Calls Tryz.prog 40 #[.agg #[.string lb, .slice sa sn sc]] W fun e w' => e = .returned (.int .i64 (l : Int)) ∧ Below W.heap.size W w') := Lib.hid (by rw [hl]; exact HLT.out)
          have HFH : Hid (0 < k → fitsHd ps t = decide (l = L)) := Lib.hid (fun h => by
            have hp0 : 0 < ps.length := by have := HKP.out; omega
            rw [fitsHd_get hp0, hl, HLL.out hp0])
          have HF0 : Hid (k = 0 → fitsHd ps t = true) := Lib.hid (fun h => by
            have hps : ps = [] := List.length_eq_zero_iff.1 (by have := HKP.out; omega)
            subst hps; rfl)
          have HDN : Hid ((decide ((60 : Int) < (n : Int))) = decide (60 < n)) := Lib.hid (decide_eq_decide.2 (by omega))
          clear HLT hl
          by_cases hin : -1000000 ≤ x ∧ x ≤ 1000000
          · have HIN : Hid (∀ w, Calls Tryz.prog 39 #[.int .i64 x, .int .i64 (-1000000), .int .i64 1000000] w fun e w' => e = .returned (.bool true) ∧ w = w') := Lib.hid (fun w => by
              have := l6In_any x (-1000000) 1000000 w
              rw [decide_eq_true hin] at this
              exact this)
            have HXI := Lib.hid hin
            clear hin
            by_cases hk0 : k = 0
            · have hd : decide (0 < k) = false := decide_eq_false (by omega)
              have HK0 := Lib.hid hk0
              clear hk0
              have HFT : Hid (fits (-1000000) 1000000 false ps x t = true) := Lib.hid (by
                rw [fits, decide_eq_true HXI.out.1, decide_eq_true HXI.out.2, HF0.out HK0.out]; rfl)
              go_wp2_with (go_at_call 39; refine (HIN.out _).mono ?_; rintro e w' ⟨rfl, rfl⟩)
              go_meet
              exact ⟨_, rfl, by rw [HFT.out, HDN.out]; rfl, Below.refl _ _⟩
            · have hd : decide (0 < k) = true := decide_eq_true (by omega)
              have HK0 := Lib.hid hk0
              clear hk0
              by_cases hLl : l = L
              · have HFT : Hid (fits (-1000000) 1000000 false ps x t = true) := Lib.hid (by
                  rw [fits, decide_eq_true HXI.out.1, decide_eq_true HXI.out.2, HFH.out (by have := HK0.out; omega), decide_eq_true hLl]; rfl)
                have hb2 : ((l : Int) != (L : Int)) = false := by simp [hLl]
                subst hLl
                go_wp2_with (go_at_call 39; refine (HIN.out _).mono ?_; rintro e w' ⟨rfl, rfl⟩)
                go_at_call 40
                refine (HLT2.out _ (Below.refl _ _)).mono ?_
                rintro e w2 ⟨rfl, hB2⟩
                have HC1 := Lib.hid hB2
                clear hB2
                all_goals
                  go_wp2_with fail
                  go_meet
                  exact ⟨_, rfl, by rw [HFT.out, HDN.out]; rfl, HC1.out⟩
              · have HFT : Hid (fits (-1000000) 1000000 false ps x t = false) := Lib.hid (by
                  rw [fits, HFH.out (by have := HK0.out; omega), decide_eq_false hLl]; simp)
                have hb2 : ((l : Int) == (L : Int)) = false := beq_false_of_ne (by omega)
                go_wp2_with (go_at_call 39; refine (HIN.out _).mono ?_; rintro e w' ⟨rfl, rfl⟩)
                go_at_call 40
                refine (HLT2.out _ (Below.refl _ _)).mono ?_
                rintro e w2 ⟨rfl, hB2⟩
                have HC1 := Lib.hid hB2
                clear hB2
                all_goals
                  go_wp2_with fail
                  go_meet
                  exact ⟨_, rfl, by rw [HFT.out]; rfl, HC1.out⟩
          · have HIN : Hid (∀ w, Calls Tryz.prog 39 #[.int .i64 x, .int .i64 (-1000000), .int .i64 1000000] w fun e w' => e = .returned (.bool false) ∧ w = w') := Lib.hid (fun w => by
              have := l6In_any x (-1000000) 1000000 w
              rw [decide_eq_false hin] at this
              exact this)
            have HFT : Hid (fits (-1000000) 1000000 false ps x t = false) := Lib.hid (by
              rw [fits, ← Bool.decide_and, decide_eq_false hin]; rfl)
            clear hin
            go_wp2_with (go_at_call 39; refine (HIN.out _).mono ?_; rintro e w' ⟨rfl, rfl⟩)
            go_meet
            exact ⟨_, rfl, by rw [HFT.out]; rfl, Below.refl _ _⟩
        case rest =>
          obtain ⟨b, rfl, hb, hBc⟩ := hcut
          have HBC := Lib.hid hBc
          have HBX := Lib.hid (below_step HBW.out hBc)
          have d0' := keep1 hBc d0
          have x0' := keep1 hBc x0
          have x1' := keep1 hBc x1
          have HTX := Lib.hid (HTR.out.below hw hBc)
          have HRQ2 := Lib.hid (HRQ.out.below (by decide) (below_step HBW.out hBc))
          clear d0 x0 x1 hBc
          by_cases hbt : b = true
          · have HN : Hid (ofList xs = none) := Lib.hid (by
              rw [hbt] at hb
              have h : termsOf (-1000000) 1000000 xs = none := by
                rw [termsOf]
                split
                · rfl
                · next h60' =>
                  refine rd_no_fit hltx HRD.out (by rw [← HS.out]; exact HY.out) ?_
                  rw [← HX.out]
                  rw [decide_eq_false (by have := HNN.out; omega : ¬ 60 < n), Bool.or_false] at hb
                  simpa using hb.symm
              rw [ofList, h])
            subst hbt
            clear hb
            go_wp2_with fail
            go_ret2
            exact ⟨(below_step HB.out HBX.out).alloc (below_step HB.out HBX.out).size _, .inl ⟨HN.out, _, _, rfl⟩⟩
          · have hbf : b = false := by simpa using hbt
            have HFB : Hid (fits (-1000000) 1000000 false ps x t = true ∧ n ≤ 60) := Lib.hid (by
              rw [hbf] at hb
              have h := hb.symm
              rw [Bool.or_eq_false_iff] at h
              exact ⟨by simpa using h.1, by have := of_decide_eq_false h.2; omega⟩)
            subst hbf
            clear hb hbt
            obtain ⟨l, hl⟩ : ∃ l, l = t.leaves := ⟨_, rfl⟩
            have HLL2 := Lib.hid hl
            have HLT : Hid (Calls Tryz.prog 40 #[.agg #[.string lb, .slice sa sn sc]] wc fun e w' => e = .returned (.int .i64 (l : Int)) ∧ Below wc.heap.size wc w') := Lib.hid (by rw [hl]; exact l1Leaves_any _ t _ _ wc _ (Nat.le_refl _) hw (by omega) HTX.out)
            clear hl
            go_wp2_with (go_at_call 40; refine HLT.out.mono ?_; rintro e w2 ⟨rfl, hB2⟩)
            have HB2 := Lib.hid hB2
            have c0 := keep1 hB2 d0'
            have p0 := keep1 hB2 x0'
            have p1 := keep1 hB2 x1'
            clear hB2 d0' x0' x1'
            have hsW : w.heap.size ≤ w2.heap.size := Nat.le_trans HB.out.size (Nat.le_trans HBX.out.size HB2.out.size)
            have HTB := Lib.hid (HTX.out.below hw HB2.out)
            have HRB := Lib.hid (HRQ2.out.below (by decide) HB2.out)
            have HX4 : Hid (-1000000 ≤ x ∧ x ≤ 1000000) := Lib.hid (by
              have h := HFB.out.1
              simp only [fits, Bool.and_eq_true, decide_eq_true_eq] at h
              exact ⟨h.1.1.1, h.1.1.2⟩)
            have htr : ∀ p ∈ ps, p.2.wf ∧ p.2.leaves ≤ 1000 ∧ p.2.nodes ≤ 1000 := fun p hp => by
              have h := HOK.out.tree p hp
              exact ⟨h.1, by omega, by omega⟩
            have HTRC := Lib.hid (canon_tree htr)
            have HNF := Lib.hid (NF.canon (fun p hp => (htr p hp).1))
            have HAD := Lib.hid (fun (W : World) (hb : Below w2.heap.size w2 W) => l3Add_any (canon ps) nc HNC.out gq cq x t lb sa sn sc W hq1 hq2 (by have := HFB.out.2; omega) (fun p hp => ⟨(HTRC.out p hp).2.1, (HTRC.out p hp).2.2, by have := HNF.out.2 p hp; omega, by have := HNF.out.2 p hp; omega⟩) hw (by omega) (by omega) (by have := HX4.out; omega) (by have := HX4.out; omega) (HRB.out.below (by decide) hb) (HTB.out.below hw hb))
            clear htr
            go_wp2_with fail
            go_region_held3 (fun w' => w'.cell? ⟨w1.heap.size, 0, none⟩ = some (.string lb) ∧ w'.cell? ⟨w1.heap.size, 1, none⟩ = some (.slice sa sn sc) ∧ w'.cell? ⟨g, k * 2, none⟩ = some (.int .i64 x))
              (first | exact ⟨p0, p1, c0⟩ | exact ⟨q0, q1, r0⟩)
              (first
              | (go_at_call 41; refine (HAD.out _ (Below.refl _ _).drew).mono ?_; rintro e w3 ⟨hB3, g3, cp3, rfl, hq3, hq4, hr3⟩; have hB3' : Below w2.heap.size w2 w3 := (Below.refl _ _).drew.trans hB3; have q0 := keep1 hB3' p0; have q1 := keep1 hB3' p1; have r0 := keep1 hB3' c0; have HC1 := Lib.hid hB3'; have HR3 := Lib.hid hr3; clear hB3 hB3' hr3))
            all_goals
              go_wp2_with fail
              go_roundw
              case rel => exact ⟨ps ++ [(x, t)], k + 1, l, g3, cp3, by rw [List.length_append]; have := HKP.out; simp; omega, by omega, fun _ => HFB.out.2, by go_num, rfl, (fun h => by
                  have hl := HLL2.out
                  rw [hl]
                  by_cases hp0 : 0 < ps.length
                  · rw [List.getElem_append_left hp0]
                    have h := HFB.out.1
                    simp only [fits, Bool.and_eq_true, decide_eq_true_eq] at h
                    have h2 := h.1.2
                    rw [fitsHd_get hp0] at h2
                    exact of_decide_eq_true h2
                  · have hps : ps = [] := List.length_eq_zero_iff.1 (by omega)
                    subst hps; rfl), by rw [canon_snoc], by rw [canon_snoc]; exact hq3, hq4, by rw [canon_snoc]; exact HR3.out, (by
                  have := rd_fit hltx HRD.out (by rw [← HS.out]; exact HY.out) (by rw [← HX.out]; exact HFB.out.1)
                  rw [← HX.out] at this
                  exact this), below_step HB.out (below_step HBX.out (below_step HB2.out HC1.out))⟩
              case measure => simp [intOf]; omega
    · have hkn : k = n := by omega
      have hn60 : n ≤ 60 := by
        rcases Nat.eq_zero_or_pos k with h | h
        · omega
        · exact H60.out h
      have hte : termsOf (-1000000) 1000000 xs = some ps := by
        have h := HRD.out
        rw [List.take_of_length_le (by have := HNN.out; omega)] at h
        rw [termsOf, if_neg (by have := HNN.out; omega), h]
      have HO : Hid (ofList xs = outOf (canon ps)) := Lib.hid (by rw [ofList, hte])
      have htr : ∀ p ∈ ps, p.2.wf ∧ p.2.leaves ≤ 1000 ∧ p.2.nodes ≤ 1000 := fun p hp => by
        have h := HOK.out.tree p hp
        exact ⟨h.1, by omega, by omega⟩
      have HW := Lib.hid (l3WriteA_any (canon ps) nc HNC.out gq cq wr (by omega) (fun p hp => by
        have h := canon_tree htr p hp
        exact ⟨h.2.1, h.2.2⟩) HRQ.out)
      have hBz := HB.out.size
      clear hte htr hB
      go_wp2_with fail
      refine HW.out.mono ?_
      rintro e w1 ⟨hB1, hres⟩
      have HBA := Lib.hid (below_step HB.out hB1)
      rcases hres with ⟨hno, a3, c3, rfl⟩ | ⟨qs, g3, c3, cur, hyes, rfl, hg3, hcur, hcs, hl3⟩
      · have HQ : Hid (ofList xs = none) := Lib.hid (by rw [HO.out, hno])
        clear hno
        go_wp2_with fail
        go_ret2
        exact ⟨HBA.out, .inl ⟨HQ.out, _, _, rfl⟩⟩
      · have HQ : Hid (ofList xs = some qs) := Lib.hid (by rw [HO.out, hyes])
        have HRES : Hid (wr.heap.size ≤ g3 ∧ w1.heap[g3]? = some (.cells cur 74 (0, 0)) ∧ qs.length * 2 ≤ cur.size ∧ TermL w1 g3 (txtTm qs)) := Lib.hid ⟨hg3, hcur, hcs, hl3⟩
        clear hyes hcur hcs hl3
        go_wp2_with fail
        go_ret2
        obtain ⟨h1, h2, h3, h4⟩ := HRES.out
        exact ⟨HBA.out, .inr ⟨qs, g3, c3, cur, HQ.out, rfl, Nat.le_trans HB.out.size h1, h2, h3, h4⟩⟩

end Go.Proofs.YtapobhnhnldlkaaGreat
end
section
/- Pairings go both ways: FnPair. -/
namespace Go.Proofs.YtapobhnhnldlkaaGreat
open Go.RowKit

/-- Terms of quadratic trees are drawn. -/
def QuadDr (R : Nat) (a : Option Addr) (cap : Nat) (bs : List Nat) (p : Nat) (w : World) (e : Ending) (w' : World) : Prop :=
  w.grownBy w' (some R) ∧ ∃ (ys : List (Int × ByteArray)) (g n c q : Nat), e = .returned (.slice (some ⟨g, 0, none⟩) n c) ∧ n = ys.length ∧ n ≤ 60 ∧ TmSmall ys ∧ TermL w' g ys ∧ (n = 0 ∨ w.heap.size ≤ g) ∧ RdR w' R a cap bs q ∧ q ≤ p + 20

theorem lies_not_reader {w : World} {R : Nat} {a : Option Addr} {cap p : Nat} {bs : List Nat} {b : Nat} {s : ByteArray} (h : RdR w R a cap bs p) (hc : w.cell? ⟨b, 0, none⟩ = some (.string s)) : b ≠ R := fun e => by
  subst e
  rw [h.cells.1] at hc
  cases hc

theorem TxG.moved {w w' : World} {R : Nat} {a : Option Addr} {cap p : Nat} {bs : List Nat} {g : Nat} {ss : List ByteArray} (h : TxG w g ss) (hr : RdR w R a cap bs p) (hg : w.grownBy w' (some R)) : TxG w' g ss := fun j hj => by
  have hne := lies_not_reader hr (h 0 (by omega))
  have hc := h j hj
  rw [World.cell?_of_block (hg.block g (World.block_lt_of_cell? w _ hc) (fun e => hne (by simp only [Option.some.injEq] at e; exact e)))]
  exact hc

theorem Lies.moved {w w' : World} {R : Nat} {a : Option Addr} {cap p : Nat} {bs : List Nat} {x : Option Addr} {ps : List (List UInt8)} (h : Lies w x ps) (hr : RdR w R a cap bs p) (hg : w.grownBy w' (some R)) : Lies w' x ps := fun j hj => by
  obtain ⟨g0, e0, hc0⟩ := h 0 (by omega)
  obtain ⟨g, e, hc⟩ := h j hj
  have hgg : g = g0 := by rw [e0] at e; simp only [Option.some.injEq, Addr.mk.injEq] at e; exact e.1.symm
  subst hgg
  have hne := lies_not_reader hr hc0
  exact ⟨g, e, by
    rw [World.cell?_of_block (hg.block g (World.block_lt_of_cell? w _ hc) (fun e => hne (by simp only [Option.some.injEq] at e; exact e)))]
    exact hc⟩

theorem quadTx_small (ss : List ByteArray) : ∀ j (h : j < (quadTx ss).length), ((quadTx ss)[j]).length ≤ 2000 := by
  intro j h
  have hm := List.getElem_mem h
  unfold quadTx at hm
  obtain ⟨t, ht, e⟩ := List.mem_map.1 hm
  cases hq : quadsOf ss with
  | none => rw [hq] at ht; simp at ht
  | some ts =>
    rw [hq] at ht
    obtain ⟨_, h2, h3⟩ := (quadsOf_ok hq).2.1 t ht
    have := text_length t
    have e2 : ((quadTx ss)[j]).length = t.text.length := congrArg List.length e.symm
    omega

theorem quadTx_some {ss : List ByteArray} (h : (quadsOf ss).isSome = true) : 0 < (quadTx ss).length ∧ (quadTx ss).length ≤ 18 := by
  cases hq : quadsOf ss with
  | none => rw [hq] at h; cases h
  | some ts =>
    have h1 := quads_pos hq
    have h2 := (quadsOf_ok hq).1
    rw [quadTx, hq]
    simp only [Option.getD_some, List.length_map]
    omega

set_option maxRecDepth 100000 in
set_option maxHeartbeats 2000000 in
theorem l91Quad_any (R : Nat) (a : Option Addr) (cap : Nat) (bs : List Nat) (p : Nat) (ss : List ByteArray) (n : Nat) (hns : n = ss.length) (ga ca : Nat) (w : World) (hn : n ≤ 3) (hz : ∀ j (h : j < ss.length), (ss[j]).size ≤ 1) (hl : TxG w ga ss) (hp : p ≤ 10000) (h : RdR w R a cap bs p) :
    Calls Tryz.prog 10 #[.pointer (some ⟨R, 0, none⟩), .slice (some ⟨ga, 0, none⟩) n ca] w (QuadDr R a cap bs p w) := by
  have hRw : R < w.heap.size := h.cells.2.2.2
  obtain ⟨i0, hi0, hzz, hzs, hzby⟩ := info_parts infoTm2
  have HQ := Lib.hid (sQuadTrees_any ss n hns ga ca w (by omega) (fun j hj => by have := hz j hj; omega) hl)
  obtain ⟨ps, hps⟩ : ∃ ps, ps = quadTx ss := ⟨_, rfl⟩
  obtain ⟨bq, hbq⟩ : ∃ bq, bq = (quadsOf ss).isSome := ⟨_, rfl⟩
  have HSM0 : Hid (∀ j (h : j < ps.length), (ps[j]).length ≤ 2000) := Lib.hid (by rw [hps]; exact quadTx_small ss)
  have HPOS : Hid (bq = true → 0 < ps.length ∧ ps.length ≤ 18) := Lib.hid (fun e => by rw [hps]; exact quadTx_some (by rw [← hbq]; exact e))
  rw [← hps, ← hbq] at HQ
  obtain ⟨L, hL⟩ : ∃ L, L = ps.length := ⟨_, rfl⟩
  have HLL := Lib.hid hL
  have HR0 := Lib.hid h
  clear hns hz hl hps hbq h hL
  go_enter Tryz.func10, Tryz.ntmps10
  go_wp2_with fail
  refine HQ.out.mono ?_
  rintro e w0 ⟨hB0, a1, c1, rfl, hlies⟩
  rw [← HLL.out]
  have hs0 := hB0.size
  have HA1 : Hid (∀ gx, a1 = some ⟨gx, 0, none⟩ → 0 < ps.length → gx < w0.heap.size) := Lib.hid (fun gx e h0 => by
    obtain ⟨g', e', hc⟩ := hlies 0 h0
    rw [e] at e'
    cases e'
    exact World.block_lt_of_cell? _ _ hc)
  have hr0 := HR0.out.grown (row := none) hB0.grownBy (fun _ e => by cases e)
  have hb1 : Below w0.heap.size w0 (w0.alloc (.cells #[] 74 (0, 0))) := (Below.refl _ _).alloc (Nat.le_refl _) _
  have hr1 := hr0.grown (row := none) hb1.grownBy (fun _ e => by cases e)
  have HG1 : Hid (w.grownBy (w0.alloc (.cells #[] 74 (0, 0))) (some R)) := Lib.hid (grownBy_below (grownBy_below (grownBy_refl w (some R)) hB0) hb1)
  have HO1 : Hid ((w0.alloc (.cells #[] 74 (0, 0))).ownsRow w0.heap.size 74 2 (.slice (some ⟨w0.heap.size, 0, none⟩) 0 0) 0 (flatT [])) := Lib.hid (World.ownsRow_made w0 #[] 0 (Nat.le_refl _) (by simp [maxLen]) rfl)
  have HLI1 := Lib.hid (hlies.below hb1)
  have HRR1 := Lib.hid hr1
  have HP1 := Lib.hid (pick_any R a cap p 4 bs _ hr1 (by omega) (by omega) (by omega))
  have hRw0 : R < w0.heap.size := by omega
  clear hB0 hlies hr0 hr1 hb1
  go_wp2_with fail
  refine HP1.out.mono ?_
  rintro e w1 ⟨⟨k0, hk0, rfl⟩, hg1, hs1, hr1⟩
  have HG2 := Lib.hid (grownBy_trans HG1.out hg1)
  have HO2 := Lib.hid (owns_kept_some HO1.out hg1 hRw0)
  have HLI2 := Lib.hid (HLI1.out.moved HRR1.out hg1)
  have HR2 := Lib.hid hr1
  clear hg1 hs1 hr1
  go_wp2_with fail
  go_loopw [7, 9] (fun lv iv wr => ∃ (ys : List (Int × ByteArray)) (k g vc q : Nat), k = ys.length ∧ k ≤ 1 + k0 ∧ iv = .int .i64 k ∧ lv = .slice (some ⟨g, 0, none⟩) k vc ∧ wr.ownsRow w0.heap.size 74 2 (.slice (some ⟨g, 0, none⟩) k vc) k (flatT ys) ∧ RdR wr R a cap bs q ∧ q ≤ p + 1 + k * 2 ∧ TmSmall ys ∧ w.grownBy wr (some R) ∧ Lies wr a1 ps) (fun _ iv _ => 1 + k0 - (intOf iv).toNat)
  case atStart => exact ⟨[], 0, w0.heap.size, 0, p + 1, rfl, by omega, rfl, rfl, HO2.out, HR2.out, by omega, fun j hj => by simp at hj, HG2.out, HLI2.out⟩
  case round =>
    obtain ⟨ys, k, g, vc, q, hky, hk, rfl, rfl, hown, hr, hq, hsm, hgw, hli⟩ := hrel
    have HKY := Lib.hid hky
    have HOWN := Lib.hid hown
    have HR := Lib.hid hr
    have HSM := Lib.hid hsm
    have HGW := Lib.hid hgw
    have HLI := Lib.hid hli
    have hwr := hgw.size
    clear hky hown hsm hgw hli hr
    by_cases hlt : k < 1 + k0 ∧ bq = true
    · obtain ⟨hlt, hbt⟩ := hlt
      have hpos := HPOS.out hbt
      rw [← HLL.out] at hpos
      subst hbt
      have hltz : (k : Int) < 1 + (k0 : Int) := by omega
      have HP2 := Lib.hid (pick_any R a cap q 7 bs wr HR.out (by omega) (by omega) (by omega))
      go_wp2_with fail
      refine HP2.out.mono ?_
      rintro e w2 ⟨⟨x, hx, rfl⟩, hg2, hs2, hr2⟩
      obtain ⟨z, hz⟩ : ∃ z : Int, z = (x : Int) - 3 := ⟨_, rfl⟩
      have hwz : IntKind.i64.wrap ((x : Int) - 3) = z := by rw [IntKind.wrap_i64]; omega
      have hzb : -100 ≤ z ∧ z ≤ 100 := by omega
      have HG2 := Lib.hid (grownBy_trans HGW.out hg2)
      have HOWN2 := Lib.hid (owns_kept_some HOWN.out hg2 hRw0)
      have HLI2 := Lib.hid (HLI.out.moved HR.out hg2)
      have HR2 := Lib.hid hr2
      have HP3 := Lib.hid (pick_any R a cap (q + 1) L bs w2 hr2 (by omega) (by omega) (by omega))
      clear hg2 hs2 hr2 hz
      go_wp2_with fail
      refine HP3.out.mono ?_
      rintro e w3 ⟨⟨y, hy, rfl⟩, hg3, hs3, hr3⟩
      have HG3 := Lib.hid (grownBy_trans HG2.out hg3)
      have HOWN3 := Lib.hid (owns_kept_some HOWN2.out hg3 hRw0)
      have HLI3 := Lib.hid (HLI2.out.moved HR2.out hg3)
      have HR3 := Lib.hid hr3
      have hyp : y < ps.length := by rw [← HLL.out]; exact hy
      obtain ⟨gt, ea, ct⟩ := HLI3.out y hyp
      have hsz := HSM0.out y hyp
      obtain ⟨s, hs⟩ : ∃ s : ByteArray, s = ⟨(ps[y]).toArray⟩ := ⟨_, rfl⟩
      have hss : s.size ≤ 2000 := by rw [hs]; change (ps[y]).toArray.size ≤ 2000; simpa using hsz
      rw [← hs] at ct
      subst ea
      have hw3 := HG3.out.size
      have HOA := Lib.hid (World.ownsRow.alloc HOWN3.out (.cells #[.int .i64 z, .string s] 74 (0, 0)))
      have hw3b : w0.heap.size ≤ w3.heap.size := by have := (HOWN3.out.lt g rfl).2; have := (HOWN3.out.lt g rfl).1; omega
      clear hg3 hs3 hr3 hs hsz
      go_wp2_with (at_builtin; refine wpList_append_own_at _ rfl _ _ 24 rfl w0.heap.size 74 i0 (.agg #[.int .i64 0, .string ⟨#[]⟩]) 2 24 Tryz.underlying24 hi0 hzz hzs hzby rfl (by decide) (.slice (some ⟨g, 0, none⟩) k vc) k (flatT ys) rfl HOA.out ⟨w3.heap.size, 0, none⟩ 1 1 [.int .i64 z, .string s] rfl rfl (cells_two (by simp) _ _) (by simp [Value.oneCell']) (by unfold maxLen; omega) (by omega) (by simp; omega) ?_; intro v3 w6 hown3 hg6 hnil3 hat3)
      obtain ⟨g3, q9, rfl, _, _, _⟩ := owns_some hown3 (fun e => by have := hnil3.1 e; simp at this)
      have ha4 : Below w3.heap.size w3 (w3.alloc (.cells #[.int .i64 z, .string s] 74 (0, 0))) := (Below.refl _ _).alloc (Nat.le_refl _) _
      have HO6 : Hid (w6.ownsRow w0.heap.size 74 2 (.slice (some ⟨g3, 0, none⟩) (k + 1) q9) (k + 1) (flatT (ys ++ [(z, s)]))) := Lib.hid (by rw [flatT_snoc]; exact hown3)
      have HR6 := Lib.hid ((HR3.out.grown (grownBy_below (grownBy_refl _ none) ha4) (fun _ e => by cases e)).grown hg6 (fun r e => by have := (HOWN3.out.lt r e).1; omega))
      have HG6 := Lib.hid (grownBy_over (grownBy_below HG3.out ha4) hg6 (fun r e => by have := (HOWN3.out.lt r e).1; omega))
      have HS6 := Lib.hid (HSM.out.snoc (y := (z, s)) hss hzb.1 hzb.2)
      have HLI6 : Hid (Lies w6 (some ⟨gt, 0, none⟩) ps) := Lib.hid (fun j hj => by
        obtain ⟨gj, ej, hc⟩ := (HLI3.out.below ha4) j hj
        refine ⟨gj, ej, ?_⟩
        have hlt := World.block_lt_of_cell? _ _ hc
        have hne : some gj ≠ (Value.slice (some ⟨g, 0, none⟩) k vc).ownBlock := fun e => by
          simp only [Value.ownBlock, Option.some.injEq] at e
          simp only [Option.some.injEq, Addr.mk.injEq] at ej
          have h1 := HA1.out gt rfl (by omega)
          have h2 := (HOWN3.out.lt g rfl).1
          omega
        rw [World.cell?_of_block (hg6.block gj hlt hne)]
        exact hc)
      clear hown3 hg6 hnil3 hat3 ha4
      exact ⟨⟨ys ++ [(z, s)], k + 1, g3, q9, q + 1 + 1, by rw [List.length_append]; have := HKY.out; simp; omega, by omega, by go_num, rfl, HO6.out, HR6.out, by omega, HS6.out, HG6.out, HLI6.out⟩, by simp [intOf]; omega⟩
    · have hcase : (¬ (k : Int) < 1 + (k0 : Int)) ∨ ((k : Int) < 1 + (k0 : Int) ∧ bq = false) := by
        by_cases h1 : k < 1 + k0
        · exact .inr ⟨by omega, by cases bq with
            | false => rfl
            | true => exact absurd ⟨h1, rfl⟩ hlt⟩
        · exact .inl (by omega)
      have HP3 := Lib.hid (pick_any R a cap q 24 bs wr HR.out (by omega) (by omega) (by omega))
      clear hlt
      rcases hcase with h1 | ⟨h1, rfl⟩
      all_goals
        go_wp2_with fail
        refine HP3.out.mono ?_
        rintro e w2 ⟨⟨x, hx, rfl⟩, hg2, hs2, hr2⟩
        have HG2 := Lib.hid (grownBy_trans HGW.out hg2)
        have HOWN2 := Lib.hid (owns_kept_some HOWN.out hg2 hRw0)
        have HR2 := Lib.hid hr2
        have hw2 := HG2.out.size
        have hgb := (HOWN2.out.lt g rfl).1
        have hw2b : w0.heap.size ≤ w2.heap.size := by have := (HOWN2.out.lt g rfl).2; omega
        clear hg2 hs2 hr2
        by_cases hx0 : x = 0
        · subst hx0
          obtain ⟨s, hs⟩ : ∃ s : ByteArray, s = ⟨#[40, 97, 32, 42, 32, 42, 41]⟩ := ⟨_, rfl⟩
          have hss : s.size ≤ 2000 := by rw [hs]; decide
          have HS := Lib.hid hs
          have HOA := Lib.hid (World.ownsRow.alloc HOWN2.out (.cells #[.int .i64 1, .string ⟨#[40, 97, 32, 42, 32, 42, 41]⟩] 74 (0, 0)))
          clear hs
          go_wp2_with (at_builtin; refine wpList_append_own_at _ rfl _ _ 24 rfl w0.heap.size 74 i0 (.agg #[.int .i64 0, .string ⟨#[]⟩]) 2 24 Tryz.underlying24 hi0 hzz hzs hzby rfl (by decide) (.slice (some ⟨g, 0, none⟩) k vc) k (flatT ys) rfl HOA.out ⟨w2.heap.size, 0, none⟩ 1 1 [.int .i64 1, .string ⟨#[40, 97, 32, 42, 32, 42, 41]⟩] rfl rfl (cells_two (by simp) _ _) (by simp [Value.oneCell']) (by unfold maxLen; omega) (by omega) (by simp; omega) ?_; intro v3 w6 hown3 hg6 hnil3 hat3)
          obtain ⟨g3, q9, rfl, _, _, hgb3⟩ := owns_some hown3 (fun e => by have := hnil3.1 e; simp at this)
          have ha4 : Below w2.heap.size w2 (w2.alloc (.cells #[.int .i64 1, .string ⟨#[40, 97, 32, 42, 32, 42, 41]⟩] 74 (0, 0))) := (Below.refl _ _).alloc (Nat.le_refl _) _
          have HO6 : Hid (w6.ownsRow w0.heap.size 74 2 (.slice (some ⟨g3, 0, none⟩) (k + 1) q9) (k + 1) (flatT (ys ++ [(1, s)]))) := Lib.hid (by rw [flatT_snoc, HS.out]; exact hown3)
          have HR6 := Lib.hid ((HR2.out.grown (grownBy_below (grownBy_refl _ none) ha4) (fun _ e => by cases e)).grown hg6 (fun r e => by have := (HOWN2.out.lt r e).1; omega))
          have HG6 := Lib.hid (grownBy_over (grownBy_below HG2.out ha4) hg6 (fun r e => by have := (HOWN2.out.lt r e).1; omega))
          have HS6 := Lib.hid (HSM.out.snoc (y := ((1 : Int), s)) hss (by omega) (by omega))
          have HK6 : Hid (k + 1 = (ys ++ [((1 : Int), s)]).length) := Lib.hid (by rw [List.length_append]; have := HKY.out; simp; omega)
          clear hown3 hg6 hnil3 hat3 ha4
          refine (sSumOfA_any (ys ++ [((1 : Int), s)]) (k + 1) HK6.out g3 q9 w6 (by omega) (fun j hj => by have := (HS6.out j hj).1; omega) (owns_termL HK6.out HO6.out)).mono ?_
          rintro e w7 ⟨hB7, ⟨hno, g7, c7, rfl⟩ | ⟨qs, g7, c7, cur, hyes, rfl, hg7, _, _, hl7⟩⟩
          · have HB7 := Lib.hid hB7
            clear hB7 hno
            go_wp2_with fail
            go_ret
            exact ⟨grownBy_below HG6.out HB7.out, [], g7, 0, c7, q + 1, rfl, rfl, by omega, fun j hj => by simp at hj, fun j hj => by simp at hj, .inl rfl, HR6.out.grown (grownBy_below (grownBy_refl _ none) HB7.out) (fun _ e => by cases e), by omega⟩
          · obtain ⟨h60, htr⟩ := ofList_ok hyes
            have HB7 := Lib.hid hB7
            have HL7 := Lib.hid hl7
            have HTR := Lib.hid (txt_small htr)
            obtain ⟨N, hN⟩ : ∃ N, N = qs.length := ⟨_, rfl⟩
            rw [← hN] at h60 ⊢
            have HNN : Hid (N = (txtTm qs).length) := Lib.hid (by rw [txtTm_length, hN])
            have hw6 := HG6.out.size
            clear hB7 hyes hl7 htr hN
            go_wp2_with fail
            go_ret
            exact ⟨grownBy_below HG6.out HB7.out, txtTm qs, g7, N, c7, q + 1, rfl, HNN.out, h60, HTR.out, HL7.out, .inr (by omega), HR6.out.grown (grownBy_below (grownBy_refl _ none) HB7.out) (fun _ e => by cases e), by omega⟩
        · have e1 : ((x : Int) == 0) = false := beq_false_of_ne (by omega)
          go_wp2_with fail
          refine (sSumOfA_any ys k HKY.out g vc w2 (by omega) (fun j hj => by have := (HSM.out j hj).1; omega) (owns_termL HKY.out HOWN2.out)).mono ?_
          rintro e w7 ⟨hB7, ⟨hno, g7, c7, rfl⟩ | ⟨qs, g7, c7, cur, hyes, rfl, hg7, _, _, hl7⟩⟩
          · have HB7 := Lib.hid hB7
            clear hB7 hno
            go_wp2_with fail
            go_ret
            exact ⟨grownBy_below HG2.out HB7.out, [], g7, 0, c7, q + 1, rfl, rfl, by omega, fun j hj => by simp at hj, fun j hj => by simp at hj, .inl rfl, HR2.out.grown (grownBy_below (grownBy_refl _ none) HB7.out) (fun _ e => by cases e), by omega⟩
          · obtain ⟨h60, htr⟩ := ofList_ok hyes
            have HB7 := Lib.hid hB7
            have HL7 := Lib.hid hl7
            have HTR := Lib.hid (txt_small htr)
            obtain ⟨N, hN⟩ : ∃ N, N = qs.length := ⟨_, rfl⟩
            rw [← hN] at h60 ⊢
            have HNN : Hid (N = (txtTm qs).length) := Lib.hid (by rw [txtTm_length, hN])
            clear hB7 hyes hl7 htr hN
            go_wp2_with fail
            go_ret
            exact ⟨grownBy_below HG2.out HB7.out, txtTm qs, g7, N, c7, q + 1, rfl, HNN.out, h60, HTR.out, HL7.out, .inr (by omega), HR2.out.grown (grownBy_below (grownBy_refl _ none) HB7.out) (fun _ e => by cases e), by omega⟩

/-- Letters and two lists of terms are drawn. -/
def DrPr (w : World) (e : Ending) (w' : World) : Prop :=
  Below w.heap.size w w' ∧ ∃ (ss : List ByteArray) (n g c : Nat) (xs ys : List (Int × ByteArray)) (gx m cx gy m' cy : Nat), e = .returned (.tuple #[.slice (some ⟨g, 0, none⟩) n c, .slice (some ⟨gx, 0, none⟩) m cx, .slice (some ⟨gy, 0, none⟩) m' cy]) ∧
    n = ss.length ∧ n ≤ 3 ∧ n ≤ c ∧ TxG w' g ss ∧ (∀ j (h : j < ss.length), (ss[j]).size ≤ 1) ∧ m = xs.length ∧ m ≤ 60 ∧ TmSmall xs ∧ TermL w' gx xs ∧ m' = ys.length ∧ m' ≤ 60 ∧ TmSmall ys ∧ TermL w' gy ys

set_option maxRecDepth 100000 in
set_option maxHeartbeats 1000000 in
theorem dQuadPair_any (bs : List Nat) (a : Option Addr) (cap : Nat) (w : World) (hn : bs.length ≤ 9223372036854775807) (hcap : bs.length ≤ cap) (h8 : ∀ z ∈ bs, z ≤ 255) (hl : LiesB w a bs) :
    Calls Tryz.prog 4 #[.slice a bs.length cap] w (DrPr w) := by
  have HO := Lib.hid (l6Open_any bs a cap w hn hcap h8 hl)
  clear hn hcap h8 hl
  go_enter Tryz.func4, Tryz.ntmps4
  go_wp2_with fail
  refine HO.out.mono ?_
  rintro e w1 ⟨rfl, hB1, hr⟩
  have HB1 := Lib.hid hB1
  have hlt := hr.cells.2.2.2
  have HL := Lib.hid (l91Letters_any w.heap.size a cap 0 _ w1 hr (by omega) hlt)
  clear hB1 hr
  go_wp2_with fail
  refine HL.out.mono ?_
  rintro e w2 ⟨⟨ss, g, c, rfl, h1, h2, h3, h4⟩, hg, hr2⟩
  have HB2 : Hid (Below w.heap.size w w2) := Lib.hid (HB1.out.grown hg HB1.out.size (fun q e => by simp only [Option.some.injEq] at e; omega))
  have H2 := Lib.hid h2
  have H4 := Lib.hid h4
  obtain ⟨n, hn⟩ : ∃ n, n = ss.length := ⟨_, rfl⟩
  have HN := Lib.hid hn
  rw [← hn] at h1 h3
  rw [← hn]
  have HQ := Lib.hid (l91Quad_any w.heap.size a cap _ (0 + 1) ss n hn g c w2 h3 h4 h2 (by omega) hr2)
  have HR2 := Lib.hid hr2
  clear h2 h4 hg hn hr2
  go_wp2_with fail
  refine HQ.out.mono ?_
  rintro e w3 ⟨hg3, xs, gx, m, cx, q3, rfl, hmx, hm60, hsx, hlx, hgx, hr3, hq3⟩
  have HB3 : Hid (Below w.heap.size w w3) := Lib.hid (HB2.out.grown hg3 HB2.out.size (fun q e => by simp only [Option.some.injEq] at e; omega))
  have H3 := Lib.hid (H2.out.moved HR2.out hg3)
  have HMX := Lib.hid hmx
  have HSX := Lib.hid hsx
  have HLX := Lib.hid hlx
  have HR3 := Lib.hid hr3
  have hRl := hr3.cells.2.2.2
  have HQ2 := Lib.hid (l91Quad_any w.heap.size a cap _ q3 ss n HN.out g c w3 h3 H4.out H3.out (by omega) hr3)
  have hs2 := HB2.out.size
  have hgxR : m = 0 ∨ gx ≠ w.heap.size := by
    rcases hgx with h | h
    · exact .inl h
    · have := HR2.out.cells.2.2.2
      exact .inr (by omega)
  have HGX := Lib.hid hgxR
  clear hg3 hmx hsx hlx hr3 hgx hgxR
  go_wp2_with fail
  refine HQ2.out.mono ?_
  rintro e w4 ⟨hg4, ys, gy, m', cy, q4, rfl, hmy, hm60', hsy, hly, hgy, hr4, hq4⟩
  have HB4 : Hid (Below w.heap.size w w4) := Lib.hid (HB3.out.grown hg4 HB3.out.size (fun q e => by simp only [Option.some.injEq] at e; omega))
  have H5 := Lib.hid (H3.out.moved HR3.out hg4)
  have HLX4 : Hid (TermL w4 gx xs) := Lib.hid (by
    rcases HGX.out with h | h
    · intro j hj
      have := HMX.out
      omega
    · exact HLX.out.moved hg4 h)
  have HMY := Lib.hid hmy
  have HSY := Lib.hid hsy
  have HLY := Lib.hid hly
  clear hg4 hmy hsy hly hr4 hgy
  go_wp2_with fail
  go_ret3
  exact ⟨HB4.out, ss, n, g, c, xs, ys, gx, m, cx, gy, m', cy, rfl, HN.out, h3, h1, H5.out, H4.out, HMX.out, hm60, HSX.out, HLX4.out, HMY.out, hm60', HSY.out, HLY.out⟩

set_option maxRecDepth 100000 in
set_option maxHeartbeats 2000000 in
theorem pPair_any (bs : List Nat) (a : Option Addr) (cap : Nat) (w : World) (hl : LiesB w a bs) (h8 : ∀ z ∈ bs, z ≤ 255) (hn : bs.length ≤ 9223372036854775807) (hcap : bs.length ≤ cap) :
    Calls Tryz.prog 3 #[.slice a bs.length cap] w (Ans (.bool true) w) := by
  by_cases h : bs.length ≤ 1048576
  case neg =>
    go_enter Tryz.func3, Tryz.ntmps3
    go_wp2_with fail
    go_ret
    exact ⟨rfl, Below.refl _ _⟩
  have HD := Lib.hid (dQuadPair_any bs a cap w hn hcap h8 hl)
  clear h8 hl
  go_enter Tryz.func3, Tryz.ntmps3
  go_wp2_with fail
  refine HD.out.mono ?_
  rintro e w1 ⟨hB1, ss, n, g, c, xs, ys, gx, m, cx, gy, m', cy, rfl, hns, hn3, hnc, htx, hss, hmx, hm60, hsx, hlx, hmy, hm60', hsy, hly⟩
  have HB1 := Lib.hid hB1
  have HNS := Lib.hid hns
  have HTX := Lib.hid htx
  have HSS : Hid (∀ j (h : j < ss.length), (ss[j]).size ≤ 1048576) := Lib.hid (fun j h => by have := hss j h; omega)
  have HMX := Lib.hid hmx
  have HSX := Lib.hid hsx.size
  have HLX := Lib.hid hlx
  have HMY := Lib.hid hmy
  have HSY := Lib.hid hsy.size
  have HLY := Lib.hid hly
  obtain ⟨v, hv⟩ : ∃ v, v = pairOf ss xs ys := ⟨_, rfl⟩
  have hv1 : v < 101 := by rw [hv]; exact pair_below
  have hv0 : -1 ≤ v := by rw [hv]; exact pair_low ss xs ys
  have HVV := Lib.hid hv
  have HI : Hid (∀ W, Below w1.heap.size w1 W → Calls Tryz.prog 5 #[.slice (some ⟨g, 0, none⟩) n c, .slice (some ⟨gx, 0, none⟩) m cx, .slice (some ⟨gy, 0, none⟩) m' cy] W (Ans (.int .i64 v) W)) := Lib.hid (fun W hb => by
    rw [hv]
    exact iQuadPair_any ss xs ys n m m' HNS.out HMX.out HMY.out g c gx cx gy cy W (by omega) hnc (by omega) (by omega) HSS.out HSX.out HSY.out (HTX.out.below hb) (HLX.out.below hb) (HLY.out.below hb))
  have HI2 : Hid (∀ W, Below w1.heap.size w1 W → Calls Tryz.prog 5 #[.slice (some ⟨g, 0, none⟩) n c, .slice (some ⟨gy, 0, none⟩) m' cy, .slice (some ⟨gx, 0, none⟩) m cx] W (Ans (.int .i64 v) W)) := Lib.hid (fun W hb => by
    rw [hv, pair_sym]
    exact iQuadPair_any ss ys xs n m' m HNS.out HMY.out HMX.out g c gy cy gx cx W (by omega) hnc (by omega) (by omega) HSS.out HSY.out HSX.out (HTX.out.below hb) (HLY.out.below hb) (HLX.out.below hb))
  have HS : Hid (∀ W, Below w1.heap.size w1 W → Calls Tryz.prog 6 #[.slice (some ⟨g, 0, none⟩) n c, .slice (some ⟨gx, 0, none⟩) m cx, .slice (some ⟨gy, 0, none⟩) m' cy] W (Ans (.int .i64 v) W)) := Lib.hid (fun W hb => by
    rw [hv]
    exact sQuadPair_any ss xs ys n m m' HNS.out HMX.out HMY.out g c gx cx gy cy W (by omega) (by omega) (by omega) HSS.out HSX.out HSY.out (HTX.out.below hb) (HLX.out.below hb) (HLY.out.below hb))
  clear hB1 hns htx hss hmx hsx hlx hmy hsy hly hv
  go_wp2_with fail
  refine (HI.out w1 (Below.refl _ _)).mono ?_
  rintro e w2 ⟨rfl, hB2⟩
  have A2 := Lib.hid hB2
  have HB2 := Lib.hid (below_step HB1.out hB2)
  clear hB2
  go_wp2_with fail
  refine (HS.out w2 A2.out).mono ?_
  rintro e w3 ⟨rfl, hB3⟩
  have A3 := Lib.hid (below_step A2.out hB3)
  have HB3 := Lib.hid (below_step HB2.out hB3)
  clear hB3
  by_cases hneg : v < 0
  · go_wp2_with fail
    go_ret
    exact ⟨rfl, HB3.out⟩
  · have hpos : 0 ≤ pairOf ss xs ys := by rw [← HVV.out]; omega
    obtain ⟨ps, hps⟩ := pair_sum hpos
    have hscl := (scl_told hps 2 (by omega) (by omega)).1
    have HSC := Lib.hid ((iSumScale_any ys m' HMY.out gy cy 2 w3 (by omega) HSY.out (HLY.out.below A3.out)).mono fun _ _ h => TermsPost.gotO hscl rfl rfl h)
    have HTW : Hid (pairOf ss xs (txtTm (canon (sclTm 2 ps))) = 2 * v % 101) := Lib.hid (by rw [HVV.out]; exact pair_twice hps hpos)
    have HSQ := Lib.hid (sum_size ⟨_, (scl_told hps 2 (by omega) (by omega)).2⟩)
    obtain ⟨N, hN⟩ : ∃ N, N = (canon (sclTm 2 ps)).length := ⟨_, rfl⟩
    have HNN : Hid (N = (txtTm (canon (sclTm 2 ps))).length) := Lib.hid (by rw [txtTm_length, hN])
    rw [← hN] at HSC
    obtain ⟨zs, hzs⟩ : ∃ zs, zs = txtTm (canon (sclTm 2 ps)) := ⟨_, rfl⟩
    rw [← hzs] at HSC HTW HSQ HNN
    have hN60 : N ≤ 60 := by rw [HNN.out]; exact HSQ.out.1
    have hlt101 : v < 101 := hv1
    have hw1 : IntKind.i64.wrap (2 * v) = 2 * v := by rw [IntKind.wrap_i64]; omega
    have htm : (2 * v).tmod 101 = 2 * v % 101 := by rw [Int.tmod_eq_emod_of_nonneg (by omega)]
    clear hpos hps hscl hN hzs
    go_wp2_with fail
    refine HSC.out.mono ?_
    rintro e w4 ⟨hB4, gz, cz, rfl, hz⟩
    have A4 := Lib.hid (below_step A3.out hB4)
    have HB4 := Lib.hid (below_step HB3.out hB4)
    have HZ := Lib.hid hz
    clear hB4 hz
    go_wp2_with fail
    refine (HI2.out w4 A4.out).mono ?_
    rintro e w5 ⟨rfl, hB5⟩
    have A5 := Lib.hid (below_step A4.out hB5)
    have HB5 := Lib.hid (below_step HB4.out hB5)
    have HZ5 := Lib.hid (HZ.out.below hB5)
    have HI3 : Hid (Calls Tryz.prog 5 #[.slice (some ⟨g, 0, none⟩) n c, .slice (some ⟨gx, 0, none⟩) m cx, .slice (some ⟨gz, 0, none⟩) N cz] w5 (Ans (.int .i64 (2 * v % 101)) w5)) := Lib.hid (by
      rw [← HTW.out]
      exact iQuadPair_any ss xs zs n m N HNS.out HMX.out HNN.out g c gx cx gz cz w5 (by omega) hnc (by omega) (by omega) HSS.out HSX.out HSQ.out.2 (HTX.out.below A5.out) (HLX.out.below A5.out) HZ5.out)
    clear hB5
    go_wp2_with fail
    refine HI3.out.mono ?_
    rintro e w6 ⟨rfl, hB6⟩
    have HB6 := Lib.hid (below_step HB5.out hB6)
    clear hB6
    go_wp2_with fail
    go_ret
    exact ⟨by simp, HB6.out⟩

end Go.Proofs.YtapobhnhnldlkaaGreat
end
