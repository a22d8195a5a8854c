/- Merged out of: XBndI, XSumX. -/
import Derived.Test.YtapobhnhnldlkaaGreatKComb
import Derived.Test.YtapobhnhnldlkaaGreatKSumRJ
import Derived.Test.YtapobhnhnldlkaaGreatGraftS
import Derived.Test.YtapobhnhnldlkaaGreatKMirrorS
section
/- The program writes a sum out; SumOf by the program. -/
namespace Go.Proofs.YtapobhnhnldlkaaGreat
open Go.RowKit

/-- May this be written out? -/
def bounded (qs : List Tm) : Bool := decide (qs.length ≤ 60) && qs.all (fun p => small p.2)

/-- The terms are handed back, new, or nothing is. -/
def TermsPost (o : Option (List Tm)) (w : World) (e : Ending) (w' : World) : Prop :=
  Below w.heap.size w w' ∧ ((o = none ∧ ∃ a c, e = .returned (.tuple #[.slice a 0 c, .bool false])) ∨
    ∃ qs g c cur, o = some qs ∧ e = .returned (.tuple #[.slice (some ⟨g, 0, none⟩) qs.length c, .bool true]) ∧ w.heap.size ≤ g ∧ w'.heap[g]? = some (.cells cur 74 (0, 0)) ∧ qs.length * 2 ≤ cur.size ∧ TermL w' g (txtTm qs))

theorem infoTm2 : (Tryz.prog.info? 74).map (fun i => (i.zero, i.size, i.bytes)) = some (some (.agg #[.int .i64 0, .string ⟨#[]⟩]), 2, 24) := by kernel_rfl

theorem bounded_long {qs : List Tm} (h : 60 < qs.length) : bounded qs = false := by
  rw [bounded, decide_eq_false (by omega)]; rfl
theorem bounded_big {qs : List Tm} {k : Nat} (hk : k < qs.length) (h : small (qs[k]).2 = false) : bounded qs = false := by
  rw [bounded]
  have : qs.all (fun p => small p.2) = false := by
    rw [List.all_eq_false]
    exact ⟨qs[k], List.getElem_mem hk, by rw [h]; simp⟩
  rw [this]; simp
theorem bounded_yes {qs : List Tm} (h : qs.length ≤ 60) (ha : ∀ k (hk : k < qs.length), small (qs[k]).2 = true) : bounded qs = true := by
  rw [bounded, decide_eq_true h, Bool.true_and, List.all_eq_true]
  intro p hp
  obtain ⟨k, hk, rfl⟩ := List.getElem_of_mem hp
  exact ha k hk

def outOf (qs : List Tm) : Option (List Tm) := if bounded qs = true then some qs else none

theorem txtTm_take {qs : List Tm} {k : Nat} (hk : k < qs.length) : txtTm (qs.take (k + 1)) = txtTm (qs.take k) ++ [((qs[k]).1, ⟨(qs[k]).2.text.toArray⟩)] := by
  rw [List.take_succ_eq_append_getElem hk]; simp only [txtTm, List.map_append, List.map_cons, List.map_nil]

/-- A row of terms that is the call's own: what a law wants of it. -/
theorem row_terms {base g n cap : Nat} {us : List (Int × ByteArray)} {xs : List Value} {w : World} (h : Row trm 74 base us (.slice (some ⟨g, 0, none⟩) n cap) xs w) :
    base ≤ g ∧ (∃ cur, w.heap[g]? = some (.cells cur 74 (0, 0)) ∧ us.length * 2 ≤ cur.size) ∧ TermL w g us := by
  refine ⟨?_, ?_, trm.lies h.rd⟩
  · obtain ⟨g', e, hb⟩ := owns_addr h.own (by simp)
    simp only [Option.some.injEq, Addr.mk.injEq] at e
    rw [e.1]; exact hb
  · rcases h.own.2 with ⟨e, _⟩ | ⟨g', cap', cur, e, _, hg, hn, _, hs, _⟩
    · cases e
    · simp only [Value.slice.injEq, Option.some.injEq, Addr.mk.injEq] at e
      obtain ⟨⟨rfl, _⟩, _, rfl⟩ := e
      exact ⟨cur, hg, by have h2 : cur.size = cap * 2 := hs
                         omega⟩

set_option maxRecDepth 100000 in
set_option maxHeartbeats 4000000 in
theorem isBoundedSum_any (qs : List Tm) (n : Nat) (hn : n = qs.length) (g cap : Nat) (w : World) (hn2 : n ≤ 1000000) (hqs : ∀ p ∈ qs, p.2.wf ∧ p.2.leaves ≤ 1000 ∧ p.2.nodes ≤ 1000) (hr : Rd tmI w (fun _ => True) (some ⟨g, 0, none⟩) qs) :
    Calls Tryz.prog 35 #[.agg #[.func (.func 27) #[] #[], .slice (some ⟨g, 0, none⟩) n cap]] w (fun e w' => e = .returned (.bool (bounded qs)) ∧ Below w.heap.size w w') := by
  have HR := Lib.hid hr
  have HQS := Lib.hid hqs
  have HNN := Lib.hid hn
  clear hr hqs hn
  by_cases h60 : n ≤ 60
  · go_enter Tryz.func35, Tryz.ntmps35
    go_wp2_with fail
    go_loopw [12] (fun iv wr => ∃ (k : Nat), k ≤ n ∧ iv = .int .i64 k ∧ (∀ i (h : i < qs.length), i < k → small (qs[i]).2 = true) ∧ Below w.heap.size w wr) (fun iv _ => n - (intOf iv).toNat)
    case atStart => exact ⟨0, Nat.zero_le _, rfl, fun i _ h => by omega, (Below.refl _ _).alloc (Nat.le_refl _) _⟩
    case round =>
      obtain ⟨k, hk, rfl, hsm, hB⟩ := hrel
      have HSM := Lib.hid hsm
      have HB := Lib.hid hB
      clear hsm
      by_cases hlt : k < n
      · have hltq : k < qs.length := by rw [← HNN.out]; exact hlt
        obtain ⟨g', x0, y0, z0, e, _, c0, c1, c2, c3, hw, ty, a, gw, wcp, rfl, rfl, rfl, hrep, _, _⟩ := tmI.get (HR.out.below (by decide) hB) k hltq
        cases e
        have hq := HQS.out (qs[k]) (List.getElem_mem hltq)
        obtain ⟨t, ht⟩ : ∃ t, t = (qs[k]).2 := ⟨_, rfl⟩
        obtain ⟨x, hx⟩ : ∃ x, x = (qs[k]).1 := ⟨_, rfl⟩
        rw [← ht] at c2 c3 hw hrep hq
        rw [← hx] at c0
        have HT := Lib.hid ht
        obtain ⟨pl, hpl⟩ : ∃ pl, pl = (t.paths []).length := ⟨_, rfl⟩
        obtain ⟨tx, htx⟩ : ∃ tx, tx = t.text.toArray := ⟨_, rfl⟩
        rw [← hpl] at c2
        rw [← htx] at c3
        have HBD := isBounded_any t ty a (wr.alloc (.cells #[.int .i64 x, .iface ty (.pointer (some a)), .slice (some ⟨gw, 0, none⟩) pl wcp, .string ⟨tx⟩] 87 (0, 0))) _ hw (by omega) (by omega) (hrep.below hw ((Below.refl _ _).alloc (Nat.le_refl _) _))
        obtain ⟨b, hb⟩ : ∃ b, b = small t := ⟨_, rfl⟩
        rw [← hb] at HBD
        have HBD := Lib.hid HBD
        have HBV := Lib.hid hb
        have HBA := Lib.hid (hB.alloc hB.size (.cells #[.int .i64 x, .iface ty (.pointer (some a)), .slice (some ⟨gw, 0, none⟩) pl wcp, .string ⟨tx⟩] 87 (0, 0)))
        have hF := heap_alloc_new wr (.cells #[.int .i64 x, .iface ty (.pointer (some a)), .slice (some ⟨gw, 0, none⟩) pl wcp, .string ⟨tx⟩] 87 (0, 0))
        have q1 : (wr.alloc (.cells #[.int .i64 x, .iface ty (.pointer (some a)), .slice (some ⟨gw, 0, none⟩) pl wcp, .string ⟨tx⟩] 87 (0, 0))).cell? ⟨wr.heap.size, 1, none⟩ = some (.iface ty (.pointer (some a))) := by rw [Lib.cell_of_heap hF]; rfl
        have k0 : (0 : Int) ≤ (k : Int) := by omega
        clear ht hx hpl htx hb hF hrep hB
        cases b with
        | false =>
          have HO : Hid (bounded qs = false) := Lib.hid (bounded_big hltq (by rw [← HT.out]; exact HBV.out.symm))
          go_wp2_with (go_at_call 52; refine HBD.out.mono ?_; rintro e w' ⟨rfl, rfl⟩)
          go_ret
          exact ⟨by rw [HO.out]; rfl, HBA.out⟩
        | true =>
          go_wp2_with (go_at_call 52; refine HBD.out.mono ?_; rintro e w' ⟨rfl, rfl⟩)
          exact ⟨⟨k + 1, by omega, by go_num, fun i h hi => by
              by_cases e : i = k
              · subst e; rw [← HT.out]; exact HBV.out.symm
              · exact HSM.out i h (by omega), HBA.out⟩, by simp [intOf]; omega⟩
      · have HO : Hid (bounded qs = true) := Lib.hid (bounded_yes (by have := HNN.out; omega) (fun i hi => HSM.out i hi (by have := HNN.out; omega)))
        go_wp2_with fail
        go_ret
        exact ⟨by rw [HO.out]; rfl, HB.out⟩
  · have HO : Hid (bounded qs = false) := Lib.hid (bounded_long (by have := HNN.out; omega))
    go_enter Tryz.func35, Tryz.ntmps35
    go_wp2_with fail
    go_ret
    exact ⟨by rw [HO.out]; rfl, (Below.refl _ _).alloc (Nat.le_refl _) _⟩

set_option maxRecDepth 100000 in
set_option maxHeartbeats 4000000 in
theorem boundedTerms_any (qs : List Tm) (n : Nat) (hn : n = qs.length) (g cap : Nat) (w : World) (hn2 : n ≤ 1000000) (hqs : ∀ p ∈ qs, p.2.wf ∧ p.2.leaves ≤ 1000 ∧ p.2.nodes ≤ 1000) (hr : Rd tmI w (fun _ => True) (some ⟨g, 0, none⟩) qs) :
    Calls Tryz.prog 18 #[.agg #[.func (.func 27) #[] #[], .slice (some ⟨g, 0, none⟩) n cap]] w (TermsPost (outOf qs) w) := by
  obtain ⟨i0, hi0, hzz, hzs, hzb⟩ := info_parts infoTm2
  have hAB : Below w.heap.size w (w.alloc (.cells #[.func (.func 27) #[] #[], .slice (some ⟨g, 0, none⟩) n cap] 57 (0, 0))) := (Below.refl _ _).alloc (Nat.le_refl _) _
  have HIB := Lib.hid (isBoundedSum_any qs n hn g cap (w.alloc (.cells #[.func (.func 27) #[] #[], .slice (some ⟨g, 0, none⟩) n cap] 57 (0, 0))) hn2 hqs (hr.below (by decide) hAB))
  have HAB := Lib.hid hAB
  have HSB := Lib.hid (heap_alloc_new w (.cells #[.func (.func 27) #[] #[], .slice (some ⟨g, 0, none⟩) n cap] 57 (0, 0)))
  have HSZ : Hid ((w.alloc (.cells #[.func (.func 27) #[] #[], .slice (some ⟨g, 0, none⟩) n cap] 57 (0, 0))).heap.size = w.heap.size + 1) := Lib.hid (by simp)
  have HR := Lib.hid hr
  have HNN := Lib.hid hn
  obtain ⟨bv, hbv⟩ : ∃ bv, bv = bounded qs := ⟨_, rfl⟩
  rw [← hbv] at HIB
  have HBV := Lib.hid hbv
  clear hr hqs hn hAB hbv
  go_enter Tryz.func18, Tryz.ntmps18
  cases bv with
  | false =>
    go_wp2_with fail
    refine HIB.out.mono ?_
    rintro e w1 ⟨rfl, hB1⟩
    go_wp2_with fail
    go_ret2
    exact ⟨HAB.out.trans (hB1.mono HAB.out.size), .inl ⟨by rw [outOf, ← HBV.out]; rfl, _, _, rfl⟩⟩
  | true =>
    have HO : Hid (outOf qs = some qs) := Lib.hid (by rw [outOf, ← HBV.out]; rfl)
    have hn60 : n ≤ 60 := by
      have h := HBV.out
      have h2 := HNN.out
      by_cases h60 : n ≤ 60
      · exact h60
      · rw [bounded_long (by omega)] at h; cases h
    go_wp2_with fail
    refine HIB.out.mono ?_
    rintro e w1 ⟨rfl, hB1⟩
    have HB1 := Lib.hid hB1
    have hq1 : w1.cell? ⟨w.heap.size, 1, none⟩ = some (.slice (some ⟨g, 0, none⟩) n cap) := by
      rw [Lib.cell_of_heap (by rw [HB1.out.block _ (by rw [HSZ.out]; omega)]; exact HSB.out)]; rfl
    have hs1 : w.heap.size + 1 ≤ w1.heap.size := by
      have := HB1.out.size
      rw [HSZ.out] at this; exact this
    clear hB1
    have hq2 : w.heap.size < w1.heap.size := by omega
    have HBW : Hid (Below w.heap.size w w1) := Lib.hid (HAB.out.trans (HB1.out.mono HAB.out.size))
    have HRW := Lib.hid (HR.out.below (by decide) HBW.out)
    go_wp2_with fail
    go_loopw [4, 14] (fun ov iv wr => ∃ (k : Nat) (va : Option Addr) (vc : Nat) (vs : List Value), k ≤ n ∧ va ≠ none ∧ iv = .int .i64 k ∧ ov = .slice va k vc ∧ Row trm 74 w1.heap.size (txtTm (qs.take k)) (.slice va k vc) vs wr ∧ Below w1.heap.size w1 wr) (fun _ iv _ => n - (intOf iv).toNat)
    case atStart =>
      refine ⟨0, some ⟨w1.heap.size, 0, none⟩, 0, [], Nat.zero_le _, by simp, rfl, rfl, ?_, (Below.refl _ _).alloc (Nat.le_refl _) _⟩
      have h := World.ownsRow_made (base := w1.heap.size) (e := 74) (size := 2) w1 #[] 0 (by simp) (by simp [maxLen]) rfl
      exact ⟨by rw [show (txtTm (qs.take 0)).length = 0 by simp [txtTm]]; exact h, fun _ h => by simp [txtTm] at h⟩
    case round =>
      obtain ⟨k, va, vc, vs, hk, hva, rfl, rfl, hrow, hB⟩ := hrel
      have HROW := Lib.hid hrow
      have HB := Lib.hid hB
      have HVA := Lib.hid hva
      have hlk : (txtTm (qs.take k)).length = k := by rw [txtTm_length, List.length_take]; have := HNN.out; omega
      have HLK := Lib.hid hlk
      clear hrow hva hlk
      by_cases hlt : k < n
      · have hltq : k < qs.length := by rw [← HNN.out]; exact hlt
        obtain ⟨g', x0, y0, z0, e, _, c0, c1, c2, c3, hw, ty, a, gw, wcp, rfl, rfl, rfl, hrep, _, _⟩ := tmI.get (HRW.out.below (by decide) hB) k hltq
        cases e
        obtain ⟨t, ht⟩ : ∃ t, t = (qs[k]).2 := ⟨_, rfl⟩
        obtain ⟨x, hx⟩ : ∃ x, x = (qs[k]).1 := ⟨_, rfl⟩
        rw [← ht] at c2 c3 hw hrep
        rw [← hx] at c0
        have HT := Lib.hid ht
        have HX := Lib.hid hx
        obtain ⟨pl, hpl⟩ : ∃ pl, pl = (t.paths []).length := ⟨_, rfl⟩
        obtain ⟨tx, htx⟩ : ∃ tx, tx = t.text.toArray := ⟨_, rfl⟩
        rw [← hpl] at c2
        rw [← htx] at c3
        have HTX := Lib.hid htx
        have HBA := Lib.hid (hB.alloc hB.size (.cells #[.int .i64 x, .iface ty (.pointer (some a)), .slice (some ⟨gw, 0, none⟩) pl wcp, .string ⟨tx⟩] 87 (0, 0)))
        have hF := heap_alloc_new wr (.cells #[.int .i64 x, .iface ty (.pointer (some a)), .slice (some ⟨gw, 0, none⟩) pl wcp, .string ⟨tx⟩] 87 (0, 0))
        have q0 : (wr.alloc (.cells #[.int .i64 x, .iface ty (.pointer (some a)), .slice (some ⟨gw, 0, none⟩) pl wcp, .string ⟨tx⟩] 87 (0, 0))).cell? ⟨wr.heap.size, 0, none⟩ = some (.int .i64 x) := by rw [Lib.cell_of_heap hF]; rfl
        have q3 : (wr.alloc (.cells #[.int .i64 x, .iface ty (.pointer (some a)), .slice (some ⟨gw, 0, none⟩) pl wcp, .string ⟨tx⟩] 87 (0, 0))).cell? ⟨wr.heap.size, 3, none⟩ = some (.string ⟨tx⟩) := by rw [Lib.cell_of_heap hF]; rfl
        have k0 : (0 : Int) ≤ (k : Int) := by omega
        clear ht hx hpl htx hF hrep hB
        have OWN := (HROW.out.below (w' := wr.alloc (.cells #[.int .i64 x, .iface ty (.pointer (some a)), .slice (some ⟨gw, 0, none⟩) pl wcp, .string ⟨tx⟩] 87 (0, 0))) ((Below.refl _ _).alloc (Nat.le_refl _) _)).own
        rw [HLK.out] at OWN
        have HOWN := Lib.hid OWN
        have HOA := Lib.hid (World.ownsRow.alloc OWN (.cells #[.int .i64 x, .string ⟨tx⟩] 74 (0, 0)))
        clear OWN
        have hszr : w1.heap.size ≤ wr.heap.size := HB.out.size
        go_wp2_with ((at_builtin; refine wpList_append_own_at _ rfl _ _ 24 rfl w1.heap.size 74 i0 (.agg #[.int .i64 0, .string ⟨#[]⟩]) 2 24 Tryz.underlying24 hi0 hzz hzs hzb rfl (by decide) (.slice va k vc) k vs rfl HOA.out ⟨wr.heap.size + 1, 0, none⟩ 1 1 [.int .i64 x, .string ⟨tx⟩] rfl rfl (cells_two (by simp) _ _) (by simp [Value.oneCell']) (by unfold maxLen; omega) (by omega) (by simp; omega) ?_; intro v3 w6 hown3 hg3 hnil3 hat3))
        obtain ⟨g3, q3, rfl, _, _, _⟩ := owns_some hown3 (fun e => by have := hnil3.1 e; simp at this)
        have NX : Row trm 74 w1.heap.size (txtTm (qs.take (k + 1))) (.slice (some ⟨g3, 0, none⟩) (k + 1) q3) (vs ++ [.int .i64 x, .string ⟨tx⟩]) w6 := by
          have h := (HROW.out.below (w' := wr.alloc (.cells #[.int .i64 x, .iface ty (.pointer (some a)), .slice (some ⟨gw, 0, none⟩) pl wcp, .string ⟨tx⟩] 87 (0, 0))) ((Below.refl _ _).alloc (Nat.le_refl _) _)).next (a := (x, ⟨tx⟩)) (g := g3) (cap := q3) (w1 := wr.alloc (.cells #[.int .i64 x, .iface ty (.pointer (some a)), .slice (some ⟨gw, 0, none⟩) pl wcp, .string ⟨tx⟩] 87 (0, 0))) (w1' := (wr.alloc (.cells #[.int .i64 x, .iface ty (.pointer (some a)), .slice (some ⟨gw, 0, none⟩) pl wcp, .string ⟨tx⟩] 87 (0, 0))).alloc (.cells #[.int .i64 x, .string ⟨tx⟩] 74 (0, 0))) (Below.refl _ _) rfl ((Below.refl _ _).alloc (Nat.le_refl _) _) (by rw [HLK.out]; exact hown3) hg3 (by
            rcases hat3 with h | h
            · left; rw [← h]; rfl
            · right; simp [Value.ownBlock] at h; simp; omega)
          rw [HLK.out] at h
          rw [txtTm_take hltq, ← HT.out, ← HX.out, ← HTX.out]
          exact h
        have HNX := Lib.hid NX
        have BB := Lib.hid ((HBA.out.alloc (by simp; omega) (.cells #[.int .i64 x, .string ⟨tx⟩] 74 (0, 0))).grown hg3 (by simp; omega) (fun q e => by have := (HOWN.out.lt q e).1; omega))
        clear NX hown3 hg3 hnil3 hat3
        exact ⟨⟨k + 1, some ⟨g3, 0, none⟩, q3, _, by omega, by simp, by go_num, rfl, HNX.out, BB.out⟩, by simp [intOf]; omega⟩
      · have hkn : k = n := by omega
        obtain ⟨gv, rfl, _⟩ := owns_addr HROW.out.own HVA.out
        have hRT := row_terms HROW.out
        rw [HLK.out, hkn, HNN.out, List.take_length] at hRT
        have HRT := Lib.hid hRT
        have HKN : Hid (k = qs.length) := Lib.hid (by have := HNN.out; omega)
        clear hRT
        go_wp2_with fail
        go_ret2
        obtain ⟨h1, ⟨cur, h2, h3⟩, h4⟩ := HRT.out
        exact ⟨HBW.out.trans (HB.out.mono HBW.out.size), .inr ⟨qs, gv, vc, cur, HO.out, by rw [← HKN.out]; rfl, Nat.le_trans HBW.out.size h1, h2, h3, h4⟩⟩
/-- What SumOf answers. -/
def ofList (xs : List (Int × ByteArray)) : Option (List Tm) :=
  match termsOf (-1000000) 1000000 xs with
  | none => none
  | some ps => outOf (canon ps)

theorem canon_tree {ps : List Tm} (h : ∀ p ∈ ps, p.2.wf ∧ p.2.leaves ≤ 1000 ∧ p.2.nodes ≤ 1000) : ∀ p ∈ canon ps, p.2.wf ∧ p.2.leaves ≤ 1000 ∧ p.2.nodes ≤ 1000 := fun p hp => by
  obtain ⟨q, hq, e⟩ := mem_canon hp
  rw [e]; exact h q hq

end Go.Proofs.YtapobhnhnldlkaaGreat
end
section
/- What SumMirror, SumScale and SumAdd answer, plainly. No walk here. -/
namespace Go.Proofs.YtapobhnhnldlkaaGreat
open Go.RowKit

theorem outOf_len {ps qs : List Tm} (h : some qs = outOf ps) : qs.length ≤ 60 := by
  rw [outOf] at h
  split at h
  · next hb =>
    have e := Option.some.inj h
    rw [← e] at hb
    by_cases h60 : 60 < qs.length
    · rw [bounded_long h60] at hb; cases hb
    · omega
  · cases h

def mirTm (ps : List Tm) : List Tm := ps.map fun p => (p.1, p.2.mirror)
def sclTm (m : Int) (ps : List Tm) : List Tm := ps.map fun p => (m * p.1, p.2)
def sclI (m : Int) (ps : List Tm) : List Tm := ps.map fun p => (p.1 * (m % 101), p.2)

theorem mirTm_length (ps : List Tm) : (mirTm ps).length = ps.length := by simp [mirTm]
theorem sclTm_length (m : Int) (ps : List Tm) : (sclTm m ps).length = ps.length := by simp [sclTm]
theorem sclI_length (m : Int) (ps : List Tm) : (sclI m ps).length = ps.length := by simp [sclI]

theorem addAll_mir (l ps : List Tm) {k : Nat} (hk : k < ps.length) : addAll l (mirTm (ps.take (k + 1))) = addT (addAll l (mirTm (ps.take k))) (ps[k]).1 (ps[k]).2.mirror := by
  rw [List.take_succ_eq_append_getElem hk, mirTm, List.map_append]
  exact addAll_snoc l (mirTm (ps.take k)) ((ps[k]).1, (ps[k]).2.mirror)
theorem addAll_scl (l ps : List Tm) (m : Int) {k : Nat} (hk : k < ps.length) : addAll l (sclTm m (ps.take (k + 1))) = addT (addAll l (sclTm m (ps.take k))) (m * (ps[k]).1) (ps[k]).2 := by
  rw [List.take_succ_eq_append_getElem hk, sclTm, List.map_append]
  exact addAll_snoc l (sclTm m (ps.take k)) (m * (ps[k]).1, (ps[k]).2)
theorem mirTm_take (ps : List Tm) {k : Nat} (hk : k < ps.length) : mirTm (ps.take (k + 1)) = mirTm (ps.take k) ++ [((ps[k]).1, (ps[k]).2.mirror)] := by
  rw [List.take_succ_eq_append_getElem hk, mirTm, List.map_append]; rfl
theorem sclI_take (ps : List Tm) (m : Int) {k : Nat} (hk : k < ps.length) : sclI m (ps.take (k + 1)) = sclI m (ps.take k) ++ [((ps[k]).1 * (m % 101), (ps[k]).2)] := by
  rw [List.take_succ_eq_append_getElem hk, sclI, List.map_append]; rfl

theorem canon_scl {ps : List Tm} (m : Int) (h : ∀ p ∈ ps, p.2.wf) : canon (sclI m ps) = canon (sclTm m ps) := by
  refine canon_congr (fun p hp => ?_) (fun p hp => ?_) (fun t => cf_map_congr ps (fun p => (p.1 * (m % 101), p.2)) (fun p => (m * p.1, p.2)) (fun p => ⟨rfl, ?_⟩) t)
  · obtain ⟨q, hq, rfl⟩ := List.mem_map.1 hp; exact h q hq
  · obtain ⟨q, hq, rfl⟩ := List.mem_map.1 hp; exact h q hq
  · show (p.1 * (m % 101) - m * p.1) % 101 = 0
    rw [Int.mul_comm m p.1, ← Int.mul_sub, Int.mul_emod, show (m % 101 - m) % 101 = 0 by omega, Int.mul_zero]; rfl
theorem sclTm_one (ps : List Tm) : sclTm 1 ps = ps := by simp [sclTm]

theorem mirTm_ok {ps : List Tm} {L N : Nat} (h : ∀ p ∈ ps, p.2.wf ∧ p.2.leaves ≤ L ∧ p.2.nodes ≤ N) : ∀ p ∈ mirTm ps, p.2.wf ∧ p.2.leaves ≤ L ∧ p.2.nodes ≤ N := fun p hp => by
  obtain ⟨q, hq, rfl⟩ := List.mem_map.1 hp
  have h1 := h q hq
  have h2 := mirror_size q.2
  exact ⟨mirror_wf _ h1.1, by show q.2.mirror.leaves ≤ L; omega, by show q.2.mirror.nodes ≤ N; omega⟩

/-- The trees of a sum that has been read. -/
theorem sum_trees {xs : List (Int × ByteArray)} {ps : List Tm} (h : sumOf xs = some ps) : ps.length ≤ 60 ∧ (∀ p ∈ ps, p.2.wf ∧ p.2.leaves ≤ 12 ∧ p.2.nodes ≤ 16 ∧ 1 ≤ p.1 ∧ p.1 ≤ 100) ∧ NF ps := by
  obtain ⟨h1, h2, h3, h4⟩ := sumOf_ok h
  exact ⟨by omega, fun p hp => ⟨(h3.tree p hp).1, (h3.tree p hp).2.1, (h3.tree p hp).2.2, (h3.coef p hp).1, (h3.coef p hp).2⟩, h4⟩

/-- What SumMirror answers. -/
def mirOf (xs : List (Int × ByteArray)) : Option (List Tm) :=
  match sumOf xs with
  | none => none
  | some ps => outOf (canon (mirTm ps))
/-- What SumScale answers. -/
def sclOf (xs : List (Int × ByteArray)) (m : Int) : Option (List Tm) :=
  match sumOf xs with
  | none => none
  | some ps => if -1000000 ≤ m ∧ m ≤ 1000000 then outOf (canon (sclTm m ps)) else none
/-- Do the trees of two sums go together? -/
def alike (ps qs : List Tm) : Bool :=
  match ps, qs with
  | p :: _, q :: _ => decide (p.2.leaves = q.2.leaves)
  | _, _ => true
/-- What SumAdd answers. -/
def addOf (xs ys : List (Int × ByteArray)) : Option (List Tm) :=
  match sumOf xs, sumOf ys with
  | some ps, some qs => if alike ps qs = true then outOf (canon (ps ++ qs)) else none
  | _, _ => none

theorem mirOf_len {xs : List (Int × ByteArray)} {qs : List Tm} (h : some qs = mirOf xs) : qs.length ≤ 60 := by
  rw [mirOf] at h
  split at h
  · cases h
  · exact outOf_len h
theorem sclOf_len {xs : List (Int × ByteArray)} {m : Int} {qs : List Tm} (h : some qs = sclOf xs m) : qs.length ≤ 60 := by
  rw [sclOf] at h
  split at h
  · cases h
  · split at h
    · exact outOf_len h
    · cases h
theorem addOf_len {xs ys : List (Int × ByteArray)} {qs : List Tm} (h : some qs = addOf xs ys) : qs.length ≤ 60 := by
  rw [addOf] at h
  split at h
  · split at h
    · exact outOf_len h
    · cases h
  · cases h
end Go.Proofs.YtapobhnhnldlkaaGreat
end
