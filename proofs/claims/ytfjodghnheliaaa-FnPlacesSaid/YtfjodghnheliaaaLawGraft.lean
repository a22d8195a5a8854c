/- TreeGraft on both sides, and its law. -/
import Derived.Test.YtfjodghnheliaaaGraftS
namespace Go.Proofs.Ytfjodghnheliaaa
open Go.RowKit

/-- What is grafted. -/
def graftOf (a : List UInt8) (k : Int) (b : List UInt8) : Option T :=
  match parse a, parse b with
  | some t, some u => if 0 ≤ k ∧ k ≤ (t.leaves : Int) - 1 then some (t.fill (oneIn t.leaves k.toNat u)) else none
  | _, _ => none

def graftV : Option T → Value
  | none => .tuple #[.string ⟨#[]⟩, .bool false]
  | some t => doneV t

theorem graftOf_no {a b : List UInt8} {k : Int} (h : parse a = none) : graftOf a k b = none := by simp [graftOf, h]
theorem graftOf_no2 {a b : List UInt8} {k : Int} (h : parse b = none) : graftOf a k b = none := by
  cases ha : parse a <;> simp [graftOf, h, ha]
theorem graftOf_out {a b : List UInt8} {k : Int} {t : T} (ha : parse a = some t) (hk : ¬ (0 ≤ k ∧ k ≤ (t.leaves : Int) - 1)) : graftOf a k b = none := by
  cases hb : parse b with
  | none => exact graftOf_no2 hb
  | some u => simp only [graftOf, ha, hb]; rw [if_neg hk]
theorem graftOf_in {a b : List UInt8} {k : Nat} {t u : T} (ha : parse a = some t) (hb : parse b = some u) (hk : k < t.leaves) : graftOf a k b = some (t.fill (oneIn t.leaves k u)) := by
  simp only [graftOf, ha, hb]
  rw [if_pos (by omega), Int.toNat_natCast]

theorem doneV_shape (t : T) : ∃ x b, doneV t = .tuple #[.string x, .bool b] := by
  unfold doneV
  split
  · exact ⟨_, _, rfl⟩
  · exact ⟨_, _, rfl⟩

set_option maxRecDepth 100000 in
set_option maxHeartbeats 1000000 in
theorem iGraft_any (s : ByteArray) (k : Int) (s2 : ByteArray) (w : World) (hs : s.size ≤ 140737488351232) (hs2 : s2.size ≤ 140737488351232) :
    Calls Try.prog 11 #[.string s, .int .i64 k, .string s2] w (Ans (graftV (graftOf s.data.toList k s2.data.toList)) w) := by
  have HP2 : Hid (∀ w, Calls Try.prog 32 #[.string s2] w (RtPost s2 w)) := Lib.hid (fun w => readTree_any s2 w hs2)
  go_enter Try.func11, Try.ntmps11
  go_wp2_with fail
  refine (readTree_any s w hs).mono ?_
  rintro e w1 ⟨hB, ⟨hno, rfl⟩ | ⟨t, ty, a, hyes, rfl, hrep⟩⟩
  · have HN := Lib.hid (graftOf_no (b := s2.data.toList) (k := k) hno)
    clear hno
    go_wp2_with fail
    go_ret2
    exact ⟨by rw [HN.out]; rfl, hB⟩
  · obtain ⟨hw, htx, hl, hn⟩ := parse_some hyes
    clear htx
    have HN := Lib.hid hyes
    have HR := Lib.hid (hrep.keep (w' := w1) (P' := fun b => b < w1.heap.size) (fun _ _ _ h => h) (fun _ _ h => h) hw)
    clear hyes hrep
    obtain ⟨nn, hnn⟩ : ∃ nn, nn = t.leaves := ⟨_, rfl⟩
    have HNN := Lib.hid hnn
    have HW := Lib.hid hw
    by_cases h0 : k < 0
    · have HO := Lib.hid (graftOf_out (b := s2.data.toList) (k := k) HN.out (by omega))
      clear hnn
      go_wp2_with fail
      go_ret2
      exact ⟨by rw [HO.out]; rfl, hB⟩
    · obtain ⟨kn, rfl⟩ : ∃ kn : Nat, k = (kn : Int) := ⟨k.toNat, by omega⟩
      have hty : (t = .leaf ∧ ty = 110) ∨ (∃ c ks, t = .node c ks ∧ ty = 48) := by
        cases t with
        | leaf => have := HR.out; rw [RepI] at this; exact .inl ⟨rfl, this⟩
        | node c ks => have := HR.out; rw [RepI] at this; exact .inr ⟨c, ks, rfl, this.1⟩
      have HLF : Hid (∀ c ks, t = .node c ks → Calls Try.prog 54 #[.pointer (some a)] w1 (fun e w' => e = .returned (.int .i64 ((nn : Nat) : Int)) ∧ w1 = w')) := Lib.hid (by
        intro c ks ht
        subst ht
        have hq := HNN.out
        rw [T.leaves] at hq hl
        have hwk := hw
        rw [T.wf] at hwk
        exact (nodeLeaves_any _ c ks _ a w1 _ (Nat.le_refl _) hwk.2.2.2.2 (by omega) HR.out).mono (fun e w' h => ⟨by rw [h.1, hq]; simp, h.2⟩))
      have HLG : Hid (t = .leaf → Calls Try.prog 110 #[.pointer (some a)] w1 (fun e w' => e = .returned (.int .i64 ((nn : Nat) : Int)) ∧ w1 = w')) := Lib.hid (by
        intro ht
        exact (leafLeaves_any a w1).mono (fun e w' h => ⟨by rw [h.1, HNN.out, ht, T.leaves]; rfl, h.2⟩))
      have HOUT : Hid (¬ kn < nn → graftOf s.data.toList (kn : Int) s2.data.toList = none) := Lib.hid (fun h => graftOf_out HN.out (by rw [← HNN.out]; omega))
      have HIN : Hid (∀ u, parse s2.data.toList = some u → kn < nn → graftOf s.data.toList (kn : Int) s2.data.toList = some (t.fill (oneIn t.leaves kn u))) := Lib.hid (fun u hu h => graftOf_in HN.out hu (by rw [← HNN.out]; exact h))
      have hnb : nn ≤ 12 := by omega
      have HTN := Lib.hid (And.intro hl hn)
      clear hnn hl hn hw
      rcases hty with ⟨ht, rfl⟩ | ⟨c, ks, ht, rfl⟩
      all_goals
        first
          | (have HK := Lib.hid (HLG.out ht))
          | (have HK := Lib.hid (HLF.out c ks ht))
        clear ht
        by_cases hlt : kn < nn
        · go_wp2_with fail
          refine HK.out.mono ?_
          rintro e w2 ⟨rfl, rfl⟩
          go_wp2_with fail
          refine (HP2.out w1).mono ?_
          rintro e w2 ⟨hB2, ⟨hno, rfl⟩ | ⟨u, tyu, au, hyes, rfl, hrepu⟩⟩
          · have HNO := Lib.hid (graftOf_no2 (a := s.data.toList) (k := (kn : Int)) hno)
            clear hno
            go_wp2_with fail
            go_ret2
            exact ⟨by rw [HNO.out]; rfl, below_step hB hB2⟩
          · have hpu := parse_some hyes
            have HV := Lib.hid (HIN.out u hyes hlt)
            have HU := Lib.hid hpu
            have HG := Lib.hid (graftAt_any t kn u _ a tyu au w2 (fun b => b < w2.heap.size) HW.out hpu.1 (by have := HTN.out; omega) (by rw [← HNN.out]; exact hlt) (fun b h => h)
              ((HR.out.below HW.out hB2).keep (fun _ _ _ h => h) (fun b h hb => hb) HW.out) (hrepu.keep (w' := w2) (fun _ _ _ h => h) (fun b h hb => hb) hpu.1))
            have HFW := Lib.hid (fill_wf t (oneIn t.leaves kn u) HW.out (oneIn_wf hpu.1))
            have HFL := Lib.hid (fill_len (us := oneIn t.leaves kn u) HTN.out.1 HTN.out.2 (oneIn_size hpu.2.2.1 hpu.2.2.2))
            have HB2 := Lib.hid hB2
            clear hyes hrepu hpu hB2
            go_wp2_with fail
            refine HG.out.mono ?_
            rintro e w3 ⟨hB3, ty3, a3, rfl, hr3⟩
            have HBT := Lib.hid (boundedText_any _ ty3 a3 w3 _ HFW.out (by have := HFL.out; omega) (by have := HFL.out; omega) HFL.out.2.2 hr3)
            have HB3 := Lib.hid hB3
            obtain ⟨x, bb, hx⟩ := doneV_shape (t.fill (oneIn t.leaves kn u))
            rw [hx] at HBT
            have HX := Lib.hid hx
            clear hr3 hB3 hx
            go_wp2_with fail
            refine HBT.out.mono ?_
            rintro e w4 ⟨rfl, hB4⟩
            go_wp2_with fail
            go_ret2
            exact ⟨by rw [HV.out, graftV, HX.out]; rfl, below_step (below_step (below_step hB HB2.out) HB3.out) hB4⟩
        · have HNO := Lib.hid (HOUT.out hlt)
          go_wp2_with fail
          refine HK.out.mono ?_
          rintro e w2 ⟨rfl, rfl⟩
          go_wp2_with fail
          go_ret2
          exact ⟨by rw [HNO.out]; rfl, hB⟩
end Go.Proofs.Ytfjodghnheliaaa
