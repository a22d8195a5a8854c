/- QuadTrees by the model. -/
import Derived.Test.YtapobhnhnldlkaaQuadS
namespace Go.Proofs.Ytapobhnhnldlkaa
open Go.RowKit

/-- A text in a row. -/
def txQ : Elt (List UInt8) where
  size := 1
  R _ _ t cs := cs = [.string ⟨t.toArray⟩]
  len := by rintro w P t cs rfl; rfl
  one := by
    rintro w P t cs rfl u hu
    simp at hu
    subst hu
    rfl
  keep := by rintro w w' P P' t cs _ _ rfl; rfl
theorem txQ.lies {w : World} {P : Nat → Prop} {a : Option Addr} {ts : List (List UInt8)} (h : Rd txQ w P a ts) : Lies w a ts := fun j hj => by
  obtain ⟨g, cs, e, _, hc, rfl⟩ := h j hj
  exact ⟨g, e, by have := hc 0 (by decide); simpa [txQ] using this⟩

/-- Texts are handed back, in a row that is new. -/
def NewTxs (ps : List (List UInt8)) (w : World) (e : Ending) (w' : World) : Prop :=
  Below w.heap.size w w' ∧ ∃ g cap, e = .returned (.slice (some ⟨g, 0, none⟩) ps.length cap) ∧ Lies w' (some ⟨g, 0, none⟩) ps

/-- What 'l6qTrees' answers. -/
def L6T (ss : List ByteArray) (w : World) (e : Ending) (w' : World) : Prop :=
  Below w.heap.size w w' ∧ ((quadsOf ss = none ∧ ∃ g c, e = .returned (.tuple #[.slice (some ⟨g, 0, none⟩) 0 c, .bool false])) ∨
    ∃ ts g c, quadsOf ss = some ts ∧ e = .returned (.tuple #[.slice (some ⟨g, 0, none⟩) ts.length c, .bool true]) ∧ ts.length ≤ c ∧ c ≤ 9223372036854775807 ∧ Rd trS w' (fun _ => True) (some ⟨g, 0, none⟩) ts)

theorem quads_no {ss : List ByteArray} (h : lettersOf ss = none) : quadsOf ss = none := by rw [quadsOf, h]; rfl

set_option maxRecDepth 100000 in
set_option maxHeartbeats 4000000 in
theorem l6qTrees_any (ss : List ByteArray) (n : Nat) (hns : n = ss.length) (ga cap : Nat) (w : World) (hn : n ≤ 1048576) (hz : ∀ j (h : j < ss.length), (ss[j]).size ≤ 1048576) (hl : TxG w ga ss) :
    Calls Try.prog 21 #[.slice (some ⟨ga, 0, none⟩) n cap] w (L6T ss w) := by
  have HL := Lib.hid hl
  have HZ := Lib.hid hz
  have HNN := Lib.hid hns
  clear hl hz hns
  obtain ⟨i0, hi0, hzz, hzs, hzb⟩ := info_parts info42
  by_cases hin : 1 ≤ (n : Int) ∧ (n : Int) ≤ 3
  · have HBN := Lib.hid (decide_eq_true hin)
    have hn3 : n ≤ 3 := by omega
    go_enter Try.func21, Try.ntmps21
    go_wp2_with (go_at_call 32; refine (l6In_any _ _ _ _).mono ?_; rintro e w' ⟨rfl, rfl⟩; rw [HBN.out])
    go_loopw [4, 5] (fun av iv wr => ∃ (i m : Nat), i ≤ n ∧ m ≤ 6 * i ∧ iv = .int .i64 i ∧ (letAll (ss.take i)).isSome = true ∧ QAll ss w (fun cs => (cs.take i).flatMap (quadRow cs)) m av wr) (fun _ iv _ => n - (intOf iv).toNat)
    case atStart =>
      refine ⟨0, 0, Nat.zero_le _, Nat.le_refl _, rfl, rfl, some ⟨w.heap.size, 0, none⟩, 0, [], rfl, by simp, World.ownsRow_made w #[] 0 (Nat.le_refl _) (by simp [maxLen]) rfl, fun cs _ => ⟨by simp, ?_⟩, (Below.refl _ _).alloc (Nat.le_refl _) _⟩
      simp only [List.take_zero, List.flatMap_nil]
      exact ⟨World.ownsRow_made w #[] 0 (Nat.le_refl _) (by simp [maxLen]) rfl, fun _ h => by simp at h⟩
    case round =>
      obtain ⟨i, m, hi, hm, rfl, hlet, hq⟩ := hrel
      obtain ⟨wo, rfl⟩ : ∃ wo : World, wo = wr := ⟨_, rfl⟩
      have HLET := Lib.hid hlet
      have HQ := Lib.hid hq
      obtain ⟨va, vc, vs, rfl, hva, hown, hrow, hB⟩ := hq
      have HB := Lib.hid hB
      have HVA := Lib.hid hva
      have HROW := Lib.hid hrow
      have HOWN := Lib.hid hown
      clear hlet hva hown hrow hB
      by_cases hlt : i < n
      · have hlts : i < ss.length := by rw [← HNN.out]; exact hlt
        have d0 := (HL.out.below HB.out) i hlts
        obtain ⟨x, hx⟩ : ∃ x, x = ss[i] := ⟨_, rfl⟩
        have hsz : x.size ≤ 1048576 := by rw [hx]; exact HZ.out i hlts
        rw [← hx] at d0
        have HX := Lib.hid hx
        clear hx
        by_cases h1 : x.size = 1
        · obtain ⟨c, hc⟩ := one_of h1
          have h0 : x[0]'(by rw [h1]; omega) = c := by subst hc; rfl
          have HC := Lib.hid hc
          clear hc
          by_cases ha : (c.toNat : Int) < 97
          · have HF : Hid (quadsOf ss = none) := Lib.hid (quads_no (let_bad hlts (by rw [← HX.out, HC.out]; exact let_one_no (by omega))))
            have ht : decide ((c.toNat : Int) < 97) = true := decide_eq_true ha
            clear ha
            go_wp2_with fail
            go_ret2
            exact ⟨HB.out.alloc HB.out.size _, .inl ⟨HF.out, _, _, rfl⟩⟩
          · have ht : decide ((c.toNat : Int) < 97) = false := decide_eq_false ha
            by_cases hb : 104 < (c.toNat : Int)
            · have HF : Hid (quadsOf ss = none) := Lib.hid (quads_no (let_bad hlts (by rw [← HX.out, HC.out]; exact let_one_no (by omega))))
              have ht2 : decide (104 < (c.toNat : Int)) = true := decide_eq_true hb
              clear ha hb
              go_wp2_with fail
              go_ret2
              exact ⟨HB.out.alloc HB.out.size _, .inl ⟨HF.out, _, _, rfl⟩⟩
            · have ht2 : decide (104 < (c.toNat : Int)) = false := decide_eq_false hb
              have HONE : Hid (letOne (ss[i]).data.toList = some c) := Lib.hid (by rw [← HX.out, HC.out]; exact let_one_yes (by omega))
              clear ha hb
              go_wp2_with fail
              go_loopw [4, 7] (fun av kv wr => ∃ (k m2 : Nat), k ≤ n ∧ m2 ≤ 6 * i + 2 * k ∧ kv = .int .i64 k ∧ (∀ j (hj : j < k) (hi : j < i), ss[j]'(by omega) ≠ ss[i]) ∧ QAll ss w (fun cs => (cs.take i).flatMap (quadRow cs) ++ (cs.take k).flatMap (quadTwo (cs.getD i 0))) m2 av wr) (fun _ kv _ => n - (intOf kv).toNat)
              case atStart => exact ⟨0, m, Nat.zero_le _, by omega, rfl, fun j hj => by omega, HQ.out.congr (fun cs _ => by simp)⟩
              case round =>
                obtain ⟨k, m2, hk, hm2, rfl, hne, hq⟩ := hrel
                have HNE := Lib.hid hne
                have HQ2 := Lib.hid hq
                obtain ⟨va, vc, vs, rfl, hva, hown, hrow, hBk⟩ := hq
                have HBK := Lib.hid hBk
                have HVA := Lib.hid hva
                have HOWN := Lib.hid hown
                have HROW := Lib.hid hrow
                have hszr : w.heap.size ≤ wr.heap.size := hBk.size
                clear hne hva hown hrow
                by_cases hlk : k < n
                · have hlks : k < ss.length := by rw [← HNN.out]; exact hlk
                  have e0 := (HL.out.below hBk) k hlks
                  obtain ⟨y, hy⟩ : ∃ y, y = ss[k] := ⟨_, rfl⟩
                  rw [← hy] at e0
                  have HY := Lib.hid hy
                  clear hy hBk
                  have OWN5 := World.ownsRow.alloc (World.ownsRow.alloc (World.ownsRow.alloc (World.ownsRow.alloc (World.ownsRow.alloc HOWN.out (.cells #[.string ⟨#[]⟩, .slice none 0 0, .string ⟨#[]⟩, .slice none 0 0] 44 (0, 0))) (.cells #[.string y, .slice (some ⟨wr.heap.size, 0, none⟩) 2 2] 44 (0, 0))) (.cells #[.string y, .slice (some ⟨wr.heap.size, 0, none⟩) 2 2, .string ⟨#[]⟩, .slice none 0 0] 44 (0, 0))) (.cells #[.string ⟨#[]⟩, .slice none 0 0, .string y, .slice (some ⟨wr.heap.size, 0, none⟩) 2 2] 44 (0, 0))) (.cells #[.string x, .slice (some ⟨wr.heap.size + 1 + 1, 0, none⟩) 2 2, .string x, .slice (some ⟨wr.heap.size + 1 + 1 + 1, 0, none⟩) 2 2] 44 (0, 0))
                  have HOWN5 := Lib.hid OWN5
                  clear OWN5
                  have STEP : Hid (∀ (g q : Nat) (w6 : World), w6.ownsRow w.heap.size 44 2 (.slice (some ⟨g, 0, none⟩) (m2 + 2) q) (m2 + 2) (vs ++ [.string x, .slice (some ⟨wr.heap.size + 1 + 1, 0, none⟩) 2 2, .string x, .slice (some ⟨wr.heap.size + 1 + 1 + 1, 0, none⟩) 2 2]) → ((((((wr.alloc (.cells #[.string ⟨#[]⟩, .slice none 0 0, .string ⟨#[]⟩, .slice none 0 0] 44 (0, 0))).alloc (.cells #[.string y, .slice (some ⟨wr.heap.size, 0, none⟩) 2 2] 44 (0, 0))).alloc (.cells #[.string y, .slice (some ⟨wr.heap.size, 0, none⟩) 2 2, .string ⟨#[]⟩, .slice none 0 0] 44 (0, 0))).alloc (.cells #[.string ⟨#[]⟩, .slice none 0 0, .string y, .slice (some ⟨wr.heap.size, 0, none⟩) 2 2] 44 (0, 0))).alloc (.cells #[.string x, .slice (some ⟨wr.heap.size + 1 + 1, 0, none⟩) 2 2, .string x, .slice (some ⟨wr.heap.size + 1 + 1 + 1, 0, none⟩) 2 2] 44 (0, 0)))).grownBy w6 (Value.slice va m2 vc).ownBlock → ((Value.slice va m2 vc).ownBlock = some g ∨ wr.heap.size + 5 ≤ g) →
                      QAll ss w (fun cs => (cs.take i).flatMap (quadRow cs) ++ (cs.take (k + 1)).flatMap (quadTwo (cs.getD i 0))) (m2 + 2) (.slice (some ⟨g, 0, none⟩) (m2 + 2) q) w6) := Lib.hid (fun g q w6 h1 h2 h3 =>
                    QAll.step HOWN.out HROW.out HBK.out (fun cs hcs => by
                      obtain ⟨a1, a2, a3, a4⟩ := letters_at hcs hlts
                      obtain ⟨b1, b2, b3, b4⟩ := letters_at hcs hlks
                      have b5 : cs.getD k 0 = cs[k] := by rw [List.getD_eq_getElem?_getD, List.getElem?_eq_getElem b1]; rfl
                      refine ⟨cs.getD i 0, cs.getD k 0, by rw [HX.out, a2], by rw [HY.out, b2], ⟨a3, a4⟩, ⟨b3, b4⟩, ?_⟩
                      rw [quadRow_take cs _ b1, b5, List.append_assoc]) h1 h2 h3)
                  by_cases hki : k < i
                  · have hd : decide ((k : Int) < (i : Int)) = true := decide_eq_true (by omega)
                    have hd2 : decide (k < i) = true := decide_eq_true hki
                    by_cases hsame : y = x
                    · have HF : Hid (quadsOf ss = none) := Lib.hid (quads_no (let_dup hlts hki (by rw [← HY.out, ← HX.out, hsame])))
                      subst hsame
                      have hyy : (y.toList == y.toList) = true := by simp
                      go_wp2_with fail
                      go_ret2
                      exact ⟨HBK.out.alloc HBK.out.size _, .inl ⟨HF.out, _, _, rfl⟩⟩
                    · have hsb : (y.toList == x.toList) = false := ba_ne hsame
                      have HSM := Lib.hid hsame
                      clear hsame
                      go_wp2_with (at_builtin; refine wpList_append_own_at _ rfl _ _ 36 rfl w.heap.size 44 i0 (.agg #[.string ⟨#[]⟩, .slice none 0 0]) 2 40 Try.underlying36 hi0 hzz hzs hzb rfl (by decide) (.slice va m2 vc) m2 vs rfl HOWN5.out ⟨wr.heap.size + 1 + 1 + 1 + 1, 0, none⟩ 2 2 [.string x, .slice (some ⟨wr.heap.size + 1 + 1, 0, none⟩) 2 2, .string x, .slice (some ⟨wr.heap.size + 1 + 1 + 1, 0, none⟩) 2 2] rfl rfl (World.news_of_block (by first | exact heap_alloc_new _ _ | (rw [show wr.heap.size + 1 + 1 + 1 + 1 = ((((wr.alloc (.cells #[.string ⟨#[]⟩, .slice none 0 0, .string ⟨#[]⟩, .slice none 0 0] 44 (0, 0))).alloc (.cells #[.string y, .slice (some ⟨wr.heap.size, 0, none⟩) 2 2] 44 (0, 0))).alloc (.cells #[.string y, .slice (some ⟨wr.heap.size, 0, none⟩) 2 2, .string ⟨#[]⟩, .slice none 0 0] 44 (0, 0))).alloc (.cells #[.string ⟨#[]⟩, .slice none 0 0, .string y, .slice (some ⟨wr.heap.size, 0, none⟩) 2 2] 44 (0, 0))).heap.size by simp]; exact heap_alloc_new _ _))) (by simp [Value.oneCell']) (by unfold maxLen; omega) (by omega) (by simp; omega) ?_; intro v3 w6 hown3 hg3 hnil3 hat3)
                      obtain ⟨g3, q3, rfl, _, _, _⟩ := owns_some hown3 (fun e => by have := hnil3.1 e; simp at this)
                      have HNX := Lib.hid (STEP.out g3 q3 w6 hown3 hg3 (by
                        rcases hat3 with h | h
                        · left; rw [← h]; rfl
                        · right; simp [Value.ownBlock] at h; omega))
                      clear hown3 hg3 hnil3 hat3
                      exact ⟨⟨k + 1, m2 + 2, by omega, by omega, by go_num, fun j hj hji => by
                        by_cases e : j = k
                        · subst e; rw [← HX.out, ← HY.out]; exact HSM.out
                        · exact HNE.out j (by omega) hji, HNX.out⟩, by simp [intOf]; omega⟩
                  · have hd : decide ((k : Int) < (i : Int)) = false := decide_eq_false (by omega)
                    have hd2 : decide (k < i) = false := decide_eq_false hki
                    have HSM := Lib.hid hki
                    go_wp2_with (at_builtin; refine wpList_append_own_at _ rfl _ _ 36 rfl w.heap.size 44 i0 (.agg #[.string ⟨#[]⟩, .slice none 0 0]) 2 40 Try.underlying36 hi0 hzz hzs hzb rfl (by decide) (.slice va m2 vc) m2 vs rfl HOWN5.out ⟨wr.heap.size + 1 + 1 + 1 + 1, 0, none⟩ 2 2 [.string x, .slice (some ⟨wr.heap.size + 1 + 1, 0, none⟩) 2 2, .string x, .slice (some ⟨wr.heap.size + 1 + 1 + 1, 0, none⟩) 2 2] rfl rfl (World.news_of_block (by first | exact heap_alloc_new _ _ | (rw [show wr.heap.size + 1 + 1 + 1 + 1 = ((((wr.alloc (.cells #[.string ⟨#[]⟩, .slice none 0 0, .string ⟨#[]⟩, .slice none 0 0] 44 (0, 0))).alloc (.cells #[.string y, .slice (some ⟨wr.heap.size, 0, none⟩) 2 2] 44 (0, 0))).alloc (.cells #[.string y, .slice (some ⟨wr.heap.size, 0, none⟩) 2 2, .string ⟨#[]⟩, .slice none 0 0] 44 (0, 0))).alloc (.cells #[.string ⟨#[]⟩, .slice none 0 0, .string y, .slice (some ⟨wr.heap.size, 0, none⟩) 2 2] 44 (0, 0))).heap.size by simp]; exact heap_alloc_new _ _))) (by simp [Value.oneCell']) (by unfold maxLen; omega) (by omega) (by simp; omega) ?_; intro v3 w6 hown3 hg3 hnil3 hat3)
                    obtain ⟨g3, q3, rfl, _, _, _⟩ := owns_some hown3 (fun e => by have := hnil3.1 e; simp at this)
                    have HNX := Lib.hid (STEP.out g3 q3 w6 hown3 hg3 (by
                      rcases hat3 with h | h
                      · left; rw [← h]; rfl
                      · right; simp [Value.ownBlock] at h; omega))
                    clear hown3 hg3 hnil3 hat3
                    exact ⟨⟨k + 1, m2 + 2, by omega, by omega, by go_num, fun j hj hji => by
                      by_cases e : j = k
                      · subst e; exact absurd hji HSM.out
                      · exact HNE.out j (by omega) hji, HNX.out⟩, by simp [intOf]; omega⟩
                · have hkn : k = n := by omega
                  have HNX : Hid (∃ (i' m' : Nat), i' ≤ n ∧ m' ≤ 6 * i' ∧ (Value.int .i64 ((i : Int) + 1)) = .int .i64 i' ∧ (letAll (ss.take i')).isSome = true ∧ QAll ss w (fun cs => (cs.take i').flatMap (quadRow cs)) m' (.slice va m2 vc) wr) := Lib.hid (by
                    refine ⟨i + 1, m2, by omega, by omega, by simp, let_next hlts HLET.out HONE.out (fun j hj => HNE.out j (by omega) hj), HQ2.out.congr (fun cs hcs => ?_)⟩
                    obtain ⟨a1, a2, _, _⟩ := letters_at hcs hlts
                    obtain ⟨h1, _, _⟩ := lettersOf_ok hcs
                    have hlen : ss.length = cs.length := by
                      have := congrArg List.length h1.txt
                      rw [List.length_map] at this; exact this
                    have a3 : cs.getD i 0 = cs[i] := by rw [List.getD_eq_getElem?_getD, List.getElem?_eq_getElem a1]; rfl
                    rw [quadAll_take cs a1, a3, hkn, HNN.out, hlen, List.take_length]; rfl)
                  go_wp2_with fail
                  exact ⟨HNX.out, by simp [intOf]; omega⟩
        · have hne : ((x.size : Int) != 1) = true := by simp; omega
          have HF : Hid (quadsOf ss = none) := Lib.hid (quads_no (let_bad hlts (by rw [← HX.out]; exact let_one_size h1)))
          clear h1
          go_wp2_with fail
          go_ret2
          exact ⟨HB.out.alloc HB.out.size _, .inl ⟨HF.out, _, _, rfl⟩⟩
      · have hin2 : i = n := by omega
        obtain ⟨cs, hcs⟩ : ∃ cs, lettersOf ss = some cs := by
          have h := HLET.out
          rw [hin2, HNN.out, List.take_length] at h
          cases hc : letAll ss with
          | none => rw [hc] at h; cases h
          | some cs => exact ⟨cs, by rw [lettersOf, if_pos (by have := HNN.out; omega), hc]⟩
        obtain ⟨h1, h2, h3⟩ := lettersOf_ok hcs
        have hlen : ss.length = cs.length := by
          have := congrArg List.length h1.txt
          rw [List.length_map] at this; exact this
        have hqa : (cs.take i).flatMap (quadRow cs) = quadAll cs := by
          rw [hin2, HNN.out, hlen, List.take_length]; rfl
        have hrl : (quadAll cs).length = m := by rw [← hqa]; exact (HROW.out cs hcs).1
        have hrr : Row trS 44 w.heap.size (quadAll cs) (.slice va m vc) vs wo := by rw [← hqa]; exact (HROW.out cs hcs).2
        obtain ⟨gv, rfl, _⟩ := owns_addr HOWN.out HVA.out
        have hw := quad_wf h1.let_
        have HSO := Lib.hid (fun (W : World) (hb : Below wo.heap.size wo W) => l2Sort_any (quadAll cs) m hrl.symm gv vc W (by omega) (fun t ht => by have := hw t ht; exact ⟨this.1, by omega, by omega⟩) (quadRows_nodup h1.nodup cs h1.nodup) (hrr.rd.below (by decide) hb))
        have HEQ : Hid (quadsOf ss = some (downT (quadAll cs))) := Lib.hid (by rw [quadsOf, hcs]; rfl)
        have HWF : Hid (∀ t ∈ quadAll cs, t.wf) := Lib.hid (fun t ht => (hw t ht).1)
        have HRL := Lib.hid hrl
        clear h1 h2 h3 hlen hqa hrl hrr hcs hw
        go_wp2_with fail
        refine (HSO.out _ (Below.refl _ _)).mono ?_
        rintro e w1 ⟨us, hasc, hperm, hB1, g1, c1, rfl, hc1, hc2, hru⟩
        have HDN : Hid (us.reverse = downT (quadAll cs)) := Lib.hid (asc_down hasc hperm HWF.out)
        have HPL : Hid (us.length ≤ 1000) := Lib.hid (by rw [hperm.length_eq, HRL.out]; omega)
        obtain ⟨L, hL⟩ : ∃ L, L = us.length := ⟨_, rfl⟩
        rw [← hL] at hc1
        rw [← hL]
        have HLL := Lib.hid hL
        have hL1 : L ≤ 1000 := by rw [hL]; exact HPL.out
        have HRU := Lib.hid hru
        have HB1 := Lib.hid (below_step HB.out hB1)
        have hs1 : w.heap.size ≤ w1.heap.size := HB1.out.size
        clear hasc hperm hB1 hru hL
        go_wp2_with fail
        go_loopw [10, 11] (fun ov kv wr => ∃ (k j : Nat) (va : Option Addr) (vc : Nat) (vs : List Value), j + k = L ∧ va ≠ none ∧ kv = .int .i64 ((k : Int) - 1) ∧ ov = .slice va j vc ∧ (us.reverse.take j).length = j ∧ Row trS 44 w1.heap.size (us.reverse.take j) (.slice va j vc) vs wr ∧ Below w1.heap.size w1 wr) (fun _ kv _ => (intOf kv + 1).toNat)
        case atStart =>
          refine ⟨L, 0, some ⟨w1.heap.size, 0, none⟩, 0, [], by omega, by simp, rfl, rfl, by simp, ?_, (Below.refl _ _).alloc (Nat.le_refl _) _⟩
          exact ⟨World.ownsRow_made w1 #[] 0 (Nat.le_refl _) (by simp [maxLen]) rfl, fun _ h => by simp at h⟩
        case round =>
          obtain ⟨k, j, va, vc, vs, hjk, hva, rfl, rfl, hjl, hrow, hB⟩ := hrel
          have HVA := Lib.hid hva
          have HJL := Lib.hid hjl
          have HROW := Lib.hid hrow
          have HBR := Lib.hid hB
          have hszr : w1.heap.size ≤ wr.heap.size := hB.size
          cases k with
          | zero =>
            have hjL : j = L := by omega
            obtain ⟨gv, rfl, _⟩ := owns_addr HROW.out.own HVA.out
            obtain ⟨_, _, e5, q1, q2, _⟩ := owns_some HROW.out.own (by simp)
            simp only [Value.slice.injEq] at e5
            obtain ⟨_, _, rfl⟩ := e5
            rw [HJL.out] at q1
            have HQ12 := Lib.hid (And.intro q1 q2)
            have HFIN : Hid (us.reverse.take j = downT (quadAll cs)) := Lib.hid (by rw [hjL, HLL.out, ← List.length_reverse, List.take_length]; exact HDN.out)
            clear hva hjl hrow hB q1 q2
            go_wp2_with fail
            go_ret2
            refine ⟨below_step HB1.out HBR.out, .inr ⟨_, gv, vc, HEQ.out, ?_, ?_, HQ12.out.2, ?_⟩⟩
            · rw [← HFIN.out, HJL.out]; rfl
            · rw [← HFIN.out, HJL.out]; exact HQ12.out.1
            · rw [← HFIN.out]; exact HROW.out.rd
          | succ k =>
            have hku : k < us.length := by rw [← HLL.out]; omega
            obtain ⟨g1', lb, sa, sn, sc, eg1, _, d1, d2, hwt, hrt⟩ := trS.get (HRU.out.below (by decide) hB) k hku
            cases eg1
            have hrt := (trS.get ((HRU.out.weak (P' := fun b => b < w1.heap.size) (by decide) (fun _ _ h => h)).below (by decide) hB) k hku)
            obtain ⟨g1', lb', sa', sn', sc', eg1, _, d1', d2', hwt, hrt⟩ := hrt
            cases eg1
            rw [d1] at d1'
            rw [d2] at d2'
            cases d1'
            cases d2'
            have HUK : Hid (us.reverse.take (j + 1) = us.reverse.take j ++ [us[k]]) := Lib.hid (by
              rw [List.take_succ_eq_append_getElem (by rw [List.length_reverse, ← HLL.out]; omega)]
              congr 2
              rw [List.getElem_reverse]
              congr 1
              have := HLL.out; omega)
            obtain ⟨t, ht⟩ : ∃ t, t = us[k] := ⟨_, rfl⟩
            rw [← ht] at hwt hrt HUK
            have hrx := hrt.keep (P' := fun b => (Value.slice va j vc).ownBlock ≠ some b) (fun _ _ _ h => h) (fun b hb _ e => by have := (HROW.out.own.lt b e).1; omega) hwt
            have HRX := Lib.hid hrx
            have HWT := Lib.hid hwt
            have e1 : ((k + 1 : Nat) : Int) - 1 = (k : Int) := by omega
            rw [e1]
            have k0 : (0 : Int) ≤ (k : Int) := by omega
            have kL : (k : Int) < (L : Int) := by omega
            have OWN := HROW.out.own
            rw [HJL.out] at OWN
            have HOWN := Lib.hid OWN
            have HOA := Lib.hid (World.ownsRow.alloc OWN (.cells #[.string lb, .slice sa sn sc] 44 (0, 0)))
            clear hva hjl hrow hB ht hrt hrx hwt e1 OWN
            go_wp2_with (at_builtin; refine wpList_append_own_at _ rfl _ _ 36 rfl w1.heap.size 44 i0 (.agg #[.string ⟨#[]⟩, .slice none 0 0]) 2 40 Try.underlying36 hi0 hzz hzs hzb rfl (by decide) (.slice va j vc) j vs rfl HOA.out ⟨wr.heap.size, 0, none⟩ 1 1 [.string lb, .slice sa sn sc] rfl rfl (World.news_of_block (heap_alloc_new _ _)) (by simp [Value.oneCell']) (by unfold maxLen; omega) (by omega) (by simp; omega) ?_; intro v3 w6 hown3 hg3 hnil3 hat3)
            obtain ⟨g3, q3, rfl, _, _, _⟩ := owns_some hown3 (fun e => by have := hnil3.1 e; simp at this)
            have NX : Row trS 44 w1.heap.size (us.reverse.take (j + 1)) (.slice (some ⟨g3, 0, none⟩) (j + 1) q3) (vs ++ [.string lb, .slice sa sn sc]) w6 := by
              have h := HROW.out.next (a := t) (g := g3) (cap := q3) (w1 := wr) (w1' := wr.alloc (.cells #[.string lb, .slice sa sn sc] 44 (0, 0))) (Below.refl _ _) ⟨lb, sa, sn, sc, rfl, HWT.out, HRX.out⟩ ((Below.refl _ _).alloc (Nat.le_refl _) _) (by rw [HJL.out]; exact hown3) hg3 (by
                rcases hat3 with h | h
                · left; rw [← h]; rfl
                · right; simp [Value.ownBlock] at h; omega)
              rw [HJL.out, ← HUK.out] at h
              exact h
            have HNX := Lib.hid NX
            have BB := Lib.hid ((HBR.out.alloc (by omega) (.cells #[.string lb, .slice sa sn sc] 44 (0, 0))).grown hg3 (by simp; omega) (fun q e => by have := (HOWN.out.lt q e).1; omega))
            clear NX hown3 hg3 hnil3 hat3
            exact ⟨⟨k, j + 1, some ⟨g3, 0, none⟩, q3, _, by omega, by simp, by first | rfl | go_num, rfl, by rw [HUK.out, List.length_append, HJL.out]; rfl, HNX.out, BB.out⟩, by simp [intOf]⟩
  · have HBN := Lib.hid (decide_eq_false hin)
    have HF : Hid (quadsOf ss = none) := Lib.hid (quads_no (by unfold lettersOf; rw [if_neg (fun h => hin (by have := HNN.out; omega))]))
    clear hin
    go_enter Try.func21, Try.ntmps21
    go_wp2_with (go_at_call 32; refine (l6In_any _ _ _ _).mono ?_; rintro e w' ⟨rfl, rfl⟩; rw [HBN.out])
    go_ret2
    exact ⟨(Below.refl _ _).alloc (Nat.le_refl _) _, .inl ⟨HF.out, _, _, rfl⟩⟩
/-- What 'QuadTrees' answers, the model's. -/
def SList2 (ps : List (List UInt8)) (b : Bool) (w : World) (e : Ending) (w' : World) : Prop :=
  Below w.heap.size w w' ∧ ∃ a cap, e = .returned (.tuple #[.slice a ps.length cap, .bool b]) ∧ Lies w' a ps

def quadTx (ss : List ByteArray) : List (List UInt8) := ((quadsOf ss).getD []).map T.text

end Go.Proofs.Ytapobhnhnldlkaa
