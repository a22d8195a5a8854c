/- The program's reader walked: '(*treeReader).node' and '(*treeReader).tree' give what 'rd' gives, counted. -/
import Derived.Test.YtmmfcljkcepahaaReadI
namespace Go.Proofs.Ytmmfcljkcepahaa
open Go.RowKit

/-- The reader of a tree, as a contract at one fuel. -/
def TreeSaid (f : Nat) : Prop := ∀ (r : Nat) (s : ByteArray) (i L N : Nat) (w : World), s.size ≤ 140737488351232 → i ≤ s.size → L ≤ 12 → N ≤ 16 → 17 ≤ N + f → RB w r s i L N →
  Calls Try.prog 138 #[.pointer (some ⟨r, 0, none⟩)] w (RePost (lim L N (rd f (s.data.toList.drop i))) r s i L N w)

theorem re_none {o : Option (T × List UInt8)} {r : Nat} {s : ByteArray} {i L N i' L' N' : Nat} {w w' : World} (hg : w.grownBy w' (some r)) (hi : i' ≤ s.size) (hb : RB w' r s i' L' N') (ho : o = none) :
    RePost o r s i L N w (.returned (.tuple #[.nilIface, .bool false])) w' := ⟨hg, i', L', N', hi, hb, .inl ⟨ho, rfl⟩⟩

set_option maxRecDepth 100000 in
set_option maxHeartbeats 1000000 in
theorem node_noletter (r : Nat) (s : ByteArray) (i L N f : Nat) (w : World) (hs : s.size ≤ 140737488351232) (hi : i ≤ s.size) (hb : RB w r s i L (N + 1)) (hc : ∀ h : i < s.size, (s[i].toNat : Int) < 97 ∨ 104 < (s[i].toNat : Int)) :
    Calls Try.prog 170 #[.pointer (some ⟨r, 0, none⟩)] w (RePost (lim L N (rd (f + 1) (40 :: s.data.toList.drop i))) r s i L N w) := by
  have ho : lim L N (rd (f + 1) (40 :: s.data.toList.drop i)) = none := by
    by_cases h : i < s.size
    · have := hc h
      rw [drop_at h, rd_letter (by omega), lim_none]
    · rw [drop_end (by omega), rd_short, lim_none]
  have hlet : Calls Try.prog 200 #[.pointer (some ⟨r, 0, none⟩)] w (LetNo r s i L (N + 1) w) := by
    by_cases h : i < s.size
    · rcases hc h with h1 | h1
      · exact letter_low r s i L (N + 1) w hb hs h h1
      · exact letter_high r s i L (N + 1) w hb hs h h1
    · exact letter_end r s i L (N + 1) w hb hs (by omega)
  have HO := Lib.hid ho
  have HL := Lib.hid hlet
  clear ho hlet hc
  go_enter Try.func170, Try.ntmps170
  go_wp2_with fail
  refine HL.out.mono ?_
  rintro e w1 ⟨rfl, hb1, hg1, hs1⟩
  go_wp2_with fail
  go_ret2
  exact re_none hg1 hi hb1 HO.out

set_option maxRecDepth 100000 in
set_option maxHeartbeats 1000000 in
theorem node_walk (r : Nat) (s : ByteArray) (i L N f : Nat) (w : World) (hs : s.size ≤ 140737488351232) (hi : i < s.size) (hL : L ≤ 12) (hN : N + 1 ≤ 16) (hf : 17 ≤ N + 1 + f) (hb : RB w r s i L (N + 1)) (hc : 97 ≤ (s[i].toNat : Int)) (hc' : (s[i].toNat : Int) ≤ 104) (ih : TreeSaid f) :
    Calls Try.prog 170 #[.pointer (some ⟨r, 0, none⟩)] w (RePost (lim L N (rd (f + 1) (40 :: s.data.toList.drop i))) r s i L N w) := by
  obtain ⟨c, hcc⟩ : ∃ c, c = s[i] := ⟨_, rfl⟩
  have ho : rd (f + 1) (40 :: s.data.toList.drop i) = shut c (kidsA (rd f) (s.data.toList.drop (i + 1)).length [] (s.data.toList.drop (i + 1))) := by
    rw [drop_at hi, ← hcc, rd_node (by rw [hcc]; omega) (by rw [hcc]; omega)]
  have HL := Lib.hid (letter_yes r s i L (N + 1) w hb hs hi hc hc')
  rw [← hcc] at HL
  have HO := Lib.hid ho
  have HC : Hid (97 ≤ c.toNat ∧ c.toNat ≤ 104) := Lib.hid (by rw [hcc]; omega)
  have hr0 := hb.lt
  clear ho hc hc' hcc
  go_enter Try.func170, Try.ntmps170
  go_wp2_with fail
  refine HL.out.mono ?_
  rintro e w1 ⟨rfl, hb1, hg1, hs1⟩
  have hz1 := hs1
  have HS1 := Lib.hid hs1
  clear hs1 hz1
  go_wp2_with fail
  go_loopg [6] (s.size - (i + 1)) (fun k v wr => ∃ (j L1 N1 : Nat) (acc : List T) (va : Option Addr) (vn vc : Nat) (xs : List Value), v = .slice va vn vc ∧ j ≤ s.size ∧ k = s.size - j ∧ KidRelI w r s i f L N j L1 N1 acc (.slice va vn vc) xs wr)
  case atStart => exact ⟨i + 1, L, N + 1, [], _, _, _, [], rfl, hi, rfl, KidRelI.start hb1 hg1 HS1.out hL hN⟩
  case round =>
    obtain ⟨j, L1, N1, acc, va, vn, vc, xs, rfl, hj, rfl, hrel⟩ := hrel
    have hvn : vn = acc.length := by obtain ⟨a, m, c', e, e'⟩ := owns_slice hrel.2.1; simp at e; omega
    subst hvn
    have HK := Lib.hid hrel
    have rb := hrel.1
    have hal : acc.length ≤ 6 := hrel.2.2.2.2.1
    have hL1 : L1 ≤ 12 := hrel.2.2.2.2.2.2.2.1
    have hN1 : N1 ≤ 16 := hrel.2.2.2.2.2.2.2.2.1
    have hNge : N + 1 ≤ N1 := by have := hrel.2.2.2.2.2.2.1; omega
    have hgB := hrel.2.2.2.2.2.2.2.2.2.2
    clear hrel
    by_cases hlt : j < s.size
    · by_cases h32 : s[j] = 32
      · have HT := Lib.hid (take_yes r s j L1 N1 32 32 wr rb hs hlt rfl h32)
        have H32 := Lib.hid h32
        clear h32
        go_wp2_with fail
        refine HT.out.mono ?_
        rintro e wa ⟨rfl, rba, hga, hsa⟩
        have HSA := Lib.hid hsa
        clear hsa
        go_wp2_with fail
        refine (ih r s (j + 1) L1 N1 wa hs (by omega) hL1 hN1 (by omega) rba).mono ?_
        rintro e wb ⟨hgb, i', L', N', hi', rbb, hres⟩
        rcases hres with ⟨hno, rfl⟩ | ⟨t, ty, a, hyes, htw, hjt, hL', hN', hL2, hN2, rfl, hrep⟩
        · have HN := Lib.hid hno
          clear hno
          go_wp2_with fail
          go_ret2
          exact re_none (grownBy_trans hgB (grownBy_trans hga hgb)) hi' rbb (by rw [HO.out]; exact HK.out.fail HN.out hlt H32.out)
        · have hyes2 : rd f (s.data.toList.drop (j + 1)) = some (t, s.data.toList.drop i') := by
            cases hq : rd f (s.data.toList.drop (j + 1)) with
            | none => rw [hq] at hyes; cases hyes
            | some p =>
              obtain ⟨t', q⟩ := p
              rw [hq, lim] at hyes
              split at hyes
              · exact hyes
              · cases hyes
          have HY := Lib.hid hyes2
          have HLL := Lib.hid hL'
          have HNN := Lib.hid hN'
          clear hyes hyes2 hL' hN'
          by_cases h6 : acc.length = 6
          · have h6' : ((acc.length : Int) == 6) = true := by simp; omega
            have H6 := Lib.hid h6
            clear h6
            go_wp2_with fail
            go_ret2
            exact re_none (grownBy_trans hgB (grownBy_trans hga hgb)) hi' rbb (by rw [HO.out, HK.out.many HY.out hlt H32.out H6.out]; rfl)
          · have h6' : ((acc.length : Int) == 6) = false := by simp; omega
            have h66 : acc.length < 6 := by omega
            obtain ⟨i0, hi0, hz, hzs, hzb⟩ := info_parts info46
            have own1 := Lib.hid ((owns_kept_some (owns_kept_some HK.out.2.1 hga hr0) hgb hr0).alloc (.cells #[.iface ty (.pointer (some a))] 107 (0, 0)))
            have hsz : w.heap.size ≤ wb.heap.size := by have h1 := hgB.size; have h2 := hga.size; have h3 := hgb.size; omega
            clear h6
            go_wp2_with (at_builtin; refine wpList_append_new _ rfl _ _ 135 rfl w.heap.size 107 i0 .nilIface 1 16 Try.underlying135 hi0 hz hzs hzb rfl (by decide) _ _ _ rfl own1.out ⟨wb.heap.size, 0, none⟩ 1 1 [.iface ty (.pointer (some a))] (by decide) rfl ?c1 ?c2 ?c3 ?c4 ?c5 ?c6 ?_)
            case c1 => rfl
            case c2 => exact cells_one rfl _
            case c3 => simp [Value.oneCell']
            case c4 => unfold maxLen; omega
            case c5 => omega
            case c6 => simp; omega
            intro g cap wc hown' hg hf
            have NX := Lib.hid (HK.out.next hr0 hga HSA.out hgb rbb hrep htw HY.out HLL.out HNN.out hL2 hN2 hjt hlt H32.out h66 hown' hg (by simpa using hf))
            clear hown' hg hf
            go_wp2_with fail
            go_roundg (s.size - i')
            case measure => omega
            case rel => exact ⟨i', L', N', acc ++ [t], some ⟨g, 0, none⟩, acc.length + 1, cap, _, rfl, hi', rfl, NX.out⟩
      · have HX : Hid (Calls Try.prog 169 #[.pointer (some ⟨r, 0, none⟩), .int .u8 32] wr (TakeNo r s j L1 N1 wr)) := Lib.hid (take_other r s j L1 N1 32 32 wr rb hs hlt rfl h32)
        have HD := Lib.hid (HK.out.done (fun _ => h32))
        by_cases h0 : acc.length = 0
        · have h0' : ((acc.length : Int) == 0) = true := by rw [h0]; rfl
          have hno : lim L N (rd (f + 1) (40 :: s.data.toList.drop i)) = none := by
            rw [HO.out, HD.out]
            cases hd : s.data.toList.drop j with
            | nil => rfl
            | cons x q => rw [shut, if_neg (fun h => by have := h.2.1; omega)]; rfl
          have HN := Lib.hid hno
          clear hno h0 h32
          go_wp2_with fail
          refine HX.out.mono ?_
          rintro e wa ⟨rfl, rba, hga, hsa⟩
          have HSA := Lib.hid hsa
          clear hsa
          go_wp2_with fail
          go_ret2
          exact re_none (grownBy_trans hgB hga) hj rba HN.out
        · have h0' : ((acc.length : Int) == 0) = false := beq_eq_false_iff_ne.2 (by omega)
          by_cases h41 : s[j] = 41
          · have hyes : lim L N (rd (f + 1) (40 :: s.data.toList.drop i)) = some (.node c acc, s.data.toList.drop (j + 1)) := by
              rw [HO.out, HD.out, drop_at hlt, shut, if_pos ⟨h41, by omega, hal⟩, lim, if_pos]
              have h1 := HK.out.2.2.2.2.2.1
              have h2 := HK.out.2.2.2.2.2.2.1
              simp only [T.leaves, T.nodes]
              omega
            have HY := Lib.hid hyes
            have H41 := Lib.hid h41
            have H0 := Lib.hid h0
            clear hyes h41 h0 h32
            go_wp2_with fail
            refine HX.out.mono ?_
            rintro e wa ⟨rfl, rba, hga, hsa⟩
            have HSA := Lib.hid hsa
            clear hsa
            go_wp2_with fail
            refine (take_yes r s j L1 N1 41 41 wa rba hs hlt rfl H41.out).mono ?_
            rintro e wb ⟨rfl, rbb, hgb, hsb⟩
            have HSB := Lib.hid hsb
            clear hsb
            go_wp2_with fail
            go_ret2
            have h1 := HK.out.2.2.2.2.2.1
            have h2 := HK.out.2.2.2.2.2.2.1
            have hji : i < j + 1 := by
              have hsuf := HD.out
              have hl := kidsA_some (rd_some f) _ _ _ _ _ hsuf
              obtain ⟨more, _, _, e3⟩ := hl
              have := congrArg List.length e3
              simp only [List.length_append, drop_len] at this
              omega
            exact ⟨grownBy_below (grownBy_trans hgB (grownBy_trans hga hgb)) ((Below.refl _ _).alloc (Nat.le_refl _) _), j + 1, L1, N1, by omega, rbb.alloc _,
              .inr ⟨_, _, _, HY.out, by rw [T.wf]; exact ⟨HC.out.1, HC.out.2, by have := H0.out; omega, hal, HK.out.2.2.2.1⟩, hji, by rw [T.leaves]; exact h1, by rw [T.nodes]; omega, hL1, hN1, rfl, HK.out.rep hr0 (by have := H0.out; omega) (grownBy_trans hga hgb)⟩⟩
          · have hno : lim L N (rd (f + 1) (40 :: s.data.toList.drop i)) = none := by
              rw [HO.out, HD.out, drop_at hlt, shut, if_neg (fun h => h41 h.1)]; rfl
            have HN := Lib.hid hno
            have H41 := Lib.hid h41
            clear hno h41 h0 h32
            go_wp2_with fail
            refine HX.out.mono ?_
            rintro e wa ⟨rfl, rba, hga, hsa⟩
            have HSA := Lib.hid hsa
            clear hsa
            go_wp2_with fail
            refine (take_other r s j L1 N1 41 41 wa rba hs hlt rfl H41.out).mono ?_
            rintro e wb ⟨rfl, rbb, hgb, hsb⟩
            have HSB := Lib.hid hsb
            clear hsb
            go_wp2_with fail
            go_ret2
            exact re_none (grownBy_trans hgB (grownBy_trans hga hgb)) hj rbb HN.out
    · have HX : Hid (Calls Try.prog 169 #[.pointer (some ⟨r, 0, none⟩), .int .u8 32] wr (TakeNo r s j L1 N1 wr)) := Lib.hid (take_end r s j L1 N1 32 wr rb hs (by omega))
      have HD := Lib.hid (HK.out.done (fun h => absurd h hlt))
      by_cases h0 : acc.length = 0
      · have h0' : ((acc.length : Int) == 0) = true := by rw [h0]; rfl
        have hno : lim L N (rd (f + 1) (40 :: s.data.toList.drop i)) = none := by
          rw [HO.out, HD.out]
          cases hd : s.data.toList.drop j with
          | nil => rfl
          | cons x q => rw [shut, if_neg (fun h => by have := h.2.1; omega)]; rfl
        have HN := Lib.hid hno
        clear hno h0
        go_wp2_with fail
        refine HX.out.mono ?_
        rintro e wa ⟨rfl, rba, hga, hsa⟩
        have HSA := Lib.hid hsa
        clear hsa
        go_wp2_with fail
        go_ret2
        exact re_none (grownBy_trans hgB hga) hj rba HN.out
      · have h0' : ((acc.length : Int) == 0) = false := beq_eq_false_iff_ne.2 (by omega)
        have hno : lim L N (rd (f + 1) (40 :: s.data.toList.drop i)) = none := by
          rw [HO.out, HD.out, drop_end (by omega)]; rfl
        have HN := Lib.hid hno
        clear hno h0
        go_wp2_with fail
        refine HX.out.mono ?_
        rintro e wa ⟨rfl, rba, hga, hsa⟩
        have HSA := Lib.hid hsa
        clear hsa
        go_wp2_with fail
        refine (take_end r s j L1 N1 41 wa rba hs (by omega)).mono ?_
        rintro e wb ⟨rfl, rbb, hgb, hsb⟩
        have HSB := Lib.hid hsb
        clear hsb
        go_wp2_with fail
        go_ret2
        exact re_none (grownBy_trans hgB (grownBy_trans hga hgb)) hj rbb HN.out

end Go.Proofs.Ytmmfcljkcepahaa
