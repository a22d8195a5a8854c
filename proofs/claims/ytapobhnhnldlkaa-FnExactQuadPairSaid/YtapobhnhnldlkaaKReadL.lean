/- Merged out of: XKReadIC, XLawA. -/
import Derived.Test.YtapobhnhnldlkaaKReadIB
import Derived.Test.YtapobhnhnldlkaaSpecA
import Derived.ProofKit
section
/- Merged out of: XReadIC, XSizeI, XLawAC. -/
section
/- The program's reader: '(*treeReader).tree' and 'readTree'. -/
namespace Go.Proofs.Ytapobhnhnldlkaa
open Go.RowKit

/-- The node's contract at one fuel. -/
theorem node_any (r : Nat) (s : ByteArray) (i L N f : Nat) (w : World) (hs : s.size ≤ 140737488351232) (hi : i ≤ s.size) (hL : L ≤ 12) (hN : N + 1 ≤ 16) (hf : 17 ≤ N + 1 + f) (hb : RB w r s i L (N + 1)) (ih : TreeSaid f) :
    Calls Try.prog 84 #[.pointer (some ⟨r, 0, none⟩)] w (RePost (lim L N (rd (f + 1) (40 :: s.data.toList.drop i))) r s i L N w) := by
  by_cases hc : ∃ h : i < s.size, 97 ≤ (s[i].toNat : Int) ∧ (s[i].toNat : Int) ≤ 104
  · obtain ⟨h1, h2, h3⟩ := hc
    exact node_walk r s i L N f w hs h1 hL hN hf hb h2 h3 ih
  · refine node_noletter r s i L N f w hs hi hb (fun h => ?_)
    have : ¬ (97 ≤ (s[i].toNat : Int) ∧ (s[i].toNat : Int) ≤ 104) := fun e => hc ⟨h, e⟩
    omega

/-- Neither a star nor a parenthesis is taken. -/
theorem lim_other {s : ByteArray} {i L N f : Nat} (hi : i ≤ s.size) (h42 : ∀ h : i < s.size, s[i] = 42 → ¬ L < 12) (h40 : ∀ h : i < s.size, s[i] = 40 → ¬ N < 16) : lim L N (rd (f + 1) (s.data.toList.drop i)) = none := by
  by_cases hlt : i < s.size
  · rw [drop_at hlt]
    by_cases h1 : s[i] = 42
    · rw [h1, show rd (f + 1) (42 :: s.data.toList.drop (i + 1)) = some (.leaf, s.data.toList.drop (i + 1)) from by simp [rd], lim, if_neg]
      have := h42 hlt h1
      simp only [T.leaves]; omega
    · by_cases h2 : s[i] = 40
      · have h3 := h40 hlt h2
        cases hr : rd (f + 1) (s[i] :: s.data.toList.drop (i + 1)) with
        | none => rfl
        | some p =>
          obtain ⟨t, q⟩ := p
          obtain ⟨hw, ht⟩ := rd_some _ _ _ _ hr
          rw [lim, if_neg]
          cases t with
          | leaf => rw [h2] at ht; simp [T.text] at ht
          | node c ks => simp only [T.nodes]; omega
      · rw [rd_other h1 h2, lim]
  · rw [drop_end (by omega)]; rfl

theorem re_shape {o : Option (T × List UInt8)} {r : Nat} {s : ByteArray} {i L N : Nat} {w w' : World} {e : Ending} (h : RePost o r s i L N w e w') :
    e = .returned (.tuple #[.nilIface, .bool false]) ∨ ∃ ty a, e = .returned (.tuple #[.iface ty (.pointer (some a)), .bool true]) := by
  obtain ⟨_, i', L', N', _, _, h | ⟨t, ty, a, _, _, _, _, _, _, _, h, _⟩⟩ := h
  · exact .inl h.2
  · exact .inr ⟨ty, a, h⟩

/-- A byte is taken or is not. -/
theorem take_no (r : Nat) (s : ByteArray) (i L N : Nat) (c : UInt8) (n : Int) (w : World) (hb : RB w r s i L N) (hs : s.size ≤ 140737488351232) (hi : i ≤ s.size) (hn : n = (c.toNat : Int)) (hc : ∀ h : i < s.size, s[i] ≠ c) :
    Calls Try.prog 83 #[.pointer (some ⟨r, 0, none⟩), .int .u8 n] w (TakeNo r s i L N w) := by
  by_cases h : i < s.size
  · exact take_other r s i L N c n w hb hs h hn (hc h)
  · exact take_end r s i L N n w hb hs (by omega)

set_option maxRecDepth 100000 in
set_option maxHeartbeats 1000000 in
theorem tree_leaf (r : Nat) (s : ByteArray) (i L N f : Nat) (w : World) (hs : s.size ≤ 140737488351232) (hi : i < s.size) (hL : L < 12) (hN : N ≤ 16) (hb : RB w r s i L N) (h42 : s[i] = 42) :
    Calls Try.prog 81 #[.pointer (some ⟨r, 0, none⟩)] w (RePost (lim L N (rd (f + 1) (s.data.toList.drop i))) r s i L N w) := by
  have ho : lim L N (rd (f + 1) (s.data.toList.drop i)) = some (.leaf, s.data.toList.drop (i + 1)) := by
    rw [drop_at hi, h42, show rd (f + 1) (42 :: s.data.toList.drop (i + 1)) = some (.leaf, s.data.toList.drop (i + 1)) from by simp [rd], lim, if_pos]
    simp only [T.leaves, T.nodes]; omega
  have HO := Lib.hid ho
  have HT := Lib.hid (take_yes r s i L N 42 42 w hb hs hi rfl h42)
  obtain ⟨c0, c1, c2, c3, f1, f2, f3⟩ := hb.cells
  have hr0 := hb.lt
  clear ho h42 hb
  go_enter Try.func81, Try.ntmps81
  go_wp2_with fail
  refine HT.out.mono ?_
  rintro e wa ⟨rfl, rba, hga, hsa⟩
  have HSA := Lib.hid hsa
  obtain ⟨d0, d1, d2, d3, g1, g2, g3⟩ := rba.cells
  have HRB := Lib.hid rba
  clear hsa rba c0 c1 c2 c3 f1 f2 f3
  go_wp2_with fail
  go_ret2
  have h1 := heap_setCell_same (k := 2) HRB.out (.int .i64 (L + 1))
  have h2 : RB (wa.setCell ⟨r, 2, none⟩ (.int .i64 (L + 1))) r s (i + 1) (L + 1) N := by
    unfold RB
    refine Eq.trans h1 ?_
    rfl
  refine ⟨grownBy_below (grownBy_setCell hga _) ((Below.refl _ _).alloc (Nat.le_refl _) _), i + 1, L + 1, N, by omega, h2.alloc _, .inr ⟨.leaf, _, _, HO.out, by simp [T.wf], by omega, by simp [T.leaves], by simp [T.nodes], by omega, hN, rfl, ?_⟩⟩
  rw [RepI]

set_option maxRecDepth 100000 in
set_option maxHeartbeats 1000000 in
theorem tree_none (r : Nat) (s : ByteArray) (i L N f : Nat) (w : World) (hs : s.size ≤ 140737488351232) (hi : i ≤ s.size) (hL : L ≤ 12) (hN : N ≤ 16) (hb : RB w r s i L N) (h42 : ∀ h : i < s.size, s[i] = 42 → ¬ L < 12) (h40 : ∀ h : i < s.size, s[i] = 40 → ¬ N < 16) :
    Calls Try.prog 81 #[.pointer (some ⟨r, 0, none⟩)] w (RePost (lim L N (rd (f + 1) (s.data.toList.drop i))) r s i L N w) := by
  have HO := Lib.hid (lim_other (f := f) hi h42 h40)
  obtain ⟨c0, c1, c2, c3, f1, f2, f3⟩ := hb.cells
  have HB := Lib.hid hb
  by_cases hl : L < 12
  · have HT := Lib.hid (take_no r s i L N 42 42 w hb hs hi rfl (fun h e => h42 h e hl))
    by_cases hn : N < 16
    · have HU : Hid (∀ w, RB w r s i L N → Calls Try.prog 83 #[.pointer (some ⟨r, 0, none⟩), .int .u8 40] w (TakeNo r s i L N w)) := Lib.hid (fun w hb => take_no r s i L N 40 40 w hb hs hi rfl (fun h e => h40 h e hn))
      clear h42 h40 hb
      go_enter Try.func81, Try.ntmps81
      go_wp2_with fail
      refine HT.out.mono ?_
      rintro e wa ⟨rfl, rba, hga, hsa⟩
      have HSA := Lib.hid hsa
      obtain ⟨d0, d1, d2, d3, g1, g2, g3⟩ := rba.cells
      clear hsa c0 c1 c2 c3 f1 f2 f3
      go_wp2_with fail
      refine (HU.out wa rba).mono ?_
      rintro e wb ⟨rfl, rbb, hgb, hsb⟩
      have HSB := Lib.hid hsb
      clear hsb
      go_wp2_with fail
      go_ret2
      exact re_none (grownBy_trans hga hgb) hi rbb HO.out
    · clear h42 h40 hb
      have hn16 : decide ((N : Int) < 16) = false := decide_eq_false (by omega)
      go_enter Try.func81, Try.ntmps81
      go_wp2_with fail
      refine HT.out.mono ?_
      rintro e wa ⟨rfl, rba, hga, hsa⟩
      have HSA := Lib.hid hsa
      obtain ⟨d0, d1, d2, d3, g1, g2, g3⟩ := rba.cells
      clear hsa c0 c1 c2 c3 f1 f2 f3
      go_wp2_with fail
      go_ret2
      exact re_none hga hi rba HO.out
  · have hl12 : decide ((L : Int) < 12) = false := decide_eq_false (by omega)
    by_cases hn : N < 16
    · have HU := Lib.hid (take_no r s i L N 40 40 w hb hs hi rfl (fun h e => h40 h e hn))
      clear h42 h40 hb
      go_enter Try.func81, Try.ntmps81
      go_wp2_with fail
      refine HU.out.mono ?_
      rintro e wb ⟨rfl, rbb, hgb, hsb⟩
      have HSB := Lib.hid hsb
      clear hsb
      go_wp2_with fail
      go_ret2
      exact re_none hgb hi rbb HO.out
    · clear h42 h40 hb
      have hn16 : decide ((N : Int) < 16) = false := decide_eq_false (by omega)
      go_enter Try.func81, Try.ntmps81
      go_wp2_with fail
      go_ret2
      exact re_none (grownBy_refl _ _) hi HB.out HO.out

set_option maxRecDepth 100000 in
set_option maxHeartbeats 1000000 in
theorem tree_node (r : Nat) (s : ByteArray) (i L N f : Nat) (w : World) (hs : s.size ≤ 140737488351232) (hi : i < s.size) (hL : L ≤ 12) (hN : N < 16) (hf : 17 ≤ N + (f + 1)) (hb : RB w r s i L N) (h40 : s[i] = 40) (ih : TreeSaid f) :
    Calls Try.prog 81 #[.pointer (some ⟨r, 0, none⟩)] w (RePost (lim L N (rd (f + 1) (s.data.toList.drop i))) r s i L N w) := by
  have HO : Hid (s.data.toList.drop i = 40 :: s.data.toList.drop (i + 1)) := Lib.hid (by rw [drop_at hi, h40])
  obtain ⟨c0, c1, c2, c3, f1, f2, f3⟩ := hb.cells
  have HU : Hid (∀ w, RB w r s i L N → Calls Try.prog 83 #[.pointer (some ⟨r, 0, none⟩), .int .u8 40] w (TakeYes r s i L N w)) := Lib.hid (fun w hb => take_yes r s i L N 40 40 w hb hs hi rfl h40)
  have HN : Hid (∀ w, RB w r s (i + 1) L (N + 1) → Calls Try.prog 84 #[.pointer (some ⟨r, 0, none⟩)] w (RePost (lim L N (rd (f + 1) (40 :: s.data.toList.drop (i + 1)))) r s (i + 1) L N w)) :=
    Lib.hid (fun w hb => node_any r s (i + 1) L N f w hs (by omega) hL (by omega) (by omega) hb ih)
  have HT := Lib.hid (take_no r s i L N 42 42 w hb hs (by omega) rfl (fun h e => by rw [h40] at e; cases e))
  have HB := Lib.hid hb
  have hr0 := hb.lt
  clear h40 ih
  have fin : ∀ (wa : World), w.grownBy wa (some r) → RB wa r s (i + 1) L N → ∀ e wz, RePost (lim L N (rd (f + 1) (40 :: s.data.toList.drop (i + 1)))) r s (i + 1) L N (wa.setCell ⟨r, 3, none⟩ (.int .i64 (N + 1))) e wz → RePost (lim L N (rd (f + 1) (s.data.toList.drop i))) r s i L N w e wz := by
    intro wa hga rba e wz hp
    obtain ⟨hg, i', L', N', hi', hrb, hres⟩ := hp
    refine ⟨grownBy_trans (grownBy_setCell hga _) hg, i', L', N', hi', hrb, ?_⟩
    rw [HO.out]
    rcases hres with h | ⟨t, ty, a, e1, e2, e3, e4, e5, e6, e7, e8, e9⟩
    · exact .inl h
    · refine .inr ⟨t, ty, a, e1, e2, by omega, e4, e5, e6, e7, e8, ?_⟩
      refine e9.keep (fun _ _ _ h => h) (fun b hb' _ => ?_) e2
      have := hga.size
      simp at hb'; omega
  have rbs : ∀ (wa : World), RB wa r s (i + 1) L N → RB (wa.setCell ⟨r, 3, none⟩ (.int .i64 (N + 1))) r s (i + 1) L (N + 1) := by
    intro wa rba
    have h1 := heap_setCell_same (k := 3) rba (.int .i64 (N + 1))
    unfold RB
    refine Eq.trans h1 ?_
    rfl
  have FIN := Lib.hid fin
  have RBS := Lib.hid rbs
  clear fin rbs hb
  by_cases hl : L < 12
  · go_enter Try.func81, Try.ntmps81
    go_wp2_with fail
    refine HT.out.mono ?_
    rintro e wa ⟨rfl, rba, hga, hsa⟩
    have HSA := Lib.hid hsa
    obtain ⟨d0, d1, d2, d3, g1, g2, g3⟩ := rba.cells
    clear hsa c0 c1 c2 c3 f1 f2 f3
    go_wp2_with fail
    refine (HU.out wa rba).mono ?_
    rintro e wb ⟨rfl, rbb, hgb, hsb⟩
    have HSB := Lib.hid hsb
    obtain ⟨b0, b1, b2, b3, k1, k2, k3⟩ := rbb.cells
    clear hsb d0 d1 d2 d3 g1 g2 g3
    go_wp2_with fail
    refine (HN.out _ (RBS.out wb rbb)).mono ?_
    intro e wz hp
    have HF := Lib.hid (FIN.out wb (grownBy_trans hga hgb) rbb e wz hp)
    have he := re_shape hp
    clear hp
    rcases he with rfl | ⟨ty, a, rfl⟩
    · go_wp2_with fail
      go_ret2
      exact HF.out
    · go_wp2_with fail
      go_ret2
      exact HF.out
  · have hl12 : decide ((L : Int) < 12) = false := decide_eq_false (by omega)
    go_enter Try.func81, Try.ntmps81
    go_wp2_with fail
    refine (HU.out w HB.out).mono ?_
    rintro e wb ⟨rfl, rbb, hgb, hsb⟩
    have HSB := Lib.hid hsb
    obtain ⟨b0, b1, b2, b3, k1, k2, k3⟩ := rbb.cells
    clear hsb c0 c1 c2 c3 f1 f2 f3
    go_wp2_with fail
    refine (HN.out _ (RBS.out wb rbb)).mono ?_
    intro e wz hp
    have HF := Lib.hid (FIN.out wb hgb rbb e wz hp)
    have he := re_shape hp
    clear hp
    rcases he with rfl | ⟨ty, a, rfl⟩
    · go_wp2_with fail
      go_ret2
      exact HF.out
    · go_wp2_with fail
      go_ret2
      exact HF.out

theorem tree_any : ∀ f, TreeSaid f := by
  intro f
  induction f with
  | zero => intro r s i L N w _ _ _ hN hf; omega
  | succ f ih =>
    intro r s i L N w hs hi hL hN hf hb
    by_cases hlt : i < s.size
    · by_cases h42 : s[i] = 42 ∧ L < 12
      · exact tree_leaf r s i L N f w hs hlt h42.2 hN hb h42.1
      · by_cases h40 : s[i] = 40 ∧ N < 16
        · exact tree_node r s i L N f w hs hlt hL h40.2 hf hb h40.1 ih
        · exact tree_none r s i L N f w hs hi hL hN hb (fun _ e hl => h42 ⟨e, hl⟩) (fun _ e hn => h40 ⟨e, hn⟩)
    · exact tree_none r s i L N f w hs hi hL hN hb (fun h => absurd h hlt) (fun h => absurd h hlt)

/-- What 'readTree' answers. -/
def RtPost (s : ByteArray) (w : World) (e : Ending) (w' : World) : Prop :=
  Below w.heap.size w w' ∧
    ((parse s.data.toList = none ∧ e = .returned (.tuple #[.nilIface, .bool false])) ∨
     ∃ t ty a, parse s.data.toList = some t ∧ e = .returned (.tuple #[.iface ty (.pointer (some a)), .bool true]) ∧ RepI w' (fun b => w.heap.size ≤ b) t ty a)

theorem below_of_new {w w1 w2 : World} {X : Obj} (h : w1 = w.alloc X) (hg : w1.grownBy w2 (some w.heap.size)) : Below w.heap.size w w2 := by
  subst h
  exact ⟨hg.os, hg.tape, hg.output, by have := hg.size; simp at this; omega, fun k hk => by rw [hg.block k (by simp; omega) (by simp; omega), Below.heap_alloc _ _ _ hk]⟩

set_option maxRecDepth 100000 in
set_option maxHeartbeats 1000000 in
theorem readTree_any (s : ByteArray) (w : World) (hs : s.size ≤ 140737488351232) :
    Calls Try.prog 73 #[.string s] w (RtPost s w) := by
  have hrb : RB (w.alloc (.cells #[.string s, .int .i64 0, .int .i64 0, .int .i64 0] 152)) w.heap.size s 0 0 0 := by
    unfold RB; exact heap_alloc_new _ _
  have HRB := Lib.hid hrb
  have HW := Lib.hid (lim_whole (s := s.data.toList))
  clear hrb
  go_enter Try.func73, Try.ntmps73
  go_wp2_with fail
  refine (tree_any 17 w.heap.size s 0 0 0 _ hs (Nat.zero_le _) (by omega) (by omega) (by omega) HRB.out).mono ?_
  intro e w1 hp
  have HP := Lib.hid hp
  obtain ⟨hg, i', L', N', hi', rb, hres⟩ := hp
  obtain ⟨c0, c1, c2, c3, f1, f2, f3⟩ := rb.cells
  have hB := below_of_new rfl hg
  rcases hres with ⟨hno, rfl⟩ | ⟨t, ty, a, hyes, htw, hlt, hL, hN, hL2, hN2, rfl, hrep⟩
  · have hn : parse s.data.toList = none := by
      rw [← HW.out]; rw [List.drop_zero] at hno; rw [hno]
    have HN := Lib.hid hn
    clear hno hn
    go_wp2_with fail
    go_ret2
    exact ⟨hB, .inl ⟨HN.out, rfl⟩⟩
  · by_cases hfull : i' = s.size
    · have hn : parse s.data.toList = some t := by
        rw [← HW.out]; rw [List.drop_zero, drop_end (by omega)] at hyes; rw [hyes]
      have HN := Lib.hid hn
      have hne : ((i' : Int) != (s.size : Int)) = false := by simp; omega
      have HR := Lib.hid (hrep.keep (P' := fun b => w.heap.size ≤ b) (fun _ _ _ h => h) (fun b h _ => by simp at h; omega) htw)
      clear hyes hn hL hN hfull hrep
      go_wp2_with fail
      go_ret2
      exact ⟨hB, .inr ⟨t, ty, a, HN.out, rfl, HR.out⟩⟩
    · have hn : parse s.data.toList = none := by
        rw [← HW.out]; rw [List.drop_zero] at hyes; rw [hyes]
        have : (s.data.toList.drop i').length ≠ 0 := by rw [drop_len_i]; omega
        cases hd : s.data.toList.drop i' with
        | nil => rw [hd] at this; simp at this
        | cons x q => rfl
      have HN := Lib.hid hn
      have hne : ((i' : Int) != (s.size : Int)) = true := by simp; omega
      clear hyes hn hL hN hrep
      go_wp2_with fail
      go_ret2
      exact ⟨hB, .inl ⟨HN.out, rfl⟩⟩

end Go.Proofs.Ytapobhnhnldlkaa
end
section
/- The program: leaves and nodes counted through the interface. -/
namespace Go.Proofs.Ytapobhnhnldlkaa
open Go.RowKit

theorem leafLeaves_any (a : Addr) (w : World) : Calls Try.prog 109 #[.pointer (some a)] w fun e w' => e = .returned (.int .i64 1) ∧ w = w' := by
  go_enter Try.func109, Try.ntmps109
  go_wp2_with fail
  go_ret
  exact ⟨rfl, rfl⟩

set_option maxHeartbeats 400000 in
theorem nodeLeaves_any (n : Nat) : ∀ (c : UInt8) (ks : List T) (ty : TypeId) (a : Addr) (w : World) (P : Nat → Prop), SizeOf.sizeOf ks ≤ n → T.wfL ks → T.leavesL ks < 1000000 → RepI w P (.node c ks) ty a →
    Calls Try.prog 103 #[.pointer (some a)] w fun e w' => e = .returned (.int .i64 (0 + T.leavesL ks : Nat)) ∧ w = w' := by
  induction n with
  | zero => intro c ks ty a w P h; cases ks <;> simp at h <;> omega
  | succ n ih =>
    intro c ks ty a w P hn hwf hlt hr
    rw [RepI] at hr
    obtain ⟨_, b, g, cap, rfl, hPb, hPg, h0, h1, h6, hL⟩ := hr
    have HL := Lib.hid hL
    have HW := Lib.hid hwf
    clear hL hwf
    go_enter Try.func103, Try.ntmps103
    go_wp2_with fail
    go_loop [3, 11] (fun v i => ∃ k : Nat, k ≤ ks.length ∧ i = .int .i64 k ∧ v = .int .i64 (0 + T.leavesL (ks.take k) : Nat)) (fun _ i => ks.length - (intOf i).toNat)
    case atStart => exact ⟨0, Nat.zero_le _, rfl, by simp [T.leavesL]⟩
    case round =>
      obtain ⟨k, hk', rfl, rfl⟩ := hrel
      by_cases hlt' : k < ks.length
      · obtain ⟨ty', a', d1, d2⟩ := HL.out.get k hlt'
        have hwk := wfL_get HW.out k hlt'
        have hd : SizeOf.sizeOf ks[k] < SizeOf.sizeOf ks := List.sizeOf_lt_of_mem (List.getElem_mem hlt')
        have hle := leavesL_take_le (ks := ks) (k + 1)
        have hlv := leavesL_take hlt'
        have hsum : T.leavesL (ks.take k) + (ks[k]).leaves < 1000000 := by omega
        have HV := Lib.hid hlv
        rw [Nat.zero_add] at d1
        clear hlv
        cases hkk : ks[k] with
        | leaf =>
          rw [hkk] at d2 HV hsum
          rw [RepI] at d2
          subst d2
          have HK := Lib.hid hkk
          clear hkk hd hwk
          go_wp2_with (go_at_call 109; refine (leafLeaves_any _ _).mono ?_; rintro e w' ⟨rfl, rfl⟩)
          go_round
          case rel => exact ⟨k + 1, by omega, by go_num, by rw [HV.out, T.leaves]; go_num⟩
          case measure => simp [intOf]; omega
        | node c' ks' =>
          rw [hkk] at d2 HV hsum hd hwk
          have hty : ty' = 65 := by rw [RepI] at d2; exact d2.1
          subst hty
          have HK := Lib.hid hkk
          have HD := Lib.hid d2
          have hsz : SizeOf.sizeOf ks' ≤ n := by simp only [T.node.sizeOf_spec] at hd; omega
          have hwk' : T.wfL ks' := by rw [T.wf] at hwk; exact hwk.2.2.2.2
          have hl' : T.leavesL ks' < 1000000 := by rw [T.leaves] at hsum; omega
          rw [T.leaves] at hsum
          have HC := Lib.hid (fun w => ih c' ks' 65 a' w P hsz hwk' hl')
          clear hkk hd hwk d2 hwk' ih
          go_wp2_with (go_at_call 103; refine (HC.out _ HD.out).mono ?_; rintro e w' ⟨rfl, rfl⟩)
          go_round
          case rel => exact ⟨k + 1, by omega, by go_num, by rw [HV.out, T.leaves]; go_num⟩
          case measure => simp [intOf]; omega
      · have hkk : k = ks.length := by omega
        have HK := Lib.hid hkk
        clear hkk
        go_wp2_with fail
        go_ret
        exact ⟨by rw [HK.out, List.take_length]; rfl, rfl⟩

end Go.Proofs.Ytapobhnhnldlkaa
end
section
/- Contracts of the functions that only ask of one text: valid, leaves, nodes; on both sides. -/
namespace Go.Proofs.Ytapobhnhnldlkaa
open Go.RowKit

theorem own : ownKnob Try.prog.godebug = none := by kernel_rfl

theorem laidOut : laidOutB Try.prog = true := by kernel_rfl

/-- What a call answers that only makes memory. -/
def Ans (v : Value) (w : World) (e : Ending) (w' : World) : Prop := e = .returned v ∧ Below w.heap.size w w'

end Go.Proofs.Ytapobhnhnldlkaa
end
end
section
/- Contracts of the functions that only ask of one text: valid, leaves, nodes; on both sides. (what the exact laws want besides) -/
namespace Go.Proofs.Ytapobhnhnldlkaa
open Go.RowKit

end Go.Proofs.Ytapobhnhnldlkaa
end
