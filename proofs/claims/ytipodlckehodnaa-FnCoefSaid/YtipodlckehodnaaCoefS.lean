/- SumCoef by the model; its law. -/
import Derived.Test.YtipodlckehodnaaCoef
namespace Go.Proofs.Ytipodlckehodnaa
open Go.RowKit

theorem rdAll_get {lo hi : Int} {D : Bool} : ∀ (n : Nat) (xs : List (Int × ByteArray)) (ps : List Tm), xs.length = n → rdAll lo hi D xs = some ps → ∀ i (h : i < xs.length) (h2 : i < ps.length), parse (xs[i]).2.data.toList = some (ps[i]).2 ∧ (ps[i]).1 = (xs[i]).1 := by
  intro n
  induction n with
  | zero => intro xs ps hl _ i h; omega
  | succ n ih =>
    intro xs ps hl hr i h h2
    have hlt : n < xs.length := by omega
    have ht : xs.take (n + 1) = xs := by rw [← hl, List.take_length]
    have hr0 := hr
    rw [← ht, rdAll_take hlt] at hr
    cases hp : rdAll lo hi D (xs.take n) with
    | none => rw [hp, rdStep_none] at hr; cases hr
    | some qs =>
      rw [hp] at hr
      have hql : qs.length = n := by
        have := (rdAll_ok _ _ _ rfl hp).1
        rw [List.length_take] at this; omega
      cases ht2 : parse (xs[n]).2.data.toList with
      | none => rw [rdStep_no ht2] at hr; cases hr
      | some t =>
        rw [rdStep_tree ht2] at hr
        split at hr
        · simp only [Option.some.injEq] at hr
          subst hr
          by_cases hin : i < n
          · have := ih (xs.take n) qs (by rw [List.length_take]; omega) hp i (by rw [List.length_take]; omega) (by omega)
            rw [List.getElem_take] at this
            rw [List.getElem_append_left (by omega)]
            exact this
          · have hie : i = n := by omega
            subst hie
            rw [List.getElem_append_right (by omega)]
            simp only [hql, Nat.sub_self, List.getElem_singleton]
            exact ⟨ht2, trivial⟩
        · cases hr

theorem sum_get {xs : List (Int × ByteArray)} {ps : List Tm} (h : sumOf xs = some ps) (i : Nat) (hi : i < xs.length) (hi2 : i < ps.length) : parse (xs[i]).2.data.toList = some (ps[i]).2 ∧ (ps[i]).1 = (xs[i]).1 := by
  rw [sumOf] at h
  split at h
  · cases h
  · exact rdAll_get _ xs ps rfl h i hi hi2

theorem txt_same (p q : ByteArray) : (p.toList == q.toList) = decide (p = q) := by
  rw [ByteArray.toList_eq, ByteArray.toList_eq]
  by_cases h : p = q
  · subst h; simp
  · have : ¬ p.data = q.data := fun e => h (ByteArray.ext e)
    simp [h, this]

/-- The first term with this text has the tree's coefficient. -/
theorem coef_here {xs : List (Int × ByteArray)} {ps : List Tm} {s : ByteArray} {t : T} (h : sumOf xs = some ps) (hs : parse s.data.toList = some t) (i : Nat) (hi : i < xs.length) (e : (xs[i]).2 = s) : coefV xs s = (xs[i]).1 := by
  have hl := (sumOf_ok h).1
  obtain ⟨h1, h2⟩ := sum_get h i hi (by omega)
  rw [e, hs, Option.some.injEq] at h1
  rw [coefV_yes h hs, cf_at (sum_trees h).2.2.1 i (by omega) t (by rw [← h1]; exact isCmp_ordT.self _), h2]
theorem coef_nowhere {xs : List (Int × ByteArray)} {ps : List Tm} {s : ByteArray} {t : T} (h : sumOf xs = some ps) (hs : parse s.data.toList = some t) (hn : ∀ i (hi : i < xs.length), (xs[i]).2 ≠ s) : coefV xs s = 0 := by
  have hl := (sumOf_ok h).1
  rw [coefV_yes h hs]
  refine cf_none (fun p hp h0 => ?_)
  obtain ⟨k, hk, rfl⟩ := List.getElem_of_mem hp
  obtain ⟨h1, h2⟩ := sum_get h k (by omega) hk
  have hw := parse_some h1
  have hw2 := parse_some hs
  have e := ordT_zero hw.1 hw2.1 h0
  refine hn k (by omega) (ByteArray.ext (Array.toList_inj.1 ?_))
  rw [hw.2.1, hw2.2.1, e]

set_option maxRecDepth 100000 in
set_option maxHeartbeats 1000000 in
theorem sSumCoef_any (xs : List (Int × ByteArray)) (n : Nat) (hnx : n = xs.length) (g cap : Nat) (s : ByteArray) (w : World) (hn : n ≤ 1048576) (hz : ∀ j (h : j < xs.length), (xs[j]).2.size ≤ 1048576) (hs : s.size ≤ 1048576) (hl : TermL w g xs) :
    Calls Try.prog 28 #[.slice (some ⟨g, 0, none⟩) n cap, .string s] w (Ans (.int .i64 (coefV xs s)) w) := by
  have HR := Lib.hid (sSumValid_any xs n hnx g cap w hn hz hl)
  have HT := Lib.hid (fun (W : World) => sValid_any s W (by omega))
  have HL := Lib.hid hl
  have HNN := Lib.hid hnx
  clear hnx hz hl
  cases hso : sumOf xs with
  | none =>
    have HN := Lib.hid (coefV_no1 (s := s) hso)
    rw [hso] at HR
    clear hso
    go_enter Try.func28, Try.ntmps28
    go_wp2_with (first
      | (go_at_call 15; refine HR.out.mono ?_; rintro e w1 ⟨rfl, hB1⟩; have HB1 := Lib.hid hB1; clear hB1))
    go_ret
    exact ⟨by rw [HN.out]; rfl, HB1.out⟩
  | some ps =>
    rw [hso] at HR
    cases hpa : parse s.data.toList with
    | none =>
      have HN := Lib.hid (coefV_no2 (xs := xs) hpa)
      rw [hpa] at HT
      clear hso hpa
      go_enter Try.func28, Try.ntmps28
      go_wp2_with (first
        | (go_at_call 15; refine HR.out.mono ?_; rintro e w1 ⟨rfl, hB1⟩; have HB1 := Lib.hid hB1; clear hB1)
        | (go_at_call 73; refine (HT.out _).mono ?_; rintro e w2 ⟨rfl, hB2⟩; have HB2 := Lib.hid (below_step HB1.out hB2); clear hB2))
      go_ret
      exact ⟨by rw [HN.out]; rfl, HB2.out⟩
    | some t =>
      rw [hpa] at HT
      have HY := Lib.hid hso
      have HS := Lib.hid hpa
      clear hso hpa
      go_enter Try.func28, Try.ntmps28
      go_wp2_with (first
        | (go_at_call 15; refine HR.out.mono ?_; rintro e w1 ⟨rfl, hB1⟩; have HB1 := Lib.hid hB1; clear hB1)
        | (go_at_call 73; refine (HT.out _).mono ?_; rintro e w2 ⟨rfl, hB2⟩; have HB2 := Lib.hid (below_step HB1.out hB2); clear hB2))
      go_loopw [5] (fun iv wr => ∃ i : Nat, i ≤ n ∧ iv = .int .i64 i ∧ (∀ m (h : m < xs.length), m < i → (xs[m]).2 ≠ s) ∧ Below w.heap.size w wr) (fun iv _ => n - (intOf iv).toNat)
      case atStart => exact ⟨0, Nat.zero_le _, rfl, fun m h h0 => by omega, HB2.out⟩
      case round =>
        obtain ⟨i, hi, rfl, hno, hB⟩ := hrel
        have HNO := Lib.hid hno
        have HB := Lib.hid hB
        clear hno
        by_cases hlt : i < n
        · have hltx : i < xs.length := by rw [← HNN.out]; exact hlt
          obtain ⟨c0, c1⟩ := (HL.out.below hB) i hltx
          obtain ⟨sx, hsx⟩ : ∃ sx, sx = (xs[i]).2 := ⟨_, rfl⟩
          obtain ⟨x, hx⟩ : ∃ x, x = (xs[i]).1 := ⟨_, rfl⟩
          rw [← hsx] at c1
          rw [← hx] at c0
          by_cases hsame : sx = s
          · have hq : (sx.toList == s.toList) = true := by rw [txt_same, decide_eq_true hsame]
            have HV : Hid (coefV xs s = x) := Lib.hid (by rw [coef_here HY.out HS.out i hltx (by rw [← hsx]; exact hsame), hx])
            clear hsame hsx hx hB
            go_wp2_with fail
            go_ret
            exact ⟨by rw [HV.out]; rfl, HB.out⟩
          · have hq : (sx.toList == s.toList) = false := by rw [txt_same, decide_eq_false hsame]
            have HX : Hid (∀ m (h : m < xs.length), m < i + 1 → (xs[m]).2 ≠ s) := Lib.hid (fun m hm hlt2 => by
              by_cases h : m = i
              · subst h; rw [← hsx]; exact hsame
              · exact HNO.out m hm (by omega))
            clear hsame hsx hx hB
            go_wp2_with fail
            go_roundw
            case rel => exact ⟨i + 1, by omega, by go_num, HX.out, HB.out⟩
            case measure => simp [intOf]; omega
        · have HV : Hid (coefV xs s = 0) := Lib.hid (coef_nowhere HY.out HS.out (fun m hm => HNO.out m hm (by have := HNN.out; omega)))
          clear hB
          go_wp2_with fail
          go_ret
          exact ⟨by rw [HV.out]; rfl, HB.out⟩
end Go.Proofs.Ytipodlckehodnaa
