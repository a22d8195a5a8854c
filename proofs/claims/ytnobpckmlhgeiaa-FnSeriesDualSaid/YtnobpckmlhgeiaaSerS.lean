/- Series by the model: valid, multiplied, turned, too great. -/
import Derived.Test.YtnobpckmlhgeiaaSerU
namespace Go.Proofs.Ytnobpckmlhgeiaa
open Go.RowKit

set_option maxRecDepth 100000 in
set_option maxHeartbeats 1000000 in
theorem sSeriesValid_any (n : Nat) (f : Nat → Int) (a : Option Addr) (cap : Nat) (w : World) (hn : n ≤ 1048576) (hl : NumO w a n f) :
    Calls Try.prog 15 #[.slice a n cap] w (Ans (.bool (serOk n f)) w) := by
  have HL := Lib.hid hl
  clear hl
  go_enter Try.func15, Try.ntmps15
  go_wp2_with fail
  go_loopw [3] (fun i wr => ∃ k : Nat, k ≤ n ∧ i = .int .i64 k ∧ (∀ j, j < k → -1000000 ≤ f j ∧ f j ≤ 1000000) ∧ w = wr) (fun i _ => n - (intOf i).toNat)
  case atStart => exact ⟨0, Nat.zero_le _, rfl, fun j h => by omega, rfl⟩
  case round =>
    obtain ⟨k, hk, rfl, hj, rfl⟩ := hrel
    have HJ := Lib.hid hj
    clear hj
    by_cases hlt : k < n
    · obtain ⟨g, o, ea, c1⟩ := HL.out k hlt
      subst ea
      obtain ⟨x, hx⟩ : ∃ x, x = f k := ⟨_, rfl⟩
      rw [← hx] at c1
      have HX := Lib.hid hx
      have HI := Lib.hid (l6In_any x (-1000000) 1000000 w)
      obtain ⟨bb, hbb⟩ : ∃ bb, decide (-1000000 ≤ x ∧ x ≤ 1000000) = bb := ⟨_, rfl⟩
      rw [hbb] at HI
      have HBB := Lib.hid hbb
      clear hx hbb
      go_wp2_with fail
      refine HI.out.mono ?_
      rintro e w1 ⟨rfl, rfl⟩
      cases bb
      · have HF : Hid (serOk n f = false) := Lib.hid (by
          cases e : serOk n f with
          | false => rfl
          | true =>
            have h1 := (serOk_iff.1 e).2.2.2 k hlt
            have h2 := HBB.out
            rw [HX.out] at h2
            exact absurd h1 (of_decide_eq_false h2))
        go_wp2_with fail
        go_ret
        exact ⟨by rw [HF.out]; rfl, Below.refl _ _⟩
      · go_wp2_with fail
        exact ⟨⟨k + 1, by omega, by go_num, fun j hjk => by
          by_cases e : j = k
          · subst e; rw [← HX.out]; exact of_decide_eq_true HBB.out
          · exact HJ.out j (by omega), trivial⟩, by simp [intOf]; omega⟩
    · have hkn : k = n := by omega
      have HJN : Hid (∀ j, j < n → -1000000 ≤ f j ∧ f j ≤ 1000000) := Lib.hid (fun j hj => HJ.out j (by omega))
      have HI := Lib.hid (l6In_any (n : Int) 1 8 w)
      by_cases h18 : 1 ≤ n ∧ n ≤ 8
      · have hd : decide ((1 : Int) ≤ (n : Int) ∧ (n : Int) ≤ 8) = true := decide_eq_true (by omega)
        rw [hd] at HI
        obtain ⟨g, o, ea, c1⟩ := HL.out 0 (by omega)
        subst ea
        rw [Nat.add_zero] at c1
        obtain ⟨x, hx⟩ : ∃ x, x = f 0 := ⟨_, rfl⟩
        rw [← hx] at c1
        have HX := Lib.hid hx
        clear hx hd hkn
        by_cases h1 : x = 1
        · have HT : Hid (serOk n f = true) := Lib.hid (serOk_iff.2 ⟨h18.1, h18.2, by rw [← HX.out]; exact h1, HJN.out⟩)
          subst h1
          go_wp2_with fail
          refine HI.out.mono ?_
          rintro e w1 ⟨rfl, rfl⟩
          go_wp2_with fail
          go_ret
          exact ⟨by rw [HT.out]; rfl, Below.refl _ _⟩
        · have HF : Hid (serOk n f = false) := Lib.hid (serOk_first (by rw [← HX.out]; exact h1))
          have h1' : (x == 1) = false := by simpa using h1
          go_wp2_with fail
          refine HI.out.mono ?_
          rintro e w1 ⟨rfl, rfl⟩
          go_wp2_with fail
          go_ret
          exact ⟨by rw [HF.out]; rfl, Below.refl _ _⟩
      · have hd : decide ((1 : Int) ≤ (n : Int) ∧ (n : Int) ≤ 8) = false := decide_eq_false (by omega)
        rw [hd] at HI
        have HF : Hid (serOk n f = false) := Lib.hid (serOk_len h18)
        clear hd hkn h18
        go_wp2_with fail
        refine HI.out.mono ?_
        rintro e w1 ⟨rfl, rfl⟩
        go_wp2_with fail
        go_ret
        exact ⟨by rw [HF.out]; rfl, Below.refl _ _⟩

set_option maxRecDepth 100000 in
set_option maxHeartbeats 1000000 in
theorem l7Big_any (n : Nat) (f : Nat → Int) (a : Option Addr) (cap : Nat) (w : World) (hn : n ≤ 1048576) (hl : NumO w a n f) :
    Calls Try.prog 54 #[.slice a n cap] w (Ans (.bool (!(serIn n 1000000000000 f))) w) := by
  have HL := Lib.hid hl
  clear hl
  go_enter Try.func54, Try.ntmps54
  go_wp2_with fail
  go_loopw [3] (fun i wr => ∃ k : Nat, k ≤ n ∧ i = .int .i64 k ∧ (∀ j, j < k → -1000000000000 ≤ f j ∧ f j ≤ 1000000000000) ∧ w = wr) (fun i _ => n - (intOf i).toNat)
  case atStart => exact ⟨0, Nat.zero_le _, rfl, fun j h => by omega, rfl⟩
  case round =>
    obtain ⟨k, hk, rfl, hj, rfl⟩ := hrel
    have HJ := Lib.hid hj
    clear hj
    by_cases hlt : k < n
    · obtain ⟨g, o, ea, c1⟩ := HL.out k hlt
      subst ea
      obtain ⟨x, hx⟩ : ∃ x, x = f k := ⟨_, rfl⟩
      rw [← hx] at c1
      have HX := Lib.hid hx
      have HI := Lib.hid (l6In_any x (-1000000000000) 1000000000000 w)
      obtain ⟨bb, hbb⟩ : ∃ bb, decide (-1000000000000 ≤ x ∧ x ≤ 1000000000000) = bb := ⟨_, rfl⟩
      rw [hbb] at HI
      have HBB := Lib.hid hbb
      clear hx hbb
      go_wp2_with fail
      refine HI.out.mono ?_
      rintro e w1 ⟨rfl, rfl⟩
      cases bb
      · have HF : Hid (serIn n 1000000000000 f = false) := Lib.hid (serIn_false hlt (by
          have h2 := HBB.out
          rw [HX.out] at h2
          exact of_decide_eq_false h2))
        go_wp2_with fail
        go_ret
        exact ⟨by rw [HF.out]; rfl, Below.refl _ _⟩
      · go_wp2_with fail
        exact ⟨⟨k + 1, by omega, by go_num, fun j hjk => by
          by_cases e : j = k
          · subst e; rw [← HX.out]; exact of_decide_eq_true HBB.out
          · exact HJ.out j (by omega), trivial⟩, by simp [intOf]; omega⟩
    · have HT : Hid (serIn n 1000000000000 f = true) := Lib.hid (serIn_iff.2 (fun j hj => HJ.out j (by omega)))
      go_wp2_with fail
      go_ret
      exact ⟨by rw [HT.out]; rfl, Below.refl _ _⟩

/-- What has been gathered of a number behind i rounds. -/
def serAcc (s o : Nat → Int) (i j : Nat) : Int := serSum (fun t => s t * o (j - 1 - t)) (min i j)

theorem serAcc_low (s o : Nat → Int) {i j : Nat} (h : j ≤ i) : serAcc s o (i + 1) j = serAcc s o i j := by
  rw [serAcc, serAcc, Nat.min_eq_right (by omega), Nat.min_eq_right h]
theorem serAcc_step (s o : Nat → Int) (i k : Nat) : serAcc s o (i + 1) (i + k + 1) = serAcc s o i (i + k + 1) + s i * o k := by
  rw [serAcc, serAcc, Nat.min_eq_left (by omega), Nat.min_eq_left (by omega), serSum]
  congr 3
  omega
theorem serAcc_all (s o : Nat → Int) {n j : Nat} (h : j ≤ n) : serAcc s o n j = serNext s o j := by
  rw [serAcc, Nat.min_eq_right h]
  cases j with
  | zero => rfl
  | succ j => rfl

set_option maxRecDepth 100000 in
set_option maxHeartbeats 1000000 in
theorem l7Times_any (n q : Nat) (s o : Nat → Int) (a b : Option Addr) (ca cb : Nat) (z : Int) (w : World) (hz : z = (q : Int)) (hn2 : n ≤ 8) (hq : q ≤ n + 1) (hs : ∀ j, j < n → -1000000000000 ≤ s j ∧ s j ≤ 1000000000000) (ho : ∀ j, j < n → -1000000 ≤ o j ∧ o j ≤ 1000000) (hl : NumO w a n s) (hk : NumO w b n o) :
    Calls Try.prog 40 #[.slice a n ca, .slice b n cb, .int .i64 z] w (NumNew q (serNext s o) w) := by
  obtain ⟨i0, hi0, hz0, hzs, hzb⟩ := info_parts infoNum
  have HS := Lib.hid hs
  have HO := Lib.hid ho
  have HL := Lib.hid hl
  have HK := Lib.hid hk
  have HBD : Hid (∀ i k, i < n → k < n → -1000000000000000000 ≤ s i * o k ∧ s i * o k ≤ 1000000000000000000) := Lib.hid (fun i k hi hk => by
    have := ser_mul_bound (HS.out i hi) (HO.out k hk)
    omega)
  have HSM : Hid (∀ i j, i ≤ n → j ≤ n → -8000000000000000000 ≤ serAcc s o i j ∧ serAcc s o i j ≤ 8000000000000000000) := Lib.hid (fun i j hi hj => by
    have := serSum_bound (f := fun t => s t * o (j - 1 - t)) (n := min i j) (m := 1000000000000000000) (fun t ht => HBD.out t (j - 1 - t) (by omega) (by omega))
    unfold serAcc
    omega)
  subst hz
  clear hs ho hl hk
  go_enter Try.func40, Try.ntmps40
  go_wp2_with (at_make; refine wpList_make_full _ rfl _ _ 22 rfl w.heap.size 3 i0 (.int .i64 0) 1 Try.underlying22 hi0 hz0 hzs .i64 .i64 _ _ q rfl rfl rfl rfl ?c1 ?c2 (Nat.le_refl _) ?_)
  case c1 => rw [hzb]; omega
  case c2 => unfold maxLen; omega
  intro w1 hown hg
  have hr0 : NumR w1 w.heap.size q (fun j => serAcc s o 0 j) := (NumR.of_owns hown (f := fun j => serAcc s o 0 j) (fun j hj => by
    have : serAcc s o 0 j = 0 := by rw [serAcc, Nat.min_eq_left (Nat.zero_le _)]; rfl
    show _ = some (Value.int .i64 (serAcc s o 0 j))
    rw [this]
    simpa using madeNum_get hj)).1
  have hB1 : Below w.heap.size w w1 := (Below.refl _ _).grown hg (by omega) (fun k e => by cases e)
  have HR0 := Lib.hid hr0
  have HB1 := Lib.hid hB1
  clear hr0 hown hg hB1
  go_wp2_with fail
  go_loopw [8] (fun iv wr => ∃ i : Nat, i ≤ n ∧ iv = .int .i64 i ∧ NumR wr w.heap.size q (fun j => serAcc s o i j) ∧ Below w.heap.size w wr) (fun iv _ => n - (intOf iv).toNat)
  case atStart => exact ⟨0, Nat.zero_le _, rfl, HR0.out, HB1.out⟩
  case round =>
    obtain ⟨i, hi, rfl, hr, hB⟩ := hrel
    have HR := Lib.hid hr
    have HB := Lib.hid hB
    clear hr hB
    by_cases hlt : i < n
    · go_wp2_with fail
      go_loopw [9] (fun kv wq => ∃ k : Nat, k ≤ n ∧ kv = .int .i64 k ∧ NumR wq w.heap.size q (fun j => if j ≤ i + k then serAcc s o (i + 1) j else serAcc s o i j) ∧ Below w.heap.size w wq) (fun kv _ => n - (intOf kv).toNat)
      case atStart => exact ⟨0, Nat.zero_le _, rfl, HR.out.congr (fun j hj => by
        by_cases e : j ≤ i + 0
        · rw [if_pos e, serAcc_low s o (by omega)]
        · rw [if_neg e]), HB.out⟩
      case round =>
        obtain ⟨k, hk, rfl, hr2, hB2⟩ := hrel
        have HR2 := Lib.hid hr2
        have HB2 := Lib.hid hB2
        clear hr2
        by_cases hlt2 : k < n
        · by_cases hlt3 : i + k + 1 < q
          · have c0 := HR2.out.cell hlt3
            rw [if_neg (by omega)] at c0
            have f0 := HR2.out.frozen (i + k + 1)
            obtain ⟨ba, oa, ea, c1⟩ := HL.out.below HB2.out i hlt
            obtain ⟨bb, ob, eb, c2⟩ := HK.out.below HB2.out k hlt2
            subst ea eb
            have hp := HBD.out i k hlt hlt2
            have hx := HSM.out i (i + k + 1) (by omega) (by omega)
            have hx2 := HSM.out (i + 1) (i + k + 1) (by omega) (by omega)
            rw [serAcc_step] at hx2
            obtain ⟨x, hxe⟩ : ∃ x, x = serAcc s o i (i + k + 1) := ⟨_, rfl⟩
            obtain ⟨y, hye⟩ : ∃ y, y = s i := ⟨_, rfl⟩
            obtain ⟨v, hve⟩ : ∃ v, v = o k := ⟨_, rfl⟩
            have HXE : Hid (serAcc s o (i + 1) (i + k + 1) = x + y * v) := Lib.hid (by rw [serAcc_step, hxe, hye, hve])
            rw [← hxe] at c0 hx hx2
            rw [← hye] at c1 hp hx2
            rw [← hve] at c2 hp hx2
            have hw0 : IntKind.i64.wrap ((i : Int) + (k : Int)) = ((i + k : Nat) : Int) := by rw [IntKind.wrap_i64]; omega
            have hw1 : IntKind.i64.wrap (((i + k : Nat) : Int) + 1) = ((i + k + 1 : Nat) : Int) := by rw [IntKind.wrap_i64]; omega
            have hw2 : IntKind.i64.wrap (y * v) = y * v := by rw [IntKind.wrap_i64]; omega
            have hw3 : IntKind.i64.wrap (x + y * v) = x + y * v := by rw [IntKind.wrap_i64]; omega
            have H3 := Lib.hid (HR2.out.put (k := i + k + 1) (x + y * v))
            have H4 := Lib.hid ((HB2.out).setCell (p := ⟨w.heap.size, i + k + 1, none⟩) (by simp) (.int .i64 (x + y * v)))
            have hgl := HR2.out.lt
            have hi0' : (0 : Int) ≤ i := by omega
            have hk0' : (0 : Int) ≤ k := by omega
            have hd0 : (0 : Int) ≤ ((i + k + 1 : Nat) : Int) := by omega
            have hd1 : ((i + k + 1 : Nat) : Int) < q := by omega
            have hd2 : (i : Int) + (k : Int) + 1 < q := by omega
            clear hxe hye hve hB2 hp hx hx2
            go_wp2_with fail
            go_region
            go_wp2_with fail
            exact ⟨⟨k + 1, by omega, by go_num, H3.out.congr (fun j hj => by
              by_cases e : j = i + k + 1
              · rw [if_pos e, if_pos (by omega), e, HXE.out]
              · rw [if_neg e]
                by_cases h2 : j ≤ i + k
                · rw [if_pos h2, if_pos (by omega)]
                · rw [if_neg h2, if_neg (by omega)]), below_drewN H4.out _⟩, by simp [intOf]; omega⟩
          · have HRN : Hid (NumR wr w.heap.size q (fun j => serAcc s o (i + 1) j)) := Lib.hid (HR2.out.congr (fun j hj => by rw [if_pos (by omega)]))
            have hd2 : ¬ ((i : Int) + (k : Int) + 1 < q) := by omega
            go_wp2_with fail
            exact ⟨⟨i + 1, by omega, by go_num, HRN.out, HB2.out⟩, by simp [intOf]; omega⟩
        · have HRN : Hid (NumR wr w.heap.size q (fun j => serAcc s o (i + 1) j)) := Lib.hid (HR2.out.congr (fun j hj => by rw [if_pos (by omega)]))
          go_wp2_with fail
          exact ⟨⟨i + 1, by omega, by go_num, HRN.out, HB2.out⟩, by simp [intOf]; omega⟩
    · have HRN : Hid (NumR wr w.heap.size q (serNext s o)) := Lib.hid (HR.out.congr (fun j hj => by
        have : i = n := by omega
        rw [this, serAcc_all s o (by omega)]))
      go_wp2_with fail
      go_ret
      exact ⟨HB.out, w.heap.size, q, rfl, Nat.le_refl _, Nat.le_refl _, HRN.out⟩

set_option maxRecDepth 100000 in
set_option maxHeartbeats 1000000 in
theorem l7Turn_any (n : Nat) (f : Nat → Int) (a : Option Addr) (cap : Nat) (w : World) (hn : 0 < n) (hn2 : n ≤ 8) (hb : ∀ j, j < n → -1000000 ≤ f j ∧ f j ≤ 1000000) (hl : NumO w a n f) :
    Calls Try.prog 43 #[.slice a n cap] w (NumNew n (serTurn f) w) := by
  obtain ⟨i0, hi0, hz, hzs, hzb⟩ := info_parts infoNum
  obtain ⟨b, o, ea, c0⟩ := hl 0 hn
  subst ea
  have R0 : Hid ((w.alloc (.cells #[] 3)).ownsRow w.heap.size 3 1 (.slice (some ⟨w.heap.size, 0, none⟩) 0 0) 0 []) := Lib.hid (World.ownsRow_made w #[] 0 (Nat.le_refl _) (by simp [maxLen]) rfl)
  have HL := Lib.hid hl
  have HBD := Lib.hid hb
  clear hl c0 hb
  go_enter Try.func43, Try.ntmps43
  go_wp2_with (at_builtin; refine wpList_append_new _ rfl _ _ 22 rfl w.heap.size 3 i0 (.int .i64 0) 1 8 Try.underlying22 hi0 hz hzs hzb rfl (by decide) _ _ _ rfl R0.out ⟨b, o, none⟩ n cap (numVals n f) hn rfl ?c1 ?c2 ?c3 ?c4 ?c5 ?c6 ?_)
  case c1 => rw [numVals_length]; omega
  case c2 =>
    intro j u hu
    have hj : j < n := by
      have := (List.getElem?_eq_some_iff.1 hu).1
      rw [numVals_length] at this; exact this
    rw [numVals_get hj] at hu
    simp only [Option.some.injEq] at hu
    subst hu
    obtain ⟨b', o', e, hc⟩ := HL.out j hj
    simp only [Option.some.injEq, Addr.mk.injEq] at e
    obtain ⟨rfl, rfl, _⟩ := e
    have e : (⟨b, o, none⟩ : Addr).add j = ⟨b, o + j, none⟩ := by unfold Addr.add; split <;> simp_all
    rw [e]
    exact keep1 ((Below.refl _ _).alloc (Nat.le_refl _) _) hc
  case c3 =>
    intro u hu
    obtain ⟨j, _, rfl⟩ := List.mem_map.1 hu
    rfl
  case c4 => unfold maxLen; omega
  case c5 => omega
  case c6 => simp
  intro g c w2 hown hgr _
  have h := NumR.of_owns hown (f := f) (fun j hj => numVals_get hj)
  have HR := Lib.hid h.1
  have hg := h.2.1
  have hcc := h.2.2
  have HB1 : Hid (Below w.heap.size w w2) := Lib.hid (((Below.refl _ _).alloc (Nat.le_refl _) _).grown hgr (by simp) (fun q e => by simp [Value.ownBlock] at e; omega))
  clear hown hgr h
  try rw [Nat.zero_add] at hcc
  go_wp2_with fail
  go_loopw [4] (fun iv wr => ∃ k : Nat, k ≤ n + 1 ∧ k % 2 = 1 ∧ iv = .int .i64 k ∧ NumR wr g n (fun j => if j < k then serTurn f j else f j) ∧ Below w.heap.size w wr) (fun iv _ => n + 2 - (intOf iv).toNat)
  case atStart => exact ⟨1, by omega, rfl, rfl, (HR.out).congr (fun j hj => by
    split
    · have : j = 0 := by omega
      subst this; rfl
    · rfl), HB1.out⟩
  case round =>
    obtain ⟨k, hk, hodd, rfl, hr, hB⟩ := hrel
    have HR := Lib.hid hr
    clear hr
    by_cases hlt : k < n
    · have c0 := HR.out.cell hlt
      rw [if_neg (Nat.lt_irrefl _)] at c0
      have f0 := HR.out.frozen k
      have hbk := HBD.out k hlt
      obtain ⟨x, hx⟩ : ∃ x, x = f k := ⟨_, rfl⟩
      rw [← hx] at c0 hbk
      have HX := Lib.hid hx
      have hw1 : (0 : Int) - x = -x := by omega
      have H3 := Lib.hid (HR.out.put (k := k) (-x))
      have H4 := Lib.hid (hB.setCell (p := ⟨g, k, none⟩) (by simpa using hg) (.int .i64 (-x)))
      have hgl := HR.out.lt
      clear hx
      go_wp2_with fail
      refine ⟨⟨k + 2, by omega, by omega, by go_num, H3.out.congr (fun j hj => ?_), H4.out⟩, by simp [intOf]; omega⟩
      by_cases e : j = k
      · subst e; rw [if_pos rfl, if_pos (by omega), HX.out, serTurn, if_pos hodd]
      · rw [if_neg e]
        by_cases h2 : j < k
        · rw [if_pos h2, if_pos (by omega)]
        · rw [if_neg h2]
          by_cases h3 : j = k + 1
          · subst h3; rw [if_pos (by omega), serTurn, if_neg (by omega)]
          · rw [if_neg (by omega)]
    · go_wp2_with fail
      go_ret
      exact ⟨hB, g, c, rfl, hg, hcc, HR.out.congr (fun j hj => by rw [if_pos (by omega)])⟩

end Go.Proofs.Ytnobpckmlhgeiaa
