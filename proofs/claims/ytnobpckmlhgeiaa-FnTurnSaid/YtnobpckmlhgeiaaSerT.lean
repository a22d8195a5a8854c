/- The inverse, and what the program answers about series. -/
import Derived.Test.YtnobpckmlhgeiaaSerR
namespace Go.Proofs.Ytnobpckmlhgeiaa
open Go.RowKit Go.ChangeMaps Go.MapKept

/-- A list and true, or no list. -/
def SerPost (n : Nat) (r : Option (Nat → Int)) (w : World) (e : Ending) (w' : World) : Prop :=
  Below w.heap.size w w' ∧ ((r = none ∧ e = .returned (.tuple #[.slice none 0 0, .bool false])) ∨
    (∃ f x c, r = some f ∧ e = .returned (.tuple #[.slice (some ⟨x, 0, none⟩) n c, .bool true]) ∧ w.heap.size ≤ x ∧ n ≤ c ∧ NumR w' x n f))

theorem serInv_step (s : Nat → Int) (n k : Nat) (u : Nat → Int) (h : serInv s n k = some u) : serInv s n (k + 1) = match serComp s u n with
      | none => none
      | some c => if -1000000 ≤ - c (k + 1) ∧ - c (k + 1) ≤ 1000000 then some (serPut u (k + 1) (- c (k + 1))) else none := by
  rw [serInv, h]; rfl

theorem serInv_none (s : Nat → Int) (n : Nat) {k m : Nat} (h : serInv s n k = none) (hm : k ≤ m) : serInv s n m = none := by
  induction m with
  | zero => obtain rfl : k = 0 := by omega
            exact h
  | succ m ih =>
    by_cases e : k = m + 1
    · rw [← e]; exact h
    · rw [serInv, ih (by omega)]

/-- The inverse. -/
def serInverse (n : Nat) (s : Nat → Int) : Option (Nat → Int) := serInv s n (n - 1)

theorem serOk_put {n k : Nat} {u : Nat → Int} {v : Int} (h : serOk n u = true) (hk : 0 < k) (hkn : k < n) : serOk n (serPut u k v) = (decide (-1000000 ≤ v ∧ v ≤ 1000000)) := by
  have h1 := serOk_iff.1 h
  rw [Bool.eq_iff_iff, serOk_iff]
  simp only [decide_eq_true_eq]
  constructor
  · rintro ⟨_, _, _, d⟩
    have := d k hkn
    unfold serPut at this; rw [if_pos rfl] at this; exact this
  · intro hv
    refine ⟨h1.1, h1.2.1, ?_, fun j hj => ?_⟩
    · unfold serPut; rw [if_neg (by omega)]; exact h1.2.2.1
    · unfold serPut; split
      · exact hv
      · exact h1.2.2.2 j hj

theorem serComp_bound {f g r : Nat → Int} {n : Nat} (h : serComp f g n = some r) (hn : 1 ≤ n) : ∀ j, j < n → -1000000000000 ≤ r j ∧ r j ≤ 1000000000000 := by
  unfold serComp at h
  split at h
  · rename_i hw
    simp only [Option.some.injEq] at h
    subst h
    have := (serWay_iff.1 hw (n - 1) (by omega)).2
    rw [Nat.sub_add_cancel hn] at this
    exact serIn_iff.1 this
  · cases h

theorem serInv_fail {s u : Nat → Int} {n i : Nat} (hi : 1 ≤ i) (h : serInv s n (i - 1) = some u) (hc : serComp s u n = none) : serInv s n i = none := by
  have := serInv_step s n (i - 1) u h
  rw [Nat.sub_add_cancel hi, hc] at this
  exact this

theorem serInv_next {s u r : Nat → Int} {n i : Nat} (hi : 1 ≤ i) (h : serInv s n (i - 1) = some u) (hc : serComp s u n = some r) : serInv s n i = if -1000000 ≤ - r i ∧ - r i ≤ 1000000 then some (serPut u i (- r i)) else none := by
  have := serInv_step s n (i - 1) u h
  rw [Nat.sub_add_cancel hi, hc] at this
  exact this

theorem serInverse_none {s : Nat → Int} {n i : Nat} (hi : i < n) (h : serInv s n i = none) : serInverse n s = none := serInv_none s n h (by omega)

set_option maxRecDepth 100000 in
set_option maxHeartbeats 1000000 in
theorem serInverse_any (n : Nat) (s : Nat → Int) (a : Option Addr) (ca : Nat) (w : World) (hok : serOk n s = true) (hl : NumO w a n s) :
    Calls Try.prog 48 #[.slice a n ca] w (SerPost n (serInverse n s) w) := by
  obtain ⟨i0, hi0, hz0, hzs, hzb⟩ := info_parts infoNum
  obtain ⟨hn, hn2, hs0, hsb⟩ := serOk_iff.1 hok
  obtain ⟨y, p, ea, c00⟩ := hl 0 (by omega)
  subst ea
  have hyl := World.block_lt_of_cell? w _ c00
  have hyl' : y < w.heap.size := hyl
  have HL := Lib.hid hl
  have HSB := Lib.hid hsb
  have hmm := @run_makeMap Try.prog
  clear hl hsb hs0 c00 hok hyl
  go_enter Try.func48, Try.ntmps48
  go_wp2_with (at_make; refine wpList_make_full _ rfl _ _ 36 rfl w.heap.size 3 i0 (.int .i64 0) 1 Try.underlying36 hi0 hz0 hzs .i64 .i64 _ _ n rfl rfl rfl rfl ?c1 ?c2 (Nat.le_refl _) ?_)
  case c1 => rw [hzb]; omega
  case c2 => unfold maxLen; omega
  intro w1 hown hgr
  have hr1 : NumR w1 w.heap.size n (fun _ => 0) := (NumR.of_owns hown (f := fun _ => 0) (fun j hj => by simpa using madeNum_get hj)).1
  have hB1 : Below w.heap.size w w1 := (Below.refl _ _).grown hgr (by omega) (fun k e => by cases e)
  have c0 := hr1.cell (j := 0) (by omega)
  have f0 := hr1.frozen 0
  have hgl := hr1.lt
  have H2 : Hid (NumR (w1.setCell ⟨w.heap.size, 0, none⟩ (.int .i64 1)) w.heap.size n serX) := Lib.hid ((hr1.put (k := 0) 1).congr (fun j hj => by unfold serX; rfl))
  have HB2 : Hid (Below w.heap.size w (w1.setCell ⟨w.heap.size, 0, none⟩ (.int .i64 1))) := Lib.hid (hB1.setCell (p := ⟨w.heap.size, 0, none⟩) (by simp) _)
  have hsz : (w1.setCell ⟨w.heap.size, 0, none⟩ (.int .i64 1)).heap.size = w1.heap.size := by simp
  have HSZ := Lib.hid hsz
  obtain ⟨w2, hw2⟩ : ∃ w2, w2 = w1.setCell ⟨w.heap.size, 0, none⟩ (.int .i64 1) := ⟨_, rfl⟩
  rw [← hw2] at H2 HB2 HSZ
  have HW2 := Lib.hid hw2
  clear hr1 hB1 hown hgr hsz hw2
  go_wp2_with fail
  rw [← HW2.out]
  have HM3 : Hid (MapOwn (w2.alloc (.map #[] 0)) w1.heap.size) := Lib.hid ⟨0, .map [], by
    have := World.ownsMap_made (H := Unit) w2 Try.prog 3 serElem
    rw [HSZ.out] at this; exact this⟩
  have HB3 : Hid (Below w.heap.size w (w2.alloc (.map #[] 0))) := Lib.hid (HB2.out.alloc HB2.out.size _)
  have HR3 : Hid (NumR (w2.alloc (.map #[] 0)) w.heap.size n serX) := Lib.hid (H2.out.below ((Below.refl _ _).alloc (Nat.le_refl _) _))
  have hs3 : w1.heap.size < (w2.alloc (.map #[] 0)).heap.size := by simp [HSZ.out]
  have HS3 := Lib.hid hs3
  clear hs3 c0 f0
  go_loopw [4, 6] (fun fv iv wr => ∃ (i gx c : Nat) (u : Nat → Int), 1 ≤ i ∧ i ≤ n ∧ iv = .int .i64 i ∧ fv = .slice (some ⟨gx, 0, none⟩) n c ∧ w.heap.size ≤ gx ∧ gx ≠ w1.heap.size ∧ n ≤ c ∧ NumR wr gx n u ∧ serInv s n (i - 1) = some u ∧ MapOwn wr w1.heap.size ∧ Below w.heap.size w wr ∧ w1.heap.size < wr.heap.size) (fun _ iv _ => n - (intOf iv).toNat)
  case atStart => exact ⟨1, w.heap.size, n, serX, Nat.le_refl _, hn, rfl, rfl, Nat.le_refl _, by omega, Nat.le_refl _, HR3.out, rfl, HM3.out, HB3.out, HS3.out⟩
  case round =>
    obtain ⟨i, gx, c, u, hi1, hi, rfl, rfl, hgx, hgb, hc, hr, hinv, hmo, hB, hbs⟩ := hrel
    have HR := Lib.hid hr
    have HI := Lib.hid hinv
    have HB := Lib.hid hB
    have huo := serInv_ok hn hn2 _ _ hinv
    have HUO := Lib.hid huo.1
    have HUZ := Lib.hid huo.2
    have hub := (serOk_iff.1 huo.1).2.2.2
    by_cases hlt : i < n
    · have HC := Lib.hid (compose_any n s u y p ca gx 0 c w1.heap.size wr hn hn2 HSB.out hub (HL.out.below hB) hr.o (by omega) hgb hmo)
      clear hr hinv hmo hB huo hub
      go_wp2_with fail
      refine HC.out.mono ?_
      rintro e w3 ⟨hg3, hm3, ⟨hno, rfl⟩ | ⟨r, x3, c3, hyes, rfl, hx3, hx3b, hc3, hr3⟩⟩
      · have HNO := Lib.hid (serInverse_none hlt (serInv_fail hi1 HI.out hno))
        have HB3 : Hid (Below w.heap.size w w3) := Lib.hid (HB.out.grown hg3 HB.out.size (fun q e => by simp only [Option.some.injEq] at e; omega))
        clear hno hg3 hm3
        go_wp2_with fail
        go_ret2
        exact ⟨HB3.out, .inl ⟨HNO.out, rfl⟩⟩
      · have HYES := Lib.hid hyes
        have HM3 := Lib.hid hm3
        have HB3 : Hid (Below w.heap.size w w3) := Lib.hid (HB.out.grown hg3 HB.out.size (fun q e => by simp only [Option.some.injEq] at e; omega))
        have hs3 := hg3.size
        have hri := serComp_bound hyes hn i hlt
        have HR3 := Lib.hid hr3
        have HCL := Lib.hid (cloneSer_any n u (some ⟨gx, 0, none⟩) c w3 (by omega) (by omega) (HR.out.kept hg3 hgb).o)
        clear hyes hm3 hg3 hr3
        go_wp2_with fail
        refine HCL.out.mono ?_
        rintro e w4 ⟨hB4, g4, c4, rfl, hg4, hc4, hr4⟩
        have hs4 := hB4.size
        have HB4 := Lib.hid (below_step HB3.out hB4)
        have HM4 := Lib.hid (HM3.out.below hB4)
        have d3 := (HR3.out.below hB4).cell hlt
        have d4 := hr4.cell hlt
        have e4 := hr4.frozen i
        obtain ⟨v, hv⟩ : ∃ v, v = r i := ⟨_, rfl⟩
        rw [← hv] at d3 hri
        have HV := Lib.hid hv
        have HR5 : Hid (NumR (w4.setCell ⟨g4, i, none⟩ (.int .i64 (-v))) g4 n (serPut u i (-v))) := Lib.hid (hr4.put (k := i) (-v))
        have HB5 : Hid (Below w.heap.size w (w4.setCell ⟨g4, i, none⟩ (.int .i64 (-v)))) := Lib.hid (HB4.out.setCell (p := ⟨g4, i, none⟩) (by simp; have := HB3.out.size; omega) _)
        have HM5 : Hid (MapOwn (w4.setCell ⟨g4, i, none⟩ (.int .i64 (-v))) w1.heap.size) := Lib.hid (by
          obtain ⟨m, D, h⟩ := HM4.out
          exact ⟨m, D, h.setCell (a := ⟨g4, i, none⟩) (by simp; omega) _⟩)
        have hgl4 := hr4.lt
        have hg4w : w.heap.size ≤ g4 := by have := HB3.out.size; omega
        have hg4b : g4 ≠ w1.heap.size := by omega
        have hs5 : w1.heap.size < (w4.setCell ⟨g4, i, none⟩ (.int .i64 (-v))).heap.size := by simp; omega
        have HS5 := Lib.hid hs5
        have HVL := Lib.hid (isValid_any n (serPut u i (-v)) (some ⟨g4, 0, none⟩) c4 _ (by omega) HR5.out.o)
        rw [serOk_put HUO.out (by omega) hlt] at HVL
        have HNX := serInv_next hi1 HI.out HYES.out
        rw [← hv] at HNX
        have HNX' := Lib.hid HNX
        clear hB4 hr4 hv hs5 HNX
        by_cases hvb : -1000000 ≤ -v ∧ -v ≤ 1000000
        · have HDB : Hid (decide (-1000000 ≤ -v ∧ -v ≤ 1000000) = true) := Lib.hid (decide_eq_true hvb)
          rw [HDB.out] at HVL
          have HIN : Hid (serInv s n i = some (serPut u i (-v))) := Lib.hid (by rw [HNX'.out, if_pos hvb])
          go_wp2_with fail
          refine HVL.out.mono ?_
          rintro e w6 ⟨rfl, hB6⟩
          have HR6 := Lib.hid (HR5.out.below hB6)
          have HB6 := Lib.hid (below_step HB5.out hB6)
          have HM6 := Lib.hid (HM5.out.below hB6)
          have HS6 : Hid (w1.heap.size < w6.heap.size) := Lib.hid (Nat.lt_of_lt_of_le HS5.out hB6.size)
          clear hB6
          go_wp2_with fail
          exact ⟨⟨i + 1, g4, c4, serPut u i (-v), by omega, by omega, by go_num, rfl, hg4w, hg4b, hc4, HR6.out, by rw [Nat.add_sub_cancel]; exact HIN.out, HM6.out, HB6.out, HS6.out⟩, by simp [intOf]; omega⟩
        · have HDB : Hid (decide (-1000000 ≤ -v ∧ -v ≤ 1000000) = false) := Lib.hid (decide_eq_false hvb)
          rw [HDB.out] at HVL
          have HIN : Hid (serInv s n i = none) := Lib.hid (by rw [HNX'.out, if_neg hvb])
          go_wp2_with fail
          refine HVL.out.mono ?_
          rintro e w6 ⟨rfl, hB6⟩
          have HB6 := Lib.hid (below_step HB5.out hB6)
          clear hB6
          go_wp2_with fail
          go_ret2
          exact ⟨HB6.out, .inl ⟨serInverse_none hlt HIN.out, rfl⟩⟩
    · have hin : i = n := by omega
      have HIN : Hid (serInverse n s = some u) := Lib.hid (by rw [serInverse, show n - 1 = i - 1 by omega]; exact HI.out)
      clear hin hr hinv hmo hB huo hub
      go_wp2_with fail
      go_ret2
      exact ⟨HB.out, .inr ⟨u, gx, c, HIN.out, rfl, hgx, hc, HR.out⟩⟩

end Go.Proofs.Ytnobpckmlhgeiaa
