/- What is composed, and the inverse, by the model. -/
import Derived.Test.YtnobpckmlhgeiaaSerS
namespace Go.Proofs.Ytnobpckmlhgeiaa
open Go.RowKit

/-- What the model answers: a list and true, or no list. -/
def SerPostS (n : Nat) (r : Option (Nat → Int)) (w : World) (e : Ending) (w' : World) : Prop :=
  Below w.heap.size w w' ∧ ((r = none ∧ ∃ a c, e = .returned (.tuple #[.slice a 0 c, .bool false])) ∨
    (∃ f a c, r = some f ∧ e = .returned (.tuple #[.slice a n c, .bool true]) ∧ NumO w' a n f))

/-- What 'l7Compose' answers. -/
def CompPostS (n : Nat) (f g : Nat → Int) (w : World) (e : Ending) (w' : World) : Prop :=
  Below w.heap.size w w' ∧ ((serComp f g n = none ∧ ∃ v, e = .returned (.tuple #[v, .bool false])) ∨
    (∃ r x c, serComp f g n = some r ∧ e = .returned (.tuple #[.slice (some ⟨x, 0, none⟩) n c, .bool true]) ∧ w.heap.size ≤ x ∧ NumR w' x n r))

set_option maxRecDepth 100000 in
set_option maxHeartbeats 2000000 in
theorem l7Compose_any (n : Nat) (f g : Nat → Int) (a b : Option Addr) (cf cg : Nat) (w : World) (hn : 1 ≤ n) (hn2 : n ≤ 8) (hf0 : ∀ j, j < n → -1000000 ≤ f j ∧ f j ≤ 1000000) (hg0 : ∀ j, j < n → -1000000 ≤ g j ∧ g j ≤ 1000000)
    (hf : NumO w a n f) (hg : NumO w b n g) :
    Calls Try.prog 45 #[.slice a n cf, .slice b n cg] w (CompPostS n f g w) := by
  obtain ⟨i0, hi0, hz0, hzs, hzb⟩ := info_parts infoNum
  obtain ⟨x, o, eb, _⟩ := hg 0 (by omega)
  subst eb
  have HF := Lib.hid hf
  have HG := Lib.hid hg
  have HF0 := Lib.hid hf0
  have HG0 := Lib.hid hg0
  clear hf hg hf0 hg0
  go_enter Try.func45, Try.ntmps45
  go_wp2_with (at_make; refine wpList_make_full _ rfl _ _ 22 rfl w.heap.size 3 i0 (.int .i64 0) 1 Try.underlying22 hi0 hz0 hzs .i64 .i64 _ _ n rfl rfl rfl rfl ?c1 ?c2 (Nat.le_refl _) ?_)
  case c1 => rw [hzb]; omega
  case c2 => unfold maxLen; omega
  intro w2 hown hgr2
  have hr2 : NumR w2 w.heap.size n (serPart f g 0) := (NumR.of_owns hown (f := serPart f g 0) (fun j hj => by show _ = some (Value.int .i64 0); simpa using madeNum_get hj)).1
  have hB2 : Below w.heap.size w w2 := (Below.refl _ _).grown hgr2 (by omega) (fun k e => by cases e)
  have HR2 := Lib.hid hr2
  have HB2 := Lib.hid hB2
  have HGO2 := Lib.hid (HG.out.below hB2)
  have hs2 := hB2.size
  have hl2 := hr2.lt
  have R0 : Hid ((w2.alloc (.cells #[] 3)).ownsRow w2.heap.size 3 1 (.slice (some ⟨w2.heap.size, 0, none⟩) 0 0) 0 []) := Lib.hid (World.ownsRow_made w2 #[] 0 (Nat.le_refl _) (by simp [maxLen]) rfl)
  clear hr2 hown hgr2 hB2
  go_wp2_with (at_builtin; refine wpList_append_new _ rfl _ _ 22 rfl w2.heap.size 3 i0 (.int .i64 0) 1 8 Try.underlying22 hi0 hz0 hzs hzb rfl (by decide) _ _ _ rfl R0.out ⟨x, o, none⟩ n cg (numVals n g) hn rfl ?d1 ?d2 ?d3 ?d4 ?d5 ?d6 ?_)
  case d1 => rw [numVals_length]; omega
  case d2 =>
    intro j u hu
    have hj : j < n := by
      have := (List.getElem?_eq_some_iff.1 hu).1
      rw [numVals_length] at this; exact this
    rw [numVals_get hj] at hu
    simp only [Option.some.injEq] at hu
    subst hu
    obtain ⟨b', o', e, hc⟩ := HGO2.out j hj
    simp only [Option.some.injEq, Addr.mk.injEq] at e
    obtain ⟨rfl, rfl, _⟩ := e
    have e : (⟨x, o, none⟩ : Addr).add j = ⟨x, o + j, none⟩ := by unfold Addr.add; split <;> simp_all
    rw [e]
    exact keep1 ((Below.refl _ _).alloc (Nat.le_refl _) _) hc
  case d3 =>
    intro u hu
    obtain ⟨j, _, rfl⟩ := List.mem_map.1 hu
    rfl
  case d4 => unfold maxLen; omega
  case d5 => omega
  case d6 => simp
  intro pg pc w3 hown hgr _
  have h := NumR.of_owns hown (f := g) (fun j hj => numVals_get hj)
  have HP3 : Hid (NumR w3 pg n (serPow g 0)) := Lib.hid h.1
  have hpg := h.2.1
  have HB23 : Hid (Below w2.heap.size w2 w3) := Lib.hid (((Below.refl _ _).alloc (Nat.le_refl _) _).grown hgr (by simp) (fun q e => by simp [Value.ownBlock] at e; omega))
  have HB3 := Lib.hid (below_step HB2.out HB23.out)
  have HR3 := Lib.hid (HR2.out.below HB23.out)
  clear hown hgr h
  go_wp2_with fail
  go_loopw [8, 9] (fun pv iv wr => ∃ i p c : Nat, i ≤ n ∧ iv = .int .i64 i ∧ pv = .slice (some ⟨p, 0, none⟩) n c ∧ p ≠ w.heap.size ∧ NumR wr w.heap.size n (serPart f g i) ∧ NumR wr p n (serPow g i) ∧ (∀ t, t < i → serIn n 1000000000000 (serPow g t) = true ∧ serIn n 1000000000000 (serPart f g (t + 1)) = true) ∧ serIn n 1000000000000 (serPow g i) = true ∧ Below w.heap.size w wr ∧ w.heap.size < wr.heap.size) (fun _ iv _ => n - (intOf iv).toNat)
  case atStart => exact ⟨0, pg, pc, Nat.zero_le _, rfl, by simp, by omega, HR3.out, HP3.out, fun t ht => by omega, serIn_iff.2 (fun j hj => by have := HG0.out j hj; show _ ≤ g j ∧ g j ≤ _; omega), HB3.out, by have := HR3.out.lt; omega⟩
  case round =>
    obtain ⟨i, p, c, hi, rfl, rfl, hpw, hr, hp, hway, hpi, hB, hsz⟩ := hrel
    have HR := Lib.hid hr
    have HP := Lib.hid hp
    have HW := Lib.hid hway
    have HPI := Lib.hid hpi
    have HB := Lib.hid hB
    clear hr hp hway hpi hB
    by_cases hlt : i < n
    · have HPB : Hid (∀ j, j < n → -1000000000000 ≤ serPart f g i j ∧ serPart f g i j ≤ 1000000000000) := Lib.hid (fun j hj => by
        rcases i with _ | i
        · show _ ≤ (0 : Int) ∧ (0 : Int) ≤ _; omega
        · exact serIn_iff.1 (HW.out i (by omega)).2 j hj)
      go_wp2_with fail
      go_loopw [10] (fun kv wq => ∃ k : Nat, k ≤ n ∧ kv = .int .i64 k ∧ NumR wq w.heap.size n (fun j => if j < k then serPart f g (i + 1) j else serPart f g i j) ∧ NumR wq p n (serPow g i) ∧ Below w.heap.size w wq ∧ w.heap.size < wq.heap.size) (fun kv _ => n - (intOf kv).toNat)
      case atStart => exact ⟨0, Nat.zero_le _, rfl, HR.out.congr (fun j hj => by rw [if_neg (by omega)]), HP.out, HB.out, hsz⟩
      case round =>
        obtain ⟨k, hk, rfl, hr2, hp2, hB2, hsz2⟩ := hrel
        have HR2 := Lib.hid hr2
        have HP2 := Lib.hid hp2
        have HB2 := Lib.hid hB2
        clear hr2
        by_cases hlt2 : k < n
        · have c0 := HR2.out.cell hlt2
          rw [if_neg (Nat.lt_irrefl _)] at c0
          have f0 := HR2.out.frozen k
          obtain ⟨ba, oa, ea, c1⟩ := HF.out.below HB2.out i hlt
          subst ea
          have c2 := HP2.out.cell hlt2
          have ht := HF0.out i hlt
          have hx := HPB.out k hlt2
          have hy := serIn_iff.1 HPI.out k hlt2
          obtain ⟨u, hue⟩ : ∃ u, u = serPart f g i k := ⟨_, rfl⟩
          obtain ⟨t, hte⟩ : ∃ t, t = f i := ⟨_, rfl⟩
          obtain ⟨y, hye⟩ : ∃ y, y = serPow g i k := ⟨_, rfl⟩
          have HUE : Hid (serPart f g (i + 1) k = u + t * y) := Lib.hid (by rw [hue, hte, hye]; rfl)
          rw [← hue] at c0 hx
          rw [← hte] at c1 ht
          rw [← hye] at c2 hy
          have hpb := ser_mul_bound (a := t) (b := y) (A := 1000000) (B := 1000000000000) (by omega) (by omega)
          have hw2 : IntKind.i64.wrap (t * y) = t * y := by rw [IntKind.wrap_i64]; omega
          have hw3 : IntKind.i64.wrap (u + t * y) = u + t * y := by rw [IntKind.wrap_i64]; omega
          have H3 := Lib.hid (HR2.out.put (k := k) (u + t * y))
          have H4 := Lib.hid ((HB2.out).setCell (p := ⟨w.heap.size, k, none⟩) (by simp) (.int .i64 (u + t * y)))
          have H5 := Lib.hid (HP2.out.other (b := w.heap.size) (k := k) (fun e => hpw e.symm) (.int .i64 (u + t * y)))
          have hgl := HR2.out.lt
          have hpl := HP2.out.lt
          have hk0' : (0 : Int) ≤ k := by omega
          have hi0' : (0 : Int) ≤ i := by omega
          clear hue hte hye hp2 hB2 hpb hx hy ht
          go_wp2_with fail
          go_region
          go_wp2_with fail
          exact ⟨⟨k + 1, by omega, by go_num, H3.out.congr (fun j hj => by
            by_cases e : j = k
            · rw [if_pos e, if_pos (by omega), e, HUE.out]
            · rw [if_neg e]
              by_cases h2 : j < k
              · rw [if_pos h2, if_pos (by omega)]
              · rw [if_neg h2, if_neg (by omega)]), H5.out, below_drewN H4.out _, by simpa using hsz2⟩, by simp [intOf]; omega⟩
        · have HRN : Hid (NumR wr w.heap.size n (serPart f g (i + 1))) := Lib.hid (HR2.out.congr (fun j hj => by rw [if_pos (by omega)]))
          have HT := Lib.hid (l7Times_any n n (serPow g i) g (some ⟨p, 0, none⟩) (some ⟨x, o, none⟩) c cg (n : Int) wr rfl hn2 (by omega) (serIn_iff.1 HPI.out) HG0.out HP2.out.o (HG.out.below hB2))
          clear hp2 hB2
          go_wp2_with fail
          refine HT.out.mono ?_
          rintro e w4 ⟨hB4, p4, c4, rfl, hp4, hc4, hr4⟩
          have hr4' : NumR w4 p4 n (serPow g (i + 1)) := hr4
          have HR4 := Lib.hid hr4'
          have HB4 := Lib.hid (below_step HB2.out hB4)
          have HO4 := Lib.hid (HRN.out.below hB4)
          have hs4 := hB4.size
          obtain ⟨bb, hbb⟩ : ∃ bb, serIn n 1000000000000 (serPow g (i + 1)) = bb := ⟨_, rfl⟩
          have HBG := Lib.hid (l7Big_any n (serPow g (i + 1)) (some ⟨p4, 0, none⟩) c4 w4 (by omega) hr4'.o)
          rw [hbb] at HBG
          have HBB := Lib.hid hbb
          clear hB4 hr4 hr4' hbb
          cases bb
          · have HNO : Hid (serComp f g n = none) := Lib.hid (by
              by_cases e : i + 1 < n
              · exact serComp_pow e HBB.out
              · have e2 : i + 1 = n := by omega
                have := HBB.out
                rw [e2, serPow_last g n] at this
                cases this)
            go_wp2_with fail
            refine HBG.out.mono ?_
            rintro e w5 ⟨rfl, hB5⟩
            have HB5 := Lib.hid (below_step HB4.out hB5)
            clear hB5
            go_wp2_with fail
            go_ret2
            exact ⟨HB5.out, .inl ⟨HNO.out, _, rfl⟩⟩
          · go_wp2_with fail
            refine HBG.out.mono ?_
            rintro e w5 ⟨rfl, hB5⟩
            have HB5 := Lib.hid (below_step HB4.out hB5)
            have HR5 := Lib.hid (HR4.out.below hB5)
            have HO5 := Lib.hid (HO4.out.below hB5)
            have hs5 := hB5.size
            obtain ⟨bb, hbb⟩ : ∃ bb, serIn n 1000000000000 (serPart f g (i + 1)) = bb := ⟨_, rfl⟩
            have HBG2 := Lib.hid (l7Big_any n (serPart f g (i + 1)) (some ⟨w.heap.size, 0, none⟩) n w5 (by omega) HO5.out.o)
            rw [hbb] at HBG2
            have HBB2 := Lib.hid hbb
            clear hB5 hbb
            go_wp2_with fail
            refine HBG2.out.mono ?_
            rintro e w6 ⟨rfl, hB6⟩
            have HB6 := Lib.hid (below_step HB5.out hB6)
            have HR6 := Lib.hid (HR5.out.below hB6)
            have HO6 := Lib.hid (HO5.out.below hB6)
            have hs6 := hB6.size
            clear hB6
            cases bb
            · have HNO : Hid (serComp f g n = none) := Lib.hid (serComp_part hlt HBB2.out)
              go_wp2_with fail
              go_ret2
              exact ⟨HB6.out, .inl ⟨HNO.out, _, rfl⟩⟩
            · have hp4w : p4 ≠ w.heap.size := by omega
              have hsz6 : w.heap.size < w6.heap.size := by omega
              go_wp2_with fail
              refine ⟨⟨i + 1, p4, c4, by omega, by go_num, rfl, hp4w, HO6.out, HR6.out, fun t ht => ?_, HBB.out, HB6.out, hsz6⟩, by simp [intOf]; omega⟩
              by_cases e : t = i
              · subst e; exact ⟨HPI.out, HBB2.out⟩
              · exact HW.out t (by omega)
    · have hin : i = n := by omega
      have HRN : Hid (NumR wr w.heap.size n (serPart f g n)) := Lib.hid (by rw [hin] at HR; exact HR.out)
      have HY : Hid (serComp f g n = some (serPart f g n)) := Lib.hid (serComp_yes (fun t ht => HW.out t (by omega)))
      clear hin
      go_wp2_with fail
      go_ret2
      exact ⟨HB.out, .inr ⟨serPart f g n, w.heap.size, n, HY.out, rfl, Nat.le_refl _, HRN.out⟩⟩

end Go.Proofs.Ytnobpckmlhgeiaa
