/- What is composed, by the program. -/
import Derived.Test.YtnobpckmlhgeiaaSerQ
namespace Go.Proofs.Ytnobpckmlhgeiaa
open Go.RowKit Go.ChangeMaps Go.MapKept
open Go.Maps (Keyed)

/-- The map b is the call's own. -/
def MapOwn (w : World) (b : Nat) : Prop := ∃ m D, w.ownsMap Try.prog 3 serElem b m D

theorem PowM.mapOwn {w : World} {b n m : Nat} {g : Nat → Int} (h : PowM w b g n m) : MapOwn w b := by
  obtain ⟨D, h1, _⟩ := h.own
  exact ⟨m, D, h1⟩

theorem MapOwn.below {w w' : World} {b : Nat} (h : MapOwn w b) (hb : Below w.heap.size w w') : MapOwn w' b := by
  obtain ⟨m, D, h1⟩ := h
  exact ⟨m, D, h1.kept hb.grownBy (by simp)⟩

theorem NumR.kept {w w' : World} {x n b : Nat} {f : Nat → Int} (h : NumR w x n f) (hg : w.grownBy w' (some b)) (hne : x ≠ b) : NumR w' x n f :=
  h.block (hg.block x h.lt (fun e => hne (by simp only [Option.some.injEq] at e; exact e)))

/-- What 'compose' answers. -/
def CompPost (b n : Nat) (f g : Nat → Int) (w : World) (e : Ending) (w' : World) : Prop :=
  w.grownBy w' (some b) ∧ MapOwn w' b ∧ ((serComp f g n = none ∧ e = .returned (.tuple #[.slice none 0 0, .bool false])) ∨
    (∃ r x c, serComp f g n = some r ∧ e = .returned (.tuple #[.slice (some ⟨x, 0, none⟩) n c, .bool true]) ∧ w.heap.size ≤ x ∧ x ≠ b ∧ n ≤ c ∧ NumR w' x n r))

theorem serComp_pow {f g : Nat → Int} {n i : Nat} (hi : i < n) (h : serIn n 1000000000000 (serPow g i) = false) : serComp f g n = none := by
  rw [serComp, serWay_pow hi h]; rfl
theorem serComp_part {f g : Nat → Int} {n i : Nat} (hi : i < n) (h : serIn n 1000000000000 (serPart f g (i + 1)) = false) : serComp f g n = none := by
  rw [serComp, serWay_part hi h]; rfl
theorem serComp_yes {f g : Nat → Int} {n : Nat} (h : ∀ i, i < n → serIn n 1000000000000 (serPow g i) = true ∧ serIn n 1000000000000 (serPart f g (i + 1)) = true) : serComp f g n = some (serPart f g n) := by
  rw [serComp, if_pos (serWay_iff.2 h)]

set_option maxRecDepth 100000 in
set_option maxHeartbeats 1000000 in
theorem compose_any (n : Nat) (f g : Nat → Int) (y p cf x o cg b : Nat) (w : World) (hn : 1 ≤ n) (hn2 : n ≤ 8) (hf0 : ∀ j, j < n → -1000000 ≤ f j ∧ f j ≤ 1000000) (hg0 : ∀ j, j < n → -1000000 ≤ g j ∧ g j ≤ 1000000)
    (hf : NumO w (some ⟨y, p, none⟩) n f) (hg : NumO w (some ⟨x, o, none⟩) n g) (hyb : y ≠ b) (hxb : x ≠ b) (hm : MapOwn w b) :
    Calls Try.prog 46 #[.map (some b), .slice (some ⟨y, p, none⟩) n cf, .slice (some ⟨x, o, none⟩) n cg] w (CompPost b n f g w) := by
  obtain ⟨i0, hi0, hz0, hzs, hzb⟩ := info_parts infoNum
  obtain ⟨m, D, hm⟩ := hm
  have HBG := Lib.hid (begin_any n g x o cg b m D w hg hxb hm)
  have hblt := hm.lt
  have HF := Lib.hid hf
  have HF0 := Lib.hid hf0
  have HG0 := Lib.hid hg0
  clear hf hg hm hf0 hg0
  go_enter Try.func46, Try.ntmps46
  go_wp2_with fail
  refine HBG.out.mono ?_
  rintro e w1 ⟨rfl, hgr1, hp1⟩
  have HG1 := Lib.hid hgr1
  have HP1 := Lib.hid hp1
  have HF1 := Lib.hid (HF.out.kept hgr1 hyb)
  have hs1 := hgr1.size
  clear hgr1 hp1
  go_wp2_with (at_make; refine wpList_make_full _ rfl _ _ 36 rfl w1.heap.size 3 i0 (.int .i64 0) 1 Try.underlying36 hi0 hz0 hzs .i64 .i64 _ _ n rfl rfl rfl rfl ?c1 ?c2 (Nat.le_refl _) ?_)
  case c1 => rw [hzb]; omega
  case c2 => unfold maxLen; omega
  intro w2 hown hgr2
  have hr2 : NumR w2 w1.heap.size n (serPart f g 0) := (NumR.of_owns hown (f := serPart f g 0) (fun j hj => by show _ = some (Value.int .i64 0); simpa using madeNum_get hj)).1
  have hB2 : Below w1.heap.size w1 w2 := (Below.refl _ _).grown hgr2 (by omega) (fun k e => by cases e)
  have HR2 := Lib.hid hr2
  have HB2 := Lib.hid hB2
  have HG2 : Hid (w.grownBy w2 (some b)) := Lib.hid (HG1.out.trans (below_some hB2))
  have HF2 : Hid (NumO w2 (some ⟨y, p, none⟩) n f) := Lib.hid (HF1.out.below hB2)
  have HP2 : Hid (PowM w2 b g n 1) := Lib.hid (HP1.out.below hB2)
  clear hr2 hown hgr2 hB2
  go_wp2_with fail
  go_loopw [8, 21] (fun sv iv wr => ∃ i gs c : Nat, i ≤ n ∧ iv = .int .i64 i ∧ sv = .slice (some ⟨gs, 0, none⟩) n c ∧ w.heap.size ≤ gs ∧ gs ≠ b ∧ n ≤ c ∧ NumR wr gs n (serPart f g i) ∧ PowM wr b g n (powKept i) ∧ (∀ t, t < i → serIn n 1000000000000 (serPow g t) = true ∧ serIn n 1000000000000 (serPart f g (t + 1)) = true) ∧ NumO wr (some ⟨y, p, none⟩) n f ∧ w.grownBy wr (some b)) (fun _ iv _ => n - (intOf iv).toNat)
  case atStart => exact ⟨0, w1.heap.size, n, Nat.zero_le _, rfl, rfl, by omega, by omega, Nat.le_refl _, HR2.out, HP2.out, fun t ht => by omega, HF2.out, HG2.out⟩
  case round =>
    obtain ⟨i, gs, c, hi, rfl, rfl, hgs, hgb, hc, hr, hp, hway, hfo, hgr⟩ := hrel
    have HR := Lib.hid hr
    have HP := Lib.hid hp
    have HW := Lib.hid hway
    have HFO := Lib.hid hfo
    have HGR := Lib.hid hgr
    have hsr := hgr.size
    clear hr hp hway hgr
    by_cases hlt : i < n
    · obtain ⟨y', p', ey, c0⟩ := hfo i hlt
      simp only [Option.some.injEq, Addr.mk.injEq, and_true] at ey
      obtain ⟨rfl, rfl⟩ := ey
      have ht := HF0.out i hlt
      obtain ⟨t, hte⟩ : ∃ t, t = f i := ⟨_, rfl⟩
      rw [← hte] at c0 ht
      have HTE := Lib.hid hte
      have HPW := Lib.hid (power_any n i b g ((i : Int) + 1) wr (by omega) hn2 hlt HG0.out (fun t ht => (HW.out t ht).1) HP.out)
      clear hfo hte
      go_wp2_with fail
      refine HPW.out.mono ?_
      rintro e w3 ⟨hg3, ⟨hno, hp3, rfl⟩ | ⟨hyes, hp3, x3, o3, c3, rfl, hx3, hn3⟩⟩
      · have HNO := Lib.hid hno
        have HP3 := Lib.hid hp3
        have HG3 := Lib.hid (HGR.out.trans hg3)
        clear hno hp3 hg3
        go_wp2_with fail
        go_ret2
        exact ⟨HG3.out, HP3.out.mapOwn, .inl ⟨serComp_pow hlt HNO.out, rfl⟩⟩
      · have HYES := Lib.hid hyes
        have HP3 := Lib.hid hp3
        have HG3 := Lib.hid (HGR.out.trans hg3)
        have HR3 := Lib.hid (HR.out.kept hg3 hgb)
        have HFO3 := Lib.hid (HFO.out.kept hg3 hyb)
        have hs3 := hg3.size
        have HPL := Lib.hid (serPlus_any n (serPart f g i) (serPow g i) t (some ⟨gs, 0, none⟩) (some ⟨x3, o3, none⟩) c c3 w3 (by omega) hn2 ht (fun j hj => by
          rcases i with _ | i
          · show _ ≤ (0 : Int) ∧ (0 : Int) ≤ _; omega
          · exact serIn_iff.1 (HW.out i (by omega)).2 j hj) (fun j hj => serIn_iff.1 hyes j hj) HR3.out.o hn3)
        clear hyes hp3 hg3 hn3
        go_wp2_with fail
        refine HPL.out.mono ?_
        rintro e w4 ⟨hB4, gs4, c4, rfl, hg4, hc4, hr4⟩
        have hr4' : NumR w4 gs4 n (serPart f g (i + 1)) := hr4.congr (fun j hj => by rw [HTE.out]; rfl)
        have HR4 := Lib.hid hr4'
        have HG4 := Lib.hid (HG3.out.trans (below_some hB4))
        have HP4 := Lib.hid (HP3.out.below hB4)
        have HFO4 := Lib.hid (HFO3.out.below hB4)
        have hs4 := hB4.size
        obtain ⟨bb, hbb⟩ : ∃ bb, serIn n 1000000000000 (serPart f g (i + 1)) = bb := ⟨_, rfl⟩
        have HIW := Lib.hid (isWithin_any n (serPart f g (i + 1)) (some ⟨gs4, 0, none⟩) c4 1000000000000 w4 (by omega) (by omega) (by omega) hr4'.o)
        rw [hbb] at HIW
        have HBB := Lib.hid hbb
        have hg4b : gs4 ≠ b := by omega
        have hg4w : w.heap.size ≤ gs4 := by omega
        clear hB4 hr4 hr4' hbb
        go_wp2_with fail
        refine HIW.out.mono ?_
        rintro e w5 ⟨rfl, hB5⟩
        have HR5 := Lib.hid (HR4.out.below hB5)
        have HG5 := Lib.hid (HG4.out.trans (below_some hB5))
        have HP5 := Lib.hid (HP4.out.below hB5)
        have HFO5 := Lib.hid (HFO4.out.below hB5)
        clear hB5
        cases bb
        · go_wp2_with fail
          go_ret2
          exact ⟨HG5.out, HP5.out.mapOwn, .inl ⟨serComp_part hlt HBB.out, rfl⟩⟩
        · go_wp2_with fail
          refine ⟨⟨i + 1, gs4, c4, by omega, by go_num, rfl, hg4w, hg4b, hc4, HR5.out, HP5.out, fun t ht => ?_, HFO5.out, HG5.out⟩, by simp [intOf]; omega⟩
          by_cases e : t = i
          · subst e; exact ⟨HYES.out, HBB.out⟩
          · exact HW.out t (by omega)
    · have hin : i = n := by omega
      have HRN : Hid (NumR wr gs n (serPart f g n)) := Lib.hid (by rw [← hin]; exact hin ▸ HR.out)
      have HY : Hid (serComp f g n = some (serPart f g n)) := Lib.hid (serComp_yes (fun t ht => HW.out t (by omega)))
      clear hin hfo
      go_wp2_with fail
      go_ret2
      exact ⟨HGR.out, HP.out.mapOwn, .inr ⟨serPart f g n, gs, c, HY.out, rfl, hgs, hgb, hc, HRN.out⟩⟩

end Go.Proofs.Ytnobpckmlhgeiaa
