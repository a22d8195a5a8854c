/- The program puts a tree in the place of a pattern. -/
import Derived.Test.YtfjodghnheliaaaMatI
import Derived.Test.YtfjodghnheliaaaJoinI
import Derived.Test.YtfjodghnheliaaaKFillI
namespace Go.Proofs.Ytfjodghnheliaaa
open Go.RowKit

/-- The pattern's parts grafted at the leaves of another tree, put where the pattern stands. -/
def putOf (p t b : T) (k : Nat) : Option T :=
  match t.cutAt k with
  | none => none
  | some (_, q, _) => match p.partsOf q with
    | none => none
    | some ts => some (t.putAt k (b.fill ts))
def putW (p t b : T) (k : Nat) : Value :=
  match putOf p t b k with
  | none => .tuple #[.string ⟨#[]⟩, .bool false]
  | some u => doneV u
/-- What PatternPut answers. -/
def putV (pat s : ByteArray) (v : Int) (y : ByteArray) : Value :=
  match patOf pat, parse s.data.toList, parse y.data.toList with
  | some p, some t, some b => if b.leaves = p.leaves ∧ 0 ≤ v ∧ v ≤ (t.nodes : Int) - 1 then putW p t b v.toNat else .tuple #[.string ⟨#[]⟩, .bool false]
  | _, _, _ => .tuple #[.string ⟨#[]⟩, .bool false]

theorem putOf_out {p t b : T} {k : Nat} (h : t.cutAt k = none) : putW p t b k = .tuple #[.string ⟨#[]⟩, .bool false] := by rw [putW, putOf, h]
theorem putOf_no {p t b r q : T} {k a : Nat} (h : t.cutAt k = some (r, q, a)) (hu : p.partsOf q = none) : putW p t b k = .tuple #[.string ⟨#[]⟩, .bool false] := by
  rw [putW, putOf, h]; simp only; rw [hu]
theorem putOf_yes {p t b r q : T} {k a : Nat} {ts : List T} (h : t.cutAt k = some (r, q, a)) (hu : p.partsOf q = some ts) : putW p t b k = doneV (t.putAt k (b.fill ts)) := by
  rw [putW, putOf, h]; simp only; rw [hu]
theorem putV_some {pat s y : ByteArray} {v : Int} {p t b : T} (h1 : patOf pat = some p) (h2 : parse s.data.toList = some t) (h3 : parse y.data.toList = some b) :
    putV pat s v y = if b.leaves = p.leaves ∧ 0 ≤ v ∧ v ≤ (t.nodes : Int) - 1 then putW p t b v.toNat else .tuple #[.string ⟨#[]⟩, .bool false] := by rw [putV, h1, h2, h3]

theorem put_all {p t b r q : T} {k a : Nat} {ts : List T} (hpw : p.wf) (htw : t.wf) (hbw : b.wf) (hl : b.leaves = p.leaves) (hb : b.leaves ≤ 12 ∧ b.nodes ≤ 16) (ht : t.leaves ≤ 12 ∧ t.nodes ≤ 16) (h : t.cutAt k = some (r, q, a)) (hu : p.partsOf q = some ts) :
    ts.length = b.leaves ∧ T.wfL ts ∧ (b.fill ts).wf ∧ (t.putAt k (b.fill ts)).wf ∧ (t.putAt k (b.fill ts)).leaves ≤ 1000 ∧ (t.putAt k (b.fill ts)).nodes ≤ 1000 ∧ (t.putAt k (b.fill ts)).text.length ≤ 100000 := by
  obtain ⟨h1, h2, _, _⟩ := cutAt_wf t k r q a htw h
  obtain ⟨h3, h4, h5, h6⟩ := cut_size t k r q a h
  obtain ⟨g1, g2, g3, g4⟩ := partsOf_ok p q ts hpw h2 hu
  have f1 := fill_count b ts (by omega)
  have f2 := fill_wf b ts hbw g2
  have f3 := put_size (u := b.fill ts) htw h
  have f4 := putAt_wf t k _ htw f2
  have f5 := text_length (t.putAt k (b.fill ts))
  have ht' : ts.take b.leaves = ts := List.take_of_length_le (by omega)
  rw [ht'] at f1
  have := leaves_pos _ h1
  exact ⟨by omega, g2, f2, f4, by omega, by omega, by omega⟩

theorem trI.rl {w : World} {Q Q' : Nat → Prop} {g : Nat} {ts : List T} (h : Rd (trI.inn Q) w (fun _ => True) (some ⟨g, 0, none⟩) ts) (hq : ∀ b, Q b → Q' b) : RepIL w Q' ts g 0 :=
  RepIL.of_get fun j hj => by
    obtain ⟨g', cs, e, _, hc, ty, a, rfl, hw, hr⟩ := h j hj
    simp only [Option.some.injEq, Addr.mk.injEq] at e
    obtain ⟨rfl, _⟩ := e
    have := hc 0 (show 0 < 1 by decide)
    refine ⟨ty, a, ?_, hr.keep (fun _ _ _ h => h) (fun b h _ => hq b h.2) hw⟩
    rw [Nat.zero_add]
    simpa [trI, Elt.inn] using this

/-- What 'readPatternAndTree' answers. -/
def RPT (pat s : ByteArray) (w : World) (e : Ending) (w' : World) : Prop :=
  Below w.heap.size w w' ∧ (((patOf pat = none ∨ parse s.data.toList = none) ∧ e = .returned (.tuple #[.pointer none, .nilIface, .bool false])) ∨
    ∃ p t a ty b, patOf pat = some p ∧ parse s.data.toList = some t ∧ e = .returned (.tuple #[.pointer (some a), .iface ty (.pointer (some b)), .bool true]) ∧ RepI w' (fun b => w.heap.size ≤ b) p 48 a ∧ RepI w' (fun b => w.heap.size ≤ b) t ty b)

set_option maxRecDepth 100000 in
set_option maxHeartbeats 1000000 in
theorem readPT_any (pat s : ByteArray) (w : World) (hp : pat.size ≤ 1048576) (hs : s.size ≤ 1048576) :
    Calls Try.prog 30 #[.string pat, .string s] w (RPT pat s w) := by
  have HT := Lib.hid (fun (W : World) => readTree_any s W (by omega))
  have HP := Lib.hid (readPattern_any pat w hp)
  go_enter Try.func30, Try.ntmps30
  go_wp2_with fail
  refine HP.out.mono ?_
  rintro e w1 ⟨hB1, ⟨hno, rfl⟩ | ⟨p, a, hyes, rfl, hrep⟩⟩
  · have HN := Lib.hid hno
    clear hno
    go_wp2_with fail
    go_returns
    exact ⟨hB1, .inl ⟨.inl HN.out, rfl⟩⟩
  · have HY := Lib.hid hyes
    have HR := Lib.hid hrep
    clear hyes hrep
    go_wp2_with fail
    refine (HT.out _).mono ?_
    rintro e w2 ⟨hB2, ⟨hno, rfl⟩ | ⟨t, ty, b, hyes, rfl, hrep⟩⟩
    · have HN := Lib.hid hno
      clear hno
      go_wp2_with fail
      go_returns
      exact ⟨below_step hB1 hB2, .inl ⟨.inr HN.out, rfl⟩⟩
    · have HY2 := Lib.hid hyes
      have HR2 := Lib.hid hrep
      clear hyes hrep
      go_wp2_with fail
      go_returns
      exact ⟨below_step hB1 hB2, .inr ⟨p, t, a, ty, b, HY.out, HY2.out, rfl, HR.out.below (parse_some (patOf_some HY.out).1).1 hB2, HR2.out.keep (fun _ _ _ h => h) (fun b h _ => by have := hB1.size; omega) (parse_some HY2.out).1⟩⟩

set_option maxRecDepth 100000 in
set_option maxHeartbeats 4000000 in
theorem iPut_any (pat s y : ByteArray) (v : Int) (w : World) (hp : pat.size ≤ 1048576) (hs : s.size ≤ 1048576) (hy : y.size ≤ 1048576) (hv : v ≤ 9223372036854775807) :
    Calls Try.prog 22 #[.string pat, .string s, .int .i64 v, .string y] w (Ans (putV pat s v y) w) := by
  have HT := Lib.hid (fun (W : World) => readTree_any y W (by omega))
  have HP := Lib.hid (readPT_any pat s w hp hs)
  go_enter Try.func22, Try.ntmps22
  go_wp2_with fail
  refine HP.out.mono ?_
  rintro e w1 ⟨hB1, ⟨hno, rfl⟩ | ⟨p, t, a, ty, at', hyx, hyt, rfl, hr1, hr2⟩⟩
  · have HN : Hid (putV pat s v y = .tuple #[.string ⟨#[]⟩, .bool false]) := Lib.hid (by
      rw [putV]
      rcases hno with h | h
      · rw [h]
      · rw [h]; cases patOf pat <;> rfl)
    clear hno
    go_wp2_with fail
    go_ret2
    exact ⟨by rw [HN.out]; rfl, hB1⟩
  · obtain ⟨hpw, hpe, hpl, hpn⟩ := parse_some (patOf_some hyx).1
    obtain ⟨htw, hte, htl, htn⟩ := parse_some hyt
    obtain ⟨c, ks, hpk⟩ := (patOf_some hyx).2
    have HPK := Lib.hid hpk
    have HR1 := Lib.hid hr1
    have HR2 := Lib.hid hr2
    have HB1 := Lib.hid hB1
    have HYX := Lib.hid hyx
    have HYT := Lib.hid hyt
    clear hpk hr1 hr2 hB1 hyx hyt hpe hte
    by_cases h0 : v < 0
    · have e0 : decide (v < 0) = true := decide_eq_true h0
      have HN : Hid (putV pat s v y = .tuple #[.string ⟨#[]⟩, .bool false]) := Lib.hid (by
        cases hb : parse y.data.toList with
        | none => rw [putV, hb, HYX.out, HYT.out]
        | some b => rw [putV_some HYX.out HYT.out hb, if_neg (by omega)])
      clear h0
      go_wp2_with fail
      go_ret2
      exact ⟨by rw [HN.out]; rfl, HB1.out⟩
    · have e0 : decide (v < 0) = false := decide_eq_false h0
      obtain ⟨k, hk⟩ : ∃ k : Nat, (k : Int) = v := ⟨v.toNat, by omega⟩
      subst hk
      clear h0
      go_wp2_with fail
      refine (HT.out _).mono ?_
      rintro e w2 ⟨hB2, ⟨hno, rfl⟩ | ⟨b, tyb, ab, hyb, rfl, hrb⟩⟩
      · have HN : Hid (putV pat s (k : Int) y = .tuple #[.string ⟨#[]⟩, .bool false]) := Lib.hid (by rw [putV, hno, HYX.out, HYT.out])
        have HB2 := Lib.hid (below_step HB1.out hB2)
        clear hno hB2
        go_wp2_with fail
        go_ret2
        exact ⟨by rw [HN.out]; rfl, HB2.out⟩
      · obtain ⟨hbw, hbe, hbl, hbn⟩ := parse_some hyb
        have HV := Lib.hid (putV_some (v := (k : Int)) HYX.out HYT.out hyb)
        have HB2 := Lib.hid (below_step HB1.out hB2)
        have hr1 := HR1.out.below hpw hB2
        have hr2 := HR2.out.below htw hB2
        have HRP : Hid (RepI w2 (fun b => b < w2.heap.size) p 48 a) := Lib.hid (hr1.keep (fun _ _ _ h => h) (fun _ _ h => h) hpw)
        have HRT : Hid (RepI w2 (fun b => b < w2.heap.size) t ty at') := Lib.hid (hr2.keep (fun _ _ _ h => h) (fun _ _ h => h) htw)
        have HRB : Hid (RepI w2 (fun b => b < w2.heap.size) b tyb ab) := Lib.hid (hrb.keep (fun _ _ _ h => h) (fun _ _ h => h) hbw)
        have HLP : Hid (Calls Try.prog 54 #[.pointer (some a)] w2 fun e w' => e = .returned (.int .i64 ((p.leaves : Nat) : Int)) ∧ w2 = w') := Lib.hid (by
          have h := HRP.out
          have hw := hpw
          have hl := hpl
          rw [HPK.out] at h hw hl ⊢
          rw [T.wf] at hw
          rw [T.leaves] at hl ⊢
          refine (nodeLeaves_any _ c ks _ a w2 _ (Nat.le_refl _) hw.2.2.2.2 (by omega) h).mono ?_
          rintro e w' ⟨rfl, h⟩
          exact ⟨by simp, h⟩)
        have HCT := Lib.hid (cutTree_any _ t ty at' k w2 (fun b => b < w2.heap.size) (Nat.le_refl _) htw (by omega) (by omega) (by omega) (fun _ h => h) HRT.out)
        have hcase : (tyb = 110 ∧ Calls Try.prog 110 #[.pointer (some ab)] w2 (fun e w' => e = .returned (.int .i64 ((b.leaves : Nat) : Int)) ∧ w2 = w')) ∨
            (tyb = 48 ∧ Calls Try.prog 54 #[.pointer (some ab)] w2 (fun e w' => e = .returned (.int .i64 ((b.leaves : Nat) : Int)) ∧ w2 = w')) := by
          have h := HRB.out
          cases b with
          | leaf =>
            rw [RepI] at h
            exact .inl ⟨h, leafLeaves_any ab w2⟩
          | node d js =>
            right
            have hw := hbw
            have hl := hbl
            rw [T.wf] at hw
            rw [T.leaves] at hl ⊢
            refine ⟨by rw [RepI] at h; exact h.1, (nodeLeaves_any _ d js _ ab w2 _ (Nat.le_refl _) hw.2.2.2.2 (by omega) h).mono ?_⟩
            rintro e w' ⟨rfl, h⟩
            exact ⟨by simp, h⟩
        have HRB0 := Lib.hid hbw
        rcases hcase with ⟨rfl, hlb⟩ | ⟨rfl, hlb⟩
        all_goals
          have HLB := Lib.hid hlb
          have HYB := Lib.hid hyb
          clear hlb hyb hr1 hr2 hrb hbe hB2
          by_cases hl : b.leaves = p.leaves
          · have hq1 : (((b.leaves : Nat) : Int) != ((p.leaves : Nat) : Int)) = false := by simp [hl]
            have hq2 : (((b.leaves : Nat) : Int) == ((p.leaves : Nat) : Int)) = true := by simp [hl]
            have HL := Lib.hid hl
            clear hl
            go_wp2_with fail
            refine HLB.out.mono ?_
            rintro e w3 ⟨rfl, rfl⟩
            go_wp2_with fail
            refine HLP.out.mono ?_
            rintro e w3 ⟨rfl, rfl⟩
            go_wp2_with fail
            refine HCT.out.mono ?_
            rintro e w3 ⟨hB3, ⟨hno, rfl⟩ | ⟨r, q, j, ty1, a1, ty2, a2, hcut, rfl, hr, hq⟩⟩
            · have HN : Hid (putV pat s (k : Int) y = .tuple #[.string ⟨#[]⟩, .bool false]) := Lib.hid (by
                rw [HV.out]
                split
                · exact putOf_out hno
                · rfl)
              have HB3 := Lib.hid (below_step HB2.out hB3)
              clear hno hB3
              go_wp2_with fail
              go_ret2
              exact ⟨by rw [HN.out]; rfl, HB3.out⟩
            · obtain ⟨hrw, hqw, _, _⟩ := cutAt_wf t k r q j htw hcut
              have hcs := cut_size t k r q j hcut
              have hkn : k < t.nodes := by
                rcases Nat.lt_or_ge k t.nodes with h | h
                · exact h
                · rw [cutAt_none t k h] at hcut; cases hcut
              have HCUT := Lib.hid hcut
              have HB3 := Lib.hid (below_step HB2.out hB3)
              have HR3 : Hid (RepI w3 (fun b => b < w3.heap.size) r ty1 a1) := Lib.hid (hr.keep (fun _ _ _ h => h) (fun _ _ h => h) hrw)
              have HQ3 : Hid (RepI w3 (fun b => b < w3.heap.size) q ty2 a2) := Lib.hid (hq.keep (fun _ _ _ h => h) (fun _ _ h => h) hqw)
              have HP3 : Hid (RepI w3 (fun b => b < w3.heap.size) p 48 a) := Lib.hid ((HRP.out.below hpw hB3).keep (fun _ _ _ h => h) (fun _ _ h => h) hpw)
              have HB3r := Lib.hid (HRB.out.below hbw hB3)
              have HM := Lib.hid (partsAt_any p q _ ty2 a a2 w3 hpw hqw (by omega) HP3.out HQ3.out)
              clear hr hq hcut hB3
              go_wp2_with fail
              refine HM.out.mono ?_
              rintro e w4 ⟨hB4, ⟨hno, rfl⟩ | ⟨ts, g, cc, hts, rfl, hle, hcm, hgl, hrd⟩⟩
              · have HN : Hid (putV pat s (k : Int) y = .tuple #[.string ⟨#[]⟩, .bool false]) := Lib.hid (by
                  rw [HV.out]
                  split
                  · exact putOf_no HCUT.out hno
                  · rfl)
                have HB4 := Lib.hid (below_step HB3.out hB4)
                clear hno hB4
                go_wp2_with fail
                go_ret2
                exact ⟨by rw [HN.out]; rfl, HB4.out⟩
              · obtain ⟨f1, f2, f3, f4, f5, f6, f7⟩ := put_all hpw htw HRB0.out HL.out ⟨hbl, hbn⟩ ⟨htl, htn⟩ HCUT.out hts
                have HN : Hid (putV pat s (k : Int) y = doneV (t.putAt k (b.fill ts))) := Lib.hid (by
                  rw [HV.out, if_pos ⟨HL.out, by omega, by omega⟩]
                  exact putOf_yes HCUT.out hts)
                have HB4 := Lib.hid (below_step HB3.out hB4)
                have HG := Lib.hid (graftAll_wide _ b ts _ ab g 0 cc w4 (fun b => b < w4.heap.size) (Nat.le_refl _) hbw f2 (by omega) hle ⟨by omega, by omega⟩ (fun _ h => h) hgl
                  ((HB3r.out.below hbw hB4).keep (fun _ _ _ h => h) (fun _ _ h => h) hbw) (trI.rl hrd (fun x hx => Nat.lt_of_lt_of_le hx hB4.size)))
                have HR4 := Lib.hid (HR3.out.below hrw hB4)
                clear hts hrd hB4 f1
                go_wp2_with fail
                refine HG.out.mono ?_
                rintro e w5 ⟨hB5, ty5, a5, rfl, hr5⟩
                have HB5 := Lib.hid (below_step HB4.out hB5)
                have HGA := graftAt_any r j (b.fill ts) ty1 a1 ty5 a5 w5 (fun b => b < w5.heap.size) hrw f3 (by omega) hcs.2.2.2 (fun _ h => h)
                  ((HR4.out.below hrw hB5).keep (fun _ _ _ h => h) (fun _ _ h => h) hrw) (hr5.keep (fun _ _ _ h => h) (fun _ _ h => h) f3)
                rw [graft_put htw HCUT.out] at HGA
                have HGB := Lib.hid HGA
                obtain ⟨u, hu⟩ : ∃ u, u = t.putAt k (b.fill ts) := ⟨_, rfl⟩
                clear HGA hr5 hB5
                rw [← hu] at HGB HN f4 f5 f6 f7
                clear hu
                go_wp2_with fail
                refine HGB.out.mono ?_
                rintro e w6 ⟨hB6, ty6, a6, rfl, hr6⟩
                have HB6 := Lib.hid (below_step HB5.out hB6)
                have HBT := Lib.hid (boundedText_any u ty6 a6 w6 _ f4 (by omega) (by omega) f7 hr6)
                obtain ⟨sv, bv, hd⟩ : ∃ sv bv, doneV u = .tuple #[.string sv, .bool bv] := by
                  rw [doneV]
                  split
                  · exact ⟨_, _, rfl⟩
                  · exact ⟨_, _, rfl⟩
                rw [hd] at HBT HN
                clear hr6 hB6 hd
                go_wp2_with fail
                refine HBT.out.mono ?_
                rintro e w7 ⟨rfl, hB7⟩
                have HB7 := Lib.hid (below_step HB6.out hB7)
                clear hB7
                go_wp2_with fail
                go_ret2
                exact ⟨by rw [HN.out]; rfl, HB7.out⟩
          · have hq1 : (((b.leaves : Nat) : Int) != ((p.leaves : Nat) : Int)) = true := by simp; omega
            have hq2 : (((b.leaves : Nat) : Int) == ((p.leaves : Nat) : Int)) = false := beq_false_of_ne (by omega)
            have HN : Hid (putV pat s (k : Int) y = .tuple #[.string ⟨#[]⟩, .bool false]) := Lib.hid (by rw [HV.out, if_neg (fun h => hl h.1)])
            clear hl
            go_wp2_with fail
            refine HLB.out.mono ?_
            rintro e w3 ⟨rfl, rfl⟩
            go_wp2_with fail
            refine HLP.out.mono ?_
            rintro e w3 ⟨rfl, rfl⟩
            go_wp2_with fail
            go_ret2
            exact ⟨by rw [HN.out]; rfl, HB2.out⟩
end Go.Proofs.Ytfjodghnheliaaa
