/- Merged out of: XWhole, XWholeS. -/
import Derived.Test.YtfflgjidapclkaaLawGraft
import Derived.Test.YtfflgjidapclkaaKPathsJ
section
/- A tree grafted at all leaves: what is answered; the model's list of parsed trees. -/
namespace Go.Proofs.Ytfflgjidapclkaa
open Go.RowKit

def parseAll : List (List UInt8) → Option (List T)
  | [] => some []
  | p :: r => match parse p, parseAll r with
    | some u, some us => some (u :: us)
    | _, _ => none

theorem parseAll_some : ∀ (ps : List (List UInt8)) (us : List T), us.length = ps.length → (∀ j (h : j < ps.length) (h' : j < us.length), parse ps[j] = some us[j]) → parseAll ps = some us
  | [], [], _, _ => rfl
  | [], _ :: _, h, _ => by simp at h
  | _ :: _, [], h, _ => by simp at h
  | p :: ps, u :: us, h, hj => by
    have h0 : parse p = some u := hj 0 (by simp) (by simp)
    have h1 := parseAll_some ps us (by simpa using h) (fun j hp hu => by have := hj (j + 1) (by simp; omega) (by simp; omega); simpa using this)
    simp only [parseAll, h0, h1]

theorem parseAll_none : ∀ (ps : List (List UInt8)) (j : Nat) (h : j < ps.length), parse ps[j] = none → parseAll ps = none
  | [], _, h, _ => by simp at h
  | p :: ps, 0, _, hj => by
    have h0 : parse p = none := hj
    simp only [parseAll, h0]
  | p :: ps, j + 1, h, hj => by
    have h1 := parseAll_none ps j (by simpa using h) (by simpa using hj)
    simp only [parseAll, h1]
    cases parse p <;> rfl

/-- What is grafted. -/
def wholeOf (s : List UInt8) (ps : List (List UInt8)) : Option T :=
  match parse s with
  | none => none
  | some t => if ps.length = t.leaves then (match parseAll ps with | some us => some (t.fill us) | none => none) else none

theorem wholeOf_no {s : List UInt8} {ps : List (List UInt8)} (h : parse s = none) : wholeOf s ps = none := by simp [wholeOf, h]
theorem wholeOf_len {s : List UInt8} {ps : List (List UInt8)} {t : T} (h : parse s = some t) (hl : ps.length ≠ t.leaves) : wholeOf s ps = none := by
  simp only [wholeOf, h]; rw [if_neg hl]
theorem wholeOf_bad {s : List UInt8} {ps : List (List UInt8)} {j : Nat} (h : j < ps.length) (hj : parse ps[j] = none) : wholeOf s ps = none := by
  have := parseAll_none ps j h hj
  cases hp : parse s with
  | none => exact wholeOf_no hp
  | some t =>
    simp only [wholeOf, hp, this]
    split <;> rfl
theorem wholeOf_yes {s : List UInt8} {ps : List (List UInt8)} {t : T} {us : List T} (h : parse s = some t) (hl : ps.length = t.leaves) (hu : us.length = ps.length) (hj : ∀ j (h : j < ps.length) (h' : j < us.length), parse ps[j] = some us[j]) : wholeOf s ps = some (t.fill us) := by
  simp only [wholeOf, h, parseAll_some ps us hu hj]; rw [if_pos hl]

/-- The model's row of trees. -/
def ListRel (base : Nat) (acc : List T) (va : Option Addr) (vc : Nat) (xs : List Value) (wr : World) : Prop :=
  wr.ownsRow base 52 2 (.slice va acc.length vc) acc.length xs ∧
  (∀ k (h : k < acc.length), ∃ l sl, xs[k * 2]? = some l ∧ xs[k * 2 + 1]? = some sl ∧ RepS wr (fun b => base ≤ b ∧ (Value.slice va acc.length vc).ownBlock ≠ some b) acc[k] l sl) ∧
  T.wfL acc

theorem ListRel.next {base : Nat} {acc : List T} {va : Option Addr} {vc : Nat} {xs : List Value} {wr w1 w1' w2 : World} {t : T} {lb : ByteArray} {sa : Option Addr} {sn sc g cap : Nat}
    (h : ListRel base acc va vc xs wr) (hbw : base ≤ wr.heap.size) (hb1 : Below wr.heap.size wr w1) (hrep : RepS w1 (fun b => wr.heap.size ≤ b) t (.string lb) (.slice sa sn sc)) (htw : t.wf)
    (hb2 : Below w1.heap.size w1 w1')
    (hown : w2.ownsRow base 52 2 (.slice (some ⟨g, 0, none⟩) (acc.length + 1) cap) (acc.length + 1) (xs ++ [.string lb, .slice sa sn sc]))
    (hg : w1'.grownBy w2 (Value.slice va acc.length vc).ownBlock) (hf : (Value.slice va acc.length vc).ownBlock = some g ∨ w1.heap.size ≤ g) :
    ListRel base (acc ++ [t]) (some ⟨g, 0, none⟩) cap (xs ++ [.string lb, .slice sa sn sc]) w2 := by
  obtain ⟨own, reps, hwf⟩ := h
  have hsz := hb1.size
  have hsz2 := hb2.size
  have hown0 := own.lt
  have hxl : xs.length = acc.length * 2 := own.1
  have hblk : ∀ b, b < w1.heap.size → (Value.slice va acc.length vc).ownBlock ≠ some b → w2.heap[b]? = w1.heap[b]? := by
    intro b hb hne
    rw [hg.block b (by omega) (fun e => hne e.symm), hb2.block b hb]
  refine ⟨by rw [List.length_append]; exact hown, ?_, by rw [wfL_append]; exact ⟨hwf, by simp [T.wfL, htw]⟩⟩
  intro k hk'
  rw [List.length_append]
  by_cases hka : k < acc.length
  · obtain ⟨l, sl, e1, e2, e3⟩ := reps k hka
    refine ⟨l, sl, by rw [List.getElem?_append_left (by omega)]; exact e1, by rw [List.getElem?_append_left (by omega)]; exact e2, ?_⟩
    rw [List.getElem_append_left hka]
    refine e3.keep (w := wr) ?_ ?_ (wfL_get hwf k hka)
    · intro a u ha hu
      have hab := World.block_lt_of_cell? wr a hu
      rw [World.cell?_of_block (hblk a.block (by omega) ha.2), World.cell?_of_block (hb1.block a.block hab)]
      exact hu
    · intro b hb hlt
      refine ⟨hb.1, fun e => ?_⟩
      simp only [Value.ownBlock, Option.some.injEq] at e
      subst e
      rcases hf with e | e
      · exact hb.2 e
      · omega
  · have hke : k = acc.length := by simp at hk'; omega
    subst hke
    refine ⟨.string lb, .slice sa sn sc, by rw [List.getElem?_append_right (by omega), hxl]; simp, by rw [List.getElem?_append_right (by omega), hxl]; simp, ?_⟩
    rw [List.getElem_append_right (by omega)]
    simp only [Nat.sub_self, List.getElem_singleton]
    have hneo : ∀ b, wr.heap.size ≤ b → (Value.slice va acc.length vc).ownBlock ≠ some b := fun b hb e => by
      have h1 := hown0 b e
      omega
    refine hrep.keep (w := w1) ?_ ?_ htw
    · intro a u ha hu
      have hab := World.block_lt_of_cell? w1 a hu
      rw [World.cell?_of_block (hblk a.block hab (hneo _ ha))]
      exact hu
    · intro b hb hlt
      refine ⟨by omega, fun e => ?_⟩
      simp only [Value.ownBlock, Option.some.injEq] at e
      subst e
      rcases hf with e | e
      · exact hneo _ hb e
      · omega

/-- The row is made: how its trees lie. -/
theorem ListRel.rep {base : Nat} {acc : List T} {va : Option Addr} {vc : Nat} {xs : List Value} {wr : World}
    (h : ListRel base acc va vc xs wr) (h1 : 1 ≤ acc.length) : ∃ g, va = some ⟨g, 0, none⟩ ∧ base ≤ g ∧ g < wr.heap.size ∧ acc.length ≤ vc ∧ vc ≤ 9223372036854775807 ∧ RepSL wr (fun b => base ≤ b) acc g 0 := by
  obtain ⟨own, reps, hwf⟩ := h
  have own0 := own
  rcases own.2 with ⟨_, e⟩ | ⟨g, cap, cur, e, hbg, hgg, hnc, hcm, hcs, htake⟩
  · omega
  · simp only [Value.slice.injEq] at e
    obtain ⟨rfl, _, rfl⟩ := e
    refine ⟨g, rfl, hbg, (Array.getElem?_eq_some_iff.1 hgg).1, hnc, by simpa [maxLen] using hcm, RepSL.of_get fun k hk' => ?_⟩
    obtain ⟨l, sl, e1, e2, e3⟩ := reps k hk'
    have c1 := own0.cells (g := g) rfl (k * 2) l e1
    have c2 := own0.cells (g := g) rfl (k * 2 + 1) sl e2
    have ha : ∀ n, (⟨g, 0, none⟩ : Addr).add n = ⟨g, n, none⟩ := fun n => by unfold Addr.add; split <;> simp_all
    rw [ha] at c1 c2
    simp only [Nat.zero_add]
    exact ⟨l, sl, c1, c2, e3.keep (fun _ _ _ h => h) (fun b h _ => h.1) (wfL_get hwf k hk')⟩

theorem ListRel.start (w : World) (base : Nat) (hb : base ≤ w.heap.size) : ListRel base [] (some ⟨w.heap.size, 0, none⟩) 0 [] (w.alloc (.cells #[] 52)) := by
  refine ⟨?_, fun k h => by simp at h, by simp [T.wfL]⟩
  have := World.ownsRow_made (base := base) (e := 52) (size := 2) w #[] 0 (by omega) (by simp [maxLen]) rfl
  exact this

theorem sizes_of {us : List T} {ps : List (List UInt8)} (hu : us.length = ps.length) (hj : ∀ j (h : j < ps.length) (h' : j < us.length), parse ps[j] = some us[j]) : ∀ u ∈ us, u.leaves ≤ 12 ∧ u.nodes ≤ 16 := by
  intro u hm
  obtain ⟨j, hj', rfl⟩ := List.getElem_of_mem hm
  have := parse_some (hj j (by omega) hj')
  exact this.2.2
end Go.Proofs.Ytfflgjidapclkaa
end
section
/- TreeWhole by the model. -/
namespace Go.Proofs.Ytfflgjidapclkaa
open Go.RowKit

set_option maxRecDepth 100000 in
set_option maxHeartbeats 4000000 in
theorem sWhole_any (s : ByteArray) (ps : List (List UInt8)) (a : Option Addr) (cap : Nat) (w : World) (hs : s.size ≤ 140737488351232) (hn : ps.length ≤ 1048576) (hz : ∀ j (h : j < ps.length), (ps[j]).length ≤ 1048576) (hl : Lies w a ps) :
    Calls Try.prog 16 #[.string s, .slice a ps.length cap] w (Ans (graftV (wholeOf s.data.toList ps)) w) := by
  have HL := Lib.hid hl
  have HZ := Lib.hid hz
  clear hl hz
  go_enter Try.func16, Try.ntmps16
  go_wp2_with fail
  refine (l1Parse_any s w hs).mono ?_
  rintro e w1 ⟨hB, lb, sa, sn, sc, b, rfl, hres⟩
  have HB := Lib.hid hB
  rcases hres with ⟨hno, rfl⟩ | ⟨t, hyes, rfl, hrep⟩
  · have HN := Lib.hid (wholeOf_no (ps := ps) hno)
    clear hno
    go_wp2_with fail
    go_ret2
    exact ⟨by rw [HN.out]; rfl, below_step HB.out ((Below.refl _ _).alloc (Nat.le_refl _) _)⟩
  · obtain ⟨hw, htx, hlv, hnd⟩ := parse_some hyes
    clear htx
    have HA1 : Hid (Below w1.heap.size w1 (w1.alloc (.cells #[.string lb, .slice sa sn sc] 52 (0, 0)))) := Lib.hid ((Below.refl _ _).alloc (Nat.le_refl _) _)
    have HRT := Lib.hid ((hrep.keep (w' := w1) (P' := fun b => b < w1.heap.size) (fun _ _ _ h => h) (fun b _ h => h) hw).below hw HA1.out)
    have HN := Lib.hid hyes
    obtain ⟨nn, hnn⟩ : ∃ nn, nn = t.leaves := ⟨_, rfl⟩
    have HNN := Lib.hid hnn
    have HLV := l1Leaves_any _ t _ _ _ (fun b => b < w1.heap.size) (Nat.le_refl _) hw (by omega) HRT.out
    rw [← hnn] at HLV
    have HLV := Lib.hid HLV
    have hnn1 : 1 ≤ nn := by rw [hnn]; exact leaves_pos _ hw
    have hnb : nn ≤ 12 := by omega
    have HW := Lib.hid hw
    have HSZ := Lib.hid (And.intro hlv hnd)
    clear hyes hrep hnn hlv hnd hw hB
    go_wp2_with fail
    refine HLV.out.mono ?_
    rintro e w2 ⟨rfl, hB2⟩
    have HB2 := Lib.hid hB2
    have hx0 : w2.heap[w1.heap.size]? = some (.cells #[.string lb, .slice sa sn sc] 52 (0, 0)) := (hB2.block _ (by simp)).trans (heap_alloc_new w1 _)
    have HX0 := Lib.hid hx0
    have hlt12 : w1.heap.size < w2.heap.size := (Array.getElem?_eq_some_iff.1 hx0).1
    have HBB := Lib.hid (below_step (below_step HB.out HA1.out) hB2)
    clear hB2 hx0
    by_cases hlen : ps.length = nn
    · have HLEN := Lib.hid hlen
      have hne : ((ps.length : Int) != (nn : Int)) = false := by simp; omega
      obtain ⟨i0, hi0, hz, hzs, hzb⟩ := info_parts info42
      have HST : Hid (Below w2.heap.size w2 (w2.alloc (.cells #[] 52 (0, 0)))) := Lib.hid ((Below.refl _ _).alloc (Nat.le_refl _) _)
      clear hlen
      go_wp2_with fail
      go_loopw [8, 9] (fun kv iv wr => ∃ (k : Nat) (va : Option Addr) (vc : Nat) (xs : List Value) (us : List T), k ≤ ps.length ∧ us.length = k ∧ iv = .int .i64 k ∧ kv = .slice va k vc ∧
        ListRel w2.heap.size us va vc xs wr ∧ (∀ j (h : j < ps.length) (h' : j < us.length), parse ps[j] = some us[j]) ∧ Below w2.heap.size w2 wr) (fun _ iv _ => ps.length - (intOf iv).toNat)
      case atStart => exact ⟨0, _, 0, [], [], Nat.zero_le _, rfl, rfl, rfl, ListRel.start w2 _ (Nat.le_refl _), fun j _ h => by simp at h, HST.out⟩
      case round =>
        obtain ⟨k, va, vc, xs, us, hk, hul, rfl, rfl, hrel, hj, hB⟩ := hrel
        have hwl : w.heap.size ≤ wr.heap.size := by have := HBB.out.size; have := hB.size; omega
        have HJ := Lib.hid hj
        have HREL := Lib.hid hrel
        have HUL := Lib.hid hul
        have hrsz := hB.size
        have HBR := Lib.hid hB
        have HBW := Lib.hid (below_step HBB.out hB)
        have HX := Lib.hid ((hB.block _ hlt12).trans HX0.out)
        clear hj hrel hB
        by_cases hlt : k < ps.length
        · obtain ⟨g, rfl, hcc⟩ := (HL.out.below HBW.out) k hlt
          have hszk : (⟨(ps[k]).toArray⟩ : ByteArray).size ≤ 140737488351232 := by
            have := HZ.out k hlt
            have e : (⟨(ps[k]).toArray⟩ : ByteArray).size = (ps[k]).length := by simp [ByteArray.size]
            omega
          have HP := Lib.hid (l1Parse_any ⟨(ps[k]).toArray⟩ wr hszk)
          clear hszk hul
          go_wp2_with fail
          refine HP.out.mono ?_
          rintro e w3 ⟨hB3, ub, ua, un, uc, b2, rfl, hres3⟩
          have HB3 := Lib.hid hB3
          rcases hres3 with ⟨hno, rfl⟩ | ⟨u, hyes3, rfl, hrep3⟩
          · have HNO := Lib.hid (wholeOf_bad (s := s.data.toList) hlt (by simpa using hno))
            clear hno hB3
            go_wp2_with fail
            go_ret2
            exact ⟨by rw [HNO.out]; rfl, below_step (below_step HBW.out HB3.out) ((Below.refl _ _).alloc (Nat.le_refl _) _)⟩
          · have huw := (parse_some hyes3).1
            have HOWN : Hid (w3.ownsRow w2.heap.size 52 2 (.slice va k vc) k xs) := Lib.hid (by
              have := owns_below HREL.out.1 hB3
              rw [HUL.out] at this
              exact this)
            have own1 := Lib.hid ((HOWN.out.alloc (.cells #[.string ub, .slice ua un uc] 52 (0, 0))).alloc (.cells #[.string ub, .slice ua un uc] 52 (0, 0)))
            have HY : Hid (parse (ps[k]) = some u) := Lib.hid (by simpa using hyes3)
            have HREP := Lib.hid hrep3
            have HUW := Lib.hid huw
            have hs3 := hB3.size
            clear hyes3 hrep3 huw hB3
            go_wp2_with (at_builtin; refine wpList_append_new _ rfl _ _ 50 rfl w2.heap.size 52 i0 (.agg #[.string ⟨#[]⟩, .slice none 0 0]) 2 40 Try.underlying50 hi0 hz hzs hzb rfl (by decide) _ _ _ rfl own1.out ⟨w3.heap.size + 1, 0, none⟩ 1 1 [.string ub, .slice ua un uc] (by decide) rfl ?c1 ?c2 ?c3 ?c4 ?c5 ?c6 ?_)
            case c1 => rfl
            case c2 => exact cells_two (by simp) _ _
            case c3 => simp [Value.oneCell']
            case c4 => unfold maxLen; omega
            case c5 => omega
            case c6 => simp; omega
            intro gg cap' w4 hown' hg hf
            have hb2 : Below w3.heap.size w3 ((w3.alloc (.cells #[.string ub, .slice ua un uc] 52 (0, 0))).alloc (.cells #[.string ub, .slice ua un uc] 52 (0, 0))) := ((Below.refl _ _).alloc (Nat.le_refl _) _).alloc (by simp) _
            have hown0 := HOWN.out.lt
            have NX := HREL.out.next (t := u) hrsz HB3.out HREP.out HUW.out hb2 (by rw [HUL.out]; exact hown') (by rw [HUL.out]; exact hg) (by rw [HUL.out]; rcases hf with h | h; exact .inl h; exact .inr (by first | omega | (simp at h ⊢; omega)))
            have NXX := Lib.hid NX
            have HB4 : Hid (Below w2.heap.size w2 w4) := Lib.hid (((HBR.out.trans (HB3.out.mono hrsz)).trans (hb2.mono (by omega))).grown hg (by simp; omega) (fun q e => by have := (hown0 q e).1; omega))
            clear hown' hg hf NX hb2 hown0
            go_wp2_with fail
            go_roundw
            case rel => exact ⟨k + 1, some ⟨gg, 0, none⟩, cap', _, us ++ [u], by omega, by rw [List.length_append, HUL.out]; rfl, by go_num, rfl, NXX.out, fun j h h' => by
                by_cases e : j < us.length
                · rw [List.getElem_append_left e]; exact HJ.out j h e
                · have hjk : j = k := by have := HUL.out; simp at h'; omega
                  subst hjk
                  rw [List.getElem_append_right (by omega)]
                  simpa using HY.out, HB4.out⟩
            case measure => simp [intOf]; omega
        · have hkk : k = ps.length := by omega
          have hupl : us.length = ps.length := by omega
          obtain ⟨g, rfl, hbg, hgl, hvc, hbnd, hus⟩ := HREL.out.rep (by have := HLEN.out; omega)
          obtain ⟨x0, x1, _, _⟩ := two_cells HX.out
          have hwfu := HREL.out.2.2
          have HSZU := Lib.hid (sizes_of hupl HJ.out)
          have HV := Lib.hid (wholeOf_yes HN.out (by rw [HLEN.out, HNN.out]) hupl HJ.out)
          have hx0lt : w1.heap.size < wr.heap.size := (Array.getElem?_eq_some_iff.1 HX.out).1
          have HG0 := l1Whole_any t (.string lb) (.slice sa sn sc) us g vc wr (fun b => b < wr.heap.size) HW.out hwfu (by have := HLEN.out; have := HNN.out; omega) hvc hbnd (fun b h => h) hgl
            (((HRT.out.below HW.out HB2.out).below HW.out HBR.out).keep (fun _ _ _ h => h) (fun b _ h => h) HW.out) (hus.keep (fun _ _ _ h => h) (fun b _ h => h) hbg hwfu)
          rw [hupl] at HG0
          have HG := Lib.hid HG0
          have HFW := Lib.hid (fill_wf t us HW.out hwfu)
          have HFL := Lib.hid (fill_len (us := us) HSZ.out.1 HSZ.out.2 HSZU.out)
          clear HG0 hus hwfu hupl hbg hul hbnd
          go_wp2_with fail
          refine HG.out.mono ?_
          rintro e w5 ⟨hB5, kb, ka, kn, kc, rfl, hr5⟩
          have HD := Lib.hid (l1Done_any _ kb ka kn kc w5 _ HFW.out (by have := HFL.out; omega) (by have := HFL.out; omega) HFL.out.2.2 hr5)
          obtain ⟨x, bb, hx⟩ := doneV_shape (t.fill us)
          rw [hx] at HD
          have HXX := Lib.hid hx
          have HB5 := Lib.hid hB5
          clear hr5 hB5 hx
          go_wp2_with fail
          refine HD.out.mono ?_
          rintro e w6 ⟨rfl, hB6⟩
          go_wp2_with fail
          go_ret2
          exact ⟨by rw [HV.out, graftV, HXX.out]; rfl, below_step (below_step HBW.out HB5.out) hB6⟩
    · have HNO := Lib.hid (wholeOf_len (ps := ps) HN.out (by rw [← HNN.out]; exact hlen))
      have hne : ((ps.length : Int) != (nn : Int)) = true := by simp; omega
      clear hlen
      go_wp2_with fail
      go_ret2
      exact ⟨by rw [HNO.out]; rfl, HBB.out⟩
end Go.Proofs.Ytfflgjidapclkaa
end
