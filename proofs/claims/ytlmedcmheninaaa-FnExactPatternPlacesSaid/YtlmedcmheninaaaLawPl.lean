/- The law of PatternPlaces. -/
import Derived.Test.YtlmedcmheninaaaPlMk
namespace Go.Proofs.Ytlmedcmheninaaa
open Go.RowKit

theorem plAll_mem {p t : T} (hp : p.wf) (ht : t.wf) {x : Nat × List T} (h : x ∈ plAll p t) : x.2.length = p.leaves := by
  rw [plAll, plUp, List.mem_filterMap] at h
  obtain ⟨k, hk, he⟩ := h
  have hk' : k < t.nodes := by simpa using hk
  obtain ⟨r, q, a, hc⟩ := cutAt_some t k hk'
  have hs := subs_cut t k r q a hc
  cases hq : p.partsOf q with
  | none => rw [plAt_none hs hq] at he; cases he
  | some ts =>
    rw [plAt_some hs hq, Option.some.injEq] at he
    rw [← he]
    exact (partsOf_ok p q ts hp (cutAt_wf t k r q a ht hc).2.1 hq).1

theorem plTxs_ok (pat s : ByteArray) : (plTxs pat s).length ≤ 100 ∧ ∀ x ∈ plTxs pat s, 0 < x.2.length ∧ x.2.length ≤ 100 := by
  unfold plTxs plV
  cases hp : patOf pat with
  | none => simp
  | some p =>
    cases ht : parse s.data.toList with
    | none => simp
    | some t =>
      obtain ⟨hpw, _, hpl, _⟩ := parse_some (patOf_some hp).1
      obtain ⟨htw, _, _, htn⟩ := parse_some ht
      simp only [Option.getD_some, List.length_map, List.mem_map]
      refine ⟨by have := plUp_length p t t.nodes; rw [plAll]; omega, ?_⟩
      rintro x ⟨y, hy, rfl⟩
      have h1 := plAll_mem hpw htw hy
      have h2 := leaves_pos p hpw
      simp only [plTx, List.length_map]
      omega

theorem flat_get0 : ∀ (us : List PlX) (j : Nat) (h : j < us.length), (us.flatMap PlX.cells)[j * 2]? = some (.int .i64 us[j].node)
  | [], _, h => by simp at h
  | u :: us, 0, _ => by simp [PlX.cells]
  | u :: us, j + 1, h => by
    have := flat_get0 us j (by simpa using h)
    rw [List.flatMap_cons, List.getElem?_append_right (by simp [PlX.cells]; omega)]
    rw [show (j + 1) * 2 - (PlX.cells u).length = j * 2 by simp [PlX.cells]; omega, this]
    rfl

theorem PlI.rd {b9 : Nat} {w1 : World} {us : List PlX} {R : Nat → Prop} {V : World} {va : Option Addr} {vc : Nat} (h : PlI b9 w1 us R V va vc) (h0 : ∀ x ∈ us.map PlX.key, 0 < x.2.length) : Rd plE V (fun _ => True) va (us.map PlX.key) := fun k hk => by
  have hku : k < us.length := by simpa using hk
  have hpos := h0 ((us.map PlX.key)[k]) (List.getElem_mem hk)
  rw [List.getElem_map] at hpos
  rcases h.row.2 with ⟨_, e⟩ | ⟨g, cap, cur, e, _, hg, _, _, hs, ht⟩
  · omega
  · simp only [Value.slice.injEq] at e
    obtain ⟨e1, _, _⟩ := e
    have c0 := flat_get0 us k hku
    have c1 := flat_get us k hku
    rw [← ht, List.getElem?_take, if_pos (by omega), Array.getElem?_toList] at c0 c1
    rw [List.getElem_map]
    refine ⟨g, [.int .i64 us[k].node, us[k].val], e1, trivial, fun j hj => ?_, us[k].g, us[k].cap, rfl, trivial, hpos, fun j hj => ?_⟩
    · rw [Lib.cell_of_heap hg]
      have hj2 : j < 2 := hj
      rcases j with _ | _ | j
      · exact c0
      · exact c1
      · omega
    · have hj2 : j < us[k].tx.length := hj
      rcases (h.inner k hku).1.2 with ⟨e, _⟩ | ⟨g', cap', cur', e, _, hg', _, _, _, ht'⟩
      · simp [PlX.val] at e
      · simp only [PlX.val, Value.slice.injEq, Option.some.injEq, Addr.mk.injEq] at e
        obtain ⟨⟨e2, _⟩, _, _⟩ := e
        rw [← e2] at hg'
        rw [Lib.cell_of_heap hg']
        have h2 : (strs us[k].tx)[j]? = some (.string ⟨(us[k].tx[j]).toArray⟩) := by simp [strs, hj2]
        rw [← ht', List.getElem?_take, if_pos (by omega), Array.getElem?_toList] at h2
        exact h2

theorem MP.base {w : World} {a : Option Addr} {us : List PlX} {m i base base' : Nat} (h : MP w a us m i base) (hb : base' ≤ base) : MP w a us m i base' :=
  ⟨fun hne => by
    obtain ⟨g, cur, e, h1, h2⟩ := h.arr hne
    exact ⟨g, cur, e, Nat.le_trans hb h1, h2⟩, fun j hj => ⟨Nat.le_trans hb (h.txs j hj).1, (h.txs j hj).2⟩, h.dist⟩

/-- What the law wants of 'impl.PatternPlaces'. -/
def PlsL (ks : List (Nat × List (List UInt8))) (n : Nat) (b : Bool) (w : World) (e : Ending) (w' : World) : Prop :=
  Below w.heap.size w w' ∧ ∃ us a c, e = .returned (.tuple #[.slice a n c, .bool b]) ∧ n = us.length ∧ (∀ j (h : j < us.length), (us[j]).tx.length ≤ 100) ∧ Rd plE w' (fun _ => True) a ks ∧ MP w' a us 1 0 w.heap.size

theorem iPl_any (pat s : ByteArray) (w : World) (hp : pat.size ≤ 1048576) (hs : s.size ≤ 1048576) :
    Calls Try.prog 30 #[.string pat, .string s] w (PlsL (plTxs pat s) (plTxs pat s).length (plV pat s).isSome w) := by
  refine (iPlaces_any pat s w hp hs).mono ?_
  rintro e w' ⟨hB, ⟨hno, rfl⟩ | ⟨pls, us, b9, w1, R, va, vc, hyes, rfl, hkeys, hle, hpl⟩⟩
  · refine ⟨hB, [], none, 0, by rw [plTxs, hno]; rfl, by rw [plTxs, hno]; rfl, fun j h => by simp at h, by rw [plTxs, hno]; exact Rd.nil, ⟨fun h => absurd rfl h, fun j h => by simp at h, fun j k h => by simp at h⟩⟩
  · have hk : us.map PlX.key = plTxs pat s := by rw [hkeys, plTxs, hyes]; rfl
    have hok := plTxs_ok pat s
    refine ⟨hB, us, va, vc, by rw [← hk, List.length_map, hyes]; rfl, by rw [← hk, List.length_map], fun j h => ?_, by rw [← hk]; exact hpl.rd (fun x hx => (hok.2 x (by rw [← hk]; exact hx)).1), (MP.of_pl hpl).base hle⟩
    exact (hok.2 (us[j]).key (by rw [← hk]; exact List.mem_map.2 ⟨us[j], List.getElem_mem h, rfl⟩)).2

theorem Rd.belowB {α : Type} {E : Elt α} {w w' : World} {B : Nat} {a : Option Addr} {us : List α} (h0 : 0 < E.size) (h : Rd E w (fun b => b < B) a us) (hb : Below B w w') : Rd E w' (fun b => b < B) a us :=
  h.keep h0 (fun _ _ hq hu => (hb.cell hq).trans hu) (fun _ h _ => h)

set_option maxRecDepth 100000 in
set_option maxHeartbeats 2000000 in
theorem lawPatternPlaces_any (p q : ByteArray) (w : World) (hp : p.size ≤ maxLen) (hq : q.size ≤ maxLen) :
    Calls Try.prog 8 #[.string p, .string q] w (Ans (.bool true) w) := by
  unfold maxLen at hp hq
  by_cases h : (p.size : Int) ≤ 1048576
  · by_cases h2 : (q.size : Int) ≤ 1048576
    · have hS := sPlaces_any p q w (by omega) (by omega)
      have hI := fun w => iPl_any p q w (by omega) (by omega)
      obtain ⟨hn100, hL⟩ := plTxs_ok p q
      obtain ⟨b, hb⟩ : ∃ b, b = (plV p q).isSome := ⟨_, rfl⟩
      obtain ⟨ks, hks⟩ : ∃ ks, ks = plTxs p q := ⟨_, rfl⟩
      rw [← hb, ← hks] at hS hI
      rw [← hks] at hn100 hL
      obtain ⟨n, hn⟩ : ∃ n, n = ks.length := ⟨_, rfl⟩
      rw [← hn] at hI hn100
      have HS := Lib.hid hS
      have HI := Lib.hid hI
      have HNK := Lib.hid hn
      have HL : Hid (∀ j (h : j < ks.length), (ks[j]).2.length ≤ 100) := Lib.hid (fun j h => (hL _ (List.getElem_mem h)).2)
      have HEQ : Hid (∀ (a a' : Option Addr) (c c' : Nat) (W : World), Rd plE W (fun _ => True) a ks → Rd plE W (fun _ => True) a' ks → Calls Try.prog 31 #[.slice a n c, .slice a' n c'] W (Ans (.bool true) W)) := Lib.hid (fun a a' c c' W h1 h2 => eqPlaceS_any ks n hn a a' c c' W hn100 (fun j h => (hL _ (List.getElem_mem h)).2) h1 h2)
      clear hS hI hb hks hn hL
      cases b
      all_goals
        go_enter Try.func8, Try.ntmps8
        go_wp2_with fail
        refine HS.out.mono ?_
        rintro e w1 ⟨hB1, va, n', c, rfl, hn', hrd1⟩
        have hnn : n' = n := by rw [hn', HNK.out]
        subst hnn
        have HB1 := Lib.hid hB1
        have HR1 := Lib.hid (hrd1.weak (P' := fun b => b < w1.heap.size) (by decide) (fun _ _ h => h))
        clear hB1 hn' hrd1
        go_wp2_with fail
        refine (HI.out w1).mono ?_
        rintro e w2 ⟨hB2, us, a2, c2, rfl, hlen, htx, hrd2, hmp2⟩
        have HB2 := Lib.hid hB2
        have HR2 := Lib.hid hrd2
        have HMP2 := Lib.hid hmp2
        have HUS := Lib.hid hlen
        have HTX := Lib.hid htx
        have hs2 := hB2.size
        clear hB2 hrd2 hmp2 hlen htx
        go_wp2_with fail
        refine (HEQ.out a2 va c2 c w2 HR2.out ((HR1.out.belowB (by decide) HB2.out).weak (by decide) (fun _ _ _ => trivial))).mono ?_
        rintro e w3 ⟨rfl, hB3⟩
        have HB3 := Lib.hid hB3
        have hs3 := hB3.size
        clear hB3
        have HMK := Lib.hid (markPlaceS_any us n' HUS.out a2 c2 1 w1.heap.size w3 hn100 HTX.out (by omega) (by omega) (by omega) (HMP2.out.below HB3.out))
        go_wp2_with fail
        refine HMK.out.mono ?_
        rintro e w4 ⟨rfl, hB4, hmp4⟩
        have HB4 : Hid (Below w1.heap.size w1 w4) := Lib.hid ((HB2.out.trans (HB3.out.mono hs2)).trans hB4)
        have HMP4 := Lib.hid hmp4
        obtain ⟨o, ho⟩ : ∃ o, o = offP 1 us n' := ⟨_, rfl⟩
        have hog : 1 ≤ o := by rw [ho]; exact offP_ge 1 us n'
        have HHD : Hid (∀ W, Below w4.heap.size w4 W → Calls Try.prog 33 #[.slice a2 n' c2, .int .i64 1] W (Ans (.int .i64 o) W)) := Lib.hid (fun W hb => by
          have := heldPlaceS_any us n' HUS.out a2 c2 1 w1.heap.size W hn100 HTX.out (by omega) (by omega) (HMP4.out.below hb)
          rw [← ho] at this
          exact this)
        rw [← ho]
        have hneg : ¬ ((o : Int) < 0) := by omega
        clear hB4 hmp4 ho HMK
        go_wp2_with fail
        refine (HHD.out w4 (Below.refl _ _)).mono ?_
        rintro e w5 ⟨rfl, hB5⟩
        have HB5 := Lib.hid hB5
        clear hB5
        go_wp2_with fail
        refine (HI.out w5).mono ?_
        rintro e w6 ⟨hB6, us6, a6, c6, rfl, hl6, ht6, hrd6, hm6⟩
        have HB6 := Lib.hid (below_step HB5.out hB6)
        have HR6 := Lib.hid hrd6
        clear hB6 hrd6 hl6 ht6 hm6
        go_wp2_with fail
        refine (HEQ.out a6 va c6 c w6 HR6.out ((HR1.out.belowB (by decide) (HB4.out.trans (HB6.out.mono HB4.out.size))).weak (by decide) (fun _ _ _ => trivial))).mono ?_
        rintro e w7 ⟨rfl, hB7⟩
        have HB7 := Lib.hid (below_step HB6.out hB7)
        clear hB7
        go_wp2_with fail
        refine (HHD.out w7 HB7.out).mono ?_
        rintro e w8 ⟨rfl, hB8⟩
        have HB8 := Lib.hid (below_step HB7.out hB8)
        clear hB8
        go_wp2_with fail
        go_ret
        exact ⟨rfl, HB1.out.trans ((HB4.out.trans (HB8.out.mono HB4.out.size)).mono HB1.out.size)⟩
    · go_enter Try.func8, Try.ntmps8
      go_wp2_with fail
      go_ret
      exact ⟨rfl, Below.refl _ _⟩
  · go_enter Try.func8, Try.ntmps8
    go_wp2_with fail
    go_ret
    exact ⟨rfl, Below.refl _ _⟩
end Go.Proofs.Ytlmedcmheninaaa
