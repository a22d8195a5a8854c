/- Merged out of: XQuadB, XQuadC, XQuadD. -/
import Derived.Test.YtoeebipahifpcaaGreatKQuadT
import Derived.Test.YtoeebipahifpcaaGreatKQuadP
import Derived.Test.YtoeebipahifpcaaGreatReadP
import Derived.Test.YtoeebipahifpcaaGreatKTermS
section
/- The row of a sum of quadratic trees, by the model. -/
namespace Go.Proofs.YtoeebipahifpcaaGreat
open Go.RowKit

set_option maxRecDepth 100000 in
set_option maxHeartbeats 1000000 in
theorem l6qSign_any (c : UInt8) (k : T) (ks : List T) (lb : ByteArray) (sa : Option Addr) (sn sc : Nat) (w : World) (P : Nat → Prop) (hr : RepS w P (.node c (k :: ks)) (.string lb) (.slice sa sn sc)) :
    Calls Tryz.prog 36 #[.agg #[.string lb, .slice sa sn sc]] w (Ans (.int .i64 (quadSign (.node c (k :: ks)))) w) := by
  rw [RepS] at hr
  obtain ⟨_, g, cap, e, _, _, hk⟩ := hr
  simp only [Value.slice.injEq] at e
  obtain ⟨rfl, rfl, rfl⟩ := e
  obtain ⟨l, s, h0, _, hrk⟩ := hk.get 0 (by simp)
  simp only [Nat.zero_add, Nat.zero_mul, List.getElem_cons_zero] at h0 hrk
  have hlt : g < w.heap.size := World.block_lt_of_cell? w _ h0
  have hl1 : 0 < (k :: ks).length := by simp
  obtain ⟨n, hn⟩ : ∃ n, n = (k :: ks).length := ⟨_, rfl⟩
  rw [← hn] at hl1
  rw [← hn]
  clear hk hn
  cases k with
  | leaf =>
    rw [RepS] at hrk
    obtain ⟨rfl, _⟩ := hrk
    go_enter Tryz.func36, Tryz.ntmps36
    go_wp2_with fail
    go_ret
    exact ⟨rfl, (Below.refl _ _).alloc (Nat.le_refl _) _⟩
  | node c' ks' =>
    rw [RepS] at hrk
    obtain ⟨rfl, _⟩ := hrk
    obtain ⟨x, hx⟩ : ∃ x : ByteArray, x = ⟨#[c']⟩ := ⟨_, rfl⟩
    rw [← hx] at h0
    have hx1 : x.toList.isEmpty = false := by rw [ByteArray.toList_eq, hx]; rfl
    have hx2 : (x.toList == []) = false := by rw [ByteArray.toList_eq, hx]; rfl
    clear hx
    go_enter Tryz.func36, Tryz.ntmps36
    go_wp2_with fail
    go_ret
    exact ⟨rfl, (Below.refl _ _).alloc (Nat.le_refl _) _⟩

/-! How many terms have a tree of the list. -/
def hits (qs : List Tm) (t : T) : Nat := qs.countP fun p => decide (ordT t p.2 = 0)
def hitsAll (qs : List Tm) : List T → Nat
  | [] => 0
  | t :: ts => hits qs t + hitsAll qs ts

theorem countP_or {α : Type} (p q : α → Bool) : ∀ (l : List α), (∀ a ∈ l, ¬ (p a = true ∧ q a = true)) → l.countP (fun a => p a || q a) = l.countP p + l.countP q
  | [], _ => by simp
  | a :: l, h => by
    have ih := countP_or p q l (fun b hb => h b (by simp [hb]))
    have h0 := h a (by simp)
    simp only [List.countP_cons, ih]
    cases hp : p a <;> cases hq : q a <;> simp_all <;> omega

theorem hitsAll_eq (qs : List Tm) : ∀ (ts : List T), ts.Pairwise (fun a b => 0 < ordT a b) → hitsAll qs ts = qs.countP fun p => ts.any fun t => decide (ordT t p.2 = 0)
  | [], _ => by simp [hitsAll]
  | t :: ts, h => by
    have h' := List.pairwise_cons.1 h
    have e : (fun p : Tm => (t :: ts).any fun u => decide (ordT u p.2 = 0)) = fun p => decide (ordT t p.2 = 0) || ts.any fun u => decide (ordT u p.2 = 0) := by
      funext p; simp
    rw [hitsAll, hitsAll_eq qs ts h'.2, e, countP_or, hits]
    rintro p _ ⟨h1, h2⟩
    rw [List.any_eq_true] at h2
    obtain ⟨u, hu, h3⟩ := h2
    simp only [decide_eq_true_eq] at h1 h3
    have h4 := h'.1 u hu
    have h5 := isCmp_ordT.anti u p.2
    have := isCmp_ordT.zero h1 (show ordT p.2 u = 0 by omega)
    omega

/-- All terms have a tree of the list, exactly if there are as many hits as terms. -/
theorem hits_all {qs : List Tm} {ts : List T} (hts : ∀ t ∈ ts, t.wf) (hqs : ∀ p ∈ qs, p.2.wf) (hd : ts.Pairwise (fun a b => 0 < ordT a b)) : hitsAll qs ts = qs.length ↔ ∀ p ∈ qs, ∃ t ∈ ts, t.text = p.2.text := by
  rw [hitsAll_eq qs ts hd, List.countP_eq_length]
  constructor
  · intro h p hp
    have := h p hp
    rw [List.any_eq_true] at this
    obtain ⟨t, ht, e⟩ := this
    simp only [decide_eq_true_eq] at e
    exact ⟨t, ht, by rw [ordT_zero (hts t ht) (hqs p hp) e]⟩
  · intro h p hp
    obtain ⟨t, ht, e⟩ := h p hp
    rw [List.any_eq_true]
    refine ⟨t, ht, ?_⟩
    rw [text_inj (hts t ht) (hqs p hp) e, isCmp_ordT.self]; rfl

/-- The row is read off at one tree, term by term. -/
def lastC (t : T) : List Tm → Int → Int
  | [], v => v
  | p :: ps, v => lastC t ps (if ordT t p.2 = 0 then p.1 else v)
theorem lastC_snoc (t : T) (p : Tm) : ∀ (ps : List Tm) (v : Int), lastC t (ps ++ [p]) v = if ordT t p.2 = 0 then p.1 else lastC t ps v
  | [], v => rfl
  | q :: ps, v => by
    rw [List.cons_append, lastC, lastC_snoc t p ps, lastC]
theorem lastC_none (t : T) : ∀ (ps : List Tm) (v : Int), (∀ p ∈ ps, ordT t p.2 ≠ 0) → lastC t ps v = v
  | [], _, _ => rfl
  | q :: ps, v, h => by rw [lastC, if_neg (h q (by simp)), lastC_none t ps v (fun p hp => h p (by simp [hp]))]
theorem lastC_cf {t : T} : ∀ {ps : List Tm}, NF ps → lastC t ps 0 = cf ps t
  | [], _ => rfl
  | p :: ps, h => by
    rw [lastC, cf]
    have ha := isCmp_ordT.anti t p.2
    by_cases e : ordT t p.2 = 0
    · rw [if_pos e, if_pos (by omega), lastC_none, cf_none]
      · omega
      · intro q hq e2
        have h1 := h.head q hq
        have := isCmp_ordT.zero (show ordT p.2 t = 0 by omega) (show ordT t q.2 = 0 by have := isCmp_ordT.anti q.2 t; omega)
        omega
      · intro q hq e2
        have h1 := h.head q hq
        have := isCmp_ordT.zero (show ordT p.2 t = 0 by omega) e2
        omega
    · rw [if_neg e, if_neg (by omega), lastC_cf h.tail]; omega
/-- A row of numbers. -/
def iarr (n : Nat) (f : Nat → Int) : Array Value := ((List.range n).map fun j => Value.int .i64 (f j)).toArray
theorem iarr_size (n : Nat) (f : Nat → Int) : (iarr n f).size = n := by simp [iarr]
theorem iarr_get {n : Nat} (f : Nat → Int) {j : Nat} (h : j < n) : (iarr n f)[j]? = some (.int .i64 (f j)) := by simp [iarr, h]
theorem iarr_ext {n : Nat} {c : Array Value} {f : Nat → Int} (hs : c.size = n) (h : ∀ j, j < n → c[j]? = some (.int .i64 (f j))) : c = iarr n f := by
  apply Array.ext_getElem?
  intro i
  by_cases hi : i < n
  · rw [h i hi, iarr_get _ hi]
  · rw [Array.getElem?_eq_none (by omega), Array.getElem?_eq_none (by rw [iarr_size]; omega)]
theorem iarr_set (n : Nat) (f : Nat → Int) {k : Nat} (v : Int) {f' : Nat → Int} (hk : k < n) (h : ∀ j, j < n → f' j = if j = k then v else f j) : (iarr n f).setIfInBounds k (.int .i64 v) = iarr n f' := by
  apply iarr_ext (by rw [Array.size_setIfInBounds, iarr_size])
  intro j hj
  rw [h j hj]
  by_cases e : k = j
  · subst e; rw [Array.getElem?_setIfInBounds_self_of_lt (by rw [iarr_size]; exact hk), if_pos rfl]
  · rw [Array.getElem?_setIfInBounds_ne e, iarr_get _ hj, if_neg (fun h => e h.symm)]

theorem infoIntQ : (Tryz.prog.info? 3).map (fun i => (i.zero, i.size, i.bytes)) = some (some (.int .i64 0), 1, 8) := by kernel_rfl

/-- What stands in the row while tree i is compared, k terms seen. -/
def rowF (ts : List T) (qs : List Tm) (i : Nat) (j : Nat) : Int := if h : j < ts.length then (if j < i then lastC ts[j] qs 0 else 0) else 0
def rowV (ts : List T) (qs : List Tm) (i k : Nat) (j : Nat) : Int := if h : j < ts.length then (if j < i then lastC ts[j] qs 0 else if j = i then lastC ts[j] (qs.take k) 0 else 0) else 0

theorem rowV_zero (ts : List T) (qs : List Tm) (i j : Nat) : rowV ts qs i 0 j = rowF ts qs i j := by
  unfold rowV rowF
  split
  · split
    · rfl
    · split <;> rfl
  · rfl
theorem rowV_end (ts : List T) (qs : List Tm) (i j : Nat) : rowV ts qs i qs.length j = rowF ts qs (i + 1) j := by
  unfold rowV rowF
  split
  · rw [List.take_length]
    by_cases h1 : j < i
    · rw [if_pos h1, if_pos (by omega)]
    · by_cases h2 : j = i
      · rw [if_neg h1, if_pos h2, if_pos (by omega)]
      · rw [if_neg h1, if_neg h2, if_neg (by omega)]
  · rfl
theorem rowV_hit {ts : List T} {qs : List Tm} {i k : Nat} (hi : i < ts.length) (hk : k < qs.length) (j : Nat) : rowV ts qs i (k + 1) j = if j = i then (if ordT ts[i] (qs[k]).2 = 0 then (qs[k]).1 else lastC ts[i] (qs.take k) 0) else rowV ts qs i k j := by
  unfold rowV
  by_cases h : j = i
  · subst h
    rw [if_pos rfl, dif_pos hi, if_neg (by omega), if_pos rfl, List.take_succ_eq_append_getElem hk, lastC_snoc]
  · rw [if_neg h]
    split
    · split
      · rfl
      · rfl
    · rfl
theorem rowV_at {ts : List T} {qs : List Tm} {i k : Nat} (hi : i < ts.length) : rowV ts qs i k i = lastC ts[i] (qs.take k) 0 := by
  unfold rowV
  rw [dif_pos hi, if_neg (by omega), if_pos rfl]
theorem hits_next (t : T) {qs : List Tm} {k : Nat} (hk : k < qs.length) : hits (qs.take (k + 1)) t = hits (qs.take k) t + if ordT t (qs[k]).2 = 0 then 1 else 0 := by
  unfold hits
  rw [List.take_succ_eq_append_getElem hk, List.countP_append]
  simp only [List.countP_cons, List.countP_nil, Nat.zero_add, decide_eq_true_eq]
theorem hitsAll_next (qs : List Tm) {ts : List T} {i : Nat} (hi : i < ts.length) : hitsAll qs (ts.take (i + 1)) = hitsAll qs (ts.take i) + hits qs ts[i] := by
  have h : ∀ (us : List T) (t : T), hitsAll qs (us ++ [t]) = hitsAll qs us + hits qs t := fun us t => by
    induction us with
    | nil => simp [hitsAll]
    | cons u us ih => simp only [List.cons_append, hitsAll, ih]; omega
  rw [List.take_succ_eq_append_getElem hi, h]
theorem hitsAll_le (qs : List Tm) : ∀ ts : List T, hitsAll qs ts ≤ qs.length * ts.length
  | [] => by simp [hitsAll]
  | t :: ts => by
    have h1 := hitsAll_le qs ts
    have h2 : hits qs t ≤ qs.length := List.countP_le_length
    simp only [hitsAll, List.length_cons, Nat.mul_succ]
    omega

/-- What 'l6qRow' answers. -/
def L6Row (ts : List T) (xs : List (Int × ByteArray)) (w : World) (e : Ending) (w' : World) : Prop :=
  Below w.heap.size w w' ∧ ∃ (g c : Nat) (b : Bool) (f : Nat → Int), e = .returned (.tuple #[.slice (some ⟨g, 0, none⟩) ts.length c, .bool b]) ∧ w.heap.size ≤ g ∧ w'.heap[g]? = some (.cells (iarr ts.length f) 3 (0, 0)) ∧
    ((qRowOf ts xs = none ∧ b = false) ∨ (qRowOf ts xs = some f ∧ b = true))

set_option maxRecDepth 100000 in
set_option maxHeartbeats 4000000 in
theorem l6qRow_any (ts : List T) (xs : List (Int × ByteArray)) (L m : Nat) (hnt : L = ts.length) (hmx : m = xs.length) (gt ct g cap : Nat) (w : World) (hL : L ≤ 18) (hm : m ≤ 1048576) (hts : ∀ t ∈ ts, t.wf ∧ t.leaves ≤ 1000 ∧ t.nodes ≤ 1000) (hdesc : ts.Pairwise (fun a b => 0 < ordT a b))
    (hz : ∀ j (h : j < xs.length), (xs[j]).2.size ≤ 1048576) (hrt : Rd trS w (fun _ => True) (some ⟨gt, 0, none⟩) ts) (hl : TermL w g xs) :
    Calls Tryz.prog 39 #[.slice (some ⟨gt, 0, none⟩) L ct, .slice (some ⟨g, 0, none⟩) m cap] w (L6Row ts xs w) := by
  have HR := Lib.hid (l3ReadP_any xs m hmx g cap w hm hz hl)
  have HTS := Lib.hid hts
  have HDE := Lib.hid hdesc
  have HRT := Lib.hid hrt
  have HNT := Lib.hid hnt
  obtain ⟨i0, hi0, hzz, hzs, hzb⟩ := info_parts infoIntQ
  clear hmx hz hl hts hdesc hrt hnt
  go_enter Tryz.func39, Tryz.ntmps39
  go_wp2_with fail
  refine HR.out.mono ?_
  rintro e w1 ⟨hB1, qa, N, qc, b, qs, rfl, hN, hN2, hqs, hrq, hok⟩
  have HB1 := Lib.hid hB1
  have HRQ := Lib.hid hrq
  have HQS := Lib.hid hqs
  have HN := Lib.hid hN
  have HOK := Lib.hid hok
  clear hB1 hrq hqs hN hok
  go_wp2_with (at_make; refine wpList_make_full _ rfl _ _ 48 rfl w1.heap.size 3 i0 (.int .i64 0) 1 Tryz.underlying48 hi0 hzz hzs .i64 .i64 _ _ L rfl rfl rfl rfl ?c1 ?c2 (Nat.le_refl _) ?_)
  case c1 => rw [hzb]; omega
  case c2 => unfold maxLen; omega
  intro w2 hown hg
  have hcur : w2.heap[w1.heap.size]? = some (.cells (iarr L (rowF ts qs 0)) 3 (0, 0)) := by
    rcases hown.2 with ⟨e, _⟩ | ⟨G, cap', cur, e, _, hG, hnc, hcm, hcs, htake⟩
    · simp at e
    · simp only [Value.slice.injEq, Option.some.injEq, Addr.mk.injEq] at e
      obtain ⟨⟨rfl, _⟩, _, rfl⟩ := e
      have hcs' : cur.size = L := by omega
      rw [hG]
      congr 2
      apply iarr_ext hcs'
      intro j hj
      have hall : cur.toList = (madeCells #[.int .i64 0] L).toList := by
        rw [List.take_of_length_le (by simp; omega)] at htake; exact htake
      have hall2 : cur = madeCells #[.int .i64 0] L := Array.toList_inj.1 hall
      rw [hall2, madeCells, Array.getElem?_map, Array.getElem?_range, if_pos (by omega)]
      simp [rowF, Nat.mod_one]
  have hsz2 : w1.heap.size < w2.heap.size := (Array.getElem?_eq_some_iff.1 hcur).1
  have HC0 := Lib.hid hcur
  have HB2 : Hid (Below w1.heap.size w1 w2) := Lib.hid ((Below.refl _ _).grown hg (by omega) (fun k e => by cases e))
  clear hown hg hcur
  go_wp2_with fail
  go_loopw [9, 10] (fun fv iv wr => ∃ i fd : Nat, i ≤ L ∧ iv = .int .i64 i ∧ fv = .int .i64 fd ∧ fd = hitsAll qs (ts.take i) ∧ wr.heap[w1.heap.size]? = some (.cells (iarr L (rowF ts qs i)) 3 (0, 0)) ∧ Below w1.heap.size w1 wr) (fun _ iv _ => L - (intOf iv).toNat)
  case atStart => exact ⟨0, 0, Nat.zero_le _, rfl, rfl, by simp [hitsAll], HC0.out, HB2.out⟩
  case round =>
    obtain ⟨i, fd, hi, rfl, rfl, hfd, hc, hB⟩ := hrel
    obtain ⟨wo, hwo⟩ : ∃ wo : World, wo = wr := ⟨_, rfl⟩
    rw [← hwo] at hc hB
    rw [← hwo]
    clear hwo
    have HFD := Lib.hid hfd
    have HC := Lib.hid hc
    have HB := Lib.hid hB
    clear hfd hc
    by_cases hlt : i < L
    · have hlti : i < ts.length := by rw [← HNT.out]; exact hlt
      have hmt := HTS.out (ts[i]) (List.getElem_mem hlti)
      obtain ⟨gt', lb, sa, sn, sc, egt, _, d1, d2, hwt, hrt⟩ := trS.get (HRT.out.below (by decide) (below_step HB1.out hB)) i hlti
      cases egt
      obtain ⟨t, ht⟩ : ∃ t, t = ts[i] := ⟨_, rfl⟩
      rw [← ht] at hmt hwt hrt
      have HT := Lib.hid ht
      have HRTT := Lib.hid hrt
      have hfb : fd ≤ 1048576 * 18 := by
        rw [HFD.out]
        refine Nat.le_trans (hitsAll_le _ _) ?_
        refine Nat.mul_le_mul (by rw [← HN.out]; exact hN2) ?_
        rw [List.length_take]; omega
      have i00 : (0 : Int) ≤ (i : Int) := by omega
      have iL : (i : Int) < (L : Int) := by omega
      clear ht hrt hB
      go_wp2_with fail
      go_loopw [9, 11] (fun fv kv wr => ∃ k fd2 : Nat, k ≤ N ∧ kv = .int .i64 k ∧ fv = .int .i64 fd2 ∧ fd2 = fd + hits (qs.take k) t ∧ wr.heap[w1.heap.size]? = some (.cells (iarr L (rowV ts qs i k)) 3 (0, 0)) ∧ Below w1.heap.size wo wr) (fun _ kv _ => N - (intOf kv).toNat)
      case atStart =>
        refine ⟨0, fd, Nat.zero_le _, rfl, rfl, by simp [hits], ?_, Below.refl _ _⟩
        rw [HC.out]
        congr 2
        unfold iarr
        congr 1
        apply List.map_congr_left
        intro j _
        rw [rowV_zero]
      case round =>
        obtain ⟨k, fd2, hk, rfl, rfl, hfd2, hc2, hBr⟩ := hrel
        have HF2 := Lib.hid hfd2
        have HC2 := Lib.hid hc2
        have HBR := Lib.hid hBr
        have hfb2 : fd2 ≤ 1048576 * 19 := by
          rw [hfd2]
          have h1 : hits (qs.take k) t ≤ (qs.take k).length := List.countP_le_length
          rw [List.length_take] at h1
          have := HN.out
          omega
        clear hfd2 hc2
        by_cases hlk : k < N
        · have hltk : k < qs.length := by rw [← HN.out]; exact hlk
          have hBw1 : Below w1.heap.size w1 wr := HB.out.trans hBr
          obtain ⟨qg, yb, ya, yn, yc, eq, _, y0, y1, y2, hyw, hyr⟩ := tmS.get (HRQ.out.below (by decide) hBw1) k hltk
          subst eq
          have hqk := HQS.out (qs[k]) (List.getElem_mem hltk)
          obtain ⟨gt2, lb2, sa2, sn2, sc2, egt2, _, f1, f2, _, hrt2⟩ := trS.get (HRT.out.below (by decide) (below_step HB1.out hBw1)) i hlti
          cases egt2
          have ef1 : lb2 = lb ∧ sa2 = sa ∧ sn2 = sn ∧ sc2 = sc := by
            have h1 := d1
            have h2 := d2
            have hg1 : gt < w.heap.size := by
              obtain ⟨g5, cs5, e5, _, c5, r5⟩ := HRT.out i hlti
              cases e5
              obtain ⟨l5, s5, n5, q5, rfl, _⟩ := r5
              exact World.block_lt_of_cell? w _ (c5 0 (by decide))
            have hbb : wr.heap[gt]? = wo.heap[gt]? := hBr.block gt (by have := HB1.out.size; omega)
            rw [World.cell?_of_block (w := wo) (a := ⟨gt, i * 2, none⟩) hbb, h1] at f1
            rw [World.cell?_of_block (w := wo) (a := ⟨gt, i * 2 + 1, none⟩) hbb, h2] at f2
            simp only [Option.some.injEq, Value.string.injEq, Value.slice.injEq] at f1 f2
            exact ⟨f1.symm, f2.1.symm, f2.2.1.symm, f2.2.2.symm⟩
          obtain ⟨rfl, rfl, rfl, rfl⟩ := ef1
          rw [← HT.out] at hrt2
          obtain ⟨z, hz⟩ : ∃ z, z = ordT t (qs[k]).2 := ⟨_, rfl⟩
          have HO := Lib.hid (fun (W : World) (hb : Below wr.heap.size wr W) => l2Order_any t (qs[k]).2 lb2 sa2 sn2 sc2 yb ya yn yc W (fun b => b < W.heap.size) hwt hmt.2.1 hmt.2.2 hyw (by omega) (by omega) (fun _ h => h) ((hrt2.below hwt hb).keep (fun _ _ _ h => h) (fun _ _ h => h) hwt) ((hyr.below hyw hb).keep (fun _ _ _ h => h) (fun _ _ h => h) hyw))
          have HO2 : Hid (∀ (W : World), Below wr.heap.size wr W → Calls Tryz.prog 56 #[.agg #[.string lb2, .slice sa2 sn2 sc2], .agg #[.string yb, .slice ya yn yc]] W (Ans (.int .i64 z) W)) := Lib.hid (fun W hb => by rw [hz]; exact HO.out W hb)
          have HZ := Lib.hid hz
          obtain ⟨cc, hcc⟩ : ∃ cc, cc = (qs[k]).1 := ⟨_, rfl⟩
          rw [← hcc] at y0
          have HCC := Lib.hid hcc
          have k00 : (0 : Int) ≤ (k : Int) := by omega
          have kN : (k : Int) < (N : Int) := by omega
          have hsg : w1.heap.size < wr.heap.size := by have := (Array.getElem?_eq_some_iff.1 HC2.out).1; exact this
          clear hz hcc hrt2 hyr hBr hBw1 HO d1 d2
          by_cases hz0 : z = 0
          · have hzt : (z == 0) = true := by simp [hz0]
            have HHIT : Hid (ordT t (qs[k]).2 = 0) := Lib.hid (by rw [← HZ.out]; exact hz0)
            go_wp2_with fail
            go_region_held3 (fun w' => w'.cell? ⟨gt, i * 2, none⟩ = some (.string lb2) ∧ w'.cell? ⟨gt, i * 2 + 1, none⟩ = some (.slice sa2 sn2 sc2) ∧ w'.cell? ⟨qg, k * 3 + 1, none⟩ = some (.string yb) ∧ w'.cell? ⟨qg, k * 3 + 2, none⟩ = some (.slice ya yn yc))
              (first | exact ⟨f1, f2, y1, y2⟩ | exact ⟨p1, p2, p3, p4⟩)
              (first
              | (go_at_call 56; refine (HO2.out _ (Below.refl _ _).drew).mono ?_; rintro e w3 ⟨rfl, hB3⟩; have hB3' : Below wr.heap.size wr w3 := (Below.refl _ _).drew.trans hB3; have p1 := keep1 hB3' f1; have p2 := keep1 hB3' f2; have p3 := keep1 hB3' y1; have p4 := keep1 hB3' y2; have p5 := keep1 hB3' y0; have HG3 := Lib.hid ((hB3'.block _ hsg).trans HC2.out); have HB3 := Lib.hid (HBR.out.trans (hB3'.mono (by omega))); clear hB3 hB3'))
            all_goals
              have g3 := HG3.out
              have q0 := cellAt g3 (iarr_get (rowV ts qs i k) hlt)
              have qf := frozen_of_row _ _ i _ _ g3
              have HNX : Hid ((w3.setCell ⟨w1.heap.size, i, none⟩ (.int .i64 cc)).heap[w1.heap.size]? = some (.cells (iarr L (rowV ts qs i (k + 1))) 3 (0, 0))) := Lib.hid (by
                rw [heap_setCell_same (k := i) g3 (.int .i64 cc), iarr_set L _ cc hlt (f' := rowV ts qs i (k + 1))]
                intro j _
                rw [rowV_hit hlti hltk, ← HT.out, if_pos HHIT.out, HCC.out])
              have HBN := Lib.hid (HB3.out.setCell (p := ⟨w1.heap.size, i, none⟩) (Nat.le_refl _) (.int .i64 cc))
              have HFN : Hid (fd2 + 1 = fd + hits (qs.take (k + 1)) t) := Lib.hid (by rw [hits_next t hltk, if_pos HHIT.out, HF2.out]; omega)
              clear g3
              go_wp2_with fail
              exact ⟨⟨k + 1, fd2 + 1, by omega, by go_num, by go_num, HFN.out, HNX.out, HBN.out⟩, by simp [intOf]; omega⟩
          · have hzt : (z == 0) = false := by simp [hz0]
            have HMISS : Hid (¬ ordT t (qs[k]).2 = 0) := Lib.hid (by rw [← HZ.out]; exact hz0)
            go_wp2_with fail
            go_region_held3 (fun w' => w'.cell? ⟨gt, i * 2, none⟩ = some (.string lb2) ∧ w'.cell? ⟨gt, i * 2 + 1, none⟩ = some (.slice sa2 sn2 sc2) ∧ w'.cell? ⟨qg, k * 3 + 1, none⟩ = some (.string yb) ∧ w'.cell? ⟨qg, k * 3 + 2, none⟩ = some (.slice ya yn yc))
              (first | exact ⟨f1, f2, y1, y2⟩ | exact ⟨p1, p2, p3, p4⟩)
              (first
              | (go_at_call 56; refine (HO2.out _ (Below.refl _ _).drew).mono ?_; rintro e w3 ⟨rfl, hB3⟩; have hB3' : Below wr.heap.size wr w3 := (Below.refl _ _).drew.trans hB3; have p1 := keep1 hB3' f1; have p2 := keep1 hB3' f2; have p3 := keep1 hB3' y1; have p4 := keep1 hB3' y2; have p5 := keep1 hB3' y0; have HG3 := Lib.hid ((hB3'.block _ hsg).trans HC2.out); have HB3 := Lib.hid (HBR.out.trans (hB3'.mono (by omega))); clear hB3 hB3'))
            all_goals
              have HNX : Hid (w3.heap[w1.heap.size]? = some (.cells (iarr L (rowV ts qs i (k + 1))) 3 (0, 0))) := Lib.hid (by
                rw [HG3.out]
                congr 2
                unfold iarr
                congr 1
                apply List.map_congr_left
                intro j _
                rw [rowV_hit hlti hltk, ← HT.out, if_neg HMISS.out]
                split
                · rename_i e; subst e; rw [rowV_at hlti, HT.out]
                · rfl)
              have HFN : Hid (fd2 = fd + hits (qs.take (k + 1)) t) := Lib.hid (by rw [hits_next t hltk, if_neg HMISS.out, HF2.out]; omega)
              go_wp2_with fail
              exact ⟨⟨k + 1, fd2, by omega, by go_num, rfl, HFN.out, HNX.out, HB3.out⟩, by simp [intOf]; omega⟩
        · have hkN : k = N := by omega
          have HNX : Hid (wr.heap[w1.heap.size]? = some (.cells (iarr L (rowF ts qs (i + 1))) 3 (0, 0))) := Lib.hid (by
            rw [HC2.out]
            congr 2
            unfold iarr
            congr 1
            apply List.map_congr_left
            intro j _
            rw [hkN, HN.out, rowV_end])
          have HFN : Hid (fd2 = hitsAll qs (ts.take (i + 1))) := Lib.hid (by
            rw [hitsAll_next _ hlti, ← HFD.out, HF2.out, hkN, HN.out, List.take_length, HT.out])
          have HBN := Lib.hid (HB.out.trans hBr)
          clear hBr hkN
          go_wp2_with fail
          exact ⟨⟨i + 1, fd2, by omega, by go_num, rfl, HFN.out, HNX.out, HBN.out⟩, by simp [intOf]; omega⟩
    · have hiL : i = L := by omega
      have HROW : Hid (wo.heap[w1.heap.size]? = some (.cells (iarr L (rowF ts qs L)) 3 (0, 0))) := Lib.hid (by rw [HC.out, hiL])
      have HFA : Hid (fd = hitsAll qs ts) := Lib.hid (by rw [HFD.out, hiL, HNT.out, List.take_length])
      have HBF := Lib.hid (HB1.out.trans (hB.mono HB1.out.size))
      have HG1 := Lib.hid HB1.out.size
      clear hiL
      rcases HOK.out with ⟨hno, rfl⟩ | ⟨hyes, rfl⟩
      · have HN1 := Lib.hid (qRowOf_none (ts := ts) hno)
        clear hno hB
        go_wp2_with fail
        go_ret2
        exact ⟨HBF.out, w1.heap.size, L, false, rowF ts qs L, by rw [← HNT.out]; rfl, HG1.out, by rw [← HNT.out]; exact HROW.out, .inl ⟨HN1.out, rfl⟩⟩
      · have hnf := (sum_trees hyes).2.2
        have hiff := hits_all (qs := qs) (ts := ts) (fun t ht => (HTS.out t ht).1) (fun p hp => (HQS.out p hp).1) HDE.out
        rw [← HFA.out, ← HN.out] at hiff
        by_cases hall : fd = N
        · have hb : ((fd : Int) == (N : Int)) = true := by simp; omega
          have hb2 : (fd == N) = true := by simp [hall]
          have HF : Hid (qRowOf ts xs = some (qRow ts qs)) := Lib.hid (qRowOf_yes hyes (hiff.1 hall))
          have HEQ : Hid (iarr L (rowF ts qs L) = iarr L (qRow ts qs)) := Lib.hid (by
            unfold iarr
            congr 1
            apply List.map_congr_left
            intro j hj
            have hj' : j < L := by simpa using hj
            have hjt : j < ts.length := by rw [← HNT.out]; exact hj'
            unfold rowF qRow
            rw [dif_pos hjt, dif_pos hjt, if_pos hj', lastC_cf hnf])
          clear hyes hiff hall hB
          go_wp2_with fail
          go_ret2
          exact ⟨HBF.out, w1.heap.size, L, true, qRow ts qs, by rw [← HNT.out]; rfl, HG1.out, by rw [← HNT.out, ← HEQ.out]; exact HROW.out, .inr ⟨HF.out, rfl⟩⟩
        · have hb : ((fd : Int) == (N : Int)) = false := by simp; omega
          have hb2 : (fd == N) = false := by simp [hall]
          have HF : Hid (qRowOf ts xs = none) := Lib.hid (by
            have h1 : ¬ ∀ p ∈ qs, ∃ t ∈ ts, t.text = p.2.text := fun h => hall (hiff.2 h)
            simp only [Classical.not_forall] at h1
            obtain ⟨p, hp, h2⟩ := h1
            exact qRowOf_other hyes p hp (fun t ht e => h2 ⟨t, ht, e⟩))
          clear hyes hiff hall hB
          go_wp2_with fail
          go_ret2
          exact ⟨HBF.out, w1.heap.size, L, false, rowF ts qs L, by rw [← HNT.out]; rfl, HG1.out, by rw [← HNT.out]; exact HROW.out, .inl ⟨HF.out, rfl⟩⟩
end Go.Proofs.YtoeebipahifpcaaGreat
end
section
/- The rows of sums of quadratic trees, by the model; QuadPair. -/
namespace Go.Proofs.YtoeebipahifpcaaGreat
open Go.RowKit

/-- A row of numbers, among rows. -/
def rowE (L : Nat) : Elt (Nat → Int) where
  size := 1
  R w P f cs := ∃ g c, cs = [.slice (some ⟨g, 0, none⟩) L c] ∧ 0 < L ∧ P g ∧ ∀ j, j < L → w.cell? ⟨g, j, none⟩ = some (.int .i64 (f j))
  len := by rintro w P f cs ⟨g, c, rfl, _⟩; rfl
  one := by
    rintro w P f cs ⟨g, c, rfl, _⟩ u hu
    simp at hu
    subst hu
    rfl
  keep := by
    rintro w w' P P' f cs hk hp ⟨g, c, rfl, hL, hg, hc⟩
    exact ⟨g, c, rfl, hL, hp g hg (World.block_lt_of_cell? w _ (hc 0 hL)), fun j hj => hk _ _ hg (hc j hj)⟩

def RowsOk (ts : List T) (yss : List (List (Int × ByteArray))) (fs : List (Nat → Int)) : Prop := yss.length ≤ 20 ∧ fs.length = yss.length ∧ ∀ k (h : k < yss.length) (h' : k < fs.length), qRowOf ts yss[k] = some fs[k]
def RowsBad (ts : List T) (yss : List (List (Int × ByteArray))) : Prop := 20 < yss.length ∨ ∃ k, ∃ h : k < yss.length, qRowOf ts yss[k] = none

/-- What 'l6qRows' answers. -/
def L6Rows (ss : List ByteArray) (yss : List (List (Int × ByteArray))) (w : World) (e : Ending) (w' : World) : Prop :=
  Below w.heap.size w w' ∧ ∃ (a1 : Option Addr) (n1 c1 : Nat) (a2 : Option Addr) (n2 c2 : Nat) (b : Bool), e = .returned (.tuple #[.slice a1 n1 c1, .slice a2 n2 c2, .bool b]) ∧
    ((b = false ∧ (quadsOf ss = none ∨ ∃ ts, quadsOf ss = some ts ∧ RowsBad ts yss) ∧ ∃ us gu, (us = [] ∨ quadsOf ss = some us) ∧ a1 = some ⟨gu, 0, none⟩ ∧ n1 = us.length ∧ Rd trS w' (fun _ => True) (some ⟨gu, 0, none⟩) us) ∨
      (b = true ∧ ∃ ts fs gt gr, quadsOf ss = some ts ∧ RowsOk ts yss fs ∧ a1 = some ⟨gt, 0, none⟩ ∧ n1 = ts.length ∧ Rd trS w' (fun _ => True) (some ⟨gt, 0, none⟩) ts ∧ a2 = some ⟨gr, 0, none⟩ ∧ n2 = fs.length ∧ Rd (rowE ts.length) w' (fun _ => True) (some ⟨gr, 0, none⟩) fs))

/-- Ahead of each round. -/
def RowsRel (ts : List T) (yss : List (List (Int × ByteArray))) (w2 : World) (i : Nat) (okv rv : Value) (wr : World) : Prop :=
  (okv = .bool true ∧ ∃ va vc vs fs, rv = .slice va i vc ∧ va ≠ none ∧ fs.length = i ∧ Row (rowE ts.length) 48 w2.heap.size fs (.slice va i vc) vs wr ∧ (∀ k (h : k < yss.length) (h' : k < fs.length), qRowOf ts yss[k] = some fs[k]) ∧ (0 < i → yss.length ≤ 20)) ∨
    (okv = .bool false ∧ RowsBad ts yss ∧ ∃ va n vc, rv = .slice va n vc)

theorem infoLI : (Tryz.prog.info? 48).map (fun i => (i.zero, i.size, i.bytes)) = some (some (.slice none 0 0), 1, 24) := by kernel_rfl

set_option maxRecDepth 100000 in
set_option maxHeartbeats 4000000 in
theorem l6qRows_any (ss : List ByteArray) (yss : List (List (Int × ByteArray))) (n K : Nat) (hns : n = ss.length) (hK : K = yss.length) (ga ca gy cy : Nat) (w : World) (hn : n ≤ 1048576) (hk : K ≤ 1048576) (hz : ∀ j (h : j < ss.length), (ss[j]).size ≤ 1048576) (hl : TxG w ga ss)
    (hzy : ∀ j (h : j < yss.length), Small1 yss[j]) (hly : TermsL w gy yss) :
    Calls Tryz.prog 27 #[.slice (some ⟨ga, 0, none⟩) n ca, .slice (some ⟨gy, 0, none⟩) K cy] w (L6Rows ss yss w) := by
  have HQ := Lib.hid (l6qTrees_any ss n hns ga ca w hn hz hl)
  have HLY := Lib.hid hly
  have HZY := Lib.hid hzy
  have HKK := Lib.hid hK
  obtain ⟨i0, hi0, hzz, hzs, hzb⟩ := info_parts infoLI
  clear hns hz hl hly hzy hK
  go_enter Tryz.func27, Tryz.ntmps27
  go_wp2_with fail
  refine HQ.out.mono ?_
  rintro e w1 ⟨hB1, ⟨hno, g, c, rfl⟩ | ⟨ts, gt, ct, hyes, rfl, _, _, hrd⟩⟩
  · have HN := Lib.hid hno
    have HB1 := Lib.hid hB1
    clear hno hB1
    go_wp2_with fail
    go_rounds 1
    all_goals
      refine bodyPost_ret (v := .tuple #[.slice (some ⟨g, 0, none⟩) 0 c, .slice (some ⟨w1.heap.size, 0, none⟩) 0 0, .bool false]) (by simp [results, Tryz.results27, go_sem]) rfl ?_
      exact ⟨HB1.out.alloc HB1.out.size _, _, _, _, _, _, _, false, rfl, .inl ⟨rfl, .inl HN.out, [], g, .inl rfl, rfl, rfl, fun k hk => by simp at hk⟩⟩
  · obtain ⟨q1, q2, q3⟩ := quadsOf_ok hyes
    obtain ⟨r1, _, _⟩ := quads_pos hyes
    have HY := Lib.hid hyes
    have HB1 := Lib.hid hB1
    have HRT := Lib.hid hrd
    have HQ2 := Lib.hid q2
    have HQ3 := Lib.hid q3
    obtain ⟨L, hL⟩ : ∃ L, L = ts.length := ⟨_, rfl⟩
    have HLL := Lib.hid hL
    rw [← hL] at q1 r1
    rw [← hL]
    clear hyes hB1 hrd q2 q3 hL
    go_wp2_with fail
    go_loopw [8, 9, 10] (fun okv rv iv wr => ∃ i : Nat, i ≤ K ∧ iv = .int .i64 i ∧ RowsRel ts yss w1 i okv rv wr ∧ Below w1.heap.size w1 wr) (fun _ _ iv _ => K - (intOf iv).toNat)
    case atStart =>
      refine ⟨0, Nat.zero_le _, rfl, .inl ⟨rfl, some ⟨w1.heap.size, 0, none⟩, 0, [], [], rfl, by simp, rfl, ⟨World.ownsRow_made w1 #[] 0 (Nat.le_refl _) (by simp [maxLen]) rfl, fun _ h => by simp at h⟩, fun k _ h' => by simp at h', fun h => by omega⟩, (Below.refl _ _).alloc (Nat.le_refl _) _⟩
    case round =>
      obtain ⟨i, hi, rfl, hrel, hB⟩ := hrel
      rcases hrel with ⟨rfl, va, vc, vs, fs, rfl, hva, hfl, hrow, hall, h20⟩ | ⟨rfl, hbad, va, nr, vc, rfl⟩
      · have HVA := Lib.hid hva
        have HFL := Lib.hid hfl
        have HROW := Lib.hid hrow
        have HALL := Lib.hid hall
        have H20 := Lib.hid h20
        have HB := Lib.hid hB
        have hszr : w1.heap.size ≤ wr.heap.size := hB.size
        clear hva hfl hrow hall h20
        by_cases hlt : i < K
        · have hly : i < yss.length := by rw [← HKK.out]; exact hlt
          obtain ⟨gj, cj, d0, htl⟩ := (HLY.out.below (below_step HB1.out hB)) i hly
          have hzi := HZY.out i hly
          obtain ⟨m, hm⟩ : ∃ m, m = (yss[i]).length := ⟨_, rfl⟩
          rw [← hm] at d0
          have HRW := Lib.hid (l6qRow_any ts (yss[i]) L m HLL.out hm gt ct gj cj wr q1 (by rw [hm]; exact hzi.1) (fun t ht => by have := HQ2.out t ht; exact ⟨this.1, by omega, by omega⟩) HQ3.out hzi.2 (HRT.out.below (by decide) hB) htl)
          have HK20 : Hid (K = yss.length) := Lib.hid HKK.out
          clear hB hm hzi htl
          go_wp2_with fail
          refine HRW.out.mono ?_
          rintro e w3 ⟨hB3, g5, c5, b5, f5, rfl, hg5, hc5, hres⟩
          rw [← HLL.out]
          have HRES := Lib.hid hres
          have HC5 := Lib.hid hc5
          have HB3 := Lib.hid hB3
          have hs3 := hB3.size
          have OWN := owns_below HROW.out.own hB3
          rw [HFL.out] at OWN
          have HOWN := Lib.hid OWN
          have HOA := Lib.hid (World.ownsRow.alloc OWN (.cells #[.slice (some ⟨g5, 0, none⟩) L c5] 48 (0, 0)))
          clear hres hc5 hB3 OWN
          by_cases hk20 : K ≤ 20
          · have hkd : decide ((K : Int) ≤ 20) = true := decide_eq_true (by omega)
            cases b5 with
            | false =>
              go_wp2_with (at_builtin; refine wpList_append_own_at _ rfl _ _ 45 rfl w1.heap.size 48 i0 (.slice none 0 0) 1 24 Tryz.underlying45 hi0 hzz hzs hzb rfl (by decide) (.slice va i vc) i vs rfl HOA.out ⟨w3.heap.size, 0, none⟩ 1 1 [.slice (some ⟨g5, 0, none⟩) L c5] rfl rfl (cell_one_new _ _ _) (by simp [Value.oneCell']) (by unfold maxLen; omega) (by omega) (by simp; omega) ?_; intro v3 w6 hown3 hg3 hnil3 hat3)
              obtain ⟨g3, q3, rfl, _, _, _⟩ := owns_some hown3 (fun e => by have := hnil3.1 e; simp at this)
              have BB := Lib.hid (((below_step HB.out HB3.out).alloc (by omega) (.cells #[.slice (some ⟨g5, 0, none⟩) L c5] 48 (0, 0))).grown hg3 (by simp; omega) (fun q e => by have := (HOWN.out.lt q e).1; omega))
              have HNX : Hid (RowsRel ts yss w1 (i + 1) (.bool false) (.slice (some ⟨g3, 0, none⟩) (i + 1) q3) w6) := Lib.hid (by
                refine .inr ⟨rfl, .inr ⟨i, hly, ?_⟩, _, _, _, rfl⟩
                rcases HRES.out with ⟨h, _⟩ | ⟨_, h⟩
                · exact h
                · cases h)
              clear hown3 hg3 hnil3 hat3
              exact ⟨⟨i + 1, by omega, by go_num, HNX.out, BB.out⟩, by simp [intOf]; omega⟩
            | true =>
              go_wp2_with (at_builtin; refine wpList_append_own_at _ rfl _ _ 45 rfl w1.heap.size 48 i0 (.slice none 0 0) 1 24 Tryz.underlying45 hi0 hzz hzs hzb rfl (by decide) (.slice va i vc) i vs rfl HOA.out ⟨w3.heap.size, 0, none⟩ 1 1 [.slice (some ⟨g5, 0, none⟩) L c5] rfl rfl (cell_one_new _ _ _) (by simp [Value.oneCell']) (by unfold maxLen; omega) (by omega) (by simp; omega) ?_; intro v3 w6 hown3 hg3 hnil3 hat3)
              obtain ⟨g3, q3, rfl, _, _, _⟩ := owns_some hown3 (fun e => by have := hnil3.1 e; simp at this)
              have BB := Lib.hid (((below_step HB.out HB3.out).alloc (by omega) (.cells #[.slice (some ⟨g5, 0, none⟩) L c5] 48 (0, 0))).grown hg3 (by simp; omega) (fun q e => by have := (HOWN.out.lt q e).1; omega))
              have HNX : Hid (RowsRel ts yss w1 (i + 1) (.bool true) (.slice (some ⟨g3, 0, none⟩) (i + 1) q3) w6) := Lib.hid (by
                refine .inl ⟨rfl, some ⟨g3, 0, none⟩, q3, vs ++ [.slice (some ⟨g5, 0, none⟩) L c5], fs ++ [f5], rfl, by simp, by rw [List.length_append, HFL.out]; rfl, ?_, ?_, fun _ => by rw [← HK20.out]; exact hk20⟩
                · have h := HROW.out.next (a := f5) (cs := [.slice (some ⟨g5, 0, none⟩) L c5]) (g := g3) (cap := q3) (w1 := w3) (w1' := w3.alloc (.cells #[.slice (some ⟨g5, 0, none⟩) L c5] 48 (0, 0))) HB3.out ⟨g5, c5, by rw [HLL.out], by rw [← HLL.out]; exact r1, fun e => by have := (HROW.out.own.lt g5 e).2; omega, fun j hj => by
                    rw [← HLL.out] at hj
                    exact cellAt HC5.out (by rw [← HLL.out]; exact iarr_get f5 hj)⟩ ((Below.refl _ _).alloc (Nat.le_refl _) _) (by rw [HFL.out]; exact hown3) hg3 (by
                    rcases hat3 with h | h
                    · left; rw [← h]; rfl
                    · right; simp [Value.ownBlock] at h; omega)
                  rw [HFL.out] at h
                  exact h
                · intro k hk hk'
                  rcases Nat.lt_or_ge k fs.length with hk2 | hk2
                  · rw [List.getElem_append_left hk2]
                    exact HALL.out k hk hk2
                  · have ek : k = i := by rw [List.length_append] at hk'; have := HFL.out; simp at hk'; omega
                    subst ek
                    rw [List.getElem_append_right (by omega)]
                    rcases HRES.out with ⟨_, h⟩ | ⟨h, _⟩
                    · cases h
                    · simpa using h)
              clear hown3 hg3 hnil3 hat3
              exact ⟨⟨i + 1, by omega, by go_num, HNX.out, BB.out⟩, by simp [intOf]; omega⟩
          · have hkd : decide ((K : Int) ≤ 20) = false := decide_eq_false (by omega)
            cases b5 with
            | false =>
              go_wp2_with (at_builtin; refine wpList_append_own_at _ rfl _ _ 45 rfl w1.heap.size 48 i0 (.slice none 0 0) 1 24 Tryz.underlying45 hi0 hzz hzs hzb rfl (by decide) (.slice va i vc) i vs rfl HOA.out ⟨w3.heap.size, 0, none⟩ 1 1 [.slice (some ⟨g5, 0, none⟩) L c5] rfl rfl (cell_one_new _ _ _) (by simp [Value.oneCell']) (by unfold maxLen; omega) (by omega) (by simp; omega) ?_; intro v3 w6 hown3 hg3 hnil3 hat3)
              obtain ⟨g3, q3, rfl, _, _, _⟩ := owns_some hown3 (fun e => by have := hnil3.1 e; simp at this)
              have BB := Lib.hid (((below_step HB.out HB3.out).alloc (by omega) (.cells #[.slice (some ⟨g5, 0, none⟩) L c5] 48 (0, 0))).grown hg3 (by simp; omega) (fun q e => by have := (HOWN.out.lt q e).1; omega))
              have HNX : Hid (RowsRel ts yss w1 (i + 1) (.bool false) (.slice (some ⟨g3, 0, none⟩) (i + 1) q3) w6) := Lib.hid (by
                exact .inr ⟨rfl, .inl (by rw [← HK20.out]; omega), _, _, _, rfl⟩)
              clear hown3 hg3 hnil3 hat3
              exact ⟨⟨i + 1, by omega, by go_num, HNX.out, BB.out⟩, by simp [intOf]; omega⟩
            | true =>
              go_wp2_with (at_builtin; refine wpList_append_own_at _ rfl _ _ 45 rfl w1.heap.size 48 i0 (.slice none 0 0) 1 24 Tryz.underlying45 hi0 hzz hzs hzb rfl (by decide) (.slice va i vc) i vs rfl HOA.out ⟨w3.heap.size, 0, none⟩ 1 1 [.slice (some ⟨g5, 0, none⟩) L c5] rfl rfl (cell_one_new _ _ _) (by simp [Value.oneCell']) (by unfold maxLen; omega) (by omega) (by simp; omega) ?_; intro v3 w6 hown3 hg3 hnil3 hat3)
              obtain ⟨g3, q3, rfl, _, _, _⟩ := owns_some hown3 (fun e => by have := hnil3.1 e; simp at this)
              have BB := Lib.hid (((below_step HB.out HB3.out).alloc (by omega) (.cells #[.slice (some ⟨g5, 0, none⟩) L c5] 48 (0, 0))).grown hg3 (by simp; omega) (fun q e => by have := (HOWN.out.lt q e).1; omega))
              have HNX : Hid (RowsRel ts yss w1 (i + 1) (.bool false) (.slice (some ⟨g3, 0, none⟩) (i + 1) q3) w6) := Lib.hid (by
                exact .inr ⟨rfl, .inl (by rw [← HK20.out]; omega), _, _, _, rfl⟩)
              clear hown3 hg3 hnil3 hat3
              exact ⟨⟨i + 1, by omega, by go_num, HNX.out, BB.out⟩, by simp [intOf]; omega⟩
        · have hiK : i = K := by omega
          obtain ⟨gv, rfl, _⟩ := owns_addr HROW.out.own HVA.out
          have HF : Hid (RowsOk ts yss fs) := Lib.hid ⟨by
            rcases Nat.eq_zero_or_pos i with h | h
            · have := HKK.out; omega
            · exact H20.out h, by rw [HFL.out, hiK, HKK.out], HALL.out⟩
          have HRD := Lib.hid HROW.out.rd
          have HRT2 := Lib.hid (HRT.out.below (by decide) hB)
          clear hiK hB
          go_wp2_with fail
          refine bodyPost_ret (v := .tuple #[.slice (some ⟨gt, 0, none⟩) L ct, .slice (some ⟨gv, 0, none⟩) i vc, .bool true]) (by simp [results, Tryz.results27, go_sem]) rfl ?_
          exact ⟨below_step HB1.out HB.out, _, _, _, _, _, _, true, rfl, .inr ⟨rfl, ts, fs, gt, gv, HY.out, HF.out, rfl, HLL.out, HRT2.out, rfl, HFL.out.symm, HRD.out⟩⟩
      · have HB := Lib.hid hB
        have HBAD := Lib.hid hbad
        clear hbad
        by_cases hlt : i < K
        all_goals
          go_wp2_with fail
          refine bodyPost_ret (v := .tuple #[.slice (some ⟨gt, 0, none⟩) L ct, .slice va nr vc, .bool false]) (by simp [results, Tryz.results27, go_sem]) rfl ?_
          exact ⟨below_step HB1.out HB.out, _, _, _, _, _, _, false, rfl, .inl ⟨rfl, .inr ⟨ts, HY.out, HBAD.out⟩, ts, gt, .inr HY.out, rfl, HLL.out, HRT.out.below (by decide) HB.out⟩⟩
end Go.Proofs.YtoeebipahifpcaaGreat
end
section
/- The pairing of two sums of quadratic trees, by the model. -/
namespace Go.Proofs.YtoeebipahifpcaaGreat
open Go.RowKit

theorem sumTo_behind (F : Nat → Int) (L : Nat) (hF : ∀ j, L ≤ j → F j = 0) : ∀ k, L ≤ k → sumTo F k = sumTo F L
  | 0, h => by rw [show L = 0 by omega]
  | k + 1, h => by
    rcases Nat.lt_or_ge k L with h2 | h2
    · rw [show L = k + 1 by omega]
    · simp only [sumTo]
      rw [sumTo_behind F L hF k h2, hF k h2, Int.add_zero]

theorem quad_node {t : T} (hw : t.wf) (hn : t.nodes = 2) : ∃ c k ks, t = .node c (k :: ks) := by
  cases t with
  | leaf => simp [T.nodes] at hn
  | node c us =>
    cases us with
    | nil => simp [T.nodes, T.nodesL] at hn
    | cons k ks => exact ⟨c, k, ks, rfl⟩

theorem quadSign_cases (t : T) : quadSign t = 1 ∨ quadSign t = -1 := by
  unfold quadSign; split <;> simp

theorem sum_step (S a b s : Int) : (S % 101 + s * a * b) % 101 = (S + a * b % 101 * (s % 101) % 101) % 101 := by
  rw [Int.emod_add_emod]
  have e : s * a * b = a * b * s := by rw [Int.mul_assoc, Int.mul_comm]
  rw [e, Int.add_emod, Int.mul_emod (a * b) s, ← Int.add_emod_emod, Int.emod_emod_of_dvd _ (by decide)]
  simp [Int.add_emod, Int.emod_emod_of_dvd]

end Go.Proofs.YtoeebipahifpcaaGreat
end
