/- Merged out of: XQDualS, XQDualI, XQDualJ. -/
import Derived.Test.YtoeebipahifpcaaGreatQBaseI
section
/- QuadDual by the model. -/
namespace Go.Proofs.YtoeebipahifpcaaGreat
open Go.RowKit

/-- The row of the dual for a column that no row begins with. -/
def dRow (ts : List T) (s : Nat → Nat → Int) (c : Nat) : Nat → Int := fun j => if j = c then sgn ts c else (-(s j c) * sgn ts j) % 101
theorem dRow_rng (ts : List T) (s : Nat → Nat → Int) (c j : Nat) : 0 ≤ dRow ts s c j ∧ dRow ts s c j ≤ 100 := by
  unfold dRow
  split
  · exact sgn_bound ts c
  · omega
def dualL (ts : List T) (s : Nat → Nat → Int) : Nat → List (Nat → Int)
  | 0 => []
  | c + 1 => dualL ts s c ++ if s c c = 1 then [] else [dRow ts s c]
theorem dualL_le (ts : List T) (s : Nat → Nat → Int) : ∀ c, (dualL ts s c).length ≤ c
  | 0 => Nat.le_refl _
  | c + 1 => by
    have := dualL_le ts s c
    rw [dualL, List.length_append]
    split <;> simp <;> omega
theorem dualL_mem {ts : List T} {s : Nat → Nat → Int} {y : Nat → Int} : ∀ n, y ∈ dualL ts s n ↔ ∃ c, c < n ∧ ¬ s c c = 1 ∧ y = dRow ts s c
  | 0 => by
    constructor
    · intro h; simp [dualL] at h
    · rintro ⟨c, hc, _⟩; omega
  | n + 1 => by
    rw [dualL, List.mem_append, dualL_mem n]
    constructor
    · rintro (⟨c, hc, h⟩ | h)
      · exact ⟨c, by omega, h⟩
      · by_cases e : s n n = 1
        · rw [if_pos e] at h; simp at h
        · rw [if_neg e, List.mem_singleton] at h
          exact ⟨n, by omega, e, h⟩
    · rintro ⟨c, hc, h1, rfl⟩
      by_cases e : c < n
      · exact .inl ⟨c, e, h1, rfl⟩
      · have : c = n := by omega
        subst this
        right
        rw [if_neg h1]
        exact List.mem_singleton.2 rfl

theorem headL_at {s : Nat → Nat → Int} {c : Nat} (h : s c c = 1) : ∀ n, c < n → (headL s n)[(headL s c).length]? = some c
  | 0, hc => by omega
  | n + 1, hc => by
    rw [headL]
    by_cases e : c = n
    · subst e
      rw [if_pos h, List.getElem?_append_right (Nat.le_refl _), Nat.sub_self]; rfl
    · have ih := headL_at h n (by omega)
      have hl := (List.getElem?_eq_some_iff.1 ih).1
      rw [List.getElem?_append_left hl]; exact ih

/-- The row while it is made: the first i heads have their numbers. -/
def rowD (ts : List T) (s : Nat → Nat → Int) (c : Nat) (hs : List Nat) (i : Nat) : Nat → Int := fun j => if j = c then sgn ts c else if j ∈ hs.take i then (-(s j c) * sgn ts j) % 101 else 0

theorem rowD_next {ts : List T} {s : Nat → Nat → Int} {c : Nat} {hs : List Nat} {i : Nat} (hi : i < hs.length) (hn : ¬ hs[i] = c) {v : Int} (hv : v = (-(s hs[i] c) * sgn ts hs[i]) % 101) (j : Nat) :
    rowD ts s c hs (i + 1) j = if j = hs[i] then v else rowD ts s c hs i j := by
  have hm : j ∈ hs.take (i + 1) ↔ j ∈ hs.take i ∨ j = hs[i] := by
    rw [List.take_succ_eq_append_getElem hi, List.mem_append, List.mem_singleton]
  by_cases e : j = hs[i]
  · rw [if_pos e]
    unfold rowD
    rw [if_neg (by rw [e]; exact hn), if_pos (hm.2 (.inr e)), e, hv]
  · rw [if_neg e]
    unfold rowD
    by_cases e2 : j = c
    · rw [if_pos e2, if_pos e2]
    · rw [if_neg e2, if_neg e2]
      by_cases e3 : j ∈ hs.take i
      · rw [if_pos e3, if_pos (hm.2 (.inl e3))]
      · rw [if_neg e3, if_neg (fun h => (hm.1 h).elim e3 e)]

theorem rowD_end {ts : List T} {n : Nat} {s : Nat → Nat → Int} (hb : Bs n s) {c : Nat} (j : Nat) (hj : j < n) : rowD ts s c (headL s n) (headL s n).length j = dRow ts s c j := by
  unfold rowD dRow
  by_cases e : j = c
  · rw [if_pos e, if_pos e]
  · rw [if_neg e, if_neg e, List.take_length]
    by_cases e2 : j ∈ headL s n
    · rw [if_pos e2]
    · rw [if_neg e2]
      rcases hb.row j with h0 | ⟨_, h1, _⟩
      · rw [h0 c]; simp
      · exact absurd (headL_mem n j hj h1) e2

/-- The dual's sums are these. -/
def DualIs (ss : List ByteArray) (xss zss : List (List (Int × ByteArray))) : Prop := ∃ ts fs s rest t rest', quadsOf ss = some ts ∧ RowsOk ts xss fs ∧ RedInv ts.length ts.length (· ∈ fs) s rest ∧ RedInv ts.length ts.length (· ∈ dualL ts s ts.length) t rest' ∧ zss = qBase ts t

/-- What 'QuadDual' answers. -/
def QDualPost (ss : List ByteArray) (xss : List (List (Int × ByteArray))) (w : World) (e : Ending) (w' : World) : Prop :=
  Below w.heap.size w w' ∧ ((BaseBad ss xss ∧ ∃ g c, e = .returned (.tuple #[.slice (some ⟨g, 0, none⟩) 0 c, .bool false])) ∨
    ∃ zss g c, DualIs ss xss zss ∧ e = .returned (.tuple #[.slice (some ⟨g, 0, none⟩) zss.length c, .bool true]) ∧ Rd tmsE w' (fun _ => True) (some ⟨g, 0, none⟩) zss)

theorem iarr_zero {w : World} {b G n cap : Nat} {xs : List Value} {f : Nat → Int} (hown : w.ownsRow b 3 1 (.slice (some ⟨G, 0, none⟩) n cap) n xs) (hx : xs = (madeCells #[.int .i64 0] n).toList) (hcap : cap = n) (hf : ∀ j, j < n → f j = 0) : w.heap[G]? = some (.cells (iarr n f) 3 (0, 0)) := by
  subst hx hcap
  rcases hown.2 with ⟨e, _⟩ | ⟨G', cap', cur, e, _, hG, hnc, hcm, hcs, htake⟩
  · simp at e
  · simp only [Value.slice.injEq, Option.some.injEq, Addr.mk.injEq] at e
    obtain ⟨⟨rfl, _⟩, _, rfl⟩ := e
    have hcs' : cur.size = cap := by omega
    rw [hG]
    congr 2
    apply iarr_ext hcs'
    intro j hj
    have hall : cur.toList = (madeCells #[.int .i64 0] cap).toList := by
      rw [List.take_of_length_le (by simp; omega)] at htake; exact htake
    have hall2 : cur = madeCells #[.int .i64 0] cap := Array.toList_inj.1 hall
    rw [hall2, madeCells, Array.getElem?_map, Array.getElem?_range, if_pos (by omega), hf j hj]
    simp [Nat.mod_one]

set_option maxRecDepth 100000 in
set_option maxHeartbeats 8000000 in
theorem sQuadDual_any (ss : List ByteArray) (xss : List (List (Int × ByteArray))) (n m : Nat) (hns : n = ss.length) (hmx : m = xss.length) (ga ca gx cx : Nat) (w : World) (hn : n ≤ 1048576) (hm : m ≤ 1048576)
    (hz : ∀ j (h : j < ss.length), (ss[j]).size ≤ 1048576) (hzx : ∀ j (h : j < xss.length), Small1 xss[j]) (hl : TxG w ga ss) (hlx : TermsL w gx xss) :
    Calls Tryz.prog 18 #[.slice (some ⟨ga, 0, none⟩) n ca, .slice (some ⟨gx, 0, none⟩) m cx] w (QDualPost ss xss w) := by
  have HRW := Lib.hid (l6qRows_any ss xss n m hns hmx ga ca gx cx w hn hm hz hl hzx hlx)
  obtain ⟨i0, hi0, hzz, hzs, hzb⟩ := info_parts infoLI
  obtain ⟨j0, hj0, hyz, hys, hyb⟩ := info_parts infoIntQ
  clear hns hmx hz hzx hl hlx
  go_enter Tryz.func18, Tryz.ntmps18
  go_wp2_with fail
  refine HRW.out.mono ?_
  rintro e w1 ⟨hB1, a1, n1, c1, a2, n2, c2, b, rfl, ⟨rfl, hbad, us, gu, hus, rfl, rfl, hru⟩ | ⟨rfl, ts, fs, gt, gr, hyes, hok, rfl, rfl, hrt, rfl, rfl, hrr⟩⟩
  · have HBAD : Hid (BaseBad ss xss) := Lib.hid hbad
    have HB1 := Lib.hid hB1
    clear hB1 hbad hus hru
    go_wp2_with fail
    go_ret2
    exact ⟨HB1.out.alloc HB1.out.size _, .inl ⟨HBAD.out, _, _, rfl⟩⟩
  · obtain ⟨q1, q2, q3⟩ := quadsOf_ok hyes
    obtain ⟨r1, _, _⟩ := quads_pos hyes
    obtain ⟨L, hL⟩ : ∃ L, L = ts.length := ⟨_, rfl⟩
    obtain ⟨K, hK⟩ : ∃ K, K = fs.length := ⟨_, rfl⟩
    have hK20 : K ≤ 20 := by have := hok.1; have := hok.2.1; omega
    rw [← hL] at q1 r1 hrr
    have HB1 := Lib.hid hB1
    have HOK := Lib.hid hok
    have HY := Lib.hid hyes
    have HQ2 := Lib.hid q2
    have HLL := Lib.hid hL
    have HRT := Lib.hid hrt
    have HRE := Lib.hid (l6qReduce_any L fs K hK gr c2 w1 r1 q1 (by omega) (fun r hr j => by
        obtain ⟨i, hi, rfl⟩ := List.getElem_of_mem hr
        exact qRowOf_bound (fun t ht => (q2 t ht).1) (hok.2.2 i (by have := hok.2.1; omega) hi) j) hrr)
    rw [← hL, ← hK]
    clear hB1 hrr hok hyes q2 q3 hrt hL hK
    go_wp2_with fail
    refine HRE.out.mono ?_
    rintro e w2 ⟨hB2, s, rest, go, co, gh, ch, gq, K1, vs1, hinv, rfl, hk1, hW1⟩
    have HINV := Lib.hid hinv
    have HK1 := Lib.hid hk1
    have hK18 : K1 ≤ 18 := by have := headL_le s L; omega
    have HRT2 := Lib.hid (HRT.out.below (by decide) hB2)
    have HBR : Hid (∀ i, i < K1 → ∃ g c, w2.cell? ⟨go, i, none⟩ = some (.slice (some ⟨g, 0, none⟩) L c) ∧ ∀ j, j < L → w2.cell? ⟨g, j, none⟩ = some (.int .i64 (ofH s (headL s L) i j))) := Lib.hid (fun i hi => by
      obtain ⟨g, c, h1, _, _, h4⟩ := hW1.row i hi
      have h5 := hW1.own.cells (g := go) rfl i _ h1
      have ha : (⟨go, 0, none⟩ : Addr).add i = ⟨go, i, none⟩ := by unfold Addr.add; split <;> simp_all
      rw [ha] at h5
      exact ⟨g, c, h5, h4⟩)
    have HHD : Hid (∀ i (h : i < (headL s L).length), w2.cell? ⟨gh, i, none⟩ = some (.int .i64 ((headL s L)[i] : Int))) := Lib.hid (fun i hi => by
      have h5 := hW1.heads.cells (g := gh) rfl i (.int .i64 ((headL s L)[i] : Int)) (by rw [List.getElem?_map, List.getElem?_eq_getElem hi]; rfl)
      have ha : (⟨gh, 0, none⟩ : Addr).add i = ⟨gh, i, none⟩ := by unfold Addr.add; split <;> simp_all
      rw [ha] at h5
      exact h5)
    have HB2 := Lib.hid (below_step HB1.out hB2)
    clear hB2 hinv hk1 hW1
    go_wp2_with fail
    go_loopw [11, 12, 13] (fun ov kv cv wr => ∃ (c kk q : Nat) (va : Option Addr) (vc : Nat) (vs : List Value), c ≤ L ∧ va ≠ none ∧ cv = .int .i64 c ∧ kv = .int .i64 kk ∧ kk = (headL s c).length ∧ ov = .slice va q vc ∧ q = (dualL ts s c).length ∧ Row (rowE L) 48 w2.heap.size (dualL ts s c) (.slice va q vc) vs wr ∧ Below w2.heap.size w2 wr) (fun _ _ cv _ => L - (intOf cv).toNat)
    case atStart =>
      refine ⟨0, 0, 0, some ⟨w2.heap.size, 0, none⟩, 0, [], Nat.zero_le _, by simp, rfl, rfl, rfl, rfl, rfl, ?_, (Below.refl _ _).alloc (Nat.le_refl _) _⟩
      have h := World.ownsRow_made (base := w2.heap.size) (e := 48) (size := 1) w2 #[] 0 (Nat.le_refl _) (by simp [maxLen]) rfl
      exact ⟨h, fun _ h => by simp [dualL] at h⟩
    case round =>
      obtain ⟨c, kk, q, va, vc, vs, hc, hva, rfl, rfl, hkk, rfl, hq, hrow, hB⟩ := hrel
      obtain ⟨wo, rfl⟩ : ∃ wo : World, wo = wr := ⟨_, rfl⟩
      have HROW := Lib.hid hrow
      have HBO := Lib.hid hB
      have HVA := Lib.hid hva
      have HQL := Lib.hid hq
      have HKK := Lib.hid hkk
      have hkk18 : kk ≤ 18 := by have := headL_le s c; omega
      have hq18 : q ≤ 18 := by have := dualL_le ts s c; omega
      have hszo : w2.heap.size ≤ wo.heap.size := hB.size
      clear hrow hva hB hq hkk
      by_cases hlt : c < L
      · have c0 : (0 : Int) ≤ (c : Int) := by omega
        have k0 : (0 : Int) ≤ (kk : Int) := by omega
        by_cases hd : s c c = 1
        · have hat := headL_at hd L hlt
          rw [← HKK.out] at hat
          obtain ⟨hkl, hke⟩ := List.getElem?_eq_some_iff.1 hat
          have hcell := keep1 HBO.out (HHD.out kk hkl)
          rw [hke] at hcell
          have hkK : kk < K1 := by rw [HK1.out]; exact hkl
          have hkK' : (kk : Int) < (K1 : Int) := by omega
          have hkd : decide ((kk : Int) < (K1 : Int)) = true := decide_eq_true hkK'
          have HD1 : Hid (dualL ts s (c + 1) = dualL ts s c) := Lib.hid (by rw [dualL, if_pos hd, List.append_nil])
          have HH1 : Hid (kk + 1 = (headL s (c + 1)).length) := Lib.hid (by rw [headL, if_pos hd, List.length_append, ← HKK.out]; rfl)
          clear hat hkl hke hd
          go_wp2_with fail
          exact ⟨⟨c + 1, kk + 1, q, va, vc, vs, by omega, HVA.out, by go_num, by go_num, HH1.out, rfl, by rw [HD1.out]; exact HQL.out, by rw [HD1.out]; exact HROW.out, HBO.out⟩, by simp [intOf]; omega⟩
        · have HD1 : Hid (dualL ts s (c + 1) = dualL ts s c ++ [dRow ts s c]) := Lib.hid (by rw [dualL, if_neg hd])
          have HH1 : Hid (kk = (headL s (c + 1)).length) := Lib.hid (by rw [headL, if_neg hd, List.append_nil]; exact HKK.out)
          have HND : Hid (¬ s c c = 1) := Lib.hid hd
          have hcs : (∃ hk : Nat, kk < K1 ∧ wo.cell? ⟨gh, kk, none⟩ = some (.int .i64 (hk : Int)) ∧ hk ≠ c) ∨ ¬ kk < K1 := by
            by_cases hkK : kk < K1
            · have hkl : kk < (headL s L).length := by rw [← HK1.out]; exact hkK
              refine .inl ⟨(headL s L)[kk], hkK, keep1 HBO.out (HHD.out kk hkl), fun e => ?_⟩
              have := (headL_lt s L _ (List.getElem_mem hkl)).2
              rw [e] at this
              exact hd this
            · exact .inr hkK
          -- the row, whatever the test has read
          have hnc : c < ts.length := by rw [← HLL.out]; exact hlt
          clear hd
          rcases hcs with ⟨hk, hkK, hcell, hkne⟩ | hkK
          all_goals
            first
              | (have hkne' : ¬ (hk : Int) = (c : Int) := by omega
                 have hkd2 : decide ((hk : Int) = (c : Int)) = false := decide_eq_false hkne'
                 have hkd : decide ((kk : Int) < (K1 : Int)) = true := decide_eq_true (by omega)
                 clear hkne)
              | (have hkd : decide ((kk : Int) < (K1 : Int)) = false := decide_eq_false (by omega))
            go_wp2_with (at_make; refine wpList_make_full _ rfl _ _ 48 rfl wo.heap.size 3 j0 (.int .i64 0) 1 Tryz.underlying48 hj0 hyz hys .i64 .i64 _ _ L rfl rfl rfl rfl (by rw [hyb]; omega) (by unfold maxLen; omega) (Nat.le_refl _) ?_)
            intro w3 hown hg
            obtain ⟨R, hR⟩ : ∃ R, R = wo.heap.size := ⟨_, rfl⟩
            have HC3 : Hid (w3.heap[R]? = some (.cells (iarr L (fun _ => 0)) 3 (0, 0))) := Lib.hid (by rw [hR]; exact iarr_zero hown (by simp) rfl (fun _ _ => rfl))
            have HB3 : Hid (Below wo.heap.size wo w3) := Lib.hid ((Below.refl _ _).grown hg (by omega) (fun k e => by cases e))
            have HRE2 := Lib.hid hR
            have hRl : R < w3.heap.size := (Array.getElem?_eq_some_iff.1 HC3.out).1
            rw [← hR]
            obtain ⟨gt', lb, sa, sn, sc, egt, _, d1, d2, hwt, hrt⟩ := trS.get ((HRT2.out.below (by decide) HBO.out).below (by decide) HB3.out) c hnc
            cases egt
            obtain ⟨sg, hsg⟩ : ∃ sg, sg = quadSign ts[c] := ⟨_, rfl⟩
            have hsc : sg = 1 ∨ sg = -1 := by rw [hsg]; exact quadSign_cases _
            have HSG : Hid (∀ W : World, Below w3.heap.size w3 W → Calls Tryz.prog 36 #[.agg #[.string lb, .slice sa sn sc]] W (Ans (.int .i64 sg) W)) := Lib.hid (by
              intro W hb
              obtain ⟨cc, k, ks, et⟩ := quad_node (HQ2.out _ (List.getElem_mem hnc)).1 (HQ2.out _ (List.getElem_mem hnc)).2.2
              rw [hsg, et]
              rw [et] at hrt hwt
              exact l6qSign_any cc k ks lb sa sn sc W _ (hrt.below hwt hb))
            have HMD := Lib.hid (fun W : World => l3Mod_any sg W (by omega) (by omega))
            have HSE := Lib.hid hsg
            clear hown hg hR hrt hsg
            go_wp2_with fail
            refine (HSG.out w3 (Below.refl _ _)).mono ?_
            rintro e w4 ⟨rfl, hB4⟩
            have HC4 := Lib.hid ((hB4.block R hRl).trans HC3.out)
            have HB4 := Lib.hid (below_step HB3.out hB4)
            have hs4 := hB4.size
            clear hB4
            go_wp2_with fail
            refine (HMD.out w4).mono ?_
            rintro e w5 ⟨rfl, hww⟩
            subst hww
            have hcc : w4.cell? ⟨R, c, none⟩ = some (.int .i64 0) := cellAt HC4.out (iarr_get (fun _ => 0) hlt)
            have hff : w4.frozen? ⟨R, c, none⟩ = false := Lib.frozen_of_heap HC4.out _
            obtain ⟨w5, hw5⟩ : ∃ w5, w5 = w4.setCell ⟨R, c, none⟩ (.int .i64 (sg % 101)) := ⟨_, rfl⟩
            have HC5 : Hid (w5.heap[R]? = some (.cells (iarr L (rowD ts s c (headL s L) 0)) 3 (0, 0))) := Lib.hid (by
              rw [hw5, heap_setCell_same (k := c) HC4.out (.int .i64 (sg % 101)), iarr_set L _ _ hlt (fun j hj => ?_)]
              unfold rowD sgn
              by_cases e : j = c
              · subst e; rw [if_pos rfl, if_pos rfl, dif_pos hnc, ← HSE.out]
              · rw [if_neg e, if_neg e]; simp)
            have HB5 : Hid (Below wo.heap.size wo w5) := Lib.hid (by rw [hw5]; exact HB4.out.setCell (p := ⟨R, c, none⟩) (by show wo.heap.size ≤ R; rw [HRE2.out]; exact Nat.le_refl _) _)
            have HW5 := Lib.hid hw5
            clear hw5 d1 d2 HSG HMD hwt
            go_wp2_with fail
            rw [← HW5.out]
            clear HW5 hcc hff hs4 HC3 HC4 HB4
            go_loopw [15] (fun iv wx => ∃ i : Nat, i ≤ K1 ∧ iv = .int .i64 i ∧ wx.heap[R]? = some (.cells (iarr L (rowD ts s c (headL s L) i)) 3 (0, 0)) ∧ Below wo.heap.size wo wx) (fun iv _ => K1 - (intOf iv).toNat)
            case atStart => exact ⟨0, Nat.zero_le _, rfl, HC5.out, HB5.out⟩
            case round =>
              obtain ⟨i, hi, rfl, hcx, hBx⟩ := hrel
              obtain ⟨wx, rfl⟩ : ∃ wx : World, wx = wr := ⟨_, rfl⟩
              have HCX := Lib.hid hcx
              have HBW := Lib.hid hBx
              have HBX := Lib.hid (below_step HBO.out hBx)
              have hRx : R < wx.heap.size := (Array.getElem?_eq_some_iff.1 hcx).1
              have hRw : w2.heap.size ≤ R := by rw [HRE2.out]; exact hszo
              have hRo : wo.heap.size ≤ R := by rw [HRE2.out]; exact Nat.le_refl _
              clear hcx hBx
              by_cases hli : i < K1
              · have hli2 : i < (headL s L).length := by rw [← HK1.out]; exact hli
                obtain ⟨h, hh⟩ : ∃ h, h = (headL s L)[i] := ⟨_, rfl⟩
                have hhl := headL_lt s L _ (List.getElem_mem hli2)
                rw [← hh] at hhl
                have hhL : h < L := hhl.1
                have hhc : ¬ h = c := fun e => HND.out (by rw [← e]; exact hhl.2)
                have hht : h < ts.length := by rw [← HLL.out]; exact hhL
                have x5 := keep1 HBX.out (HHD.out i hli2)
                rw [← hh] at x5
                obtain ⟨gB, cB, e1, e2⟩ := HBR.out i hli
                have e3 := e2 c hlt
                rw [ofH_at hli2, ← hh] at e3
                obtain ⟨x, hx⟩ : ∃ x, x = s h c := ⟨_, rfl⟩
                have hxb : 0 ≤ x ∧ x ≤ 100 := by rw [hx]; exact HINV.out.base.rng h c
                rw [← hx] at e3
                obtain ⟨gt', lb, sa, sn, sc, egt, _, d1, d2, hwt, hrt⟩ := trS.get HRT2.out h hht
                cases egt
                obtain ⟨sg, hsg⟩ : ∃ sg, sg = quadSign ts[h] := ⟨_, rfl⟩
                have hsc : sg = 1 ∨ sg = -1 := by rw [hsg]; exact quadSign_cases _
                have HSG : Hid (∀ W : World, Below w2.heap.size w2 W → Calls Tryz.prog 36 #[.agg #[.string lb, .slice sa sn sc]] W (Ans (.int .i64 sg) W)) := Lib.hid (by
                  intro W hb
                  obtain ⟨cc, k, ks, et⟩ := quad_node (HQ2.out _ (List.getElem_mem hht)).1 (HQ2.out _ (List.getElem_mem hht)).2.2
                  rw [hsg, et]
                  rw [et] at hrt hwt
                  exact l6qSign_any cc k ks lb sa sn sc W _ (hrt.below hwt hb))
                obtain ⟨p, hp⟩ : ∃ p, p = sg * x := ⟨_, rfl⟩
                have hpb : -100 ≤ p ∧ p ≤ 100 := by rw [hp]; rcases hsc with rfl | rfl <;> omega
                obtain ⟨N, hN⟩ : ∃ N, N = -p := ⟨_, rfl⟩
                have hNb : -100 ≤ N ∧ N ≤ 100 := by omega
                have HMD := Lib.hid (fun W : World => l3Mod_any N W (by omega) (by omega))
                have HNX : Hid (∀ j, rowD ts s c (headL s L) (i + 1) j = if j = h then N % 101 else rowD ts s c (headL s L) i j) := Lib.hid (fun j => by
                  have := rowD_next (ts := ts) (s := s) (c := c) hli2 (by rw [← hh]; exact hhc) (v := N % 101) (by
                    rw [← hh, ← hx, hN, hp]
                    unfold sgn
                    rw [dif_pos hht, ← hsg]
                    rcases hsc with rfl | rfl
                    · omega
                    · rw [show (-1 : Int) % 101 = 100 from rfl]; omega) j
                  rw [← hh] at this
                  exact this)
                have D1 := Lib.hid d1
                have D2 := Lib.hid d2
                have D3 := Lib.hid e1
                have D4 := Lib.hid e3
                have i0' : (0 : Int) ≤ (i : Int) := by omega
                have h0' : (0 : Int) ≤ (h : Int) := by omega
                have hhL' : (h : Int) < (L : Int) := by omega
                have hcL' : (c : Int) < (L : Int) := by omega
                have hiK' : (i : Int) < (K1 : Int) := by omega
                have hw1 : IntKind.i64.wrap (sg * x) = p := by rw [← hp, IntKind.wrap_i64]; omega
                have hw2 : IntKind.i64.wrap (0 - p) = N := by rw [IntKind.wrap_i64, hN]; omega
                have hw3 : IntKind.i64.wrap (-p) = N := by rw [IntKind.wrap_i64, hN]; omega
                clear hh hhl hht e1 e2 e3 hx d1 d2 hrt hsg hp hN hwt
                go_wp2_with fail
                refine wp_region_held_drew (S := (fun w' => w'.cell? ⟨gt, h * 2, none⟩ = some (.string lb) ∧ w'.cell? ⟨gt, h * 2 + 1, none⟩ = some (.slice sa sn sc) ∧ w'.cell? ⟨go, i, none⟩ = some (.slice (some ⟨gB, 0, none⟩) L cB) ∧ w'.cell? ⟨gB, c, none⟩ = some (.int .i64 x))) (by kernel_rfl) (by exact ⟨keep1 HBX.out.drew D1.out, keep1 HBX.out.drew D2.out, keep1 HBX.out.drew D3.out, keep1 HBX.out.drew D4.out⟩) (fun hHeld => ?_)
                refine wpAnyH_take (i := 0) (oi := { dst := some 79, op := Op.move (Operand.tmp 14), type := 48, pos := "l6_duals.go:171", after := #[], guard := none }) (v := ?_) rfl (by kernel_rfl) (by kernel_rfl) (by kernel_rfl) (fun _ _ _ h => h) (Or.inl ⟨by rfl, ?_⟩) (by assumption) ?_
                rotate_left
                · (intro w hSw; (try dsimp only at hSw); go_simp <;> with_reducible rfl)
                (try simp only [Act.put, List.setIfInBounds_toArray, List.set_cons_zero, List.set_cons_succ])
                refine wpAnyH_take (i := 1) (oi := { dst := some 80, op := Op.move (Operand.tmp 16), type := 3, pos := "l6_duals.go:171", after := #[], guard := none }) (v := ?_) rfl (by kernel_rfl) (by kernel_rfl) (by kernel_rfl) (fun _ _ _ h => h) (Or.inl ⟨by rfl, ?_⟩) (by assumption) ?_
                rotate_left
                · (intro w hSw; (try dsimp only at hSw); go_simp <;> with_reducible rfl)
                (try simp only [Act.put, List.setIfInBounds_toArray, List.set_cons_zero, List.set_cons_succ])
                refine wpAnyH_take (i := 2) (oi := { dst := some 81, op := Op.move (Operand.tmp 6), type := 44, pos := "l6_duals.go:171", after := #[], guard := none }) (v := ?_) rfl (by kernel_rfl) (by kernel_rfl) (by kernel_rfl) (fun _ _ _ h => h) (Or.inl ⟨by rfl, ?_⟩) (by assumption) ?_
                rotate_left
                · (intro w hSw; (try dsimp only at hSw); go_simp <;> with_reducible rfl)
                (try simp only [Act.put, List.setIfInBounds_toArray, List.set_cons_zero, List.set_cons_succ])
                refine wpAnyH_take (i := 3) (oi := { dst := some 82, op := Op.move (Operand.tmp 16), type := 3, pos := "l6_duals.go:171", after := #[], guard := none }) (v := ?_) rfl (by kernel_rfl) (by kernel_rfl) (by kernel_rfl) (fun _ _ _ h => h) (Or.inl ⟨by rfl, ?_⟩) (by assumption) ?_
                rotate_left
                · (intro w hSw; (try dsimp only at hSw); go_simp <;> with_reducible rfl)
                (try simp only [Act.put, List.setIfInBounds_toArray, List.set_cons_zero, List.set_cons_succ])
                refine wpAnyH_take (i := 4) (oi := { dst := some 83, op := Op.indexAddr 44 (Operand.tmp 81) (Operand.tmp 82), type := 0, pos := "l6_duals.go:171", after := #[{ on := 2, ground := Ground.data }, { on := 3, ground := Ground.data }], guard := none }) (v := ?_) rfl (by kernel_rfl) (by kernel_rfl) (by kernel_rfl) (fun _ _ _ h => h) (Or.inl ⟨by rfl, ?_⟩) (by assumption) ?_
                rotate_left
                · (intro w hSw; (try dsimp only at hSw); go_simp <;> with_reducible rfl)
                (try simp only [Act.put, List.setIfInBounds_toArray, List.set_cons_zero, List.set_cons_succ])
                refine wpAnyH_take (i := 5) (oi := { dst := some 84, op := Op.load 66 (Operand.tmp 83), type := 66, pos := "l6_duals.go:171", after := #[{ on := 4, ground := Ground.data }], guard := none }) (v := ?_) rfl (by kernel_rfl) (by kernel_rfl) (by kernel_rfl) (fun _ _ _ h => h) (Or.inl ⟨by rfl, ?_⟩) (by assumption) ?_
                rotate_left
                · (intro w hSw; (try dsimp only at hSw); go_simp <;> with_reducible rfl)
                (try simp only [Act.put, List.setIfInBounds_toArray, List.set_cons_zero, List.set_cons_succ])
                refine wpAnyH_take (i := 7) (oi := { dst := some 86, op := Op.move (Operand.tmp 9), type := 45, pos := "l6_duals.go:171", after := #[], guard := none }) (v := ?_) rfl (by kernel_rfl) (by kernel_rfl) (by kernel_rfl) (fun _ _ _ h => h) (Or.inl ⟨by rfl, ?_⟩) (by assumption) ?_
                rotate_left
                · (intro w hSw; (try dsimp only at hSw); go_simp <;> with_reducible rfl)
                (try simp only [Act.put, List.setIfInBounds_toArray, List.set_cons_zero, List.set_cons_succ])
                refine wpAnyH_take (i := 8) (oi := { dst := some 87, op := Op.move (Operand.tmp 15), type := 3, pos := "l6_duals.go:171", after := #[], guard := none }) (v := ?_) rfl (by kernel_rfl) (by kernel_rfl) (by kernel_rfl) (fun _ _ _ h => h) (Or.inl ⟨by rfl, ?_⟩) (by assumption) ?_
                rotate_left
                · (intro w hSw; (try dsimp only at hSw); go_simp <;> with_reducible rfl)
                (try simp only [Act.put, List.setIfInBounds_toArray, List.set_cons_zero, List.set_cons_succ])
                refine wpAnyH_take (i := 9) (oi := { dst := some 88, op := Op.indexAddr 45 (Operand.tmp 86) (Operand.tmp 87), type := 0, pos := "l6_duals.go:171", after := #[{ on := 7, ground := Ground.data }, { on := 8, ground := Ground.data }], guard := none }) (v := ?_) rfl (by kernel_rfl) (by kernel_rfl) (by kernel_rfl) (fun _ _ _ h => h) (Or.inl ⟨by rfl, ?_⟩) (by assumption) ?_
                rotate_left
                · (intro w hSw; (try dsimp only at hSw); go_simp <;> with_reducible rfl)
                (try simp only [Act.put, List.setIfInBounds_toArray, List.set_cons_zero, List.set_cons_succ])
                refine wpAnyH_take (i := 10) (oi := { dst := some 89, op := Op.load 48 (Operand.tmp 88), type := 48, pos := "l6_duals.go:171", after := #[{ on := 9, ground := Ground.data }], guard := none }) (v := ?_) rfl (by kernel_rfl) (by kernel_rfl) (by kernel_rfl) (fun _ _ _ h => h) (Or.inl ⟨by rfl, ?_⟩) (by assumption) ?_
                rotate_left
                · (intro w hSw; (try dsimp only at hSw); go_simp <;> with_reducible rfl)
                (try simp only [Act.put, List.setIfInBounds_toArray, List.set_cons_zero, List.set_cons_succ])
                refine wpAnyH_take (i := 11) (oi := { dst := some 90, op := Op.move (Operand.tmp 13), type := 3, pos := "l6_duals.go:171", after := #[], guard := none }) (v := ?_) rfl (by kernel_rfl) (by kernel_rfl) (by kernel_rfl) (fun _ _ _ h => h) (Or.inl ⟨by rfl, ?_⟩) (by assumption) ?_
                rotate_left
                · (intro w hSw; (try dsimp only at hSw); go_simp <;> with_reducible rfl)
                (try simp only [Act.put, List.setIfInBounds_toArray, List.set_cons_zero, List.set_cons_succ])
                refine wpAnyH_take (i := 12) (oi := { dst := some 91, op := Op.indexAddr 48 (Operand.tmp 89) (Operand.tmp 90), type := 0, pos := "l6_duals.go:171", after := #[{ on := 10, ground := Ground.data }, { on := 11, ground := Ground.data }], guard := none }) (v := ?_) rfl (by kernel_rfl) (by kernel_rfl) (by kernel_rfl) (fun _ _ _ h => h) (Or.inl ⟨by rfl, ?_⟩) (by assumption) ?_
                rotate_left
                · (intro w hSw; (try dsimp only at hSw); go_simp <;> with_reducible rfl)
                (try simp only [Act.put, List.setIfInBounds_toArray, List.set_cons_zero, List.set_cons_succ])
                refine wpAnyH_take (i := 13) (oi := { dst := some 92, op := Op.load 3 (Operand.tmp 91), type := 3, pos := "l6_duals.go:171", after := #[{ on := 12, ground := Ground.data }], guard := none }) (v := ?_) rfl (by kernel_rfl) (by kernel_rfl) (by kernel_rfl) (fun _ _ _ h => h) (Or.inl ⟨by rfl, ?_⟩) (by assumption) ?_
                rotate_left
                · (intro w hSw; (try dsimp only at hSw); go_simp <;> with_reducible rfl)
                (try simp only [Act.put, List.setIfInBounds_toArray, List.set_cons_zero, List.set_cons_succ])
                have HBD := Lib.hid HBX.out.drew
                refine wpAnyH_ready (rs := [6]) (by kernel_rfl) (by simp) ?_
                refine AllReadyH.cons (o := { dst := some 85, op := Op.call { callee := Callee.value (Operand.func 36), args := #[Operand.tmp 84], argTypes := #[66] }, type := 3, pos := "l6_duals.go:171", after := #[{ on := 5, ground := Ground.data }], guard := none }) rfl (fun KK hK => ?_) AllReadyH.nil
                go_simp
                go_wp2_with fail
                refine (HSG.out _ HBD.out).mono ?_
                rintro e w6 ⟨rfl, hB6⟩
                have HB6 := Lib.hid (below_step HBD.out hB6)
                have HC6 := Lib.hid ((hB6.block R (by show R < wx.heap.size; exact hRx)).trans (show wx.drew.heap[R]? = _ from HCX.out))
                have HW6 := Lib.hid (below_step HBW.out.drew hB6)
                have hs6 := hB6.size
                clear hB6
                go_wp2_with fail
                refine hK.out _ _ ?_ (fun hHeld => ?_)
                · exact ⟨keep1 HB6.out D1.out, keep1 HB6.out D2.out, keep1 HB6.out D3.out, keep1 HB6.out D4.out⟩
                clear hK KK
                (try simp only [Act.put, List.setIfInBounds_toArray, List.set_cons_zero, List.set_cons_succ])
                refine wpAnyH_take (i := 14) (oi := { dst := some 93, op := Op.binOp BinOp.mul 3 (Operand.tmp 85) (Operand.tmp 92) 3, type := 3, pos := "l6_duals.go:171", after := #[{ on := 6, ground := Ground.data }, { on := 13, ground := Ground.data }], guard := none }) (v := ?_) rfl (by kernel_rfl) (by kernel_rfl) (by kernel_rfl) (fun _ _ _ h => h) (Or.inl ⟨by rfl, ?_⟩) (by assumption) ?_
                rotate_left
                · (intro w hSw; (try dsimp only at hSw); go_simp <;> with_reducible rfl)
                (try simp only [Act.put, List.setIfInBounds_toArray, List.set_cons_zero, List.set_cons_succ])
                refine wpAnyH_take (i := 15) (oi := { dst := some 94, op := Op.binOp BinOp.sub 3 (Operand.const (Value.int IntKind.i64 0)) (Operand.tmp 93) 3, type := 3, pos := "l6_duals.go:171", after := #[{ on := 14, ground := Ground.data }], guard := none }) (v := ?_) rfl (by kernel_rfl) (by kernel_rfl) (by kernel_rfl) (fun _ _ _ h => h) (Or.inl ⟨by rfl, ?_⟩) (by assumption) ?_
                rotate_left
                · (intro w hSw; (try dsimp only at hSw); go_simp <;> with_reducible rfl)
                (try simp only [Act.put, List.setIfInBounds_toArray, List.set_cons_zero, List.set_cons_succ])
                refine wpAnyH_ready (rs := [16]) (by kernel_rfl) (by simp) ?_
                refine AllReadyH.cons (o := { dst := some 95, op := Op.call { callee := Callee.value (Operand.func 35), args := #[Operand.tmp 94], argTypes := #[3] }, type := 3, pos := "l6_duals.go:171", after := #[{ on := 15, ground := Ground.data }, { on := 6, ground := Ground.chain }], guard := none }) rfl (fun KK hK => ?_) AllReadyH.nil
                go_simp
                go_wp2_with fail
                refine (HMD.out _).mono ?_
                rintro e w7 ⟨rfl, hww⟩
                subst hww
                go_wp2_with fail
                refine hK.out _ _ ?_ (fun hHeld => ?_)
                · exact ⟨keep1 HB6.out D1.out, keep1 HB6.out D2.out, keep1 HB6.out D3.out, keep1 HB6.out D4.out⟩
                clear hK KK
                (try simp only [Act.put, List.setIfInBounds_toArray, List.set_cons_zero, List.set_cons_succ])
                refine wpAnyH_take (i := 17) (oi := { dst := some 96, op := Op.indexAddr 48 (Operand.tmp 79) (Operand.tmp 80), type := 0, pos := "l6_duals.go:171", after := #[{ on := 0, ground := Ground.data }, { on := 1, ground := Ground.data }, { on := 0, ground := Ground.phase }, { on := 1, ground := Ground.phase }, { on := 2, ground := Ground.phase }, { on := 3, ground := Ground.phase }, { on := 4, ground := Ground.phase }, { on := 5, ground := Ground.phase }, { on := 6, ground := Ground.phase }, { on := 7, ground := Ground.phase }, { on := 8, ground := Ground.phase }, { on := 9, ground := Ground.phase }, { on := 10, ground := Ground.phase }, { on := 11, ground := Ground.phase }, { on := 12, ground := Ground.phase }, { on := 13, ground := Ground.phase }, { on := 14, ground := Ground.phase }, { on := 15, ground := Ground.phase }, { on := 16, ground := Ground.phase }], guard := none }) (v := ?_) rfl (by kernel_rfl) (by kernel_rfl) (by kernel_rfl) (fun _ _ _ h => h) (Or.inl ⟨by rfl, ?_⟩) (by assumption) ?_
                rotate_left
                · (intro w hSw; (try dsimp only at hSw); go_simp <;> with_reducible rfl)
                (try simp only [Act.put, List.setIfInBounds_toArray, List.set_cons_zero, List.set_cons_succ])
                have hcc6 : w6.cell? ⟨R, h, none⟩ = some (.int .i64 (rowD ts s c (headL s L) i h)) := cellAt HC6.out (iarr_get _ hhL)
                have hff6 : w6.frozen? ⟨R, h, none⟩ = false := Lib.frozen_of_heap HC6.out _
                have HB7 := Lib.hid (HB6.out.setCell (p := ⟨R, h, none⟩) (by show w2.heap.size ≤ R; omega) (.int .i64 (N % 101)))
                have HW7 := Lib.hid (HW6.out.setCell (p := ⟨R, h, none⟩) (by show wo.heap.size ≤ R; omega) (.int .i64 (N % 101)))
                have HC7 : Hid ((w6.setCell ⟨R, h, none⟩ (.int .i64 (N % 101))).heap[R]? = some (.cells (iarr L (rowD ts s c (headL s L) (i + 1))) 3 (0, 0))) := Lib.hid (by
                  rw [heap_setCell_same (k := h) HC6.out (.int .i64 (N % 101)), iarr_set L _ _ hhL (fun j _ => HNX.out j)])
                refine wpAnyH_ready (rs := [18]) (by kernel_rfl) (by simp) ?_
                refine AllReadyH.cons (o := { dst := none, op := Op.store 3 (Operand.tmp 96) (Operand.tmp 95), type := 0, pos := "l6_duals.go:171", after := #[{ on := 17, ground := Ground.data }, { on := 16, ground := Ground.data }, { on := 16, ground := Ground.chain }, { on := 0, ground := Ground.phase }, { on := 1, ground := Ground.phase }, { on := 2, ground := Ground.phase }, { on := 3, ground := Ground.phase }, { on := 4, ground := Ground.phase }, { on := 5, ground := Ground.phase }, { on := 6, ground := Ground.phase }, { on := 7, ground := Ground.phase }, { on := 8, ground := Ground.phase }, { on := 9, ground := Ground.phase }, { on := 10, ground := Ground.phase }, { on := 11, ground := Ground.phase }, { on := 12, ground := Ground.phase }, { on := 13, ground := Ground.phase }, { on := 14, ground := Ground.phase }, { on := 15, ground := Ground.phase }, { on := 16, ground := Ground.phase }], guard := none }) rfl (fun KK hK => ?_) AllReadyH.nil
                go_simp
                go_wp2_with fail
                refine hK.out _ _ ?_ (fun hHeld => ?_)
                · exact ⟨keep1 HB7.out D1.out, keep1 HB7.out D2.out, keep1 HB7.out D3.out, keep1 HB7.out D4.out⟩
                clear hK KK
                (try simp only [Act.put, List.setIfInBounds_toArray, List.set_cons_zero, List.set_cons_succ])
                refine wpAnyH_done (by kernel_rfl) ?_ _
                all_goals
                  go_wp2_with fail
                  exact ⟨⟨i + 1, by omega, by go_num, HC7.out, HW7.out⟩, by simp [intOf]; omega⟩
              · have hiK : i = (headL s L).length := by rw [← HK1.out]; omega
                have HROWC : Hid (∀ j, j < L → wx.cell? ⟨R, j, none⟩ = some (.int .i64 (dRow ts s c j))) := Lib.hid (fun j hj => by
                  have := cellAt HCX.out (iarr_get (rowD ts s c (headL s L) i) hj)
                  rw [hiK, rowD_end HINV.out.base j hj] at this
                  exact this)
                have OWN := owns_below HROW.out.own HBW.out
                rw [← HQL.out] at OWN
                have HOWN := Lib.hid OWN
                have HOA := Lib.hid (World.ownsRow.alloc OWN (.cells #[.slice (some ⟨R, 0, none⟩) L L] 48 (0, 0)))
                clear OWN hiK
                go_wp2_with (at_builtin; refine wpList_append_own_at _ rfl _ _ 45 rfl w2.heap.size 48 i0 (.slice none 0 0) 1 24 Tryz.underlying45 hi0 hzz hzs hzb rfl (by decide) (.slice va q vc) q vs rfl HOA.out ⟨wx.heap.size, 0, none⟩ 1 1 [.slice (some ⟨R, 0, none⟩) L L] rfl rfl (cell_one_new _ _ _) (by simp [Value.oneCell']) (by unfold maxLen; omega) (by omega) (by simp; omega) ?_; intro v8 w8 hown8 hg8 hnil8 hat8)
                obtain ⟨g8, q8, rfl, _, _, _⟩ := owns_some hown8 (fun e => by have := hnil8.1 e; simp [HVA.out] at this)
                have HNR : Hid (Row (rowE L) 48 w2.heap.size (dualL ts s (c + 1)) (.slice (some ⟨g8, 0, none⟩) (q + 1) q8) (vs ++ [.slice (some ⟨R, 0, none⟩) L L]) w8) := Lib.hid (by
                  have h := HROW.out.next (a := dRow ts s c) (cs := [.slice (some ⟨R, 0, none⟩) L L]) (g := g8) (cap := q8) (w1 := wx) (w1' := wx.alloc (.cells #[.slice (some ⟨R, 0, none⟩) L L] 48 (0, 0))) HBW.out ⟨R, L, rfl, r1, fun e => by
                      have h1 := (HROW.out.own.lt R e).2
                      omega, HROWC.out⟩ ((Below.refl _ _).alloc (Nat.le_refl _) _) (by rw [← HQL.out]; exact hown8) hg8 (by
                    rcases hat8 with h | h
                    · left; rw [← h]; rfl
                    · right; simp [Value.ownBlock] at h; omega)
                  rw [← HQL.out] at h
                  rw [HD1.out]
                  exact h)
                have BB := Lib.hid ((HBX.out.alloc (by omega) (.cells #[.slice (some ⟨R, 0, none⟩) L L] 48 (0, 0))).grown hg8 (by simp; omega) (fun b e => (HOWN.out.lt b e).1))
                clear hown8 hg8 hnil8 hat8
                exact ⟨⟨c + 1, kk, q + 1, some ⟨g8, 0, none⟩, q8, _, by omega, by simp, by go_num, rfl, HH1.out, rfl, by rw [HD1.out, List.length_append, ← HQL.out]; rfl, HNR.out, BB.out⟩, by simp [intOf]; omega⟩
      · have hcL : c = L := by omega
        subst hcL
        obtain ⟨gv, rfl, _⟩ := owns_addr HROW.out.own HVA.out
        have HRE3 := Lib.hid (l6qReduce_any c (dualL ts s c) q HQL.out gv vc wo r1 q1 (by omega) (fun r hr j => by
          obtain ⟨cc, _, _, rfl⟩ := (dualL_mem c).1 hr
          exact dRow_rng ts s cc j) HROW.out.rd)
        have HRT3 := Lib.hid (HRT2.out.below (by decide) HBO.out)
        go_wp2_with fail
        refine HRE3.out.mono ?_
        rintro e w9 ⟨hB9, t, rest', go9, co9, gh9, ch9, gq9, K9, vs9, hinv9, rfl, hk9, hW9⟩
        have HINV9 := Lib.hid hinv9
        have HK9 := Lib.hid hk9
        have hK918 : K9 ≤ 18 := by have := headL_le t c; omega
        have HSU := Lib.hid (l6qSums_any ts c HLL.out (ofH t (headL t c)) K9 gt c1 go9 co9 w9 q1 (by omega) (fun t ht => by have := HQ2.out t ht; exact ⟨this.1, by omega, by omega⟩) (HRT3.out.below (by decide) hB9) (fun i hi => by
          obtain ⟨g, c', h1, _, _, h4⟩ := hW9.row i hi
          have h5 := hW9.own.cells (g := go9) rfl i _ h1
          have ha : (⟨go9, 0, none⟩ : Addr).add i = ⟨go9, i, none⟩ := by unfold Addr.add; split <;> simp_all
          rw [ha] at h5
          exact ⟨g, c', h5, h4⟩))
        have HB9 := Lib.hid (below_step HB2.out (below_step HBO.out hB9))
        clear hB9 hinv9 hk9 hW9
        go_wp2_with fail
        refine HSU.out.mono ?_
        rintro e w10 ⟨hB10, g, c', rfl, _, hrd⟩
        have HB10 := Lib.hid (below_step HB9.out hB10)
        have HRD := Lib.hid hrd
        have HDI : Hid (DualIs ss xss (sumsOf ts (ofH t (headL t c)) K9)) := Lib.hid (by
          refine ⟨ts, fs, s, rest, t, rest', HY.out, HOK.out, ?_, ?_, ?_⟩
          · rw [← HLL.out]; exact HINV.out
          · rw [← HLL.out]; exact HINV9.out
          · rw [HK9.out, HLL.out]; rfl)
        obtain ⟨zss, hzs⟩ : ∃ zss, zss = sumsOf ts (ofH t (headL t c)) K9 := ⟨_, rfl⟩
        rw [← hzs] at HRD HDI
        rw [← hzs]
        clear hB10 hrd hzs
        go_wp2_with fail
        go_ret2
        exact ⟨HB10.out, .inr ⟨zss, g, c', HDI.out, rfl, HRD.out⟩⟩
end Go.Proofs.YtoeebipahifpcaaGreat
end
section
/- QuadDual by the program. -/
namespace Go.Proofs.YtoeebipahifpcaaGreat
open Go.RowKit

theorem range_sarr {w : World} {g : Nat} {s : Nat → Nat → Int} {k : Nat} {t : TypeId} {fr : Nat × Nat} (h : w.heap[g]? = some (.cells (sarr s) t fr)) (hk : k < 18) : w.rangeAt g (k * 18) (arrL (s k)) := fun j v hv => by
  have hj : j < 18 := by have := (List.getElem?_eq_some_iff.1 hv).1; rw [arrL_length] at this; exact this
  refine cellAt h ?_
  rw [Nat.mul_comm k 18, sarr_get s hk hj, ← hv]
  simp [arrL, hj]
theorem range_span {w : World} {g : Nat} {s : Nat → Nat → Int} {t : TypeId} {fr : Nat × Nat} (h : w.heap[g]? = some (.cells (sarr s) t fr)) : w.rangeAt g 0 (spanL s) := fun j v hv => by
  refine cellAt h ?_
  rw [Nat.zero_add, sarr, List.getElem?_toArray]; exact hv

/-- What lies where while the dual is made. -/
def DF (w : World) (B0 B1 B4 BD : Nat) (cq : Array Value) (s d : Nat → Nat → Int) (w' : World) : Prop :=
  w'.heap[B0]? = some (.cells cq 55 (0, 0)) ∧ w'.heap[B1]? = some (.cells (sarr s) 57 (0, 0)) ∧ w'.heap[B4]? = some (.cells (sarr fun _ _ => 0) 57 (0, 0)) ∧ w'.heap[BD]? = some (.cells (sarr d) 57 (0, 0)) ∧ Below w.heap.size w w'
theorem DF.keep {w : World} {B0 B1 B4 BD : Nat} {cq : Array Value} {s d : Nat → Nat → Int} {w1 w2 : World} (h : DF w B0 B1 B4 BD cq s d w1) (hb : Below w1.heap.size w1 w2) : DF w B0 B1 B4 BD cq s d w2 :=
  ⟨(hb.block _ (Array.getElem?_eq_some_iff.1 h.1).1).trans h.1, (hb.block _ (Array.getElem?_eq_some_iff.1 h.2.1).1).trans h.2.1, (hb.block _ (Array.getElem?_eq_some_iff.1 h.2.2.1).1).trans h.2.2.1, (hb.block _ (Array.getElem?_eq_some_iff.1 h.2.2.2.1).1).trans h.2.2.2.1, below_step h.2.2.2.2 hb⟩
theorem DF.drew {w : World} {B0 B1 B4 BD : Nat} {cq : Array Value} {s d : Nat → Nat → Int} {w1 : World} (h : DF w B0 B1 B4 BD cq s d w1) : DF w B0 B1 B4 BD cq s d w1.drew := ⟨h.1, h.2.1, h.2.2.1, h.2.2.2.1, h.2.2.2.2.drew⟩
/-- The blocks are apart, and new. -/
def DNe (w : World) (B0 B1 B4 BD : Nat) : Prop := w.heap.size ≤ B0 ∧ B0 < B1 ∧ B1 < B4 ∧ B4 < BD
theorem DF.put {w : World} {B0 B1 B4 BD : Nat} {cq : Array Value} {s d : Nat → Nat → Int} {w1 : World} (h : DF w B0 B1 B4 BD cq s d w1) (hn : DNe w B0 B1 B4 BD) (t : Nat → Nat → Int) : DF w B0 B1 B4 BD cq s t (w1.setRow BD (sarr t)) := by
  obtain ⟨n1, n2, n3, n4⟩ := hn
  exact ⟨(setRow_other w1 BD B0 (sarr t) (by omega)).trans h.1, (setRow_other w1 BD B1 (sarr t) (by omega)).trans h.2.1, (setRow_other w1 BD B4 (sarr t) (by omega)).trans h.2.2.1, setRow_heap w1 BD _ (sarr t) 57 (0, 0) h.2.2.2.1, below_setRow h.2.2.2.2 (by omega) _⟩
theorem DF.cell {w : World} {B0 B1 B4 BD Br k : Nat} {cq : Array Value} {s d : Nat → Nat → Int} {w1 : World} (h : DF w B0 B1 B4 BD cq s d w1) (hn : DNe w B0 B1 B4 BD) (hr : BD < Br) (v : Value) : DF w B0 B1 B4 BD cq s d (w1.setCell ⟨Br, k, none⟩ v) := by
  obtain ⟨n1, n2, n3, n4⟩ := hn
  have e : ∀ b, b ≠ Br → (w1.setCell ⟨Br, k, none⟩ v).heap[b]? = w1.heap[b]? := fun b hb => Below.heap_setCell _ _ _ _ (show b ≠ Br from hb)
  exact ⟨(e _ (by omega)).trans h.1, (e _ (by omega)).trans h.2.1, (e _ (by omega)).trans h.2.2.1, (e _ (by omega)).trans h.2.2.2.1, h.2.2.2.2.setCell (p := ⟨Br, k, none⟩) (by show w.heap.size ≤ Br; omega) v⟩

def HeldX (B0 BD Br : Nat) (cq : Array Value) (d : Nat → Nat → Int) (r : Nat → Int) (w' : World) : Prop :=
  w'.heap[B0]? = some (.cells cq 55 (0, 0)) ∧ w'.heap[BD]? = some (.cells (sarr d) 57 (0, 0)) ∧ w'.heap[Br]? = some (.cells (arr r) 53 (0, 0))
theorem HeldX.keep {B0 BD Br : Nat} {cq : Array Value} {d : Nat → Nat → Int} {r : Nat → Int} {w1 w2 : World} (h : HeldX B0 BD Br cq d r w1) (hb : Below w1.heap.size w1 w2) : HeldX B0 BD Br cq d r w2 :=
  ⟨(hb.block _ (Array.getElem?_eq_some_iff.1 h.1).1).trans h.1, (hb.block _ (Array.getElem?_eq_some_iff.1 h.2.1).1).trans h.2.1, (hb.block _ (Array.getElem?_eq_some_iff.1 h.2.2).1).trans h.2.2⟩

/-- The row while it is made. -/
def rowI (s : Nat → Nat → Int) (c i : Nat) : Nat → Int := fun j => if j < i then (-(s j c)) % 101 else 0
def rowJ (s : Nat → Nat → Int) (c : Nat) : Nat → Int := fun j => if j = c then 1 else rowI s c 18 j
theorem rowJ_rng (s : Nat → Nat → Int) (c j : Nat) : 0 ≤ rowJ s c j ∧ rowJ s c j ≤ 100 := by
  unfold rowJ rowI
  split
  · omega
  · split <;> omega
theorem rowJ_dual (ts : List T) (s : Nat → Nat → Int) (c : Nat) (hL : ts.length ≤ 18) : (fun j => rowJ s c j * sgn ts j % 101) = dRow ts s c := by
  funext j
  unfold rowJ rowI dRow
  by_cases e : j = c
  · subst e
    rw [if_pos rfl, if_pos rfl, Int.one_mul]
    have := sgn_bound ts j
    omega
  · rw [if_neg e, if_neg e]
    by_cases h : j < 18
    · rw [if_pos h, Int.mul_emod, Int.emod_emod, ← Int.mul_emod]
    · rw [if_neg h]
      have : sgn ts j = 0 := by unfold sgn; rw [dif_neg (by omega)]
      rw [this]; simp

/-- What 'dual' answers. -/
def DualPost (ts : List T) (s : Nat → Nat → Int) (n : Nat) (w : World) (e : Ending) (w' : World) : Prop :=
  ∃ d, Bs 18 d ∧ (∀ v, Sp 18 (BsR 18 d) v ↔ Sp 18 (· ∈ dualL ts s n) v) ∧ AnsS d w e w'

set_option maxRecDepth 100000 in
set_option maxHeartbeats 4000000 in
theorem dualI_any (ts : List T) (s : Nat → Nat → Int) (n : Nat) (hnt : n = ts.length) (gt ct : Nat) (w : World) (hn : n ≤ 18) (hs : Bs 18 s) :
    Calls Tryz.prog 37 #[.agg (qcells (.slice (some ⟨gt, 0, none⟩) n ct) (sgn ts)), .agg (sarr s)] w (DualPost ts s n w) := by
  have HSB := Lib.hid hs
  have HNT := Lib.hid hnt
  obtain ⟨cq, hcq⟩ : ∃ cq, cq = qcells (.slice (some ⟨gt, 0, none⟩) n ct) (sgn ts) := ⟨_, rfl⟩
  have HCQ := Lib.hid hcq
  have hc00 : cq[0]? = some (.slice (some ⟨gt, 0, none⟩) n ct) := by rw [hcq]; exact qcells_zero _ _
  have HC00 := Lib.hid hc00
  rw [← hcq]
  obtain ⟨w2, hw2⟩ : ∃ w2, w2 = ((w.alloc (.cells cq 55 (0, 0))).alloc (.cells (sarr s) 57 (0, 0))).alloc (.cells Tryz.zeroCells57 57 (0, 0)) := ⟨_, rfl⟩
  have HW2 := Lib.hid hw2
  have hs2 : w2.heap.size = w.heap.size + 3 := by rw [hw2]; simp
  obtain ⟨B0, hB0⟩ : ∃ B0, B0 = w.heap.size := ⟨_, rfl⟩
  obtain ⟨B1, hB1⟩ : ∃ B1, B1 = B0 + 1 := ⟨_, rfl⟩
  obtain ⟨B4, hB4⟩ : ∃ B4, B4 = B1 + 1 := ⟨_, rfl⟩
  obtain ⟨BD, hBD⟩ : ∃ BD, BD = w2.heap.size := ⟨_, rfl⟩
  obtain ⟨w3, hw3⟩ : ∃ w3, w3 = w2.alloc (.cells (sarr fun _ _ => 0) 57 (0, 0)) := ⟨_, rfl⟩
  have hne : DNe w B0 B1 B4 BD := ⟨by omega, by omega, by omega, by omega⟩
  have HF3 : Hid (DF w B0 B1 B4 BD cq s (fun _ _ => 0) w3) := Lib.hid (by
    rw [hw3]
    refine ⟨?_, ?_, ?_, by rw [hBD]; exact heap_alloc_new _ _, ?_⟩
    · rw [Below.heap_alloc _ _ _ (by omega), hw2, Below.heap_alloc _ _ _ (by simp; omega), Below.heap_alloc _ _ _ (by simp; omega), hB0]; exact heap_alloc_new _ _
    · rw [Below.heap_alloc _ _ _ (by omega), hw2, Below.heap_alloc _ _ _ (by simp; omega), show B1 = (w.alloc (.cells cq 55 (0, 0))).heap.size by simp; omega]; exact heap_alloc_new _ _
    · rw [Below.heap_alloc _ _ _ (by omega), hw2, ← zeroS, show B4 = ((w.alloc (.cells cq 55 (0, 0))).alloc (.cells (sarr s) 57 (0, 0))).heap.size by simp; omega]; exact heap_alloc_new _ _
    · rw [hw2]; exact ((((Below.refl _ _).alloc (Nat.le_refl _) _).alloc (by simp) _).alloc (by simp; omega) _).alloc (by simp; omega) _)
  have HW3 := Lib.hid hw3
  have HB0 := Lib.hid hB0
  have HB1 := Lib.hid hB1
  have HB4 := Lib.hid hB4
  have HBD := Lib.hid hBD
  clear hs hnt hcq hc00 hw2 hs2 hB0 hB1 hB4 hBD hw3
  go_enter Tryz.func37, Tryz.ntmps37
  go_upto_region 1 with fail
  rw [← HW2.out, ← HB0.out, ← HB1.out, ← HB4.out]
  go_upto_region 2 with (refine wpList_store_row rfl 57 (.tmp 5) (.tmp 10) rfl w2.heap.size (Tryz.zeroCells57) rfl rfl 57 _ (heap_alloc_new _ _) (by rw [zeroS_size]; exact infoS) (by rw [zeroS_size]) zeroS_one ?_)
  rw [World.setRow_alloc_new, zeroS, ← HW3.out, ← HBD.out]
  have hc0 : w3.cell? ⟨B0, 0, none⟩ = some (.slice (some ⟨gt, 0, none⟩) n ct) := cellAt HF3.out.1 HC00.out
  go_wp2_with fail
  clear hc0
  go_loopw [14] (fun iv wr => ∃ (c : Nat) (d : Nat → Nat → Int), c ≤ n ∧ iv = .int .i64 c ∧ Bs 18 d ∧ (∀ v, Sp 18 (BsR 18 d) v ↔ Sp 18 (· ∈ dualL ts s c) v) ∧ DF w B0 B1 B4 BD cq s d wr) (fun iv _ => n - (intOf iv).toNat)
  case atStart =>
    refine ⟨0, fun _ _ => 0, Nat.zero_le _, rfl, Bs.none 18, fun v => ⟨Sp.mono fun y hy => ?_, Sp.mono fun y hy => by simp [dualL] at hy⟩, HF3.out⟩
    obtain ⟨i, _, rfl⟩ := hy
    exact .zero fun _ _ => rfl
  case round =>
    obtain ⟨c, d, hc, rfl, hbd, hsd, hF⟩ := hrel
    obtain ⟨wo, rfl⟩ : ∃ wo : World, wo = wr := ⟨_, rfl⟩
    have HBSD := Lib.hid hbd
    have HSD := Lib.hid hsd
    have HF := Lib.hid hF
    clear hbd hsd hF
    by_cases hlt : c < n
    · have hc18 : c < 18 := by omega
      have c0 : (0 : Int) ≤ (c : Int) := by omega
      have c18 : (c : Int) < 18 := by omega
      have HIZ := Lib.hid (fun W : World => rowIsZero_any (s c) W)
      have HRZ := Lib.hid (rowZ_head HSB.out hc18)
      obtain ⟨z, hz⟩ : ∃ z, z = rowZ (s c) := ⟨_, rfl⟩
      rw [← hz] at HIZ HRZ
      clear hz
      go_wp2_with (refine wpList_load_mid rfl 53 (.tmp 18) rfl B1 (c * 18) rfl (arrL (s c)) _ (range_sarr HF.out.2.1 hc18) descA rfl (by rw [arrL_length]; exact infoA) ?_)
      refine (HIZ.out wo).mono ?_
      rintro e w4 ⟨rfl, hB4⟩
      have HF4 := Lib.hid (HF.out.keep hB4)
      clear hB4
      cases z with
      | false =>
        have HD1 : Hid (dualL ts s (c + 1) = dualL ts s c) := Lib.hid (by
          have : s c c = 1 := Classical.byContradiction fun h => by have := HRZ.out.2 h; cases this
          rw [dualL, if_pos this, List.append_nil])
        clear HRZ
        go_wp2_with fail
        exact ⟨⟨c + 1, d, by omega, by go_num, HBSD.out, by rw [HD1.out]; exact HSD.out, HF4.out⟩, by simp [intOf]; omega⟩
      | true =>
        have HD1 : Hid (dualL ts s (c + 1) = dualL ts s c ++ [dRow ts s c]) := Lib.hid (by rw [dualL, if_neg (HRZ.out.1 rfl)])
        clear HRZ
        obtain ⟨Br, hBr⟩ : ∃ Br, Br = w4.heap.size := ⟨_, rfl⟩
        obtain ⟨W5, hW5⟩ : ∃ W5, W5 = w4.alloc (.cells (arr fun _ => 0) 53 (0, 0)) := ⟨_, rfl⟩
        have hb5 : Below w4.heap.size w4 W5 := by rw [hW5]; exact (Below.refl _ _).alloc (Nat.le_refl _) _
        have HF5 := Lib.hid (HF4.out.keep hb5)
        have HR5 : Hid (W5.heap[Br]? = some (.cells (arr (rowI s c 0)) 53 (0, 0))) := Lib.hid (by
          have e : arr (rowI s c 0) = arr (fun _ => 0) := arr_congr (fun j _ => by unfold rowI; rw [if_neg (by omega)])
          rw [hW5, hBr, e]
          exact heap_alloc_new _ _)
        have hDr : BD < Br := by rw [hBr]; exact (Array.getElem?_eq_some_iff.1 HF4.out.2.2.2.1).1
        have HW5 := Lib.hid hW5
        have HBR := Lib.hid hBr
        clear hW5 hb5 hBr
        go_upto_region 7 with (refine wpList_store_row rfl 53 (.tmp 7) (.tmp 22) rfl w4.heap.size (arr fun _ => 0) rfl rfl 53 _ (heap_alloc_new _ _) (by rw [arr_size]; exact infoA) rfl (arr_one _) ?_)
        rw [World.setRow_alloc_new, ← HW5.out, ← HBR.out]
        go_wp2_with (refine wpList_load_row rfl 57 (.tmp 3) rfl B1 rfl 57 (sarr s) (0, 0) _ HF5.out.2.1 descS rfl (by rw [sarr_size]; exact infoS) ?_)
        go_loopw [24] (fun iv wx => ∃ i : Nat, i ≤ 18 ∧ iv = .int .i64 i ∧ wx.heap[Br]? = some (.cells (arr (rowI s c i)) 53 (0, 0)) ∧ DF w B0 B1 B4 BD cq s d wx) (fun iv _ => 18 - (intOf iv).toNat)
        case atStart => exact ⟨0, by omega, rfl, HR5.out, HF5.out⟩
        case round =>
          obtain ⟨i, hi, rfl, hr, hFx⟩ := hrel
          obtain ⟨wx, rfl⟩ : ∃ wx : World, wx = wr := ⟨_, rfl⟩
          have HRX := Lib.hid hr
          have HFX := Lib.hid hFx
          have hRl : Br < wx.heap.size := (Array.getElem?_eq_some_iff.1 hr).1
          clear hr hFx
          by_cases hli : i < 18
          · have hix := fun W => index_span s hli W
            obtain ⟨Bg, hBg⟩ : ∃ Bg, Bg = wx.heap.size := ⟨_, rfl⟩
            obtain ⟨W6, hW6⟩ : ∃ W6, W6 = wx.alloc (.cells (arr (s i)) 53 (0, 0)) := ⟨_, rfl⟩
            have hb6 : Below wx.heap.size wx W6 := by rw [hW6]; exact (Below.refl _ _).alloc (Nat.le_refl _) _
            have hg6 : W6.heap[Bg]? = some (.cells (arr (s i)) 53 (0, 0)) := by rw [hW6, hBg]; exact heap_alloc_new _ _
            obtain ⟨x, hx⟩ : ∃ x, x = s i c := ⟨_, rfl⟩
            have hxb : 0 ≤ x ∧ x ≤ 100 := by rw [hx]; exact HSB.out.rng i c
            have hcx : W6.cell? ⟨Bg, c, none⟩ = some (.int .i64 x) := cellAt hg6 (by rw [arr_get _ hc18, hx])
            have hr6 := (hb6.block Br hRl).trans HRX.out
            have hcc : W6.cell? ⟨Br, i, none⟩ = some (.int .i64 (rowI s c i i)) := cellAt hr6 (arr_get _ hli)
            have hff : W6.frozen? ⟨Br, i, none⟩ = false := Lib.frozen_of_heap hr6 _
            have HF7 := Lib.hid ((HFX.out.keep hb6).cell (k := i) hne hDr (.int .i64 (-x % 101)))
            have HR7 : Hid ((W6.setCell ⟨Br, i, none⟩ (.int .i64 (-x % 101))).heap[Br]? = some (.cells (arr (rowI s c (i + 1))) 53 (0, 0))) := Lib.hid (by
              rw [heap_setCell_same (k := i) hr6 (.int .i64 (-x % 101)), arr_set]
              congr 2
              refine arr_congr fun j _ => ?_
              unfold rowI
              by_cases e : j = i
              · subst e; rw [if_pos rfl, if_pos (by omega), hx]
              · rw [if_neg e]
                by_cases e2 : j < i
                · rw [if_pos e2, if_pos (by omega)]
                · rw [if_neg e2, if_neg (by omega)])
            have HMP := Lib.hid (fun W : World => modPrime_any (-x) W (by omega) (by omega))
            have hw1 : IntKind.i64.wrap (-x) = -x := by rw [IntKind.wrap_i64]; omega
            have i0' : (0 : Int) ≤ (i : Int) := by omega
            have i18 : (i : Int) < 18 := by omega
            have HW6 := Lib.hid hW6
            have HBG := Lib.hid hBg
            clear hW6 hb6 hg6 hr6 hBg hx
            go_upto_region 10 with (refine wpList_store_row rfl 53 (.tmp 9) (.tmp 27) rfl wx.heap.size (arr (s i)) rfl rfl 53 _ (heap_alloc_new _ _) (by rw [arr_size]; exact infoA) (by rw [arr_size]; rfl) (arr_one _) ?_)
            rw [World.setRow_alloc_new, ← HW6.out, ← HBG.out]
            go_wp2_with fail
            refine (HMP.out W6).mono ?_
            rintro e w7 ⟨rfl, hww⟩
            subst hww
            go_wp2_with fail
            exact ⟨⟨i + 1, by omega, by go_num, HR7.out, HF7.out⟩, by simp [intOf]; omega⟩
          · have hi18 : i = 18 := by omega
            subst hi18
            have hcc : wx.cell? ⟨Br, c, none⟩ = some (.int .i64 (rowI s c 18 c)) := cellAt HRX.out (arr_get _ hc18)
            have hff : wx.frozen? ⟨Br, c, none⟩ = false := Lib.frozen_of_heap HRX.out _
            obtain ⟨W8, hW8⟩ : ∃ W8, W8 = wx.setCell ⟨Br, c, none⟩ (.int .i64 1) := ⟨_, rfl⟩
            have HF8 : Hid (DF w B0 B1 B4 BD cq s d W8) := Lib.hid (by rw [hW8]; exact HFX.out.cell hne hDr _)
            obtain ⟨rj, hrj⟩ : ∃ rj, rj = rowJ s c := ⟨_, rfl⟩
            have HX8 : Hid (HeldX B0 BD Br cq d rj W8) := Lib.hid ⟨HF8.out.1, HF8.out.2.2.2.1, by
              rw [hW8, heap_setCell_same (k := c) HRX.out (.int .i64 1), arr_set, hrj]; rfl⟩
            have HTE := Lib.hid (fun W : World => timesEach_any rj (sgn ts) W (fun j _ => by rw [hrj]; exact rowJ_rng s c j) (fun j _ => sgn_bound ts j))
            have hdr : (fun j => rj j * sgn ts j % 101) = dRow ts s c := by rw [hrj]; exact rowJ_dual ts s c (by have := HNT.out; omega)
            rw [hdr] at HTE
            have HWI := Lib.hid (fun W : World => spanWith_any d (dRow ts s c) W HBSD.out (fun j _ => dRow_rng ts s c j))
            have HW8 := Lib.hid hW8
            clear hW8 hrj hdr
            go_upto_region 13 with fail
            rw [← HW8.out]
            clear hcc hff
            refine wp_region_heldZ (z := 6) (S := HeldX B0 BD Br cq d rj) (by kernel_rfl) (show HeldX B0 BD Br cq d rj W8.drew from HX8.out) (fun hHeld => ?_)
            refine wpAnyZ_take (i := 0) (oi := { dst := some 38, op := Op.load 57 (Operand.tmp 5), type := 57, pos := "l6_duals.go:178", after := #[], guard := none }) (v := .agg (sarr d)) rfl (by kernel_rfl) (by kernel_rfl) (by kernel_rfl) (by kernel_rfl) (fun _ _ _ h => h) (yieldsIf_load_mid (by rfl) 57 (.tmp 5) rfl BD 0 rfl (spanL d) _ (fun w hS => range_span hS.2.1) descS rfl (by rw [spanL_length]; exact infoS)) (by assumption) ?_
            (try simp only [Act.put, List.setIfInBounds_toArray, List.set_cons_zero, List.set_cons_succ])
            refine wpAnyZ_take (i := 1) (oi := { dst := some 39, op := Op.load 53 (Operand.tmp 7), type := 53, pos := "l6_duals.go:178", after := #[], guard := none }) (v := .agg (arr rj)) rfl (by kernel_rfl) (by kernel_rfl) (by kernel_rfl) (by kernel_rfl) (fun _ _ _ h => h) (yieldsIf_load_mid (by rfl) 53 (.tmp 7) rfl Br 0 rfl (arrL rj) _ (fun w hS => range_arr hS.2.2) descA rfl (by rw [arrL_length]; exact infoA)) (by assumption) ?_
            (try simp only [Act.put, List.setIfInBounds_toArray, List.set_cons_zero, List.set_cons_succ])
            refine wpAnyZ_take (i := 2) (oi := { dst := some 40, op := Op.fieldAddr 55 (Operand.tmp 2) 1, type := 0, pos := "l6_duals.go:178", after := #[], guard := none }) (v := ?_) rfl (by kernel_rfl) (by kernel_rfl) (by kernel_rfl) (by kernel_rfl) (fun _ _ _ h => h) (Or.inl ⟨by rfl, ?_⟩) (by assumption) ?_
            rotate_left
            · (intro w hSw; (try dsimp only at hSw); go_simp <;> with_reducible rfl)
            (try simp only [Act.put, List.setIfInBounds_toArray, List.set_cons_zero, List.set_cons_succ])
            refine wpAnyZ_take (i := 3) (oi := { dst := some 41, op := Op.load 53 (Operand.tmp 40), type := 53, pos := "l6_duals.go:178", after := #[{ on := 2, ground := Ground.data }], guard := none }) (v := .agg (arr (sgn ts))) rfl (by kernel_rfl) (by kernel_rfl) (by kernel_rfl) (by kernel_rfl) (fun _ _ _ h => h) (yieldsIf_load_mid (by rfl) 53 (.tmp 40) rfl B0 1 rfl (arrL (sgn ts)) _ (fun w hS => range_qcells (v := .slice (some ⟨gt, 0, none⟩) n ct) (by rw [← HCQ.out]; exact hS.1)) descA rfl (by rw [arrL_length]; exact infoA)) (by assumption) ?_
            (try simp only [Act.put, List.setIfInBounds_toArray, List.set_cons_zero, List.set_cons_succ])
            refine wpAnyZ_one (i := 4) (o := { dst := some 42, op := Op.call { callee := Callee.value (Operand.func 54), args := #[Operand.tmp 39, Operand.tmp 41], argTypes := #[53, 53] }, type := 53, pos := "l6_duals.go:178", after := #[{ on := 1, ground := Ground.data }, { on := 3, ground := Ground.data }], guard := none }) (by kernel_rfl) rfl (fun KK hK => ?_)
            go_simp
            go_wp2_with fail
            refine (HTE.out _).mono ?_
            rintro e w9 ⟨rfl, hB9⟩
            have HX9 := Lib.hid ((show HeldX B0 BD Br cq d rj W8.drew from HX8.out).keep hB9)
            have HF9 := Lib.hid ((show DF w B0 B1 B4 BD cq s d W8.drew from HF8.out.drew).keep hB9)
            clear hB9
            go_wp2_with fail
            refine hK.out _ _ ?_ (fun hHeld => ?_)
            · exact HX9.out
            clear hK KK
            (try simp only [Act.put, List.setIfInBounds_toArray, List.set_cons_zero, List.set_cons_succ])
            refine wpAnyZ_one (i := 5) (o := { dst := some 43, op := Op.call { callee := Callee.value (Operand.func 53), args := #[Operand.tmp 38, Operand.tmp 42], argTypes := #[57, 53] }, type := 57, pos := "l6_duals.go:178", after := #[{ on := 0, ground := Ground.data }, { on := 4, ground := Ground.data }, { on := 4, ground := Ground.chain }], guard := none }) (by kernel_rfl) rfl (fun KK hK => ?_)
            go_simp
            go_wp2_with fail
            refine (HWI.out _).mono ?_
            rintro e w10 ⟨t, hbt, hst, rfl, hB10⟩
            have HX10 := Lib.hid (HX9.out.keep hB10)
            have HF10 := Lib.hid (HF9.out.keep hB10)
            have HBT := Lib.hid hbt
            have HST := Lib.hid hst
            clear hB10 hbt hst
            go_wp2_with fail
            refine hK.out _ _ ?_ (fun hHeld => ?_)
            · exact HX10.out
            clear hK KK
            (try simp only [Act.put, List.setIfInBounds_toArray, List.set_cons_zero, List.set_cons_succ])
            refine wpAnyZ_last (o := { dst := none, op := Op.store 57 (Operand.tmp 5) (Operand.tmp 43), type := 0, pos := "l6_duals.go:178", after := #[{ on := 5, ground := Ground.data }, { on := 5, ground := Ground.chain }, { on := 0, ground := Ground.phase }, { on := 1, ground := Ground.phase }, { on := 2, ground := Ground.phase }, { on := 3, ground := Ground.phase }, { on := 4, ground := Ground.phase }, { on := 5, ground := Ground.phase }], guard := none }) (by kernel_rfl) rfl (by kernel_rfl) (fun KK hK => ?_)
            rw [if_pos (by rfl)]
            refine wp_store_row 57 (.tmp 5) (.tmp 43) rfl BD (sarr t) rfl rfl 57 (sarr d) HF10.out.2.2.2.1 (by rw [sarr_size]; exact infoS) (by rw [sarr_size, sarr_size]) (sarr_one _) (hK.out _ _ ?_)
            have HF11 := Lib.hid (HF10.out.put hne t)
            clear hK KK
            have HSN : Hid (∀ v, Sp 18 (BsR 18 t) v ↔ Sp 18 (· ∈ dualL ts s (c + 1)) v) := Lib.hid (fun v => by
              rw [HD1.out]
              refine (HST.out v).trans ⟨Sp.mono fun y hy => ?_, Sp.mono fun y hy => ?_⟩
              · rcases hy with hy | rfl
                · exact ((HSD.out y).1 (Sp.of hy)).mono fun z hz => Sp.of (List.mem_append.2 (.inl hz))
                · exact Sp.of (List.mem_append.2 (.inr (List.mem_singleton.2 rfl)))
              · rcases List.mem_append.1 hy with hy | hy
                · exact ((HSD.out y).2 (Sp.of hy)).mono fun z hz => Sp.of (.inl hz)
                · exact Sp.of (.inr (List.mem_singleton.1 hy)))
            go_wp2_with fail
            exact ⟨⟨c + 1, t, by omega, by go_num, HBT.out, HSN.out, HF11.out⟩, by simp [intOf]; omega⟩
    · have hcn : c = n := by omega
      subst hcn
      have HRR := Lib.hid (setRow_heap wo B4 _ (sarr d) 57 (0, 0) HF.out.2.2.1)
      have HBF := Lib.hid (below_setRow HF.out.2.2.2.2 (by obtain ⟨n1, n2, n3, n4⟩ := hne; omega : w.heap.size ≤ B4) (sarr d))
      go_wp2_with (first
        | (refine wpList_load_row rfl 57 (.tmp 5) rfl BD rfl 57 (sarr d) (0, 0) _ HF.out.2.2.2.1 descS rfl (by rw [sarr_size]; exact infoS) ?_)
        | (refine wpList_store_row rfl 57 (.tmp 4) (.tmp 45) rfl B4 (sarr d) rfl rfl 57 _ HF.out.2.2.1 (by rw [sarr_size]; exact infoS) (by rw [sarr_size, sarr_size]) (sarr_one _) ?_))
      refine bodyPost_ret (v := .agg (sarr d)) (ret_sarr rfl _ _ B4 _ (0, 0) rfl HRR.out) rfl ?_
      exact ⟨d, HBSD.out, HSD.out, rfl, HBF.out⟩
end Go.Proofs.YtoeebipahifpcaaGreat
end
section
/- QuadDual by the program, whole; the sums of a dual, however they were found. -/
namespace Go.Proofs.YtoeebipahifpcaaGreat
open Go.RowKit

/-- A base in 18 columns whose rows have nothing behind L is one in L columns. -/
theorem base_narrow {ts : List T} (hL : ts.length ≤ 18) {R : (Nat → Int) → Prop} (hR : ∀ r, R r → ∀ j, ts.length ≤ j → r j = 0) {t : Nat → Nat → Int} (h1 : Bs 18 t) (h2 : ∀ v, Sp 18 (BsR 18 t) v ↔ Sp 18 R v) :
    Bs ts.length t ∧ (∀ v, Sp ts.length (BsR ts.length t) v ↔ Sp ts.length R v) ∧ pBase ts t 18 = qBase ts t := by
  have hz : ∀ i, ts.length ≤ i → ∀ j, t i j = 0 := fun i hi => by
    rcases h1.row i with h0 | ⟨hi18, h1', _⟩
    · exact h0
    · have := Sp.beyond hR ((h2 _).1 (Sp.of ⟨i, hi18, rfl⟩)) i hi hi18
      rw [h1'] at this
      cases this
  have hb : Bs ts.length t := ⟨h1.rng, fun i => by
    rcases h1.row i with h0 | ⟨_, h1', h2', h3'⟩
    · exact .inl h0
    · by_cases hi : i < ts.length
      · exact .inr ⟨hi, h1', h2', h3'⟩
      · exact .inl (hz i (by omega))⟩
  refine ⟨hb, fun v => ⟨Sp.mono fun y hy => ?_, Sp.mono fun y hy => ?_⟩, ?_⟩
  · obtain ⟨i, hi, rfl⟩ := hy
    exact Sp.narrow hL ((h2 _).1 (Sp.of ⟨i, by omega, rfl⟩))
  · refine (Sp.narrow hL ((h2 y).2 (Sp.of hy))).mono fun r hr => ?_
    obtain ⟨i, hi, rfl⟩ := hr
    by_cases hiL : i < ts.length
    · exact Sp.of ⟨i, hiL, rfl⟩
    · exact .zero fun j _ => by rw [hz i (by omega) j]; rfl
  · rw [pBase_heads ts h1 18 (by omega), qBase_map]
    have e := headL_beyond (t := t) (L := ts.length) (fun i hi => by rw [hz i hi i]; omega) (18 - ts.length)
    rw [show ts.length + (18 - ts.length) = 18 by omega] at e
    rw [e]

/-- The sums of a dual. -/
def DualSet (ss : List ByteArray) (xss zss : List (List (Int × ByteArray))) : Prop :=
  ∃ ts s t, quadsOf ss = some ts ∧ (xss.length ≤ 20 ∧ RowsAll ts xss) ∧ Bs ts.length s ∧ (∀ v, Sp ts.length (BsR ts.length s) v ↔ Sp ts.length (RS ts xss xss.length) v) ∧ Bs ts.length t ∧ (∀ v, Sp ts.length (BsR ts.length t) v ↔ Sp ts.length (· ∈ dualL ts s ts.length) v) ∧ zss = qBase ts t

theorem dual_same {ts : List T} {s s' : Nat → Nat → Int} (h : ∀ i j, i < ts.length → j < ts.length → s i j = s' i j) {v : Nat → Int} (hv : Sp ts.length (· ∈ dualL ts s ts.length) v) : Sp ts.length (· ∈ dualL ts s' ts.length) v := by
  refine hv.mono fun y hy => ?_
  obtain ⟨c, hc, h1, rfl⟩ := (dualL_mem _).1 hy
  refine (Sp.of ((dualL_mem _).2 ⟨c, hc, by rw [← h c c hc hc]; exact h1, rfl⟩)).congr fun j hj => ?_
  have : dRow ts s c j = dRow ts s' c j := by unfold dRow; rw [h j c hj hc]
  rw [this, Int.sub_self]; rfl

theorem DualSet.unique {ss : List ByteArray} {xss zss zss' : List (List (Int × ByteArray))} (h : DualSet ss xss zss) (h' : DualSet ss xss zss') : zss = zss' := by
  obtain ⟨ts, s, t, h1, _, h2, h3, h4, h5, rfl⟩ := h
  obtain ⟨ts', s', t', h1', _, h2', h3', h4', h5', rfl⟩ := h'
  rw [h1] at h1'
  cases h1'
  have e : ∀ i j, i < ts.length → j < ts.length → s i j = s' i j := Bs.unique h2 h2' (fun i hi => (h3' _).2 ((h3 _).1 (Sp.of ⟨i, hi, rfl⟩))) fun i hi => (h3 _).2 ((h3' _).1 (Sp.of ⟨i, hi, rfl⟩))
  exact qBase_congr (Bs.unique h4 h4' (fun i hi => (h5' _).2 (dual_same e ((h5 _).1 (Sp.of ⟨i, hi, rfl⟩)))) fun i hi => (h5 _).2 (dual_same (fun i j hi hj => (e i j hi hj).symm) ((h5' _).1 (Sp.of ⟨i, hi, rfl⟩))))

theorem DualSet.good {ss : List ByteArray} {xss zss : List (List (Int × ByteArray))} (h : DualSet ss xss zss) (hb : BaseBad ss xss) : False := by
  obtain ⟨ts, s, t, h1, ⟨h2, h3⟩, _⟩ := h
  exact hb.not h1 h2 h3

theorem DualSet.small {ss : List ByteArray} {xss zss : List (List (Int × ByteArray))} (h : DualSet ss xss zss) : zss.length ≤ 18 ∧ ∀ j (h : j < zss.length), Small1 zss[j] ∧ (zss[j]).length ≤ 18 := by
  obtain ⟨ts, s, t, h1, _, _, _, _, _, rfl⟩ := h
  obtain ⟨q1, q2, _⟩ := quadsOf_ok h1
  rw [qBase_map]
  refine ⟨by rw [List.length_map]; have := headL_le t ts.length; omega, fun j hj => ?_⟩
  rw [List.getElem_map]
  have := rowTx_le ts (t ((headL t ts.length)[j]'(by simpa using hj))) ts.length
  exact ⟨⟨by omega, fun i hi => rowTx_small q2 (List.getElem_mem hi)⟩, by omega⟩

theorem DualIs.set {ss : List ByteArray} {xss zss : List (List (Int × ByteArray))} (h : DualIs ss xss zss) : DualSet ss xss zss := by
  obtain ⟨ts, fs, s, rest, t, rest', h1, h2, h3, h4, rfl⟩ := h
  exact ⟨ts, s, t, h1, ⟨h2.1, h2.all⟩, h3.base, fun v => (h3.done v).trans ⟨Sp.mono fun y hy => Sp.of ((h2.mem y).1 hy), Sp.mono fun y hy => Sp.of ((h2.mem y).2 hy)⟩, h4.base, fun v => h4.done v, rfl⟩

theorem dual_set {ss : List ByteArray} {xss : List (List (Int × ByteArray))} {ts : List T} {s d : Nat → Nat → Int} (hq : quadsOf ss = some ts) (h20 : xss.length ≤ 20) (h : SpanIs ts xss xss.length s) (hbd : Bs 18 d) (hsd : ∀ v, Sp 18 (BsR 18 d) v ↔ Sp 18 (· ∈ dualL ts s ts.length) v) : DualSet ss xss (pBase ts d 18) := by
  obtain ⟨h1, h2, hra⟩ := h
  have hL := (quadsOf_ok hq).1
  obtain ⟨a1, a2, _⟩ := base_narrow hL (R := RS ts xss xss.length) (fun r hr => by
    obtain ⟨_, _, _, e⟩ := hr
    exact qRowOf_wide e) h1 h2
  obtain ⟨b1, b2, b3⟩ := base_narrow hL (R := (· ∈ dualL ts s ts.length)) (fun r hr j hj => by
    obtain ⟨c, hc, _, rfl⟩ := (dualL_mem _).1 hr
    unfold dRow
    rw [if_neg (by omega)]
    have : sgn ts j = 0 := by unfold sgn; rw [dif_neg (by omega)]
    rw [this, Int.mul_zero]; rfl) hbd hsd
  exact ⟨ts, s, d, hq, ⟨h20, fun j hj => hra j hj hj⟩, a1, a2, b1, b2, b3⟩

/-- What 'QuadDual' answers by the program. -/
def IDualPost (ss : List ByteArray) (xss : List (List (Int × ByteArray))) (w : World) (e : Ending) (w' : World) : Prop :=
  Below w.heap.size w w' ∧ ((BaseBad ss xss ∧ e = .returned (.tuple #[.slice none 0 0, .bool false])) ∨
    ∃ zss g c gb vs, DualSet ss xss zss ∧ zss.length ≤ 18 ∧ e = .returned (.tuple #[.slice (some ⟨g, 0, none⟩) zss.length c, .bool true]) ∧ SumsW w.heap.size w' (some ⟨g, 0, none⟩) c zss gb vs)

def HeldY (B6 B7 : Nat) (cq : Array Value) (t : Nat → Nat → Int) (w' : World) : Prop := w'.heap[B6]? = some (.cells cq 55 (0, 0)) ∧ w'.heap[B7]? = some (.cells (sarr t) 57 (0, 0))
theorem HeldY.keep {B6 B7 : Nat} {cq : Array Value} {t : Nat → Nat → Int} {w1 w2 : World} (h : HeldY B6 B7 cq t w1) (hb : Below w1.heap.size w1 w2) : HeldY B6 B7 cq t w2 :=
  ⟨(hb.block _ (Array.getElem?_eq_some_iff.1 h.1).1).trans h.1, (hb.block _ (Array.getElem?_eq_some_iff.1 h.2).1).trans h.2⟩

set_option maxRecDepth 100000 in
set_option maxHeartbeats 4000000 in
theorem iQuadDual_any (ss : List ByteArray) (xss : List (List (Int × ByteArray))) (n m : Nat) (hns : n = ss.length) (hmx : m = xss.length) (ga ca gx cx : Nat) (w : World) (hn : n ≤ 1048576) (hca : n ≤ ca) (hm : m ≤ 1048576)
    (hz : ∀ j (h : j < ss.length), (ss[j]).size ≤ 1048576) (hzx : ∀ j (h : j < xss.length), Small1 xss[j]) (hl : TxG w ga ss) (hlx : TermsL w gx xss) :
    Calls Tryz.prog 19 #[.slice (some ⟨ga, 0, none⟩) n ca, .slice (some ⟨gx, 0, none⟩) m cx] w (IDualPost ss xss w) := by
  have HRS := Lib.hid (readSpan_any ss xss n m hns hmx ga ca gx cx w hn hca hm hz hzx hl hlx)
  clear hns hmx hz hzx hl hlx
  go_enter Tryz.func19, Tryz.ntmps19
  go_wp2_with fail
  refine HRS.out.mono ?_
  rintro e w1 ⟨hB1, ⟨hbad, cq, hqs, hqo, rfl⟩ | ⟨ts, gt, c1, t, hyes, h20, hsp, rfl, htx⟩⟩
  · have HQS := Lib.hid hqs
    have HQO := Lib.hid hqo
    obtain ⟨w2, w3, hw2, hw3, h7, h8, g7, g8, hb3, _, _⟩ := two_new hB1 cq (sarr fun _ _ => 0)
    have HW2 := Lib.hid hw2
    have HW3 := Lib.hid hw3
    have H7 := Lib.hid h7
    have H8 := Lib.hid h8
    have HB3 := Lib.hid hb3
    have HE := Lib.hid hbad.base
    clear hqs hqo hB1 hbad hw2 hw3 h7 h8 g7 g8 hb3
    go_wp2_with (first
      | (rw [← HW2.out]; refine wpList_store_row rfl 55 (.tmp 6) (.tmp 13) rfl w1.heap.size cq rfl rfl 55 _ H7.out (by rw [HQS.out]; exact infoQ) (by rw [HQS.out]; rfl) HQO.out ?_)
      | (refine wpList_store_row rfl 57 (.tmp 7) (.tmp 14) rfl (w1.heap.size + 1) (sarr fun _ _ => 0) rfl rfl 57 _ H8.out (by rw [sarr_size]; exact infoS) (by rw [sarr_size]) (sarr_one _) ?_; rw [← HW3.out]))
    go_ret2
    exact ⟨HB3.out, .inl ⟨HE.out, rfl⟩⟩
  · obtain ⟨q1, q2, q3⟩ := quadsOf_ok hyes
    obtain ⟨L, hL⟩ : ∃ L, L = ts.length := ⟨_, rfl⟩
    rw [← hL]
    obtain ⟨cq, hcq⟩ : ∃ cq, cq = qcells (.slice (some ⟨gt, 0, none⟩) L c1) (sgn ts) := ⟨_, rfl⟩
    rw [← hcq]
    have HQS : Hid (cq.size = 19) := Lib.hid (by rw [hcq, qcells_size])
    have HQO : Hid (cq.all (·.oneCell') = true) := Lib.hid (by rw [hcq]; exact qcells_one rfl _)
    obtain ⟨w2, w3, hw2, hw3, h7, h8, g7, g8, hb3, hb13, hs3⟩ := two_new hB1 cq (sarr t)
    have htx3 := htx.below hb13
    have HW2 := Lib.hid hw2
    have HW3 := Lib.hid hw3
    have H7 := Lib.hid h7
    have H8 := Lib.hid h8
    have HB3 := Lib.hid hb3
    obtain ⟨B6, hB6⟩ : ∃ B6, B6 = w1.heap.size := ⟨_, rfl⟩
    obtain ⟨B7, hB7⟩ : ∃ B7, B7 = B6 + 1 := ⟨_, rfl⟩
    have HB13 := Lib.hid hb13
    have HY3 : Hid (HeldY B6 B7 cq t w3) := Lib.hid ⟨by rw [hB6]; exact g7, by rw [hB7, hB6]; exact g8⟩
    have HE6 := Lib.hid hB6
    have HE7 := Lib.hid hB7
    have HSET : Hid (∀ d, Bs 18 d → (∀ v, Sp 18 (BsR 18 d) v ↔ Sp 18 (· ∈ dualL ts t L) v) → DualSet ss xss (pBase ts d 18)) := Lib.hid (fun d h1 h2 => dual_set hyes h20 hsp h1 (by rw [← hL]; exact h2))
    obtain ⟨fs, hfs⟩ := descQ2
    have HFS := Lib.hid hfs
    have HDU : Hid (∀ W, Calls Tryz.prog 37 #[.agg cq, .agg (sarr t)] W (DualPost ts t L W)) := Lib.hid (fun W => by rw [hcq]; exact dualI_any ts t L hL gt c1 W (by omega) hsp.1)
    have HBA : Hid (∀ d W, Below w1.heap.size w1 W → Calls Tryz.prog 31 #[.agg cq, .agg (sarr d)] W (SumsNew (pBase ts d 18) W)) := Lib.hid (fun d W hb => by
      rw [hcq]
      exact qBaseI_any ts d L hL gt c1 (sgn ts) W (by omega) (htx.below hb))
    clear hB1 hyes h20 hsp htx q1 q2 q3 hL hcq hw2 hw3 h7 h8 g7 g8 hb3 hb13 hs3 hfs htx3 hB6 hB7
    go_upto_region 2 with (first
      | (rw [← HW2.out]; refine wpList_store_row rfl 55 (.tmp 6) (.tmp 13) rfl w1.heap.size cq rfl rfl 55 _ H7.out (by rw [HQS.out]; exact infoQ) (by rw [HQS.out]; rfl) HQO.out ?_)
      | (refine wpList_store_row rfl 57 (.tmp 7) (.tmp 14) rfl (w1.heap.size + 1) (sarr t) rfl rfl 57 _ H8.out (by rw [sarr_size]; exact infoS) (by rw [sarr_size, sarr_size]) (sarr_one _) ?_; rw [← HW3.out]))
    rw [← HE6.out, ← HE7.out]
    go_wp2_with fail
    refine wp_region_held_drew (S := HeldY B6 B7 cq t) (by kernel_rfl) (show HeldY B6 B7 cq t w3.drew from HY3.out) (fun hHeld => ?_)
    refine wpAnyH_take (i := 0) (oi := { dst := some 18, op := Op.load 55 (Operand.tmp 6), type := 55, pos := "l6_duals.go:254", after := #[], guard := none }) (v := .agg cq) rfl (by kernel_rfl) (by kernel_rfl) (by kernel_rfl) (fun _ _ _ h => h) (yieldsIf_load_mid (by rfl) 55 (.tmp 6) rfl B6 0 rfl cq.toList _ (fun w hS => range_cells hS.1) HFS.out rfl (by rw [Array.length_toList, HQS.out]; exact infoQ)) (by assumption) ?_
    (try simp only [Act.put, List.setIfInBounds_toArray, List.set_cons_zero, List.set_cons_succ])
    refine wpAnyH_take (i := 1) (oi := { dst := some 19, op := Op.load 55 (Operand.tmp 6), type := 55, pos := "l6_duals.go:254", after := #[], guard := none }) (v := .agg cq) rfl (by kernel_rfl) (by kernel_rfl) (by kernel_rfl) (fun _ _ _ h => h) (yieldsIf_load_mid (by rfl) 55 (.tmp 6) rfl B6 0 rfl cq.toList _ (fun w hS => range_cells hS.1) HFS.out rfl (by rw [Array.length_toList, HQS.out]; exact infoQ)) (by assumption) ?_
    (try simp only [Act.put, List.setIfInBounds_toArray, List.set_cons_zero, List.set_cons_succ])
    refine wpAnyH_take (i := 2) (oi := { dst := some 20, op := Op.load 57 (Operand.tmp 7), type := 57, pos := "l6_duals.go:254", after := #[], guard := none }) (v := .agg (sarr t)) rfl (by kernel_rfl) (by kernel_rfl) (by kernel_rfl) (fun _ _ _ h => h) (yieldsIf_load_mid (by rfl) 57 (.tmp 7) rfl B7 0 rfl (spanL t) _ (fun w hS => range_span hS.2) descS rfl (by rw [spanL_length]; exact infoS)) (by assumption) ?_
    (try simp only [Act.put, List.setIfInBounds_toArray, List.set_cons_zero, List.set_cons_succ])
    refine wpAnyH_ready (rs := [3]) (by kernel_rfl) (by simp) ?_
    refine AllReadyH.cons (o := { dst := some 21, op := Op.call { callee := Callee.value (Operand.func 37), args := #[Operand.tmp 19, Operand.tmp 20], argTypes := #[55, 57] }, type := 57, pos := "l6_duals.go:254", after := #[{ on := 1, ground := Ground.data }, { on := 2, ground := Ground.data }], guard := none }) rfl (fun KK hK => ?_) AllReadyH.nil
    go_simp
    go_wp2_with fail
    refine (HDU.out _).mono ?_
    rintro e w4 ⟨d, hbd, hsd, rfl, hB4⟩
    have HB4 := Lib.hid (below_step HB3.out.drew hB4)
    have HY4 := Lib.hid ((show HeldY B6 B7 cq t w3.drew from HY3.out).keep hB4)
    have HBSD := Lib.hid hbd
    have HSD := Lib.hid hsd
    have HBAC := Lib.hid (HBA.out d w4 (below_step HB13.out.drew hB4))
    clear hB4 hbd hsd
    go_wp2_with fail
    refine hK.out _ _ ?_ (fun hHeld => ?_)
    · exact HY4.out
    clear hK KK
    (try simp only [Act.put, List.setIfInBounds_toArray, List.set_cons_zero, List.set_cons_succ])
    refine wpAnyH_ready (rs := [4]) (by kernel_rfl) (by simp) ?_
    refine AllReadyH.cons (o := { dst := some 22, op := Op.call { callee := Callee.value (Operand.func 31), args := #[Operand.tmp 18, Operand.tmp 21], argTypes := #[55, 57] }, type := 26, pos := "l6_duals.go:254", after := #[{ on := 0, ground := Ground.data }, { on := 3, ground := Ground.data }, { on := 3, ground := Ground.chain }], guard := none }) rfl (fun KK hK => ?_) AllReadyH.nil
    go_simp
    go_wp2_with fail
    refine HBAC.out.mono ?_
    rintro e w5 ⟨hB5, g, c, gb, vs, rfl, hsw⟩
    have HB5 := Lib.hid (below_step HB4.out hB5)
    have HSW := Lib.hid (hsw.mono (B' := w.heap.size) HB4.out.size)
    have HY5 := Lib.hid (HY4.out.keep hB5)
    clear hB5 hsw
    go_wp2_with fail
    refine hK.out _ _ ?_ (fun hHeld => ?_)
    · exact HY5.out
    clear hK KK
    (try simp only [Act.put, List.setIfInBounds_toArray, List.set_cons_zero, List.set_cons_succ])
    refine wpAnyH_take (i := 5) (oi := { dst := some 4, op := Op.assign (Operand.tmp 22), type := 26, pos := "l6_duals.go:254", after := #[{ on := 4, ground := Ground.data }, { on := 4, ground := Ground.chain }, { on := 0, ground := Ground.phase }, { on := 1, ground := Ground.phase }, { on := 2, ground := Ground.phase }, { on := 3, ground := Ground.phase }, { on := 4, ground := Ground.phase }], guard := none }) (v := ?_) rfl (by kernel_rfl) (by kernel_rfl) (by kernel_rfl) (fun _ _ _ h => h) (Or.inl ⟨by rfl, ?_⟩) (by assumption) ?_
    rotate_left
    · (intro w hSw; (try dsimp only at hSw); go_simp <;> with_reducible rfl)
    (try simp only [Act.put, List.setIfInBounds_toArray, List.set_cons_zero, List.set_cons_succ])
    refine wpAnyH_take (i := 6) (oi := { dst := some 5, op := Op.assign (Operand.const (Value.bool true)), type := 4, pos := "l6_duals.go:254", after := #[{ on := 5, ground := Ground.chain }, { on := 0, ground := Ground.phase }, { on := 1, ground := Ground.phase }, { on := 2, ground := Ground.phase }, { on := 3, ground := Ground.phase }, { on := 4, ground := Ground.phase }, { on := 5, ground := Ground.phase }], guard := none }) (v := ?_) rfl (by kernel_rfl) (by kernel_rfl) (by kernel_rfl) (fun _ _ _ h => h) (Or.inl ⟨by rfl, ?_⟩) (by assumption) ?_
    rotate_left
    · (intro w hSw; (try dsimp only at hSw); go_simp <;> with_reducible rfl)
    (try simp only [Act.put, List.setIfInBounds_toArray, List.set_cons_zero, List.set_cons_succ])
    refine wpAnyH_done (by kernel_rfl) ?_ _
    all_goals
      go_wp2_with fail
      go_ret2
      exact ⟨HB5.out, .inr ⟨_, g, c, gb, vs, HSET.out d HBSD.out HSD.out, pBase_le ts d 18, rfl, HSW.out⟩⟩
end Go.Proofs.YtoeebipahifpcaaGreat
end
