/- Places marked, held and compared. -/
import Derived.Test.YtlmedcmheninaaaPlI
import Derived.Test.YtlmedcmheninaaaKStrs
namespace Go.Proofs.Ytlmedcmheninaaa
open Go.RowKit

/-- The mark at which the j-th place begins. -/
def offP (m : Nat) (us : List PlX) (j : Nat) : Nat := m + ((us.take j).map fun x => x.tx.length + 1).sum

theorem offP_zero (m : Nat) (us : List PlX) : offP m us 0 = m := by simp [offP]
theorem offP_succ (m : Nat) (us : List PlX) (j : Nat) (h : j < us.length) : offP m us (j + 1) = offP m us j + 1 + (us[j]).tx.length := by
  rw [offP, offP, List.take_succ_eq_append_getElem h, List.map_append, List.sum_append]; simp; omega
theorem offP_le (m : Nat) (us : List PlX) (L : Nat) (hL : ∀ j (h : j < us.length), (us[j]).tx.length ≤ L) : ∀ j, j ≤ us.length → offP m us j ≤ m + j * (L + 1)
  | 0, _ => by rw [offP_zero]; omega
  | j + 1, h => by
    have h1 := offP_le m us L hL j (by omega)
    have h2 := hL j (by omega)
    rw [offP_succ m us j (by omega), Nat.add_mul]
    omega
theorem offP_ge (m : Nat) (us : List PlX) (j : Nat) : m ≤ offP m us j := by rw [offP]; omega

theorem flat_get : ∀ (us : List PlX) (j : Nat) (h : j < us.length), (us.flatMap PlX.cells)[j * 2 + 1]? = some us[j].val
  | [], _, h => by simp at h
  | u :: us, 0, _ => by simp [PlX.cells, PlX.val]
  | u :: us, j + 1, h => by
    have := flat_get us j (by simpa using h)
    rw [List.flatMap_cons, List.getElem?_append_right (by simp [PlX.cells]; omega)]
    rw [show (j + 1) * 2 + 1 - (PlX.cells u).length = j * 2 + 1 by simp [PlX.cells]; omega, this]
    rfl

/-- The first i places are marked. -/
structure MP (w : World) (a : Option Addr) (us : List PlX) (m i base : Nat) : Prop where
  arr : ∀ _ : us ≠ [], ∃ g cur, a = some ⟨g, 0, none⟩ ∧ base ≤ g ∧ w.heap[g]? = some (.cells cur 63 (0, 0)) ∧ us.length * 2 ≤ cur.size ∧
    ∀ j (h : j < us.length), cur[j * 2 + 1]? = some us[j].val ∧ (j < i → cur[j * 2]? = some (.int .i64 (offP m us j))) ∧ us[j].g ≠ g
  txs : ∀ j (h : j < us.length), base ≤ us[j].g ∧ us[j].g < w.heap.size ∧ (i ≤ j → ∃ cj, w.heap[us[j].g]? = some (.cells cj 9 (0, 0)) ∧ us[j].tx.length ≤ cj.size) ∧ (j < i → Lies w (some ⟨us[j].g, 0, none⟩) ((List.range us[j].tx.length).map fun t => mark (offP m us j + 1 + t)))
  dist : ∀ j k (hj : j < us.length) (hk : k < us.length), j < k → us[j].g ≠ us[k].g

theorem MP.below {w w' : World} {a : Option Addr} {us : List PlX} {m i base : Nat} (h : MP w a us m i base) (hb : Below w.heap.size w w') : MP w' a us m i base :=
  ⟨fun hne => by
    obtain ⟨g, cur, e, h1, h2, h3, h4⟩ := h.arr hne
    exact ⟨g, cur, e, h1, (hb.block _ (lt_of_block h2)).trans h2, h3, h4⟩, fun j hj => by
    obtain ⟨h1, h2, h3, h4⟩ := h.txs j hj
    exact ⟨h1, by have := hb.size; omega, fun hle => by
      obtain ⟨cj, h5, h6⟩ := h3 hle
      exact ⟨cj, (hb.block _ h2).trans h5, h6⟩, fun hlt => (h4 hlt).below hb⟩, h.dist⟩

theorem MP.of_pl {b9 : Nat} {w1 : World} {us : List PlX} {R : Nat → Prop} {V : World} {va : Option Addr} {vc m : Nat} (h : PlI b9 w1 us R V va vc) : MP V va us m 0 w1.heap.size := by
  refine ⟨fun hne => ?_, fun j hj => ?_, h.dist⟩
  · rcases h.row.2 with ⟨_, e⟩ | ⟨g, cap, cur, e, hb, hg, hn, _, hs, ht⟩
    · exact absurd (List.length_eq_zero_iff.1 e) hne
    · simp only [Value.slice.injEq] at e
      obtain ⟨e1, _, _⟩ := e
      refine ⟨g, cur, e1, hb, hg, by rw [hs]; exact Nat.mul_le_mul_right 2 hn, fun j hj => ⟨?_, fun hlt => by omega, fun e => ?_⟩⟩
      · have h1 : (us.flatMap PlX.cells)[j * 2 + 1]? = some us[j].val := flat_get us j hj
        rw [← ht, List.getElem?_take, if_pos (by omega), Array.getElem?_toList] at h1
        exact h1
      · exact (h.inner j hj).2.1 (by rw [e1, e]; rfl)
  · obtain ⟨h1, _, _, _⟩ := h.inner j hj
    rcases h1.2 with ⟨e, _⟩ | ⟨g, cap, cur, e, hb, hg, hn, _, hs, _⟩
    · simp [PlX.val] at e
    · simp only [PlX.val, Value.slice.injEq, Option.some.injEq, Addr.mk.injEq] at e
      obtain ⟨⟨e1, _⟩, _, _⟩ := e
      rw [← e1] at hb hg
      exact ⟨hb, lt_of_block hg, fun _ => ⟨cur, hg, by omega⟩, fun hlt => by omega⟩

set_option maxRecDepth 100000 in
set_option maxHeartbeats 2000000 in
theorem markPlaceS_any (us : List PlX) (n : Nat) (hnu : n = us.length) (a : Option Addr) (cap m base : Nat) (w : World) (hn : n ≤ 100) (hL : ∀ j (h : j < us.length), (us[j]).tx.length ≤ 100) (hm : 0 < m) (hm2 : m ≤ 100) (hbase : base ≤ w.heap.size) (hmp : MP w a us m 0 base) :
    Calls Try.prog 32 #[.slice a n cap, .int .i64 m] w fun e w' => e = .returned (.int .i64 (offP m us n)) ∧ Below base w w' ∧ MP w' a us m n base := by
  have HMP := Lib.hid hmp
  have HNN := Lib.hid hnu
  have HL := Lib.hid hL
  clear hmp hnu hL
  go_enter Try.func32, Try.ntmps32
  go_wp2_with fail
  go_loopw [1, 5] (fun mv iv wr => ∃ k : Nat, k ≤ n ∧ iv = .int .i64 k ∧ mv = .int .i64 (offP m us k) ∧ MP wr a us m k base ∧ Below base w wr) (fun _ iv _ => n - (intOf iv).toNat)
  case atStart => exact ⟨0, Nat.zero_le _, rfl, by rw [offP_zero], HMP.out, Below.refl _ _⟩
  case round =>
    obtain ⟨k, hk, rfl, rfl, hm1, hB⟩ := hrel
    have HM1 := Lib.hid hm1
    have HB := Lib.hid hB
    have hszr := hB.size
    clear hB
    by_cases hlt : k < n
    · have hku : k < us.length := by rw [← HNN.out]; exact hlt
      have hne : us ≠ [] := fun e => by rw [e] at hku; simp at hku
      obtain ⟨g, cur, e, hgb, hg, hgs, hj⟩ := hm1.arr hne
      subst e
      obtain ⟨hb2, _, hcj0, _⟩ := hm1.txs k hku
      obtain ⟨cj, hcj, hcs⟩ := hcj0 (Nat.le_refl _)
      obtain ⟨hv, _, hgne⟩ := hj k hku
      have HJ := Lib.hid hj
      have htl := HL.out k hku
      obtain ⟨x, hx⟩ : ∃ x, x = us[k] := ⟨_, rfl⟩
      rw [← hx] at hb2 hcj hcs hv hgne htl
      clear hcj0
      have HX := Lib.hid hx
      have hoff : offP m us k ≤ 20000 := by
        have := offP_le m us 100 HL.out k (by omega)
        have h2 : k * (100 + 1) ≤ 100 * (100 + 1) := Nat.mul_le_mul_right _ (by omega)
        omega
      have hog := offP_ge m us k
      have HSU := Lib.hid (offP_succ m us k hku)
      obtain ⟨o, ho⟩ : ∃ o, o = offP m us k := ⟨_, rfl⟩
      rw [← ho] at hoff hog HSU ⊢
      have HO := Lib.hid ho
      have hks : k * 2 < cur.size := by have := HNN.out; omega
      have hks1 : k * 2 + 1 < cur.size := by have := HNN.out; omega
      have c0 := Lib.cell_of_heap hg (j := k * 2)
      have c1 := Lib.cell_of_heap hg (j := k * 2 + 1)
      rw [Array.getElem?_eq_getElem hks] at c0
      rw [hv] at c1
      have f0 := Lib.frozen_of_heap hg (k * 2)
      obtain ⟨z, hz⟩ : ∃ z, z = cur[k * 2] := ⟨_, rfl⟩
      rw [← hz] at c0
      have hgl : g < wr.heap.size := lt_of_block hg
      obtain ⟨W1, hW1⟩ : ∃ W1, W1 = wr.setCell ⟨g, k * 2, none⟩ (.int .i64 o) := ⟨_, rfl⟩
      have hg1 : W1.heap[g]? = some (.cells (cur.setIfInBounds (k * 2) (.int .i64 o)) 63 (0, 0)) := by rw [hW1]; exact heap_setCell_same hg _
      have hot : ∀ b, b ≠ g → W1.heap[b]? = wr.heap[b]? := fun b hb => by rw [hW1]; exact Below.heap_setCell _ _ _ _ hb
      have hsz1 : W1.heap.size = wr.heap.size := by rw [hW1]; simp
      have hcj1 : W1.heap[x.g]? = some (.cells cj 9 (0, 0)) := (hot _ hgne).trans hcj
      have c1' : W1.cell? ⟨g, k * 2 + 1, none⟩ = some x.val := by
        rw [Lib.cell_of_heap hg1, Array.getElem?_setIfInBounds, if_neg (by omega)]
        exact hv
      rw [PlX.val] at c1 c1'
      have HW1 := Lib.hid hW1
      have HG1 := Lib.hid hg1
      have HOT := Lib.hid hot
      have hBW : Below base wr W1 := by rw [hW1]; exact (Below.refl base wr).setCell (p := ⟨g, k * 2, none⟩) hgb _
      have HBW := Lib.hid hBW
      have HMK := Lib.hid (markStringS_any x.tx.length x.g x.cap (o + 1) cj W1 (by omega) (by omega) (by omega) hcj1 hcs)
      have hw1 : IntKind.i64.wrap ((o : Int) + 1) = ((o + 1 : Nat) : Int) := by rw [IntWalk.i64_in _ (by omega)]; omega
      obtain ⟨tn, htn⟩ : ∃ tn, tn = x.tx.length := ⟨_, rfl⟩
      rw [← hx, ← htn] at HSU
      rw [← htn] at c1 c1' HMK
      have HTN := Lib.hid htn
      have HCJ := Lib.hid hcs
      clear hm1 hj hcj hcs hv hgne hcj1 hot hg1 hW1 hBW htn ho hx hz hg
      go_wp2_with fail
      rw [← HW1.out]
      have e1 : ((o + 1 : Nat) : Int) = (o : Int) + 1 := by omega
      rw [e1] at HMK
      refine HMK.out.mono ?_
      rintro e w2 ⟨rfl, hg2, hl2⟩
      have HL2 := Lib.hid hl2
      have hs2 := hg2.size
      have keep2 : ∀ b, b < wr.heap.size → b ≠ g → b ≠ x.g → w2.heap[b]? = wr.heap[b]? := fun b h1 h2 h3 => by
        rw [hg2.block b (by omega) (fun e => h3 (by cases e; rfl)), HOT.out b h2]
      have hxg : x.g ≠ g := by rw [HX.out]; exact (HJ.out k hku).2.2
      have NX : MP w2 (some ⟨g, 0, none⟩) us m (k + 1) base := by
        refine ⟨fun _ => ⟨g, cur.setIfInBounds (k * 2) (.int .i64 o), rfl, hgb, (hg2.block g (by omega) (fun e => hxg (by cases e; rfl))).trans HG1.out, by simpa using hgs, fun j hj => ?_⟩, fun j hj => ?_, HM1.out.dist⟩
        · obtain ⟨a1, a2, a3⟩ := HJ.out j hj
          refine ⟨by rw [Array.getElem?_setIfInBounds, if_neg (by omega)]; exact a1, fun hlt2 => ?_, a3⟩
          by_cases e : j = k
          · subst e
            rw [Array.getElem?_setIfInBounds, if_pos rfl, if_pos hks, HO.out]
          · rw [Array.getElem?_setIfInBounds, if_neg (by omega)]
            exact a2 (by omega)
        · obtain ⟨a1, a2, a3, a4⟩ := HM1.out.txs j hj
          by_cases e : j = k
          · subst e
            refine ⟨a1, by omega, fun h => by omega, fun _ => ?_⟩
            rw [← HX.out, ← HTN.out, ← HO.out]
            exact HL2.out
          · have hne2 : us[j].g ≠ x.g := by
              rw [HX.out]
              by_cases h : j < k
              · exact HM1.out.dist j k hj hku h
              · exact fun h2 => HM1.out.dist k j hku hj (by omega) h2.symm
            have hk2 := keep2 us[j].g a2 (HJ.out j hj).2.2 hne2
            refine ⟨a1, by omega, fun h => ?_, fun h => ?_⟩
            · obtain ⟨cj2, h5, h6⟩ := a3 (by omega)
              exact ⟨cj2, hk2.trans h5, h6⟩
            · have h5 := a4 (by omega)
              intro t ht
              obtain ⟨g', e', hc⟩ := h5 t ht
              cases e'
              exact ⟨us[j].g, rfl, (World.cell?_of_block (w := wr) (by exact hk2)).trans hc⟩
      have HNX := Lib.hid NX
      have HBB : Hid (Below base w w2) := Lib.hid ((HB.out.trans HBW.out).trans ((Below.refl base W1).grown hg2 (by omega) (fun q e => by cases e; exact hb2)))
      clear hl2 hg2 keep2 NX
      go_wp2_with fail
      go_roundw
      case rel => exact ⟨k + 1, by omega, by go_num, by rw [HSU.out]; simp, HNX.out, HBB.out⟩
      case measure => simp [intOf]; omega
    · have hkn : k = n := by omega
      subst hkn
      go_wp2_with fail
      go_ret
      exact ⟨rfl, HB.out, HM1.out⟩

set_option maxRecDepth 100000 in
set_option maxHeartbeats 2000000 in
theorem heldPlaceS_any (us : List PlX) (n : Nat) (hnu : n = us.length) (a : Option Addr) (cap m base : Nat) (w : World) (hn : n ≤ 100) (hL : ∀ j (h : j < us.length), (us[j]).tx.length ≤ 100) (hm : 0 < m) (hm2 : m ≤ 100) (hmp : MP w a us m n base) :
    Calls Try.prog 33 #[.slice a n cap, .int .i64 m] w (Ans (.int .i64 (offP m us n)) w) := by
  have HMP := Lib.hid hmp
  have HNN := Lib.hid hnu
  have HL := Lib.hid hL
  clear hmp hnu hL
  go_enter Try.func33, Try.ntmps33
  go_wp2_with fail
  go_loopw [1, 5] (fun mv iv wr => ∃ k : Nat, k ≤ n ∧ iv = .int .i64 k ∧ mv = .int .i64 (offP m us k) ∧ Below w.heap.size w wr) (fun _ iv _ => n - (intOf iv).toNat)
  case atStart => exact ⟨0, Nat.zero_le _, rfl, by rw [offP_zero], Below.refl _ _⟩
  case round =>
    obtain ⟨k, hk, rfl, rfl, hB⟩ := hrel
    have HB := Lib.hid hB
    by_cases hlt : k < n
    · have hku : k < us.length := by rw [← HNN.out]; exact hlt
      have hne : us ≠ [] := fun e => by rw [e] at hku; simp at hku
      have hm1 := HMP.out.below hB
      obtain ⟨g, cur, e, hgb, hg, hgs, hj⟩ := hm1.arr hne
      subst e
      obtain ⟨_, _, _, hl⟩ := hm1.txs k hku
      obtain ⟨hv, hnd, hgne⟩ := hj k hku
      have hnd' := hnd hlt
      have hl' := hl hlt
      have htl := HL.out k hku
      obtain ⟨x, hx⟩ : ∃ x, x = us[k] := ⟨_, rfl⟩
      rw [← hx] at hv htl hl'
      have HX := Lib.hid hx
      have hoff : offP m us k ≤ 20000 := by
        have := offP_le m us 100 HL.out k (by omega)
        have h2 : k * (100 + 1) ≤ 100 * (100 + 1) := Nat.mul_le_mul_right _ (by omega)
        omega
      have hog := offP_ge m us k
      have hsu := offP_succ m us k hku
      rw [← hx] at hsu
      obtain ⟨o, ho⟩ : ∃ o, o = offP m us k := ⟨_, rfl⟩
      rw [← ho] at hoff hog hsu hnd' hl' ⊢
      have c0 := Lib.cell_of_heap hg (j := k * 2)
      have c1 := Lib.cell_of_heap hg (j := k * 2 + 1)
      rw [hnd'] at c0
      rw [hv, PlX.val] at c1
      obtain ⟨tn, htn⟩ : ∃ tn, tn = x.tx.length := ⟨_, rfl⟩
      rw [← htn] at hsu c1 hl' htl
      have HSU := Lib.hid hsu
      have HH := Lib.hid (heldStringS_any tn (some ⟨x.g, 0, none⟩) x.cap (o + 1) wr (by omega) (by omega) (by omega) hl')
      have e1 : ((o + 1 : Nat) : Int) = (o : Int) + 1 := by omega
      rw [e1] at HH
      have hw1 : IntKind.i64.wrap ((o : Int) + 1) = (o : Int) + 1 := IntWalk.i64_in _ (by omega)
      clear hm1 hj hv hnd hl hl' hgne hB ho hx htn hg hnd' e1 hsu
      go_wp2_with fail
      refine HH.out.mono ?_
      rintro e w2 ⟨rfl, hB2⟩
      have HB2 := Lib.hid (below_step HB.out hB2)
      have hneg : ¬ (((o + 1 + tn : Nat) : Int) < 0) := by omega
      clear hB2
      go_wp2_with fail
      go_roundw
      case rel => exact ⟨k + 1, by omega, by go_num, by rw [HSU.out]; simp, HB2.out⟩
      case measure => simp [intOf]; omega
    · have hkn : k = n := by omega
      subst hkn
      clear hB
      go_wp2_with fail
      go_ret
      exact ⟨rfl, HB.out⟩

set_option maxRecDepth 100000 in
set_option maxHeartbeats 1000000 in
theorem eqPlace_any (nd : Nat) (tx : List (List UInt8)) (g g' c c' : Nat) (w : World) (ht : tx.length ≤ 1000) (h1 : Lies w (some ⟨g, 0, none⟩) tx) (h2 : Lies w (some ⟨g', 0, none⟩) tx) :
    Calls Try.prog 87 #[.agg #[.int .i64 nd, .slice (some ⟨g, 0, none⟩) tx.length c], .agg #[.int .i64 nd, .slice (some ⟨g', 0, none⟩) tx.length c']] w (Ans (.bool true) w) := by
  obtain ⟨n, hn⟩ : ∃ n, n = tx.length := ⟨_, rfl⟩
  rw [← hn] at ht ⊢
  have HE : Hid (∀ W, Below w.heap.size w W → Calls Try.prog 42 #[.slice (some ⟨g, 0, none⟩) n c, .slice (some ⟨g', 0, none⟩) n c'] W (Ans (.bool true) W)) := Lib.hid (fun W hb => by
    have := eqStringS_any tx (some ⟨g, 0, none⟩) (some ⟨g', 0, none⟩) c c' W (by omega) (h1.below hb) (h2.below hb)
    rw [← hn] at this
    exact this)
  have HB : Hid (Below w.heap.size w ((w.alloc (.cells #[.int .i64 nd, .slice (some ⟨g, 0, none⟩) n c] 63 (0, 0))).alloc (.cells #[.int .i64 nd, .slice (some ⟨g', 0, none⟩) n c'] 63 (0, 0)))) := Lib.hid (((Below.refl _ _).alloc (Nat.le_refl _) _).alloc (by simp) _)
  clear h1 h2 hn
  go_enter Try.func87, Try.ntmps87
  go_wp2_with fail
  refine (HE.out _ HB.out).mono ?_
  rintro e w2 ⟨rfl, hB2⟩
  go_wp2_with fail
  go_ret
  exact ⟨rfl, below_step HB.out hB2⟩

theorem plE.get {w : World} {P : Nat → Prop} {a : Option Addr} {ks : List (Nat × List (List UInt8))} (h : Rd plE w P a ks) (k : Nat) (hk : k < ks.length) :
    ∃ g g' c, a = some ⟨g, 0, none⟩ ∧ w.cell? ⟨g, k * 2, none⟩ = some (.int .i64 (ks[k]).1) ∧ w.cell? ⟨g, k * 2 + 1, none⟩ = some (.slice (some ⟨g', 0, none⟩) (ks[k]).2.length c) ∧ Lies w (some ⟨g', 0, none⟩) (ks[k]).2 := by
  obtain ⟨g, cs, e, _, hc, g', c, rfl, _, _, hl⟩ := h k hk
  have h0 := hc 0 (show 0 < 2 by decide)
  have h1 := hc 1 (show 1 < 2 by decide)
  exact ⟨g, g', c, e, by simpa [plE] using h0, by simpa [plE] using h1, fun j hj => ⟨g', rfl, hl j hj⟩⟩

set_option maxRecDepth 100000 in
set_option maxHeartbeats 2000000 in
theorem eqPlaceS_any (ks : List (Nat × List (List UInt8))) (n : Nat) (hnk : n = ks.length) (a b : Option Addr) (ca cb : Nat) (w : World) (hn : n ≤ 100) (hL : ∀ j (h : j < ks.length), (ks[j]).2.length ≤ 100) (ha : Rd plE w (fun _ => True) a ks) (hb : Rd plE w (fun _ => True) b ks) :
    Calls Try.prog 31 #[.slice a n ca, .slice b n cb] w (Ans (.bool true) w) := by
  have HA := Lib.hid ha
  have HBB := Lib.hid hb
  have HNN := Lib.hid hnk
  have HL := Lib.hid hL
  clear ha hb hnk hL
  go_enter Try.func31, Try.ntmps31
  go_wp2_with fail
  go_loopw [5] (fun i wr => ∃ k : Nat, k ≤ n ∧ i = .int .i64 k ∧ Below w.heap.size w wr) (fun i _ => n - (intOf i).toNat)
  case atStart => exact ⟨0, Nat.zero_le _, rfl, Below.refl _ _⟩
  case round =>
    obtain ⟨k, hk, rfl, hB⟩ := hrel
    by_cases hlt : k < n
    · have hku : k < ks.length := by rw [← HNN.out]; exact hlt
      obtain ⟨g, g1, c, e, a0, a1, hl1⟩ := plE.get (HA.out.below (by decide) hB) k hku
      subst e
      obtain ⟨g', g2, c', e, b0, b1, hl2⟩ := plE.get (HBB.out.below (by decide) hB) k hku
      subst e
      have htl := HL.out k hku
      obtain ⟨nd, hnd⟩ : ∃ nd, nd = (ks[k]).1 := ⟨_, rfl⟩
      obtain ⟨tx, htx⟩ : ∃ tx, tx = (ks[k]).2 := ⟨_, rfl⟩
      rw [← hnd] at a0 b0
      rw [← htx] at a1 b1 hl1 hl2 htl
      have HQ := Lib.hid (eqPlace_any nd tx g1 g2 c c' wr.drew (by omega) (hl1.below (Below.refl _ _).drew) (hl2.below (Below.refl _ _).drew))
      obtain ⟨tn, htn⟩ : ∃ tn, tn = tx.length := ⟨_, rfl⟩
      rw [← htn] at a1 b1 HQ
      have HB := Lib.hid hB
      have k0 : (0 : Int) ≤ k := by omega
      clear hl1 hl2 hnd htx htn htl hB
      go_wp2_with fail
      go_region_with ((go_at_call 87; refine HQ.out.mono ?_; rintro e w1 ⟨rfl, hb1⟩))
      all_goals
        go_wp2_with fail
        go_roundw
        case rel => exact ⟨k + 1, by omega, by go_num, HB.out.trans ((Below.refl _ _).drew.trans (hb1.mono HB.out.size))⟩
        case measure => simp [intOf]; omega
    · go_wp2_with fail
      go_ret
      exact ⟨rfl, hB⟩
end Go.Proofs.Ytlmedcmheninaaa
