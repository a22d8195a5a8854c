/- The model sorts trees, and writes them. -/
import Derived.Test.YtapobhnhnldlkaaQuadM
import Derived.Test.YtapobhnhnldlkaaMatS
import Derived.Test.YtapobhnhnldlkaaOrdS
import Derived.Test.YtapobhnhnldlkaaKMirrorS
import Derived.Test.YtapobhnhnldlkaaKStrT
import Derived.Deep.AppendLies
import Derived.Deep.CutRange
import Derived.Deep.CutBlock
namespace Go.Proofs.Ytapobhnhnldlkaa
open Go.RowKit

section
variable {P : Program} (w : World)
/-- An append onto a row that has been made, of nothing too, at a step of a region. -/
theorem step_append_any {ops : Array Oper} {o : Oper} {a : Act} {K : Act → World → Prop} {Q : Exit → Act → World → Prop} {E : Prop} (hgd : o.guard = none) (s x : Operand) (t : TypeId)
    (ho : o.op = .call { callee := .builtin .append, args := #[s, x], argTypes := #[t, t] })
    (base : Nat) (e : TypeId) (i : TypeInfo) (z : Value) (size bytes : Nat) (ht : P.underlying t = some (.slice e)) (hi : P.info? e = some i) (hz : i.zero = some z)
    (hsize : i.size = size) (hby : i.bytes = bytes) (hzs : z.cells.size = size) (hsz : 0 < size)
    (v : Value) (n : Nat) (xs : List Value) (hs : a.eval s = v) (hown : w.ownsRow base e size v n xs) (hv : v ≠ .slice none 0 0)
    (ad : Addr) (m c : Nat) (news : List Value) (hx : a.eval x = .slice (some ad) m c) (hl : news.length = m * size) (hnews : ∀ j u, news[j]? = some u → w.cell? (ad.add j) = some u) (h1 : ∀ u ∈ news, u.oneCell' = true)
    (N : Nat) (ys : List Value) (hN : n + m = N) (hys : xs ++ news = ys)
    (h63 : N ≤ maxLen) (hbytes : N * bytes ≤ 140737488355328) (hbase : base ≤ w.heap.size)
    (h : ∀ g cap w', w'.ownsRow base e size (.slice (some ⟨g, 0, none⟩) N cap) N ys → w.grownBy w' v.ownBlock → K (a.put o.dst (.slice (some ⟨g, 0, none⟩) N cap)) w') :
    if Region.wanted o (yielded ops a.tmps) = true then Oper.wp P o a w K Q else E := by
  have hw : Region.wanted o (yielded ops a.tmps) = true := by simp [Region.wanted, hgd]
  rw [if_pos hw]
  subst hN
  subst hys
  obtain ⟨v', w', hr, h2, h3, h4, _⟩ := run_append_own_at (P := P) w base t o.type e i z size bytes ht hi hz hsize hby hzs hsz v n xs hown ad m c news hl hnews h1 h63 hbytes hbase
  obtain ⟨g, cap, rfl, _, _, _⟩ := owns_some h2 (fun e => hv (h4.1 e).1)
  unfold Oper.wp execOp
  simp only [ho, resolve, invoke, builtin, Sem.run_bind, Sem.run_pure, Result.andThen_ok, List.map_toArray, List.map_cons, List.map_nil, hs, hx, hr]
  exact h g cap w' h2 h3
end

/-- Cells that are these elements, one behind the other. -/
def CellsOf {α : Type} (E : Elt α) (w : World) (P : Nat → Prop) (us : List α) (xs : List Value) : Prop :=
  xs.length = us.length * E.size ∧ ∀ q (hq : q < us.length), ∃ cs, (∀ j, j < E.size → xs[q * E.size + j]? = cs[j]?) ∧ E.R w P us[q] cs

theorem CellsOf.one {α : Type} {E : Elt α} {w : World} {P : Nat → Prop} {u : α} {cs : List Value} (h : E.R w P u cs) : CellsOf E w P [u] cs :=
  ⟨by rw [E.len h]; simp, fun q hq => by
    have : q = 0 := by simpa using hq
    subst this
    exact ⟨cs, fun j _ => by simp, h⟩⟩

theorem CellsOf.append {α : Type} {E : Elt α} {w : World} {P : Nat → Prop} {us vs : List α} {xs ys : List Value} (h : CellsOf E w P us xs) (k : CellsOf E w P vs ys) : CellsOf E w P (us ++ vs) (xs ++ ys) :=
  ⟨by rw [List.length_append, List.length_append, h.1, k.1, Nat.add_mul], fun q hq => by
    by_cases hlt : q < us.length
    · obtain ⟨cs, e1, e2⟩ := h.2 q hlt
      refine ⟨cs, fun j hj => ?_, by rw [List.getElem_append_left hlt]; exact e2⟩
      rw [List.getElem?_append_left]
      · exact e1 j hj
      · have := Nat.mul_le_mul_right E.size hlt
        rw [Nat.succ_mul] at this
        rw [h.1]; omega
    · have hq2 : q - us.length < vs.length := by rw [List.length_append] at hq; omega
      obtain ⟨cs, e1, e2⟩ := k.2 (q - us.length) hq2
      refine ⟨cs, fun j hj => ?_, by rw [List.getElem_append_right (by omega)]; exact e2⟩
      have hm : us.length * E.size ≤ q * E.size := Nat.mul_le_mul_right _ (by omega)
      rw [List.getElem?_append_right (by rw [h.1]; omega), ← e1 j hj, h.1, Nat.sub_mul]
      congr 1; omega⟩

theorem CellsOf.piece {α : Type} {E : Elt α} {w : World} {P : Nat → Prop} {g : Nat} {us : List α} (h : Rd E w P (some ⟨g, 0, none⟩) us) (h0 : 0 < E.size) (i m : Nat) (him : i + m ≤ us.length) :
    CellsOf E w P ((us.drop i).take m) (rowCells w g (i * E.size) (m * E.size)) ∧ (∀ j u, (rowCells w g (i * E.size) (m * E.size))[j]? = some u → w.cell? ⟨g, i * E.size + j, none⟩ = some u) ∧ ∀ u ∈ rowCells w g (i * E.size) (m * E.size), u.oneCell' = true := by
  obtain ⟨c1, c2, c3⟩ := h.cells h0 i m him
  refine ⟨⟨?_, fun q hq => ?_⟩, c1, c2⟩
  · rw [rowCells_length, List.length_take, List.length_drop]
    congr 1; omega
  · rw [List.length_take, List.length_drop] at hq
    obtain ⟨cs, e1, e2⟩ := c3 q (by omega)
    exact ⟨cs, e1, by rw [List.getElem_take, List.getElem_drop]; exact e2⟩

theorem trS.get {w : World} {P : Nat → Prop} {a : Option Addr} {ts : List T} (h : Rd trS w P a ts) (k : Nat) (hk : k < ts.length) :
    ∃ g lb sa sn sc, a = some ⟨g, 0, none⟩ ∧ P g ∧ w.cell? ⟨g, k * 2, none⟩ = some (.string lb) ∧ w.cell? ⟨g, k * 2 + 1, none⟩ = some (.slice sa sn sc) ∧ ts[k].wf ∧ RepS w P ts[k] (.string lb) (.slice sa sn sc) := by
  obtain ⟨g, cs, e, hg, hc, lb, sa, sn, sc, rfl, hw, hr⟩ := h k hk
  exact ⟨g, lb, sa, sn, sc, e, hg, hc 0 (by decide), hc 1 (by decide), hw, hr⟩

/-- Trees are handed back, in a row that is new. -/
def NewTrs (us : List T) (w : World) (e : Ending) (w' : World) : Prop :=
  Below w.heap.size w w' ∧ ∃ g cap, e = .returned (.slice (some ⟨g, 0, none⟩) us.length cap) ∧ us.length ≤ cap ∧ cap ≤ 9223372036854775807 ∧ Rd trS w' (fun _ => True) (some ⟨g, 0, none⟩) us

/-- What 'l2Sort' answers. -/
def SortedTrs (ts : List T) (w : World) (e : Ending) (w' : World) : Prop := ∃ us, AscT us ∧ us.Perm ts ∧ NewTrs us w e w'

def SortRel (ts : List T) (n : Nat) (w : World) (ov iv : Value) (wr : World) : Prop :=
  ∃ (i : Nat) (us : List T) (gq cq : Nat), i ≤ n ∧ us.length = i ∧ iv = .int .i64 i ∧ ov = .slice (some ⟨gq, 0, none⟩) i cq ∧ i ≤ cq ∧ cq ≤ 9223372036854775807 ∧ AscT us ∧ us.Perm (ts.take i) ∧ Rd trS wr (fun _ => True) (some ⟨gq, 0, none⟩) us ∧ Below w.heap.size w wr

set_option maxRecDepth 100000 in
set_option maxHeartbeats 4000000 in
theorem l2Sort_any (ts : List T) (n : Nat) (hnt : n = ts.length) (ga cap : Nat) (w : World) (hn : n ≤ 100000) (hts : ∀ t ∈ ts, t.wf ∧ t.leaves ≤ 1000 ∧ t.nodes ≤ 1000) (hnd : ts.Nodup) (hr : Rd trS w (fun _ => True) (some ⟨ga, 0, none⟩) ts) :
    Calls Try.prog 33 #[.slice (some ⟨ga, 0, none⟩) n cap] w (SortedTrs ts w) := by
  have HTS := Lib.hid hts
  have HND := Lib.hid hnd
  have HR := Lib.hid hr
  have HNT := Lib.hid hnt
  clear hts hnd hr hnt
  obtain ⟨i0, hi0, hzz, hzs, hzb⟩ := info_parts info42
  go_enter Try.func33, Try.ntmps33
  go_wp2_with fail
  go_loopw [3, 4] (fun ov iv wr => SortRel ts n w ov iv wr) (fun _ iv _ => n - (intOf iv).toNat)
  case atStart =>
    exact ⟨0, [], w.heap.size, 0, Nat.zero_le _, rfl, rfl, rfl, Nat.le_refl _, by omega, List.Pairwise.nil, by simp, Rd.nil, (Below.refl _ _).alloc (Nat.le_refl _) _⟩
  case round =>
    obtain ⟨i, us, gq, cq, hi, hul, rfl, rfl, hc1, hc2, hasc, hperm, hru, hB⟩ := hrel
    obtain ⟨wo, rfl⟩ : ∃ wo : World, wo = wr := ⟨_, rfl⟩
    have HUL := Lib.hid hul
    have HASC := Lib.hid hasc
    have HPERM := Lib.hid hperm
    have HRU := Lib.hid hru
    have HB := Lib.hid hB
    clear hul hasc hperm hru hB
    by_cases hlt : i < n
    · have hltt : i < ts.length := by rw [← HNT.out]; exact hlt
      obtain ⟨ga', lb, sa, sn, sc, ega, _, d1, d2, hwt, hrt⟩ := trS.get (HR.out.below (by decide) HB.out) i hltt
      cases ega
      have hmt := HTS.out (ts[i]) (List.getElem_mem hltt)
      have HTI : Hid (∀ u ∈ us, u.wf ∧ u.leaves ≤ 1000 ∧ u.nodes ≤ 1000 ∧ ordT (ts[i]) u ≠ 0) := Lib.hid (fun u hu => by
        have hm := HPERM.out.mem_iff.1 hu
        have hm2 := HTS.out u (List.mem_of_mem_take hm)
        refine ⟨hm2.1, hm2.2.1, hm2.2.2, fun h0 => ?_⟩
        have e := ordT_zero hmt.1 hm2.1 h0
        obtain ⟨j, hj, ej⟩ := List.getElem_of_mem hm
        rw [List.length_take] at hj
        rw [List.getElem_take] at ej
        have := (List.pairwise_iff_getElem.1 HND.out) j i (by omega) hltt (by omega)
        exact this (by rw [ej, e]))
      obtain ⟨t, ht⟩ : ∃ t, t = ts[i] := ⟨_, rfl⟩
      rw [← ht] at hwt hrt hmt HTI
      have HTE := Lib.hid ht
      have HRT := Lib.hid hrt
      have HO : Hid (∀ (W : World), Below wo.heap.size wo W → ∀ k (h : k < us.length), ∃ yb ya yn yc, W.cell? ⟨gq, k * 2, none⟩ = some (.string yb) ∧ W.cell? ⟨gq, k * 2 + 1, none⟩ = some (.slice ya yn yc) ∧
          ∀ W', Below W.heap.size W W' → Calls Try.prog 35 #[.agg #[.string lb, .slice sa sn sc], .agg #[.string yb, .slice ya yn yc]] W' (Ans (.int .i64 (ordT t us[k])) W')) := Lib.hid (fun W hb k h => by
        obtain ⟨g', yb, ya, yn, yc, e, _, y1, y2, hyw, hyr⟩ := trS.get (HRU.out.below (by decide) hb) k h
        cases e
        have hp := HTI.out (us[k]) (List.getElem_mem h)
        refine ⟨yb, ya, yn, yc, y1, y2, fun W' hB' => ?_⟩
        exact l2Order_any t (us[k]) lb sa sn sc yb ya yn yc W' (fun b => b < W'.heap.size) hwt hmt.2.1 hmt.2.2 hyw hp.2.1 hp.2.2.1 (fun _ h => h) (((HRT.out.below hwt hb).below hwt hB').keep (fun _ _ _ h => h) (fun _ _ h => h) hwt) ((hyr.below hyw hB').keep (fun _ _ _ h => h) (fun _ _ h => h) hyw))
      clear ht hrt
      go_upto_block 2 with fail
      go_cut [5] from 15 to 31 (fun kv wx => ∃ k : Nat, k ≤ i ∧ kv = .int .i64 k ∧ (∀ j (hj : j < us.length), k ≤ j → ordT t us[j] < 0) ∧ (∀ h0 : 0 < k, ∀ h1 : k - 1 < us.length, 0 < ordT t us[k - 1]) ∧ Below wo.heap.size wo wx)
      case first =>
        go_wp2_with fail
        go_loopw [5] (fun kv wx => ∃ k : Nat, k ≤ i ∧ kv = .int .i64 k ∧ (∀ j (hj : j < us.length), k ≤ j → ordT t us[j] < 0) ∧ Below wo.heap.size wo wx) (fun kv _ => (intOf kv).toNat)
        case atStart => exact ⟨i, Nat.le_refl _, rfl, fun j hj h => by have := HUL.out; omega, Below.refl _ _⟩
        case round =>
          obtain ⟨k, hk, rfl, hbef, hBx⟩ := hrel
          have HBEF := Lib.hid hbef
          have HBX := Lib.hid hBx
          have d1' := keep1 hBx d1
          have d2' := keep1 hBx d2
          clear hbef
          cases k with
          | zero =>
            clear hBx
            go_wp2_with fail
            go_quiet (fail)
            go_wp2_with fail
            go_meet
            exact ⟨0, hk, rfl, HBEF.out, fun h0 => by omega, below_drewN HBX.out nq⟩
          | succ k =>
            have hltu : k < us.length := by have := HUL.out; omega
            obtain ⟨yb, ya, yn, yc, y1, y2, hO⟩ := HO.out wr hBx k hltu
            have hp := (HTI.out (us[k]) (List.getElem_mem hltu)).2.2.2
            obtain ⟨z, hz⟩ : ∃ z, z = ordT t us[k] := ⟨_, rfl⟩
            have HZ := Lib.hid hz
            rw [← hz] at hO hp
            have HOZ := Lib.hid hO
            have k0 : (0 : Int) ≤ (k : Int) := by omega
            have k1 : (k : Int) < (i : Int) := by omega
            have hwr : IntKind.i64.wrap (k : Int) = (k : Int) := by rw [IntKind.wrap_i64]; omega
            have hwr2 : IntKind.i64.wrap ((k : Int) + 1 - 1) = (k : Int) := by rw [IntKind.wrap_i64]; omega
            have i0' : (0 : Int) ≤ (i : Int) := by omega
            have hd : decide (0 < k + 1) = true := decide_eq_true (by omega)
            have hd2 : decide ((0 : Int) < (k : Int) + 1) = true := decide_eq_true (by omega)
            clear hO hz hBx
            by_cases hzp : z < 0
            all_goals
              have hzd : decide (z < 0) = decide (z < 0) := rfl
              first | (have hzt : decide (z < 0) = true := decide_eq_true hzp) | (have hzt : decide (z < 0) = false := decide_eq_false hzp)
              clear hzd
              go_wp2_with fail
              go_region_held3 (fun w' => w'.cell? ⟨ga, i * 2, none⟩ = some (.string lb) ∧ w'.cell? ⟨ga, i * 2 + 1, none⟩ = some (.slice sa sn sc) ∧ w'.cell? ⟨gq, k * 2, none⟩ = some (.string yb) ∧ w'.cell? ⟨gq, k * 2 + 1, none⟩ = some (.slice ya yn yc))
                (first | exact ⟨d1', d2', y1, y2⟩ | exact ⟨p1, p2, p3, p4⟩)
                (first
                | (go_at_call 35; refine (HOZ.out _ (Below.refl _ _).drew).mono ?_; rintro e w2 ⟨rfl, hB2⟩; have hB2' : Below wr.heap.size wr w2 := (Below.refl _ _).drew.trans hB2; have p1 := keep1 hB2' d1'; have p2 := keep1 hB2' d2'; have p3 := keep1 hB2' y1; have p4 := keep1 hB2' y2; have HC1 := Lib.hid (below_step HBX.out hB2'); clear hB2 hB2'))
              all_goals
                go_wp2_with fail
                first
                | (go_roundw
                   case rel => exact ⟨k, by omega, by first | rfl | go_num, fun j hj hkj => by
                       by_cases e : j = k
                       · subst e; rw [← HZ.out]; exact hzp
                       · exact HBEF.out j hj (by omega), HC1.out⟩
                   case measure => simp [intOf] <;> omega)
                | (go_meet
                   exact ⟨k + 1, hk, rfl, HBEF.out, fun _ _ => by
                     show 0 < ordT t us[k]
                     rw [← HZ.out]; omega, HC1.out⟩)
      case rest =>
        obtain ⟨k, hk, rfl, hka, hkb, hBc⟩ := hcut
        have HKA := Lib.hid hka
        have HKB := Lib.hid hkb
        have HBC := Lib.hid hBc
        have d1 := keep1 hBc d1
        have d2 := keep1 hBc d2
        have hRU := HRU.out.below (by decide) hBc
        obtain ⟨pA, qA, rA⟩ := CellsOf.piece (hRU.weak (P' := fun b => b < wc.heap.size) (by decide) (fun _ _ h => h)) (by decide) 0 k (by have := HUL.out; omega)
        obtain ⟨pC, qC, rC⟩ := CellsOf.piece (hRU.weak (P' := fun b => b < wc.heap.size) (by decide) (fun _ _ h => h)) (by decide) k (i - k) (by have := HUL.out; omega)
        have hrt := (HRT.out.below hwt hBc).keep (P' := fun b => b < wc.heap.size) (fun _ _ _ h => h) (fun _ _ h => h) hwt
        obtain ⟨xsA, hxsA⟩ : ∃ xsA, xsA = rowCells wc gq (0 * trS.size) (k * trS.size) := ⟨_, rfl⟩
        obtain ⟨xsC, hxsC⟩ : ∃ xsC, xsC = rowCells wc gq (k * trS.size) ((i - k) * trS.size) := ⟨_, rfl⟩
        rw [← hxsA] at pA qA rA
        rw [← hxsC] at pC qC rC
        have XA1 : Hid (xsA.length = k * 2) := Lib.hid (by rw [hxsA, rowCells_length]; rfl)
        have XC1 : Hid (xsC.length = (i - k) * 2) := Lib.hid (by rw [hxsC, rowCells_length]; rfl)
        have XA2 : Hid (∀ j u, xsA[j]? = some u → wc.cell? ((⟨gq, 0, none⟩ : Addr).add j) = some u) := Lib.hid (fun j u hu => by
          have e : (⟨gq, 0, none⟩ : Addr).add j = ⟨gq, j, none⟩ := by unfold Addr.add; split <;> simp_all
          have := qA j u hu
          rw [Nat.zero_mul, Nat.zero_add] at this
          rw [e]; exact this)
        have XA3 := Lib.hid rA
        have XC3 := Lib.hid rC
        have FIN : Hid (∀ (g c : Nat) (W : World), W.ownsRow wc.heap.size 44 2 (.slice (some ⟨g, 0, none⟩) (i + 1) c) (i + 1) ((xsA ++ [.string lb, .slice sa sn sc]) ++ xsC) → Below wc.heap.size wc W → SortRel ts n w (.slice (some ⟨g, 0, none⟩) (i + 1) c) (.int .i64 ((i : Int) + 1)) W) := Lib.hid (fun g c W hown hbW => by
          have hul := HUL.out
          have e1 : (us.take k ++ t :: us.drop k).length = i + 1 := by simp [hul]; omega
          have hcells : CellsOf trS wc (fun b => b < wc.heap.size) (us.take k ++ t :: us.drop k) ((xsA ++ [.string lb, .slice sa sn sc]) ++ xsC) := by
            have h1 : us.take k ++ t :: us.drop k = (us.take k ++ [t]) ++ us.drop k := by simp
            have h2 : (us.drop 0).take k = us.take k := by simp
            have h3 : (us.drop k).take (i - k) = us.drop k := List.take_of_length_le (by rw [List.length_drop]; omega)
            rw [h1]
            rw [h2] at pA
            rw [h3] at pC
            exact (pA.append (CellsOf.one (E := trS) ⟨lb, sa, sn, sc, rfl, hwt, hrt⟩)).append pC
          have hrow : Row trS 44 wc.heap.size (us.take k ++ t :: us.drop k) (.slice (some ⟨g, 0, none⟩) (i + 1) c) ((xsA ++ [.string lb, .slice sa sn sc]) ++ xsC) W :=
            Row.of_old hbW (by rw [e1]; exact hown) (Nat.le_refl _) hcells.2
          obtain ⟨g', c', e, hc3, hc4, _⟩ := owns_some hown (by simp)
          simp only [Value.slice.injEq] at e
          obtain ⟨_, _, rfl⟩ := e
          refine ⟨i + 1, us.take k ++ t :: us.drop k, g, c, by omega, e1, by simp, by simp, hc3, hc4, ?_, ?_, hrow.rd, below_step HB.out (below_step HBC.out hbW)⟩
          · exact AscT.put HASC.out (by omega) (fun j hj h => HKA.out j hj h) (fun h0 => HKB.out h0 (by omega))
          · rw [List.take_succ_eq_append_getElem hltt, ← HTE.out]
            exact perm_put k HPERM.out)
        have k0 : (0 : Int) ≤ (k : Int) := by omega
        have kc : (k : Int) ≤ (cq : Int) := by omega
        have ki : (k : Int) ≤ (i : Int) := by omega
        have ic : (i : Int) ≤ (cq : Int) := by omega
        have kc' : k ≤ cq := by omega
        have i0' : (0 : Int) ≤ (i : Int) := by omega
        have hwi : IntKind.i64.wrap ((i : Int) + 1) = (i : Int) + 1 := by rw [IntKind.wrap_i64]; omega
        by_cases hkc : k = cq
        · have hik : i = k := by omega
          subst hik
          subst hkc
          have XC1' : Hid (xsC.length = 0 * 2) := Lib.hid (by have := XC1.out; omega)
          have XC2 : Hid (∀ j u, xsC[j]? = some u → wc.cell? ((⟨gq, 0, none⟩ : Addr).add j) = some u) := Lib.hid (fun j u hu => by
            have h1 := XC1'.out
            have : xsC = [] := List.length_eq_zero_iff.1 (by omega)
            rw [this] at hu; simp at hu)
          clear pA pC qA qC rA rC hxsA hxsC hrt hRU hBc hka hkb
          go_wp2_with fail
          refine wp_region_held_drew (S := (fun w' => w'.cell? ⟨ga, i * 2, none⟩ = some (.string lb) ∧ w'.cell? ⟨ga, i * 2 + 1, none⟩ = some (.slice sa sn sc))) (by kernel_rfl) (by exact ⟨d1, d2⟩) (fun hHeld => ?_)
          refine wpAnyH_take (i := 1) (oi := { dst := some 33, op := Op.move (Operand.tmp 3), type := 36, pos := "l2_counts.go:213", after := #[], guard := none }) (v := ?_) rfl (by kernel_rfl) (by kernel_rfl) (by kernel_rfl) (fun _ _ _ h => h) (Or.inl ⟨by rfl, ?_⟩) (by assumption) ?_
          rotate_left
          · (intro w hSw; (try dsimp only at hSw); go_simp <;> with_reducible rfl)
          (try simp only [Act.put, List.setIfInBounds_toArray, List.set_cons_zero, List.set_cons_succ])
          refine wpAnyH_take (i := 2) (oi := { dst := some 34, op := Op.move (Operand.tmp 5), type := 3, pos := "l2_counts.go:213", after := #[], guard := none }) (v := ?_) rfl (by kernel_rfl) (by kernel_rfl) (by kernel_rfl) (fun _ _ _ h => h) (Or.inl ⟨by rfl, ?_⟩) (by assumption) ?_
          rotate_left
          · (intro w hSw; (try dsimp only at hSw); go_simp <;> with_reducible rfl)
          (try simp only [Act.put, List.setIfInBounds_toArray, List.set_cons_zero, List.set_cons_succ])
          refine wpAnyH_take (i := 3) (oi := { dst := some 35, op := Op.slice 36 (Operand.tmp 33) none (some (Operand.tmp 34)) none, type := 36, pos := "l2_counts.go:213", after := #[{ on := 1, ground := Ground.data }, { on := 2, ground := Ground.data }], guard := none }) (v := ?_) rfl (by kernel_rfl) (by kernel_rfl) (by kernel_rfl) (fun _ _ _ h => h) (Or.inl ⟨by rfl, ?_⟩) (by assumption) ?_
          rotate_left
          · (intro w hSw; (try dsimp only at hSw); go_simp <;> with_reducible rfl)
          (try simp only [Act.put, List.setIfInBounds_toArray, List.set_cons_zero, List.set_cons_succ])
          refine wpAnyH_take (i := 5) (oi := { dst := some 37, op := Op.move (Operand.tmp 0), type := 36, pos := "l2_counts.go:213", after := #[], guard := none }) (v := ?_) rfl (by kernel_rfl) (by kernel_rfl) (by kernel_rfl) (fun _ _ _ h => h) (Or.inl ⟨by rfl, ?_⟩) (by assumption) ?_
          rotate_left
          · (intro w hSw; (try dsimp only at hSw); go_simp <;> with_reducible rfl)
          (try simp only [Act.put, List.setIfInBounds_toArray, List.set_cons_zero, List.set_cons_succ])
          refine wpAnyH_take (i := 6) (oi := { dst := some 38, op := Op.move (Operand.tmp 4), type := 3, pos := "l2_counts.go:213", after := #[], guard := none }) (v := ?_) rfl (by kernel_rfl) (by kernel_rfl) (by kernel_rfl) (fun _ _ _ h => h) (Or.inl ⟨by rfl, ?_⟩) (by assumption) ?_
          rotate_left
          · (intro w hSw; (try dsimp only at hSw); go_simp <;> with_reducible rfl)
          (try simp only [Act.put, List.setIfInBounds_toArray, List.set_cons_zero, List.set_cons_succ])
          refine wpAnyH_take (i := 7) (oi := { dst := some 39, op := Op.indexAddr 36 (Operand.tmp 37) (Operand.tmp 38), type := 0, pos := "l2_counts.go:213", after := #[{ on := 5, ground := Ground.data }, { on := 6, ground := Ground.data }], guard := none }) (v := ?_) rfl (by kernel_rfl) (by kernel_rfl) (by kernel_rfl) (fun _ _ _ h => h) (Or.inl ⟨by rfl, ?_⟩) (by assumption) ?_
          rotate_left
          · (intro w hSw; (try dsimp only at hSw); go_simp <;> with_reducible rfl)
          (try simp only [Act.put, List.setIfInBounds_toArray, List.set_cons_zero, List.set_cons_succ])
          refine wpAnyH_take (i := 8) (oi := { dst := some 40, op := Op.load 44 (Operand.tmp 39), type := 44, pos := "l2_counts.go:213", after := #[{ on := 7, ground := Ground.data }], guard := none }) (v := ?_) rfl (by kernel_rfl) (by kernel_rfl) (by kernel_rfl) (fun _ _ _ h => h) (Or.inl ⟨by rfl, ?_⟩) (by assumption) ?_
          rotate_left
          · (intro w hSw; (try dsimp only at hSw); go_simp <;> with_reducible rfl)
          (try simp only [Act.put, List.setIfInBounds_toArray, List.set_cons_zero, List.set_cons_succ])
          refine wpAnyH_take (i := 11) (oi := { dst := some 43, op := Op.move (Operand.tmp 3), type := 36, pos := "l2_counts.go:213", after := #[], guard := none }) (v := ?_) rfl (by kernel_rfl) (by kernel_rfl) (by kernel_rfl) (fun _ _ _ h => h) (Or.inl ⟨by rfl, ?_⟩) (by assumption) ?_
          rotate_left
          · (intro w hSw; (try dsimp only at hSw); go_simp <;> with_reducible rfl)
          (try simp only [Act.put, List.setIfInBounds_toArray, List.set_cons_zero, List.set_cons_succ])
          refine wpAnyH_take (i := 12) (oi := { dst := some 44, op := Op.move (Operand.tmp 5), type := 3, pos := "l2_counts.go:213", after := #[], guard := none }) (v := ?_) rfl (by kernel_rfl) (by kernel_rfl) (by kernel_rfl) (fun _ _ _ h => h) (Or.inl ⟨by rfl, ?_⟩) (by assumption) ?_
          rotate_left
          · (intro w hSw; (try dsimp only at hSw); go_simp <;> with_reducible rfl)
          (try simp only [Act.put, List.setIfInBounds_toArray, List.set_cons_zero, List.set_cons_succ])
          refine wpAnyH_take (i := 13) (oi := { dst := some 45, op := Op.slice 36 (Operand.tmp 43) (some (Operand.tmp 44)) none none, type := 36, pos := "l2_counts.go:213", after := #[{ on := 11, ground := Ground.data }, { on := 12, ground := Ground.data }], guard := none }) (v := ?_) rfl (by kernel_rfl) (by kernel_rfl) (by kernel_rfl) (fun _ _ _ h => h) (Or.inl ⟨by rfl, ?_⟩) (by assumption) ?_
          rotate_left
          · (intro w hSw; (try dsimp only at hSw); go_simp <;> with_reducible rfl)
          (try simp only [Act.put, List.setIfInBounds_toArray, List.set_cons_zero, List.set_cons_succ])
          have HBD := Lib.hid (Below.refl wc.heap.size wc).drew
          refine wpAnyH_ready (rs := [0, 9]) (by kernel_rfl) (by simp) ?_
          refine AllReadyH.cons (o := { dst := some 32, op := Op.buildSlice 36 0 #[], type := 36, pos := "l2_counts.go:213", after := #[], guard := none }) rfl ?_ ?_
          · intro K hK
            go_simp
            go_wp2_with fail
            have HB1 := Lib.hid (HBD.out.alloc HBD.out.size (.cells #[] 44 (0, 0)))
            have OW2 : Hid (World.ownsRow (wc.drew.alloc (.cells #[] 44 (0, 0))) wc.heap.size 44 2 (.slice (some ⟨wc.heap.size, 0, none⟩) 0 0) 0 []) := Lib.hid (by exact World.ownsRow_made wc.drew #[] 0 HBD.out.size (by simp [maxLen]) rfl)
            refine hK.out _ _ ?_ (fun hHeld => ?_)
            · exact ⟨keep1 HB1.out d1, keep1 HB1.out d2⟩
            clear hK K
            (try simp only [Act.put, List.setIfInBounds_toArray, List.set_cons_zero, List.set_cons_succ])
            refine wpAnyH_ready (rs := [4, 9]) (by kernel_rfl) (by simp) ?_
            refine AllReadyH.cons (o := { dst := some 36, op := Op.call { callee := Callee.builtin Builtin.append, args := #[Operand.tmp 32, Operand.tmp 35], argTypes := #[36, 36] }, type := 36, pos := "l2_counts.go:213", after := #[{ on := 0, ground := Ground.data }, { on := 3, ground := Ground.data }], guard := none }) rfl ?_ ?_
            · intro K hK
              refine step_append_any _ (by rfl) _ _ 36 (by rfl) wc.heap.size 44 i0 (.agg #[.string ⟨#[]⟩, .slice none 0 0]) 2 40 Try.underlying36 hi0 hzz hzs hzb rfl (by decide) (.slice (some ⟨wc.heap.size, 0, none⟩) 0 0) 0 [] (by rfl) OW2.out (by simp) ⟨gq, 0, none⟩ i i xsA (by rfl) XA1.out (fun j u hu => keep1 HB1.out (XA2.out j u hu)) XA3.out i xsA (by omega) (by rfl) (by unfold maxLen; omega) (by omega) HB1.out.size ?_
              intro g3 c3 w3 hown3 hgr3
              have HB4 := Lib.hid (HB1.out.grown hgr3 HB1.out.size (fun q e => (OW2.out.lt q e).1))
              have OW5 := Lib.hid hown3
              clear hown3 hgr3
              refine hK.out _ _ ?_ (fun hHeld => ?_)
              · exact ⟨keep1 HB4.out d1, keep1 HB4.out d2⟩
              clear hK K
              (try simp only [Act.put, List.setIfInBounds_toArray, List.set_cons_zero, List.set_cons_succ])
              refine wpAnyH_ready (rs := [9]) (by kernel_rfl) (by simp) ?_
              refine AllReadyH.cons (o := { dst := some 41, op := Op.buildSlice 36 1 #[(0, Operand.tmp 40)], type := 36, pos := "l2_counts.go:213", after := #[{ on := 8, ground := Ground.data }], guard := none }) rfl (fun K hK => ?_) AllReadyH.nil
              go_simp
              go_wp2_with fail
              have HB6 := Lib.hid (HB4.out.alloc HB4.out.size (.cells #[.string lb, .slice sa sn sc] 44 (0, 0)))
              have OW7 := Lib.hid (World.ownsRow.alloc OW5.out (.cells #[.string lb, .slice sa sn sc] 44 (0, 0)))
              have BX8 : Hid ((w3.alloc (.cells #[.string lb, .slice sa sn sc] 44 (0, 0))).heap[w3.heap.size]? = some (.cells #[.string lb, .slice sa sn sc] 44 (0, 0))) := Lib.hid (by exact heap_alloc_new w3 _)
              refine hK.out _ _ ?_ (fun hHeld => ?_)
              · exact ⟨keep1 HB6.out d1, keep1 HB6.out d2⟩
              clear hK K
              (try simp only [Act.put, List.setIfInBounds_toArray, List.set_cons_zero, List.set_cons_succ])
              refine wpAnyH_ready (rs := [10]) (by kernel_rfl) (by simp) ?_
              refine AllReadyH.cons (o := { dst := some 42, op := Op.call { callee := Callee.builtin Builtin.append, args := #[Operand.tmp 36, Operand.tmp 41], argTypes := #[36, 36] }, type := 36, pos := "l2_counts.go:213", after := #[{ on := 4, ground := Ground.data }, { on := 9, ground := Ground.data }, { on := 4, ground := Ground.chain }], guard := none }) rfl (fun K hK => ?_) AllReadyH.nil
              refine step_append_any _ (by rfl) _ _ 36 (by rfl) wc.heap.size 44 i0 (.agg #[.string ⟨#[]⟩, .slice none 0 0]) 2 40 Try.underlying36 hi0 hzz hzs hzb rfl (by decide) (.slice (some ⟨g3, 0, none⟩) i c3) i xsA (by rfl) OW7.out (by simp) ⟨w3.heap.size, 0, none⟩ 1 1 [.string lb, .slice sa sn sc] (by rfl) (by rfl) (World.news_of_block BX8.out) (by simp [Value.oneCell']) (i + 1) (xsA ++ [.string lb, .slice sa sn sc]) (by rfl) (by rfl) (by unfold maxLen; omega) (by omega) HB6.out.size ?_
              intro g9 c9 w9 hown9 hgr9
              have HB10 := Lib.hid (HB6.out.grown hgr9 HB6.out.size (fun q e => (OW7.out.lt q e).1))
              have OW11 := Lib.hid hown9
              clear hown9 hgr9
              refine hK.out _ _ ?_ (fun hHeld => ?_)
              · exact ⟨keep1 HB10.out d1, keep1 HB10.out d2⟩
              clear hK K
              (try simp only [Act.put, List.setIfInBounds_toArray, List.set_cons_zero, List.set_cons_succ])
              refine wpAnyH_ready (rs := [14]) (by kernel_rfl) (by simp) ?_
              refine AllReadyH.cons (o := { dst := some 46, op := Op.call { callee := Callee.builtin Builtin.append, args := #[Operand.tmp 42, Operand.tmp 45], argTypes := #[36, 36] }, type := 36, pos := "l2_counts.go:213", after := #[{ on := 10, ground := Ground.data }, { on := 13, ground := Ground.data }, { on := 10, ground := Ground.chain }], guard := none }) rfl (fun K hK => ?_) AllReadyH.nil
              refine step_append_any _ (by rfl) _ _ 36 (by rfl) wc.heap.size 44 i0 (.agg #[.string ⟨#[]⟩, .slice none 0 0]) 2 40 Try.underlying36 hi0 hzz hzs hzb rfl (by decide) (.slice (some ⟨g9, 0, none⟩) (i + 1) c9) (i + 1) (xsA ++ [.string lb, .slice sa sn sc]) (by rfl) OW11.out (by simp) ⟨gq, 0, none⟩ 0 _ xsC (by rfl) XC1'.out (fun j u hu => keep1 HB10.out (XC2.out j u hu)) XC3.out (i + 1) ((xsA ++ [.string lb, .slice sa sn sc]) ++ xsC) (by omega) (by rfl) (by unfold maxLen; omega) (by omega) HB10.out.size ?_
              intro g12 c12 w12 hown12 hgr12
              have HB13 := Lib.hid (HB10.out.grown hgr12 HB10.out.size (fun q e => (OW11.out.lt q e).1))
              have OW14 := Lib.hid hown12
              clear hown12 hgr12
              refine hK.out _ _ ?_ (fun hHeld => ?_)
              · exact ⟨keep1 HB13.out d1, keep1 HB13.out d2⟩
              clear hK K
              (try simp only [Act.put, List.setIfInBounds_toArray, List.set_cons_zero, List.set_cons_succ])
              refine wpAnyH_take (i := 15) (oi := { dst := some 3, op := Op.assign (Operand.tmp 46), type := 36, pos := "l2_counts.go:213", after := #[{ on := 14, ground := Ground.data }, { on := 14, ground := Ground.chain }, { on := 0, ground := Ground.phase }, { on := 1, ground := Ground.phase }, { on := 2, ground := Ground.phase }, { on := 3, ground := Ground.phase }, { on := 4, ground := Ground.phase }, { on := 5, ground := Ground.phase }, { on := 6, ground := Ground.phase }, { on := 7, ground := Ground.phase }, { on := 8, ground := Ground.phase }, { on := 9, ground := Ground.phase }, { on := 10, ground := Ground.phase }, { on := 11, ground := Ground.phase }, { on := 12, ground := Ground.phase }, { on := 13, ground := Ground.phase }, { on := 14, ground := Ground.phase }], guard := none }) (v := ?_) rfl (by kernel_rfl) (by kernel_rfl) (by kernel_rfl) (fun _ _ _ h => h) (Or.inl ⟨by rfl, ?_⟩) (by assumption) ?_
              rotate_left
              · (intro w hSw; (try dsimp only at hSw); go_simp <;> with_reducible rfl)
              (try simp only [Act.put, List.setIfInBounds_toArray, List.set_cons_zero, List.set_cons_succ])
              refine wpAnyH_done (by kernel_rfl) ?_ _
              all_goals
                go_wp2_with fail
                go_roundw
                case rel => exact FIN.out _ _ _ OW14.out HB13.out
                case measure => simp [intOf]; omega
            refine AllReadyH.cons (o := { dst := some 41, op := Op.buildSlice 36 1 #[(0, Operand.tmp 40)], type := 36, pos := "l2_counts.go:213", after := #[{ on := 8, ground := Ground.data }], guard := none }) rfl (fun K hK => ?_) AllReadyH.nil
            go_simp
            go_wp2_with fail
            have HB15 := Lib.hid (HB1.out.alloc HB1.out.size (.cells #[.string lb, .slice sa sn sc] 44 (0, 0)))
            have OW16 := Lib.hid (World.ownsRow.alloc OW2.out (.cells #[.string lb, .slice sa sn sc] 44 (0, 0)))
            have BX17 : Hid (((wc.drew.alloc (.cells #[] 44 (0, 0))).alloc (.cells #[.string lb, .slice sa sn sc] 44 (0, 0))).heap[wc.heap.size + 1]? = some (.cells #[.string lb, .slice sa sn sc] 44 (0, 0))) := Lib.hid (by rw [show wc.heap.size + 1 = (wc.drew.alloc (.cells #[] 44 (0, 0))).heap.size by simp]; exact heap_alloc_new (wc.drew.alloc (.cells #[] 44 (0, 0))) _)
            refine hK.out _ _ ?_ (fun hHeld => ?_)
            · exact ⟨keep1 HB15.out d1, keep1 HB15.out d2⟩
            clear hK K
            (try simp only [Act.put, List.setIfInBounds_toArray, List.set_cons_zero, List.set_cons_succ])
            refine wpAnyH_ready (rs := [4]) (by kernel_rfl) (by simp) ?_
            refine AllReadyH.cons (o := { dst := some 36, op := Op.call { callee := Callee.builtin Builtin.append, args := #[Operand.tmp 32, Operand.tmp 35], argTypes := #[36, 36] }, type := 36, pos := "l2_counts.go:213", after := #[{ on := 0, ground := Ground.data }, { on := 3, ground := Ground.data }], guard := none }) rfl (fun K hK => ?_) AllReadyH.nil
            refine step_append_any _ (by rfl) _ _ 36 (by rfl) wc.heap.size 44 i0 (.agg #[.string ⟨#[]⟩, .slice none 0 0]) 2 40 Try.underlying36 hi0 hzz hzs hzb rfl (by decide) (.slice (some ⟨wc.heap.size, 0, none⟩) 0 0) 0 [] (by rfl) OW16.out (by simp) ⟨gq, 0, none⟩ i i xsA (by rfl) XA1.out (fun j u hu => keep1 HB15.out (XA2.out j u hu)) XA3.out i xsA (by omega) (by rfl) (by unfold maxLen; omega) (by omega) HB15.out.size ?_
            intro g18 c18 w18 hown18 hgr18
            have HB19 := Lib.hid (HB15.out.grown hgr18 HB15.out.size (fun q e => (OW16.out.lt q e).1))
            have OW20 := Lib.hid hown18
            have BX21 := Lib.hid ((hgr18.block _ (Array.getElem?_eq_some_iff.1 BX17.out).1 (fun e => by simp [Value.ownBlock] at e)).trans BX17.out)
            clear hown18 hgr18
            refine hK.out _ _ ?_ (fun hHeld => ?_)
            · exact ⟨keep1 HB19.out d1, keep1 HB19.out d2⟩
            clear hK K
            (try simp only [Act.put, List.setIfInBounds_toArray, List.set_cons_zero, List.set_cons_succ])
            refine wpAnyH_ready (rs := [10]) (by kernel_rfl) (by simp) ?_
            refine AllReadyH.cons (o := { dst := some 42, op := Op.call { callee := Callee.builtin Builtin.append, args := #[Operand.tmp 36, Operand.tmp 41], argTypes := #[36, 36] }, type := 36, pos := "l2_counts.go:213", after := #[{ on := 4, ground := Ground.data }, { on := 9, ground := Ground.data }, { on := 4, ground := Ground.chain }], guard := none }) rfl (fun K hK => ?_) AllReadyH.nil
            refine step_append_any _ (by rfl) _ _ 36 (by rfl) wc.heap.size 44 i0 (.agg #[.string ⟨#[]⟩, .slice none 0 0]) 2 40 Try.underlying36 hi0 hzz hzs hzb rfl (by decide) (.slice (some ⟨g18, 0, none⟩) i c18) i xsA (by rfl) OW20.out (by simp) ⟨wc.heap.size + 1, 0, none⟩ 1 1 [.string lb, .slice sa sn sc] (by rfl) (by rfl) (World.news_of_block BX21.out) (by simp [Value.oneCell']) (i + 1) (xsA ++ [.string lb, .slice sa sn sc]) (by rfl) (by rfl) (by unfold maxLen; omega) (by omega) HB19.out.size ?_
            intro g22 c22 w22 hown22 hgr22
            have HB23 := Lib.hid (HB19.out.grown hgr22 HB19.out.size (fun q e => (OW20.out.lt q e).1))
            have OW24 := Lib.hid hown22
            clear hown22 hgr22
            refine hK.out _ _ ?_ (fun hHeld => ?_)
            · exact ⟨keep1 HB23.out d1, keep1 HB23.out d2⟩
            clear hK K
            (try simp only [Act.put, List.setIfInBounds_toArray, List.set_cons_zero, List.set_cons_succ])
            refine wpAnyH_ready (rs := [14]) (by kernel_rfl) (by simp) ?_
            refine AllReadyH.cons (o := { dst := some 46, op := Op.call { callee := Callee.builtin Builtin.append, args := #[Operand.tmp 42, Operand.tmp 45], argTypes := #[36, 36] }, type := 36, pos := "l2_counts.go:213", after := #[{ on := 10, ground := Ground.data }, { on := 13, ground := Ground.data }, { on := 10, ground := Ground.chain }], guard := none }) rfl (fun K hK => ?_) AllReadyH.nil
            refine step_append_any _ (by rfl) _ _ 36 (by rfl) wc.heap.size 44 i0 (.agg #[.string ⟨#[]⟩, .slice none 0 0]) 2 40 Try.underlying36 hi0 hzz hzs hzb rfl (by decide) (.slice (some ⟨g22, 0, none⟩) (i + 1) c22) (i + 1) (xsA ++ [.string lb, .slice sa sn sc]) (by rfl) OW24.out (by simp) ⟨gq, 0, none⟩ 0 _ xsC (by rfl) XC1'.out (fun j u hu => keep1 HB23.out (XC2.out j u hu)) XC3.out (i + 1) ((xsA ++ [.string lb, .slice sa sn sc]) ++ xsC) (by omega) (by rfl) (by unfold maxLen; omega) (by omega) HB23.out.size ?_
            intro g25 c25 w25 hown25 hgr25
            have HB26 := Lib.hid (HB23.out.grown hgr25 HB23.out.size (fun q e => (OW24.out.lt q e).1))
            have OW27 := Lib.hid hown25
            clear hown25 hgr25
            refine hK.out _ _ ?_ (fun hHeld => ?_)
            · exact ⟨keep1 HB26.out d1, keep1 HB26.out d2⟩
            clear hK K
            (try simp only [Act.put, List.setIfInBounds_toArray, List.set_cons_zero, List.set_cons_succ])
            refine wpAnyH_take (i := 15) (oi := { dst := some 3, op := Op.assign (Operand.tmp 46), type := 36, pos := "l2_counts.go:213", after := #[{ on := 14, ground := Ground.data }, { on := 14, ground := Ground.chain }, { on := 0, ground := Ground.phase }, { on := 1, ground := Ground.phase }, { on := 2, ground := Ground.phase }, { on := 3, ground := Ground.phase }, { on := 4, ground := Ground.phase }, { on := 5, ground := Ground.phase }, { on := 6, ground := Ground.phase }, { on := 7, ground := Ground.phase }, { on := 8, ground := Ground.phase }, { on := 9, ground := Ground.phase }, { on := 10, ground := Ground.phase }, { on := 11, ground := Ground.phase }, { on := 12, ground := Ground.phase }, { on := 13, ground := Ground.phase }, { on := 14, ground := Ground.phase }], guard := none }) (v := ?_) rfl (by kernel_rfl) (by kernel_rfl) (by kernel_rfl) (fun _ _ _ h => h) (Or.inl ⟨by rfl, ?_⟩) (by assumption) ?_
            rotate_left
            · (intro w hSw; (try dsimp only at hSw); go_simp <;> with_reducible rfl)
            (try simp only [Act.put, List.setIfInBounds_toArray, List.set_cons_zero, List.set_cons_succ])
            refine wpAnyH_done (by kernel_rfl) ?_ _
            all_goals
              go_wp2_with fail
              go_roundw
              case rel => exact FIN.out _ _ _ OW27.out HB26.out
              case measure => simp [intOf]; omega
          refine AllReadyH.cons (o := { dst := some 41, op := Op.buildSlice 36 1 #[(0, Operand.tmp 40)], type := 36, pos := "l2_counts.go:213", after := #[{ on := 8, ground := Ground.data }], guard := none }) rfl (fun K hK => ?_) AllReadyH.nil
          go_simp
          go_wp2_with fail
          have HB28 := Lib.hid (HBD.out.alloc HBD.out.size (.cells #[.string lb, .slice sa sn sc] 44 (0, 0)))
          have BX29 : Hid ((wc.drew.alloc (.cells #[.string lb, .slice sa sn sc] 44 (0, 0))).heap[wc.heap.size]? = some (.cells #[.string lb, .slice sa sn sc] 44 (0, 0))) := Lib.hid (by exact heap_alloc_new wc.drew _)
          refine hK.out _ _ ?_ (fun hHeld => ?_)
          · exact ⟨keep1 HB28.out d1, keep1 HB28.out d2⟩
          clear hK K
          (try simp only [Act.put, List.setIfInBounds_toArray, List.set_cons_zero, List.set_cons_succ])
          refine wpAnyH_ready (rs := [0]) (by kernel_rfl) (by simp) ?_
          refine AllReadyH.cons (o := { dst := some 32, op := Op.buildSlice 36 0 #[], type := 36, pos := "l2_counts.go:213", after := #[], guard := none }) rfl (fun K hK => ?_) AllReadyH.nil
          go_simp
          go_wp2_with fail
          have HB30 := Lib.hid (HB28.out.alloc HB28.out.size (.cells #[] 44 (0, 0)))
          have OW31 : Hid (World.ownsRow ((wc.drew.alloc (.cells #[.string lb, .slice sa sn sc] 44 (0, 0))).alloc (.cells #[] 44 (0, 0))) wc.heap.size 44 2 (.slice (some ⟨wc.heap.size + 1, 0, none⟩) 0 0) 0 []) := Lib.hid (by rw [show wc.heap.size + 1 = (wc.drew.alloc (.cells #[.string lb, .slice sa sn sc] 44 (0, 0))).heap.size by simp]; exact World.ownsRow_made (wc.drew.alloc (.cells #[.string lb, .slice sa sn sc] 44 (0, 0))) #[] 0 HB28.out.size (by simp [maxLen]) rfl)
          have BX32 := Lib.hid ((Below.heap_alloc (wc.drew.alloc (.cells #[.string lb, .slice sa sn sc] 44 (0, 0))) (.cells #[] 44 (0, 0)) _ (Array.getElem?_eq_some_iff.1 BX29.out).1).trans BX29.out)
          refine hK.out _ _ ?_ (fun hHeld => ?_)
          · exact ⟨keep1 HB30.out d1, keep1 HB30.out d2⟩
          clear hK K
          (try simp only [Act.put, List.setIfInBounds_toArray, List.set_cons_zero, List.set_cons_succ])
          refine wpAnyH_ready (rs := [4]) (by kernel_rfl) (by simp) ?_
          refine AllReadyH.cons (o := { dst := some 36, op := Op.call { callee := Callee.builtin Builtin.append, args := #[Operand.tmp 32, Operand.tmp 35], argTypes := #[36, 36] }, type := 36, pos := "l2_counts.go:213", after := #[{ on := 0, ground := Ground.data }, { on := 3, ground := Ground.data }], guard := none }) rfl (fun K hK => ?_) AllReadyH.nil
          refine step_append_any _ (by rfl) _ _ 36 (by rfl) wc.heap.size 44 i0 (.agg #[.string ⟨#[]⟩, .slice none 0 0]) 2 40 Try.underlying36 hi0 hzz hzs hzb rfl (by decide) (.slice (some ⟨wc.heap.size + 1, 0, none⟩) 0 0) 0 [] (by rfl) OW31.out (by simp) ⟨gq, 0, none⟩ i i xsA (by rfl) XA1.out (fun j u hu => keep1 HB30.out (XA2.out j u hu)) XA3.out i xsA (by omega) (by rfl) (by unfold maxLen; omega) (by omega) HB30.out.size ?_
          intro g33 c33 w33 hown33 hgr33
          have HB34 := Lib.hid (HB30.out.grown hgr33 HB30.out.size (fun q e => (OW31.out.lt q e).1))
          have OW35 := Lib.hid hown33
          have BX36 := Lib.hid ((hgr33.block _ (Array.getElem?_eq_some_iff.1 BX32.out).1 (fun e => by simp [Value.ownBlock] at e)).trans BX32.out)
          clear hown33 hgr33
          refine hK.out _ _ ?_ (fun hHeld => ?_)
          · exact ⟨keep1 HB34.out d1, keep1 HB34.out d2⟩
          clear hK K
          (try simp only [Act.put, List.setIfInBounds_toArray, List.set_cons_zero, List.set_cons_succ])
          refine wpAnyH_ready (rs := [10]) (by kernel_rfl) (by simp) ?_
          refine AllReadyH.cons (o := { dst := some 42, op := Op.call { callee := Callee.builtin Builtin.append, args := #[Operand.tmp 36, Operand.tmp 41], argTypes := #[36, 36] }, type := 36, pos := "l2_counts.go:213", after := #[{ on := 4, ground := Ground.data }, { on := 9, ground := Ground.data }, { on := 4, ground := Ground.chain }], guard := none }) rfl (fun K hK => ?_) AllReadyH.nil
          refine step_append_any _ (by rfl) _ _ 36 (by rfl) wc.heap.size 44 i0 (.agg #[.string ⟨#[]⟩, .slice none 0 0]) 2 40 Try.underlying36 hi0 hzz hzs hzb rfl (by decide) (.slice (some ⟨g33, 0, none⟩) i c33) i xsA (by rfl) OW35.out (by simp) ⟨wc.heap.size, 0, none⟩ 1 1 [.string lb, .slice sa sn sc] (by rfl) (by rfl) (World.news_of_block BX36.out) (by simp [Value.oneCell']) (i + 1) (xsA ++ [.string lb, .slice sa sn sc]) (by rfl) (by rfl) (by unfold maxLen; omega) (by omega) HB34.out.size ?_
          intro g37 c37 w37 hown37 hgr37
          have HB38 := Lib.hid (HB34.out.grown hgr37 HB34.out.size (fun q e => (OW35.out.lt q e).1))
          have OW39 := Lib.hid hown37
          clear hown37 hgr37
          refine hK.out _ _ ?_ (fun hHeld => ?_)
          · exact ⟨keep1 HB38.out d1, keep1 HB38.out d2⟩
          clear hK K
          (try simp only [Act.put, List.setIfInBounds_toArray, List.set_cons_zero, List.set_cons_succ])
          refine wpAnyH_ready (rs := [14]) (by kernel_rfl) (by simp) ?_
          refine AllReadyH.cons (o := { dst := some 46, op := Op.call { callee := Callee.builtin Builtin.append, args := #[Operand.tmp 42, Operand.tmp 45], argTypes := #[36, 36] }, type := 36, pos := "l2_counts.go:213", after := #[{ on := 10, ground := Ground.data }, { on := 13, ground := Ground.data }, { on := 10, ground := Ground.chain }], guard := none }) rfl (fun K hK => ?_) AllReadyH.nil
          refine step_append_any _ (by rfl) _ _ 36 (by rfl) wc.heap.size 44 i0 (.agg #[.string ⟨#[]⟩, .slice none 0 0]) 2 40 Try.underlying36 hi0 hzz hzs hzb rfl (by decide) (.slice (some ⟨g37, 0, none⟩) (i + 1) c37) (i + 1) (xsA ++ [.string lb, .slice sa sn sc]) (by rfl) OW39.out (by simp) ⟨gq, 0, none⟩ 0 _ xsC (by rfl) XC1'.out (fun j u hu => keep1 HB38.out (XC2.out j u hu)) XC3.out (i + 1) ((xsA ++ [.string lb, .slice sa sn sc]) ++ xsC) (by omega) (by rfl) (by unfold maxLen; omega) (by omega) HB38.out.size ?_
          intro g40 c40 w40 hown40 hgr40
          have HB41 := Lib.hid (HB38.out.grown hgr40 HB38.out.size (fun q e => (OW39.out.lt q e).1))
          have OW42 := Lib.hid hown40
          clear hown40 hgr40
          refine hK.out _ _ ?_ (fun hHeld => ?_)
          · exact ⟨keep1 HB41.out d1, keep1 HB41.out d2⟩
          clear hK K
          (try simp only [Act.put, List.setIfInBounds_toArray, List.set_cons_zero, List.set_cons_succ])
          refine wpAnyH_take (i := 15) (oi := { dst := some 3, op := Op.assign (Operand.tmp 46), type := 36, pos := "l2_counts.go:213", after := #[{ on := 14, ground := Ground.data }, { on := 14, ground := Ground.chain }, { on := 0, ground := Ground.phase }, { on := 1, ground := Ground.phase }, { on := 2, ground := Ground.phase }, { on := 3, ground := Ground.phase }, { on := 4, ground := Ground.phase }, { on := 5, ground := Ground.phase }, { on := 6, ground := Ground.phase }, { on := 7, ground := Ground.phase }, { on := 8, ground := Ground.phase }, { on := 9, ground := Ground.phase }, { on := 10, ground := Ground.phase }, { on := 11, ground := Ground.phase }, { on := 12, ground := Ground.phase }, { on := 13, ground := Ground.phase }, { on := 14, ground := Ground.phase }], guard := none }) (v := ?_) rfl (by kernel_rfl) (by kernel_rfl) (by kernel_rfl) (fun _ _ _ h => h) (Or.inl ⟨by rfl, ?_⟩) (by assumption) ?_
          rotate_left
          · (intro w hSw; (try dsimp only at hSw); go_simp <;> with_reducible rfl)
          (try simp only [Act.put, List.setIfInBounds_toArray, List.set_cons_zero, List.set_cons_succ])
          refine wpAnyH_done (by kernel_rfl) ?_ _
          all_goals
            go_wp2_with fail
            go_roundw
            case rel => exact FIN.out _ _ _ OW42.out HB41.out
            case measure => simp [intOf]; omega
        · have XC2 : Hid (∀ j u, xsC[j]? = some u → wc.cell? ((⟨gq, k * 2, none⟩ : Addr).add j) = some u) := Lib.hid (fun j u hu => by
            have e : (⟨gq, k * 2, none⟩ : Addr).add j = ⟨gq, k * 2 + j, none⟩ := by unfold Addr.add; split <;> simp_all
            rw [e]; exact qC j u hu)
          clear pA pC qA qC rA rC hxsA hxsC hrt hRU hBc hka hkb
          go_wp2_with fail
          refine wp_region_held_drew (S := (fun w' => w'.cell? ⟨ga, i * 2, none⟩ = some (.string lb) ∧ w'.cell? ⟨ga, i * 2 + 1, none⟩ = some (.slice sa sn sc))) (by kernel_rfl) (by exact ⟨d1, d2⟩) (fun hHeld => ?_)
          refine wpAnyH_take (i := 1) (oi := { dst := some 33, op := Op.move (Operand.tmp 3), type := 36, pos := "l2_counts.go:213", after := #[], guard := none }) (v := ?_) rfl (by kernel_rfl) (by kernel_rfl) (by kernel_rfl) (fun _ _ _ h => h) (Or.inl ⟨by rfl, ?_⟩) (by assumption) ?_
          rotate_left
          · (intro w hSw; (try dsimp only at hSw); go_simp <;> with_reducible rfl)
          (try simp only [Act.put, List.setIfInBounds_toArray, List.set_cons_zero, List.set_cons_succ])
          refine wpAnyH_take (i := 2) (oi := { dst := some 34, op := Op.move (Operand.tmp 5), type := 3, pos := "l2_counts.go:213", after := #[], guard := none }) (v := ?_) rfl (by kernel_rfl) (by kernel_rfl) (by kernel_rfl) (fun _ _ _ h => h) (Or.inl ⟨by rfl, ?_⟩) (by assumption) ?_
          rotate_left
          · (intro w hSw; (try dsimp only at hSw); go_simp <;> with_reducible rfl)
          (try simp only [Act.put, List.setIfInBounds_toArray, List.set_cons_zero, List.set_cons_succ])
          refine wpAnyH_take (i := 3) (oi := { dst := some 35, op := Op.slice 36 (Operand.tmp 33) none (some (Operand.tmp 34)) none, type := 36, pos := "l2_counts.go:213", after := #[{ on := 1, ground := Ground.data }, { on := 2, ground := Ground.data }], guard := none }) (v := ?_) rfl (by kernel_rfl) (by kernel_rfl) (by kernel_rfl) (fun _ _ _ h => h) (Or.inl ⟨by rfl, ?_⟩) (by assumption) ?_
          rotate_left
          · (intro w hSw; (try dsimp only at hSw); go_simp <;> with_reducible rfl)
          (try simp only [Act.put, List.setIfInBounds_toArray, List.set_cons_zero, List.set_cons_succ])
          refine wpAnyH_take (i := 5) (oi := { dst := some 37, op := Op.move (Operand.tmp 0), type := 36, pos := "l2_counts.go:213", after := #[], guard := none }) (v := ?_) rfl (by kernel_rfl) (by kernel_rfl) (by kernel_rfl) (fun _ _ _ h => h) (Or.inl ⟨by rfl, ?_⟩) (by assumption) ?_
          rotate_left
          · (intro w hSw; (try dsimp only at hSw); go_simp <;> with_reducible rfl)
          (try simp only [Act.put, List.setIfInBounds_toArray, List.set_cons_zero, List.set_cons_succ])
          refine wpAnyH_take (i := 6) (oi := { dst := some 38, op := Op.move (Operand.tmp 4), type := 3, pos := "l2_counts.go:213", after := #[], guard := none }) (v := ?_) rfl (by kernel_rfl) (by kernel_rfl) (by kernel_rfl) (fun _ _ _ h => h) (Or.inl ⟨by rfl, ?_⟩) (by assumption) ?_
          rotate_left
          · (intro w hSw; (try dsimp only at hSw); go_simp <;> with_reducible rfl)
          (try simp only [Act.put, List.setIfInBounds_toArray, List.set_cons_zero, List.set_cons_succ])
          refine wpAnyH_take (i := 7) (oi := { dst := some 39, op := Op.indexAddr 36 (Operand.tmp 37) (Operand.tmp 38), type := 0, pos := "l2_counts.go:213", after := #[{ on := 5, ground := Ground.data }, { on := 6, ground := Ground.data }], guard := none }) (v := ?_) rfl (by kernel_rfl) (by kernel_rfl) (by kernel_rfl) (fun _ _ _ h => h) (Or.inl ⟨by rfl, ?_⟩) (by assumption) ?_
          rotate_left
          · (intro w hSw; (try dsimp only at hSw); go_simp <;> with_reducible rfl)
          (try simp only [Act.put, List.setIfInBounds_toArray, List.set_cons_zero, List.set_cons_succ])
          refine wpAnyH_take (i := 8) (oi := { dst := some 40, op := Op.load 44 (Operand.tmp 39), type := 44, pos := "l2_counts.go:213", after := #[{ on := 7, ground := Ground.data }], guard := none }) (v := ?_) rfl (by kernel_rfl) (by kernel_rfl) (by kernel_rfl) (fun _ _ _ h => h) (Or.inl ⟨by rfl, ?_⟩) (by assumption) ?_
          rotate_left
          · (intro w hSw; (try dsimp only at hSw); go_simp <;> with_reducible rfl)
          (try simp only [Act.put, List.setIfInBounds_toArray, List.set_cons_zero, List.set_cons_succ])
          refine wpAnyH_take (i := 11) (oi := { dst := some 43, op := Op.move (Operand.tmp 3), type := 36, pos := "l2_counts.go:213", after := #[], guard := none }) (v := ?_) rfl (by kernel_rfl) (by kernel_rfl) (by kernel_rfl) (fun _ _ _ h => h) (Or.inl ⟨by rfl, ?_⟩) (by assumption) ?_
          rotate_left
          · (intro w hSw; (try dsimp only at hSw); go_simp <;> with_reducible rfl)
          (try simp only [Act.put, List.setIfInBounds_toArray, List.set_cons_zero, List.set_cons_succ])
          refine wpAnyH_take (i := 12) (oi := { dst := some 44, op := Op.move (Operand.tmp 5), type := 3, pos := "l2_counts.go:213", after := #[], guard := none }) (v := ?_) rfl (by kernel_rfl) (by kernel_rfl) (by kernel_rfl) (fun _ _ _ h => h) (Or.inl ⟨by rfl, ?_⟩) (by assumption) ?_
          rotate_left
          · (intro w hSw; (try dsimp only at hSw); go_simp <;> with_reducible rfl)
          (try simp only [Act.put, List.setIfInBounds_toArray, List.set_cons_zero, List.set_cons_succ])
          refine wpAnyH_take (i := 13) (oi := { dst := some 45, op := Op.slice 36 (Operand.tmp 43) (some (Operand.tmp 44)) none none, type := 36, pos := "l2_counts.go:213", after := #[{ on := 11, ground := Ground.data }, { on := 12, ground := Ground.data }], guard := none }) (v := ?_) rfl (by kernel_rfl) (by kernel_rfl) (by kernel_rfl) (fun _ _ _ h => h) (Or.inl ⟨by rfl, ?_⟩) (by assumption) ?_
          rotate_left
          · (intro w hSw; (try dsimp only at hSw); go_simp <;> with_reducible rfl)
          (try simp only [Act.put, List.setIfInBounds_toArray, List.set_cons_zero, List.set_cons_succ])
          have HBD := Lib.hid (Below.refl wc.heap.size wc).drew
          refine wpAnyH_ready (rs := [0, 9]) (by kernel_rfl) (by simp) ?_
          refine AllReadyH.cons (o := { dst := some 32, op := Op.buildSlice 36 0 #[], type := 36, pos := "l2_counts.go:213", after := #[], guard := none }) rfl ?_ ?_
          · intro K hK
            go_simp
            go_wp2_with fail
            have HB43 := Lib.hid (HBD.out.alloc HBD.out.size (.cells #[] 44 (0, 0)))
            have OW44 : Hid (World.ownsRow (wc.drew.alloc (.cells #[] 44 (0, 0))) wc.heap.size 44 2 (.slice (some ⟨wc.heap.size, 0, none⟩) 0 0) 0 []) := Lib.hid (by exact World.ownsRow_made wc.drew #[] 0 HBD.out.size (by simp [maxLen]) rfl)
            refine hK.out _ _ ?_ (fun hHeld => ?_)
            · exact ⟨keep1 HB43.out d1, keep1 HB43.out d2⟩
            clear hK K
            (try simp only [Act.put, List.setIfInBounds_toArray, List.set_cons_zero, List.set_cons_succ])
            refine wpAnyH_ready (rs := [4, 9]) (by kernel_rfl) (by simp) ?_
            refine AllReadyH.cons (o := { dst := some 36, op := Op.call { callee := Callee.builtin Builtin.append, args := #[Operand.tmp 32, Operand.tmp 35], argTypes := #[36, 36] }, type := 36, pos := "l2_counts.go:213", after := #[{ on := 0, ground := Ground.data }, { on := 3, ground := Ground.data }], guard := none }) rfl ?_ ?_
            · intro K hK
              refine step_append_any _ (by rfl) _ _ 36 (by rfl) wc.heap.size 44 i0 (.agg #[.string ⟨#[]⟩, .slice none 0 0]) 2 40 Try.underlying36 hi0 hzz hzs hzb rfl (by decide) (.slice (some ⟨wc.heap.size, 0, none⟩) 0 0) 0 [] (by rfl) OW44.out (by simp) ⟨gq, 0, none⟩ k cq xsA (by rfl) XA1.out (fun j u hu => keep1 HB43.out (XA2.out j u hu)) XA3.out k xsA (by omega) (by rfl) (by unfold maxLen; omega) (by omega) HB43.out.size ?_
              intro g45 c45 w45 hown45 hgr45
              have HB46 := Lib.hid (HB43.out.grown hgr45 HB43.out.size (fun q e => (OW44.out.lt q e).1))
              have OW47 := Lib.hid hown45
              clear hown45 hgr45
              refine hK.out _ _ ?_ (fun hHeld => ?_)
              · exact ⟨keep1 HB46.out d1, keep1 HB46.out d2⟩
              clear hK K
              (try simp only [Act.put, List.setIfInBounds_toArray, List.set_cons_zero, List.set_cons_succ])
              refine wpAnyH_ready (rs := [9]) (by kernel_rfl) (by simp) ?_
              refine AllReadyH.cons (o := { dst := some 41, op := Op.buildSlice 36 1 #[(0, Operand.tmp 40)], type := 36, pos := "l2_counts.go:213", after := #[{ on := 8, ground := Ground.data }], guard := none }) rfl (fun K hK => ?_) AllReadyH.nil
              go_simp
              go_wp2_with fail
              have HB48 := Lib.hid (HB46.out.alloc HB46.out.size (.cells #[.string lb, .slice sa sn sc] 44 (0, 0)))
              have OW49 := Lib.hid (World.ownsRow.alloc OW47.out (.cells #[.string lb, .slice sa sn sc] 44 (0, 0)))
              have BX50 : Hid ((w45.alloc (.cells #[.string lb, .slice sa sn sc] 44 (0, 0))).heap[w45.heap.size]? = some (.cells #[.string lb, .slice sa sn sc] 44 (0, 0))) := Lib.hid (by exact heap_alloc_new w45 _)
              refine hK.out _ _ ?_ (fun hHeld => ?_)
              · exact ⟨keep1 HB48.out d1, keep1 HB48.out d2⟩
              clear hK K
              (try simp only [Act.put, List.setIfInBounds_toArray, List.set_cons_zero, List.set_cons_succ])
              refine wpAnyH_ready (rs := [10]) (by kernel_rfl) (by simp) ?_
              refine AllReadyH.cons (o := { dst := some 42, op := Op.call { callee := Callee.builtin Builtin.append, args := #[Operand.tmp 36, Operand.tmp 41], argTypes := #[36, 36] }, type := 36, pos := "l2_counts.go:213", after := #[{ on := 4, ground := Ground.data }, { on := 9, ground := Ground.data }, { on := 4, ground := Ground.chain }], guard := none }) rfl (fun K hK => ?_) AllReadyH.nil
              refine step_append_any _ (by rfl) _ _ 36 (by rfl) wc.heap.size 44 i0 (.agg #[.string ⟨#[]⟩, .slice none 0 0]) 2 40 Try.underlying36 hi0 hzz hzs hzb rfl (by decide) (.slice (some ⟨g45, 0, none⟩) k c45) k xsA (by rfl) OW49.out (by simp) ⟨w45.heap.size, 0, none⟩ 1 1 [.string lb, .slice sa sn sc] (by rfl) (by rfl) (World.news_of_block BX50.out) (by simp [Value.oneCell']) (k + 1) (xsA ++ [.string lb, .slice sa sn sc]) (by rfl) (by rfl) (by unfold maxLen; omega) (by omega) HB48.out.size ?_
              intro g51 c51 w51 hown51 hgr51
              have HB52 := Lib.hid (HB48.out.grown hgr51 HB48.out.size (fun q e => (OW49.out.lt q e).1))
              have OW53 := Lib.hid hown51
              clear hown51 hgr51
              refine hK.out _ _ ?_ (fun hHeld => ?_)
              · exact ⟨keep1 HB52.out d1, keep1 HB52.out d2⟩
              clear hK K
              (try simp only [Act.put, List.setIfInBounds_toArray, List.set_cons_zero, List.set_cons_succ])
              refine wpAnyH_ready (rs := [14]) (by kernel_rfl) (by simp) ?_
              refine AllReadyH.cons (o := { dst := some 46, op := Op.call { callee := Callee.builtin Builtin.append, args := #[Operand.tmp 42, Operand.tmp 45], argTypes := #[36, 36] }, type := 36, pos := "l2_counts.go:213", after := #[{ on := 10, ground := Ground.data }, { on := 13, ground := Ground.data }, { on := 10, ground := Ground.chain }], guard := none }) rfl (fun K hK => ?_) AllReadyH.nil
              refine step_append_any _ (by rfl) _ _ 36 (by rfl) wc.heap.size 44 i0 (.agg #[.string ⟨#[]⟩, .slice none 0 0]) 2 40 Try.underlying36 hi0 hzz hzs hzb rfl (by decide) (.slice (some ⟨g51, 0, none⟩) (k + 1) c51) (k + 1) (xsA ++ [.string lb, .slice sa sn sc]) (by rfl) OW53.out (by simp) ⟨gq, k * 2, none⟩ (i - k) _ xsC (by rfl) XC1.out (fun j u hu => keep1 HB52.out (XC2.out j u hu)) XC3.out (i + 1) ((xsA ++ [.string lb, .slice sa sn sc]) ++ xsC) (by omega) (by rfl) (by unfold maxLen; omega) (by omega) HB52.out.size ?_
              intro g54 c54 w54 hown54 hgr54
              have HB55 := Lib.hid (HB52.out.grown hgr54 HB52.out.size (fun q e => (OW53.out.lt q e).1))
              have OW56 := Lib.hid hown54
              clear hown54 hgr54
              refine hK.out _ _ ?_ (fun hHeld => ?_)
              · exact ⟨keep1 HB55.out d1, keep1 HB55.out d2⟩
              clear hK K
              (try simp only [Act.put, List.setIfInBounds_toArray, List.set_cons_zero, List.set_cons_succ])
              refine wpAnyH_take (i := 15) (oi := { dst := some 3, op := Op.assign (Operand.tmp 46), type := 36, pos := "l2_counts.go:213", after := #[{ on := 14, ground := Ground.data }, { on := 14, ground := Ground.chain }, { on := 0, ground := Ground.phase }, { on := 1, ground := Ground.phase }, { on := 2, ground := Ground.phase }, { on := 3, ground := Ground.phase }, { on := 4, ground := Ground.phase }, { on := 5, ground := Ground.phase }, { on := 6, ground := Ground.phase }, { on := 7, ground := Ground.phase }, { on := 8, ground := Ground.phase }, { on := 9, ground := Ground.phase }, { on := 10, ground := Ground.phase }, { on := 11, ground := Ground.phase }, { on := 12, ground := Ground.phase }, { on := 13, ground := Ground.phase }, { on := 14, ground := Ground.phase }], guard := none }) (v := ?_) rfl (by kernel_rfl) (by kernel_rfl) (by kernel_rfl) (fun _ _ _ h => h) (Or.inl ⟨by rfl, ?_⟩) (by assumption) ?_
              rotate_left
              · (intro w hSw; (try dsimp only at hSw); go_simp <;> with_reducible rfl)
              (try simp only [Act.put, List.setIfInBounds_toArray, List.set_cons_zero, List.set_cons_succ])
              refine wpAnyH_done (by kernel_rfl) ?_ _
              all_goals
                go_wp2_with fail
                go_roundw
                case rel => exact FIN.out _ _ _ OW56.out HB55.out
                case measure => simp [intOf]; omega
            refine AllReadyH.cons (o := { dst := some 41, op := Op.buildSlice 36 1 #[(0, Operand.tmp 40)], type := 36, pos := "l2_counts.go:213", after := #[{ on := 8, ground := Ground.data }], guard := none }) rfl (fun K hK => ?_) AllReadyH.nil
            go_simp
            go_wp2_with fail
            have HB57 := Lib.hid (HB43.out.alloc HB43.out.size (.cells #[.string lb, .slice sa sn sc] 44 (0, 0)))
            have OW58 := Lib.hid (World.ownsRow.alloc OW44.out (.cells #[.string lb, .slice sa sn sc] 44 (0, 0)))
            have BX59 : Hid (((wc.drew.alloc (.cells #[] 44 (0, 0))).alloc (.cells #[.string lb, .slice sa sn sc] 44 (0, 0))).heap[wc.heap.size + 1]? = some (.cells #[.string lb, .slice sa sn sc] 44 (0, 0))) := Lib.hid (by rw [show wc.heap.size + 1 = (wc.drew.alloc (.cells #[] 44 (0, 0))).heap.size by simp]; exact heap_alloc_new (wc.drew.alloc (.cells #[] 44 (0, 0))) _)
            refine hK.out _ _ ?_ (fun hHeld => ?_)
            · exact ⟨keep1 HB57.out d1, keep1 HB57.out d2⟩
            clear hK K
            (try simp only [Act.put, List.setIfInBounds_toArray, List.set_cons_zero, List.set_cons_succ])
            refine wpAnyH_ready (rs := [4]) (by kernel_rfl) (by simp) ?_
            refine AllReadyH.cons (o := { dst := some 36, op := Op.call { callee := Callee.builtin Builtin.append, args := #[Operand.tmp 32, Operand.tmp 35], argTypes := #[36, 36] }, type := 36, pos := "l2_counts.go:213", after := #[{ on := 0, ground := Ground.data }, { on := 3, ground := Ground.data }], guard := none }) rfl (fun K hK => ?_) AllReadyH.nil
            refine step_append_any _ (by rfl) _ _ 36 (by rfl) wc.heap.size 44 i0 (.agg #[.string ⟨#[]⟩, .slice none 0 0]) 2 40 Try.underlying36 hi0 hzz hzs hzb rfl (by decide) (.slice (some ⟨wc.heap.size, 0, none⟩) 0 0) 0 [] (by rfl) OW58.out (by simp) ⟨gq, 0, none⟩ k cq xsA (by rfl) XA1.out (fun j u hu => keep1 HB57.out (XA2.out j u hu)) XA3.out k xsA (by omega) (by rfl) (by unfold maxLen; omega) (by omega) HB57.out.size ?_
            intro g60 c60 w60 hown60 hgr60
            have HB61 := Lib.hid (HB57.out.grown hgr60 HB57.out.size (fun q e => (OW58.out.lt q e).1))
            have OW62 := Lib.hid hown60
            have BX63 := Lib.hid ((hgr60.block _ (Array.getElem?_eq_some_iff.1 BX59.out).1 (fun e => by simp [Value.ownBlock] at e)).trans BX59.out)
            clear hown60 hgr60
            refine hK.out _ _ ?_ (fun hHeld => ?_)
            · exact ⟨keep1 HB61.out d1, keep1 HB61.out d2⟩
            clear hK K
            (try simp only [Act.put, List.setIfInBounds_toArray, List.set_cons_zero, List.set_cons_succ])
            refine wpAnyH_ready (rs := [10]) (by kernel_rfl) (by simp) ?_
            refine AllReadyH.cons (o := { dst := some 42, op := Op.call { callee := Callee.builtin Builtin.append, args := #[Operand.tmp 36, Operand.tmp 41], argTypes := #[36, 36] }, type := 36, pos := "l2_counts.go:213", after := #[{ on := 4, ground := Ground.data }, { on := 9, ground := Ground.data }, { on := 4, ground := Ground.chain }], guard := none }) rfl (fun K hK => ?_) AllReadyH.nil
            refine step_append_any _ (by rfl) _ _ 36 (by rfl) wc.heap.size 44 i0 (.agg #[.string ⟨#[]⟩, .slice none 0 0]) 2 40 Try.underlying36 hi0 hzz hzs hzb rfl (by decide) (.slice (some ⟨g60, 0, none⟩) k c60) k xsA (by rfl) OW62.out (by simp) ⟨wc.heap.size + 1, 0, none⟩ 1 1 [.string lb, .slice sa sn sc] (by rfl) (by rfl) (World.news_of_block BX63.out) (by simp [Value.oneCell']) (k + 1) (xsA ++ [.string lb, .slice sa sn sc]) (by rfl) (by rfl) (by unfold maxLen; omega) (by omega) HB61.out.size ?_
            intro g64 c64 w64 hown64 hgr64
            have HB65 := Lib.hid (HB61.out.grown hgr64 HB61.out.size (fun q e => (OW62.out.lt q e).1))
            have OW66 := Lib.hid hown64
            clear hown64 hgr64
            refine hK.out _ _ ?_ (fun hHeld => ?_)
            · exact ⟨keep1 HB65.out d1, keep1 HB65.out d2⟩
            clear hK K
            (try simp only [Act.put, List.setIfInBounds_toArray, List.set_cons_zero, List.set_cons_succ])
            refine wpAnyH_ready (rs := [14]) (by kernel_rfl) (by simp) ?_
            refine AllReadyH.cons (o := { dst := some 46, op := Op.call { callee := Callee.builtin Builtin.append, args := #[Operand.tmp 42, Operand.tmp 45], argTypes := #[36, 36] }, type := 36, pos := "l2_counts.go:213", after := #[{ on := 10, ground := Ground.data }, { on := 13, ground := Ground.data }, { on := 10, ground := Ground.chain }], guard := none }) rfl (fun K hK => ?_) AllReadyH.nil
            refine step_append_any _ (by rfl) _ _ 36 (by rfl) wc.heap.size 44 i0 (.agg #[.string ⟨#[]⟩, .slice none 0 0]) 2 40 Try.underlying36 hi0 hzz hzs hzb rfl (by decide) (.slice (some ⟨g64, 0, none⟩) (k + 1) c64) (k + 1) (xsA ++ [.string lb, .slice sa sn sc]) (by rfl) OW66.out (by simp) ⟨gq, k * 2, none⟩ (i - k) _ xsC (by rfl) XC1.out (fun j u hu => keep1 HB65.out (XC2.out j u hu)) XC3.out (i + 1) ((xsA ++ [.string lb, .slice sa sn sc]) ++ xsC) (by omega) (by rfl) (by unfold maxLen; omega) (by omega) HB65.out.size ?_
            intro g67 c67 w67 hown67 hgr67
            have HB68 := Lib.hid (HB65.out.grown hgr67 HB65.out.size (fun q e => (OW66.out.lt q e).1))
            have OW69 := Lib.hid hown67
            clear hown67 hgr67
            refine hK.out _ _ ?_ (fun hHeld => ?_)
            · exact ⟨keep1 HB68.out d1, keep1 HB68.out d2⟩
            clear hK K
            (try simp only [Act.put, List.setIfInBounds_toArray, List.set_cons_zero, List.set_cons_succ])
            refine wpAnyH_take (i := 15) (oi := { dst := some 3, op := Op.assign (Operand.tmp 46), type := 36, pos := "l2_counts.go:213", after := #[{ on := 14, ground := Ground.data }, { on := 14, ground := Ground.chain }, { on := 0, ground := Ground.phase }, { on := 1, ground := Ground.phase }, { on := 2, ground := Ground.phase }, { on := 3, ground := Ground.phase }, { on := 4, ground := Ground.phase }, { on := 5, ground := Ground.phase }, { on := 6, ground := Ground.phase }, { on := 7, ground := Ground.phase }, { on := 8, ground := Ground.phase }, { on := 9, ground := Ground.phase }, { on := 10, ground := Ground.phase }, { on := 11, ground := Ground.phase }, { on := 12, ground := Ground.phase }, { on := 13, ground := Ground.phase }, { on := 14, ground := Ground.phase }], guard := none }) (v := ?_) rfl (by kernel_rfl) (by kernel_rfl) (by kernel_rfl) (fun _ _ _ h => h) (Or.inl ⟨by rfl, ?_⟩) (by assumption) ?_
            rotate_left
            · (intro w hSw; (try dsimp only at hSw); go_simp <;> with_reducible rfl)
            (try simp only [Act.put, List.setIfInBounds_toArray, List.set_cons_zero, List.set_cons_succ])
            refine wpAnyH_done (by kernel_rfl) ?_ _
            all_goals
              go_wp2_with fail
              go_roundw
              case rel => exact FIN.out _ _ _ OW69.out HB68.out
              case measure => simp [intOf]; omega
          refine AllReadyH.cons (o := { dst := some 41, op := Op.buildSlice 36 1 #[(0, Operand.tmp 40)], type := 36, pos := "l2_counts.go:213", after := #[{ on := 8, ground := Ground.data }], guard := none }) rfl (fun K hK => ?_) AllReadyH.nil
          go_simp
          go_wp2_with fail
          have HB70 := Lib.hid (HBD.out.alloc HBD.out.size (.cells #[.string lb, .slice sa sn sc] 44 (0, 0)))
          have BX71 : Hid ((wc.drew.alloc (.cells #[.string lb, .slice sa sn sc] 44 (0, 0))).heap[wc.heap.size]? = some (.cells #[.string lb, .slice sa sn sc] 44 (0, 0))) := Lib.hid (by exact heap_alloc_new wc.drew _)
          refine hK.out _ _ ?_ (fun hHeld => ?_)
          · exact ⟨keep1 HB70.out d1, keep1 HB70.out d2⟩
          clear hK K
          (try simp only [Act.put, List.setIfInBounds_toArray, List.set_cons_zero, List.set_cons_succ])
          refine wpAnyH_ready (rs := [0]) (by kernel_rfl) (by simp) ?_
          refine AllReadyH.cons (o := { dst := some 32, op := Op.buildSlice 36 0 #[], type := 36, pos := "l2_counts.go:213", after := #[], guard := none }) rfl (fun K hK => ?_) AllReadyH.nil
          go_simp
          go_wp2_with fail
          have HB72 := Lib.hid (HB70.out.alloc HB70.out.size (.cells #[] 44 (0, 0)))
          have OW73 : Hid (World.ownsRow ((wc.drew.alloc (.cells #[.string lb, .slice sa sn sc] 44 (0, 0))).alloc (.cells #[] 44 (0, 0))) wc.heap.size 44 2 (.slice (some ⟨wc.heap.size + 1, 0, none⟩) 0 0) 0 []) := Lib.hid (by rw [show wc.heap.size + 1 = (wc.drew.alloc (.cells #[.string lb, .slice sa sn sc] 44 (0, 0))).heap.size by simp]; exact World.ownsRow_made (wc.drew.alloc (.cells #[.string lb, .slice sa sn sc] 44 (0, 0))) #[] 0 HB70.out.size (by simp [maxLen]) rfl)
          have BX74 := Lib.hid ((Below.heap_alloc (wc.drew.alloc (.cells #[.string lb, .slice sa sn sc] 44 (0, 0))) (.cells #[] 44 (0, 0)) _ (Array.getElem?_eq_some_iff.1 BX71.out).1).trans BX71.out)
          refine hK.out _ _ ?_ (fun hHeld => ?_)
          · exact ⟨keep1 HB72.out d1, keep1 HB72.out d2⟩
          clear hK K
          (try simp only [Act.put, List.setIfInBounds_toArray, List.set_cons_zero, List.set_cons_succ])
          refine wpAnyH_ready (rs := [4]) (by kernel_rfl) (by simp) ?_
          refine AllReadyH.cons (o := { dst := some 36, op := Op.call { callee := Callee.builtin Builtin.append, args := #[Operand.tmp 32, Operand.tmp 35], argTypes := #[36, 36] }, type := 36, pos := "l2_counts.go:213", after := #[{ on := 0, ground := Ground.data }, { on := 3, ground := Ground.data }], guard := none }) rfl (fun K hK => ?_) AllReadyH.nil
          refine step_append_any _ (by rfl) _ _ 36 (by rfl) wc.heap.size 44 i0 (.agg #[.string ⟨#[]⟩, .slice none 0 0]) 2 40 Try.underlying36 hi0 hzz hzs hzb rfl (by decide) (.slice (some ⟨wc.heap.size + 1, 0, none⟩) 0 0) 0 [] (by rfl) OW73.out (by simp) ⟨gq, 0, none⟩ k cq xsA (by rfl) XA1.out (fun j u hu => keep1 HB72.out (XA2.out j u hu)) XA3.out k xsA (by omega) (by rfl) (by unfold maxLen; omega) (by omega) HB72.out.size ?_
          intro g75 c75 w75 hown75 hgr75
          have HB76 := Lib.hid (HB72.out.grown hgr75 HB72.out.size (fun q e => (OW73.out.lt q e).1))
          have OW77 := Lib.hid hown75
          have BX78 := Lib.hid ((hgr75.block _ (Array.getElem?_eq_some_iff.1 BX74.out).1 (fun e => by simp [Value.ownBlock] at e)).trans BX74.out)
          clear hown75 hgr75
          refine hK.out _ _ ?_ (fun hHeld => ?_)
          · exact ⟨keep1 HB76.out d1, keep1 HB76.out d2⟩
          clear hK K
          (try simp only [Act.put, List.setIfInBounds_toArray, List.set_cons_zero, List.set_cons_succ])
          refine wpAnyH_ready (rs := [10]) (by kernel_rfl) (by simp) ?_
          refine AllReadyH.cons (o := { dst := some 42, op := Op.call { callee := Callee.builtin Builtin.append, args := #[Operand.tmp 36, Operand.tmp 41], argTypes := #[36, 36] }, type := 36, pos := "l2_counts.go:213", after := #[{ on := 4, ground := Ground.data }, { on := 9, ground := Ground.data }, { on := 4, ground := Ground.chain }], guard := none }) rfl (fun K hK => ?_) AllReadyH.nil
          refine step_append_any _ (by rfl) _ _ 36 (by rfl) wc.heap.size 44 i0 (.agg #[.string ⟨#[]⟩, .slice none 0 0]) 2 40 Try.underlying36 hi0 hzz hzs hzb rfl (by decide) (.slice (some ⟨g75, 0, none⟩) k c75) k xsA (by rfl) OW77.out (by simp) ⟨wc.heap.size, 0, none⟩ 1 1 [.string lb, .slice sa sn sc] (by rfl) (by rfl) (World.news_of_block BX78.out) (by simp [Value.oneCell']) (k + 1) (xsA ++ [.string lb, .slice sa sn sc]) (by rfl) (by rfl) (by unfold maxLen; omega) (by omega) HB76.out.size ?_
          intro g79 c79 w79 hown79 hgr79
          have HB80 := Lib.hid (HB76.out.grown hgr79 HB76.out.size (fun q e => (OW77.out.lt q e).1))
          have OW81 := Lib.hid hown79
          clear hown79 hgr79
          refine hK.out _ _ ?_ (fun hHeld => ?_)
          · exact ⟨keep1 HB80.out d1, keep1 HB80.out d2⟩
          clear hK K
          (try simp only [Act.put, List.setIfInBounds_toArray, List.set_cons_zero, List.set_cons_succ])
          refine wpAnyH_ready (rs := [14]) (by kernel_rfl) (by simp) ?_
          refine AllReadyH.cons (o := { dst := some 46, op := Op.call { callee := Callee.builtin Builtin.append, args := #[Operand.tmp 42, Operand.tmp 45], argTypes := #[36, 36] }, type := 36, pos := "l2_counts.go:213", after := #[{ on := 10, ground := Ground.data }, { on := 13, ground := Ground.data }, { on := 10, ground := Ground.chain }], guard := none }) rfl (fun K hK => ?_) AllReadyH.nil
          refine step_append_any _ (by rfl) _ _ 36 (by rfl) wc.heap.size 44 i0 (.agg #[.string ⟨#[]⟩, .slice none 0 0]) 2 40 Try.underlying36 hi0 hzz hzs hzb rfl (by decide) (.slice (some ⟨g79, 0, none⟩) (k + 1) c79) (k + 1) (xsA ++ [.string lb, .slice sa sn sc]) (by rfl) OW81.out (by simp) ⟨gq, k * 2, none⟩ (i - k) _ xsC (by rfl) XC1.out (fun j u hu => keep1 HB80.out (XC2.out j u hu)) XC3.out (i + 1) ((xsA ++ [.string lb, .slice sa sn sc]) ++ xsC) (by omega) (by rfl) (by unfold maxLen; omega) (by omega) HB80.out.size ?_
          intro g82 c82 w82 hown82 hgr82
          have HB83 := Lib.hid (HB80.out.grown hgr82 HB80.out.size (fun q e => (OW81.out.lt q e).1))
          have OW84 := Lib.hid hown82
          clear hown82 hgr82
          refine hK.out _ _ ?_ (fun hHeld => ?_)
          · exact ⟨keep1 HB83.out d1, keep1 HB83.out d2⟩
          clear hK K
          (try simp only [Act.put, List.setIfInBounds_toArray, List.set_cons_zero, List.set_cons_succ])
          refine wpAnyH_take (i := 15) (oi := { dst := some 3, op := Op.assign (Operand.tmp 46), type := 36, pos := "l2_counts.go:213", after := #[{ on := 14, ground := Ground.data }, { on := 14, ground := Ground.chain }, { on := 0, ground := Ground.phase }, { on := 1, ground := Ground.phase }, { on := 2, ground := Ground.phase }, { on := 3, ground := Ground.phase }, { on := 4, ground := Ground.phase }, { on := 5, ground := Ground.phase }, { on := 6, ground := Ground.phase }, { on := 7, ground := Ground.phase }, { on := 8, ground := Ground.phase }, { on := 9, ground := Ground.phase }, { on := 10, ground := Ground.phase }, { on := 11, ground := Ground.phase }, { on := 12, ground := Ground.phase }, { on := 13, ground := Ground.phase }, { on := 14, ground := Ground.phase }], guard := none }) (v := ?_) rfl (by kernel_rfl) (by kernel_rfl) (by kernel_rfl) (fun _ _ _ h => h) (Or.inl ⟨by rfl, ?_⟩) (by assumption) ?_
          rotate_left
          · (intro w hSw; (try dsimp only at hSw); go_simp <;> with_reducible rfl)
          (try simp only [Act.put, List.setIfInBounds_toArray, List.set_cons_zero, List.set_cons_succ])
          refine wpAnyH_done (by kernel_rfl) ?_ _
          all_goals
            go_wp2_with fail
            go_roundw
            case rel => exact FIN.out _ _ _ OW84.out HB83.out
            case measure => simp [intOf]; omega
    · have hin : i = n := by omega
      have HD : Hid (us.Perm ts) := Lib.hid (by
        have := HPERM.out
        rw [hin, HNT.out, List.take_length] at this
        exact this)
      go_wp2_with fail
      go_ret
      refine ⟨us, HASC.out, HD.out, HB.out, gq, cq, by rw [HUL.out]; rfl, by rw [HUL.out]; exact hc1, hc2, HRU.out⟩
end Go.Proofs.Ytapobhnhnldlkaa
