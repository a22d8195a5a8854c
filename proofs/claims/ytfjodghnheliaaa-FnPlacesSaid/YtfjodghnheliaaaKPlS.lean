/- Merged out of: XPlM, XPlS. -/
import Derived.Test.YtfjodghnheliaaaKFree
import Derived.Test.YtfjodghnheliaaaKAll
section
/- The places of one pattern: plain mathematics; texts in a row. -/
namespace Go.Proofs.Ytfjodghnheliaaa
open Go.RowKit

def plAt (p t : T) (k : Nat) : Option (Nat × List T) := (t.subs[k]?).bind fun q => (p.partsOf q).map fun ts => (k, ts)
/-- The places of a pattern at the first k nodes. -/
def plUp (p t : T) (k : Nat) : List (Nat × List T) := (List.range k).filterMap (plAt p t)
def plAll (p t : T) : List (Nat × List T) := plUp p t t.nodes

theorem plUp_succ (p t : T) (k : Nat) : plUp p t (k + 1) = plUp p t k ++ (plAt p t k).toList := by
  rw [plUp, plUp, List.range_succ, List.filterMap_append]
  congr 1
theorem plAt_none {p t q : T} {k : Nat} (h : t.subs[k]? = some q) (hp : p.partsOf q = none) : plAt p t k = none := by rw [plAt, h]; simp [hp]
theorem plAt_some {p t q : T} {k : Nat} {ts : List T} (h : t.subs[k]? = some q) (hp : p.partsOf q = some ts) : plAt p t k = some (k, ts) := by rw [plAt, h]; simp [hp]
theorem plUp_length (p t : T) (k : Nat) : (plUp p t k).length ≤ k := by rw [plUp]; exact Nat.le_trans (List.length_filterMap_le _ _) (by simp)

theorem plUp_stUp (p t : T) : ∀ k, k ≤ t.subs.length → (stUp [p] (t.subs.take k) 0).map (fun x => x.2) = plUp p t k
  | 0, _ => by simp [stUp, plUp]
  | k + 1, h => by
    have hk : k < t.subs.length := by omega
    rw [List.take_succ_eq_append_getElem hk, stUp_snoc, List.map_append, plUp_stUp p t k (by omega), plUp_succ]
    congr 1
    rw [List.length_take, Nat.min_eq_left (by omega), List.length_singleton, stRow_succ, stRow_zero, List.nil_append]
    cases hp : p.partsOf t.subs[k] with
    | none => rw [stOf_none (by simp) (by simpa using hp), plAt_none (List.getElem?_eq_getElem hk) hp]; rfl
    | some ts => rw [stOf_some (ts := ts) (by simp) (by simpa using hp), plAt_some (List.getElem?_eq_getElem hk) hp]; rfl

theorem plAll_stAll (p t : T) : (stAll [p] t).map (fun x => x.2) = plAll p t := by
  have h := plUp_stUp p t t.subs.length (Nat.le_refl _)
  rw [List.take_length, subs_length] at h
  exact h

/-- What PatternPlaces answers. -/
def plV (pat s : ByteArray) : Option (List (Nat × List T)) :=
  match patOf pat, parse s.data.toList with
  | some p, some t => some (plAll p t)
  | _, _ => none
def plTx (x : Nat × List T) : Nat × List (List UInt8) := (x.1, x.2.map T.text)
def plTxs (pat s : ByteArray) : List (Nat × List (List UInt8)) := ((plV pat s).getD []).map plTx

theorem inV_pl (pat s : ByteArray) : inV pat s = ((plV pat s).isSome && decide (0 < (plTxs pat s).length)) := by
  unfold inV plTxs plV
  cases patOf pat with
  | none => rfl
  | some p =>
    cases parse s.data.toList with
    | none => rfl
    | some t =>
      have h1 := stAll_free [p] t
      have h2 := plAll_stAll p t
      simp only [List.all_cons, List.all_nil, Bool.and_true] at h1
      simp only [Option.isSome_some, Bool.true_and, Option.getD_some, List.length_map]
      rw [← h2, List.length_map]
      cases hl : stAll [p] t with
      | nil => rw [hl] at h1; simp at h1; rw [h1]; rfl
      | cons x xs => rw [hl] at h1; simp at h1; rw [h1]; simp

/-- A place: its node, and its parts' texts in a row of their own. -/
def plE : Elt (Nat × List (List UInt8)) where
  size := 2
  R w P x cs := ∃ g cap, cs = [.int .i64 x.1, .slice (some ⟨g, 0, none⟩) x.2.length cap] ∧ P g ∧ 0 < x.2.length ∧ ∀ j (h : j < x.2.length), w.cell? ⟨g, j, none⟩ = some (.string ⟨(x.2[j]).toArray⟩)
  len := by rintro w P t cs ⟨g, cap, rfl, _⟩; rfl
  one := by
    rintro w P t cs ⟨g, cap, rfl, _⟩ u hu
    simp at hu
    rcases hu with rfl | rfl <;> rfl
  keep := by
    rintro w w' P P' t cs hk hp ⟨g, cap, rfl, hg, h0, hl⟩
    exact ⟨g, cap, rfl, hp g hg (World.block_lt_of_cell? w ⟨g, 0, none⟩ (hl 0 h0)), h0, fun j hj => hk _ _ hg (hl j hj)⟩
end Go.Proofs.Ytfjodghnheliaaa
end
section
/- The model tells the places of a pattern. -/
namespace Go.Proofs.Ytfjodghnheliaaa
open Go.RowKit

set_option maxRecDepth 100000 in
set_option maxHeartbeats 4000000 in
theorem l2Texts_any (ts : List T) (n : Nat) (hnt : n = ts.length) (hn : n ≤ 1000) (g cap : Nat) (w : World) (hts : ∀ t ∈ ts, t.text.length ≤ 100000) (hrd : Rd trS w (fun b => b < w.heap.size) (some ⟨g, 0, none⟩) ts) :
    Calls Try.prog 66 #[.slice (some ⟨g, 0, none⟩) n cap] w (fun e w' => Below w.heap.size w w' ∧ ∃ g' c, e = .returned (.slice (some ⟨g', 0, none⟩) n c) ∧ w.heap.size ≤ g' ∧ ∀ j (h : j < ts.length), w'.cell? ⟨g', j, none⟩ = some (.string ⟨(ts[j]).text.toArray⟩)) := by
  have HRD := Lib.hid hrd
  have HTS := Lib.hid hts
  have HNN := Lib.hid hnt
  clear hrd hts hnt
  obtain ⟨i0, hi0, hzz, hzs, hzb⟩ := info_parts info9
  go_enter Try.func66, Try.ntmps66
  go_wp2_with fail
  go_loopw [3, 4] (fun ov iv wr => ∃ (k : Nat) (va : Option Addr) (vc : Nat) (vs : List Value), k ≤ n ∧ va ≠ none ∧ iv = .int .i64 k ∧ ov = .slice va k vc ∧ Row txE 9 w.heap.size ((ts.take k).map T.text) (.slice va k vc) vs wr ∧ Below w.heap.size w wr) (fun _ iv _ => n - (intOf iv).toNat)
  case atStart =>
    refine ⟨0, some ⟨w.heap.size, 0, none⟩, 0, [], Nat.zero_le _, by simp, rfl, rfl, ?_, (Below.refl _ _).alloc (Nat.le_refl _) _⟩
    exact ⟨World.ownsRow_made w #[] 0 (Nat.le_refl _) (by simp [maxLen]) rfl, fun _ h => by simp at h⟩
  case round =>
    obtain ⟨k, va, vc, vs, hk, hva, rfl, rfl, hrow, hB⟩ := hrel
    have HVA := Lib.hid hva
    have HROW := Lib.hid hrow
    have HB := Lib.hid hB
    have hszr : w.heap.size ≤ wr.heap.size := hB.size
    have hlk : ((ts.take k).map T.text).length = k := by rw [List.length_map, List.length_take]; have := HNN.out; omega
    have HLK := Lib.hid hlk
    by_cases hlt : k < n
    · have hkt : k < ts.length := by rw [← HNN.out]; exact hlt
      obtain ⟨g', lb, sa, sn, sc, e, hg, c0, c1, htw, hrt⟩ := trS.get (HRD.out.below (by decide) hB) k hkt
      cases e
      have htl := HTS.out ts[k] (List.getElem_mem hkt)
      obtain ⟨t, ht⟩ : ∃ t, t = ts[k] := ⟨_, rfl⟩
      rw [← ht] at htw hrt htl
      have HT := Lib.hid ht
      have HX := Lib.hid (l1Text_any _ t (.string lb) (.slice sa sn sc) wr _ (Nat.le_refl _) htw htl hrt)
      obtain ⟨tx, htx⟩ : ∃ tx, tx = t.text := ⟨_, rfl⟩
      rw [← htx] at HX
      have HTX := Lib.hid htx
      clear hva hrow hB hlk hrt ht htx
      go_wp2_with fail
      refine HX.out.mono ?_
      rintro e w1 ⟨rfl, hB1⟩
      have HB1 := Lib.hid hB1
      have hs1 := hB1.size
      have OWN := owns_below HROW.out.own hB1
      rw [HLK.out] at OWN
      have HOWN := Lib.hid OWN
      have HOA := Lib.hid (World.ownsRow.alloc OWN (.cells #[.string ⟨tx.toArray⟩] 9 (0, 0)))
      clear hB1 OWN
      go_wp2_with (at_builtin; refine wpList_append_own_at _ rfl _ _ 29 rfl w.heap.size 9 i0 (.string ⟨#[]⟩) 1 16 Try.underlying29 hi0 hzz hzs hzb rfl (by decide) (.slice va k vc) k vs rfl HOA.out ⟨w1.heap.size, 0, none⟩ 1 1 [.string ⟨tx.toArray⟩] rfl rfl (cells_one rfl _) (by simp [Value.oneCell']) (by unfold maxLen; omega) (by omega) (by simp; omega) ?_; intro v3 w6 hown3 hg3 hnil3 hat3)
      obtain ⟨g3, q3, rfl, _, _, _⟩ := owns_some hown3 (fun e => by have := hnil3.1 e; simp at this)
      have NX : Row txE 9 w.heap.size ((ts.take (k + 1)).map T.text) (.slice (some ⟨g3, 0, none⟩) (k + 1) q3) (vs ++ [.string ⟨tx.toArray⟩]) w6 := by
        have h := HROW.out.next (a := tx) (g := g3) (cap := q3) (w1 := w1) (w1' := w1.alloc (.cells #[.string ⟨tx.toArray⟩] 9 (0, 0))) HB1.out rfl ((Below.refl _ _).alloc (Nat.le_refl _) _) (by rw [HLK.out]; exact hown3) hg3 (by
          rcases hat3 with h | h
          · left; rw [← h]; rfl
          · right; simp [Value.ownBlock] at h; omega)
        rw [HLK.out] at h
        rw [List.take_succ_eq_append_getElem hkt, List.map_append, List.map_cons, List.map_nil, ← HT.out, ← HTX.out]
        exact h
      have HNX := Lib.hid NX
      have BB := Lib.hid (((below_step HB.out HB1.out).alloc (by omega) (.cells #[.string ⟨tx.toArray⟩] 9 (0, 0))).grown hg3 (by simp; omega) (fun q e => by have := (HOWN.out.lt q e).1; omega))
      clear NX hown3 hg3 hnil3 hat3
      go_wp2_with fail
      go_roundw
      case rel => exact ⟨k + 1, some ⟨g3, 0, none⟩, q3, _, by omega, by simp, by go_num, rfl, HNX.out, BB.out⟩
      case measure => simp [intOf]; omega
    · have hkn : k = n := by omega
      subst hkn
      obtain ⟨gv, rfl, hgb⟩ := owns_addr HROW.out.own HVA.out
      have hl := txE.lies HROW.out.rd
      rw [HNN.out, List.take_length] at hl
      have HL := Lib.hid hl
      clear hva hrow hlk hl
      go_wp2_with fail
      go_ret
      refine ⟨HB.out, gv, vc, rfl, hgb, fun j hj => ?_⟩
      obtain ⟨g', e, hc⟩ := HL.out j (by rw [List.length_map]; exact hj)
      cases e
      rw [hc]; simp

/-- Blocks between a row's base and a later world stay as they were there; the row's own block is the base's or newer. -/
structure Mid (w W0 : World) (own : Option Nat) (wr : World) : Prop where
  own : ∀ g, own = some g → g = w.heap.size ∨ W0.heap.size ≤ g
  mid : ∀ b, w.heap.size + 1 ≤ b → b < W0.heap.size → wr.heap[b]? = W0.heap[b]?
  size : W0.heap.size ≤ wr.heap.size
  below : Below w.heap.size w wr

theorem Mid.rep {w W0 wr : World} {own : Option Nat} {t : T} {l s : Value} (h : Mid w W0 own wr) (ht : t.wf) (hr : RepS W0 (fun b => w.heap.size + 1 ≤ b ∧ b < W0.heap.size) t l s) : RepS wr (fun b => b < wr.heap.size) t l s :=
  hr.keep (fun q u hq hu => by rw [World.cell?_of_block (h.mid q.block hq.1 hq.2)]; exact hu) (fun b hb _ => by have := h.size; omega) ht
theorem Mid.step {w W0 wr w2 : World} {own : Option Nat} (h : Mid w W0 own wr) (hb : Below wr.heap.size wr w2) : Mid w W0 own w2 :=
  ⟨h.own, fun b h1 h2 => (hb.block b (Nat.lt_of_lt_of_le h2 h.size)).trans (h.mid b h1 h2), Nat.le_trans h.size hb.size, below_step h.below hb⟩
theorem Mid.next {w W0 wr w6 : World} {own : Option Nat} {g3 : Nat} (h : Mid w W0 own wr) (hW : w.heap.size < W0.heap.size) (hg3 : wr.grownBy w6 own) (hat : own = some g3 ∨ W0.heap.size ≤ g3) : Mid w W0 (some g3) w6 := by
  have hs := hg3.size
  have hsz := h.size
  refine ⟨fun g e => ?_, fun b h1 h2 => ?_, by omega, h.below.grown hg3 (by omega) (fun q e => by rcases h.own q e with h | h <;> omega)⟩
  · cases e
    rcases hat with e | e
    · exact h.own _ e
    · exact .inr e
  · rw [hg3.block b (by omega) (fun e => by rcases h.own b e.symm with h | h <;> omega)]
    exact h.mid b h1 h2

/-- What 'spec.PatternPlaces' answers. -/
def PlsS (us : List (Nat × List (List UInt8))) (b : Bool) (w : World) (e : Ending) (w' : World) : Prop :=
  Below w.heap.size w w' ∧ ∃ (va : Option Addr) (n c : Nat), e = .returned (.tuple #[.slice va n c, .bool b]) ∧ n = us.length ∧ Rd plE w' (fun _ => True) va us

theorem infoPl : (Try.prog.info? 47).map (fun i => (i.zero, i.size, i.bytes)) = some (some (.agg #[.int .i64 0, .slice none 0 0]), 2, 32) := by kernel_rfl

theorem plV_n1 {p q : ByteArray} (h : patOf p = none) : plV p q = none := by rw [plV, h]
theorem plV_n2 {p q : ByteArray} (h : parse q.data.toList = none) : plV p q = none := by rw [plV, h]; cases patOf p <;> rfl

set_option maxRecDepth 100000 in
set_option maxHeartbeats 4000000 in
theorem sPlaces_any (p q : ByteArray) (w : World) (hp : p.size ≤ 1048576) (hq : q.size ≤ 1048576) :
    Calls Try.prog 27 #[.string p, .string q] w (PlsS (plTxs p q) (plV p q).isSome w) := by
  have HP := Lib.hid (fun (W : World) => l4Pattern_any p W hp)
  have HQ := Lib.hid (fun (W : World) => l1Parse_any q W (by omega))
  obtain ⟨i0, hi0, hzz, hzs, hzb⟩ := info_parts infoPl
  go_enter Try.func27, Try.ntmps27
  go_wp2_with fail
  refine (HP.out _).mono ?_
  rintro e w1 ⟨hB1, pb, pa, pn, pc, b1, rfl, hres1⟩
  have hs1 : w.heap.size + 1 ≤ w1.heap.size := by have := hB1.size; simpa using this
  have HA0 := Lib.hid ((Below.refl w.heap.size w).alloc (Nat.le_refl _) (.cells #[] 47 (0, 0)))
  have HB1 := Lib.hid hB1
  have HR1 := Lib.hid hres1
  clear hB1 hres1
  go_wp2_with fail
  refine (HQ.out _).mono ?_
  rintro e w2 ⟨hB2, qb, qa, qn, qc, b2, rfl, hres2⟩
  have HX1 := Lib.hid ((Below.refl w1.heap.size w1).alloc (Nat.le_refl _) (.cells #[.string pb, .slice pa pn pc] 70 (0, 0)))
  have HB12 := Lib.hid (below_step HX1.out hB2)
  have hz1 := (hB2.block w1.heap.size (by simp)).trans (heap_alloc_new w1 (.cells #[.string pb, .slice pa pn pc] 70 (0, 0)))
  have hs12 : w1.heap.size + 1 ≤ w2.heap.size := by have := hB2.size; simpa using this
  have HZ1 := Lib.hid hz1
  have HX2 := Lib.hid ((Below.refl w2.heap.size w2).alloc (Nat.le_refl _) (.cells #[.string qb, .slice qa qn qc] 70 (0, 0)))
  have HB2 : Hid (Below w.heap.size w (w2.alloc (.cells #[.string qb, .slice qa qn qc] 70 (0, 0)))) := Lib.hid (below_step (below_step (below_step HA0.out HB1.out) HB12.out) HX2.out)
  clear hB2 hz1
  rcases HR1.out with ⟨hno, rfl⟩ | ⟨x, hyx, rfl, hrx⟩
  · have HN := Lib.hid (plV_n1 (q := q) hno)
    clear hno hres2
    go_wp2_with fail
    go_ret2
    rw [plTxs, HN.out]
    exact ⟨HB2.out, _, _, _, rfl, rfl, Rd.nil⟩
  · rcases hres2 with ⟨hno, rfl⟩ | ⟨y, hyy, rfl, hry⟩
    · have HN := Lib.hid (plV_n2 (p := p) hno)
      clear hno hyx hrx
      go_wp2_with fail
      go_ret2
      rw [plTxs, HN.out]
      exact ⟨HB2.out, _, _, _, rfl, rfl, Rd.nil⟩
    · obtain ⟨hwx, _, hlx, hnx⟩ := parse_some (patOf_some hyx).1
      obtain ⟨hwy, _, hly, hny⟩ := parse_some hyy
      have HAV : Hid (plV p q = some (plUp x y y.nodes)) := Lib.hid (by rw [plV, hyx, hyy]; rfl)
      obtain ⟨W0, hW0⟩ : ∃ W0, W0 = w2.alloc (.cells #[.string qb, .slice qa qn qc] 70 (0, 0)) := ⟨_, rfl⟩
      have hsW : W0.heap.size = w2.heap.size + 1 := by rw [hW0]; simp
      have HRX : Hid (RepS W0 (fun b => w.heap.size + 1 ≤ b ∧ b < W0.heap.size) x (.string pb) (.slice pa pn pc)) := Lib.hid (by
        rw [hW0]
        exact ((((hrx.keep (P' := fun b => w.heap.size + 1 ≤ b) (fun _ _ _ h => h) (fun b h _ => by simpa using h) hwx).below hwx HB12.out).below hwx HX2.out).keep (fun _ _ _ h => h) (fun b h hlt => ⟨h, hlt⟩) hwx))
      have HRY : Hid (RepS W0 (fun b => w.heap.size + 1 ≤ b ∧ b < W0.heap.size) y (.string qb) (.slice qa qn qc)) := Lib.hid (by
        rw [hW0]
        exact ((((hry.keep (P' := fun b => w.heap.size + 1 ≤ b) (fun _ _ _ h => h) (fun b h _ => by have h2 := h; simp at h2; omega) hwy).below hwy HX2.out).keep (fun _ _ _ h => h) (fun b h hlt => ⟨h, hlt⟩) hwy)))
      have HZX : Hid (W0.heap[w1.heap.size]? = some (.cells #[.string pb, .slice pa pn pc] 70 (0, 0))) := Lib.hid (by
        rw [hW0, Below.heap_alloc _ _ _ (by omega)]; exact HZ1.out)
      have HZY : Hid (W0.heap[w2.heap.size]? = some (.cells #[.string qb, .slice qa qn qc] 70 (0, 0))) := Lib.hid (by rw [hW0]; exact heap_alloc_new w2 _)
      have R0 : Hid (Row (plE.inn (fun b => w.heap.size + 1 ≤ b)) 47 w.heap.size [] (.slice (some ⟨w.heap.size, 0, none⟩) 0 0) [] W0 ∧ Mid w W0 (some w.heap.size) W0) := Lib.hid (by
        have hB := HB2.out
        rw [← hW0] at hB
        refine ⟨⟨?_, fun _ h => by simp at h⟩, fun g e => ?_, fun _ _ _ => rfl, Nat.le_refl _, hB⟩
        · have h0 : (w.alloc (.cells #[] 47 (0, 0))).ownsRow w.heap.size 47 2 (.slice (some ⟨w.heap.size, 0, none⟩) 0 0) 0 [] := World.ownsRow_made w #[] 0 (Nat.le_refl _) (by simp [maxLen]) rfl
          have h1 := owns_below (owns_below (owns_below h0 HB1.out) HB12.out) HX2.out
          rw [← hW0] at h1
          exact h1
        · cases e; exact .inl rfl)
      have HW0 := Lib.hid hW0
      have HWS := Lib.hid hsW
      have hwW : w.heap.size + 1 < W0.heap.size := by omega
      obtain ⟨N, hN⟩ : ∃ N, N = y.nodes := ⟨_, rfl⟩
      have HNY := Lib.hid hN
      rw [← hN] at HAV hny
      clear hyx hyy hrx hry hN hW0 hsW HX2 HB2
      go_wp2_with fail
      rw [← HW0.out]
      go_loopw [6, 11] (fun ov iv wr => ∃ (k n : Nat) (va : Option Addr) (vc : Nat) (vs : List Value), k ≤ N ∧ n = (plUp x y k).length ∧ va ≠ none ∧ iv = .int .i64 k ∧ ov = .slice va n vc ∧ Row (plE.inn (fun b => w.heap.size + 1 ≤ b)) 47 w.heap.size ((plUp x y k).map plTx) (.slice va n vc) vs wr ∧ Mid w W0 (Value.slice va n vc).ownBlock wr) (fun _ iv _ => N - (intOf iv).toNat)
      case atStart => exact ⟨0, 0, _, 0, [], Nat.zero_le _, rfl, by simp, rfl, rfl, R0.out.1, R0.out.2⟩
      case round =>
        obtain ⟨k, n, va, vc, vs, hk, hn, hva, rfl, rfl, hrow, hmid⟩ := hrel
        have HN := Lib.hid hn
        have HVA := Lib.hid hva
        have HROW := Lib.hid hrow
        have HMID := Lib.hid hmid
        have hnk : n ≤ k := by rw [hn]; exact plUp_length x y k
        have hsz : W0.heap.size ≤ wr.heap.size := hmid.size
        obtain ⟨x0, x1, _, _⟩ := two_cells ((hmid.mid w1.heap.size (by omega) (by have := HWS.out; omega)).trans HZX.out)
        obtain ⟨y0, y1, _, _⟩ := two_cells ((hmid.mid w2.heap.size (by omega) (by have := HWS.out; omega)).trans HZY.out)
        have HRYr := Lib.hid (hmid.rep hwy HRY.out)
        have HRXr := Lib.hid (hmid.rep hwx HRX.out)
        have hw1r : w1.heap.size < wr.heap.size := by have := HWS.out; omega
        have hw2r : w2.heap.size < wr.heap.size := by have := HWS.out; omega
        have HNO := Lib.hid (l1Nodes_any _ y _ _ wr _ (Nat.le_refl _) hwy (by rw [← HNY.out]; omega) HRYr.out)
        rw [← HNY.out] at HNO
        clear hn hva hrow hmid
        go_wp2_with fail
        refine HNO.out.mono ?_
        rintro e w3 ⟨rfl, hB3⟩
        have x0' := keep1 hB3 x0
        have x1' := keep1 hB3 x1
        have y0' := keep1 hB3 y0
        have y1' := keep1 hB3 y1
        have hs3 := hB3.size
        have hw1s : w1.heap.size < w3.heap.size := by omega
        have hw2s : w2.heap.size < w3.heap.size := by omega
        have HB3 := Lib.hid hB3
        clear hB3 x0 x1 y0 y1
        by_cases hlt : k < N
        · obtain ⟨r, t, a, hcut⟩ := cutAt_some y k (by rw [← HNY.out]; exact hlt)
          have HQ := Lib.hid (subs_cut y k r t a hcut)
          have htw := (cutAt_wf y k r t a hwy hcut).2.1
          have htsz : t.leaves ≤ 12 ∧ t.nodes ≤ 16 := by have := cut_size y k r t a hcut; rw [← HNY.out] at this; have := leaves_pos _ ((cutAt_wf y k r t a hwy hcut).1); omega
          have HPT := Lib.hid (l1Part_any _ y (.string qb) (.slice qa qn qc) k r t a w3 (fun b => b < wr.heap.size) (Nat.le_refl _) hwy (by omega) (by rw [← HNY.out]; omega) (by rw [← HNY.out]; exact hlt) hcut (fun b h => by omega) (HRYr.out.below hwy HB3.out))
          clear hcut
          go_wp2_with fail
          refine HPT.out.mono ?_
          rintro e w4 ⟨hB4, sb, sa, sn, sc, rfl, hrs⟩
          have hs4 := hB4.size
          have hw1t : w1.heap.size < w4.heap.size := by omega
          have x0'' := keep1 hB4 x0'
          have x1'' := keep1 hB4 x1'
          have HB4 := Lib.hid (below_step HB3.out hB4)
          have hX : Below w4.heap.size w4 (w4.alloc (.cells #[.string sb, .slice sa sn sc] 70 (0, 0))) := (Below.refl _ _).alloc (Nat.le_refl _) _
          have hY : Below w4.heap.size w4 ((w4.alloc (.cells #[.string sb, .slice sa sn sc] 70 (0, 0))).alloc (.cells #[] 70 (0, 0))) := hX.alloc (by simp) _
          have HY := Lib.hid hY
          have hrow : Row (trS.inn (fun b => b < w4.heap.size + 1)) 70 (w4.heap.size + 1) [] (.slice (some ⟨w4.heap.size + 1, 0, none⟩) 0 0) [] ((w4.alloc (.cells #[.string sb, .slice sa sn sc] 70 (0, 0))).alloc (.cells #[] 70 (0, 0))) := by
            have h := World.ownsRow_made (base := w4.heap.size + 1) (e := 70) (size := 2) (w4.alloc (.cells #[.string sb, .slice sa sn sc] 70 (0, 0))) #[] 0 (by simp) (by simp [maxLen]) rfl
            rw [World.size_alloc] at h
            exact ⟨h, fun _ h => by simp at h⟩
          have HM := Lib.hid (l4Match_any _ x t (.string pb) (.slice pa pn pc) (.string sb) (.slice sa sn sc) [] 0 (some ⟨w4.heap.size + 1, 0, none⟩) 0 [] (w4.heap.size + 1) ((w4.alloc (.cells #[.string sb, .slice sa sn sc] 70 (0, 0))).alloc (.cells #[] 70 (0, 0))) (Nat.le_refl _) hwx htw rfl (by simp) (by omega) (by simp)
            (((HRXr.out.below hwx HB4.out).below hwx hY).keep (fun _ _ _ h => h) (fun b h _ => by omega) hwx) ((hrs.below htw hY).keep (fun _ _ _ h => h) (fun b h _ => by omega) htw) hrow)
          clear hX hY hrow hrs hB4
          go_wp2_with fail
          refine HM.out.mono ?_
          rintro e w5 ⟨ok, ts, m, ua, uc, us, rfl, hua, hparts, ho1, ho2⟩
          have HB5 : Hid (Below wr.heap.size wr w5) := Lib.hid (below_step HB4.out (HY.out.trans (hparts.below.mono (by omega))))
          rw [List.nil_append] at hparts
          cases ok with
          | false =>
            have HST : Hid (plUp x y (k + 1) = plUp x y k) := Lib.hid (by rw [plUp_succ, plAt_none HQ.out (ho2 rfl)]; simp)
            clear ho1 ho2 hparts hua
            go_wp2_with fail
            go_roundw
            case rel => exact ⟨k + 1, n, va, vc, vs, by omega, by rw [HST.out]; exact HN.out, HVA.out, by go_num, rfl, by rw [HST.out]; exact HROW.out.below HB5.out, HMID.out.step HB5.out⟩
            case measure => simp [intOf]; omega
          | true =>
            have hts := ho1 rfl
            have HST : Hid (plUp x y (k + 1) = plUp x y k ++ [(k, ts)]) := Lib.hid (by rw [plUp_succ, plAt_some HQ.out hts]; rfl)
            obtain ⟨hk1, hk2, hk3, hk4⟩ := partsOf_ok x t ts hwx htw hts
            have hml := hparts.len
            have hm12 : m ≤ 12 := by omega
            have hm0 : 0 < ts.length := by have := leaves_pos x hwx; omega
            obtain ⟨gu, rfl, hgu⟩ := owns_addr hparts.row.own hua
            have hrd5 : Rd trS w5 (fun b => b < w5.heap.size) (some ⟨gu, 0, none⟩) ts := (Rd.of_inn hparts.row.rd).weak (by decide) (fun _ _ h => h)
            have HTX := Lib.hid (l2Texts_any ts m hml (by omega) gu uc w5 (fun u hu => by
              obtain ⟨j, hj, rfl⟩ := List.getElem_of_mem hu
              have h1 := text_length ts[j]
              have h2 := kid_le ts j hj
              omega) hrd5)
            have HM0 := Lib.hid hm0
            have HML := Lib.hid hml
            clear ho1 ho2 hparts hua hts hk1 hk2 hk3 hk4 hrd5 hm0 hml
            go_wp2_with fail
            refine HTX.out.mono ?_
            rintro e w6 ⟨hB6, g6, c6, rfl, hg6, htx⟩
            have hs5 := HB5.out.size
            have hs6 := hB6.size
            have HTL := Lib.hid htx
            have HB6 := Lib.hid (below_step HB5.out hB6)
            have OWN := owns_below HROW.out.own HB6.out
            rw [List.length_map, ← HN.out] at OWN
            have HOWN := Lib.hid OWN
            have HOA := Lib.hid (World.ownsRow.alloc OWN (.cells #[.int .i64 k, .slice (some ⟨g6, 0, none⟩) m c6] 47 (0, 0)))
            clear hB6 htx OWN
            go_wp2_with (at_builtin; refine wpList_append_own_at _ rfl _ _ 41 rfl w.heap.size 47 i0 (.agg #[.int .i64 0, .slice none 0 0]) 2 32 Try.underlying41 hi0 hzz hzs hzb rfl (by decide) (.slice va n vc) n vs rfl HOA.out ⟨w6.heap.size, 0, none⟩ 1 1 [.int .i64 k, .slice (some ⟨g6, 0, none⟩) m c6] rfl rfl (cells_two (by simp) _ _) (by simp [Value.oneCell']) (by unfold maxLen; omega) (by omega) (by simp; omega) ?_; intro v3 w7 hown3 hg3 hnil3 hat3)
            obtain ⟨g3, q3, rfl, _, _, _⟩ := owns_some hown3 (fun e => by have := hnil3.1 e; simp at this)
            have hat : (Value.slice va n vc).ownBlock = some g3 ∨ w6.heap.size ≤ g3 := by
              rcases hat3 with h | h
              · left; rw [← h]; rfl
              · right; simp [Value.ownBlock] at h; omega
            have NX : Row (plE.inn (fun b => w.heap.size + 1 ≤ b)) 47 w.heap.size ((plUp x y (k + 1)).map plTx) (.slice (some ⟨g3, 0, none⟩) (n + 1) q3) (vs ++ [.int .i64 k, .slice (some ⟨g6, 0, none⟩) m c6]) w7 := by
              have h := HROW.out.next (a := plTx (k, ts)) (g := g3) (cap := q3) (w1 := w6) (w1' := w6.alloc (.cells #[.int .i64 k, .slice (some ⟨g6, 0, none⟩) m c6] 47 (0, 0))) HB6.out ⟨g6, c6, by simp only [plTx, List.length_map]; rw [← HML.out], ⟨fun e => by
                have h1 := (HROW.out.own.lt g6 e).2
                omega, by omega⟩, by simp only [plTx, List.length_map]; exact HM0.out, fun j hj => by
                  simp only [plTx, List.length_map] at hj
                  rw [HTL.out j hj]; simp [plTx]⟩ ((Below.refl _ _).alloc (Nat.le_refl _) _) (by rw [List.length_map, ← HN.out]; exact hown3) hg3 hat
              rw [List.length_map, ← HN.out] at h
              rw [HST.out, List.map_append, List.map_cons, List.map_nil]
              exact h
            have HNX := Lib.hid NX
            have MX : Mid w W0 (some g3) w7 := by
              have h := (HMID.out.step HB6.out).step (w2 := w6.alloc (.cells #[.int .i64 k, .slice (some ⟨g6, 0, none⟩) m c6] 47 (0, 0))) ((Below.refl _ _).alloc (Nat.le_refl _) _)
              exact h.next (by omega) hg3 (by rcases hat with e | e
                                              · exact .inl e
                                              · exact .inr (by omega))
            have HMX := Lib.hid MX
            clear NX MX hown3 hg3 hnil3 hat3 hat
            go_wp2_with fail
            go_roundw
            case rel => exact ⟨k + 1, n + 1, some ⟨g3, 0, none⟩, q3, _, by omega, by rw [HST.out, List.length_append, ← HN.out]; rfl, by simp, by go_num, rfl, HNX.out, HMX.out⟩
            case measure => simp [intOf]; omega
        · have hkN : k = N := by omega
          have HTX : Hid ((plUp x y k).map plTx = plTxs p q) := Lib.hid (by rw [plTxs, HAV.out, hkN]; rfl)
          have HL : Hid (n = (plTxs p q).length) := Lib.hid (by rw [← HTX.out, List.length_map]; exact HN.out)
          have HM3 := Lib.hid (HMID.out.step HB3.out)
          have HRD := Lib.hid (Rd.of_inn (HROW.out.below HB3.out).rd)
          go_wp2_with fail
          go_ret2
          rw [HAV.out]
          exact ⟨HM3.out.below, _, _, _, rfl, HL.out, by rw [← HTX.out]; exact HRD.out⟩
end Go.Proofs.Ytfjodghnheliaaa
end
