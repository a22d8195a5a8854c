/- Merged out of: XAllI, XAllS. -/
import Derived.Test.YtfjodghnheliaaaJoinI
import Derived.Test.YtfjodghnheliaaaLawPathsC
import Derived.Test.YtfjodghnheliaaaJoinS
import Derived.Test.YtfjodghnheliaaaKLawPaths
section
/- The program joins a pattern at all nodes of another one. -/
namespace Go.Proofs.Ytfjodghnheliaaa
open Go.RowKit

/-- One node's tree, if it is told. -/
def allStep (x y : T) (same : Bool) (v : Nat) : Option T := if v = 0 ∧ same = true then none else joinOf x y v
/-- What is joined at the first nodes. -/
def allUpTo (x y : T) (same : Bool) (k : Nat) : List T := (List.range k).filterMap (allStep x y same)
theorem allUpTo_none {x y : T} {same : Bool} {k : Nat} (h : allStep x y same k = none) : allUpTo x y same (k + 1) = allUpTo x y same k := by
  rw [allUpTo, List.range_succ, List.filterMap_append]; simp [h, allUpTo]
theorem allUpTo_some {x y t : T} {same : Bool} {k : Nat} (h : allStep x y same k = some t) : allUpTo x y same (k + 1) = allUpTo x y same k ++ [t] := by
  rw [allUpTo, List.range_succ, List.filterMap_append]; simp [h, allUpTo]
theorem allUpTo_len (x y : T) (same : Bool) (k : Nat) : (allUpTo x y same k).length ≤ k := by
  have := List.length_filterMap_le (allStep x y same) (List.range k)
  simpa [allUpTo] using this
def allV (p q : ByteArray) : Option (List T) :=
  match patOf p, patOf q with
  | some x, some y => some (allUpTo x y (decide (p = q)) y.nodes)
  | _, _ => none
/-- What PatternAll answers, as texts. -/
def allTx (p q : ByteArray) : List (List UInt8) := ((allV p q).getD []).map T.text
theorem allTx_len (p q : ByteArray) : (allTx p q).length ≤ 16 := by
  rw [allTx, List.length_map, allV]
  split
  · next x y h1 h2 =>
    have := allUpTo_len x y (decide (p = q)) y.nodes
    have := (parse_some (patOf_some h2).1).2.2.2
    simp only [Option.getD_some]; omega
  · simp

/-- A text in a row. -/
def txE : Elt (List UInt8) where
  size := 1
  R _ _ t cs := cs = [.string ⟨t.toArray⟩]
  len := by rintro w P t cs rfl; rfl
  one := by
    rintro w P t cs rfl u hu
    simp at hu
    subst hu
    rfl
  keep := by rintro w w' P P' t cs _ _ rfl; rfl
theorem txE.lies {w : World} {P : Nat → Prop} {a : Option Addr} {ts : List (List UInt8)} (h : Rd txE w P a ts) : Lies w a ts := fun j hj => by
  obtain ⟨g, cs, e, _, hc, rfl⟩ := h j hj
  exact ⟨g, e, by have := hc 0 (by decide); simpa [txE] using this⟩

theorem allV_none1 {p q : ByteArray} (h : patsOf [p, q] = none) : allV p q = none := by
  rw [allV]
  rw [patsOf, if_neg (by simp), patAll] at h
  simp only [List.foldl_cons, List.foldl_nil, patStep] at h
  cases h1 : patOf p with
  | none => rfl
  | some x =>
    rw [h1] at h
    cases h2 : patOf q with
    | none => rfl
    | some y => rw [h2] at h; cases h

theorem texts_same (p q : ByteArray) : (p.toList == q.toList) = decide (p = q) := by
  rw [ByteArray.toList_eq, ByteArray.toList_eq]
  by_cases h : p = q
  · subst h; simp
  · have : ¬ p.data = q.data := fun e => h (ByteArray.ext e)
    simp [h, this]

set_option maxRecDepth 100000 in
set_option maxHeartbeats 2000000 in
theorem iAll_any (p q : ByteArray) (w : World) (hp : p.size ≤ 1048576) (hq : q.size ≤ 1048576) :
    Calls Try.prog 13 #[.string p, .string q] w (IList (allTx p q) (allV p q).isSome w) := by
  have hl : TxL (w.alloc (.cells #[.string p, .string q] 9 (0, 0))) w.heap.size [p, q] := fun j hj => by
    have h := heap_alloc_new w (.cells #[.string p, .string q] 9 (0, 0))
    simp at hj
    rcases (show j = 0 ∨ j = 1 by omega) with rfl | rfl
    · rw [Lib.cell_of_heap h]; rfl
    · rw [Lib.cell_of_heap h]; rfl
  have HR := Lib.hid (readPatterns_any [p, q] 2 rfl w.heap.size 2 _ (by omega) (fun j hj => by
    simp at hj
    rcases (show j = 0 ∨ j = 1 by omega) with rfl | rfl
    · exact hp
    · exact hq) hl)
  have HB0 := Lib.hid ((Below.refl w.heap.size w).alloc (Nat.le_refl _) (.cells #[.string p, .string q] 9 (0, 0)))
  obtain ⟨i0, hi0, hzz, hzs, hzb⟩ := info_parts info9
  clear hl
  go_enter Try.func13, Try.ntmps13
  go_wp2_with fail
  refine HR.out.mono ?_
  rintro e w1 ⟨hB1, ⟨hno, rfl⟩ | ⟨ps, gp, c, hyes, rfl, hrd⟩⟩
  · have HN := Lib.hid (allV_none1 hno)
    have HB1 := Lib.hid (below_step HB0.out hB1)
    clear hno hB1
    go_wp2_with fail
    go_ret2
    rw [allTx, HN.out]
    exact ⟨HB1.out, _, _, rfl, Lies.nil _ _, .inl rfl⟩
  · obtain ⟨x, y, rfl, hyx, hyy⟩ := joinI_pair hyes
    have HB1 := Lib.hid (below_step HB0.out hB1)
    obtain ⟨hwx, _, hlx, hnx⟩ := parse_some (patOf_some hyx).1
    obtain ⟨hwy, _, hly, hny⟩ := parse_some (patOf_some hyy).1
    have HAV : Hid (allV p q = some (allUpTo x y (decide (p = q)) y.nodes)) := Lib.hid (by rw [allV, hyx, hyy])
    obtain ⟨g1, b1, e1, hg1, c1, hw1, hr1⟩ := patI.get hrd 0 (by simp)
    obtain ⟨g2, b2, e2, hg2, c2, hw2, hr2⟩ := patI.get hrd 1 (by simp)
    cases e1
    cases e2
    simp only [List.getElem_cons_zero, List.getElem_cons_succ] at hr1 hr2
    have HR1 := Lib.hid (hr1.keep (P' := fun b => b < w1.heap.size) (fun _ _ _ h => h) (fun _ _ h => h) hwx)
    have HR2 := Lib.hid (hr2.keep (P' := fun b => b < w1.heap.size) (fun _ _ _ h => h) (fun _ _ h => h) hwy)
    obtain ⟨d, js, hyn⟩ := (patOf_some hyy).2
    obtain ⟨N, hN⟩ : ∃ N, N = y.nodes := ⟨_, rfl⟩
    have HND := Lib.hid (fun (W : World) (hb : Below w1.heap.size w1 W) => (show Calls Try.prog 39 #[.pointer (some b2)] W fun e w' => e = .returned (.int .i64 (N : Int)) ∧ W = w' by
      have hrr := HR2.out.below hwy hb
      have hwf := hwy
      rw [hyn] at hrr hwf
      rw [T.wf] at hwf
      rw [hN, hyn]
      rw [hyn, T.nodes] at hny
      refine (nodeNodes_any _ d js _ b2 W _ (Nat.le_refl _) hwf.2.2.2.2 (by omega) hrr).mono (fun e w' h => ⟨?_, h.2⟩)
      rw [h.1, T.nodes]))
    rw [← hN] at HAV hny
    have HNY := Lib.hid hN
    obtain ⟨same, hsm⟩ : ∃ same : Bool, same = decide (p = q) := ⟨_, rfl⟩
    rw [← hsm] at HAV
    have hgl : gp < w1.heap.size := World.block_lt_of_cell? w1 _ c1
    have hq2 : (p.toList == q.toList) = same := by rw [hsm]; exact texts_same p q
    clear hyes hrd hB1 hyx hyy hr1 hr2 hw1 hw2 hN hsm hyn
    go_wp2_with (go_at_call 39; refine (HND.out _ ((Below.refl _ _).alloc (Nat.le_refl _) _)).mono ?_; rintro e w' ⟨rfl, rfl⟩)
    go_loopw [8, 26] (fun ov iv wr => ∃ (k n : Nat) (va : Option Addr) (vc : Nat) (vs : List Value), k ≤ N ∧ n = (allUpTo x y same k).length ∧ va ≠ none ∧ iv = .int .i64 k ∧ ov = .slice va n vc ∧ Row txE 9 w1.heap.size ((allUpTo x y same k).map T.text) (.slice va n vc) vs wr ∧ Below w1.heap.size w1 wr) (fun _ iv _ => N - (intOf iv).toNat)
    case atStart =>
      refine ⟨0, 0, some ⟨w1.heap.size, 0, none⟩, 0, [], Nat.zero_le _, rfl, by simp, rfl, rfl, ?_, (Below.refl _ _).alloc (Nat.le_refl _) _⟩
      exact ⟨World.ownsRow_made w1 #[] 0 (Nat.le_refl _) (by simp [maxLen]) rfl, fun _ h => by simp [allUpTo] at h⟩
    case round =>
      obtain ⟨k, n, va, vc, vs, hk, hn, hva, rfl, rfl, hrow, hB⟩ := hrel
      have HN := Lib.hid hn
      have HVA := Lib.hid hva
      have HROW := Lib.hid hrow
      have HB := Lib.hid hB
      have hnk : n ≤ k := by rw [hn]; exact allUpTo_len x y same k
      have hsz := hB.size
      have d1 := keep1 hB c1
      have d2 := keep1 hB c2
      clear hn hva hrow
      by_cases hlt : k < N
      · have HJ := Lib.hid (fun (W : World) (hb : Below wr.heap.size wr W) => (joinAt_any x y k _ b1 _ b2 W (fun b => b < w1.heap.size) hwx hwy ⟨hlx, hnx⟩ ⟨hly, by rw [← HNY.out]; exact hny⟩ (by omega) (fun b h => Nat.lt_of_lt_of_le (Nat.lt_of_lt_of_le h hsz) hb.size) ((HR1.out.below hwx hB).below hwx hb) ((HR2.out.below hwy hB).below hwy hb)).mono (fun _ _ h => UnI.form h))
        clear hB
        by_cases hsk : k = 0 ∧ same = true
        · have HST := Lib.hid (allUpTo_none (x := x) (y := y) (same := same) (k := k) (by rw [allStep, if_pos hsk]))
          have e0 : ((k : Int) == 0) = true := by simp [hsk.1]
          have e1 := hsk.2
          have HSK := Lib.hid hsk
          clear hsk
          go_wp2_with fail
          exact ⟨⟨k + 1, n, va, vc, vs, by omega, by rw [HST.out]; exact HN.out, HVA.out, by go_num, rfl, by rw [HST.out]; exact HROW.out, HB.out⟩, by simp [intOf]; omega⟩
        · have HAS : Hid (allStep x y same k = joinOf x y k) := Lib.hid (by rw [allStep, if_neg hsk])
          have HG : Hid (((k : Int) == 0) = false ∨ (((k : Int) == 0) = true ∧ same = false)) := Lib.hid (by
            by_cases h : k = 0
            · exact .inr ⟨by simp [h], by simpa using fun h2 => hsk ⟨h, h2⟩⟩
            · exact .inl (by simp; omega))
          clear hsk
          rcases HG.out with e0 | ⟨e0, e1⟩
          all_goals
            go_wp2_with fail
            go_region_held3 (fun w' => w'.cell? ⟨gp, 0, none⟩ = some (.pointer (some b1)) ∧ w'.cell? ⟨gp, 1, none⟩ = some (.pointer (some b2)))
              (first | exact ⟨d1, d2⟩ | exact ⟨z1, z2⟩)
              (first
              | (go_at_call 40; refine (HJ.out _ (Below.refl _ _).drew).mono ?_; rintro e w2 ⟨hB2', vv, bb, rfl, hres⟩; have hB2 : Below wr.heap.size wr w2 := (Below.refl _ _).drew.trans hB2'; have z1 := keep1 hB2 d1; have z2 := keep1 hB2 d2))
            all_goals
              have HB2 := Lib.hid hB2
              clear hB2 hB2'
              rcases hres with ⟨hno, rfl, rfl⟩ | ⟨t, ty, a, hyes, rfl, rfl, hrt⟩
              · have HST := Lib.hid (allUpTo_none (x := x) (y := y) (same := same) (k := k) (by rw [HAS.out, hno]))
                clear hno
                go_wp2_with fail
                go_roundw
                case rel => exact ⟨k + 1, n, va, vc, vs, by omega, by rw [HST.out]; exact HN.out, HVA.out, by go_num, rfl, by rw [HST.out]; exact HROW.out.below HB2.out, below_step HB.out HB2.out⟩
                case measure => simp [intOf]; omega
              · have hok := joinOf_okI hwy hwx ⟨hlx, hnx⟩ ⟨hly, by rw [← HNY.out]; exact hny⟩ hyes
                have HST := Lib.hid (allUpTo_some (x := x) (y := y) (same := same) (k := k) (by rw [HAS.out, hyes]))
                have HT := Lib.hid (fun (W : World) (hb : Below w2.heap.size w2 W) => treeText_any t ty a W _ hok.1 (hrt.below hok.1 hb) hok.2)
                obtain ⟨tx, htx⟩ : ∃ tx, tx = t.text := ⟨_, rfl⟩
                rw [← htx] at HT
                have HTX := Lib.hid htx
                clear hyes hrt hok htx
                go_wp2_with fail
                refine (HT.out _ (Below.refl _ _)).mono ?_
                rintro e w3 ⟨rfl, hB3⟩
                have HB3 := Lib.hid (HB2.out.trans (hB3.mono HB2.out.size))
                have hsz3 := HB3.out.size
                have OWN := owns_below HROW.out.own HB3.out
                rw [List.length_map, ← HN.out] at OWN
                have HOWN := Lib.hid OWN
                have HOA := Lib.hid (World.ownsRow.alloc OWN (.cells #[.string ⟨tx.toArray⟩] 9 (0, 0)))
                clear hB3 OWN
                go_wp2_with (at_builtin; refine wpList_append_own_at _ rfl _ _ 29 rfl w1.heap.size 9 i0 (.string ⟨#[]⟩) 1 16 Try.underlying29 hi0 hzz hzs hzb rfl (by decide) (.slice va n vc) n vs rfl HOA.out ⟨w3.heap.size, 0, none⟩ 1 1 [.string ⟨tx.toArray⟩] rfl rfl (cells_one rfl _) (by simp [Value.oneCell']) (by unfold maxLen; omega) (by omega) (by simp; omega) ?_; intro v3 w6 hown3 hg3 hnil3 hat3; obtain ⟨g3, q3, rfl, _, _, _⟩ := owns_some hown3 (fun e => by have := hnil3.1 e; simp at this))
                have NX : Row txE 9 w1.heap.size ((allUpTo x y same (k + 1)).map T.text) (.slice (some ⟨g3, 0, none⟩) (n + 1) q3) (vs ++ [.string ⟨tx.toArray⟩]) w6 := by
                  have h := HROW.out.next (a := tx) (g := g3) (cap := q3) (w1 := w3) (w1' := w3.alloc (.cells #[.string ⟨tx.toArray⟩] 9 (0, 0))) HB3.out rfl ((Below.refl _ _).alloc (Nat.le_refl _) _) (by rw [List.length_map, ← HN.out]; exact hown3) hg3 (by
                    rcases hat3 with h | h
                    · left; rw [← h]; rfl
                    · right; simp [Value.ownBlock] at h; omega)
                  rw [List.length_map, ← HN.out] at h
                  rw [HST.out, List.map_append, List.map_cons, List.map_nil, ← HTX.out]
                  exact h
                have HNX := Lib.hid NX
                have BB := Lib.hid (((below_step HB.out HB3.out).alloc (by omega) (.cells #[.string ⟨tx.toArray⟩] 9 (0, 0))).grown hg3 (by simp; omega) (fun q e => by have := (HOWN.out.lt q e).1; omega))
                clear NX hown3 hg3 hnil3 hat3
                go_wp2_with fail
                go_roundw
                case rel => exact ⟨k + 1, n + 1, some ⟨g3, 0, none⟩, q3, _, by omega, by rw [HST.out, List.length_append, ← HN.out]; rfl, by simp, by go_num, rfl, HNX.out, BB.out⟩
                case measure => simp [intOf]; omega
      · have hkN : k = N := by omega
        have HTX : Hid ((allUpTo x y same k).map T.text = allTx p q) := Lib.hid (by rw [allTx, HAV.out, hkN]; rfl)
        have HL : Hid (n = (allTx p q).length) := Lib.hid (by rw [← HTX.out, List.length_map]; exact HN.out)
        obtain ⟨gv, rfl, _⟩ := owns_addr HROW.out.own HVA.out
        have HRD := Lib.hid (txE.lies HROW.out.rd)
        have OWN := HROW.out.own
        rw [List.length_map, ← HN.out] at OWN
        have HOW := Lib.hid (owns_row OWN)
        have HBF := Lib.hid (below_step HB1.out hB)
        clear hB OWN
        go_wp2_with fail
        go_ret2
        obtain ⟨cur, h1, h2, h3⟩ := HOW.out
        rw [HAV.out]
        refine ⟨HBF.out, _, _, by rw [← HL.out]; rfl, by rw [← HTX.out]; exact HRD.out, .inr ⟨gv, cur, rfl, h1, by rw [← HL.out]; exact h2, Nat.le_trans HB1.out.size h3⟩⟩
end Go.Proofs.Ytfjodghnheliaaa
end
section
/- The model joins a pattern at all nodes of another one; the law of PatternAll. -/
namespace Go.Proofs.Ytfjodghnheliaaa
open Go.RowKit

theorem allV_n1 {p q : ByteArray} (h : patOf p = none) : allV p q = none := by rw [allV, h]
theorem allV_n2 {p q : ByteArray} (h : patOf q = none) : allV p q = none := by
  rw [allV, h]; split
  · next h1 h2 => cases h2
  · rfl

/-- Ahead of each round. -/
def AllRel (w W0 : World) (ts : List (List UInt8)) (n : Nat) (va : Option Addr) (vc : Nat) (vs : List Value) (wr : World) : Prop :=
  Row txE 9 w.heap.size ts (.slice va n vc) vs wr ∧ (∀ g, (Value.slice va n vc).ownBlock = some g → g = w.heap.size ∨ W0.heap.size ≤ g) ∧
  (∀ b, w.heap.size + 1 ≤ b → b < W0.heap.size → wr.heap[b]? = W0.heap[b]?) ∧ W0.heap.size ≤ wr.heap.size ∧ Below w.heap.size w wr

theorem AllRel.rep {w W0 wr : World} {ts : List (List UInt8)} {n vc : Nat} {va : Option Addr} {vs : List Value} {t : T} {l s : Value} (h : AllRel w W0 ts n va vc vs wr) (ht : t.wf) (hr : RepS W0 (fun b => w.heap.size + 1 ≤ b ∧ b < W0.heap.size) t l s) : RepS wr (fun _ => True) t l s :=
  hr.keep (fun q u hq hu => by rw [World.cell?_of_block (h.2.2.1 q.block hq.1 hq.2)]; exact hu) (fun _ _ _ => trivial) ht

theorem AllRel.below {w W0 wr w2 : World} {ts : List (List UInt8)} {n vc : Nat} {va : Option Addr} {vs : List Value} (h : AllRel w W0 ts n va vc vs wr) (hb : Below wr.heap.size wr w2) : AllRel w W0 ts n va vc vs w2 :=
  ⟨h.1.below hb, h.2.1, fun b h1 h2 => (hb.block b (Nat.lt_of_lt_of_le h2 h.2.2.2.1)).trans (h.2.2.1 b h1 h2), Nat.le_trans h.2.2.2.1 hb.size, below_step h.2.2.2.2 hb⟩

theorem AllRel.next {w W0 wr w6 : World} {ts : List (List UInt8)} {n vc g3 q3 : Nat} {va : Option Addr} {vs : List Value} {tx : List UInt8} (h : AllRel w W0 ts n va vc vs wr) (hn : n = ts.length) (hW : w.heap.size < W0.heap.size)
    (hown3 : w6.ownsRow w.heap.size 9 1 (.slice (some ⟨g3, 0, none⟩) (n + 1) q3) (n + 1) (vs ++ [.string ⟨tx.toArray⟩])) (hg3 : (wr.alloc (.cells #[.string ⟨tx.toArray⟩] 9 (0, 0))).grownBy w6 (Value.slice va n vc).ownBlock)
    (hat : (Value.slice va n vc).ownBlock = some g3 ∨ wr.heap.size ≤ g3) : AllRel w W0 (ts ++ [tx]) (n + 1) (some ⟨g3, 0, none⟩) q3 (vs ++ [.string ⟨tx.toArray⟩]) w6 := by
  obtain ⟨hrow, hob, hmid, hsz, hB⟩ := h
  have hs := hg3.size
  have hsa : (wr.alloc (.cells #[.string ⟨tx.toArray⟩] 9 (0, 0))).heap.size = wr.heap.size + 1 := by simp
  refine ⟨?_, ?_, fun b h1 h2 => ?_, by omega, ?_⟩
  · have h := hrow.next (a := tx) (g := g3) (cap := q3) (w1 := wr) (w1' := wr.alloc (.cells #[.string ⟨tx.toArray⟩] 9 (0, 0))) (Below.refl _ _) rfl ((Below.refl _ _).alloc (Nat.le_refl _) _) (by rw [← hn]; exact hown3) hg3 hat
    rw [← hn] at h
    exact h
  · intro g e
    simp only [Value.ownBlock, Option.some.injEq] at e
    subst e
    rcases hat with h | h
    · exact hob _ h
    · exact .inr (by omega)
  · rw [hg3.block b (by omega) (fun e => by
      rcases hob b e.symm with h | h <;> omega), Below.heap_alloc _ _ _ (by omega)]
    exact hmid b h1 h2
  · exact (hB.alloc hB.size (.cells #[.string ⟨tx.toArray⟩] 9 (0, 0))).grown hg3 (by have := hB.size; omega) (fun q e => by
      rcases hob q e with h | h <;> omega)

set_option maxRecDepth 100000 in
set_option maxHeartbeats 2000000 in
theorem sAll_any (p q : ByteArray) (w : World) (hp : p.size ≤ 1048576) (hq : q.size ≤ 1048576) :
    Calls Try.prog 14 #[.string p, .string q] w (SList (allTx p q) (allV p q).isSome w) := by
  have HP := Lib.hid (fun (W : World) => l4Pattern_any p W hp)
  have HQ := Lib.hid (fun (W : World) => l4Pattern_any q W hq)
  obtain ⟨i0, hi0, hzz, hzs, hzb⟩ := info_parts info9
  go_enter Try.func14, Try.ntmps14
  go_wp2_with fail
  refine (HP.out _).mono ?_
  rintro e w1 ⟨hB1, pb, pa, pn, pc, b1, rfl, hres1⟩
  have hs1 : w.heap.size + 1 ≤ w1.heap.size := by have := hB1.size; simpa using this
  have HA0 := Lib.hid ((Below.refl w.heap.size w).alloc (Nat.le_refl _) (.cells #[] 9 (0, 0)))
  have HB1 := Lib.hid hB1
  have HR1 := Lib.hid hres1
  clear hB1 hres1
  go_wp2_with fail
  refine (HQ.out _).mono ?_
  rintro e w2 ⟨hB2, qb, qa, qn, qc, b2, rfl, hres2⟩
  have HX1 := Lib.hid ((Below.refl w1.heap.size w1).alloc (Nat.le_refl _) (.cells #[.string pb, .slice pa pn pc] 70 (0, 0)))
  have HB12 := Lib.hid (below_step HX1.out hB2)
  have hz1 := (hB2.block w1.heap.size (by simp)).trans (heap_alloc_new w1 (.cells #[.string pb, .slice pa pn pc] 70 (0, 0)))
  have hs12 : w1.heap.size + 1 ≤ w2.heap.size := by have := hB2.size; simpa using this
  have HZ1 := Lib.hid hz1
  have HX2 := Lib.hid ((Below.refl w2.heap.size w2).alloc (Nat.le_refl _) (.cells #[.string qb, .slice qa qn qc] 70 (0, 0)))
  have HB2 : Hid (Below w.heap.size w (w2.alloc (.cells #[.string qb, .slice qa qn qc] 70 (0, 0)))) := Lib.hid (below_step (below_step (below_step HA0.out HB1.out) HB12.out) HX2.out)
  have HS2 : Hid (∀ b, b < w1.heap.size → (w2.alloc (.cells #[.string qb, .slice qa qn qc] 70 (0, 0))).heap[b]? = w1.heap[b]?) := Lib.hid (fun b hb => by
    rw [Below.heap_alloc _ _ _ (by omega)]; exact HB12.out.block b hb)
  clear hB2 hz1
  rcases HR1.out with ⟨hno, rfl⟩ | ⟨x, hyx, rfl, hrx⟩
  · have HN := Lib.hid (allV_n1 (q := q) hno)
    clear hno hres2
    go_wp2_with fail
    go_ret2
    rw [allTx, HN.out]
    exact ⟨HB2.out, _, _, rfl, Lies.nil _ _⟩
  · rcases hres2 with ⟨hno, rfl⟩ | ⟨y, hyy, rfl, hry⟩
    · have HN := Lib.hid (allV_n2 (p := p) hno)
      clear hno hyx hrx
      go_wp2_with fail
      go_ret2
      rw [allTx, HN.out]
      exact ⟨HB2.out, _, _, rfl, Lies.nil _ _⟩
    · obtain ⟨hwx, _, hlx, hnx⟩ := parse_some (patOf_some hyx).1
      obtain ⟨hwy, _, hly, hny⟩ := parse_some (patOf_some hyy).1
      have HAV : Hid (allV p q = some (allUpTo x y (decide (p = q)) y.nodes)) := Lib.hid (by rw [allV, hyx, hyy])
      obtain ⟨W0, hW0⟩ : ∃ W0, W0 = w2.alloc (.cells #[.string qb, .slice qa qn qc] 70 (0, 0)) := ⟨_, rfl⟩
      have hsW : W0.heap.size = w2.heap.size + 1 := by rw [hW0]; simp
      have HRX : Hid (RepS W0 (fun b => w.heap.size + 1 ≤ b ∧ b < W0.heap.size) x (.string pb) (.slice pa pn pc)) := Lib.hid (by
        rw [hW0]
        exact ((((hrx.keep (P' := fun b => w.heap.size + 1 ≤ b) (fun _ _ _ h => h) (fun b h _ => by simpa using h) hwx).below hwx HB12.out).below hwx HX2.out).keep (fun _ _ _ h => h) (fun b h hlt => ⟨h, hlt⟩) hwx))
      have HRY : Hid (RepS W0 (fun b => w.heap.size + 1 ≤ b ∧ b < W0.heap.size) y (.string qb) (.slice qa qn qc)) := Lib.hid (by
        rw [hW0]
        exact ((((hry.keep (P' := fun b => w.heap.size + 1 ≤ b) (fun _ _ _ h => h) (fun b h _ => by have h2 := h; simp at h2; omega) hwy).below hwy HX2.out).keep (fun _ _ _ h => h) (fun b h hlt => ⟨h, hlt⟩) hwy)))
      have HZX : Hid (W0.heap[w1.heap.size]? = some (.cells #[.string pb, .slice pa pn pc] 70 (0, 0))) := Lib.hid (by
        rw [hW0, Below.heap_alloc _ _ _ (by omega)]; exact HZ1.out)
      have HZY : Hid (W0.heap[w2.heap.size]? = some (.cells #[.string qb, .slice qa qn qc] 70 (0, 0))) := Lib.hid (by rw [hW0]; exact heap_alloc_new w2 _)
      have R0 : Hid (AllRel w W0 [] 0 (some ⟨w.heap.size, 0, none⟩) 0 [] W0) := Lib.hid (by
        have hB := HB2.out
        rw [← hW0] at hB
        refine ⟨⟨?_, fun _ h => by simp at h⟩, fun g e => ?_, fun _ _ _ => rfl, Nat.le_refl _, hB⟩
        · have h0 : (w.alloc (.cells #[] 9 (0, 0))).ownsRow w.heap.size 9 1 (.slice (some ⟨w.heap.size, 0, none⟩) 0 0) 0 [] := World.ownsRow_made w #[] 0 (Nat.le_refl _) (by simp [maxLen]) rfl
          have h1 := owns_below (owns_below (owns_below h0 HB1.out) HB12.out) HX2.out
          rw [← hW0] at h1
          exact h1
        · simp [Value.ownBlock] at e; exact .inl e.symm)
      have HW0 := Lib.hid hW0
      have HWS := Lib.hid hsW
      have hwW : w.heap.size + 1 < W0.heap.size := by omega
      obtain ⟨N, hN⟩ : ∃ N, N = y.nodes := ⟨_, rfl⟩
      have HNY := Lib.hid hN
      rw [← hN] at HAV hny
      obtain ⟨same, hsm⟩ : ∃ same : Bool, same = decide (p = q) := ⟨_, rfl⟩
      rw [← hsm] at HAV
      have hq2 : (p.toList == q.toList) = same := by rw [hsm]; exact texts_same p q
      clear hyx hyy hrx hry hN hsm hW0 hsW HX2 HB2 HS2
      go_wp2_with fail
      rw [← HW0.out]
      go_loopw [6, 11] (fun ov iv wr => ∃ (k n : Nat) (va : Option Addr) (vc : Nat) (vs : List Value), k ≤ N ∧ n = (allUpTo x y same k).length ∧ iv = .int .i64 k ∧ ov = .slice va n vc ∧ AllRel w W0 ((allUpTo x y same k).map T.text) n va vc vs wr) (fun _ iv _ => N - (intOf iv).toNat)
      case atStart => exact ⟨0, 0, _, 0, [], Nat.zero_le _, rfl, rfl, rfl, R0.out⟩
      case round =>
        obtain ⟨k, n, va, vc, vs, hk, hn, rfl, rfl, hrel⟩ := hrel
        have HN := Lib.hid hn
        have HREL := Lib.hid hrel
        have hnk : n ≤ k := by rw [hn]; exact allUpTo_len x y same k
        have hsz : W0.heap.size ≤ wr.heap.size := hrel.2.2.2.1
        obtain ⟨x0, x1, _, _⟩ := two_cells ((hrel.2.2.1 w1.heap.size (by omega) (by have := HWS.out; omega)).trans HZX.out)
        obtain ⟨y0, y1, _, _⟩ := two_cells ((hrel.2.2.1 w2.heap.size (by omega) (by have := HWS.out; omega)).trans HZY.out)
        have HRYr := Lib.hid (hrel.rep hwy HRY.out)
        have HRXr := Lib.hid (hrel.rep hwx HRX.out)
        have HNO := Lib.hid (fun (W : World) (hb : Below wr.heap.size wr W) => l1Nodes_any _ y _ _ W _ (Nat.le_refl _) hwy (by rw [← HNY.out]; omega) (HRYr.out.below hwy hb))
        rw [← HNY.out] at HNO
        clear hn hrel
        go_wp2_with fail
        refine (HNO.out _ (Below.refl _ _)).mono ?_
        rintro e w3 ⟨rfl, hB3⟩
        have x0' := keep1 hB3 x0
        have x1' := keep1 hB3 x1
        have y0' := keep1 hB3 y0
        have y1' := keep1 hB3 y1
        have HB3 := Lib.hid hB3
        clear hB3
        by_cases hlt : k < N
        · have HJ := Lib.hid (fun (W : World) (hb : Below wr.heap.size wr W) => l4Join_any x y k pb pa pn pc qb qa qn qc W hwx hwy ⟨hlx, hnx⟩ ⟨hly, by rw [← HNY.out]; exact hny⟩ (by rw [← HNY.out]; exact hlt) (HRXr.out.below hwx hb) (HRYr.out.below hwy hb))
          go_wp2_with fail
          refine (HJ.out _ HB3.out).mono ?_
          rintro e w4 ⟨hB4, tb, ta, tn, tc, bb, rfl, hres⟩
          have HX4 := Lib.hid ((Below.refl w4.heap.size w4).alloc (Nat.le_refl _) (.cells #[.string tb, .slice ta tn tc] 70 (0, 0)))
          have HB4 := Lib.hid (below_step (below_step HB3.out hB4) HX4.out)
          clear hB4
          rcases hres with ⟨hno, rfl⟩ | ⟨t, hyes, rfl, hrt⟩
          · have HST := Lib.hid (allUpTo_none (x := x) (y := y) (same := same) (k := k) (by rw [allStep, hno]; split <;> rfl))
            clear hno
            go_wp2_with fail
            go_roundw
            case rel => exact ⟨k + 1, n, va, vc, vs, by omega, by rw [HST.out]; exact HN.out, by go_num, rfl, by rw [HST.out]; exact HREL.out.below HB4.out⟩
            case measure => simp [intOf]; omega
          · have hok := joinOf_ok hwy hwx ⟨hlx, hnx⟩ ⟨hly, by rw [← HNY.out]; exact hny⟩ hyes
            have HT := Lib.hid (fun (W : World) (hb : Below w4.heap.size w4 W) => l1Text_any _ t _ _ W _ (Nat.le_refl _) hok.1 hok.2.2.2 (hrt.below hok.1 hb))
            by_cases hsk : k = 0 ∧ same = true
            · have HST := Lib.hid (allUpTo_none (x := x) (y := y) (same := same) (k := k) (by rw [allStep, if_pos hsk]))
              have e0 : decide (k = 0) = true := decide_eq_true hsk.1
              have e1 := hsk.2
              have e3 := hsk.1
              clear hsk hrt hyes
              go_wp2_with fail
              go_roundw
              case rel => exact ⟨k + 1, n, va, vc, vs, by omega, by rw [HST.out]; exact HN.out, by go_num, rfl, by rw [HST.out]; exact HREL.out.below HB4.out⟩
              case measure => simp [intOf]; omega
            · have HST := Lib.hid (allUpTo_some (x := x) (y := y) (same := same) (k := k) (by rw [allStep, if_neg hsk, hyes]))
              have HG : Hid ((¬ k = 0) ∨ (k = 0 ∧ same = false)) := Lib.hid (by
                by_cases h : k = 0
                · exact .inr ⟨h, by simpa using fun h2 => hsk ⟨h, h2⟩⟩
                · exact .inl h)
              obtain ⟨tx, htx⟩ : ∃ tx, tx = t.text := ⟨_, rfl⟩
              rw [← htx] at HT
              have HTX := Lib.hid htx
              clear hsk hyes hrt htx
              rcases HG.out with e3 | ⟨e3, e1⟩
              all_goals
                go_wp2_with fail
                refine (HT.out _ HX4.out).mono ?_
                rintro e w5 ⟨rfl, hB5⟩
                have HRL := Lib.hid (HREL.out.below (HB4.out.trans (hB5.mono HB4.out.size)))
                have hsz5 : W0.heap.size ≤ w5.heap.size := HRL.out.2.2.2.1
                have OWN := HRL.out.1.own
                rw [List.length_map, ← HN.out] at OWN
                have HOWN := Lib.hid OWN
                have HOA := Lib.hid (World.ownsRow.alloc OWN (.cells #[.string ⟨tx.toArray⟩] 9 (0, 0)))
                clear hB5 OWN
                go_wp2_with (at_builtin; refine wpList_append_own_at _ rfl _ _ 29 rfl w.heap.size 9 i0 (.string ⟨#[]⟩) 1 16 Try.underlying29 hi0 hzz hzs hzb rfl (by decide) (.slice va n vc) n vs rfl HOA.out ⟨w5.heap.size, 0, none⟩ 1 1 [.string ⟨tx.toArray⟩] rfl rfl (cells_one rfl _) (by simp [Value.oneCell']) (by unfold maxLen; omega) (by omega) (by simp; omega) ?_; intro v3 w6 hown3 hg3 hnil3 hat3; obtain ⟨g3, q3, rfl, _, _, _⟩ := owns_some hown3 (fun e => by have := hnil3.1 e; simp at this))
                have NX := HRL.out.next (g3 := g3) (q3 := q3) (tx := tx) (by rw [List.length_map]; exact HN.out) (by omega) hown3 hg3 (by
                  rcases hat3 with h | h
                  · left; rw [← h]; rfl
                  · right; simp [Value.ownBlock] at h; omega)
                have HNX : Hid (AllRel w W0 ((allUpTo x y same (k + 1)).map T.text) (n + 1) (some ⟨g3, 0, none⟩) q3 (vs ++ [.string ⟨tx.toArray⟩]) w6) := Lib.hid (by
                  rw [HST.out, List.map_append, List.map_cons, List.map_nil, ← HTX.out]
                  exact NX)
                clear NX hown3 hg3 hnil3 hat3
                go_wp2_with fail
                go_roundw
                case rel => exact ⟨k + 1, n + 1, some ⟨g3, 0, none⟩, q3, _, by omega, by rw [HST.out, List.length_append, ← HN.out]; rfl, by go_num, rfl, HNX.out⟩
                case measure => simp [intOf]; omega
        · have hkN : k = N := by omega
          have HTX : Hid ((allUpTo x y same k).map T.text = allTx p q) := Lib.hid (by rw [allTx, HAV.out, hkN]; rfl)
          have HL : Hid (n = (allTx p q).length) := Lib.hid (by rw [← HTX.out, List.length_map]; exact HN.out)
          have HRL := Lib.hid (HREL.out.below HB3.out)
          have HRD := Lib.hid (txE.lies HRL.out.1.rd)
          go_wp2_with fail
          go_ret2
          rw [HAV.out]
          exact ⟨HRL.out.2.2.2.2, _, _, by rw [← HL.out]; rfl, by rw [← HTX.out]; exact HRD.out⟩
end Go.Proofs.Ytfjodghnheliaaa
end
