/- The model matches a pattern at the outside of a tree. -/
import Derived.Test.YtfjodghnheliaaaMatM
import Derived.Test.YtfjodghnheliaaaRow
import Derived.Test.YtfjodghnheliaaaReplS
import Derived.Deep.RegionHeld3
namespace Go.Proofs.Ytfjodghnheliaaa
open Go.RowKit

/-- A tree as the model has it, in a row. -/
def trS : Elt T where
  size := 2
  R w P t cs := ∃ (lb : ByteArray) (sa : Option Addr) (sn sc : Nat), cs = [.string lb, .slice sa sn sc] ∧ t.wf ∧ RepS w P t (.string lb) (.slice sa sn sc)
  len := by rintro w P t cs ⟨lb, sa, sn, sc, rfl, _⟩; rfl
  one := by
    rintro w P t cs ⟨lb, sa, sn, sc, rfl, _⟩ u hu
    simp at hu
    rcases hu with rfl | rfl <;> rfl
  keep := by
    rintro w w' P P' t cs hk hp ⟨lb, sa, sn, sc, rfl, hw, hr⟩
    exact ⟨lb, sa, sn, sc, rfl, hw, hr.keep hk hp hw⟩

/-- A row of parts that has grown: what lies below its base is as it was, and so is every older block but the row's own. -/
structure Parts (base : Nat) (us : List T) (n : Nat) (va : Option Addr) (vc : Nat) (vs : List Value) (own0 : Option Nat) (w w' : World) : Prop where
  len : n = us.length
  row : Row (trS.inn (fun b => b < base)) 70 base us (.slice va n vc) vs w'
  below : Below base w w'
  mid : ∀ b, b < w.heap.size → own0 ≠ some b → w'.heap[b]? = w.heap[b]?
  own : ∀ g, (Value.slice va n vc).ownBlock = some g → own0 = some g ∨ w.heap.size ≤ g

theorem Parts.step {base : Nat} {us : List T} {n : Nat} {va : Option Addr} {vc : Nat} {vs : List Value} {own0 : Option Nat} {w w1 w2 : World} (h : Parts base us n va vc vs own0 w w1) (hb : Below w1.heap.size w1 w2) (hbase : base ≤ w1.heap.size) : Parts base us n va vc vs own0 w w2 :=
  ⟨h.len, h.row.below hb, h.below.trans (hb.mono (by exact hbase)), fun b h1 h2 => (hb.block b (Nat.lt_of_lt_of_le h1 h.below.size)).trans (h.mid b h1 h2), h.own⟩

/-- What 'l4Match' answers: the parts behind those that were there, if the pattern stands. -/
def MatS (base : Nat) (us : List T) (own0 : Option Nat) (o : Option (List T)) (w : World) (e : Ending) (w' : World) : Prop :=
  ∃ (ok : Bool) (ts : List T) (n : Nat) (va : Option Addr) (vc : Nat) (vs : List Value), e = .returned (.tuple #[.slice va n vc, .bool ok]) ∧ va ≠ none ∧ Parts base (us ++ ts) n va vc vs own0 w w' ∧ (ok = true → o = some ts) ∧ (ok = false → o = none)

set_option maxRecDepth 100000 in
set_option maxHeartbeats 4000000 in
theorem l4Match_any (m : Nat) : ∀ (p t : T) (l s lt st : Value) (us : List T) (n : Nat) (va : Option Addr) (vc : Nat) (vs : List Value) (base : Nat) (w : World), SizeOf.sizeOf p ≤ m → p.wf → t.wf → n = us.length → va ≠ none → n + p.leaves ≤ 100000 → base ≤ w.heap.size → RepS w (fun b => b < base) p l s → RepS w (fun b => b < base) t lt st →
    Row (trS.inn (fun b => b < base)) 70 base us (.slice va n vc) vs w →
    Calls Try.prog 61 #[.agg #[l, s], .agg #[lt, st], .slice va n vc] w (MatS base us (Value.slice va n vc).ownBlock (p.partsOf t) w) := by
  induction m with
  | zero => intro p t l s lt st us n va vc vs base w h; cases p <;> simp at h <;> omega
  | succ m ih =>
    intro p t l s lt st us n va vc vs base w hm hpw htw hn hva hlen hbase hrp hrt hrow
    have HPW := Lib.hid hpw
    have HTW := Lib.hid htw
    have HRT := Lib.hid hrt
    have HROW := Lib.hid hrow
    have HN := Lib.hid hn
    have HVA := Lib.hid hva
    obtain ⟨i0, hi0, hz, hzs, hzb⟩ := info_parts info42
    obtain ⟨tb, ta, tn, tc, rfl, rfl⟩ := hrt.shape'
    cases p with
    | leaf =>
      rw [RepS] at hrp
      obtain ⟨rfl, rfl⟩ := hrp
      rw [T.leaves] at hlen
      have HB0 := Lib.hid (((Below.refl w.heap.size w).alloc (Nat.le_refl _) (.cells #[.string ⟨#[]⟩, .slice none 0 0] 70 (0, 0))).alloc (by simp) (.cells #[.string tb, .slice ta tn tc] 70 (0, 0)))
      have OWN := owns_below hrow.own HB0.out
      rw [← hn] at OWN
      have HOWN := Lib.hid OWN
      have HOA := Lib.hid (World.ownsRow.alloc OWN (.cells #[.string tb, .slice ta tn tc] 70 (0, 0)))
      clear hrow hn hva hrt OWN
      go_enter Try.func61, Try.ntmps61
      go_wp2_with (at_builtin; refine wpList_append_own_at _ rfl _ _ 68 rfl base 70 i0 (.agg #[.string ⟨#[]⟩, .slice none 0 0]) 2 40 Try.underlying68 hi0 hz hzs hzb rfl (by decide) (.slice va n vc) n vs rfl HOA.out ⟨w.heap.size + 1 + 1, 0, none⟩ 1 1 [.string tb, .slice ta tn tc] rfl rfl (cells_two (by simp) _ _) (by simp [Value.oneCell']) (by unfold maxLen; omega) (by omega) (by simp; omega) ?_; intro v3 w6 hown3 hg3 hnil3 hat3; obtain ⟨g3, q3, rfl, _, _, _⟩ := owns_some hown3 (fun e => by have := hnil3.1 e; simp at this))
      have hs6 := hg3.size
      have NX : Row (trS.inn (fun b => b < base)) 70 base (us ++ [t]) (.slice (some ⟨g3, 0, none⟩) (n + 1) q3) (vs ++ [.string tb, .slice ta tn tc]) w6 := by
        have h := HROW.out.next (a := t) (g := g3) (cap := q3) (w1 := (w.alloc (.cells #[.string ⟨#[]⟩, .slice none 0 0] 70 (0, 0))).alloc (.cells #[.string tb, .slice ta tn tc] 70 (0, 0))) (w1' := ((w.alloc (.cells #[.string ⟨#[]⟩, .slice none 0 0] 70 (0, 0))).alloc (.cells #[.string tb, .slice ta tn tc] 70 (0, 0))).alloc (.cells #[.string tb, .slice ta tn tc] 70 (0, 0))) HB0.out ⟨_, _, _, _, rfl, HTW.out, (HRT.out.below HTW.out HB0.out).keep (fun _ _ _ h => h) (fun b h _ => ⟨fun e => by have := (HROW.out.own.lt b e).1; omega, h⟩) HTW.out⟩ ((Below.refl _ _).alloc (Nat.le_refl _) _) (by rw [← HN.out]; exact hown3) hg3 (by
          rcases hat3 with h | h
          · left; rw [← h]; rfl
          · right; simp [Value.ownBlock] at h; simp; omega)
        rw [← HN.out] at h
        exact h
      have HP : Hid (Parts base (us ++ [t]) (n + 1) (some ⟨g3, 0, none⟩) q3 (vs ++ [.string tb, .slice ta tn tc]) (Value.slice va n vc).ownBlock w w6) := Lib.hid ⟨by rw [List.length_append, ← HN.out]; rfl, NX, ((HB0.out.mono hbase).alloc (by simp; omega) (.cells #[.string tb, .slice ta tn tc] 70 (0, 0))).grown hg3 (by simp; omega) (fun q e => (HOWN.out.lt q e).1), fun b h1 h2 => by
          rw [hg3.block b (by simp; omega) (fun e => h2 e.symm), Below.heap_alloc _ _ _ (by simp; omega)]
          exact HB0.out.block b h1, fun g e => by
          simp only [Value.ownBlock, Option.some.injEq] at e
          subst e
          rcases hat3 with h | h
          · left; rw [← h]; rfl
          · right; simp [Value.ownBlock] at h; omega⟩
      clear NX hown3 hg3 hnil3 hat3
      go_wp2_with fail
      go_ret2
      exact ⟨true, [t], n + 1, _, _, _, rfl, by simp, HP.out, (fun _ => partsOf_leaf t), fun h => by cases h⟩
    | node c ks =>
      have HRP := Lib.hid hrp
      rw [RepS] at hrp
      obtain ⟨rfl, g, cap, rfl, hPg, hk6, hL⟩ := hrp
      have HL := Lib.hid hL
      cases t with
      | leaf =>
        rw [RepS] at hrt
        obtain ⟨e1, e2⟩ := hrt
        cases e1
        cases e2
        have hs : ((#[c] : Array UInt8) == #[]) = false := by simp
        have HPA : Hid (Parts base (us ++ []) n va vc vs (Value.slice va n vc).ownBlock w ((w.alloc (.cells #[.string ⟨#[c]⟩, .slice (some ⟨g, 0, none⟩) ks.length cap] 70 (0, 0))).alloc (.cells #[.string ⟨#[]⟩, .slice none 0 0] 70 (0, 0)))) := Lib.hid (by
          have h0 : Parts base (us ++ []) n va vc vs (Value.slice va n vc).ownBlock w w := ⟨by rw [List.append_nil]; exact hn, by rw [List.append_nil]; exact hrow, Below.refl _ _, fun _ _ _ => rfl, fun g e => .inl e⟩
          exact h0.step (((Below.refl _ _).alloc (Nat.le_refl _) _).alloc (by simp) _) hbase)
        clear hrow hn hva hL
        go_enter Try.func61, Try.ntmps61
        go_wp2_with fail
        go_ret2
        exact ⟨false, [], n, va, vc, vs, rfl, HVA.out, HPA.out, (fun h => by cases h), fun _ => partsOf_no _ _⟩
      | node d js =>
        rw [RepS] at hrt
        obtain ⟨e1, g', cap', e2, hPg', hk6', hL'⟩ := hrt
        cases e1
        cases e2
        have HL' := Lib.hid hL'
        have HB0 := Lib.hid (((Below.refl w.heap.size w).alloc (Nat.le_refl _) (.cells #[.string ⟨#[c]⟩, .slice (some ⟨g, 0, none⟩) ks.length cap] 70 (0, 0))).alloc (by simp) (.cells #[.string ⟨#[d]⟩, .slice (some ⟨g', 0, none⟩) js.length tc] 70 (0, 0)))
        have HPA : Hid (Parts base (us ++ []) n va vc vs (Value.slice va n vc).ownBlock w ((w.alloc (.cells #[.string ⟨#[c]⟩, .slice (some ⟨g, 0, none⟩) ks.length cap] 70 (0, 0))).alloc (.cells #[.string ⟨#[d]⟩, .slice (some ⟨g', 0, none⟩) js.length tc] 70 (0, 0)))) := Lib.hid (by
          have h0 : Parts base (us ++ []) n va vc vs (Value.slice va n vc).ownBlock w w := ⟨by rw [List.append_nil]; exact hn, by rw [List.append_nil]; exact hrow, Below.refl _ _, fun _ _ _ => rfl, fun g e => .inl e⟩
          exact h0.step HB0.out hbase)
        clear hrow hn hva hL hL'
        by_cases hcd : c = d ∧ ks.length = js.length
        · obtain ⟨rfl, hlen2⟩ := hcd
          have hs : ((#[c] : Array UInt8) == #[c]) = true := by simp
          have hq1 : ((ks.length : Int) == (js.length : Int)) = true := by simp [hlen2]
          have hq2 : ((ks.length : Int) != (js.length : Int)) = false := by simp [hlen2]
          have HLEN := Lib.hid hlen2
          clear hlen2
          go_enter Try.func61, Try.ntmps61
          go_wp2_with fail
          obtain ⟨w0, hw0⟩ : ∃ w0, w0 = (w.alloc (.cells #[.string ⟨#[c]⟩, .slice (some ⟨g, 0, none⟩) ks.length cap] 70 (0, 0))).alloc (.cells #[.string ⟨#[c]⟩, .slice (some ⟨g', 0, none⟩) js.length tc] 70 (0, 0)) := ⟨_, rfl⟩
          have hsz0 : w0.heap.size = w.heap.size + 1 + 1 := by rw [hw0]; simp
          have HZ0 : Hid (w0.heap[w.heap.size]? = some (.cells #[.string ⟨#[c]⟩, .slice (some ⟨g, 0, none⟩) ks.length cap] 70 (0, 0))) := Lib.hid (by rw [hw0, Below.heap_alloc _ _ _ (by simp)]; exact heap_alloc_new w _)
          have HZ1 : Hid (w0.heap[w.heap.size + 1]? = some (.cells #[.string ⟨#[c]⟩, .slice (some ⟨g', 0, none⟩) js.length tc] 70 (0, 0))) := Lib.hid (by
            rw [hw0]
            have := heap_alloc_new (w.alloc (.cells #[.string ⟨#[c]⟩, .slice (some ⟨g, 0, none⟩) ks.length cap] 70 (0, 0))) (.cells #[.string ⟨#[c]⟩, .slice (some ⟨g', 0, none⟩) js.length tc] 70 (0, 0))
            simpa using this)
          have hown0 := HROW.out.own.lt
          have hsame : (T.node c ks).partsOf (.node c js) = T.partsL ks js := partsOf_same HLEN.out
          have HSAME := Lib.hid hsame
          have HOW0 : Hid (∀ b, (Value.slice va n vc).ownBlock = some b → base ≤ b ∧ b < w.heap.size) := Lib.hid hown0
          rw [← hw0] at HPA HB0 ⊢
          have HSZ := Lib.hid hsz0
          rw [T.wf] at hpw htw
          have hwk := Lib.hid hpw.2.2.2.2
          have hwj := Lib.hid htw.2.2.2.2
          rw [T.leaves] at hlen
          clear hw0 hsz0 hown0 hsame hpw htw
          go_loopw [2, 8, 9] (fun pv ov iv wr => ∃ (i : Nat) (ok : Bool) (ts : List T) (n' : Nat) (va' : Option Addr) (vc' : Nat) (vs' : List Value), i ≤ ks.length ∧ pv = .slice va' n' vc' ∧ ov = .bool ok ∧ iv = .int .i64 i ∧ va' ≠ none ∧ Parts base (us ++ ts) n' va' vc' vs' (Value.slice va n vc).ownBlock w wr ∧ w0.heap.size ≤ wr.heap.size ∧
              wr.heap[w.heap.size]? = some (.cells #[.string ⟨#[c]⟩, .slice (some ⟨g, 0, none⟩) ks.length cap] 70 (0, 0)) ∧ wr.heap[w.heap.size + 1]? = some (.cells #[.string ⟨#[c]⟩, .slice (some ⟨g', 0, none⟩) js.length tc] 70 (0, 0)) ∧ (∀ b, (Value.slice va' n' vc').ownBlock = some b → b < w.heap.size ∨ w0.heap.size ≤ b) ∧
              (ok = true → T.partsL (ks.take i) (js.take i) = some ts) ∧ (ok = false → T.partsL ks js = none)) (fun _ _ iv _ => ks.length - (intOf iv).toNat)
          case atStart =>
            exact ⟨0, true, [], n, va, vc, vs, Nat.zero_le _, rfl, rfl, rfl, HVA.out, HPA.out, Nat.le_refl _, HZ0.out, HZ1.out, (fun b e => .inl (HOW0.out b e).2), (fun _ => by rw [List.take_zero, partsL_nil]), fun h => by cases h⟩
          case round =>
            obtain ⟨i, ok, ts, n', va', vc', vs', hi, rfl, rfl, rfl, hva', hpar, hszr, hz0, hz1, hob, hok1, hok2⟩ := hrel
            have HPAR := Lib.hid hpar
            have HVA' := Lib.hid hva'
            have HOB := Lib.hid hob
            have HY0 := Lib.hid hz0
            have HY1 := Lib.hid hz1
            have HO1 := Lib.hid hok1
            have HO2 := Lib.hid hok2
            obtain ⟨p0, p1, _, _⟩ := two_cells hz0
            obtain ⟨q0, q1, _, _⟩ := two_cells hz1
            have hwl : w.heap.size + 1 < wr.heap.size := by have := HSZ.out; omega
            clear hpar hva' hob hz0 hz1 hok1 hok2
            by_cases hlt : i < ks.length
            · cases ok with
              | false =>
                go_wp2_with fail
                go_ret2
                exact ⟨false, ts, n', va', vc', vs', rfl, HVA'.out, HPAR.out, (fun h => by cases h), fun _ => by rw [HSAME.out]; exact HO2.out (by first | rfl | trivial)⟩
              | true =>
                have hltj : i < js.length := by have := HLEN.out; omega
                obtain ⟨l1, s1, d1, d2, d3⟩ := HL.out.get i hlt
                obtain ⟨l2, s2, f1, f2, f3⟩ := HL'.out.get i hltj
                rw [Nat.zero_add] at d1 d2 f1 f2
                obtain ⟨kb, ka, kn, kc, rfl, rfl⟩ := d3.shape'
                obtain ⟨jb, ja, jn, jc, rfl, rfl⟩ := f3.shape'
                have hwki := wfL_get hwk.out i hlt
                have hwji := wfL_get hwj.out i hltj
                have hd : SizeOf.sizeOf ks[i] < SizeOf.sizeOf ks := List.sizeOf_lt_of_mem (List.getElem_mem hlt)
                simp only [T.node.sizeOf_spec] at hm
                have hkp : ∀ {q : Addr} {v : Value}, q.block < base → w.cell? q = some v → wr.cell? q = some v := fun {q v} hq hv => by
                  rw [World.cell?_of_block (HPAR.out.below.block q.block hq)]; exact hv
                have d1' := hkp hPg d1
                have d2' := hkp hPg d2
                have f1' := hkp hPg' f1
                have f2' := hkp hPg' f2
                have hgl : g < wr.heap.size := World.block_lt_of_cell? wr _ d1'
                have hgl' : g' < wr.heap.size := World.block_lt_of_cell? wr _ f1'
                have hpl := HO1.out rfl
                have htl : ts.length = T.leavesL (ks.take i) := (partsL_ok (ks.take i) (js.take i) ts (by rw [List.length_take, List.length_take]; omega) ((wfL_append (ks.take i) (ks.drop i)).1 (by rw [List.take_append_drop]; exact hwk.out)).1 ((wfL_append (js.take i) (js.drop i)).1 (by rw [List.take_append_drop]; exact hwj.out)).1 hpl).1
                have hll := leavesL_take_le (ks := ks) (i + 1)
                rw [leavesL_take hlt] at hll
                have hbase2 : base ≤ wr.heap.size := by have := HSZ.out; omega
                have hn' := HPAR.out.len
                have HI := Lib.hid (fun (W : World) (hb : Below wr.heap.size wr W) => ih ks[i] js[i] _ _ _ _ (us ++ ts) n' va' vc' vs' base W (by omega) hwki hwji hn' HVA'.out (by rw [hn', List.length_append]; have := HN.out; omega) (Nat.le_trans hbase2 hb.size)
                  (d3.keep (P' := fun b => b < base) (fun q u hq hu => by rw [World.cell?_of_block ((HPAR.out.below.trans (hb.mono hbase2)).block q.block hq)]; exact hu) (fun _ h _ => h) hwki)
                  (f3.keep (P' := fun b => b < base) (fun q u hq hu => by rw [World.cell?_of_block ((HPAR.out.below.trans (hb.mono hbase2)).block q.block hq)]; exact hu) (fun _ h _ => h) hwji) (HPAR.out.row.below hb))
                have ho0 : (Value.slice va' n' vc').ownBlock ≠ some w.heap.size := fun e => by have := HOB.out _ e; have := HSZ.out; omega
                have ho1 : (Value.slice va' n' vc').ownBlock ≠ some (w.heap.size + 1) := fun e => by have := HOB.out _ e; have := HSZ.out; omega
                have hog : (Value.slice va' n' vc').ownBlock ≠ some g := fun e => by have := (HPAR.out.row.own.lt _ e).1; omega
                have hog' : (Value.slice va' n' vc').ownBlock ≠ some g' := fun e => by have := (HPAR.out.row.own.lt _ e).1; omega
                have HTL := Lib.hid hpl
                have HOO := Lib.hid (show _ ∧ _ ∧ _ ∧ _ from ⟨ho0, ho1, hog, hog'⟩)
                have HL0 := Lib.hid (show w.heap.size < wr.heap.size ∧ w.heap.size + 1 < wr.heap.size ∧ g < wr.heap.size ∧ g' < wr.heap.size from ⟨by omega, hwl, hgl, hgl'⟩)
                clear d1 d2 d3 f1 f2 f3 hd ih hpl htl hll hn' hkp ho0 ho1 hog hog'
                go_wp2_with fail
                go_region_held3 (fun w' => w'.cell? ⟨w.heap.size, 1, none⟩ = some (.slice (some ⟨g, 0, none⟩) ks.length cap) ∧ w'.cell? ⟨w.heap.size + 1, 1, none⟩ = some (.slice (some ⟨g', 0, none⟩) js.length tc) ∧ w'.cell? ⟨g, i * 2, none⟩ = some (.string kb) ∧ w'.cell? ⟨g, i * 2 + 1, none⟩ = some (.slice ka kn kc) ∧ w'.cell? ⟨g', i * 2, none⟩ = some (.string jb) ∧ w'.cell? ⟨g', i * 2 + 1, none⟩ = some (.slice ja jn jc))
                  (first | exact ⟨p1, q1, d1', d2', f1', f2'⟩ | exact Z)
                  (first
                  | (go_at_call 61; refine (HI.out _ (Below.refl _ _).drew).mono ?_; rintro e w2 ⟨ok2, ts2, n2, va2, vc2, vs2, rfl, hva2, hpar2, ho12, ho22⟩; have Z : _ ∧ _ ∧ _ ∧ _ ∧ _ ∧ _ := ⟨(World.cell?_of_block (hpar2.mid _ HL0.out.1 HOO.out.1)).trans p1, (World.cell?_of_block (hpar2.mid _ HL0.out.2.1 HOO.out.2.1)).trans q1, (World.cell?_of_block (hpar2.mid _ HL0.out.2.2.1 HOO.out.2.2.1)).trans d1', (World.cell?_of_block (hpar2.mid _ HL0.out.2.2.1 HOO.out.2.2.1)).trans d2', (World.cell?_of_block (hpar2.mid _ HL0.out.2.2.2 HOO.out.2.2.2)).trans f1', (World.cell?_of_block (hpar2.mid _ HL0.out.2.2.2 HOO.out.2.2.2)).trans f2'⟩))
                all_goals
                  have hs2 : wr.heap.size ≤ w2.heap.size := hpar2.below.size
                  have HP2 : Hid (Parts base (us ++ (ts ++ ts2)) n2 va2 vc2 vs2 (Value.slice va n vc).ownBlock w w2) := Lib.hid ⟨by rw [← List.append_assoc]; exact hpar2.len, by rw [← List.append_assoc]; exact hpar2.row, HPAR.out.below.trans ((Below.refl _ _).drew.trans hpar2.below), fun b h1 h2 => by
                    have h3 : b < wr.heap.size := Nat.lt_of_lt_of_le h1 HPAR.out.below.size
                    have h4 : (Value.slice va' n' vc').ownBlock ≠ some b := fun e => by
                      rcases HPAR.out.own b e with h | h
                      · exact h2 h
                      · omega
                    exact (hpar2.mid b h3 h4).trans (HPAR.out.mid b h1 h2), fun b e => by
                    rcases hpar2.own b e with h | h
                    · exact HPAR.out.own b h
                    · right
                      have h5 : wr.heap.size ≤ b := h
                      have := HPAR.out.below.size
                      omega⟩
                  have HZA := Lib.hid ((hpar2.mid _ HL0.out.1 HOO.out.1).trans HY0.out)
                  have HZB := Lib.hid ((hpar2.mid _ HL0.out.2.1 HOO.out.2.1).trans HY1.out)
                  have HOB2 : Hid (∀ b, (Value.slice va2 n2 vc2).ownBlock = some b → b < w.heap.size ∨ w0.heap.size ≤ b) := Lib.hid (fun b e => by
                    rcases hpar2.own b e with h | h
                    · exact HOB.out b h
                    · right
                      have h5 : wr.heap.size ≤ b := h
                      omega)
                  have H1 : Hid (ok2 = true → T.partsL (ks.take (i + 1)) (js.take (i + 1)) = some (ts ++ ts2)) := Lib.hid (fun h => partsL_snoc ks js i ts ts2 hlt hltj HTL.out (ho12 h))
                  have H2 : Hid (ok2 = false → T.partsL ks js = none) := Lib.hid (fun h => partsL_stop ks js i hlt hltj (ho22 h))
                  have HV2 := Lib.hid hva2
                  clear hpar2 ho12 ho22 hva2 Z
                  go_wp2_with fail
                  go_roundw
                  case rel => exact ⟨i + 1, ok2, ts ++ ts2, n2, va2, vc2, vs2, by omega, rfl, rfl, by go_num, HV2.out, HP2.out, by omega, HZA.out, HZB.out, HOB2.out, H1.out, H2.out⟩
                  case measure => simp [intOf]; omega
            · have hie : i = ks.length := by omega
              have HII := Lib.hid hie
              clear hie ih
              cases ok with
              | false =>
                go_wp2_with fail
                go_ret2
                exact ⟨false, ts, n', va', vc', vs', rfl, HVA'.out, HPAR.out, (fun h => by cases h), fun _ => by rw [HSAME.out]; exact HO2.out (by first | rfl | trivial)⟩
              | true =>
                go_wp2_with fail
                go_ret2
                exact ⟨true, ts, n', va', vc', vs', rfl, HVA'.out, HPAR.out, (fun _ => by
                  rw [HSAME.out]
                  have h := HO1.out (by first | rfl | trivial)
                  rw [HII.out, List.take_length, HLEN.out, List.take_length] at h
                  exact h), fun h => by cases h⟩
        · have HNO := Lib.hid (partsOf_unlike hcd)
          by_cases hc : c = d
          · subst hc
            have hs : ((#[c] : Array UInt8) == #[c]) = true := by simp
            have hne : ks.length ≠ js.length := fun e => hcd ⟨rfl, e⟩
            have hq2 : ((ks.length : Int) != (js.length : Int)) = true := by simp; omega
            have hq1 : ((ks.length : Int) == (js.length : Int)) = false := beq_false_of_ne (by omega)
            clear hcd hne
            go_enter Try.func61, Try.ntmps61
            go_wp2_with fail
            go_ret2
            exact ⟨false, [], n, va, vc, vs, rfl, HVA.out, HPA.out, (fun h => by cases h), fun _ => HNO.out⟩
          · have hs : ((#[c] : Array UInt8) == #[d]) = false := by simp [hc]
            clear hcd
            go_enter Try.func61, Try.ntmps61
            go_wp2_with fail
            go_ret2
            exact ⟨false, [], n, va, vc, vs, rfl, HVA.out, HPA.out, (fun h => by cases h), fun _ => HNO.out⟩
end Go.Proofs.Ytfjodghnheliaaa
