/- The program matches a pattern at the outside of a tree: a closure that calls itself and grows a captured row. -/
import Derived.Test.YtfjodghnheliaaaMatM
import Derived.Test.YtfjodghnheliaaaUniI
import Derived.Test.YtfjodghnheliaaaRow
import Derived.Deep.RegionHeld3
import Derived.Laws.EntriesVeiled
namespace Go.Proofs.Ytfjodghnheliaaa
open Go.RowKit

/-- A tree as the program has it, in a row. -/
def trI : Elt T where
  size := 1
  R w P t cs := ∃ ty a, cs = [.iface ty (.pointer (some a))] ∧ t.wf ∧ RepI w P t ty a
  len := by rintro w P t cs ⟨ty, a, rfl, _⟩; rfl
  one := by
    rintro w P t cs ⟨ty, a, rfl, _⟩ u hu
    simp at hu
    subst hu
    rfl
  keep := by
    rintro w w' P P' t cs hk hp ⟨ty, a, rfl, hw, hr⟩
    exact ⟨ty, a, rfl, hw, hr.keep hk hp hw⟩

theorem infoTI : (Try.prog.info? 50).map (fun i => (i.zero, i.size, i.bytes)) = some (some .nilIface, 1, 16) := by kernel_rfl

theorem Row.set_other {α : Type} {E : Elt α} {ty : TypeId} {base : Nat} {us : List α} {v : Value} {xs : List Value} {w : World} (h : Row (E.inn (fun b => b < base)) ty base us v xs w) {B : Nat} (hB : base ≤ B) (hne : v.ownBlock ≠ some B) (u : Value) :
    Row (E.inn (fun b => b < base)) ty base us v xs (w.setCell ⟨B, 0, none⟩ u) :=
  ⟨ownsRow_setCell_other h.own hne u, fun k hk => by
    obtain ⟨cs, h1, h2⟩ := h.reps k hk
    refine ⟨cs, h1, E.keep (P := fun b => v.ownBlock ≠ some b ∧ b < base) ?_ (fun _ h _ => h) h2⟩
    intro q x hq hx
    rw [World.cell?_of_block (w := w)]
    · exact hx
    · exact Below.heap_setCell _ _ _ _ (by have := hq.2; simp only at this ⊢; omega)⟩

/-- The two captured cells: the row of parts, and the closure itself. -/
def PInv (base Bp Bs : Nat) (us : List T) (w : World) : Prop :=
  ∃ (va : Option Addr) (vc : Nat) (vs : List Value), va ≠ none ∧ w.heap[Bp]? = some (.cells #[.slice va us.length vc] 86 (0, 0)) ∧
    w.heap[Bs]? = some (.cells #[.func (.func 79) #[] #[.pointer (some ⟨Bp, 0, none⟩), .pointer (some ⟨Bs, 0, none⟩)]] 129 (0, 0)) ∧
    (Value.slice va us.length vc).ownBlock ≠ some Bp ∧ (Value.slice va us.length vc).ownBlock ≠ some Bs ∧
    Row (trI.inn (fun b => b < base)) 50 base us (.slice va us.length vc) vs w

theorem PInv.below {base Bp Bs : Nat} {us : List T} {w w' : World} (h : PInv base Bp Bs us w) (hb : Below w.heap.size w w') : PInv base Bp Bs us w' := by
  obtain ⟨va, vc, vs, h1, h2, h3, h4, h5, h6⟩ := h
  exact ⟨va, vc, vs, h1, (hb.block _ (lt_of_block h2)).trans h2, (hb.block _ (lt_of_block h3)).trans h3, h4, h5, h6.below hb⟩

/-- What the closure answers. -/
def MatI (base Bp Bs : Nat) (us : List T) (o : Option (List T)) (w : World) (e : Ending) (w' : World) : Prop :=
  ∃ (ok : Bool) (ts : List T), e = .returned (.bool ok) ∧ Below base w w' ∧ PInv base Bp Bs (us ++ ts) w' ∧ (ok = true → o = some ts) ∧ (ok = false → o = none)

set_option maxRecDepth 100000 in
set_option maxHeartbeats 4000000 in
theorem partsAt1_any (m : Nat) : ∀ (p t : T) (ty tyt : TypeId) (a at' : Addr) (us : List T) (base Bp Bs : Nat) (w : World), SizeOf.sizeOf p ≤ m → p.wf → t.wf → us.length + p.leaves ≤ 100000 → base ≤ Bp → base ≤ Bs → Bp ≠ Bs → base ≤ w.heap.size →
    RepI w (fun b => b < base) p ty a → RepI w (fun b => b < base) t tyt at' → PInv base Bp Bs us w →
    Calls Try.prog 79 #[.iface ty (.pointer (some a)), .iface tyt (.pointer (some at')), .pointer (some ⟨Bp, 0, none⟩), .pointer (some ⟨Bs, 0, none⟩)] w (MatI base Bp Bs us (p.partsOf t) w) := by
  induction m with
  | zero => intro p t ty tyt a at' us base Bp Bs w h; cases p <;> simp at h <;> omega
  | succ m ih =>
    intro p t ty tyt a at' us base Bp Bs w hm hpw htw hlen hbp hbs hne hbase hrp hrt hinv
    have HPW := Lib.hid hpw
    have HTW := Lib.hid htw
    have HRT := Lib.hid hrt
    have HINV := Lib.hid hinv
    cases p with
    | leaf =>
      obtain ⟨va, vc, vs, hva, hcp, hcs, hop, hos, hrow⟩ := hinv
      obtain ⟨n, hn⟩ : ∃ n, n = us.length := ⟨_, rfl⟩
      have HN := Lib.hid hn
      rw [← hn] at hcp hop hos hrow hlen
      have HROW := Lib.hid hrow
      have HCP := Lib.hid hcp
      have HCS := Lib.hid hcs
      have HOP := Lib.hid hop
      have HOS := Lib.hid hos
      rw [RepI] at hrp
      subst hrp
      have hta := fun v w => assert_leaf v w
      obtain ⟨i0, hi0, hz, hzs, hzb⟩ := info_parts infoTI
      have OWN := hrow.own
      rw [← hn] at OWN
      have HOWN := Lib.hid OWN
      have HOA := Lib.hid (World.ownsRow.alloc OWN (.cells #[.iface tyt (.pointer (some at'))] 50 (0, 0)))
      rw [T.leaves] at hlen
      have hc0 := cell_of_one hcp
      have hbl : Bp < w.heap.size := lt_of_block hcp
      clear hrow hn hva hrt OWN hcp hcs hop hos
      go_enter Try.func79, Try.ntmps79
      go_wp2_with (at_builtin; refine wpList_append_own_at _ rfl _ _ 86 rfl base 50 i0 .nilIface 1 16 Try.underlying86 hi0 hz hzs hzb rfl (by decide) (.slice va n vc) n vs rfl HOA.out ⟨w.heap.size, 0, none⟩ 1 1 [.iface tyt (.pointer (some at'))] rfl rfl (cells_one rfl _) (by simp [Value.oneCell']) (by unfold maxLen; omega) (by omega) (by simp <;> omega) ?_; intro v3 w6 hown3 hg3 hnil3 hat3; obtain ⟨g3, q3, rfl, _, _, _⟩ := owns_some hown3 (fun e => by have := hnil3.1 e; simp at this); have hb6 : w6.heap[Bp]? = some (.cells #[.slice va n vc] 86 (0, 0)) := (hg3.block Bp (Nat.lt_of_lt_of_le hbl (by simp)) (fun e => HOP.out e.symm)).trans ((Below.heap_alloc _ _ _ hbl).trans HCP.out); have hc6 := cell_of_one hb6; have hf6 := free_of_one hb6)
      have hf3 : (Value.slice va n vc).ownBlock = some g3 ∨ w.heap.size ≤ g3 := by
        rcases hat3 with h | h
        · left; rw [← h]; rfl
        · right; simp [Value.ownBlock] at h; omega
      have NX : Row (trI.inn (fun b => b < base)) 50 base (us ++ [t]) (.slice (some ⟨g3, 0, none⟩) (n + 1) q3) (vs ++ [.iface tyt (.pointer (some at'))]) w6 := by
        have h := HROW.out
        rw [HN.out] at h
        have h := h.next (a := t) (g := g3) (cap := q3) (w1 := w) (w1' := w.alloc (.cells #[.iface tyt (.pointer (some at'))] 50 (0, 0))) (Below.refl _ _) ⟨tyt, at', rfl, HTW.out, HRT.out.keep (fun _ _ _ h => h) (fun b h _ => ⟨fun e => by have := (HROW.out.own.lt b (by rw [HN.out]; exact e)).1; omega, h⟩) HTW.out⟩ ((Below.refl _ _).alloc (Nat.le_refl _) _) (by rw [← HN.out]; exact hown3) (by rw [← HN.out]; exact hg3) (by rw [← HN.out]; exact hf3)
        rw [← HN.out] at h
        exact h
      have hlg := hg3.size
      have hl2 : (us ++ [t]).length = n + 1 := by rw [List.length_append, ← HN.out]; rfl
      have hbs' : Bs < w.heap.size := lt_of_block HCS.out
      have hgP : (Value.slice (some ⟨g3, 0, none⟩) (n + 1) q3).ownBlock ≠ some Bp := fun e => by
        simp only [Value.ownBlock, Option.some.injEq] at e
        rcases hf3 with h | h
        · exact HOP.out (h.trans (by rw [e]))
        · omega
      have hgS : (Value.slice (some ⟨g3, 0, none⟩) (n + 1) q3).ownBlock ≠ some Bs := fun e => by
        simp only [Value.ownBlock, Option.some.injEq] at e
        rcases hf3 with h | h
        · exact HOS.out (h.trans (by rw [e]))
        · omega
      have hRow := NX.set_other hbp hgP (.slice (some ⟨g3, 0, none⟩) (n + 1) q3)
      have hcs6 : (w6.setCell ⟨Bp, 0, none⟩ (.slice (some ⟨g3, 0, none⟩) (n + 1) q3)).heap[Bs]? = _ := (Below.heap_setCell _ _ _ _ (fun e => hne e.symm)).trans ((hg3.block Bs (Nat.lt_of_lt_of_le hbs' (by simp)) (fun e => HOS.out e.symm)).trans ((Below.heap_alloc _ _ _ hbs').trans HCS.out))
      have HP : Hid (PInv base Bp Bs (us ++ [t]) (w6.setCell ⟨Bp, 0, none⟩ (.slice (some ⟨g3, 0, none⟩) (n + 1) q3))) := Lib.hid (by
        refine ⟨some ⟨g3, 0, none⟩, q3, vs ++ [.iface tyt (.pointer (some at'))], by simp, ?_⟩
        rw [hl2]
        exact ⟨one_setCell hb6, hcs6, hgP, hgS, hRow⟩)
      clear hgP hgS hRow hcs6
      have HB : Hid (Below base w (w6.setCell ⟨Bp, 0, none⟩ (.slice (some ⟨g3, 0, none⟩) (n + 1) q3))) := Lib.hid (((((Below.refl base w).alloc hbase (.cells #[.iface tyt (.pointer (some at'))] 50 (0, 0))).grown hg3 (by simp; omega) (fun q e => (HOWN.out.lt q e).1))).setCell (p := ⟨Bp, 0, none⟩) hbp _)
      clear NX hown3 hg3 hnil3 hat3 hf3
      go_wp2_with fail
      go_ret
      exact ⟨true, [t], rfl, HB.out, HP.out, (fun _ => partsOf_leaf t), fun h => by cases h⟩
    | node c ks =>
      rw [RepI] at hrp
      obtain ⟨rfl, b, g, cap, rfl, hPb, hPg, h0, h1, h6, hL⟩ := hrp
      have hta := fun v w => assert_node v w
      cases t with
      | leaf =>
        rw [RepI] at hrt
        subst hrt
        have htb := fun v w => assert_leaf v w
        clear h0 h1 hL hinv
        go_enter Try.func79, Try.ntmps79
        go_wp2_with fail
        go_ret
        exact ⟨false, [], rfl, Below.refl _ _, by rw [List.append_nil]; exact HINV.out, (fun h => by cases h), fun _ => partsOf_no _ _⟩
      | node d js =>
        rw [RepI] at hrt
        obtain ⟨rfl, b', g', cap', rfl, hPb', hPg', h0', h1', h6', hL'⟩ := hrt
        have HAL := Lib.hid (fun (W : World) (hb : Below w.heap.size w W) => isAlike_any c d ks.length js.length b g cap b' g' cap' W (keep1 hb h0) (keep1 hb h1) (keep1 hb h0') (keep1 hb h1'))
        have HL := Lib.hid hL
        have HL' := Lib.hid hL'
        have H1 := Lib.hid h1
        have H1' := Lib.hid h1'
        by_cases hcd : c = d ∧ ks.length = js.length
        · rw [decide_eq_true hcd] at HAL
          obtain ⟨rfl, hlen2⟩ := hcd
          have HSAME := Lib.hid (partsOf_same (c := c) hlen2)
          have HLEN := Lib.hid hlen2
          rw [T.wf] at hpw htw
          have HWK := Lib.hid hpw.2.2.2.2
          have HWJ := Lib.hid htw.2.2.2.2
          rw [T.leaves] at hlen
          clear hlen2 h0 h1 h0' h1' hL hL' hinv hpw htw
          go_enter Try.func79, Try.ntmps79
          go_wp2_with fail
          refine (HAL.out _ (Below.refl _ _)).mono ?_
          rintro e w0 ⟨rfl, hB0⟩
          have hz0 := hB0.size
          have HB0 : Hid (Below base w w0) := Lib.hid (hB0.mono hbase)
          have HI0 : Hid (PInv base Bp Bs us w0) := Lib.hid (HINV.out.below hB0)
          have h1 : w0.cell? ⟨b, 1, none⟩ = some (.slice (some ⟨g, 0, none⟩) ks.length cap) := keep1 hB0 H1.out
          clear hB0
          go_wp2_with fail
          go_loopw [41] (fun iv wr => ∃ (k : Nat) (ts : List T), k ≤ ks.length ∧ iv = .int .i64 k ∧ T.partsL (ks.take k) (js.take k) = some ts ∧ PInv base Bp Bs (us ++ ts) wr ∧ Below base w wr) (fun iv _ => ks.length - (intOf iv).toNat)
          case atStart => exact ⟨0, [], Nat.zero_le _, rfl, by rw [List.take_zero, partsL_nil], by rw [List.append_nil]; exact HI0.out, HB0.out⟩
          case round =>
            obtain ⟨k, ts, hk', rfl, hpl, hinv, hB⟩ := hrel
            have HPL := Lib.hid hpl
            have HIN := Lib.hid hinv
            have HB := Lib.hid hB
            have hzr := hB.size
            by_cases hlt : k < ks.length
            · have hltj : k < js.length := by have := HLEN.out; omega
              obtain ⟨ty1, a1, d1, d2⟩ := HL.out.get k hlt
              obtain ⟨ty2, a2, e1, e2⟩ := HL'.out.get k hltj
              rw [Nat.zero_add] at d1 e1
              have hwk := wfL_get HWK.out k hlt
              have hwj := wfL_get HWJ.out k hltj
              have hd : SizeOf.sizeOf ks[k] < SizeOf.sizeOf ks := List.sizeOf_lt_of_mem (List.getElem_mem hlt)
              simp only [T.node.sizeOf_spec] at hm
              have hkp : ∀ {q : Addr} {v : Value}, q.block < base → w.cell? q = some v → wr.cell? q = some v := fun {q v} hq hv => by
                rw [World.cell?_of_block (HB.out.block q.block hq)]; exact hv
              have d1' := hkp hPg d1
              have e1' := hkp hPg' e1
              have q1' := hkp hPb' H1'.out
              have hzb : base ≤ wr.heap.size := Nat.le_trans hbase hzr
              obtain ⟨va, vc, vs, hva, hcp, hcs, hop, hos, hrow⟩ := hinv
              have cs := cell_of_one hcs
              have htl : ts.length = T.leavesL (ks.take k) := (partsL_ok (ks.take k) (js.take k) ts (by rw [List.length_take, List.length_take]; omega) ((wfL_append (ks.take k) (ks.drop k)).1 (by rw [List.take_append_drop]; exact HWK.out)).1 ((wfL_append (js.take k) (js.drop k)).1 (by rw [List.take_append_drop]; exact HWJ.out)).1 hpl).1
              have hll := leavesL_take_le (ks := ks) (k + 1)
              rw [leavesL_take hlt] at hll
              have HI := Lib.hid (fun (W : World) (hb : Below wr.heap.size wr W) => ih ks[k] js[k] ty1 ty2 a1 a2 (us ++ ts) base Bp Bs W (by omega) hwk hwj (by rw [List.length_append]; omega) hbp hbs hne (Nat.le_trans hzb hb.size)
                (d2.keep (P' := fun b => b < base) (fun q u hq hu => by rw [World.cell?_of_block ((HB.out.trans (hb.mono hzb)).block q.block hq)]; exact hu) (fun _ h _ => h) hwk)
                (e2.keep (P' := fun b => b < base) (fun q u hq hu => by rw [World.cell?_of_block ((HB.out.trans (hb.mono hzb)).block q.block hq)]; exact hu) (fun _ h _ => h) hwj) (HIN.out.below hb))
              clear ih d1 d2 e1 e2 hd hpl hB hva hcp hcs hop hos hrow htl hll hkp h1
              go_wp2_with fail
              go_region_with (go_at_call 79; refine (HI.out _ (Below.refl _ _).drew).mono ?_; rintro e w2 ⟨ok2, ts2, rfl, hb2, hinv2, ho1, ho2⟩)
              all_goals
                have HB2 : Hid (Below base w w2) := Lib.hid (HB.out.trans ((Below.refl _ _).drew.trans hb2))
                have HIN2 : Hid (PInv base Bp Bs (us ++ (ts ++ ts2)) w2) := Lib.hid (by rw [← List.append_assoc]; exact hinv2)
                cases ok2 with
                | false =>
                  have HNO : Hid (T.partsL ks js = none) := Lib.hid (partsL_stop ks js k hlt hltj (ho2 rfl))
                  clear ho1 ho2 hb2 hinv2
                  go_wp2_with fail
                  go_ret
                  exact ⟨false, ts ++ ts2, rfl, HB2.out, HIN2.out, (fun h => by cases h), fun _ => by rw [HSAME.out]; exact HNO.out⟩
                | true =>
                  have HYES : Hid (T.partsL (ks.take (k + 1)) (js.take (k + 1)) = some (ts ++ ts2)) := Lib.hid (partsL_snoc ks js k ts ts2 hlt hltj HPL.out (ho1 rfl))
                  clear ho1 ho2 hb2 hinv2
                  go_wp2_with fail
                  go_roundw
                  case rel => exact ⟨k + 1, ts ++ ts2, by omega, by go_num, HYES.out, HIN2.out, HB2.out⟩
                  case measure => simp [intOf]; omega
            · have hkk : k = ks.length := by omega
              have HK := Lib.hid hkk
              clear hkk ih hpl hinv hB
              go_wp2_with fail
              go_ret
              exact ⟨true, ts, rfl, HB.out, HIN.out, (fun _ => by
                have h := HPL.out
                rw [HK.out, List.take_length, HLEN.out, List.take_length] at h
                rw [HSAME.out]; exact h), fun h => by cases h⟩
        · rw [decide_eq_false hcd] at HAL
          have HNO := Lib.hid (partsOf_unlike hcd)
          clear hcd h0 h1 h0' h1' hL hL' hinv
          go_enter Try.func79, Try.ntmps79
          go_wp2_with fail
          refine (HAL.out _ (Below.refl _ _)).mono ?_
          rintro e w0 ⟨rfl, hB0⟩
          go_wp2_with fail
          go_ret
          exact ⟨false, [], rfl, hB0.mono hbase, by rw [List.append_nil]; exact HINV.out.below hB0, (fun h => by cases h), fun _ => HNO.out⟩

/-- What 'partsAt' answers. -/
def PartsI (P : Nat → Prop) (o : Option (List T)) (w : World) (e : Ending) (w' : World) : Prop :=
  Below w.heap.size w w' ∧ ((o = none ∧ e = .returned (.tuple #[.slice none 0 0, .bool false])) ∨
    ∃ (ts : List T) (g c : Nat), o = some ts ∧ e = .returned (.tuple #[.slice (some ⟨g, 0, none⟩) ts.length c, .bool true]) ∧ ts.length ≤ c ∧ c ≤ 9223372036854775807 ∧ g < w'.heap.size ∧ Rd (trI.inn P) w' (fun _ => True) (some ⟨g, 0, none⟩) ts)

set_option maxRecDepth 100000 in
set_option maxHeartbeats 4000000 in
theorem partsAt_any (p t : T) (ty tyt : TypeId) (a at' : Addr) (w : World) (hpw : p.wf) (htw : t.wf) (hlen : p.leaves ≤ 100000) (hrp : RepI w (fun b => b < w.heap.size) p ty a) (hrt : RepI w (fun b => b < w.heap.size) t tyt at') :
    Calls Try.prog 56 #[.iface ty (.pointer (some a)), .iface tyt (.pointer (some at'))] w (PartsI (fun b => b < w.heap.size) (p.partsOf t) w) := by
  have hb2 : ((w.alloc (.cells #[] 50 (0, 0))).alloc (.cells #[.slice (some ⟨w.heap.size, 0, none⟩) 0 0] 86 (0, 0))).heap[w.heap.size + 1]? = some (.cells #[.slice (some ⟨w.heap.size, 0, none⟩) 0 0] 86 (0, 0)) := by
    have := heap_alloc_new (w.alloc (.cells #[] 50 (0, 0))) (.cells #[.slice (some ⟨w.heap.size, 0, none⟩) 0 0] 86 (0, 0))
    simpa using this
  have hb3 : (((w.alloc (.cells #[] 50 (0, 0))).alloc (.cells #[.slice (some ⟨w.heap.size, 0, none⟩) 0 0] 86 (0, 0))).alloc (.cells #[.nilFunc] 129 (0, 0))).heap[w.heap.size + 1 + 1]? = some (.cells #[.nilFunc] 129 (0, 0)) := by
    have := heap_alloc_new ((w.alloc (.cells #[] 50 (0, 0))).alloc (.cells #[.slice (some ⟨w.heap.size, 0, none⟩) 0 0] 86 (0, 0))) (.cells #[.nilFunc] 129 (0, 0))
    simpa using this
  have c3 := cell_of_one hb3
  have f3 := free_of_one hb3
  have hb4 : (((w.alloc (.cells #[] 50 (0, 0))).alloc (.cells #[.slice (some ⟨w.heap.size, 0, none⟩) 0 0] 86 (0, 0))).alloc (.cells #[(.func (.func 79) #[] #[.pointer (some ⟨w.heap.size + 1, 0, none⟩), .pointer (some ⟨w.heap.size + 1 + 1, 0, none⟩)])] 129 (0, 0))).heap[w.heap.size + 1 + 1]? = some (.cells #[(.func (.func 79) #[] #[.pointer (some ⟨w.heap.size + 1, 0, none⟩), .pointer (some ⟨w.heap.size + 1 + 1, 0, none⟩)])] 129 (0, 0)) := by
    have := heap_alloc_new ((w.alloc (.cells #[] 50 (0, 0))).alloc (.cells #[.slice (some ⟨w.heap.size, 0, none⟩) 0 0] 86 (0, 0))) (.cells #[(.func (.func 79) #[] #[.pointer (some ⟨w.heap.size + 1, 0, none⟩), .pointer (some ⟨w.heap.size + 1 + 1, 0, none⟩)])] 129 (0, 0))
    simpa using this
  have c4 := cell_of_one hb4
  have hp4 : (((w.alloc (.cells #[] 50 (0, 0))).alloc (.cells #[.slice (some ⟨w.heap.size, 0, none⟩) 0 0] 86 (0, 0))).alloc (.cells #[(.func (.func 79) #[] #[.pointer (some ⟨w.heap.size + 1, 0, none⟩), .pointer (some ⟨w.heap.size + 1 + 1, 0, none⟩)])] 129 (0, 0))).heap[w.heap.size + 1]? = some (.cells #[.slice (some ⟨w.heap.size, 0, none⟩) 0 0] 86 (0, 0)) := (Below.heap_alloc _ _ _ (by simp)).trans hb2
  have hB4 : Below w.heap.size w (((w.alloc (.cells #[] 50 (0, 0))).alloc (.cells #[.slice (some ⟨w.heap.size, 0, none⟩) 0 0] 86 (0, 0))).alloc (.cells #[(.func (.func 79) #[] #[.pointer (some ⟨w.heap.size + 1, 0, none⟩), .pointer (some ⟨w.heap.size + 1 + 1, 0, none⟩)])] 129 (0, 0))) := (((Below.refl _ _).alloc (Nat.le_refl _) _).alloc (by simp) _).alloc (by simp; omega) _
  have hrow4 : Row (trI.inn (fun b => b < w.heap.size)) 50 w.heap.size [] (.slice (some ⟨w.heap.size, 0, none⟩) 0 0) [] (((w.alloc (.cells #[] 50 (0, 0))).alloc (.cells #[.slice (some ⟨w.heap.size, 0, none⟩) 0 0] 86 (0, 0))).alloc (.cells #[(.func (.func 79) #[] #[.pointer (some ⟨w.heap.size + 1, 0, none⟩), .pointer (some ⟨w.heap.size + 1 + 1, 0, none⟩)])] 129 (0, 0))) :=
    ⟨World.ownsRow.alloc (World.ownsRow.alloc (World.ownsRow_made w #[] 0 (Nat.le_refl _) (by simp [maxLen]) rfl) _) _, fun _ h => by simp at h⟩
  have HI : Hid (PInv w.heap.size (w.heap.size + 1) (w.heap.size + 1 + 1) [] (((w.alloc (.cells #[] 50 (0, 0))).alloc (.cells #[.slice (some ⟨w.heap.size, 0, none⟩) 0 0] 86 (0, 0))).alloc (.cells #[(.func (.func 79) #[] #[.pointer (some ⟨w.heap.size + 1, 0, none⟩), .pointer (some ⟨w.heap.size + 1 + 1, 0, none⟩)])] 129 (0, 0)))) :=
    Lib.hid ⟨some ⟨w.heap.size, 0, none⟩, 0, [], by simp, hp4, hb4, by simp only [Value.ownBlock, ne_eq, Option.some.injEq]; omega, by simp only [Value.ownBlock, ne_eq, Option.some.injEq]; omega, hrow4⟩
  have hs4 := hB4.size
  have HB4 := Lib.hid hB4
  have HC := Lib.hid (partsAt1_any (SizeOf.sizeOf p) p t ty tyt a at' [] w.heap.size (w.heap.size + 1) (w.heap.size + 1 + 1) _ (Nat.le_refl _) hpw htw (by simp; omega) (by omega) (by omega) (by omega) hs4 (hrp.belowB hpw hB4) (hrt.belowB htw hB4) HI.out)
  clear hb2 hb3 hb4 hp4 hB4 hrow4 hs4 hrp hrt
  go_enter Try.func56, Try.ntmps56
  go_wp2_with fail
  refine HC.out.mono ?_
  rintro e w1 ⟨ok, ts, rfl, hB, hinv, ho1, ho2⟩
  rw [List.nil_append] at hinv
  have HB : Hid (Below w.heap.size w w1) := Lib.hid (HB4.out.trans hB)
  obtain ⟨va, vc, vs, hva, hcp, hcs, hop, hos, hrow⟩ := hinv
  have cp := cell_of_one hcp
  have HROW := Lib.hid hrow
  have HVA := Lib.hid hva
  clear hcp hcs hop hos hrow hB hva
  cases ok with
  | false =>
    have HNO := Lib.hid (ho2 rfl)
    clear ho1 ho2
    go_wp2_with fail
    go_ret2
    exact ⟨HB.out, .inl ⟨HNO.out, rfl⟩⟩
  | true =>
    have HYES := Lib.hid (ho1 rfl)
    clear ho1 ho2
    go_wp2_with fail
    go_ret2
    obtain ⟨g, cap, e, hle, hcm, _⟩ := owns_some HROW.out.own (fun e => by simp only [Value.slice.injEq] at e; exact HVA.out e.1)
    simp only [Value.slice.injEq] at e
    obtain ⟨rfl, _, rfl⟩ := e
    exact ⟨HB.out, .inr ⟨ts, g, vc, HYES.out, rfl, hle, hcm, (HROW.out.own.lt g rfl).2, HROW.out.rd⟩⟩
end Go.Proofs.Ytfjodghnheliaaa
