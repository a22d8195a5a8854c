/- The model lays one tree over another. -/
import Derived.Test.YtfjodghnheliaaaPatM
import Derived.Test.YtfjodghnheliaaaReplS
import Derived.Test.YtfjodghnheliaaaRow
namespace Go.Proofs.Ytfjodghnheliaaa
open Go.RowKit

/-- What 'l4Unite' answers. -/
def UnS (P : Nat → Prop) (o : Option T) (w : World) (e : Ending) (w' : World) : Prop :=
  Below w.heap.size w w' ∧ ∃ (lb : ByteArray) (sa : Option Addr) (sn sc : Nat) (b : Bool), e = .returned (.tuple #[.agg #[.string lb, .slice sa sn sc], .bool b]) ∧
    ((o = none ∧ b = false) ∨ ∃ t, o = some t ∧ b = true ∧ RepS w' (fun b => P b ∨ w.heap.size ≤ b) t (.string lb) (.slice sa sn sc))

/-- A tree put into a box that lies apart from it. -/
theorem box_set {w : World} {q : Nat} {t : TypeId} (h : w.heap[q]? = some (.cells #[.string ⟨#[]⟩, .slice none 0 0] t (0, 0))) (lb : ByteArray) (s : Value) :
    ((w.setCell ⟨q, 0, none⟩ (.string lb)).setCell ⟨q, 1, none⟩ s).heap[q]? = some (.cells #[.string lb, s] t (0, 0)) := by
  have h1 := heap_setCell_same h (k := 0) (.string lb)
  have h2 := heap_setCell_same h1 (k := 1) s
  simpa using h2
theorem box_rep {w : World} {q : Nat} {P P' : Nat → Prop} {u : T} {x y l s : Value} (hw : u.wf) (hr : RepS w P u l s) (hq : ¬ P q) (hP : ∀ b, P b → P' b) :
    RepS ((w.setCell ⟨q, 0, none⟩ x).setCell ⟨q, 1, none⟩ y) P' u l s := by
  refine hr.keep (fun p v hp hv => ?_) (fun b h _ => hP b h) hw
  have hne : p.block ≠ q := fun e => hq (e ▸ hp)
  rw [World.cell?_of_block (w := w)]
  · exact hv
  · rw [Below.heap_setCell _ _ _ _ hne, Below.heap_setCell _ _ _ _ hne]

set_option maxRecDepth 100000 in
set_option maxHeartbeats 4000000 in
theorem l4Unite_any (m : Nat) : ∀ (t u : T) (l s lu su : Value) (w : World) (P : Nat → Prop), SizeOf.sizeOf t ≤ m → t.wf → u.wf → (∀ b, P b → b < w.heap.size) → RepS w P t l s → RepS w P u lu su →
    Calls Try.prog 74 #[.agg #[l, s], .agg #[lu, su]] w (UnS P (t.unite u) w) := by
  induction m with
  | zero => intro t u l s lu su w P h; cases t <;> simp at h <;> omega
  | succ m ih =>
    intro t u l s lu su w P hn hwf huwf hP hr hru
    have HRT := Lib.hid hr
    have HRU := Lib.hid hru
    have HWT := Lib.hid hwf
    have HWU := Lib.hid huwf
    cases t with
    | leaf =>
      obtain ⟨ub, ua, un, uc, rfl, rfl⟩ := hru.shape'
      rw [RepS] at hr
      obtain ⟨rfl, rfl⟩ := hr
      clear hru
      go_enter Try.func74, Try.ntmps74
      go_wp2_with fail
      refine bodyPost_ret (v := .tuple #[.agg #[.string ub, .slice ua un uc], .bool true]) (by simp [results, Try.results74, go_sem]) rfl ?_
      have hb : Below w.heap.size w (((w.alloc (Obj.cells #[Value.string { data := #[] }, Value.slice none 0 0] 70)).alloc (Obj.cells #[Value.string ub, Value.slice ua un uc] 70)).alloc (Obj.cells #[Value.string ub, Value.slice ua un uc] 70)) := by go_grown
      exact ⟨hb, _, _, _, _, _, rfl, .inr ⟨u, unite_leaf u, rfl, (HRU.out.below HWU.out hb).keep (fun _ _ _ h => h) (fun b h _ => .inl h) HWU.out⟩⟩
    | node c ks =>
      rw [RepS] at hr
      obtain ⟨rfl, g, cap, rfl, hPg, hk6, hL⟩ := hr
      cases u with
      | leaf =>
        rw [RepS] at hru
        obtain ⟨rfl, rfl⟩ := hru
        clear hL
        go_enter Try.func74, Try.ntmps74
        go_wp2_with fail
        refine bodyPost_ret (v := .tuple #[.agg #[.string ⟨#[c]⟩, .slice (some ⟨g, 0, none⟩) ks.length cap], .bool true]) (by simp [results, Try.results74, go_sem]) rfl ?_
        have hb : Below w.heap.size w (((w.alloc (Obj.cells #[Value.string { data := #[c] }, Value.slice (some ⟨g, 0, none⟩) ks.length cap] 70)).alloc (Obj.cells #[Value.string { data := #[] }, Value.slice none 0 0] 70)).alloc (Obj.cells #[Value.string { data := #[c] }, Value.slice (some ⟨g, 0, none⟩) ks.length cap] 70)) := by go_grown
        exact ⟨hb, _, _, _, _, _, rfl, .inr ⟨_, unite_leaf2 _, rfl, (HRT.out.below HWT.out hb).keep (fun _ _ _ h => h) (fun b h _ => .inl h) HWT.out⟩⟩
      | node d js =>
        rw [RepS] at hru
        obtain ⟨rfl, g', cap', rfl, hPg', hk6', hL'⟩ := hru
        have HL := Lib.hid hL
        have HL' := Lib.hid hL'
        rw [T.wf] at hwf huwf
        have hk1 := hwf.2.2.1
        have HWK := Lib.hid hwf.2.2.2.2
        have HWJ := Lib.hid huwf.2.2.2.2
        clear hL hL' hwf huwf
        by_cases hcd : c = d
        · subst hcd
          have hs : ((#[c] : Array UInt8) == #[c]) = true := by simp
          by_cases hlen : ks.length = js.length
          · have hq1 : ((ks.length : Int) == (js.length : Int)) = true := by simp [hlen]
            have hq2 : ((ks.length : Int) != (js.length : Int)) = false := by simp [hlen]
            have HLEN := Lib.hid hlen
            obtain ⟨i0, hi0, hz, hzs, hzb⟩ := info_parts info42
            have R0 : Hid (ReplRel P w c (.slice (some ⟨g, 0, none⟩) ks.length cap) (.string ⟨#[c]⟩) (.slice (some ⟨g', 0, none⟩) js.length cap') [] none 0 [] ((((w.alloc (Obj.cells #[Value.string { data := #[c] }, Value.slice (some { block := g, off := 0 }) ks.length cap] 70)).alloc (Obj.cells #[Value.string ⟨#[c]⟩, Value.slice (some { block := g', off := 0 }) js.length cap'] 70)).alloc (Obj.cells #[Value.string { data := #[] }, Value.slice none 0 0] 70)).alloc (Obj.cells #[Value.string { data := #[c] }, Value.slice none 0 0] 70))) := Lib.hid (by
              have hst := OutRel.start (P := P) (base := w.heap.size + 1 + 1 + 1 + 1) (c := c) (w := ((w.alloc (Obj.cells #[Value.string { data := #[c] }, Value.slice (some { block := g, off := 0 }) ks.length cap] 70)).alloc (Obj.cells #[Value.string ⟨#[c]⟩, Value.slice (some { block := g', off := 0 }) js.length cap'] 70)).alloc (Obj.cells #[Value.string { data := #[] }, Value.slice none 0 0] 70)) (by simp) (fun b hb => by have := hP b hb; first | (simp; done) | (simp; omega))
              refine ⟨by simpa using hst, ?_, ?_, ?_, by simp, by go_grown⟩
              · rw [Below.heap_alloc _ _ _ (by first | (simp; done) | (simp; omega)), Below.heap_alloc _ _ _ (by first | (simp; done) | (simp; omega)), Below.heap_alloc _ _ _ (by simp)]; exact heap_alloc_new w _
              · rw [Below.heap_alloc _ _ _ (by first | (simp; done) | (simp; omega)), Below.heap_alloc _ _ _ (by simp)]
                have := heap_alloc_new (w.alloc (Obj.cells #[Value.string { data := #[c] }, Value.slice (some { block := g, off := 0 }) ks.length cap] 70)) (Obj.cells #[Value.string ⟨#[c]⟩, Value.slice (some { block := g', off := 0 }) js.length cap'] 70)
                simpa using this
              · rw [Below.heap_alloc _ _ _ (by simp)]
                have := heap_alloc_new ((w.alloc (Obj.cells #[Value.string { data := #[c] }, Value.slice (some { block := g, off := 0 }) ks.length cap] 70)).alloc (Obj.cells #[Value.string ⟨#[c]⟩, Value.slice (some { block := g', off := 0 }) js.length cap'] 70)) (Obj.cells #[Value.string { data := #[] }, Value.slice none 0 0] 70)
                simpa using this)
            clear hlen
            go_enter Try.func74, Try.ntmps74
            go_wp2_with fail
            go_loopw [7] (fun iv wr => ∃ (i : Nat) (acc : List T) (va : Option Addr) (vc : Nat) (xs : List Value), i ≤ ks.length ∧ iv = .int .i64 i ∧ acc.length = i ∧ T.uniteL (ks.take i) (js.take i) = some acc ∧ T.wfL acc ∧
                ReplRel P w c (.slice (some ⟨g, 0, none⟩) ks.length cap) (.string ⟨#[c]⟩) (.slice (some ⟨g', 0, none⟩) js.length cap') acc va vc xs wr) (fun iv _ => ks.length - (intOf iv).toNat)
            case atStart => exact ⟨0, [], none, 0, [], Nat.zero_le _, rfl, rfl, by rw [List.take_zero, uniteL_nil], by rw [T.wfL]; trivial, R0.out⟩
            case round =>
              obtain ⟨i, acc, va, vc, xs, hi, rfl, hal, hun, hawf, hrel⟩ := hrel
              have HREL := Lib.hid hrel
              have HAL := Lib.hid hal
              have HUN := Lib.hid hun
              have HAWF := Lib.hid hawf
              obtain ⟨ho, hb0, hb1, hb2, hsz, hB⟩ := hrel
              obtain ⟨c0, c1, _, _⟩ := two_cells hb0
              obtain ⟨e0, e1, _, _⟩ := two_cells hb1
              obtain ⟨r0, r1, fr0, fr1⟩ := two_cells hb2
              obtain ⟨o0, o1, fo0, fo1⟩ := two_cells ho.1
              rw [hal] at o1
              have HO := Lib.hid ho
              have HB0 := Lib.hid hb0
              have HB2 := Lib.hid hb2
              have HB := Lib.hid hB
              clear ho hb0 hb1 hb2 hal hun hawf
              by_cases hlt : i < ks.length
              · have hltj : i < js.length := by have := HLEN.out; omega
                obtain ⟨l1, s1, d1, d2, d3⟩ := HL.out.get i hlt
                obtain ⟨l2, s2, g1, g2, g3⟩ := HL'.out.get i hltj
                rw [Nat.zero_add] at d1 d2 g1 g2
                obtain ⟨kb, ka, kn, kc, rfl, rfl⟩ := d3.shape'
                obtain ⟨jb, ja, jn, jc, rfl, rfl⟩ := g3.shape'
                have hwk := wfL_get HWK.out i hlt
                have hwj := wfL_get HWJ.out i hltj
                have hd : SizeOf.sizeOf ks[i] < SizeOf.sizeOf ks := List.sizeOf_lt_of_mem (List.getElem_mem hlt)
                simp only [T.node.sizeOf_spec] at hn
                have d1' := keep1 hB d1
                have d2' := keep1 hB d2
                have g1' := keep1 hB g1
                have g2' := keep1 hB g2
                have HI := Lib.hid (fun (W : World) (hb : Below wr.heap.size wr W) => ih ks[i] js[i] _ _ _ _ W P (by omega) hwk hwj (fun b hb' => by have := hP b hb'; have := hb.size; omega) ((d3.below hwk hB).below hwk hb) ((g3.below hwj hB).below hwj hb))
                clear ih d1 d2 d3 g1 g2 g3 hd hB
                have hszw := HB.out.size
                have hgl : g < wr.heap.size := World.block_lt_of_cell? wr _ d1'
                have hgl' : g' < wr.heap.size := World.block_lt_of_cell? wr _ g1'
                have hl0 : w.heap.size < wr.heap.size := by omega
                have hl1 : w.heap.size + 1 < wr.heap.size := by omega
                go_upto_region 11 with fail
                go_cut [8, 9] from 36 to 65 (fun kv bv wx => ∃ (q : Nat) (lb : ByteArray) (sa : Option Addr) (sn sc : Nat) (bb : Bool), kv = .pointer (some ⟨q, 0, none⟩) ∧ bv = .bool bb ∧ wr.heap.size ≤ q ∧ wx.heap[q]? = some (.cells #[.string lb, .slice sa sn sc] 70 (0, 0)) ∧ Below wr.heap.size wr wx ∧
                    (((ks[i]).unite js[i] = none ∧ bb = false) ∨ ∃ u, (ks[i]).unite js[i] = some u ∧ bb = true ∧ RepS wx (fun b => P b ∨ wr.heap.size ≤ b) u (.string lb) (.slice sa sn sc)))
                case first =>
                  have HX0 := Lib.hid (((Below.refl wr.heap.size wr).alloc (Nat.le_refl _) (.cells #[.string ⟨#[]⟩, .slice none 0 0] 70 (0, 0))).drew)
                  have HX1 := Lib.hid ((Below.refl wr.heap.size wr).drew)
                  have HXB := (Below.refl wr.heap.size wr).alloc (Nat.le_refl _) (.cells #[.string ⟨#[]⟩, .slice none 0 0] 70 (0, 0))
                  have a0 := keep1 HXB c1
                  have a1 := keep1 HXB e1
                  have a2 := keep1 HXB d1'
                  have a3 := keep1 HXB d2'
                  have a4 := keep1 HXB g1'
                  have a5 := keep1 HXB g2'
                  clear HXB
                  go_region_held3 (fun w' => w'.cell? ⟨w.heap.size, 1, none⟩ = some (.slice (some ⟨g, 0, none⟩) ks.length cap) ∧ w'.cell? ⟨w.heap.size + 1, 1, none⟩ = some (.slice (some ⟨g', 0, none⟩) js.length cap') ∧ w'.cell? ⟨g, i * 2, none⟩ = some (.string kb) ∧ w'.cell? ⟨g, i * 2 + 1, none⟩ = some (.slice ka kn kc) ∧ w'.cell? ⟨g', i * 2, none⟩ = some (.string jb) ∧ w'.cell? ⟨g', i * 2 + 1, none⟩ = some (.slice ja jn jc))
                    (first | exact ⟨c1, e1, d1', d2', g1', g2'⟩ | exact ⟨a0, a1, a2, a3, a4, a5⟩ | exact ⟨z0, z1, z2, z3, z4, z5⟩ | exact V _ | exact U _ _)
                    (first
                    | (go_at_call 74; refine (HI.out _ HX0.out).mono ?_; rintro e w2 ⟨hB2, lb, sa, sn, sc, bb, rfl, hres⟩; have hk2 := (hB2.block wr.heap.size (by simp)).trans (heap_alloc_new wr (.cells #[.string ⟨#[]⟩, .slice none 0 0] 70 (0, 0))); obtain ⟨y0, y1, yf0, yf1⟩ := two_cells hk2; have hs2 := hB2.size; have z0 := keep1 hB2 a0; have z1 := keep1 hB2 a1; have z2 := keep1 hB2 a2; have z3 := keep1 hB2 a3; have z4 := keep1 hB2 a4; have z5 := keep1 hB2 a5; have BX := fun (x y : Value) => ((HX0.out.trans (hB2.mono HX0.out.size)).setCell (p := ⟨wr.heap.size, 0, none⟩) (Nat.le_refl _) x).setCell (p := ⟨wr.heap.size, 1, none⟩) (Nat.le_refl _) y; have U := fun (x y : Value) => (⟨keep1 (BX x y) c1, keep1 (BX x y) e1, keep1 (BX x y) d1', keep1 (BX x y) d2', keep1 (BX x y) g1', keep1 (BX x y) g2'⟩ : _ ∧ _ ∧ _ ∧ _ ∧ _ ∧ _))
                    | (go_at_call 74; refine (HI.out _ HX1.out).mono ?_; rintro e w2 ⟨hB2, lb, sa, sn, sc, bb, rfl, hres⟩; have hs2 := hB2.size; have z0 := keep1 (w := wr.drew) hB2 c1; have z1 := keep1 (w := wr.drew) hB2 e1; have z2 := keep1 (w := wr.drew) hB2 d1'; have z3 := keep1 (w := wr.drew) hB2 d2'; have z4 := keep1 (w := wr.drew) hB2 g1'; have z5 := keep1 (w := wr.drew) hB2 g2'; have V := fun (o : Obj) => (⟨keep1 ((Below.refl w2.heap.size w2).alloc (Nat.le_refl _) o) z0, keep1 ((Below.refl w2.heap.size w2).alloc (Nat.le_refl _) o) z1, keep1 ((Below.refl w2.heap.size w2).alloc (Nat.le_refl _) o) z2, keep1 ((Below.refl w2.heap.size w2).alloc (Nat.le_refl _) o) z3, keep1 ((Below.refl w2.heap.size w2).alloc (Nat.le_refl _) o) z4, keep1 ((Below.refl w2.heap.size w2).alloc (Nat.le_refl _) o) z5⟩ : _ ∧ _ ∧ _ ∧ _ ∧ _ ∧ _)))
                  all_goals
                    go_wp2_with fail
                    go_meet
                    first
                    | (refine ⟨w2.heap.size, lb, sa, sn, sc, bb, rfl, rfl, hs2, heap_alloc_new w2 _, HX1.out.trans (hB2.mono HX1.out.size) |>.alloc hs2 _, ?_⟩
                       rcases hres with ⟨h1, h2⟩ | ⟨u, h1, h2, h3⟩
                       · exact .inl ⟨h1, h2⟩
                       · exact .inr ⟨u, h1, h2, (h3.below (unite_ok _ _ _ hwk hwj h1).1 ((Below.refl _ _).alloc (Nat.le_refl _) _)).keep (fun _ _ _ h => h) (fun b h _ => h) (unite_ok _ _ _ hwk hwj h1).1⟩)
                    | (refine ⟨wr.heap.size, lb, sa, sn, sc, bb, rfl, rfl, Nat.le_refl _, box_set hk2 _ _, ((HX0.out.trans (hB2.mono HX0.out.size)).setCell (Nat.le_refl _) _).setCell (Nat.le_refl _) _, ?_⟩
                       rcases hres with ⟨h1, h2⟩ | ⟨u, h1, h2, h3⟩
                       · exact .inl ⟨h1, h2⟩
                       · exact .inr ⟨u, h1, h2, box_rep (unite_ok _ _ _ hwk hwj h1).1 h3 (fun h => by
                         rcases h with h | h
                         · have := hP _ h; omega
                         · simp at h; try omega) (fun b h => by
                         rcases h with h | h
                         · exact .inl h
                         · exact .inr (by simp at h; omega))⟩)
                case rest =>
                  obtain ⟨q, lb, sa, sn, sc, bb, rfl, rfl, hq, hbox, hBc, hres⟩ := hcut
                  obtain ⟨b0, b1, _, _⟩ := two_cells hbox
                  have c0' := keep1 hBc c0
                  have c1' := keep1 hBc c1
                  have r0' := keep1 hBc r0
                  have r1' := keep1 hBc r1
                  have fr0' := keepf hBc r0 fr0
                  have fr1' := keepf hBc r1 fr1
                  have o1' := keep1 hBc o1
                  have fo1' := keepf hBc o1 fo1
                  have HBC := Lib.hid hBc
                  have hsc := hBc.size
                  have hl3 : w.heap.size + 1 + 1 + 1 < wc.heap.size := by omega
                  have hl2 : w.heap.size + 1 + 1 < wc.heap.size := by omega
                  have hown0 := Lib.hid HO.out.2.2.2.1.lt
                  have HQ : Hid (∀ b, b < w.heap.size + 1 + 1 + 1 + 1 → some b ≠ (Value.slice va i vc).ownBlock) := Lib.hid (fun b hb e => by have := (hown0.out b (by rw [HAL.out]; exact e.symm)).1; omega)
                  have HOWN : Hid (wc.ownsRow (w.heap.size + 1 + 1 + 1 + 1) 70 2 (.slice va i vc) i xs) := Lib.hid (by
                    have := owns_below HO.out.2.2.2.1 hBc
                    rw [HAL.out] at this
                    exact this)
                  have HOA := Lib.hid (World.ownsRow.alloc HOWN.out (.cells #[.string lb, .slice sa sn sc] 70 (0, 0)))
                  clear hBc hbox c0 c1 e0 e1 r0 r1 o0 o1 fr0 fr1 fo0 fo1 d1' d2' g1' g2'
                  rcases hres with ⟨hno, rfl⟩ | ⟨u, hu, rfl, hrep⟩
                  · have HNO := Lib.hid (unite_fail (c := c) (uniteL_stop ks js i hlt hltj hno))
                    clear hno
                    go_wp2_with fail
                    refine bodyPost_ret (v := .tuple #[.agg #[.string ⟨#[c]⟩, .slice (some ⟨g, 0, none⟩) ks.length cap], .bool false]) (by simp [results, Try.results74, go_sem, r0', r1']) rfl ?_
                    exact ⟨((below_step HB.out HBC.out).setCell (by simp; omega) _).setCell (by simp; omega) _, _, _, _, _, _, rfl, .inl ⟨HNO.out, rfl⟩⟩
                  · have HU := Lib.hid hu
                    have HREP := Lib.hid hrep
                    have huw := (unite_ok _ _ _ hwk hwj hu).1
                    clear hu hrep
                    go_wp2_with (at_builtin; refine wpList_append_own_at _ rfl _ _ 68 rfl (w.heap.size + 1 + 1 + 1 + 1) 70 i0 (.agg #[.string ⟨#[]⟩, .slice none 0 0]) 2 40 Try.underlying68 hi0 hz hzs hzb rfl (by decide) (.slice va i vc) i xs rfl HOA.out ⟨wc.heap.size, 0, none⟩ 1 1 [.string lb, .slice sa sn sc] rfl rfl (cells_two rfl _ _) (by simp [Value.oneCell']) (by unfold maxLen; omega) (by omega) (by simp; omega) ?_; intro v3 w6 hown3 hg3 hnil3 hat3; obtain ⟨gg, cap', rfl, _, _, _⟩ := owns_some hown3 (fun e => by have := hnil3.1 e; simp at this); have y1 := hg3.cell (a := ⟨w.heap.size + 1 + 1 + 1, 1, none⟩) (v := .slice va i vc) (keep1 ((Below.refl _ _).alloc (Nat.le_refl _) _) o1') (HQ.out _ (by simp)); have y2 := grown_frozen' (a := ⟨w.heap.size + 1 + 1 + 1, 1, none⟩) (v := .slice va i vc) hg3 (keep1 ((Below.refl _ _).alloc (Nat.le_refl _) _) o1') (keepf (v := .slice va i vc) ((Below.refl _ _).alloc (Nat.le_refl _) _) o1' fo1') (HQ.out _ (by simp)))
                    have hs6 := hg3.size
                    have NX := HREL.out.next (w1 := wc) (t := u) (g := gg) (cap := cap') HBC.out HREP.out huw ((Below.refl _ _).alloc (Nat.le_refl _) (.cells #[.string lb, .slice sa sn sc] 70 (0, 0))) (by rw [HAL.out]; exact hown3) (by rw [HAL.out]; exact hg3) (by
                      rw [HAL.out]
                      rcases hat3 with h | h
                      · left; rw [← h]; rfl
                      · right; simp [Value.ownBlock] at h; omega)
                    rw [HAL.out] at NX
                    have NXX := Lib.hid NX
                    have HUL := Lib.hid (uniteL_snoc ks js i acc u hlt hltj HUN.out HU.out)
                    have HWL : Hid (T.wfL (acc ++ [u])) := Lib.hid (by rw [wfL_append]; exact ⟨HAWF.out, by rw [T.wfL, T.wfL]; exact ⟨huw, trivial⟩⟩)
                    clear NX hown3 hg3 hnil3 hat3
                    go_wp2_with fail
                    go_roundw
                    case rel => exact ⟨i + 1, acc ++ [u], some ⟨gg, 0, none⟩, cap', _, by omega, by go_num, by rw [List.length_append, HAL.out]; rfl, HUL.out, HWL.out, NXX.out⟩
                    case measure => simp [intOf]; omega
              · have hii : i = ks.length := by omega
                have HII := Lib.hid hii
                clear ih hii
                go_wp2_with fail
                refine bodyPost_ret (v := .tuple #[.agg #[.string ⟨#[c]⟩, .slice va i vc], .bool true]) (by simp [results, Try.results74, go_sem, r0, r1]) rfl ?_
                have hu : T.uniteL ks js = some acc := by
                  have h := HUN.out
                  rw [HII.out, List.take_length, HLEN.out, List.take_length] at h
                  exact h
                refine ⟨(hB.setCell (by simp; omega) _).setCell (by simp; omega) _, _, _, _, _, _, rfl, .inr ⟨.node c acc, unite_same HLEN.out hu, rfl, ?_⟩⟩
                have ho := HO.out
                rw [HAL.out] at ho
                have hrep := ho.rep (w2 := (wr.setCell ⟨w.heap.size + 1 + 1, 0, none⟩ (.string ⟨#[c]⟩)).setCell ⟨w.heap.size + 1 + 1, 1, none⟩ (.slice va i vc)) (by rw [HAL.out]; omega) (by rw [HAL.out]; omega) (by
                  intro q v hq hv
                  rw [World.cell?_of_block (w := wr)]
                  · exact hv
                  · have : q.block ≠ w.heap.size + 1 + 1 := by
                      rcases hq with h | h
                      · have := hP _ h; omega
                      · omega
                    rw [Below.heap_setCell _ _ _ _ this, Below.heap_setCell _ _ _ _ this])
                refine hrep.keep (fun _ _ _ h => h) (fun b h _ => by rcases h with h | h; exact .inl h; exact .inr (by omega)) ?_
                exact (unite_ok _ _ _ HWT.out HWU.out (unite_same HLEN.out hu)).1
          · have hq1 : ((ks.length : Int) == (js.length : Int)) = false := beq_false_of_ne (by omega)
            have HNO := Lib.hid (unite_unlike (c := c) (d := c) (ks := ks) (js := js) (fun h => hlen h.2))
            clear hlen
            go_enter Try.func74, Try.ntmps74
            go_wp2_with fail
            refine bodyPost_ret (v := .tuple #[.agg #[.string ⟨#[c]⟩, .slice (some ⟨g, 0, none⟩) ks.length cap], .bool false]) (by simp [results, Try.results74, go_sem]) rfl ?_
            exact ⟨by go_grown, _, _, _, _, _, rfl, .inl ⟨HNO.out, rfl⟩⟩
        · have hs : ((#[c] : Array UInt8) == #[d]) = false := by simp [hcd]
          have HNO := Lib.hid (unite_unlike (c := c) (d := d) (ks := ks) (js := js) (fun h => hcd h.1))
          go_enter Try.func74, Try.ntmps74
          go_wp2_with fail
          refine bodyPost_ret (v := .tuple #[.agg #[.string ⟨#[c]⟩, .slice (some ⟨g, 0, none⟩) ks.length cap], .bool false]) (by simp [results, Try.results74, go_sem]) rfl ?_
          exact ⟨by go_grown, _, _, _, _, _, rfl, .inl ⟨HNO.out, rfl⟩⟩
end Go.Proofs.Ytfjodghnheliaaa
