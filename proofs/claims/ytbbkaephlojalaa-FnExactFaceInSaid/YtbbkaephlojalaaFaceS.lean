/- Faces by the model: is a tree one, the sum of degrees. -/
import Derived.Test.YtbbkaephlojalaaFaceI
import Derived.Test.YtbbkaephlojalaaKMatS
import Derived.Test.YtbbkaephlojalaaKDrawS
namespace Go.Proofs.Ytbbkaephlojalaa
open Go.RowKit

theorem all_append_pre (f : UInt8 × Nat → Bool) : ∀ ks : List T, (T.preL ks).all f = ks.all fun k => k.pre.all f
  | [] => by simp [T.preL]
  | k :: ks => by rw [T.preL, List.all_append, all_append_pre f ks, List.all_cons]

theorem fcB_node (c : UInt8) (ks : List T) : (T.node c ks).fcB = ((decide (c = 97) && decide (2 ≤ ks.length)) && ks.all T.fcB) := by
  rw [T.fcB, T.pre, List.all_cons, all_append_pre]
  rfl

set_option maxHeartbeats 400000 in
theorem l8Is_any (n : Nat) : ∀ (t : T) (l s : Value) (w : World) (P : Nat → Prop), SizeOf.sizeOf t ≤ n → t.wf → RepS w P t l s →
    Calls Try.prog 38 #[.agg #[l, s]] w (Ans (.bool t.fcB) w) := by
  induction n with
  | zero => intro t l s w P h; cases t <;> simp at h <;> omega
  | succ n ih =>
    intro t l s w P hn hwf hr
    cases t with
    | leaf =>
      rw [RepS] at hr
      obtain ⟨rfl, rfl⟩ := hr
      go_enter Try.func38, Try.ntmps38
      go_wp2_with fail
      go_ret
      exact ⟨by simp [T.fcB, T.pre], (Below.refl _ _).alloc (Nat.le_refl _) _⟩
    | node c ks =>
      rw [RepS] at hr
      obtain ⟨rfl, g, cap, rfl, hP, hk, hL⟩ := hr
      rw [T.wf] at hwf
      have hwk := hwf.2.2.2.2
      obtain ⟨x, hx⟩ : ∃ x : ByteArray, x = ⟨#[c]⟩ := ⟨_, rfl⟩
      rw [← hx]
      have hx1 : x.toList.isEmpty = false := by rw [ByteArray.toList_eq, hx]; rfl
      have hx2 : (x.toList == []) = false := by rw [ByteArray.toList_eq, hx]; rfl
      have hx3 : x.toList ≠ [] := by rw [ByteArray.toList_eq, hx]; simp
      have HL := Lib.hid hL
      have HW := Lib.hid hwk
      have hk1 : 1 ≤ ks.length := hwf.2.2.1
      have HFC : Hid ((T.node c ks).fcB = ((decide (c = 97) && decide (2 ≤ ks.length)) && ks.all T.fcB)) := Lib.hid (fcB_node c ks)
      obtain ⟨b0, hb0⟩ : ∃ b0, b0 = (decide (c = 97) && decide (2 ≤ ks.length)) := ⟨_, rfl⟩
      have HB0 := Lib.hid hb0
      simp only [T.node.sizeOf_spec] at hn
      have hcs : (c = 97 ∧ x.toList = [97]) ∨ (c ≠ 97 ∧ ¬ x.toList = [97]) := by
        rw [ByteArray.toList_eq, hx]
        by_cases hc : c = 97
        · exact .inl ⟨hc, by rw [hc]⟩
        · exact .inr ⟨hc, by simpa using hc⟩
      clear hL hwk hwf hx hb0
      have hrest : ∀ (wr : World) (k : Nat), k ≤ ks.length → Below (w.heap.size + 1) (w.alloc (Obj.cells #[Value.string x, Value.slice (some { block := g, off := 0 }) ks.length cap] 39)) wr →
          Below w.heap.size w wr ∧ wr.cell? ⟨w.heap.size, 1, none⟩ = some (Value.slice (some { block := g, off := 0 }) ks.length cap) ∧ ∀ hlt : k < ks.length, ∃ l' s', wr.cell? ⟨g, k * 2, none⟩ = some l' ∧ wr.cell? ⟨g, k * 2 + 1, none⟩ = some s' ∧ RepS wr P ks[k] l' s' := fun wr k hk hB => by
        have hW : Below w.heap.size w wr := ((Below.refl _ _).alloc (Nat.le_refl _) _).trans (hB.mono (by omega))
        refine ⟨hW, by rw [hB.cell (by simp)]; simp [go_sem], fun hlt => ?_⟩
        obtain ⟨l', s', d1, d2, d3⟩ := (HL.out.keep (Keeps.of_below hW P) (fun _ h _ => h) hP HW.out).get k hlt
        simp only [Nat.zero_add] at d1 d2
        exact ⟨l', s', d1, d2, d3⟩
      have HREST := Lib.hid hrest
      clear hrest
      have main : ∀ b0 : Bool, (x.toList = [97] ∧ decide ((1 : Int) < ks.length) = b0) ∨ (b0 = false ∧ ¬ x.toList = [97]) → (T.node c ks).fcB = (b0 && ks.all T.fcB) →
          Calls Try.prog 38 #[.agg #[.string x, .slice (some ⟨g, 0, none⟩) ks.length cap]] w (Ans (.bool (T.node c ks).fcB) w) := by
        intro b0 hb0 hfc
        have HF := Lib.hid hfc
        clear hfc
        rcases hb0 with ⟨hx97, hdd⟩ | ⟨rfl, hx97⟩
        all_goals
          go_enter Try.func38, Try.ntmps38
          go_wp2_with fail
          go_loopw [3, 4] (fun v i wr => ∃ k : Nat, k ≤ ks.length ∧ i = .int .i64 k ∧ (∃ b : Bool, v = .bool b ∧ (b && (ks.drop k).all T.fcB) = (T.node c ks).fcB) ∧ Below (w.heap.size+1) (w.alloc (Obj.cells #[Value.string x, Value.slice (some { block := g, off := 0 }) ks.length cap] 39)) wr) (fun _ i _ => ks.length - (intOf i).toNat)
          case atStart => exact ⟨0, Nat.zero_le _, rfl, ⟨_, rfl, by rw [HF.out, List.drop_zero]⟩, Below.refl _ _⟩
          case round =>
            obtain ⟨k, hk', rfl, ⟨b, rfl, hb⟩, hB⟩ := hrel
            obtain ⟨hW, c1, hget⟩ := HREST.out wr k hk' hB
            have HBB := Lib.hid hb
            have HWW := Lib.hid hW
            have HBN := Lib.hid hB
            clear hb hW hB
            by_cases hlt : k < ks.length
            · cases b
              · have HE : Hid ((T.node c ks).fcB = false) := Lib.hid (by rw [← HBB.out]; rfl)
                clear hget
                go_wp2_with fail
                go_ret
                exact ⟨by rw [HE.out]; rfl, HWW.out⟩
              · obtain ⟨l', s', d1, d2, d3⟩ := hget hlt
                have hd : SizeOf.sizeOf ks[k] < SizeOf.sizeOf ks := List.sizeOf_lt_of_mem (List.getElem_mem hlt)
                have HI := Lib.hid (ih ks[k] l' s' wr P (by omega) (wfL_get HW.out k hlt) d3)
                have HE : Hid (((ks[k]).fcB && (ks.drop (k + 1)).all T.fcB) = (T.node c ks).fcB) := Lib.hid (by
                  rw [← HBB.out, List.drop_eq_getElem_cons hlt, List.all_cons, Bool.true_and])
                clear hget hd d3
                obtain ⟨bk, hbk⟩ : ∃ bk, bk = (ks[k]).fcB := ⟨_, rfl⟩
                rw [← hbk] at HI HE
                clear hbk
                go_wp2_with fail
                refine HI.out.mono ?_
                rintro e w1 ⟨rfl, hB1⟩
                have hsz := HBN.out.size
                have HB1 := Lib.hid (HBN.out.trans (hB1.mono (by simp at hsz; omega)))
                clear hB1 hsz
                go_wp2_with fail
                go_roundw
                case rel => exact ⟨k + 1, by omega, by go_num, ⟨bk, rfl, HE.out⟩, HB1.out⟩
                case measure => simp [intOf]; omega
            · have hkk : k = ks.length := by omega
              have HE : Hid (b = (T.node c ks).fcB) := Lib.hid (by rw [← HBB.out, hkk, List.drop_length]; simp)
              clear hget hkk
              go_wp2_with fail
              go_ret
              exact ⟨by rw [HE.out]; rfl, HWW.out⟩
      refine main b0 ?_ (by rw [HFC.out, HB0.out])
      rw [HB0.out]
      rcases hcs with ⟨hc, hx97⟩ | ⟨hc, hx97⟩
      · refine .inl ⟨hx97, ?_⟩
        rw [hc, decide_eq_true rfl, Bool.true_and, decide_eq_decide]
        omega
      · exact .inr ⟨by simp [hc], hx97⟩

set_option maxHeartbeats 400000 in
theorem l8Dim_any (n : Nat) : ∀ (t : T) (l s : Value) (w : World) (P : Nat → Prop), SizeOf.sizeOf t ≤ n → t.wf → t.leaves < 1000000 → t.nodes < 1000000 → RepS w P t l s →
    Calls Try.prog 29 #[.agg #[l, s]] w (Ans (.int .i64 t.dim) w) := by
  induction n with
  | zero => intro t l s w P h; cases t <;> simp at h <;> omega
  | succ n ih =>
    intro t l s w P hn hwf hlv hnd hr
    cases t with
    | leaf =>
      rw [RepS] at hr
      obtain ⟨rfl, rfl⟩ := hr
      go_enter Try.func29, Try.ntmps29
      go_wp2_with fail
      go_ret
      exact ⟨by simp [T.dim], (Below.refl _ _).alloc (Nat.le_refl _) _⟩
    | node c ks =>
      rw [RepS] at hr
      obtain ⟨rfl, g, cap, rfl, hP, hk, hL⟩ := hr
      rw [T.wf] at hwf
      rw [T.leaves] at hlv
      rw [T.nodes] at hnd
      have hwk := hwf.2.2.2.2
      obtain ⟨x, hx⟩ : ∃ x : ByteArray, x = ⟨#[c]⟩ := ⟨_, rfl⟩
      rw [← hx]
      have hx1 : x.toList.isEmpty = false := by rw [ByteArray.toList_eq, hx]; rfl
      have hx2 : (x.toList == []) = false := by rw [ByteArray.toList_eq, hx]; rfl
      have hx3 : x.toList ≠ [] := by rw [ByteArray.toList_eq, hx]; simp
      have HL := Lib.hid hL
      have HW := Lib.hid hwk
      have HLV := Lib.hid hlv
      have HND := Lib.hid hnd
      have hk1 : 1 ≤ ks.length := hwf.2.2.1
      simp only [T.node.sizeOf_spec] at hn
      have HDM : Hid ((T.node c ks).dim = ((ks.length : Int) - 2) + T.dimL ks) := Lib.hid (by rw [T.dim])
      clear hL hwk hwf hx hlv hnd
      go_enter Try.func29, Try.ntmps29
      go_wp2_with fail
      go_loopw [3, 4] (fun v i wr => ∃ k : Nat, k ≤ ks.length ∧ i = .int .i64 k ∧ v = .int .i64 (((ks.length : Int) - 2) + T.dimL (ks.take k)) ∧ Below (w.heap.size+1) (w.alloc (Obj.cells #[Value.string x, Value.slice (some { block := g, off := 0 }) ks.length cap] 39)) wr) (fun _ i _ => ks.length - (intOf i).toNat)
      case atStart => exact ⟨0, Nat.zero_le _, rfl, by simp [T.dimL], Below.refl _ _⟩
      case round =>
        obtain ⟨k, hk', rfl, rfl, hB⟩ := hrel
        have hW : Below w.heap.size w wr := ((Below.refl _ _).alloc (Nat.le_refl _) _).trans (hB.mono (by omega))
        have c1 : wr.cell? ⟨w.heap.size, 1, none⟩ = some (Value.slice (some { block := g, off := 0 }) ks.length cap) := by rw [hB.cell (by simp)]; simp [go_sem]
        have HWW := Lib.hid hW
        have HBN := Lib.hid hB
        by_cases hlt : k < ks.length
        · obtain ⟨l', s', d1, d2, d3⟩ := (HL.out.keep (Keeps.of_below hW P) (fun _ h _ => h) hP HW.out).get k hlt
          simp only [Nat.zero_add] at d1 d2
          have hd : SizeOf.sizeOf ks[k] < SizeOf.sizeOf ks := List.sizeOf_lt_of_mem (List.getElem_mem hlt)
          have hwf1 := wfL_get HW.out k hlt
          have h1 := leavesL_take hlt
          have h2 := leavesL_take_le (ks := ks) (k + 1)
          have h3 := nodesL_take hlt
          have h4 := nodesL_take_le (ks := ks) (k + 1)
          have h5 := dim_nodes ks[k]
          have h6 := dimL_nodes (ks.take k)
          have h7 := List.length_take_le k ks
          have h8 : (ks.take k).length = k := List.length_take_of_le hk'
          have hlv := HLV.out
          have hnd := HND.out
          obtain ⟨z, hz⟩ : ∃ z, z = ((ks.length : Int) - 2) + T.dimL (ks.take k) := ⟨_, rfl⟩
          obtain ⟨y, hy⟩ : ∃ y, y = (ks[k]).dim := ⟨_, rfl⟩
          have hzb : -2000000 ≤ z ∧ z ≤ 2000000 := by omega
          have hyb : -2000000 ≤ y ∧ y ≤ 2000000 := by omega
          have HI := Lib.hid (ih ks[k] l' s' wr P (by omega) hwf1 (by omega) (by omega) d3)
          have HE : Hid (z + y = ((ks.length : Int) - 2) + T.dimL (ks.take (k + 1))) := Lib.hid (by
            rw [List.take_succ_eq_append_getElem hlt, dimL_append, hz, hy]
            simp only [T.dimL]; omega)
          rw [← hz]
          rw [← hy] at HI
          clear hd d3 hwf1 h1 h2 h3 h4 h5 h6 h7 h8 hlv hnd hz hy hW hB
          go_wp2_with fail
          refine HI.out.mono ?_
          rintro e w1 ⟨rfl, hB1⟩
          have hsz := HBN.out.size
          have HB1 := Lib.hid (HBN.out.trans (hB1.mono (by simp at hsz; omega)))
          clear hB1 hsz
          go_wp2_with fail
          go_roundw
          case rel => exact ⟨k + 1, by omega, by go_num, by rw [HE.out], HB1.out⟩
          case measure => simp [intOf]; omega
        · have hkk : k = ks.length := by omega
          have HE : Hid (((ks.length : Int) - 2) + T.dimL (ks.take k) = (T.node c ks).dim) := Lib.hid (by rw [hkk, List.take_length, HDM.out])
          rw [HE.out]
          clear hkk hW hB
          go_wp2_with fail
          go_ret
          exact ⟨rfl, HWW.out⟩

/-- What 'l8Face' answers. -/
def L8Post (s : ByteArray) (w : World) (e : Ending) (w' : World) : Prop :=
  Below w.heap.size w w' ∧ ∃ (lb : ByteArray) (sa : Option Addr) (sn sc : Nat) (b : Bool), e = .returned (.tuple #[.agg #[.string lb, .slice sa sn sc], .bool b]) ∧
    ((faceOf s.data.toList = none ∧ b = false) ∨ ∃ t, faceOf s.data.toList = some t ∧ b = true ∧ RepS w' (fun b => w.heap.size ≤ b) t (.string lb) (.slice sa sn sc))

set_option maxRecDepth 100000 in
set_option maxHeartbeats 4000000 in
theorem l8Face_any (s : ByteArray) (w : World) (hs : s.size ≤ 140737488351232) :
    Calls Try.prog 22 #[.string s] w (L8Post s w) := by
  have hb1 : Below w.heap.size w (w.alloc (Obj.cells #[Value.string ⟨#[]⟩, Value.slice none 0 0] 39)) := (Below.refl _ _).alloc (Nat.le_refl _) _
  have HB1 := Lib.hid hb1
  have HP := Lib.hid (fun W => l1Parse_any s W hs)
  clear hb1
  go_enter Try.func22, Try.ntmps22
  go_wp2_with fail
  refine (HP.out _).mono ?_
  rintro e w1 ⟨hb2, lb, sa, sn, sc, b, rfl, hres⟩
  have HBW : Hid (Below w.heap.size w (w1.alloc (.cells #[.string lb, .slice sa sn sc] 39))) := Lib.hid ((HB1.out.trans (hb2.mono (by simp))).alloc (by have := hb2.size; simp at this; omega) _)
  have h0 : (w1.alloc (.cells #[.string lb, .slice sa sn sc] 39)).heap[w.heap.size]? = some (.cells #[.string ⟨#[]⟩, .slice none 0 0] 39 (0, 0)) := by
    rw [Below.heap_alloc _ _ _ (by have := hb2.size; simp at this; omega), hb2.block _ (by simp)]; exact heap_alloc_new _ _
  have hq : (w1.alloc (.cells #[.string lb, .slice sa sn sc] 39)).heap[w1.heap.size]? = some (.cells #[.string lb, .slice sa sn sc] 39 (0, 0)) := heap_alloc_new _ _
  have hwq : w.heap.size < w1.heap.size := by have := hb2.size; simp at this; omega
  obtain ⟨q, hqe⟩ : ∃ q, q = w1.heap.size := ⟨_, rfl⟩
  rw [← hqe] at hq hwq
  have hqe' : Hid (w1.heap.size = q) := Lib.hid hqe.symm
  have HRES : Hid ((parse s.data.toList = none ∧ b = false) ∨ ∃ t, parse s.data.toList = some t ∧ b = true ∧ RepS (w1.alloc (.cells #[.string lb, .slice sa sn sc] 39)) (fun b => w.heap.size + 1 ≤ b) t (.string lb) (.slice sa sn sc)) := Lib.hid (by
    rcases hres with h | ⟨t, h1, h2, h3⟩
    · exact .inl h
    · exact .inr ⟨t, h1, h2, (h3.below (parse_some h1).1 ((Below.refl _ _).alloc (Nat.le_refl _) _)).keep (fun _ _ _ h => h) (fun b h _ => by simpa using h) (parse_some h1).1⟩)
  obtain ⟨wb, hwb⟩ : ∃ wb, wb = w1.alloc (.cells #[.string lb, .slice sa sn sc] 39) := ⟨_, rfl⟩
  rw [← hwb] at h0 hq HBW HRES
  have HWB := Lib.hid hwb
  obtain ⟨q0, q1, _, _⟩ := two_cells hq
  obtain ⟨p0, p1, p2, p3⟩ := two_cells h0
  have HO := Lib.hid h0
  have hwbs : w.heap.size < wb.heap.size := lt_of_block h0
  have hqs : q < wb.heap.size := lt_of_block hq
  clear h0 hq hres hb2 hwb hqe
  have hfin : ∀ (V : World) (b : Bool), Below wb.heap.size wb V → ((faceOf s.data.toList = none ∧ b = false) ∨ ∃ t, faceOf s.data.toList = some t ∧ b = true ∧ t.wf ∧ RepS wb (fun b => w.heap.size + 1 ≤ b) t (.string lb) (.slice sa sn sc)) →
      L8Post s w (.returned (.tuple #[.agg #[.string lb, .slice sa sn sc], .bool b])) ((V.setCell ⟨w.heap.size, 0, none⟩ (.string lb)).setCell ⟨w.heap.size, 1, none⟩ (.slice sa sn sc)) := fun V b hB h => by
    refine ⟨(((below_step HBW.out hB).setCell (p := ⟨w.heap.size, 0, none⟩) (Nat.le_refl _) _)).setCell (p := ⟨w.heap.size, 1, none⟩) (Nat.le_refl _) _, lb, sa, sn, sc, b, rfl, ?_⟩
    rcases h with h | ⟨t, h1, h2, h3, h4⟩
    · exact .inl h
    · refine .inr ⟨t, h1, h2, (h4.below h3 hB).keep (w := V) ?_ (fun b h _ => by omega) h3⟩
      intro p u hp hu
      exact cell_put2 hu (by omega) _ _
  have HF := Lib.hid hfin
  clear hfin
  rcases HRES.out with ⟨hno, rfl⟩ | ⟨t, hyes, rfl, hrep⟩
  · have HN : Hid (faceOf s.data.toList = none) := Lib.hid (faceOf_none.2 fun t ht => by rw [hno] at ht; cases ht)
    clear hno
    go_wp2_with fail
    rw [← HWB.out, hqe'.out]
    refine wp_region_held_drew (S := (fun w' => (w'.cell? ⟨q, 0, none⟩ = some (.string lb) ∧ w'.cell? ⟨q, 1, none⟩ = some (.slice sa sn sc)) ∧ ∃ x y, w'.heap[w.heap.size]? = some (.cells #[x, y] 39 (0, 0)))) (by kernel_rfl) (by exact ⟨⟨q0, q1⟩, _, _, HO.out⟩) (fun hHeld => ?_)
    refine wpAnyH_take (i := 0) (oi := { dst := some 11, op := Op.load 39 (Operand.tmp 4), type := 39, pos := "l8_faces.go:20", after := #[], guard := none }) (v := ?_) rfl (by kernel_rfl) (by kernel_rfl) (by kernel_rfl) (fun _ _ _ h => h) (Or.inl ⟨by rfl, ?_⟩) (by assumption) ?_
    rotate_left
    · (intro w hSw; (try dsimp only at hSw); go_simp <;> with_reducible rfl)
    (try simp only [Act.put, List.setIfInBounds_toArray, List.set_cons_zero, List.set_cons_succ])
    refine wpAnyH_take (i := 1) (oi := { dst := some 12, op := Op.move (Operand.tmp 5), type := 4, pos := "l8_faces.go:20", after := #[], guard := none }) (v := ?_) rfl (by kernel_rfl) (by kernel_rfl) (by kernel_rfl) (fun _ _ _ h => h) (Or.inl ⟨by rfl, ?_⟩) (by assumption) ?_
    rotate_left
    · (intro w hSw; (try dsimp only at hSw); go_simp <;> with_reducible rfl)
    (try simp only [Act.put, List.setIfInBounds_toArray, List.set_cons_zero, List.set_cons_succ])
    refine wpAnyH_take (i := 2) (oi := { dst := some 13, op := Op.move (Operand.tmp 12), type := 4, pos := "l8_faces.go:20", after := #[{ on := 1, ground := Ground.data }], guard := none }) (v := ?_) rfl (by kernel_rfl) (by kernel_rfl) (by kernel_rfl) (fun _ _ _ h => h) (Or.inl ⟨by rfl, ?_⟩) (by assumption) ?_
    rotate_left
    · (intro w hSw; (try dsimp only at hSw); go_simp <;> with_reducible rfl)
    (try simp only [Act.put, List.setIfInBounds_toArray, List.set_cons_zero, List.set_cons_succ])
    refine wpAnyH_take (i := 3) (oi := { dst := some 14, op := Op.load 39 (Operand.tmp 4), type := 39, pos := "l8_faces.go:20", after := #[{ on := 2, ground := Ground.guard }], guard := some (2, true) }) (v := undef) rfl (by kernel_rfl) (by kernel_rfl) (by kernel_rfl) (fun _ _ _ h => h) (Or.inr ⟨by rfl, rfl⟩) (by assumption) ?_
    (try simp only [Act.put, List.setIfInBounds_toArray, List.set_cons_zero, List.set_cons_succ])
    refine wpAnyH_take (i := 4) (oi := { dst := some 15, op := Op.call { callee := Callee.value (Operand.func 37), args := #[Operand.tmp 14], argTypes := #[39] }, type := 3, pos := "l8_faces.go:20", after := #[{ on := 3, ground := Ground.data }, { on := 2, ground := Ground.chain }, { on := 2, ground := Ground.guard }], guard := some (2, true) }) (v := undef) rfl (by kernel_rfl) (by kernel_rfl) (by kernel_rfl) (fun _ _ _ h => h) (Or.inr ⟨by rfl, rfl⟩) (by assumption) ?_
    (try simp only [Act.put, List.setIfInBounds_toArray, List.set_cons_zero, List.set_cons_succ])
    refine wpAnyH_take (i := 5) (oi := { dst := some 16, op := Op.binOp BinOp.leq 3 (Operand.tmp 15) (Operand.const (Value.int IntKind.i64 6)) 3, type := 4, pos := "l8_faces.go:20", after := #[{ on := 4, ground := Ground.data }, { on := 2, ground := Ground.guard }], guard := some (2, true) }) (v := undef) rfl (by kernel_rfl) (by kernel_rfl) (by kernel_rfl) (fun _ _ _ h => h) (Or.inr ⟨by rfl, rfl⟩) (by assumption) ?_
    (try simp only [Act.put, List.setIfInBounds_toArray, List.set_cons_zero, List.set_cons_succ])
    refine wpAnyH_take (i := 6) (oi := { dst := some 17, op := Op.pick (Operand.tmp 13) (Operand.tmp 16) (Operand.const (Value.bool false)), type := 4, pos := "l8_faces.go:20", after := #[{ on := 2, ground := Ground.data }, { on := 5, ground := Ground.data }], guard := none }) (v := ?_) rfl (by kernel_rfl) (by kernel_rfl) (by kernel_rfl) (fun _ _ _ h => h) (Or.inl ⟨by rfl, ?_⟩) (by assumption) ?_
    rotate_left
    · (intro w hSw; (try dsimp only at hSw); go_simp <;> with_reducible rfl)
    (try simp only [Act.put, List.setIfInBounds_toArray, List.set_cons_zero, List.set_cons_succ])
    refine wpAnyH_take (i := 7) (oi := { dst := some 18, op := Op.move (Operand.tmp 17), type := 4, pos := "l8_faces.go:20", after := #[{ on := 6, ground := Ground.data }, { on := 4, ground := Ground.chain }], guard := none }) (v := ?_) rfl (by kernel_rfl) (by kernel_rfl) (by kernel_rfl) (fun _ _ _ h => h) (Or.inl ⟨by rfl, ?_⟩) (by assumption) ?_
    rotate_left
    · (intro w hSw; (try dsimp only at hSw); go_simp <;> with_reducible rfl)
    (try simp only [Act.put, List.setIfInBounds_toArray, List.set_cons_zero, List.set_cons_succ])
    refine wpAnyH_take (i := 8) (oi := { dst := some 19, op := Op.load 39 (Operand.tmp 4), type := 39, pos := "l8_faces.go:20", after := #[{ on := 7, ground := Ground.guard }], guard := some (7, true) }) (v := undef) rfl (by kernel_rfl) (by kernel_rfl) (by kernel_rfl) (fun _ _ _ h => h) (Or.inr ⟨by rfl, rfl⟩) (by assumption) ?_
    (try simp only [Act.put, List.setIfInBounds_toArray, List.set_cons_zero, List.set_cons_succ])
    refine wpAnyH_take (i := 9) (oi := { dst := some 20, op := Op.call { callee := Callee.value (Operand.func 38), args := #[Operand.tmp 19], argTypes := #[39] }, type := 4, pos := "l8_faces.go:20", after := #[{ on := 8, ground := Ground.data }, { on := 7, ground := Ground.chain }, { on := 7, ground := Ground.guard }], guard := some (7, true) }) (v := undef) rfl (by kernel_rfl) (by kernel_rfl) (by kernel_rfl) (fun _ _ _ h => h) (Or.inr ⟨by rfl, rfl⟩) (by assumption) ?_
    (try simp only [Act.put, List.setIfInBounds_toArray, List.set_cons_zero, List.set_cons_succ])
    refine wpAnyH_take (i := 10) (oi := { dst := some 21, op := Op.pick (Operand.tmp 18) (Operand.tmp 20) (Operand.const (Value.bool false)), type := 4, pos := "l8_faces.go:20", after := #[{ on := 7, ground := Ground.data }, { on := 9, ground := Ground.data }, { on := 11, ground := Ground.gcOnly Departure.lateStores }], guard := none }) (v := ?_) rfl (by kernel_rfl) (by kernel_rfl) (by kernel_rfl) (fun _ _ _ h => h) (Or.inl ⟨by rfl, ?_⟩) (by assumption) ?_
    rotate_left
    · (intro w hSw; (try dsimp only at hSw); go_simp <;> with_reducible rfl)
    (try simp only [Act.put, List.setIfInBounds_toArray, List.set_cons_zero, List.set_cons_succ])
    obtain ⟨s0, s1, s2, s3⟩ := two_cells HO.out
    refine wpAnyH_ready (rs := [11]) (by kernel_rfl) (by simp) ?_
    refine AllReadyH.cons (o := { dst := none, op := Op.store 39 (Operand.tmp 2) (Operand.tmp 11), type := 0, pos := "l8_faces.go:20", after := #[{ on := 0, ground := Ground.data }, { on := 9, ground := Ground.chain }, { on := 0, ground := Ground.phase }, { on := 1, ground := Ground.textOnly Departure.lateStores }, { on := 2, ground := Ground.textOnly Departure.lateStores }, { on := 3, ground := Ground.textOnly Departure.lateStores }, { on := 4, ground := Ground.textOnly Departure.lateStoresUnsure }, { on := 5, ground := Ground.textOnly Departure.lateStores }, { on := 6, ground := Ground.textOnly Departure.lateStores }, { on := 7, ground := Ground.textOnly Departure.lateStores }, { on := 8, ground := Ground.textOnly Departure.lateStores }, { on := 9, ground := Ground.textOnly Departure.lateStoresUnsure }, { on := 10, ground := Ground.textOnly Departure.lateStores }], guard := none }) rfl (fun K hK => ?_) AllReadyH.nil
    go_simp
    go_wp2_with fail
    refine hK.out _ _ ?_ (fun hHeld => ?_)
    · exact ⟨⟨cell_put2 q0 (by show q ≠ _; omega) _ _, cell_put2 q1 (by show q ≠ _; omega) _ _⟩, _, _, put_two2 HO.out _ _⟩
    clear hK K
    (try simp only [Act.put, List.setIfInBounds_toArray, List.set_cons_zero, List.set_cons_succ])
    refine wpAnyH_take (i := 12) (oi := { dst := some 3, op := Op.assign (Operand.tmp 21), type := 4, pos := "l8_faces.go:20", after := #[{ on := 10, ground := Ground.data }, { on := 11, ground := Ground.chain }, { on := 0, ground := Ground.phase }, { on := 1, ground := Ground.phase }, { on := 2, ground := Ground.phase }, { on := 3, ground := Ground.phase }, { on := 4, ground := Ground.phase }, { on := 5, ground := Ground.phase }, { on := 6, ground := Ground.phase }, { on := 7, ground := Ground.phase }, { on := 8, ground := Ground.phase }, { on := 9, ground := Ground.phase }, { on := 10, ground := Ground.phase }, { on := 11, ground := Ground.phase }], guard := none }) (v := ?_) rfl (by kernel_rfl) (by kernel_rfl) (by kernel_rfl) (fun _ _ _ h => h) (Or.inl ⟨by rfl, ?_⟩) (by assumption) ?_
    rotate_left
    · (intro w hSw; (try dsimp only at hSw); go_simp <;> with_reducible rfl)
    (try simp only [Act.put, List.setIfInBounds_toArray, List.set_cons_zero, List.set_cons_succ])
    refine wpAnyH_done (by kernel_rfl) ?_ _
    go_wp2_with fail
    refine bodyPost_ret (v := .tuple #[.agg #[.string lb, .slice sa sn sc], .bool false]) (by simp [results, Try.results22, go_sem, s0, s1]) rfl ?_
    exact HF.out wb.drew false (Below.refl _ _).drew (.inl ⟨HN.out, rfl⟩)
  · have hp := parse_some hyes
    obtain ⟨L, hL⟩ : ∃ L, L = t.leaves := ⟨_, rfl⟩
    have HLV := Lib.hid (fun (V : World) (hb : Below wb.heap.size wb V) => l1Leaves_any _ t _ _ V _ (Nat.le_refl _) hp.1 (by have := hp.2.2.1; omega) (hrep.below hp.1 hb))
    rw [← hL] at HLV
    obtain ⟨bi, hbi⟩ : ∃ bi, bi = t.fcB := ⟨_, rfl⟩
    have HIS := Lib.hid (fun (V : World) (hb : Below wb.heap.size wb V) => l8Is_any _ t _ _ V _ (Nat.le_refl _) hp.1 (hrep.below hp.1 hb))
    rw [← hbi] at HIS
    have HBI := Lib.hid hbi
    have HL := Lib.hid hL
    have HY := Lib.hid hyes
    have HR := Lib.hid hrep
    have HW := Lib.hid hp.1
    clear hyes hrep hp hL hbi
    by_cases hle : L ≤ 6
    · have hl1 : decide ((L : Int) ≤ 6) = true := by simp; omega
      have HLE := Lib.hid hle
      clear hle
      go_wp2_with fail
      rw [← HWB.out, hqe'.out]
      refine wp_region_held_drew (S := (fun w' => (w'.cell? ⟨q, 0, none⟩ = some (.string lb) ∧ w'.cell? ⟨q, 1, none⟩ = some (.slice sa sn sc)) ∧ ∃ x y, w'.heap[w.heap.size]? = some (.cells #[x, y] 39 (0, 0)))) (by kernel_rfl) (by exact ⟨⟨q0, q1⟩, _, _, HO.out⟩) (fun hHeld => ?_)
      refine wpAnyH_take (i := 0) (oi := { dst := some 11, op := Op.load 39 (Operand.tmp 4), type := 39, pos := "l8_faces.go:20", after := #[], guard := none }) (v := ?_) rfl (by kernel_rfl) (by kernel_rfl) (by kernel_rfl) (fun _ _ _ h => h) (Or.inl ⟨by rfl, ?_⟩) (by assumption) ?_
      rotate_left
      · (intro w hSw; (try dsimp only at hSw); go_simp <;> with_reducible rfl)
      (try simp only [Act.put, List.setIfInBounds_toArray, List.set_cons_zero, List.set_cons_succ])
      refine wpAnyH_take (i := 1) (oi := { dst := some 12, op := Op.move (Operand.tmp 5), type := 4, pos := "l8_faces.go:20", after := #[], guard := none }) (v := ?_) rfl (by kernel_rfl) (by kernel_rfl) (by kernel_rfl) (fun _ _ _ h => h) (Or.inl ⟨by rfl, ?_⟩) (by assumption) ?_
      rotate_left
      · (intro w hSw; (try dsimp only at hSw); go_simp <;> with_reducible rfl)
      (try simp only [Act.put, List.setIfInBounds_toArray, List.set_cons_zero, List.set_cons_succ])
      refine wpAnyH_take (i := 2) (oi := { dst := some 13, op := Op.move (Operand.tmp 12), type := 4, pos := "l8_faces.go:20", after := #[{ on := 1, ground := Ground.data }], guard := none }) (v := ?_) rfl (by kernel_rfl) (by kernel_rfl) (by kernel_rfl) (fun _ _ _ h => h) (Or.inl ⟨by rfl, ?_⟩) (by assumption) ?_
      rotate_left
      · (intro w hSw; (try dsimp only at hSw); go_simp <;> with_reducible rfl)
      (try simp only [Act.put, List.setIfInBounds_toArray, List.set_cons_zero, List.set_cons_succ])
      refine wpAnyH_take (i := 3) (oi := { dst := some 14, op := Op.load 39 (Operand.tmp 4), type := 39, pos := "l8_faces.go:20", after := #[{ on := 2, ground := Ground.guard }], guard := some (2, true) }) (v := ?_) rfl (by kernel_rfl) (by kernel_rfl) (by kernel_rfl) (fun _ _ _ h => h) (Or.inl ⟨by rfl, ?_⟩) (by assumption) ?_
      rotate_left
      · (intro w hSw; (try dsimp only at hSw); go_simp <;> with_reducible rfl)
      (try simp only [Act.put, List.setIfInBounds_toArray, List.set_cons_zero, List.set_cons_succ])
      refine wpAnyH_ready (rs := [4]) (by kernel_rfl) (by simp) ?_
      refine AllReadyH.cons (o := { dst := some 15, op := Op.call { callee := Callee.value (Operand.func 37), args := #[Operand.tmp 14], argTypes := #[39] }, type := 3, pos := "l8_faces.go:20", after := #[{ on := 3, ground := Ground.data }, { on := 2, ground := Ground.chain }, { on := 2, ground := Ground.guard }], guard := some (2, true) }) rfl (fun K hK => ?_) AllReadyH.nil
      go_simp
      go_wp2_with fail
      refine (HLV.out _ (Below.refl _ _).drew).mono ?_
      rintro e V1 ⟨rfl, hB1⟩
      have hB1' := (Below.refl wb.heap.size wb).drew.trans hB1
      have q2 := keep1 hB1' q0
      have q3 := keep1 hB1' q1
      have HO1 := Lib.hid ((hB1'.block _ (lt_of_block HO.out)).trans HO.out)
      have HB1 := Lib.hid hB1'
      clear hB1 hB1'
      go_wp2_with fail
      refine hK.out _ _ ?_ (fun hHeld => ?_)
      · exact ⟨⟨q2, q3⟩, _, _, HO1.out⟩
      clear hK K
      (try simp only [Act.put, List.setIfInBounds_toArray, List.set_cons_zero, List.set_cons_succ])
      refine wpAnyH_take (i := 5) (oi := { dst := some 16, op := Op.binOp BinOp.leq 3 (Operand.tmp 15) (Operand.const (Value.int IntKind.i64 6)) 3, type := 4, pos := "l8_faces.go:20", after := #[{ on := 4, ground := Ground.data }, { on := 2, ground := Ground.guard }], guard := some (2, true) }) (v := ?_) rfl (by kernel_rfl) (by kernel_rfl) (by kernel_rfl) (fun _ _ _ h => h) (Or.inl ⟨by rfl, ?_⟩) (by assumption) ?_
      rotate_left
      · (intro w hSw; (try dsimp only at hSw); go_simp <;> with_reducible rfl)
      (try simp only [Act.put, List.setIfInBounds_toArray, List.set_cons_zero, List.set_cons_succ])
      refine wpAnyH_take (i := 6) (oi := { dst := some 17, op := Op.pick (Operand.tmp 13) (Operand.tmp 16) (Operand.const (Value.bool false)), type := 4, pos := "l8_faces.go:20", after := #[{ on := 2, ground := Ground.data }, { on := 5, ground := Ground.data }], guard := none }) (v := ?_) rfl (by kernel_rfl) (by kernel_rfl) (by kernel_rfl) (fun _ _ _ h => h) (Or.inl ⟨by rfl, ?_⟩) (by assumption) ?_
      rotate_left
      · (intro w hSw; (try dsimp only at hSw); go_simp <;> with_reducible rfl)
      (try simp only [Act.put, List.setIfInBounds_toArray, List.set_cons_zero, List.set_cons_succ])
      refine wpAnyH_take (i := 7) (oi := { dst := some 18, op := Op.move (Operand.tmp 17), type := 4, pos := "l8_faces.go:20", after := #[{ on := 6, ground := Ground.data }, { on := 4, ground := Ground.chain }], guard := none }) (v := ?_) rfl (by kernel_rfl) (by kernel_rfl) (by kernel_rfl) (fun _ _ _ h => h) (Or.inl ⟨by rfl, ?_⟩) (by assumption) ?_
      rotate_left
      · (intro w hSw; (try dsimp only at hSw); go_simp <;> with_reducible rfl)
      (try simp only [Act.put, List.setIfInBounds_toArray, List.set_cons_zero, List.set_cons_succ])
      refine wpAnyH_take (i := 8) (oi := { dst := some 19, op := Op.load 39 (Operand.tmp 4), type := 39, pos := "l8_faces.go:20", after := #[{ on := 7, ground := Ground.guard }], guard := some (7, true) }) (v := ?_) rfl (by kernel_rfl) (by kernel_rfl) (by kernel_rfl) (fun _ _ _ h => h) (Or.inl ⟨by rfl, ?_⟩) (by assumption) ?_
      rotate_left
      · (intro w hSw; (try dsimp only at hSw); go_simp <;> with_reducible rfl)
      (try simp only [Act.put, List.setIfInBounds_toArray, List.set_cons_zero, List.set_cons_succ])
      refine wpAnyH_ready (rs := [9]) (by kernel_rfl) (by simp) ?_
      refine AllReadyH.cons (o := { dst := some 20, op := Op.call { callee := Callee.value (Operand.func 38), args := #[Operand.tmp 19], argTypes := #[39] }, type := 4, pos := "l8_faces.go:20", after := #[{ on := 8, ground := Ground.data }, { on := 7, ground := Ground.chain }, { on := 7, ground := Ground.guard }], guard := some (7, true) }) rfl (fun K hK => ?_) AllReadyH.nil
      go_simp
      go_wp2_with fail
      refine (HIS.out _ HB1.out).mono ?_
      rintro e V2 ⟨rfl, hB2⟩
      have q4 := keep1 hB2 q2
      have q5 := keep1 hB2 q3
      have HO2 := Lib.hid ((hB2.block _ (lt_of_block HO1.out)).trans HO1.out)
      have HB2 := Lib.hid (below_step HB1.out hB2)
      clear hB2
      go_wp2_with fail
      refine hK.out _ _ ?_ (fun hHeld => ?_)
      · exact ⟨⟨q4, q5⟩, _, _, HO2.out⟩
      clear hK K
      (try simp only [Act.put, List.setIfInBounds_toArray, List.set_cons_zero, List.set_cons_succ])
      refine wpAnyH_take (i := 10) (oi := { dst := some 21, op := Op.pick (Operand.tmp 18) (Operand.tmp 20) (Operand.const (Value.bool false)), type := 4, pos := "l8_faces.go:20", after := #[{ on := 7, ground := Ground.data }, { on := 9, ground := Ground.data }, { on := 11, ground := Ground.gcOnly Departure.lateStores }], guard := none }) (v := ?_) rfl (by kernel_rfl) (by kernel_rfl) (by kernel_rfl) (fun _ _ _ h => h) (Or.inl ⟨by rfl, ?_⟩) (by assumption) ?_
      rotate_left
      · (intro w hSw; (try dsimp only at hSw); go_simp <;> with_reducible rfl)
      (try simp only [Act.put, List.setIfInBounds_toArray, List.set_cons_zero, List.set_cons_succ])
      obtain ⟨s0, s1, s2, s3⟩ := two_cells HO2.out
      refine wpAnyH_ready (rs := [11]) (by kernel_rfl) (by simp) ?_
      refine AllReadyH.cons (o := { dst := none, op := Op.store 39 (Operand.tmp 2) (Operand.tmp 11), type := 0, pos := "l8_faces.go:20", after := #[{ on := 0, ground := Ground.data }, { on := 9, ground := Ground.chain }, { on := 0, ground := Ground.phase }, { on := 1, ground := Ground.textOnly Departure.lateStores }, { on := 2, ground := Ground.textOnly Departure.lateStores }, { on := 3, ground := Ground.textOnly Departure.lateStores }, { on := 4, ground := Ground.textOnly Departure.lateStoresUnsure }, { on := 5, ground := Ground.textOnly Departure.lateStores }, { on := 6, ground := Ground.textOnly Departure.lateStores }, { on := 7, ground := Ground.textOnly Departure.lateStores }, { on := 8, ground := Ground.textOnly Departure.lateStores }, { on := 9, ground := Ground.textOnly Departure.lateStoresUnsure }, { on := 10, ground := Ground.textOnly Departure.lateStores }], guard := none }) rfl (fun K hK => ?_) AllReadyH.nil
      go_simp
      go_wp2_with fail
      refine hK.out _ _ ?_ (fun hHeld => ?_)
      · exact ⟨⟨cell_put2 q4 (by show q ≠ _; omega) _ _, cell_put2 q5 (by show q ≠ _; omega) _ _⟩, _, _, put_two2 HO2.out _ _⟩
      clear hK K
      (try simp only [Act.put, List.setIfInBounds_toArray, List.set_cons_zero, List.set_cons_succ])
      refine wpAnyH_take (i := 12) (oi := { dst := some 3, op := Op.assign (Operand.tmp 21), type := 4, pos := "l8_faces.go:20", after := #[{ on := 10, ground := Ground.data }, { on := 11, ground := Ground.chain }, { on := 0, ground := Ground.phase }, { on := 1, ground := Ground.phase }, { on := 2, ground := Ground.phase }, { on := 3, ground := Ground.phase }, { on := 4, ground := Ground.phase }, { on := 5, ground := Ground.phase }, { on := 6, ground := Ground.phase }, { on := 7, ground := Ground.phase }, { on := 8, ground := Ground.phase }, { on := 9, ground := Ground.phase }, { on := 10, ground := Ground.phase }, { on := 11, ground := Ground.phase }], guard := none }) (v := ?_) rfl (by kernel_rfl) (by kernel_rfl) (by kernel_rfl) (fun _ _ _ h => h) (Or.inl ⟨by rfl, ?_⟩) (by assumption) ?_
      rotate_left
      · (intro w hSw; (try dsimp only at hSw); go_simp <;> with_reducible rfl)
      (try simp only [Act.put, List.setIfInBounds_toArray, List.set_cons_zero, List.set_cons_succ])
      refine wpAnyH_done (by kernel_rfl) ?_ _
      go_wp2_with fail
      refine bodyPost_ret (v := .tuple #[.agg #[.string lb, .slice sa sn sc], .bool bi]) (by simp [results, Try.results22, go_sem, s0, s1]) rfl ?_
      exact HF.out V2 bi HB2.out (by
        cases hb : bi with
        | false =>
          refine .inl ⟨faceOf_none.2 fun u hu h => ?_, rfl⟩
          rw [HY.out] at hu; cases hu
          have := (fcB_iff t).2 h.1
          rw [← HBI.out, hb] at this; cases this
        | true => exact .inr ⟨t, faceOf_some.2 ⟨HY.out, (fcB_iff t).1 (by rw [← HBI.out, hb]), by rw [← HL.out]; exact HLE.out⟩, rfl, HW.out, HR.out⟩)
    · have hl1 : decide ((L : Int) ≤ 6) = false := by simp; omega
      have HLE := Lib.hid hle
      clear hle
      go_wp2_with fail
      rw [← HWB.out, hqe'.out]
      refine wp_region_held_drew (S := (fun w' => (w'.cell? ⟨q, 0, none⟩ = some (.string lb) ∧ w'.cell? ⟨q, 1, none⟩ = some (.slice sa sn sc)) ∧ ∃ x y, w'.heap[w.heap.size]? = some (.cells #[x, y] 39 (0, 0)))) (by kernel_rfl) (by exact ⟨⟨q0, q1⟩, _, _, HO.out⟩) (fun hHeld => ?_)
      refine wpAnyH_take (i := 0) (oi := { dst := some 11, op := Op.load 39 (Operand.tmp 4), type := 39, pos := "l8_faces.go:20", after := #[], guard := none }) (v := ?_) rfl (by kernel_rfl) (by kernel_rfl) (by kernel_rfl) (fun _ _ _ h => h) (Or.inl ⟨by rfl, ?_⟩) (by assumption) ?_
      rotate_left
      · (intro w hSw; (try dsimp only at hSw); go_simp <;> with_reducible rfl)
      (try simp only [Act.put, List.setIfInBounds_toArray, List.set_cons_zero, List.set_cons_succ])
      refine wpAnyH_take (i := 1) (oi := { dst := some 12, op := Op.move (Operand.tmp 5), type := 4, pos := "l8_faces.go:20", after := #[], guard := none }) (v := ?_) rfl (by kernel_rfl) (by kernel_rfl) (by kernel_rfl) (fun _ _ _ h => h) (Or.inl ⟨by rfl, ?_⟩) (by assumption) ?_
      rotate_left
      · (intro w hSw; (try dsimp only at hSw); go_simp <;> with_reducible rfl)
      (try simp only [Act.put, List.setIfInBounds_toArray, List.set_cons_zero, List.set_cons_succ])
      refine wpAnyH_take (i := 2) (oi := { dst := some 13, op := Op.move (Operand.tmp 12), type := 4, pos := "l8_faces.go:20", after := #[{ on := 1, ground := Ground.data }], guard := none }) (v := ?_) rfl (by kernel_rfl) (by kernel_rfl) (by kernel_rfl) (fun _ _ _ h => h) (Or.inl ⟨by rfl, ?_⟩) (by assumption) ?_
      rotate_left
      · (intro w hSw; (try dsimp only at hSw); go_simp <;> with_reducible rfl)
      (try simp only [Act.put, List.setIfInBounds_toArray, List.set_cons_zero, List.set_cons_succ])
      refine wpAnyH_take (i := 3) (oi := { dst := some 14, op := Op.load 39 (Operand.tmp 4), type := 39, pos := "l8_faces.go:20", after := #[{ on := 2, ground := Ground.guard }], guard := some (2, true) }) (v := ?_) rfl (by kernel_rfl) (by kernel_rfl) (by kernel_rfl) (fun _ _ _ h => h) (Or.inl ⟨by rfl, ?_⟩) (by assumption) ?_
      rotate_left
      · (intro w hSw; (try dsimp only at hSw); go_simp <;> with_reducible rfl)
      (try simp only [Act.put, List.setIfInBounds_toArray, List.set_cons_zero, List.set_cons_succ])
      refine wpAnyH_ready (rs := [4]) (by kernel_rfl) (by simp) ?_
      refine AllReadyH.cons (o := { dst := some 15, op := Op.call { callee := Callee.value (Operand.func 37), args := #[Operand.tmp 14], argTypes := #[39] }, type := 3, pos := "l8_faces.go:20", after := #[{ on := 3, ground := Ground.data }, { on := 2, ground := Ground.chain }, { on := 2, ground := Ground.guard }], guard := some (2, true) }) rfl (fun K hK => ?_) AllReadyH.nil
      go_simp
      go_wp2_with fail
      refine (HLV.out _ (Below.refl _ _).drew).mono ?_
      rintro e V1 ⟨rfl, hB1⟩
      have hB1' := (Below.refl wb.heap.size wb).drew.trans hB1
      have q2 := keep1 hB1' q0
      have q3 := keep1 hB1' q1
      have HO1 := Lib.hid ((hB1'.block _ (lt_of_block HO.out)).trans HO.out)
      have HB1 := Lib.hid hB1'
      clear hB1 hB1'
      go_wp2_with fail
      refine hK.out _ _ ?_ (fun hHeld => ?_)
      · exact ⟨⟨q2, q3⟩, _, _, HO1.out⟩
      clear hK K
      (try simp only [Act.put, List.setIfInBounds_toArray, List.set_cons_zero, List.set_cons_succ])
      refine wpAnyH_take (i := 5) (oi := { dst := some 16, op := Op.binOp BinOp.leq 3 (Operand.tmp 15) (Operand.const (Value.int IntKind.i64 6)) 3, type := 4, pos := "l8_faces.go:20", after := #[{ on := 4, ground := Ground.data }, { on := 2, ground := Ground.guard }], guard := some (2, true) }) (v := ?_) rfl (by kernel_rfl) (by kernel_rfl) (by kernel_rfl) (fun _ _ _ h => h) (Or.inl ⟨by rfl, ?_⟩) (by assumption) ?_
      rotate_left
      · (intro w hSw; (try dsimp only at hSw); go_simp <;> with_reducible rfl)
      (try simp only [Act.put, List.setIfInBounds_toArray, List.set_cons_zero, List.set_cons_succ])
      refine wpAnyH_take (i := 6) (oi := { dst := some 17, op := Op.pick (Operand.tmp 13) (Operand.tmp 16) (Operand.const (Value.bool false)), type := 4, pos := "l8_faces.go:20", after := #[{ on := 2, ground := Ground.data }, { on := 5, ground := Ground.data }], guard := none }) (v := ?_) rfl (by kernel_rfl) (by kernel_rfl) (by kernel_rfl) (fun _ _ _ h => h) (Or.inl ⟨by rfl, ?_⟩) (by assumption) ?_
      rotate_left
      · (intro w hSw; (try dsimp only at hSw); go_simp <;> with_reducible rfl)
      (try simp only [Act.put, List.setIfInBounds_toArray, List.set_cons_zero, List.set_cons_succ])
      refine wpAnyH_take (i := 7) (oi := { dst := some 18, op := Op.move (Operand.tmp 17), type := 4, pos := "l8_faces.go:20", after := #[{ on := 6, ground := Ground.data }, { on := 4, ground := Ground.chain }], guard := none }) (v := ?_) rfl (by kernel_rfl) (by kernel_rfl) (by kernel_rfl) (fun _ _ _ h => h) (Or.inl ⟨by rfl, ?_⟩) (by assumption) ?_
      rotate_left
      · (intro w hSw; (try dsimp only at hSw); go_simp <;> with_reducible rfl)
      (try simp only [Act.put, List.setIfInBounds_toArray, List.set_cons_zero, List.set_cons_succ])
      refine wpAnyH_take (i := 8) (oi := { dst := some 19, op := Op.load 39 (Operand.tmp 4), type := 39, pos := "l8_faces.go:20", after := #[{ on := 7, ground := Ground.guard }], guard := some (7, true) }) (v := undef) rfl (by kernel_rfl) (by kernel_rfl) (by kernel_rfl) (fun _ _ _ h => h) (Or.inr ⟨by rfl, rfl⟩) (by assumption) ?_
      (try simp only [Act.put, List.setIfInBounds_toArray, List.set_cons_zero, List.set_cons_succ])
      refine wpAnyH_take (i := 9) (oi := { dst := some 20, op := Op.call { callee := Callee.value (Operand.func 38), args := #[Operand.tmp 19], argTypes := #[39] }, type := 4, pos := "l8_faces.go:20", after := #[{ on := 8, ground := Ground.data }, { on := 7, ground := Ground.chain }, { on := 7, ground := Ground.guard }], guard := some (7, true) }) (v := undef) rfl (by kernel_rfl) (by kernel_rfl) (by kernel_rfl) (fun _ _ _ h => h) (Or.inr ⟨by rfl, rfl⟩) (by assumption) ?_
      (try simp only [Act.put, List.setIfInBounds_toArray, List.set_cons_zero, List.set_cons_succ])
      refine wpAnyH_take (i := 10) (oi := { dst := some 21, op := Op.pick (Operand.tmp 18) (Operand.tmp 20) (Operand.const (Value.bool false)), type := 4, pos := "l8_faces.go:20", after := #[{ on := 7, ground := Ground.data }, { on := 9, ground := Ground.data }, { on := 11, ground := Ground.gcOnly Departure.lateStores }], guard := none }) (v := ?_) rfl (by kernel_rfl) (by kernel_rfl) (by kernel_rfl) (fun _ _ _ h => h) (Or.inl ⟨by rfl, ?_⟩) (by assumption) ?_
      rotate_left
      · (intro w hSw; (try dsimp only at hSw); go_simp <;> with_reducible rfl)
      (try simp only [Act.put, List.setIfInBounds_toArray, List.set_cons_zero, List.set_cons_succ])
      obtain ⟨s0, s1, s2, s3⟩ := two_cells HO1.out
      refine wpAnyH_ready (rs := [11]) (by kernel_rfl) (by simp) ?_
      refine AllReadyH.cons (o := { dst := none, op := Op.store 39 (Operand.tmp 2) (Operand.tmp 11), type := 0, pos := "l8_faces.go:20", after := #[{ on := 0, ground := Ground.data }, { on := 9, ground := Ground.chain }, { on := 0, ground := Ground.phase }, { on := 1, ground := Ground.textOnly Departure.lateStores }, { on := 2, ground := Ground.textOnly Departure.lateStores }, { on := 3, ground := Ground.textOnly Departure.lateStores }, { on := 4, ground := Ground.textOnly Departure.lateStoresUnsure }, { on := 5, ground := Ground.textOnly Departure.lateStores }, { on := 6, ground := Ground.textOnly Departure.lateStores }, { on := 7, ground := Ground.textOnly Departure.lateStores }, { on := 8, ground := Ground.textOnly Departure.lateStores }, { on := 9, ground := Ground.textOnly Departure.lateStoresUnsure }, { on := 10, ground := Ground.textOnly Departure.lateStores }], guard := none }) rfl (fun K hK => ?_) AllReadyH.nil
      go_simp
      go_wp2_with fail
      refine hK.out _ _ ?_ (fun hHeld => ?_)
      · exact ⟨⟨cell_put2 q2 (by show q ≠ _; omega) _ _, cell_put2 q3 (by show q ≠ _; omega) _ _⟩, _, _, put_two2 HO1.out _ _⟩
      clear hK K
      (try simp only [Act.put, List.setIfInBounds_toArray, List.set_cons_zero, List.set_cons_succ])
      refine wpAnyH_take (i := 12) (oi := { dst := some 3, op := Op.assign (Operand.tmp 21), type := 4, pos := "l8_faces.go:20", after := #[{ on := 10, ground := Ground.data }, { on := 11, ground := Ground.chain }, { on := 0, ground := Ground.phase }, { on := 1, ground := Ground.phase }, { on := 2, ground := Ground.phase }, { on := 3, ground := Ground.phase }, { on := 4, ground := Ground.phase }, { on := 5, ground := Ground.phase }, { on := 6, ground := Ground.phase }, { on := 7, ground := Ground.phase }, { on := 8, ground := Ground.phase }, { on := 9, ground := Ground.phase }, { on := 10, ground := Ground.phase }, { on := 11, ground := Ground.phase }], guard := none }) (v := ?_) rfl (by kernel_rfl) (by kernel_rfl) (by kernel_rfl) (fun _ _ _ h => h) (Or.inl ⟨by rfl, ?_⟩) (by assumption) ?_
      rotate_left
      · (intro w hSw; (try dsimp only at hSw); go_simp <;> with_reducible rfl)
      (try simp only [Act.put, List.setIfInBounds_toArray, List.set_cons_zero, List.set_cons_succ])
      refine wpAnyH_done (by kernel_rfl) ?_ _
      go_wp2_with fail
      refine bodyPost_ret (v := .tuple #[.agg #[.string lb, .slice sa sn sc], .bool false]) (by simp [results, Try.results22, go_sem, s0, s1]) rfl ?_
      exact HF.out V1 false HB1.out (.inl ⟨faceOf_none.2 fun u hu h => by
        rw [HY.out] at hu; cases hu
        exact HLE.out (by rw [HL.out]; exact h.2), rfl⟩)

theorem sFaceValid_any (s : ByteArray) (w : World) (hs : s.size ≤ 140737488351232) :
    Calls Try.prog 10 #[.string s] w (Ans (.bool (faceOf s.data.toList).isSome) w) := by
  have HP := Lib.hid (l8Face_any s w hs)
  go_enter Try.func10, Try.ntmps10
  go_wp2_with fail
  refine HP.out.mono ?_
  rintro e w1 ⟨hB, lb, sa, sn, sc, b, rfl, hres⟩
  have hb : (faceOf s.data.toList).isSome = b := by
    rcases hres with ⟨h, rfl⟩ | ⟨t, h, rfl, _⟩
    · rw [h]; rfl
    · rw [h]; rfl
  have HB := Lib.hid hb
  clear hb hres
  go_wp2_with fail
  go_ret
  exact ⟨by rw [HB.out]; rfl, hB.alloc hB.size _⟩

set_option maxHeartbeats 1000000 in
theorem sFaceDim_any (s : ByteArray) (w : World) (hs : s.size ≤ 140737488351232) :
    Calls Try.prog 15 #[.string s] w (Ans (.int .i64 (faceDimOf (faceOf s.data.toList))) w) := by
  have HP := Lib.hid (l8Face_any s w hs)
  go_enter Try.func15, Try.ntmps15
  go_wp2_with fail
  refine HP.out.mono ?_
  rintro e w1 ⟨hB, lb, sa, sn, sc, b, rfl, ⟨hno, rfl⟩ | ⟨t, hyes, rfl, hrep⟩⟩
  · have HN := Lib.hid hno
    clear hno
    go_wp2_with fail
    go_ret
    exact ⟨by rw [HN.out]; rfl, hB.alloc hB.size _⟩
  · have hp := faceOf_some.1 hyes
    have hp1 := parse_some hp.1
    have HN := Lib.hid hyes
    have HD := Lib.hid (l8Dim_any _ t _ _ (w1.alloc (.cells #[.string lb, .slice sa sn sc] 39)) _ (Nat.le_refl _) hp1.1 (by have := hp1.2.2.1; omega) (by have := hp1.2.2.2; omega) (hrep.below hp1.1 ((Below.refl _ _).alloc (Nat.le_refl _) _)))
    have HB := Lib.hid hB
    clear hyes hp hp1 hB hrep
    go_wp2_with fail
    refine HD.out.mono ?_
    rintro e w2 ⟨rfl, hB2⟩
    have HB2 := Lib.hid hB2
    clear hB2
    go_wp2_with fail
    go_ret
    exact ⟨by rw [HN.out]; rfl, below_step (HB.out.alloc HB.out.size _) HB2.out⟩

end Go.Proofs.Ytbbkaephlojalaa
