/- The model joins a pattern at a node of another one. -/
import Derived.Test.YtflmdknienjlmaaUniS
import Derived.Test.YtflmdknienjlmaaJoinI
namespace Go.Proofs.Ytflmdknienjlmaa
open Go.RowKit

/-- What 'l4Pattern' answers. -/
def PatS (s : ByteArray) (w : World) (e : Ending) (w' : World) : Prop :=
  Below w.heap.size w w' ∧ ∃ (lb : ByteArray) (sa : Option Addr) (sn sc : Nat) (b : Bool), e = .returned (.tuple #[.agg #[.string lb, .slice sa sn sc], .bool b]) ∧
    ((patOf s = none ∧ b = false) ∨ ∃ t, patOf s = some t ∧ b = true ∧ RepS w' (fun b => w.heap.size ≤ b) t (.string lb) (.slice sa sn sc))

set_option maxRecDepth 100000 in
set_option maxHeartbeats 1000000 in
theorem l4Pattern_any (s : ByteArray) (w : World) (hs : s.size ≤ 1048576) :
    Calls Try.prog 57 #[.string s] w (PatS s w) := by
  have HT := Lib.hid (fun (W : World) => l1Parse_any s W (by omega))
  go_enter Try.func57, Try.ntmps57
  go_wp2_with fail
  refine (HT.out _).mono ?_
  rintro e w1 ⟨hB1, lb, sa, sn, sc, b, rfl, hres⟩
  have hz := (hB1.block w.heap.size (by simp)).trans (heap_alloc_new w (.cells #[.string ⟨#[]⟩, .slice none 0 0] 76 (0, 0)))
  obtain ⟨r0, r1, f0, f1⟩ := two_cells hz
  have hs1 : w.heap.size < w1.heap.size := by have := hB1.size; simp at this; omega
  have HB1 := Lib.hid (((Below.refl w.heap.size w).alloc (Nat.le_refl _) (.cells #[.string ⟨#[]⟩, .slice none 0 0] 76 (0, 0))).trans (hB1.mono (by simp)))
  have HF : Hid (∀ W : World, Below w1.heap.size w1 W → Below w.heap.size w ((W.setCell ⟨w.heap.size, 0, none⟩ (.string lb)).setCell ⟨w.heap.size, 1, none⟩ (.slice sa sn sc))) := Lib.hid (fun W hb => ((below_step HB1.out hb).setCell (Nat.le_refl _) _).setCell (Nat.le_refl _) _)
  rcases hres with ⟨hno, rfl⟩ | ⟨t, hyes, rfl, hrep⟩
  · have HN := Lib.hid (patOf_none hno)
    clear hno hB1 hz
    go_wp2_with fail
    go_region
    all_goals
      go_wp2_with fail
      refine bodyPost_ret (v := .tuple #[.agg #[.string lb, .slice sa sn sc], .bool false]) (by simp [results, Try.results57, go_sem, r0, r1, hs1]) rfl ?_
      exact ⟨(((HB1.out.setCell (Nat.le_refl _) _).setCell (Nat.le_refl _) _).alloc (by simp; omega) _).drew, _, _, _, _, _, rfl, .inl ⟨HN.out, rfl⟩⟩
  · cases t with
    | leaf =>
      rw [RepS] at hrep
      obtain ⟨e1, e2⟩ := hrep
      cases e1
      cases e2
      have HN := Lib.hid (patOf_leaf hyes)
      clear hyes hB1 hz
      go_wp2_with fail
      go_region
      all_goals
        go_wp2_with fail
        refine bodyPost_ret (v := .tuple #[.agg #[.string ⟨#[]⟩, .slice none 0 0], .bool false]) (by simp [results, Try.results57, go_sem, r0, r1, hs1]) rfl ?_
        exact ⟨(((HB1.out.setCell (Nat.le_refl _) _).setCell (Nat.le_refl _) _).alloc (by simp; omega) _).drew, _, _, _, _, _, rfl, .inl ⟨HN.out, rfl⟩⟩
    | node c ks =>
      have HREP := Lib.hid hrep
      rw [RepS] at hrep
      obtain ⟨e1, g, cap, e2, _, _, _⟩ := hrep
      cases e1
      cases e2
      have HN := Lib.hid (patOf_node hyes)
      have hw := (parse_some hyes).1
      have HREP2 : Hid (RepS w1 (fun b => w.heap.size + 1 ≤ b) (.node c ks) (.string ⟨#[c]⟩) (.slice (some ⟨g, 0, none⟩) ks.length sc)) := Lib.hid (HREP.out.keep (fun _ _ _ h => h) (fun b h _ => by simpa using h) hw)
      clear hyes hB1 hz
      go_wp2_with fail
      go_region
      all_goals
        go_wp2_with fail
        refine bodyPost_ret (v := .tuple #[.agg #[.string ⟨#[c]⟩, .slice (some ⟨g, 0, none⟩) ks.length sc], .bool true]) (by simp [results, Try.results57, go_sem, r0, r1, hs1]) rfl ?_
        refine ⟨(((HB1.out.setCell (Nat.le_refl _) _).setCell (Nat.le_refl _) _).alloc (by simp; omega) _).drew, _, _, _, _, _, rfl, .inr ⟨_, HN.out, rfl, ?_⟩⟩
        refine ((box_rep (q := w.heap.size) (P' := fun b => w.heap.size ≤ b) (x := .string ⟨#[c]⟩) (y := .slice (some ⟨g, 0, none⟩) ks.length sc) hw HREP2.out (fun h => by omega) (fun b h => by omega)).below hw (((Below.refl _ _).alloc (Nat.le_refl _) _).drew))

/-- What 'l4Join' answers. -/
def JoinS (o : Option T) (w : World) (e : Ending) (w' : World) : Prop :=
  Below w.heap.size w w' ∧ ∃ (lb : ByteArray) (sa : Option Addr) (sn sc : Nat) (b : Bool), e = .returned (.tuple #[.agg #[.string lb, .slice sa sn sc], .bool b]) ∧
    ((o = none ∧ b = false) ∨ ∃ t, o = some t ∧ b = true ∧ RepS w' (fun _ => True) t (.string lb) (.slice sa sn sc))

theorem set_apart {w : World} {q : Nat} {c : Addr} {u : Value} (h : w.cell? c = some u) (hne : c.block ≠ q) (x y : Value) : ((w.setCell ⟨q, 0, none⟩ x).setCell ⟨q, 1, none⟩ y).cell? c = some u := by
  rw [World.cell?_of_block (w := w)]
  · exact h
  · rw [Below.heap_setCell _ _ _ _ hne, Below.heap_setCell _ _ _ _ hne]

set_option maxRecDepth 100000 in
set_option maxHeartbeats 1000000 in
theorem l4Join_any (p q : T) (k : Nat) (pb : ByteArray) (pa : Option Addr) (pn pc : Nat) (qb : ByteArray) (qa : Option Addr) (qn qc : Nat) (w : World) (hpw : p.wf) (hqw : q.wf) (hp : p.leaves ≤ 12 ∧ p.nodes ≤ 16) (hq : q.leaves ≤ 12 ∧ q.nodes ≤ 16) (hk : k < q.nodes)
    (hrp : RepS w (fun _ => True) p (.string pb) (.slice pa pn pc)) (hrq : RepS w (fun _ => True) q (.string qb) (.slice qa qn qc)) :
    Calls Try.prog 60 #[.agg #[.string pb, .slice pa pn pc], .agg #[.string qb, .slice qa qn qc], .int .i64 k] w (JoinS (joinOf p q k) w) := by
  have HRP := Lib.hid (hrp.keep (P' := fun b => b < w.heap.size) (fun _ _ _ h => h) (fun _ _ h => h) hpw)
  have HRQ := Lib.hid (hrq.keep (P' := fun b => b < w.heap.size) (fun _ _ _ h => h) (fun _ _ h => h) hqw)
  obtain ⟨r, s, a, hcut⟩ := cutAt_some q k hk
  have HCUT := Lib.hid hcut
  obtain ⟨hw1, hw2, _, _⟩ := cutAt_wf q k r s a hqw hcut
  have HPART := Lib.hid (fun (W : World) (hb : Below w.heap.size w W) => l1Part_any _ q (.string qb) (.slice qa qn qc) k r s a W (fun b => b < w.heap.size) (Nat.le_refl _) hqw (by omega) (by omega) hk hcut (fun b h => Nat.lt_of_lt_of_le h hb.size) (HRQ.out.below hqw hb))
  clear hrp hrq hcut
  go_enter Try.func60, Try.ntmps60
  go_wp2_with fail
  obtain ⟨w0, hw0⟩ : ∃ w0, w0 = ((w.alloc (.cells #[.string pb, .slice pa pn pc] 76 (0, 0))).alloc (.cells #[.string qb, .slice qa qn qc] 76 (0, 0))).alloc (.cells #[.string ⟨#[]⟩, .slice none 0 0] 76 (0, 0)) := ⟨_, rfl⟩
  have HB0 : Hid (Below w.heap.size w w0) := Lib.hid (by rw [hw0]; go_grown)
  have HZ0 : Hid (w0.heap[w.heap.size]? = some (.cells #[.string pb, .slice pa pn pc] 76 (0, 0))) := Lib.hid (by
    rw [hw0, Below.heap_alloc _ _ _ (by first | (simp; done) | (simp; omega)), Below.heap_alloc _ _ _ (by simp)]; exact heap_alloc_new w _)
  have HZ1 : Hid (w0.heap[w.heap.size + 1]? = some (.cells #[.string qb, .slice qa qn qc] 76 (0, 0))) := Lib.hid (by
    rw [hw0, Below.heap_alloc _ _ _ (by first | (simp; done) | (simp; omega))]
    have := heap_alloc_new (w.alloc (.cells #[.string pb, .slice pa pn pc] 76 (0, 0))) (.cells #[.string qb, .slice qa qn qc] 76 (0, 0))
    simpa using this)
  have HZ2 : Hid (w0.heap[w.heap.size + 1 + 1]? = some (.cells #[.string ⟨#[]⟩, .slice none 0 0] 76 (0, 0))) := Lib.hid (by
    rw [hw0]
    have := heap_alloc_new ((w.alloc (.cells #[.string pb, .slice pa pn pc] 76 (0, 0))).alloc (.cells #[.string qb, .slice qa qn qc] 76 (0, 0))) (.cells #[.string ⟨#[]⟩, .slice none 0 0] 76 (0, 0))
    simpa using this)
  have hsz0 : w.heap.size + 1 + 1 + 1 = w0.heap.size := by rw [hw0]; simp
  rw [← hw0]
  have HSZ := Lib.hid hsz0
  clear hw0 hsz0
  refine (HPART.out _ HB0.out).mono ?_
  rintro e w1 ⟨hB1, sb, sa, sn, sc, rfl, hrs⟩
  have HRS := Lib.hid hrs
  have HB1 := Lib.hid hB1
  have hs1 := hB1.size
  obtain ⟨p0, p1, _, _⟩ := two_cells ((hB1.block _ (by have := HSZ.out; omega)).trans HZ0.out)
  have l0 : w.heap.size < w1.heap.size := by have := HSZ.out; omega
  have l1 : w.heap.size + 1 < w1.heap.size := by have := HSZ.out; omega
  have l2 : w.heap.size + 1 + 1 < w1.heap.size := by have := HSZ.out; omega
  have HX1 := Lib.hid ((Below.refl w1.heap.size w1).alloc (Nat.le_refl _) (.cells #[.string sb, .slice sa sn sc] 76 (0, 0)))
  have HBX1 := Lib.hid (below_step (below_step HB0.out hB1) HX1.out)
  have HU := Lib.hid (l4Unite_any _ p s (.string pb) (.slice pa pn pc) (.string sb) (.slice sa sn sc) (w1.alloc (.cells #[.string sb, .slice sa sn sc] 76 (0, 0))) (fun b => b < w.heap.size) (Nat.le_refl _) hpw hw2 (fun b h => by simp; omega) (HRP.out.below hpw HBX1.out) (hrs.below hw2 HX1.out))
  clear hrs hB1
  go_wp2_with fail
  refine HU.out.mono ?_
  rintro e w2 ⟨hB2, ub, ua, un, uc, bb, rfl, hres⟩
  have hs2 : w1.heap.size + 1 ≤ w2.heap.size := by have := hB2.size; simpa using this
  have HB12 := Lib.hid (below_step HX1.out hB2)
  have HBX2 := Lib.hid (below_step HBX1.out hB2)
  have hz2 := (HB12.out.block _ l2).trans ((HB1.out.block _ (by have := HSZ.out; omega)).trans HZ2.out)
  have hz1 := (HB12.out.block _ l1).trans ((HB1.out.block _ (by have := HSZ.out; omega)).trans HZ1.out)
  obtain ⟨q0, q1, _, _⟩ := two_cells hz1
  obtain ⟨r0, r1, f0, f1⟩ := two_cells hz2
  have m0 : w.heap.size < w2.heap.size := by omega
  have m1 : w.heap.size + 1 < w2.heap.size := by omega
  have m2 : w.heap.size + 1 + 1 < w2.heap.size := by omega
  have HZ22 := Lib.hid hz2
  clear hB2 hz1 hz2 p0 p1
  rcases hres with ⟨hno, rfl⟩ | ⟨u, hun, rfl, hru⟩
  · have HN := Lib.hid (joinOf_no HCUT.out hno)
    clear hno
    go_wp2_with fail
    refine bodyPost_ret (v := .tuple #[.agg #[.string qb, .slice qa qn qc], .bool false]) (by simp [results, Try.results60, go_sem, r0, r1, m2]) rfl ?_
    exact ⟨by have h := HBX2.out; go_grown, _, _, _, _, _, rfl, .inl ⟨HN.out, rfl⟩⟩
  · obtain ⟨_, _, huw, _, _, hjw, hjl, hjn⟩ := join_size hqw hpw hp hq HCUT.out hun
    have HJ := Lib.hid (joinOf_yes HCUT.out hun)
    have HRU := Lib.hid (hru.keep (P' := fun b => b < w.heap.size ∨ (w1.heap.size + 1 ≤ b ∧ b < w2.heap.size)) (fun _ _ _ h => h) (fun b h hlt => by
      rcases h with h | h
      · exact .inl h
      · exact .inr ⟨by simpa using h, hlt⟩) huw)
    have HX2 := Lib.hid ((Below.refl w2.heap.size w2).alloc (Nat.le_refl _) (.cells #[.string ub, .slice ua un uc] 76 (0, 0)))
    have HRE := Lib.hid (l1Replace_any _ q (.string qb) (.slice qa qn qc) k u (.string ub) (.slice ua un uc) (w2.alloc (.cells #[.string ub, .slice ua un uc] 76 (0, 0))) (fun b => b < w.heap.size ∨ (w1.heap.size + 1 ≤ b ∧ b < w2.heap.size)) (Nat.le_refl _) hqw huw (by omega) hk (fun b h => by simp; omega)
      ((HRQ.out.below hqw (below_step HBX2.out HX2.out)).keep (fun _ _ _ h => h) (fun b h _ => .inl h) hqw) (HRU.out.below huw HX2.out))
    obtain ⟨t, ht⟩ : ∃ t, t = q.putAt k u := ⟨_, rfl⟩
    rw [← ht] at HRE HJ hjw hjl hjn
    clear hun hru ht
    go_wp2_with fail
    refine HRE.out.mono ?_
    rintro e w3 ⟨hB3, tb, ta, tn, tc, rfl, hrt⟩
    have hs3 : w2.heap.size + 1 ≤ w3.heap.size := by have := hB3.size; simpa using this
    have HB23 := Lib.hid (below_step HX2.out hB3)
    have HB3 := Lib.hid (below_step HBX2.out HB23.out)
    have HX3 := Lib.hid ((Below.refl w3.heap.size w3).alloc (Nat.le_refl _) (.cells #[.string tb, .slice ta tn tc] 76 (0, 0)))
    have HRT := Lib.hid (hrt.keep (P' := fun b => b ≠ w.heap.size + 1 + 1) (fun _ _ _ h => h) (fun b h _ => by
      show b ≠ w.heap.size + 1 + 1
      rcases h with (h | h) | h
      · omega
      · omega
      · simp at h; omega) hjw)
    obtain ⟨r0', r1', f0', f1'⟩ := two_cells ((HB23.out.block _ m2).trans HZ22.out)
    have n2 : w.heap.size + 1 + 1 < w3.heap.size := by omega
    have HSM := Lib.hid (fun (W : World) (hb : Below w3.heap.size w3 W) => l1Small_any t tb ta tn tc W _ hjw (by omega) (by omega) (HRT.out.below hjw hb))
    obtain ⟨sm, hsm⟩ : ∃ sm, sm = small t := ⟨_, rfl⟩
    rw [← hsm] at HSM HJ
    clear hB3 hrt r0 r1 f0 f1 hsm
    obtain ⟨t0, t1, _, _⟩ := two_cells (heap_alloc_new w3 (.cells #[.string tb, .slice ta tn tc] 76 (0, 0)))
    have s0 := keep1 HX3.out r0'
    have s1 := keep1 HX3.out r1'
    have g0 := keepf HX3.out r0' f0'
    have g1 := keepf HX3.out r1' f1'
    have HX3D := Lib.hid HX3.out.drew
    go_wp2_with fail
    go_region_held3 (fun w' => w'.cell? ⟨w3.heap.size, 0, none⟩ = some (.string tb) ∧ w'.cell? ⟨w3.heap.size, 1, none⟩ = some (.slice ta tn tc))
      (first | exact ⟨t0, t1⟩ | exact ⟨v0, v1⟩ | exact U _ _)
      (first
      | (go_at_call 100; refine (HSM.out _ HX3D.out).mono ?_; rintro e w4 ⟨rfl, hB4⟩; have v0 := keep1 hB4 t0; have v1 := keep1 hB4 t1; have z0 := keep1 hB4 s0; have z1 := keep1 hB4 s1; have y0 := keepf hB4 s0 g0; have y1 := keepf hB4 s1 g1; have hs4 := hB4.size; have HB4 := Lib.hid (HX3D.out.trans (hB4.mono HX3D.out.size)); have n4 : w.heap.size + 1 + 1 < w4.heap.size := World.block_lt_of_cell? w4 _ z0; have U := fun (x y : Value) => (⟨set_apart (q := w.heap.size + 1 + 1) v0 (by simp; omega) x y, set_apart (q := w.heap.size + 1 + 1) v1 (by simp; omega) x y⟩ : _ ∧ _)))
    all_goals
      go_wp2_with fail
      refine bodyPost_ret (v := .tuple #[.agg #[.string tb, .slice ta tn tc], .bool sm]) (by simp [results, Try.results60, go_sem, z0, z1]) rfl ?_
      refine ⟨((below_step HB3.out HB4.out).setCell (by simp; omega) _).setCell (by simp; omega) _, _, _, _, _, _, rfl, ?_⟩
      have hj := HJ.out
      cases sm with
      | false => exact .inl ⟨by rw [hj]; rfl, rfl⟩
      | true => exact .inr ⟨t, by rw [hj]; rfl, rfl, box_rep hjw (HRT.out.below hjw HB4.out) (fun h => h rfl) (fun _ _ => trivial)⟩

/-- A text and whether there is one. -/
theorem textV_shape (o : Option T) : ∃ x b, textV o = .tuple #[.string x, .bool b] := by
  cases o with
  | none => exact ⟨_, _, rfl⟩
  | some t => exact ⟨_, _, rfl⟩

theorem joinV_none1 {p q : ByteArray} {v : Int} (h : patOf p = none) : joinV p q v = none := by rw [joinV, h]
theorem joinV_none2 {p q : ByteArray} {v : Int} (h : patOf q = none) : joinV p q v = none := by
  rw [joinV, h]; split
  · next h1 h2 => cases h2
  · rfl
theorem joinV_in {p q : ByteArray} {v : Int} {x y : T} (h1 : patOf p = some x) (h2 : patOf q = some y) : joinV p q v = if 0 ≤ v ∧ v ≤ (y.nodes : Int) - 1 then joinOf x y v.toNat else none := by rw [joinV, h1, h2]

theorem joinOf_ok {p q t : T} {k : Nat} (hqw : q.wf) (hpw : p.wf) (hp : p.leaves ≤ 12 ∧ p.nodes ≤ 16) (hq : q.leaves ≤ 12 ∧ q.nodes ≤ 16) (h : joinOf p q k = some t) : t.wf ∧ t.leaves ≤ 12 ∧ t.nodes ≤ 16 ∧ t.text.length ≤ 100000 := by
  rw [joinOf] at h
  split at h
  · cases h
  · next r s a hc =>
    split at h
    · cases h
    · next u hu =>
      split at h
      · next hs =>
        cases h
        have h1 := small_iff.1 hs
        have h2 := text_length (q.putAt k u)
        exact ⟨(join_size hqw hpw hp hq hc hu).2.2.2.2.2.1, h1.1, h1.2, by omega⟩
      · cases h

set_option maxRecDepth 100000 in
set_option maxHeartbeats 1000000 in
theorem sJoin_any (p q : ByteArray) (v : Int) (w : World) (hp : p.size ≤ 1048576) (hq : q.size ≤ 1048576) :
    Calls Try.prog 18 #[.string p, .string q, .int .i64 v] w (Ans (textV (joinV p q v)) w) := by
  have HP := Lib.hid (fun (W : World) => l4Pattern_any p W hp)
  have HQ := Lib.hid (fun (W : World) => l4Pattern_any q W hq)
  go_enter Try.func18, Try.ntmps18
  go_wp2_with fail
  refine (HP.out _).mono ?_
  rintro e w1 ⟨hB1, pb, pa, pn, pc, b1, rfl, hres1⟩
  have HB1 := Lib.hid hB1
  have HR1 := Lib.hid hres1
  clear hB1 hres1
  go_wp2_with fail
  refine (HQ.out _).mono ?_
  rintro e w2 ⟨hB2, qb, qa, qn, qc, b2, rfl, hres2⟩
  have HX1 := Lib.hid ((Below.refl w1.heap.size w1).alloc (Nat.le_refl _) (.cells #[.string pb, .slice pa pn pc] 76 (0, 0)))
  have HB12 := Lib.hid (below_step HX1.out hB2)
  have hz1 := (hB2.block w1.heap.size (by simp)).trans (heap_alloc_new w1 (.cells #[.string pb, .slice pa pn pc] 76 (0, 0)))
  obtain ⟨p0, p1, _, _⟩ := two_cells hz1
  have hs12 : w1.heap.size < w2.heap.size := by have := hB2.size; simp at this; omega
  have HZ1 := Lib.hid hz1
  have HX2 := Lib.hid ((Below.refl w2.heap.size w2).alloc (Nat.le_refl _) (.cells #[.string qb, .slice qa qn qc] 76 (0, 0)))
  have HB2 := Lib.hid (below_step (below_step HB1.out HB12.out) HX2.out)
  clear hB2 hz1
  rcases HR1.out with ⟨hno, rfl⟩ | ⟨x, hyx, rfl, hrx⟩
  · have HN := Lib.hid (joinV_none1 (q := q) (v := v) hno)
    clear hno hres2
    go_wp2_with fail
    go_ret2
    exact ⟨by rw [HN.out]; rfl, HB2.out⟩
  · rcases hres2 with ⟨hno, rfl⟩ | ⟨y, hyy, rfl, hry⟩
    · have HN := Lib.hid (joinV_none2 (p := p) (v := v) hno)
      clear hno hyx hrx
      go_wp2_with fail
      go_ret2
      exact ⟨by rw [HN.out]; rfl, HB2.out⟩
    · obtain ⟨hwx, _, hlx, hnx⟩ := parse_some (patOf_some hyx).1
      obtain ⟨hwy, _, hly, hny⟩ := parse_some (patOf_some hyy).1
      have HJV := Lib.hid (joinV_in (v := v) hyx hyy)
      have HRX := Lib.hid (((hrx.keep (P' := fun _ => True) (fun _ _ _ h => h) (fun _ _ _ => trivial) hwx).below hwx HB12.out).below hwx HX2.out)
      have HRY := Lib.hid ((hry.keep (P' := fun _ => True) (fun _ _ _ h => h) (fun _ _ _ => trivial) hwy).below hwy HX2.out)
      have HN := Lib.hid (fun (W : World) (hb : Below (w2.alloc (.cells #[.string qb, .slice qa qn qc] 76 (0, 0))).heap.size (w2.alloc (.cells #[.string qb, .slice qa qn qc] 76 (0, 0))) W) => l1Nodes_any _ y _ _ W _ (Nat.le_refl _) hwy (by omega) (HRY.out.below hwy hb))
      obtain ⟨N, hN⟩ : ∃ N, N = y.nodes := ⟨_, rfl⟩
      rw [← hN] at HN HJV hny
      have HNN := Lib.hid hN
      have hN1 : 1 ≤ N := by
        obtain ⟨c, ks, e⟩ := (patOf_some hyy).2
        rw [hN, e, T.nodes]; omega
      have hwrp : IntKind.i64.wrap ((N : Int) - 1) = (N : Int) - 1 := by rw [IntKind.wrap_i64]; omega
      clear hyx hyy hrx hry hN
      by_cases hin : 0 ≤ v ∧ v ≤ (N : Int) - 1
      · have HIN : Hid (∀ w, Calls Try.prog 58 #[.int .i64 v, .int .i64 0, .int .i64 ((N : Int) - 1)] w fun e w' => e = .returned (.bool true) ∧ w = w') := Lib.hid (fun w => by
          have := l6In_any v 0 ((N : Int) - 1) w
          rw [decide_eq_true hin] at this
          exact this)
        obtain ⟨k, hk⟩ : ∃ k : Nat, (k : Int) = v := ⟨v.toNat, by omega⟩
        subst hk
        have HJ := Lib.hid (fun (W : World) (hb : Below (w2.alloc (.cells #[.string qb, .slice qa qn qc] 76 (0, 0))).heap.size (w2.alloc (.cells #[.string qb, .slice qa qn qc] 76 (0, 0))) W) => l4Join_any x y k pb pa pn pc qb qa qn qc W hwx hwy ⟨hlx, hnx⟩ ⟨hly, by rw [← HNN.out]; omega⟩ (by rw [← HNN.out]; omega) (HRX.out.below hwx hb) (HRY.out.below hwy hb))
        have HV : Hid (joinV p q (k : Int) = joinOf x y k) := Lib.hid (by rw [HJV.out, if_pos hin]; rfl)
        obtain ⟨q0, q1, _, _⟩ := two_cells (heap_alloc_new w2 (.cells #[.string qb, .slice qa qn qc] 76 (0, 0)))
        clear hin
        go_wp2_with (first
          | (go_at_call 59; refine (HN.out _ (Below.refl _ _)).mono ?_; rintro e w3 ⟨rfl, hB3⟩; have p0' := keep1 hB3 (keep1 HX2.out p0); have p1' := keep1 hB3 (keep1 HX2.out p1); have q0' := keep1 hB3 q0; have q1' := keep1 hB3 q1; have HB3 := Lib.hid hB3; clear hB3)
          | (go_at_call 58; refine (HIN.out _).mono ?_; rintro e w' ⟨rfl, rfl⟩))
        refine (HJ.out _ HB3.out).mono ?_
        rintro e w4 ⟨hB4, tb, ta, tn, tc, bb, rfl, hres⟩
        have HB4 := Lib.hid (below_step (below_step HB2.out HB3.out) hB4)
        clear hB4
        rcases hres with ⟨hno, rfl⟩ | ⟨t, hyes, rfl, hrt⟩
        · have HNO : Hid (joinV p q (k : Int) = none) := Lib.hid (by rw [HV.out, hno])
          clear hno
          go_wp2_with fail
          go_ret2
          exact ⟨by rw [HNO.out]; rfl, HB4.out.alloc HB4.out.size _⟩
        · have hok := joinOf_ok hwy hwx ⟨hlx, hnx⟩ ⟨hly, by rw [← HNN.out]; omega⟩ hyes
          have HYS : Hid (joinV p q (k : Int) = some t) := Lib.hid (by rw [HV.out, hyes])
          have HT := Lib.hid (fun (W : World) (hb : Below w4.heap.size w4 W) => l1Text_any _ t _ _ W _ (Nat.le_refl _) hok.1 hok.2.2.2 (hrt.below hok.1 hb))
          clear hyes hrt hok
          go_wp2_with fail
          refine (HT.out _ ((Below.refl _ _).alloc (Nat.le_refl _) _)).mono ?_
          rintro e w5 ⟨rfl, hB5⟩
          have HB5 := Lib.hid (below_step (HB4.out.alloc HB4.out.size _) hB5)
          clear hB5
          go_wp2_with fail
          go_ret2
          exact ⟨by rw [HYS.out]; rfl, HB5.out⟩
      · have HIN : Hid (∀ w, Calls Try.prog 58 #[.int .i64 v, .int .i64 0, .int .i64 ((N : Int) - 1)] w fun e w' => e = .returned (.bool false) ∧ w = w') := Lib.hid (fun w => by
          have := l6In_any v 0 ((N : Int) - 1) w
          rw [decide_eq_false hin] at this
          exact this)
        have HV : Hid (joinV p q v = none) := Lib.hid (by rw [HJV.out, if_neg hin])
        clear hin
        go_wp2_with (first
          | (go_at_call 59; refine (HN.out _ (Below.refl _ _)).mono ?_; rintro e w3 ⟨rfl, hB3⟩; have HB3 := Lib.hid hB3; clear hB3)
          | (go_at_call 58; refine (HIN.out _).mono ?_; rintro e w' ⟨rfl, rfl⟩))
        go_ret2
        exact ⟨by rw [HV.out]; rfl, below_step HB2.out HB3.out⟩
end Go.Proofs.Ytflmdknienjlmaa
