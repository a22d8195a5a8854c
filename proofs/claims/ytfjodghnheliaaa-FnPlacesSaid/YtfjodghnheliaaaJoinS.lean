/- The model joins a pattern at a node of another one. -/
import Derived.Test.YtfjodghnheliaaaUniS
import Derived.Test.YtfjodghnheliaaaJoinI
namespace Go.Proofs.Ytfjodghnheliaaa
open Go.RowKit

/-- What 'l4Pattern' answers. -/
def PatS (s : ByteArray) (w : World) (e : Ending) (w' : World) : Prop :=
  Below w.heap.size w w' ∧ ∃ (lb : ByteArray) (sa : Option Addr) (sn sc : Nat) (b : Bool), e = .returned (.tuple #[.agg #[.string lb, .slice sa sn sc], .bool b]) ∧
    ((patOf s = none ∧ b = false) ∨ ∃ t, patOf s = some t ∧ b = true ∧ RepS w' (fun b => w.heap.size ≤ b) t (.string lb) (.slice sa sn sc))

set_option maxRecDepth 100000 in
set_option maxHeartbeats 1000000 in
theorem l4Pattern_any (s : ByteArray) (w : World) (hs : s.size ≤ 1048576) :
    Calls Try.prog 42 #[.string s] w (PatS s w) := by
  have HT := Lib.hid (fun (W : World) => l1Parse_any s W (by omega))
  go_enter Try.func42, Try.ntmps42
  go_wp2_with fail
  refine (HT.out _).mono ?_
  rintro e w1 ⟨hB1, lb, sa, sn, sc, b, rfl, hres⟩
  have hz := (hB1.block w.heap.size (by simp)).trans (heap_alloc_new w (.cells #[.string ⟨#[]⟩, .slice none 0 0] 70 (0, 0)))
  obtain ⟨r0, r1, f0, f1⟩ := two_cells hz
  have hs1 : w.heap.size < w1.heap.size := by have := hB1.size; simp at this; omega
  have HB1 := Lib.hid (((Below.refl w.heap.size w).alloc (Nat.le_refl _) (.cells #[.string ⟨#[]⟩, .slice none 0 0] 70 (0, 0))).trans (hB1.mono (by simp)))
  have HF : Hid (∀ W : World, Below w1.heap.size w1 W → Below w.heap.size w ((W.setCell ⟨w.heap.size, 0, none⟩ (.string lb)).setCell ⟨w.heap.size, 1, none⟩ (.slice sa sn sc))) := Lib.hid (fun W hb => ((below_step HB1.out hb).setCell (Nat.le_refl _) _).setCell (Nat.le_refl _) _)
  rcases hres with ⟨hno, rfl⟩ | ⟨t, hyes, rfl, hrep⟩
  · have HN := Lib.hid (patOf_none hno)
    clear hno hB1 hz
    go_wp2_with fail
    go_region
    all_goals
      go_wp2_with fail
      refine bodyPost_ret (v := .tuple #[.agg #[.string lb, .slice sa sn sc], .bool false]) (by simp [results, Try.results42, go_sem, r0, r1, hs1]) rfl ?_
      exact ⟨(((HB1.out.setCell (Nat.le_refl _) _).setCell (Nat.le_refl _) _).alloc (by simp; omega) _).drew, _, _, _, _, _, rfl, .inl ⟨HN.out, rfl⟩⟩
  · cases t with
    | leaf =>
      rw [RepS] at hrep
      obtain ⟨e1, e2⟩ := hrep
      cases e1
      cases e2
      have HN := Lib.hid (patOf_leaf hyes)
      clear hyes hB1 hz
      go_wp2_with fail
      go_region
      all_goals
        go_wp2_with fail
        refine bodyPost_ret (v := .tuple #[.agg #[.string ⟨#[]⟩, .slice none 0 0], .bool false]) (by simp [results, Try.results42, go_sem, r0, r1, hs1]) rfl ?_
        exact ⟨(((HB1.out.setCell (Nat.le_refl _) _).setCell (Nat.le_refl _) _).alloc (by simp; omega) _).drew, _, _, _, _, _, rfl, .inl ⟨HN.out, rfl⟩⟩
    | node c ks =>
      have HREP := Lib.hid hrep
      rw [RepS] at hrep
      obtain ⟨e1, g, cap, e2, _, _, _⟩ := hrep
      cases e1
      cases e2
      have HN := Lib.hid (patOf_node hyes)
      have hw := (parse_some hyes).1
      have HREP2 : Hid (RepS w1 (fun b => w.heap.size + 1 ≤ b) (.node c ks) (.string ⟨#[c]⟩) (.slice (some ⟨g, 0, none⟩) ks.length sc)) := Lib.hid (HREP.out.keep (fun _ _ _ h => h) (fun b h _ => by simpa using h) hw)
      clear hyes hB1 hz
      go_wp2_with fail
      go_region
      all_goals
        go_wp2_with fail
        refine bodyPost_ret (v := .tuple #[.agg #[.string ⟨#[c]⟩, .slice (some ⟨g, 0, none⟩) ks.length sc], .bool true]) (by simp [results, Try.results42, go_sem, r0, r1, hs1]) rfl ?_
        refine ⟨(((HB1.out.setCell (Nat.le_refl _) _).setCell (Nat.le_refl _) _).alloc (by simp; omega) _).drew, _, _, _, _, _, rfl, .inr ⟨_, HN.out, rfl, ?_⟩⟩
        refine ((box_rep (q := w.heap.size) (P' := fun b => w.heap.size ≤ b) (x := .string ⟨#[c]⟩) (y := .slice (some ⟨g, 0, none⟩) ks.length sc) hw HREP2.out (fun h => by omega) (fun b h => by omega)).below hw (((Below.refl _ _).alloc (Nat.le_refl _) _).drew))

/-- What 'l4Join' answers. -/
def JoinS (o : Option T) (w : World) (e : Ending) (w' : World) : Prop :=
  Below w.heap.size w w' ∧ ∃ (lb : ByteArray) (sa : Option Addr) (sn sc : Nat) (b : Bool), e = .returned (.tuple #[.agg #[.string lb, .slice sa sn sc], .bool b]) ∧
    ((o = none ∧ b = false) ∨ ∃ t, o = some t ∧ b = true ∧ RepS w' (fun _ => True) t (.string lb) (.slice sa sn sc))

theorem set_apart {w : World} {q : Nat} {c : Addr} {u : Value} (h : w.cell? c = some u) (hne : c.block ≠ q) (x y : Value) : ((w.setCell ⟨q, 0, none⟩ x).setCell ⟨q, 1, none⟩ y).cell? c = some u := by
  rw [World.cell?_of_block (w := w)]
  · exact h
  · rw [Below.heap_setCell _ _ _ _ hne, Below.heap_setCell _ _ _ _ hne]

set_option maxRecDepth 100000 in
set_option maxHeartbeats 1000000 in
theorem l4Join_any (p q : T) (k : Nat) (pb : ByteArray) (pa : Option Addr) (pn pc : Nat) (qb : ByteArray) (qa : Option Addr) (qn qc : Nat) (w : World) (hpw : p.wf) (hqw : q.wf) (hp : p.leaves ≤ 12 ∧ p.nodes ≤ 16) (hq : q.leaves ≤ 12 ∧ q.nodes ≤ 16) (hk : k < q.nodes)
    (hrp : RepS w (fun _ => True) p (.string pb) (.slice pa pn pc)) (hrq : RepS w (fun _ => True) q (.string qb) (.slice qa qn qc)) :
    Calls Try.prog 44 #[.agg #[.string pb, .slice pa pn pc], .agg #[.string qb, .slice qa qn qc], .int .i64 k] w (JoinS (joinOf p q k) w) := by
  have HRP := Lib.hid (hrp.keep (P' := fun b => b < w.heap.size) (fun _ _ _ h => h) (fun _ _ h => h) hpw)
  have HRQ := Lib.hid (hrq.keep (P' := fun b => b < w.heap.size) (fun _ _ _ h => h) (fun _ _ h => h) hqw)
  obtain ⟨r, s, a, hcut⟩ := cutAt_some q k hk
  have HCUT := Lib.hid hcut
  obtain ⟨hw1, hw2, _, _⟩ := cutAt_wf q k r s a hqw hcut
  have HPART := Lib.hid (fun (W : World) (hb : Below w.heap.size w W) => l1Part_any _ q (.string qb) (.slice qa qn qc) k r s a W (fun b => b < w.heap.size) (Nat.le_refl _) hqw (by omega) (by omega) hk hcut (fun b h => Nat.lt_of_lt_of_le h hb.size) (HRQ.out.below hqw hb))
  clear hrp hrq hcut
  go_enter Try.func44, Try.ntmps44
  go_wp2_with fail
  obtain ⟨w0, hw0⟩ : ∃ w0, w0 = ((w.alloc (.cells #[.string pb, .slice pa pn pc] 70 (0, 0))).alloc (.cells #[.string qb, .slice qa qn qc] 70 (0, 0))).alloc (.cells #[.string ⟨#[]⟩, .slice none 0 0] 70 (0, 0)) := ⟨_, rfl⟩
  have HB0 : Hid (Below w.heap.size w w0) := Lib.hid (by rw [hw0]; go_grown)
  have HZ0 : Hid (w0.heap[w.heap.size]? = some (.cells #[.string pb, .slice pa pn pc] 70 (0, 0))) := Lib.hid (by
    rw [hw0, Below.heap_alloc _ _ _ (by first | (simp; done) | (simp; omega)), Below.heap_alloc _ _ _ (by simp)]; exact heap_alloc_new w _)
  have HZ1 : Hid (w0.heap[w.heap.size + 1]? = some (.cells #[.string qb, .slice qa qn qc] 70 (0, 0))) := Lib.hid (by
    rw [hw0, Below.heap_alloc _ _ _ (by first | (simp; done) | (simp; omega))]
    have := heap_alloc_new (w.alloc (.cells #[.string pb, .slice pa pn pc] 70 (0, 0))) (.cells #[.string qb, .slice qa qn qc] 70 (0, 0))
    simpa using this)
  have HZ2 : Hid (w0.heap[w.heap.size + 1 + 1]? = some (.cells #[.string ⟨#[]⟩, .slice none 0 0] 70 (0, 0))) := Lib.hid (by
    rw [hw0]
    have := heap_alloc_new ((w.alloc (.cells #[.string pb, .slice pa pn pc] 70 (0, 0))).alloc (.cells #[.string qb, .slice qa qn qc] 70 (0, 0))) (.cells #[.string ⟨#[]⟩, .slice none 0 0] 70 (0, 0))
    simpa using this)
  have hsz0 : w.heap.size + 1 + 1 + 1 = w0.heap.size := by rw [hw0]; simp
  rw [← hw0]
  have HSZ := Lib.hid hsz0
  clear hw0 hsz0
  refine (HPART.out _ HB0.out).mono ?_
  rintro e w1 ⟨hB1, sb, sa, sn, sc, rfl, hrs⟩
  have HRS := Lib.hid hrs
  have HB1 := Lib.hid hB1
  have hs1 := hB1.size
  obtain ⟨p0, p1, _, _⟩ := two_cells ((hB1.block _ (by have := HSZ.out; omega)).trans HZ0.out)
  have l0 : w.heap.size < w1.heap.size := by have := HSZ.out; omega
  have l1 : w.heap.size + 1 < w1.heap.size := by have := HSZ.out; omega
  have l2 : w.heap.size + 1 + 1 < w1.heap.size := by have := HSZ.out; omega
  have HX1 := Lib.hid ((Below.refl w1.heap.size w1).alloc (Nat.le_refl _) (.cells #[.string sb, .slice sa sn sc] 70 (0, 0)))
  have HBX1 := Lib.hid (below_step (below_step HB0.out hB1) HX1.out)
  have HU := Lib.hid (l4Unite_any _ p s (.string pb) (.slice pa pn pc) (.string sb) (.slice sa sn sc) (w1.alloc (.cells #[.string sb, .slice sa sn sc] 70 (0, 0))) (fun b => b < w.heap.size) (Nat.le_refl _) hpw hw2 (fun b h => by simp; omega) (HRP.out.below hpw HBX1.out) (hrs.below hw2 HX1.out))
  clear hrs hB1
  go_wp2_with fail
  refine HU.out.mono ?_
  rintro e w2 ⟨hB2, ub, ua, un, uc, bb, rfl, hres⟩
  have hs2 : w1.heap.size + 1 ≤ w2.heap.size := by have := hB2.size; simpa using this
  have HB12 := Lib.hid (below_step HX1.out hB2)
  have HBX2 := Lib.hid (below_step HBX1.out hB2)
  have hz2 := (HB12.out.block _ l2).trans ((HB1.out.block _ (by have := HSZ.out; omega)).trans HZ2.out)
  have hz1 := (HB12.out.block _ l1).trans ((HB1.out.block _ (by have := HSZ.out; omega)).trans HZ1.out)
  obtain ⟨q0, q1, _, _⟩ := two_cells hz1
  obtain ⟨r0, r1, f0, f1⟩ := two_cells hz2
  have m0 : w.heap.size < w2.heap.size := by omega
  have m1 : w.heap.size + 1 < w2.heap.size := by omega
  have m2 : w.heap.size + 1 + 1 < w2.heap.size := by omega
  have HZ22 := Lib.hid hz2
  clear hB2 hz1 hz2 p0 p1
  rcases hres with ⟨hno, rfl⟩ | ⟨u, hun, rfl, hru⟩
  · have HN := Lib.hid (joinOf_no HCUT.out hno)
    clear hno
    go_wp2_with fail
    refine bodyPost_ret (v := .tuple #[.agg #[.string qb, .slice qa qn qc], .bool false]) (by simp [results, Try.results44, go_sem, r0, r1, m2]) rfl ?_
    exact ⟨by have h := HBX2.out; go_grown, _, _, _, _, _, rfl, .inl ⟨HN.out, rfl⟩⟩
  · obtain ⟨_, _, huw, _, _, hjw, hjl, hjn⟩ := join_size hqw hpw hp hq HCUT.out hun
    have HJ := Lib.hid (joinOf_yes HCUT.out hun)
    have HRU := Lib.hid (hru.keep (P' := fun b => b < w.heap.size ∨ (w1.heap.size + 1 ≤ b ∧ b < w2.heap.size)) (fun _ _ _ h => h) (fun b h hlt => by
      rcases h with h | h
      · exact .inl h
      · exact .inr ⟨by simpa using h, hlt⟩) huw)
    have HX2 := Lib.hid ((Below.refl w2.heap.size w2).alloc (Nat.le_refl _) (.cells #[.string ub, .slice ua un uc] 70 (0, 0)))
    have HRE := Lib.hid (l1Replace_any _ q (.string qb) (.slice qa qn qc) k u (.string ub) (.slice ua un uc) (w2.alloc (.cells #[.string ub, .slice ua un uc] 70 (0, 0))) (fun b => b < w.heap.size ∨ (w1.heap.size + 1 ≤ b ∧ b < w2.heap.size)) (Nat.le_refl _) hqw huw (by omega) hk (fun b h => by simp; omega)
      ((HRQ.out.below hqw (below_step HBX2.out HX2.out)).keep (fun _ _ _ h => h) (fun b h _ => .inl h) hqw) (HRU.out.below huw HX2.out))
    obtain ⟨t, ht⟩ : ∃ t, t = q.putAt k u := ⟨_, rfl⟩
    rw [← ht] at HRE HJ hjw hjl hjn
    clear hun hru ht
    go_wp2_with fail
    refine HRE.out.mono ?_
    rintro e w3 ⟨hB3, tb, ta, tn, tc, rfl, hrt⟩
    have hs3 : w2.heap.size + 1 ≤ w3.heap.size := by have := hB3.size; simpa using this
    have HB23 := Lib.hid (below_step HX2.out hB3)
    have HB3 := Lib.hid (below_step HBX2.out HB23.out)
    have HX3 := Lib.hid ((Below.refl w3.heap.size w3).alloc (Nat.le_refl _) (.cells #[.string tb, .slice ta tn tc] 70 (0, 0)))
    have HRT := Lib.hid (hrt.keep (P' := fun b => b ≠ w.heap.size + 1 + 1) (fun _ _ _ h => h) (fun b h _ => by
      show b ≠ w.heap.size + 1 + 1
      rcases h with (h | h) | h
      · omega
      · omega
      · simp at h; omega) hjw)
    obtain ⟨r0', r1', f0', f1'⟩ := two_cells ((HB23.out.block _ m2).trans HZ22.out)
    have n2 : w.heap.size + 1 + 1 < w3.heap.size := by omega
    have HSM := Lib.hid (fun (W : World) (hb : Below w3.heap.size w3 W) => l1Small_any t tb ta tn tc W _ hjw (by omega) (by omega) (HRT.out.below hjw hb))
    obtain ⟨sm, hsm⟩ : ∃ sm, sm = small t := ⟨_, rfl⟩
    rw [← hsm] at HSM HJ
    clear hB3 hrt r0 r1 f0 f1 hsm
    obtain ⟨t0, t1, _, _⟩ := two_cells (heap_alloc_new w3 (.cells #[.string tb, .slice ta tn tc] 70 (0, 0)))
    have s0 := keep1 HX3.out r0'
    have s1 := keep1 HX3.out r1'
    have g0 := keepf HX3.out r0' f0'
    have g1 := keepf HX3.out r1' f1'
    have HX3D := Lib.hid HX3.out.drew
    go_wp2_with fail
    go_region_held3 (fun w' => w'.cell? ⟨w3.heap.size, 0, none⟩ = some (.string tb) ∧ w'.cell? ⟨w3.heap.size, 1, none⟩ = some (.slice ta tn tc))
      (first | exact ⟨t0, t1⟩ | exact ⟨v0, v1⟩ | exact U _ _)
      (first
      | (go_at_call 75; refine (HSM.out _ HX3D.out).mono ?_; rintro e w4 ⟨rfl, hB4⟩; have v0 := keep1 hB4 t0; have v1 := keep1 hB4 t1; have z0 := keep1 hB4 s0; have z1 := keep1 hB4 s1; have y0 := keepf hB4 s0 g0; have y1 := keepf hB4 s1 g1; have hs4 := hB4.size; have HB4 := Lib.hid (HX3D.out.trans (hB4.mono HX3D.out.size)); have n4 : w.heap.size + 1 + 1 < w4.heap.size := World.block_lt_of_cell? w4 _ z0; have U := fun (x y : Value) => (⟨set_apart (q := w.heap.size + 1 + 1) v0 (by simp; omega) x y, set_apart (q := w.heap.size + 1 + 1) v1 (by simp; omega) x y⟩ : _ ∧ _)))
    all_goals
      go_wp2_with fail
      refine bodyPost_ret (v := .tuple #[.agg #[.string tb, .slice ta tn tc], .bool sm]) (by simp [results, Try.results44, go_sem, z0, z1]) rfl ?_
      refine ⟨((below_step HB3.out HB4.out).setCell (by simp; omega) _).setCell (by simp; omega) _, _, _, _, _, _, rfl, ?_⟩
      have hj := HJ.out
      cases sm with
      | false => exact .inl ⟨by rw [hj]; rfl, rfl⟩
      | true => exact .inr ⟨t, by rw [hj]; rfl, rfl, box_rep hjw (HRT.out.below hjw HB4.out) (fun h => h rfl) (fun _ _ => trivial)⟩

/-- A text and whether there is one. -/
theorem textV_shape (o : Option T) : ∃ x b, textV o = .tuple #[.string x, .bool b] := by
  cases o with
  | none => exact ⟨_, _, rfl⟩
  | some t => exact ⟨_, _, rfl⟩

theorem joinV_none1 {p q : ByteArray} {v : Int} (h : patOf p = none) : joinV p q v = none := by rw [joinV, h]
theorem joinV_none2 {p q : ByteArray} {v : Int} (h : patOf q = none) : joinV p q v = none := by
  rw [joinV, h]; split
  · next h1 h2 => cases h2
  · rfl
theorem joinV_in {p q : ByteArray} {v : Int} {x y : T} (h1 : patOf p = some x) (h2 : patOf q = some y) : joinV p q v = if 0 ≤ v ∧ v ≤ (y.nodes : Int) - 1 then joinOf x y v.toNat else none := by rw [joinV, h1, h2]

theorem joinOf_ok {p q t : T} {k : Nat} (hqw : q.wf) (hpw : p.wf) (hp : p.leaves ≤ 12 ∧ p.nodes ≤ 16) (hq : q.leaves ≤ 12 ∧ q.nodes ≤ 16) (h : joinOf p q k = some t) : t.wf ∧ t.leaves ≤ 12 ∧ t.nodes ≤ 16 ∧ t.text.length ≤ 100000 := by
  rw [joinOf] at h
  split at h
  · cases h
  · next r s a hc =>
    split at h
    · cases h
    · next u hu =>
      split at h
      · next hs =>
        cases h
        have h1 := small_iff.1 hs
        have h2 := text_length (q.putAt k u)
        exact ⟨(join_size hqw hpw hp hq hc hu).2.2.2.2.2.1, h1.1, h1.2, by omega⟩
      · cases h

end Go.Proofs.Ytfjodghnheliaaa
