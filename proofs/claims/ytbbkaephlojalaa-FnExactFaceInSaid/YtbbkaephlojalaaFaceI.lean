/- Faces by the program: is a tree one, the sum of degrees. -/
import Derived.Test.YtbbkaephlojalaaFaceM
import Derived.Test.YtbbkaephlojalaaKOverI
namespace Go.Proofs.Ytbbkaephlojalaa
open Go.RowKit Go.Shelf

attribute [local go_sem] Oper.semAt_some

/-- A node of a face. -/
def fcKey (y : UInt8 × Nat) : Prop := y.1 = 97 ∧ 2 ≤ y.2

mutual
theorem fc_pre : ∀ (t : T), t.fc ↔ ∀ y ∈ t.pre, fcKey y
  | .leaf => by simp [T.fc, T.pre]
  | .node c ks => by
    have h := fcL_pre ks
    simp only [T.fc, T.pre, List.mem_cons, forall_eq_or_imp, fcKey, h, and_assoc]
theorem fcL_pre : ∀ (ks : List T), T.fcL ks ↔ ∀ y ∈ T.preL ks, fcKey y
  | [] => by simp [T.fcL, T.preL]
  | k :: ks => by
    simp only [T.fcL, T.preL, List.mem_append, fc_pre k, fcL_pre ks]
    constructor
    · rintro ⟨h1, h2⟩ y (hy | hy)
      · exact h1 y hy
      · exact h2 y hy
    · exact fun h => ⟨fun y hy => h y (.inl hy), fun y hy => h y (.inr hy)⟩
end

/-- Is a tree a face, as a Boolean; the face of a text. -/
def T.fcB (t : T) : Bool := t.pre.all fun y => y.1 == 97 && decide (2 ≤ y.2)
theorem fcB_iff (t : T) : t.fcB = true ↔ t.fc := by
  rw [fc_pre, T.fcB, List.all_eq_true]
  simp [fcKey]
def faceOf (s : List UInt8) : Option T := (parse s).filter fun t => t.fcB && decide (t.leaves ≤ 6)
theorem faceOf_some {s : List UInt8} {t : T} : faceOf s = some t ↔ parse s = some t ∧ t.fc ∧ t.leaves ≤ 6 := by
  rw [faceOf, Option.filter_eq_some_iff, Bool.and_eq_true, fcB_iff, decide_eq_true_iff]
theorem faceOf_none {s : List UInt8} : faceOf s = none ↔ ∀ t, parse s = some t → ¬ (t.fc ∧ t.leaves ≤ 6) := by
  constructor
  · intro h t ht hf
    rw [faceOf_some.2 ⟨ht, hf⟩] at h; cases h
  · intro h
    cases hf : faceOf s with
    | none => rfl
    | some t => exact absurd (faceOf_some.1 hf).2 (h t (faceOf_some.1 hf).1)
def faceDimOf : Option T → Int
  | none => -1
  | some t => t.dim

theorem faceMethLeaf (a : Addr) (w : World) : (method 213 85 (.pointer (some a)) "loop.example/operadtrees/impl.leaves").run Try.prog w = .ok (80, .pointer (some a)) w := by kernel_rfl
theorem faceMethNode (a : Addr) (w : World) : (method 213 71 (.pointer (some a)) "loop.example/operadtrees/impl.leaves").run Try.prog w = .ok (43, .pointer (some a)) w := by kernel_rfl

theorem keepsO_refl (W : World) : KeepsOthers W W := ⟨Nat.le_refl _, fun _ _ h _ => h⟩

theorem RepI.kind {w : World} {P : Nat → Prop} {t : T} {ty : TypeId} {a : Addr} (h : RepI w P t ty a) : (t = .leaf ∧ ty = 85) ∨ ∃ c ks, t = .node c ks ∧ ty = 71 := by
  cases t with
  | leaf => rw [RepI] at h; exact .inl ⟨rfl, h⟩
  | node c ks => rw [RepI] at h; exact .inr ⟨c, ks, rfl, h.1⟩

set_option maxRecDepth 100000 in
set_option maxHeartbeats 4000000 in
theorem isFace_in (t : T) (ty : TypeId) (a : Addr) (w : World) (xs : List (NodeA w w.heap.size)) (hw : t.wf) (hlv : t.leaves < 1000000) (hr : RepI w (fun g => g < w.heap.size) t ty a) (hv : Visits w w.heap.size xs (.iface ty (.pointer (some a)))) :
    CallsIn Fence.wide 3 Try.prog 35 #[.iface ty (.pointer (some a))] w fun e W' => Below w.heap.size w W' ∧ ∃ b, e = .returned (.bool b) ∧ (b = true ↔ (∀ y ∈ xs, fcKey y.key) ∧ t.leaves ≤ 6) := by
  refine callsIn_of_wp_marks Try.func35 rfl trivial ?_ rfl
  simp only [Try.ntmps35, List.size_toArray, List.length_cons, List.length_nil, Nat.reduceAdd, Nat.reduceSub, Array.replicate_succ, Array.replicate_zero, List.push_toArray, List.append_toArray, List.nil_append, List.cons_append]
  have HR := Lib.hid hr
  have HW := Lib.hid hw
  clear hr hw
  gi_wp2_with (refine ⟨trivial, ?_⟩; gi_at_call 41; refine (nodesOf_in Fence.wide _ trivial rfl _ _ _).mono ?_; rintro e w' ⟨rfl, rfl⟩)
  have c1 := cell_new' w (.bool false) 4
  have c2 := cell_new' (w.alloc (.cells #[.bool false] 4)) (.iface ty (.pointer (some a))) 34
  simp only [World.size_alloc] at c2
  have hB0 : Below w.heap.size w ((w.alloc (.cells #[.bool false] 4)).alloc (.cells #[.iface ty (.pointer (some a))] 34)) := ((Below.refl _ w).alloc (Nat.le_refl _) _).alloc (by simp) _
  refine wpIn_rangeFunc_ownF rfl (by omega) (gf := 53) (lb := #[.pointer (some ⟨w.heap.size + 1, 0, none⟩)]) rfl trivial (enters_of Try.func53 (by kernel_rfl) rfl)
    (nodes_stops Fence.wide rfl (3 - 1) trivial trivial rfl (w.heap.size + 1) w w.heap.size xs ty a _ (by simp) (by simp; omega) hB0 c2.1 hv) belowK_t (belowK_b (by simp; omega)) (Below.refl _ _) (fun _ => rfl)
    (fun pre W => ((∀ y ∈ pre, fcKey y.key) ∧ W.cell? ⟨w.heap.size, 0, none⟩ = some (.bool false) ∧ W.frozen? ⟨w.heap.size, 0, none⟩ = false) ∧ Below w.heap.size w W)
    (fun c pre W => (c = .ret ∧ (∃ y ∈ pre, ¬ fcKey y.key) ∧ W.cell? ⟨w.heap.size, 0, none⟩ = some (.bool false)) ∧ Below w.heap.size w W)
    (OwnFrom.and (Own.from (fun s A B row hs hg hr => ⟨hs.1, cell_kept hs.2.1 hg hr, (frozen_kept hs.2.1 hg hr).trans hs.2.2⟩) _) (ownFrom_below (Nat.le_refl _) (by simp; omega)))
    (fun c => OwnFrom.and (Own.from (fun s A B row hs hg hr => ⟨hs.1, hs.2.1, cell_kept hs.2.2 hg hr⟩) _) (ownFrom_below (Nat.le_refl _) (by simp; omega)))
    ⟨⟨by simp, cell_alloc' _ c1.1, frozen_alloc' _ c1.1 c1.2⟩, hB0⟩
    (fun x => { tmps := #[.iface ty (.pointer (some a)), undef, .pointer (some ⟨w.heap.size, 0, none⟩), .pointer (some ⟨x.b, 0, none⟩), .iface ty (.pointer (some a)), .func (.func 53) #[] #[.pointer (some ⟨w.heap.size + 1, 0, none⟩)], .pointer (some ⟨x.b, 0, none⟩), undef, undef, undef, undef, undef, undef, undef, undef, undef, undef, undef, undef, undef, undef, undef, undef], defers := [] }) ?assign ?body ?done ?stop
  case assign =>
    intro l x W K hK
    gi_wp2
    exact hK
  case body =>
    rintro l pre x W ⟨⟨hp, hcr, hfr⟩, hB⟩ _
    have y0 := (hB.cell (p := ⟨x.b, 0, none⟩) x.hb).trans x.h0
    have y1 := (hB.cell (p := ⟨x.b, 1, none⟩) x.hb).trans x.h1
    have HP := Lib.hid hp
    have HB := Lib.hid hB
    clear hp hB
    obtain ⟨s, hs⟩ : ∃ s : ByteArray, s = ⟨#[x.c]⟩ := ⟨_, rfl⟩
    rw [← hs] at y0
    by_cases hc : x.c = 97
    · have hne : s.toList = [97] := by rw [hs, ByteArray.toList_eq, hc]
      have HC := Lib.hid hc
      clear hc hs
      by_cases hm : 2 ≤ x.m
      · have HOK : Hid (fcKey x.key) := Lib.hid ⟨HC.out, hm⟩
        gi_wp2
        exact ⟨keepsO_refl _, Below.refl _ _, ⟨fun y hy => by
          rcases List.mem_append.1 hy with h | h
          · exact HP.out y h
          · simp only [List.mem_singleton] at h; subst h; exact HOK.out, hcr, hfr⟩, HB.out⟩
      · have HNO : Hid (¬ fcKey x.key) := Lib.hid (fun h => hm h.2)
        gi_wp2
        exact ⟨KeepsOthers.setCell _ _ _, ⟨rfl, ⟨x, List.mem_append.2 (.inr (by simp)), HNO.out⟩, World.cell?_setCell_same' _ _ _ (by rw [hcr]; rfl)⟩, HB.out.setCell (p := ⟨w.heap.size, 0, none⟩) (by simp) _⟩
    · have hne : ¬ s.toList = [97] := by
        rw [hs, ByteArray.toList_eq]
        simpa using hc
      have HNO : Hid (¬ fcKey x.key) := Lib.hid (fun h => hc h.1)
      clear hc hs
      gi_wp2
      exact ⟨KeepsOthers.setCell _ _ _, ⟨rfl, ⟨x, List.mem_append.2 (.inr (by simp)), HNO.out⟩, World.cell?_setCell_same' _ _ _ (by rw [hcr]; rfl)⟩, HB.out.setCell (p := ⟨w.heap.size, 0, none⟩) (by simp) _⟩
  case done =>
    rintro D ys W hD rfl ⟨⟨hne, hcr, hfr⟩, hB⟩ hK
    have HNE := Lib.hid hne
    have HB := Lib.hid hB
    have HRW := Lib.hid (HR.out.belowB HW.out hB)
    clear hne hB
    have hfin : ∀ b : Bool, b = decide (t.leaves ≤ 6) → ∀ (e : Ending) (W' : World), e = .returned (.bool b) → Below w.heap.size w W' → Below w.heap.size w W' ∧ ∃ b, e = .returned (.bool b) ∧ (b = true ↔ (∀ y ∈ ys, fcKey y.key) ∧ t.leaves ≤ 6) := fun b hb e W' he hB' => ⟨hB', b, he, by rw [hb, decide_eq_true_iff]; exact ⟨fun h => ⟨HNE.out, h⟩, fun h => h.2⟩⟩
    have HF := Lib.hid hfin
    clear hfin
    rcases HR.out.kind with ⟨rfl, rfl⟩ | ⟨c, ks, rfl, rfl⟩
    · have hmt := fun w => faceMethLeaf a w
      gi_wp2_with (refine ⟨trivial, ?_⟩; gi_at_call 80; refine (callsIn_wide.2 (leafLeaves_any _ _)).mono ?_; rintro e w' ⟨rfl, rfl⟩)
      have hK' := (KeepsOthers.setCell W ⟨w.heap.size, 0, none⟩ (.bool true)).same D _ hK rfl
      refine ⟨by simp, .inl ⟨_, _, rfl, run_takeDeferred hK', ?_⟩⟩
      have hc5 := cell_kept (World.cell?_setCell_same' W ⟨w.heap.size, 0, none⟩ (.bool true) (by rw [hcr]; rfl)) (grownBy_putObj' _ D (.deferred none)) (fun r e => by cases e; exact ⟨_, hK', rfl⟩)
      refine ⟨.bool true, ?_, HF.out true (by rw [T.leaves]; rfl) _ _ rfl ((HB.out.setCell (p := ⟨w.heap.size, 0, none⟩) (Nat.le_refl _) _).trans (belowK_b (w := w) (Nat.le_refl _) _ D _ _ (by simp at hD; omega) hK' rfl rfl))⟩
      simp [results, Try.f35, go_sem, hc5]
    · obtain ⟨L, hL⟩ : ∃ L, L = 0 + T.leavesL ks := ⟨_, rfl⟩
      have HN : Hid (∀ V : World, Below w.heap.size w V → Calls Try.prog 43 #[.pointer (some a)] V fun e w' => e = .returned (.int .i64 (L : Nat)) ∧ V = w') := Lib.hid (fun V hb => by
        rw [hL]
        exact nodeLeaves_any _ c ks _ _ V _ (Nat.le_refl _) (by have := HW.out; rw [T.wf] at this; exact this.2.2.2.2) (by rw [T.leaves] at hlv; exact hlv) (HR.out.belowB HW.out hb))
      obtain ⟨b, hb⟩ : ∃ b : Bool, decide ((L : Int) ≤ 6) = b := ⟨_, rfl⟩
      have HBB : Hid (b = decide ((T.node c ks).leaves ≤ 6)) := Lib.hid (by
        rw [← hb, T.leaves]
        simp only [decide_eq_decide]; omega)
      have hmt := fun w => faceMethNode a w
      clear hL
      gi_wp2_with (refine ⟨trivial, ?_⟩; gi_at_call 43; refine (callsIn_wide.2 (HN.out _ HB.out)).mono ?_; rintro e w' ⟨rfl, rfl⟩)
      have hK' := (KeepsOthers.setCell W ⟨w.heap.size, 0, none⟩ (.bool b)).same D _ hK rfl
      refine ⟨by simp, .inl ⟨_, _, rfl, run_takeDeferred hK', ?_⟩⟩
      have hc5 := cell_kept (World.cell?_setCell_same' W ⟨w.heap.size, 0, none⟩ (.bool b) (by rw [hcr]; rfl)) (grownBy_putObj' _ D (.deferred none)) (fun r e => by cases e; exact ⟨_, hK', rfl⟩)
      refine ⟨.bool b, ?_, HF.out b HBB.out _ _ rfl ((HB.out.setCell (p := ⟨w.heap.size, 0, none⟩) (Nat.le_refl _) _).trans (belowK_b (w := w) (Nat.le_refl _) _ D _ _ (by simp at hD; omega) hK' rfl rfl))⟩
      simp [results, Try.f35, go_sem, hc5]
  case stop =>
    rintro D c pre W hD hpre ⟨⟨rfl, ⟨y, hy, hno⟩, hcr⟩, hB⟩ hK
    gi_wp2
    refine ⟨by simp, .inl ⟨_, _, rfl, run_takeDeferred hK, ?_⟩⟩
    have hc5 := cell_kept hcr (grownBy_putObj' _ D (.deferred none)) (fun r e => by cases e; exact ⟨_, hK, rfl⟩)
    refine ⟨.bool false, ?_, hB.trans (belowK_b (w := w) (Nat.le_refl _) W D _ _ (by simp at hD; omega) hK rfl rfl), false, rfl, by simp only [Bool.false_eq_true, false_iff]; exact fun h => hno (h.1 y (hpre.subset hy))⟩
    simp [results, Try.f35, go_sem, hc5]

theorem isFace_any (t : T) (ty : TypeId) (a : Addr) (w : World) (P : Nat → Prop) (hw : t.wf) (hlv : t.leaves < 1000000) (hr : RepI w P t ty a) :
    Calls Try.prog 35 #[.iface ty (.pointer (some a))] w fun e W' => Below w.heap.size w W' ∧ ∃ b, e = .returned (.bool b) ∧ (b = true ↔ t.fc ∧ t.leaves ≤ 6) := by
  have hr' := hr.keep (P' := fun g => g < w.heap.size) (fun _ _ _ h => h) (fun _ _ h => h) hw
  obtain ⟨xs, hk, hv⟩ := visit_any w (fun b => b < w.heap.size) w.heap.size (fun _ h => h) _ t ty a (Nat.le_refl _) hw hr'
  refine (callsIn_wide (n := 3)).1 ?_
  refine (isFace_in t ty a w xs hw hlv hr' hv).mono ?_
  rintro e W' ⟨hB, b, he, hb⟩
  refine ⟨hB, b, he, hb.trans ?_⟩
  rw [fc_pre, ← hk]
  simp

theorem degree_any (b m cap g : Nat) (w : World) (hm : m ≤ 1000000) (h : w.cell? ⟨b, 1, none⟩ = some (.slice (some ⟨g, 0, none⟩) m cap)) :
    Calls Try.prog 42 #[.pointer (some ⟨b, 0, none⟩)] w fun e w' => e = .returned (.int .i64 ((m : Int) - 2)) ∧ w = w' := by
  have hlt := World.block_lt_of_cell? w _ h
  go_enter Try.func42, Try.ntmps42
  go_wp2_with fail
  go_ret
  exact ⟨rfl, rfl⟩

/-- What 'readFace' answers. -/
def RfPost (s : ByteArray) (w : World) (e : Ending) (w' : World) : Prop :=
  Below w.heap.size w w' ∧
    ((faceOf s.data.toList = none ∧ ∃ v, e = .returned (.tuple #[v, .bool false])) ∨
     ∃ t ty a, faceOf s.data.toList = some t ∧ e = .returned (.tuple #[.iface ty (.pointer (some a)), .bool true]) ∧ RepI w' (fun b => w.heap.size ≤ b) t ty a)

set_option maxHeartbeats 1000000 in
theorem readFace_any (s : ByteArray) (w : World) (hs : s.size ≤ 140737488351232) :
    Calls Try.prog 21 #[.string s] w (RfPost s w) := by
  have HP := Lib.hid (readTree_any s w hs)
  go_enter Try.func21, Try.ntmps21
  go_wp2_with fail
  refine HP.out.mono ?_
  rintro e w1 ⟨hB, ⟨hno, rfl⟩ | ⟨t, ty, a, hyes, rfl, hrep⟩⟩
  · have HN : Hid (faceOf s.data.toList = none) := Lib.hid (faceOf_none.2 fun t ht => by rw [hno] at ht; cases ht)
    clear hno
    go_wp2_with fail
    go_ret2
    exact ⟨hB, .inl ⟨HN.out, _, rfl⟩⟩
  · have hp := parse_some hyes
    have HI := Lib.hid (isFace_any t ty a w1 _ hp.1 (by have := hp.2.2.1; omega) hrep)
    have HY := Lib.hid hyes
    have HR := Lib.hid hrep
    have HB := Lib.hid hB
    have HW := Lib.hid hp.1
    clear hyes hrep hB hp
    go_wp2_with fail
    refine HI.out.mono ?_
    rintro e w2 ⟨hB2, b, rfl, hb⟩
    have HB2 := Lib.hid hB2
    have HBE := Lib.hid hb
    clear hB2 hb
    cases b
    · have HN : Hid (faceOf s.data.toList = none) := Lib.hid (faceOf_none.2 fun u hu => by
        rw [HY.out] at hu
        cases hu
        exact fun h => by have := HBE.out.2 h; cases this)
      go_wp2_with fail
      go_ret2
      exact ⟨below_step HB.out HB2.out, .inl ⟨HN.out, _, rfl⟩⟩
    · have HN : Hid (faceOf s.data.toList = some t) := Lib.hid (faceOf_some.2 ⟨HY.out, HBE.out.1 rfl⟩)
      go_wp2_with fail
      go_ret2
      exact ⟨below_step HB.out HB2.out, .inr ⟨t, ty, a, HN.out, rfl, HR.out.below HW.out HB2.out⟩⟩

theorem iFaceValid_any (s : ByteArray) (w : World) (hs : s.size ≤ 140737488351232) :
    Calls Try.prog 9 #[.string s] w (Ans (.bool (faceOf s.data.toList).isSome) w) := by
  have HP := Lib.hid (readFace_any s w hs)
  go_enter Try.func9, Try.ntmps9
  go_wp2_with fail
  refine HP.out.mono ?_
  rintro e w1 ⟨hB, ⟨hno, v, rfl⟩ | ⟨t, ty, a, hyes, rfl, hrep⟩⟩
  · have HN := Lib.hid hno
    clear hno
    go_wp2_with fail
    go_ret
    exact ⟨by rw [HN.out]; rfl, hB⟩
  · have HN := Lib.hid hyes
    clear hyes
    go_wp2_with fail
    go_ret
    exact ⟨by rw [HN.out]; rfl, hB⟩

/-- The sum of degrees over nodes that have been told. -/
def degSum (ys : List (UInt8 × Nat)) : Int := (ys.map fun y => (y.2 : Int) - 2).sum
theorem degSum_append (a b : List (UInt8 × Nat)) : degSum (a ++ b) = degSum a + degSum b := by simp [degSum]
mutual
theorem degSum_pre : ∀ (t : T), degSum t.pre = t.dim
  | .leaf => by simp [degSum, T.pre, T.dim]
  | .node c ks => by
    have h := degSum_preL ks
    simp only [T.pre, T.dim, ← h]
    simp [degSum]
theorem degSum_preL : ∀ (ks : List T), degSum (T.preL ks) = T.dimL ks
  | [] => by simp [degSum, T.preL, T.dimL]
  | k :: ks => by rw [T.preL, degSum_append, degSum_pre k, degSum_preL ks, T.dimL]
end

end Go.Proofs.Ytbbkaephlojalaa
