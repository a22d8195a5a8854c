/- Merged out of: XFillI, XGraftI. -/
import Derived.Test.YtfjodghnheliaaaKFillS
import Derived.Test.YtfjodghnheliaaaMirrorI
import Derived.Test.YtfjodghnheliaaaKReadIC
section
/- The program puts trees in the places of a tree's leaves. -/
namespace Go.Proofs.Ytfjodghnheliaaa
open Go.RowKit

/-- A tree is handed back, made of what came in and of new memory. -/
def NewIP (P : Nat → Prop) (t : T) (w : World) (e : Ending) (w' : World) : Prop :=
  Below w.heap.size w w' ∧ ∃ ty a, e = .returned (.iface ty (.pointer (some a))) ∧ RepI w' (fun b => P b ∨ w.heap.size ≤ b) t ty a

/-- Ahead of each round: the row in the first new block holds the filled kids. -/
def FRel (P : Nat → Prop) (w : World) (ks us : List T) (k : Nat) (wr : World) : Prop :=
  ∃ cur : Array Value, wr.heap[w.heap.size]? = some (.cells cur 50 (0, 0)) ∧ cur.size = ks.length ∧
    (∀ i (h : i < ks.length), i < k → ∃ ty a, cur[i]? = some (.iface ty (.pointer (some a))) ∧ RepI wr (fun b => P b ∨ w.heap.size + 1 ≤ b) ((ks[i]).fill (us.drop (T.leavesL (ks.take i)))) ty a) ∧ Below w.heap.size w wr

theorem wfL_drop {ks : List T} (h : T.wfL ks) (k : Nat) : T.wfL (ks.drop k) := by
  have := wfL_append (ks.take k) (ks.drop k)
  rw [List.take_append_drop] at this
  exact (this.1 h).2

theorem FRel.next {P : Nat → Prop} {w wr w1 : World} {ks us : List T} {k : Nat} {ty : TypeId} {a : Addr} (h : FRel P w ks us k wr) (hP : ∀ b, P b → b < w.heap.size) (hk : k < ks.length) (hwf : T.wfL ks) (huw : T.wfL us) (hb : Below wr.heap.size wr w1)
    (hr : RepI w1 (fun b => P b ∨ wr.heap.size ≤ b) ((ks[k]).fill (us.drop (T.leavesL (ks.take k)))) ty a) : FRel P w ks us (k + 1) (w1.setCell ⟨w.heap.size, k, none⟩ (.iface ty (.pointer (some a)))) := by
  obtain ⟨cur, hc, hs, hi, hB⟩ := h
  have hlt := (Array.getElem?_eq_some_iff.1 hc).1
  have hc1 : w1.heap[w.heap.size]? = some (.cells cur 50 (0, 0)) := (hb.block _ hlt).trans hc
  have hkeep : ∀ (w0 : World), Below w0.heap.size w0 w1 → Keeps (fun b => P b ∨ w.heap.size + 1 ≤ b) w0 (w1.setCell ⟨w.heap.size, k, none⟩ (.iface ty (.pointer (some a)))) := by
    intro w0 hb0 q u hq hu
    rw [World.cell?_of_block (w := w0)]
    · exact hu
    · have : q.block ≠ w.heap.size := by
        rcases hq with h | h
        · have := hP _ h; omega
        · omega
      rw [Below.heap_setCell _ _ _ _ this, hb0.block _ (World.block_lt_of_cell? w0 q hu)]
  refine ⟨_, heap_setCell_same hc1 _, by simpa using hs, ?_, (hB.trans (hb.mono (by omega))).setCell (by simp) _⟩
  intro i h hik
  by_cases hi2 : i < k
  · obtain ⟨ty', a', e1, e2⟩ := hi i h hi2
    refine ⟨ty', a', ?_, e2.keep (hkeep wr hb) (fun _ h _ => h) (fill_wf _ _ (wfL_get hwf i h) (wfL_drop huw _))⟩
    rw [Array.getElem?_setIfInBounds, if_neg (by omega)]; exact e1
  · have hie : i = k := by omega
    subst hie
    refine ⟨ty, a, ?_, hr.keep (Keeps.mono (hkeep w1 (Below.refl _ _)) (fun b h => by rcases h with h | h; exact .inl h; exact .inr (by omega))) (fun b h _ => by rcases h with h | h; exact .inl h; exact .inr (by omega)) (fill_wf _ _ (wfL_get hwf i h) (wfL_drop huw _))⟩
    rw [Array.getElem?_setIfInBounds, if_pos rfl, if_pos (by omega)]

/-- A tail of a row of trees. -/
theorem RepIL.drop {w : World} {P : Nat → Prop} {us : List T} {g i : Nat} (h : RepIL w P us g i) (n : Nat) : RepIL w P (us.drop n) g (i + n) := by
  refine RepIL.of_get fun j hj => ?_
  have hj' : n + j < us.length := by simp at hj; omega
  obtain ⟨ty, a, e1, e2⟩ := h.get (n + j) hj'
  refine ⟨ty, a, by rw [← e1]; congr 2; omega, ?_⟩
  simpa using e2
theorem RepIL.take {w : World} {P : Nat → Prop} {us : List T} {g i : Nat} (h : RepIL w P us g i) (n : Nat) : RepIL w P (us.take n) g i := by
  refine RepIL.of_get fun j hj => ?_
  have hj' : j < us.length := by simp at hj; omega
  obtain ⟨ty, a, e1, e2⟩ := h.get j hj'
  exact ⟨ty, a, e1, by simpa using e2⟩
theorem wfL_takeI {ks : List T} (h : T.wfL ks) (k : Nat) : T.wfL (ks.take k) := by
  have := wfL_append (ks.take k) (ks.drop k)
  rw [List.take_append_drop] at this
  exact (this.1 h).1

set_option maxRecDepth 100000 in
set_option maxHeartbeats 2000000 in
theorem graftAll_wide (m : Nat) : ∀ (t : T) (us : List T) (ty : TypeId) (a : Addr) (ug uo uc : Nat) (w : World) (P : Nat → Prop), SizeOf.sizeOf t ≤ m → t.wf → T.wfL us → t.leaves ≤ us.length → us.length ≤ uc → (us.length < 1000000 ∧ uc < 9223372036854775808) → (∀ b, P b → b < w.heap.size) → P ug → RepI w P t ty a → RepIL w P us ug uo →
    Calls Try.prog 57 #[.iface ty (.pointer (some a)), .slice (some ⟨ug, uo, none⟩) us.length uc] w (NewIP P (t.fill us) w) := by
  induction m with
  | zero => intro t us ty a ug uo uc w P h; cases t <;> simp at h <;> omega
  | succ m ih =>
    intro t us ty a ug uo uc w P hn hwf huw hlv huc hum hP hPu hr hu
    cases t with
    | leaf =>
      rw [RepI] at hr
      subst hr
      rw [T.leaves] at hlv
      obtain ⟨ty1, a1, e1, e2⟩ := hu.get 0 (by omega)
      rw [Nat.add_zero] at e1
      have hta := fun v w => assert_leaf v w
      have HE := Lib.hid e2
      clear e2
      go_enter Try.func57, Try.ntmps57
      go_wp2_with fail
      go_ret
      have hq : (T.leaf.fill us) = us[0] := by
        cases us with
        | nil => simp at hlv
        | cons u us => simp [T.fill]
      rw [hq]
      exact ⟨Below.refl _ _, _, _, rfl, HE.out.keep (fun _ _ _ h => h) (fun b h _ => .inl h) (wfL_get huw 0 (by omega))⟩
    | node c ks =>
      rw [RepI] at hr
      obtain ⟨rfl, b, g, cap, rfl, hPb, hPg, h0, h1, h6, hL⟩ := hr
      rw [T.wf] at hwf
      have HW := Lib.hid hwf
      have HL := Lib.hid hL
      have HU := Lib.hid hu
      have HUW := Lib.hid huw
      have hk1 := hwf.2.2.1
      have hlb := World.block_lt_of_cell? w _ h0
      have hlg := hP g hPg
      rw [T.leaves] at hlv
      obtain ⟨i0, hi0, hz, hzs, hzb⟩ := info_parts info46
      have hta := fun v w => assert_node v w
      clear hL hwf hu huw
      go_enter Try.func57, Try.ntmps57
      go_wp2_with (at_make; refine wpList_make_full _ rfl _ _ 86 rfl w.heap.size 50 i0 .nilIface 1 Try.underlying86 hi0 hz hzs .i64 .i64 _ _ ks.length rfl rfl rfl rfl ?c1 ?c2 (Nat.le_refl _) ?_)
      case c1 => omega
      case c2 => unfold maxLen; omega
      intro w1 hown hg
      have hbw : Below w.heap.size w w1 := (Below.refl _ _).grown hg (by omega) (fun k e => by cases e)
      have rel0 : FRel P w ks us 0 w1 := by
        rcases hown.2 with ⟨e, _⟩ | ⟨G, cap', cur, e, _, hG, hnc, hcm, hcs, htake⟩
        · simp at e
        · simp only [Value.slice.injEq, Option.some.injEq, Addr.mk.injEq] at e
          obtain ⟨⟨rfl, _⟩, _, rfl⟩ := e
          exact ⟨cur, hG, by omega, fun i _ h => by omega, hbw⟩
      have R0 := Lib.hid rel0
      have c0 : w1.cell? ⟨b, 0, none⟩ = some (.string ⟨#[c]⟩) := keep1 hbw h0
      have c1 : w1.cell? ⟨b, 1, none⟩ = some (.slice (some ⟨g, 0, none⟩) ks.length cap) := keep1 hbw h1
      clear rel0 hown hg
      have H0 := Lib.hid h0
      have H1 := Lib.hid h1
      clear h0 h1
      go_wp2_with fail
      go_loopw [1, 29] (fun lv iv wr => ∃ k lo : Nat, k ≤ ks.length ∧ iv = .int .i64 k ∧ lv = .slice (some ⟨ug, lo, none⟩) (us.length - T.leavesL (ks.take k)) (uc - T.leavesL (ks.take k)) ∧ (T.leavesL (ks.take k) < uc → lo = uo + T.leavesL (ks.take k)) ∧ FRel P w ks us k wr) (fun _ iv _ => ks.length - (intOf iv).toNat)
      case atStart => exact ⟨0, uo, Nat.zero_le _, rfl, by simp [T.leavesL], by simp [T.leavesL], R0.out⟩
      case round =>
        obtain ⟨k, lo, hk', rfl, rfl, hlo, hrel⟩ := hrel
        have HR := Lib.hid hrel
        obtain ⟨cur, hcur, hcs, _, hB⟩ := hrel
        have HB := Lib.hid hB
        have HCUR := Lib.hid hcur
        have HCS := Lib.hid hcs
        have hzr := hB.size
        have e0 : wr.cell? ⟨b, 0, none⟩ = some (.string ⟨#[c]⟩) := keep1 hB H0.out
        have e1 : wr.cell? ⟨b, 1, none⟩ = some (.slice (some ⟨g, 0, none⟩) ks.length cap) := keep1 hB H1.out
        by_cases hlt : k < ks.length
        · obtain ⟨ty', a', d1, d2⟩ := HL.out.get k hlt
          rw [Nat.zero_add] at d1
          have hwk := wfL_get HW.out.2.2.2.2 k hlt
          have hd : SizeOf.sizeOf ks[k] < SizeOf.sizeOf ks := List.sizeOf_lt_of_mem (List.getElem_mem hlt)
          simp only [T.node.sizeOf_spec] at hn
          have d1' : wr.cell? ⟨g, k, none⟩ = some (.iface ty' (.pointer (some a'))) := keep1 hB d1
          have HD := Lib.hid (d2.below hwk hB)
          have hll := leavesL_take_le (ks := ks) (k + 1)
          have HTL := Lib.hid (leavesL_take hlt)
          rw [leavesL_take hlt] at hll
          obtain ⟨L, hL0⟩ : ∃ L, L = T.leavesL (ks.take k) := ⟨_, rfl⟩
          obtain ⟨nn, hnn⟩ : ∃ nn, nn = (ks[k]).leaves := ⟨_, rfl⟩
          have hnnp : 1 ≤ nn := by rw [hnn]; exact leaves_pos _ hwk
          rw [← hL0, ← hnn] at hll
          rw [← hL0]
          rw [← hL0] at hlo
          have hlo' := hlo (by omega)
          subst hlo'
          clear hlo
          have HL0 := Lib.hid hL0
          have HNN := Lib.hid hnn
          have hlen : ((us.drop L).take nn).length = nn := by simp; omega
          have HI0 := ih ks[k] ((us.drop L).take nn) ty' a' ug (uo + L) (uc - L) wr P (by omega) hwk (wfL_takeI (wfL_drop HUW.out _) _) (by rw [hlen, hnn]; exact Nat.le_refl _) (by rw [hlen]; omega) (by rw [hlen]; omega) (fun b hb => by have := hP b hb; omega) hPu HD.out
            (((HU.out.keep (Keeps.of_below hB P) (fun _ h _ => h) hPu HUW.out).drop L).take nn)
          rw [hlen, fill_take ks[k] (us.drop L) nn hwk (by omega)] at HI0
          have HI := Lib.hid HI0
          clear HI0 hcur hcs ih d1 d2 hd hL0 hlen hnn
          cases hkq : ks[k] with
          | leaf =>
            have hty := HD.out
            rw [hkq, RepI] at hty
            subst hty
            have HK := Lib.hid ((leafLeaves_any a' wr).mono (R' := fun e w' => e = .returned (.int .i64 ((nn : Nat) : Int)) ∧ wr = w') (fun e w' h => ⟨by rw [h.1, HNN.out, hkq, T.leaves]; rfl, h.2⟩))
            clear hkq
            go_wp2_with fail
            refine HK.out.mono ?_
            rintro e w2 ⟨rfl, rfl⟩
            go_wp2_with fail
            refine HI.out.mono ?_
            rintro e w2 ⟨hb2, ty2, a2, rfl, hrep⟩
            have hblk : w2.heap[w.heap.size]? = some (.cells cur 50 (0, 0)) := (hb2.block _ ((Array.getElem?_eq_some_iff.1 HCUR.out).1)).trans HCUR.out
            have hcj : w2.cell? ⟨w.heap.size, k, none⟩ = some (cur[k]'(by rw [HCS.out]; exact hlt)) := by rw [Lib.cell_of_heap hblk]; simp
            have hfj : w2.frozen? ⟨w.heap.size, k, none⟩ = false := Lib.frozen_of_heap hblk k
            have NX := Lib.hid (HR.out.next hP hlt HW.out.2.2.2.2 HUW.out hb2 (by rw [← HL0.out]; exact hrep))
            have hs2 := hb2.size
            clear hblk
            go_wp2_with fail
            go_roundw
            case rel =>
              have hT := HTL.out
              rw [← HL0.out, ← HNN.out] at hT
              by_cases hedge : uc - L = nn
              · exact ⟨k + 1, uo + L, by omega, by go_num, by rw [hT, if_pos hedge, Nat.sub_add_eq, Nat.sub_add_eq], fun h => by omega, NX.out⟩
              · exact ⟨k + 1, uo + L + nn, by omega, by go_num, by rw [hT, if_neg hedge, Nat.sub_add_eq, Nat.sub_add_eq], fun h => by omega, NX.out⟩
            case measure => simp [intOf]; omega
          | node c' ks' =>
            have hty : ty' = 48 := by have := HD.out; rw [hkq, RepI] at this; exact this.1
            subst hty
            have HDq := HD.out
            rw [hkq] at HDq hwk
            have hnnq := HNN.out
            rw [hkq, T.leaves] at hnnq
            rw [T.wf] at hwk
            have HK := Lib.hid ((nodeLeaves_any _ c' ks' _ a' wr P (Nat.le_refl _) hwk.2.2.2.2 (by omega) HDq).mono (R' := fun e w' => e = .returned (.int .i64 ((nn : Nat) : Int)) ∧ wr = w') (fun e w' h => ⟨by rw [h.1, hnnq]; simp, h.2⟩))
            clear hkq HDq hwk hnnq
            go_wp2_with fail
            refine HK.out.mono ?_
            rintro e w2 ⟨rfl, rfl⟩
            go_wp2_with fail
            refine HI.out.mono ?_
            rintro e w2 ⟨hb2, ty2, a2, rfl, hrep⟩
            have hblk : w2.heap[w.heap.size]? = some (.cells cur 50 (0, 0)) := (hb2.block _ ((Array.getElem?_eq_some_iff.1 HCUR.out).1)).trans HCUR.out
            have hcj : w2.cell? ⟨w.heap.size, k, none⟩ = some (cur[k]'(by rw [HCS.out]; exact hlt)) := by rw [Lib.cell_of_heap hblk]; simp
            have hfj : w2.frozen? ⟨w.heap.size, k, none⟩ = false := Lib.frozen_of_heap hblk k
            have NX := Lib.hid (HR.out.next hP hlt HW.out.2.2.2.2 HUW.out hb2 (by rw [← HL0.out]; exact hrep))
            have hs2 := hb2.size
            clear hblk
            go_wp2_with fail
            go_roundw
            case rel =>
              have hT := HTL.out
              rw [← HL0.out, ← HNN.out] at hT
              by_cases hedge : uc - L = nn
              · exact ⟨k + 1, uo + L, by omega, by go_num, by rw [hT, if_pos hedge, Nat.sub_add_eq, Nat.sub_add_eq], fun h => by omega, NX.out⟩
              · exact ⟨k + 1, uo + L + nn, by omega, by go_num, by rw [hT, if_neg hedge, Nat.sub_add_eq, Nat.sub_add_eq], fun h => by omega, NX.out⟩
            case measure => simp [intOf]; omega
        · have hkk : k = ks.length := by omega
          have HK := Lib.hid hkk
          clear hcur hcs hkk ih
          go_wp2_with fail
          go_ret
          obtain ⟨cur', hc', hs', hi', hB'⟩ := HR.out
          have hb3 : Below wr.heap.size wr (wr.alloc (.cells #[.string ⟨#[c]⟩, .slice (some ⟨w.heap.size, 0, none⟩) ks.length ks.length] 117)) := (Below.refl _ _).alloc (Nat.le_refl _) _
          refine ⟨hB.alloc (by omega) _, _, _, rfl, ?_⟩
          rw [T.fill, RepI]
          refine ⟨rfl, wr.heap.size, w.heap.size, ks.length, rfl, .inr hzr, .inr (Nat.le_refl _), by simp, by simp [fillL_length], by rw [fillL_length]; exact h6, RepIL.of_get fun j hj => ?_⟩
          rw [fillL_length] at hj
          obtain ⟨ty', a', e3, e4⟩ := hi' j hj (by have := HK.out; omega)
          have hjw := fill_wf _ (us.drop (T.leavesL (ks.take j))) (wfL_get HW.out.2.2.2.2 j hj) (wfL_drop HUW.out _)
          refine ⟨ty', a', ?_, ?_⟩
          · rw [Nat.zero_add]
            refine keep1 hb3 ?_
            rw [Lib.cell_of_heap hc', e3]
          · rw [fillL_get _ _ _ hj]
            exact (e4.below hjw hb3).keep (fun _ _ _ h => h) (fun b h _ => by rcases h with h | h; exact .inl h; exact .inr (by omega)) hjw
end Go.Proofs.Ytfjodghnheliaaa
end
section
/- The program grafts a tree at a leaf, and writes a tree that is small enough. -/
namespace Go.Proofs.Ytfjodghnheliaaa
open Go.RowKit

theorem graftAll_any (m : Nat) : ∀ (t : T) (us : List T) (ty : TypeId) (a : Addr) (ug uo uc : Nat) (w : World) (P : Nat → Prop), SizeOf.sizeOf t ≤ m → t.wf → T.wfL us → t.leaves ≤ us.length → us.length ≤ uc → uc < 1000000 → (∀ b, P b → b < w.heap.size) → P ug → RepI w P t ty a → RepIL w P us ug uo →
    Calls Try.prog 57 #[.iface ty (.pointer (some a)), .slice (some ⟨ug, uo, none⟩) us.length uc] w (NewIP P (t.fill us) w) :=
  fun t us ty a ug uo uc w P h1 h2 h3 h4 h5 h6 h7 h8 h9 h10 => graftAll_wide m t us ty a ug uo uc w P h1 h2 h3 h4 h5 ⟨by omega, by omega⟩ h7 h8 h9 h10

/-- Leaves, with a tree at k. -/
def oneIn (n k : Nat) (u : T) : List T := (List.replicate n T.leaf).set k u

theorem oneIn_length (n k : Nat) (u : T) : (oneIn n k u).length = n := by simp [oneIn]
theorem oneIn_get {n k : Nat} {u : T} {j : Nat} (h : j < (oneIn n k u).length) : (oneIn n k u)[j] = if k = j then u else T.leaf := by
  simp only [oneIn, List.getElem_set, List.getElem_replicate]
theorem wfL_of {ks : List T} (h : ∀ (j : Nat) (hj : j < ks.length), (ks[j]).wf) : T.wfL ks := by
  induction ks with
  | nil => simp [T.wfL]
  | cons k ks ih =>
    rw [T.wfL]
    exact ⟨h 0 (by simp), ih (fun j hj => by have := h (j + 1) (by simpa using hj); simpa using this)⟩
theorem oneIn_wf {n k : Nat} {u : T} (hu : u.wf) : T.wfL (oneIn n k u) := wfL_of fun j hj => by
  rw [oneIn_get hj]
  split
  · exact hu
  · simp [T.wf]
theorem oneIn_size {n k : Nat} {u : T} (hl : u.leaves ≤ 12) (hn : u.nodes ≤ 16) : ∀ v ∈ oneIn n k u, v.leaves ≤ 12 ∧ v.nodes ≤ 16 := by
  intro v hv
  obtain ⟨j, hj, rfl⟩ := List.getElem_of_mem hv
  rw [oneIn_get hj]
  split
  · exact ⟨hl, hn⟩
  · simp [T.leaves, T.nodes]

/-- Ahead of each round: so many cells hold a leaf. -/
def LRel (w : World) (n i : Nat) (wr : World) : Prop :=
  ∃ cur : Array Value, wr.heap[w.heap.size]? = some (.cells cur 50 (0, 0)) ∧ cur.size = n ∧
    (∀ j, j < n → j < i → ∃ a, cur[j]? = some (.iface 110 (.pointer (some a)))) ∧ Below w.heap.size w wr

theorem LRel.next {w wr : World} {n i : Nat} {a : Addr} {X : Obj} (h : LRel w n i wr) (hi : i < n) :
    LRel w n (i + 1) ((wr.setCell ⟨w.heap.size, i, none⟩ (.iface 110 (.pointer (some a)))).alloc X) := by
  obtain ⟨cur, hc, hs, hl, hB⟩ := h
  have hlt := (Array.getElem?_eq_some_iff.1 hc).1
  refine ⟨_, (Below.heap_alloc _ _ _ (by simp; omega)).trans (heap_setCell_same hc _), by simpa using hs, ?_, (hB.setCell (by simp) _).alloc (by simp; omega) _⟩
  intro j hj hji
  by_cases e : j = i
  · subst e
    exact ⟨a, by rw [Array.getElem?_setIfInBounds, if_pos rfl, if_pos (by omega)]⟩
  · obtain ⟨a', e'⟩ := hl j hj (by omega)
    exact ⟨a', by rw [Array.getElem?_setIfInBounds, if_neg (by omega)]; exact e'⟩

set_option maxRecDepth 100000 in
set_option maxHeartbeats 2000000 in
theorem graftAt_any (t : T) (k : Nat) (u : T) (ty : TypeId) (a : Addr) (tyu : TypeId) (au : Addr) (w : World) (P : Nat → Prop) (hw : t.wf) (huw : u.wf) (hl : t.leaves < 1000000) (hk : k < t.leaves) (hP : ∀ b, P b → b < w.heap.size) (hr : RepI w P t ty a) (hru : RepI w P u tyu au) :
    Calls Try.prog 34 #[.iface ty (.pointer (some a)), .int .i64 k, .iface tyu (.pointer (some au))] w (NewIP P (t.fill (oneIn t.leaves k u)) w) := by
  obtain ⟨nn, hnn⟩ : ∃ nn, nn = t.leaves := ⟨_, rfl⟩
  have HNN := Lib.hid hnn
  rw [← hnn]
  have hkn : k < nn := by omega
  have hn2 : nn < 1000000 := by omega
  have HR := Lib.hid hr
  have HRU := Lib.hid hru
  obtain ⟨i0, hi0, hz, hzs, hzb⟩ := info_parts info46
  clear hnn
  cases t with
  | leaf =>
    have hty := HR.out
    rw [RepI] at hty
    subst hty
    have HK := Lib.hid ((leafLeaves_any a w).mono (R' := fun e w' => e = .returned (.int .i64 ((nn : Nat) : Int)) ∧ w = w') (fun e w' h => ⟨by rw [h.1, HNN.out, T.leaves]; rfl, h.2⟩))
    go_enter Try.func34, Try.ntmps34
    go_wp2_with fail
    refine HK.out.mono ?_
    rintro e w2 ⟨rfl, rfl⟩
    go_wp2_with (at_make; refine wpList_make_full _ rfl _ _ 86 rfl w.heap.size 50 i0 .nilIface 1 Try.underlying86 hi0 hz hzs .i64 .i64 _ _ nn rfl rfl rfl rfl ?c1 ?c2 (Nat.le_refl _) ?_)
    case c1 => rw [hzb]; omega
    case c2 => unfold maxLen; omega
    intro w1 hown hg
    have rel0 : LRel w nn 0 w1 := by
      rcases hown.2 with ⟨e, _⟩ | ⟨G, cap', cur, e, _, hG, hnc, hcm, hcs, htake⟩
      · simp at e
      · simp only [Value.slice.injEq, Option.some.injEq, Addr.mk.injEq] at e
        obtain ⟨⟨rfl, _⟩, _, rfl⟩ := e
        exact ⟨cur, hG, by omega, fun j _ h => by omega, (Below.refl _ _).grown hg (by omega) (fun k e => by cases e)⟩
    have R0 := Lib.hid rel0
    clear rel0 hown hg
    go_wp2_with fail
    go_loopw [14] (fun iv wr => ∃ i : Nat, i ≤ nn ∧ iv = .int .i64 i ∧ LRel w nn i wr) (fun iv _ => nn - (intOf iv).toNat)
    case atStart => exact ⟨0, Nat.zero_le _, rfl, R0.out⟩
    case round =>
      obtain ⟨i, hi, rfl, hrel⟩ := hrel
      have HL := Lib.hid hrel
      obtain ⟨cur, hcur, hcs, hcl, hB⟩ := hrel
      have hzr := hB.size
      have HCS := Lib.hid hcs
      by_cases hlt : i < nn
      · have hblk : (wr.alloc (.cells #[] 112)).heap[w.heap.size]? = some (.cells cur 50 (0, 0)) := by
          rw [Below.heap_alloc _ _ _ ((Array.getElem?_eq_some_iff.1 hcur).1)]; exact hcur
        have hcj : wr.cell? ⟨w.heap.size, i, none⟩ = some (cur[i]'(by rw [HCS.out]; exact hlt)) := by rw [Lib.cell_of_heap hcur]; simp
        have hfj : wr.frozen? ⟨w.heap.size, i, none⟩ = false := Lib.frozen_of_heap hcur i
        have hlw : w.heap.size < wr.heap.size := (Array.getElem?_eq_some_iff.1 hcur).1
        have NX := Lib.hid (HL.out.next (a := ⟨wr.heap.size, 0, none⟩) (X := .cells #[] 112 (0, 0)) hlt)
        clear hcur hcs hcl
        go_wp2_with fail
        go_roundw
        case rel => exact ⟨i + 1, by omega, by go_num, NX.out⟩
        case measure => simp [intOf]; omega
      · have hin : i = nn := by omega
        subst hin
        have hcj : wr.cell? ⟨w.heap.size, k, none⟩ = some (cur[k]'(by rw [HCS.out]; exact hkn)) := by rw [Lib.cell_of_heap hcur]; simp
        have hfj : wr.frozen? ⟨w.heap.size, k, none⟩ = false := Lib.frozen_of_heap hcur k
        have hlw : w.heap.size < wr.heap.size := (Array.getElem?_eq_some_iff.1 hcur).1
        have HB := Lib.hid hB
        have hset : (wr.setCell ⟨w.heap.size, k, none⟩ (.iface tyu (.pointer (some au)))).heap[w.heap.size]? = some (.cells (cur.setIfInBounds k (.iface tyu (.pointer (some au)))) 50 (0, 0)) := heap_setCell_same hcur _
        have hBs : Below w.heap.size w (wr.setCell ⟨w.heap.size, k, none⟩ (.iface tyu (.pointer (some au)))) := hB.setCell (by simp) _
        have HUS : Hid (RepIL (wr.setCell ⟨w.heap.size, k, none⟩ (.iface tyu (.pointer (some au)))) (fun b => P b ∨ w.heap.size ≤ b) (oneIn i k u) w.heap.size 0) := Lib.hid (by
          refine RepIL.of_get fun j hj => ?_
          have hj' : j < i := by rw [oneIn_length] at hj; exact hj
          rw [Nat.zero_add, oneIn_get hj]
          by_cases e : k = j
          · subst e
            rw [if_pos rfl]
            refine ⟨tyu, au, ?_, (HRU.out.below huw hBs).keep (fun _ _ _ h => h) (fun b h _ => .inl h) huw⟩
            rw [Lib.cell_of_heap hset, Array.getElem?_setIfInBounds, if_pos rfl, if_pos (by omega)]
          · rw [if_neg e]
            obtain ⟨a', e'⟩ := hcl j hj' hj'
            refine ⟨_, a', ?_, by rw [RepI]⟩
            rw [Lib.cell_of_heap hset, Array.getElem?_setIfInBounds, if_neg (by omega)]; exact e')
        have HBS := Lib.hid hBs
        have hsz2 : (wr.setCell ⟨w.heap.size, k, none⟩ (.iface tyu (.pointer (some au)))).heap.size = wr.heap.size := by simp
        have HG0 := graftAll_any _ .leaf (oneIn i k u) _ a w.heap.size 0 i (wr.setCell ⟨w.heap.size, k, none⟩ (.iface tyu (.pointer (some au)))) (fun b => (P b ∨ w.heap.size ≤ b) ∧ b < wr.heap.size) (Nat.le_refl _) hw (oneIn_wf huw) (by rw [oneIn_length]; exact Nat.le_of_eq HNN.out.symm) (by rw [oneIn_length]; exact Nat.le_refl _) hn2 (fun b hb => by rw [hsz2]; exact hb.2) ⟨.inr (Nat.le_refl _), hlw⟩
          ((HR.out.below hw hBs).keep (fun _ _ _ h => h) (fun b h _ => ⟨.inl h, by have := hP b h; omega⟩) hw) (HUS.out.keep (fun _ _ _ h => h) (fun b h hb => ⟨h, by rw [hsz2] at hb; exact hb⟩) (.inr (Nat.le_refl _)) (oneIn_wf huw))
        rw [oneIn_length] at HG0
        have HG := Lib.hid HG0
        clear HG0 hcur hcs hcl hset hBs hB
        go_wp2_with fail
        refine HG.out.mono ?_
        rintro e w3 ⟨hB3, ty3, a3, rfl, hr3⟩
        have HR3 := Lib.hid hr3
        clear hr3
        go_wp2_with fail
        go_ret
        exact ⟨below_step HBS.out hB3, _, _, rfl, HR3.out.keep (fun _ _ _ h => h) (fun b h _ => by rcases h with h | h; exact h.1; exact .inr (by rw [hsz2] at h; omega)) (fill_wf _ _ hw (oneIn_wf huw))⟩
  | node c ks =>
    have hty := HR.out
    rw [RepI] at hty
    have hty := hty.1
    subst hty
    have HK : Hid (Calls Try.prog 54 #[.pointer (some a)] w (fun e w' => e = .returned (.int .i64 ((nn : Nat) : Int)) ∧ w = w')) := Lib.hid (by
      have hnnq := HNN.out
      rw [T.leaves] at hnnq hl
      have hwk := hw
      rw [T.wf] at hwk
      exact (nodeLeaves_any _ c ks _ a w P (Nat.le_refl _) hwk.2.2.2.2 (by omega) HR.out).mono (fun e w' h => ⟨by rw [h.1, hnnq]; simp, h.2⟩))
    go_enter Try.func34, Try.ntmps34
    go_wp2_with fail
    refine HK.out.mono ?_
    rintro e w2 ⟨rfl, rfl⟩
    go_wp2_with (at_make; refine wpList_make_full _ rfl _ _ 86 rfl w.heap.size 50 i0 .nilIface 1 Try.underlying86 hi0 hz hzs .i64 .i64 _ _ nn rfl rfl rfl rfl ?c1 ?c2 (Nat.le_refl _) ?_)
    case c1 => rw [hzb]; omega
    case c2 => unfold maxLen; omega
    intro w1 hown hg
    have rel0 : LRel w nn 0 w1 := by
      rcases hown.2 with ⟨e, _⟩ | ⟨G, cap', cur, e, _, hG, hnc, hcm, hcs, htake⟩
      · simp at e
      · simp only [Value.slice.injEq, Option.some.injEq, Addr.mk.injEq] at e
        obtain ⟨⟨rfl, _⟩, _, rfl⟩ := e
        exact ⟨cur, hG, by omega, fun j _ h => by omega, (Below.refl _ _).grown hg (by omega) (fun k e => by cases e)⟩
    have R0 := Lib.hid rel0
    clear rel0 hown hg
    go_wp2_with fail
    go_loopw [14] (fun iv wr => ∃ i : Nat, i ≤ nn ∧ iv = .int .i64 i ∧ LRel w nn i wr) (fun iv _ => nn - (intOf iv).toNat)
    case atStart => exact ⟨0, Nat.zero_le _, rfl, R0.out⟩
    case round =>
      obtain ⟨i, hi, rfl, hrel⟩ := hrel
      have HL := Lib.hid hrel
      obtain ⟨cur, hcur, hcs, hcl, hB⟩ := hrel
      have hzr := hB.size
      have HCS := Lib.hid hcs
      by_cases hlt : i < nn
      · have hblk : (wr.alloc (.cells #[] 112)).heap[w.heap.size]? = some (.cells cur 50 (0, 0)) := by
          rw [Below.heap_alloc _ _ _ ((Array.getElem?_eq_some_iff.1 hcur).1)]; exact hcur
        have hcj : wr.cell? ⟨w.heap.size, i, none⟩ = some (cur[i]'(by rw [HCS.out]; exact hlt)) := by rw [Lib.cell_of_heap hcur]; simp
        have hfj : wr.frozen? ⟨w.heap.size, i, none⟩ = false := Lib.frozen_of_heap hcur i
        have hlw : w.heap.size < wr.heap.size := (Array.getElem?_eq_some_iff.1 hcur).1
        have NX := Lib.hid (HL.out.next (a := ⟨wr.heap.size, 0, none⟩) (X := .cells #[] 112 (0, 0)) hlt)
        clear hcur hcs hcl
        go_wp2_with fail
        go_roundw
        case rel => exact ⟨i + 1, by omega, by go_num, NX.out⟩
        case measure => simp [intOf]; omega
      · have hin : i = nn := by omega
        subst hin
        have hcj : wr.cell? ⟨w.heap.size, k, none⟩ = some (cur[k]'(by rw [HCS.out]; exact hkn)) := by rw [Lib.cell_of_heap hcur]; simp
        have hfj : wr.frozen? ⟨w.heap.size, k, none⟩ = false := Lib.frozen_of_heap hcur k
        have hlw : w.heap.size < wr.heap.size := (Array.getElem?_eq_some_iff.1 hcur).1
        have HB := Lib.hid hB
        have hset : (wr.setCell ⟨w.heap.size, k, none⟩ (.iface tyu (.pointer (some au)))).heap[w.heap.size]? = some (.cells (cur.setIfInBounds k (.iface tyu (.pointer (some au)))) 50 (0, 0)) := heap_setCell_same hcur _
        have hBs : Below w.heap.size w (wr.setCell ⟨w.heap.size, k, none⟩ (.iface tyu (.pointer (some au)))) := hB.setCell (by simp) _
        have HUS : Hid (RepIL (wr.setCell ⟨w.heap.size, k, none⟩ (.iface tyu (.pointer (some au)))) (fun b => P b ∨ w.heap.size ≤ b) (oneIn i k u) w.heap.size 0) := Lib.hid (by
          refine RepIL.of_get fun j hj => ?_
          have hj' : j < i := by rw [oneIn_length] at hj; exact hj
          rw [Nat.zero_add, oneIn_get hj]
          by_cases e : k = j
          · subst e
            rw [if_pos rfl]
            refine ⟨tyu, au, ?_, (HRU.out.below huw hBs).keep (fun _ _ _ h => h) (fun b h _ => .inl h) huw⟩
            rw [Lib.cell_of_heap hset, Array.getElem?_setIfInBounds, if_pos rfl, if_pos (by omega)]
          · rw [if_neg e]
            obtain ⟨a', e'⟩ := hcl j hj' hj'
            refine ⟨_, a', ?_, by rw [RepI]⟩
            rw [Lib.cell_of_heap hset, Array.getElem?_setIfInBounds, if_neg (by omega)]; exact e')
        have HBS := Lib.hid hBs
        have hsz2 : (wr.setCell ⟨w.heap.size, k, none⟩ (.iface tyu (.pointer (some au)))).heap.size = wr.heap.size := by simp
        have HG0 := graftAll_any _ (.node c ks) (oneIn i k u) _ a w.heap.size 0 i (wr.setCell ⟨w.heap.size, k, none⟩ (.iface tyu (.pointer (some au)))) (fun b => (P b ∨ w.heap.size ≤ b) ∧ b < wr.heap.size) (Nat.le_refl _) hw (oneIn_wf huw) (by rw [oneIn_length]; exact Nat.le_of_eq HNN.out.symm) (by rw [oneIn_length]; exact Nat.le_refl _) hn2 (fun b hb => by rw [hsz2]; exact hb.2) ⟨.inr (Nat.le_refl _), hlw⟩
          ((HR.out.below hw hBs).keep (fun _ _ _ h => h) (fun b h _ => ⟨.inl h, by have := hP b h; omega⟩) hw) (HUS.out.keep (fun _ _ _ h => h) (fun b h hb => ⟨h, by rw [hsz2] at hb; exact hb⟩) (.inr (Nat.le_refl _)) (oneIn_wf huw))
        rw [oneIn_length] at HG0
        have HG := Lib.hid HG0
        clear HG0 hcur hcs hcl hset hBs hB
        go_wp2_with fail
        refine HG.out.mono ?_
        rintro e w3 ⟨hB3, ty3, a3, rfl, hr3⟩
        have HR3 := Lib.hid hr3
        clear hr3
        go_wp2_with fail
        go_ret
        exact ⟨below_step HBS.out hB3, _, _, rfl, HR3.out.keep (fun _ _ _ h => h) (fun b h _ => by rcases h with h | h; exact h.1; exact .inr (by rw [hsz2] at h; omega)) (fill_wf _ _ hw (oneIn_wf huw))⟩
end Go.Proofs.Ytfjodghnheliaaa
end
