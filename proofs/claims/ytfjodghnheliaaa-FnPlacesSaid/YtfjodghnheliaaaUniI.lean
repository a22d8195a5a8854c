/- The program lays one tree over another. -/
import Derived.Test.YtfjodghnheliaaaPatM
import Derived.Test.YtfjodghnheliaaaMirrorI
import Derived.Deep.QuietTactic
import Derived.BigQuiet
namespace Go.Proofs.Ytfjodghnheliaaa
open Go.RowKit

/-- What 'overlay' answers. -/
def UnI (P : Nat → Prop) (o : Option T) (w : World) (e : Ending) (w' : World) : Prop :=
  Below w.heap.size w w' ∧ ((o = none ∧ e = .returned (.tuple #[.nilIface, .bool false])) ∨
    ∃ t ty a, o = some t ∧ e = .returned (.tuple #[.iface ty (.pointer (some a)), .bool true]) ∧ RepI w' (fun b => P b ∨ w.heap.size ≤ b) t ty a)

theorem UnI.form {P : Nat → Prop} {o : Option T} {w w' : World} {e : Ending} (h : UnI P o w e w') : Below w.heap.size w w' ∧ ∃ v b, e = .returned (.tuple #[v, .bool b]) ∧
    ((o = none ∧ v = .nilIface ∧ b = false) ∨ ∃ t ty a, o = some t ∧ v = .iface ty (.pointer (some a)) ∧ b = true ∧ RepI w' (fun b => P b ∨ w.heap.size ≤ b) t ty a) := by
  obtain ⟨hB, ⟨h1, h2⟩ | ⟨t, ty, a, h1, h2, h3⟩⟩ := h
  · exact ⟨hB, _, _, h2, .inl ⟨h1, rfl, rfl⟩⟩
  · exact ⟨hB, _, _, h2, .inr ⟨t, ty, a, h1, rfl, rfl, h3⟩⟩

/-- Ahead of each round: the row in the first new block holds the kids laid over each other. -/
def URel (P : Nat → Prop) (w : World) (ks js : List T) (k : Nat) (wr : World) : Prop :=
  ∃ (cur : Array Value) (acc : List T), wr.heap[w.heap.size]? = some (.cells cur 50 (0, 0)) ∧ cur.size = ks.length ∧ acc.length = k ∧ T.uniteL (ks.take k) (js.take k) = some acc ∧ T.wfL acc ∧
    (∀ i (h : i < acc.length), ∃ ty a, cur[i]? = some (.iface ty (.pointer (some a))) ∧ RepI wr (fun b => P b ∨ w.heap.size + 1 ≤ b) acc[i] ty a) ∧ Below w.heap.size w wr

theorem URel.next {P : Nat → Prop} {w wr w1 : World} {ks js : List T} {k : Nat} {u : T} {ty : TypeId} {a : Addr} (h : URel P w ks js k wr) (hP : ∀ b, P b → b < w.heap.size) (hk : k < ks.length) (hj : k < js.length) (hu : (ks[k]).unite (js[k]) = some u) (huw : u.wf) (hb : Below wr.heap.size wr w1)
    (hr : RepI w1 (fun b => P b ∨ wr.heap.size ≤ b) u ty a) : URel P w ks js (k + 1) (w1.setCell ⟨w.heap.size, k, none⟩ (.iface ty (.pointer (some a)))) := by
  obtain ⟨cur, acc, hc, hs, hal, hun, hwf, hi, hB⟩ := h
  have hlt := (Array.getElem?_eq_some_iff.1 hc).1
  have hc1 : w1.heap[w.heap.size]? = some (.cells cur 50 (0, 0)) := (hb.block _ hlt).trans hc
  have hkeep : ∀ (w0 : World), Below w0.heap.size w0 w1 → Keeps (fun b => P b ∨ w.heap.size + 1 ≤ b) w0 (w1.setCell ⟨w.heap.size, k, none⟩ (.iface ty (.pointer (some a)))) := by
    intro w0 hb0 q u hq hu
    rw [World.cell?_of_block (w := w0)]
    · exact hu
    · have : q.block ≠ w.heap.size := by
        rcases hq with h | h
        · have := hP _ h; omega
        · omega
      rw [Below.heap_setCell _ _ _ _ this, hb0.block _ (World.block_lt_of_cell? w0 q hu)]
  refine ⟨_, acc ++ [u], heap_setCell_same hc1 _, by simpa using hs, by simp [hal], uniteL_snoc ks js k acc u hk hj hun hu, by rw [wfL_append]; exact ⟨hwf, by rw [T.wfL, T.wfL]; exact ⟨huw, trivial⟩⟩, ?_, (hB.trans (hb.mono (by omega))).setCell (by simp) _⟩
  intro i h
  by_cases hi2 : i < acc.length
  · obtain ⟨ty', a', e1, e2⟩ := hi i hi2
    rw [List.getElem_append_left hi2]
    refine ⟨ty', a', ?_, e2.keep (hkeep wr hb) (fun _ h _ => h) (wfL_get hwf i hi2)⟩
    rw [Array.getElem?_setIfInBounds, if_neg (by omega)]; exact e1
  · have hie : i = acc.length := by simp at h; omega
    subst hie
    rw [List.getElem_append_right (by omega)]
    simp only [Nat.sub_self, List.getElem_singleton]
    refine ⟨ty, a, ?_, hr.keep (Keeps.mono (hkeep w1 (Below.refl _ _)) (fun b h => by rcases h with h | h; exact .inl h; exact .inr (by omega))) (fun b h _ => by rcases h with h | h; exact .inl h; exact .inr (by omega)) huw⟩
    rw [Array.getElem?_setIfInBounds, if_pos hal.symm, if_pos (by omega)]

theorem isAlike_any (c d : UInt8) (n m : Nat) (b1 g1 cap1 b2 g2 cap2 : Nat) (w : World)
    (h0 : w.cell? ⟨b1, 0, none⟩ = some (.string ⟨#[c]⟩)) (h1 : w.cell? ⟨b1, 1, none⟩ = some (.slice (some ⟨g1, 0, none⟩) n cap1)) (h2 : w.cell? ⟨b2, 0, none⟩ = some (.string ⟨#[d]⟩)) (h3 : w.cell? ⟨b2, 1, none⟩ = some (.slice (some ⟨g2, 0, none⟩) m cap2)) :
    Calls Try.prog 80 #[.pointer (some ⟨b1, 0, none⟩), .pointer (some ⟨b2, 0, none⟩)] w fun e w' => e = .returned (.bool (decide (c = d ∧ n = m))) ∧ Below w.heap.size w w' := by
  by_cases hcd : c = d
  · subst hcd
    have hs : ((#[c] : Array UInt8) == #[c]) = true := by simp
    by_cases hnm : n = m
    · subst hnm
      have hq : ((n : Int) == (n : Int)) = true := by simp
      go_enter Try.func80, Try.ntmps80
      go_wp2_with fail
      all_goals
        go_quiet (fail)
        go_wp2_with fail
        go_ret
        exact ⟨by simp, below_drewN (Below.refl _ _) nq⟩
    · have hq : ((n : Int) == (m : Int)) = false := beq_false_of_ne (by omega)
      go_enter Try.func80, Try.ntmps80
      go_wp2_with fail
      all_goals
        go_quiet (fail)
        go_wp2_with fail
        go_ret
        exact ⟨by simp [hnm], below_drewN (Below.refl _ _) nq⟩
  · have hs : ((#[c] : Array UInt8) == #[d]) = false := by simp [hcd]
    go_enter Try.func80, Try.ntmps80
    go_wp2_with fail
    all_goals
      go_quiet (fail)
      go_wp2_with fail
      go_ret
      exact ⟨by simp [hcd], below_drewN (Below.refl _ _) nq⟩

set_option maxRecDepth 100000 in
set_option maxHeartbeats 2000000 in
theorem overlay_any (m : Nat) : ∀ (t u : T) (ty : TypeId) (a : Addr) (tyu : TypeId) (au : Addr) (w : World) (P : Nat → Prop), SizeOf.sizeOf t ≤ m → t.wf → u.wf → (∀ b, P b → b < w.heap.size) → RepI w P t ty a → RepI w P u tyu au →
    Calls Try.prog 72 #[.iface ty (.pointer (some a)), .iface tyu (.pointer (some au))] w (UnI P (t.unite u) w) := by
  induction m with
  | zero => intro t u ty a tyu au w P h; cases t <;> simp at h <;> omega
  | succ m ih =>
    intro t u ty a tyu au w P hn hwf huwf hP hr hru
    have HRU := Lib.hid hru
    have HRT := Lib.hid hr
    have HUWF := Lib.hid huwf
    have HTWF := Lib.hid hwf
    cases t with
    | leaf =>
      rw [RepI] at hr
      subst hr
      have hta := fun v w => assert_leaf v w
      clear hru
      go_enter Try.func72, Try.ntmps72
      go_wp2_with fail
      go_returns
      exact ⟨Below.refl _ _, .inr ⟨u, tyu, au, unite_leaf u, rfl, HRU.out.keep (fun _ _ _ h => h) (fun b h _ => .inl h) HUWF.out⟩⟩
    | node c ks =>
      rw [RepI] at hr
      obtain ⟨rfl, b, g, cap, rfl, hPb, hPg, h0, h1, h6, hL⟩ := hr
      have hta := fun v w => assert_node v w
      cases u with
      | leaf =>
        rw [RepI] at hru
        subst hru
        have htb := fun v w => assert_leaf v w
        clear h0 h1 hL hwf
        go_enter Try.func72, Try.ntmps72
        go_wp2_with fail
        go_returns
        exact ⟨Below.refl _ _, .inr ⟨.node c ks, _, _, unite_leaf2 _, rfl, HRT.out.keep (fun _ _ _ h => h) (fun b h _ => .inl h) HTWF.out⟩⟩
      | node d js =>
        rw [RepI] at hru
        obtain ⟨rfl, b', g', cap', rfl, hPb', hPg', h0', h1', h6', hL'⟩ := hru
        have HAL := Lib.hid (fun (W : World) (hb : Below w.heap.size w W) => isAlike_any c d ks.length js.length b g cap b' g' cap' W (keep1 hb h0) (keep1 hb h1) (keep1 hb h0') (keep1 hb h1'))
        have HL := Lib.hid hL
        have HL' := Lib.hid hL'
        have H0 := Lib.hid h0
        have H1 := Lib.hid h1
        have H1' := Lib.hid h1'
        rw [T.wf] at hwf huwf
        have hk1 := hwf.2.2.1
        have HWK := Lib.hid hwf.2.2.2.2
        have HWJ := Lib.hid huwf.2.2.2.2
        have HWF := Lib.hid hwf
        have hlg := hP g hPg
        have hlb := hP b hPb
        clear hL hL' h0' hwf huwf
        by_cases hcd : c = d ∧ ks.length = js.length
        · rw [decide_eq_true hcd] at HAL
          obtain ⟨rfl, hlen⟩ := hcd
          have HLEN := Lib.hid hlen
          obtain ⟨i0, hi0, hz, hzs, hzb⟩ := info_parts info46
          clear hlen h0 h1 h1'
          go_enter Try.func72, Try.ntmps72
          go_wp2_with fail
          refine (HAL.out _ (Below.refl _ _)).mono ?_
          rintro e w0 ⟨rfl, hB0⟩
          have HB0 := Lib.hid hB0
          have hP0 : ∀ b, P b → b < w0.heap.size := fun b hb => by have := hP b hb; have := hB0.size; omega
          have h0 : w0.cell? ⟨b, 0, none⟩ = some (.string ⟨#[c]⟩) := keep1 hB0 H0.out
          have h1 : w0.cell? ⟨b, 1, none⟩ = some (.slice (some ⟨g, 0, none⟩) ks.length cap) := keep1 hB0 H1.out
          have h1' : w0.cell? ⟨b', 1, none⟩ = some (.slice (some ⟨g', 0, none⟩) js.length cap') := keep1 hB0 H1'.out
          clear hB0
          go_wp2_with (at_make; refine wpList_make_full _ rfl _ _ 86 rfl w0.heap.size 50 i0 .nilIface 1 Try.underlying86 hi0 hz hzs .i64 .i64 _ _ ks.length rfl rfl rfl rfl ?c1 ?c2 (Nat.le_refl _) ?_)
          case c1 => rw [hzb]; omega
          case c2 => unfold maxLen; omega
          intro w1 hown hg
          have hbw : Below w0.heap.size w0 w1 := (Below.refl _ _).grown hg (by omega) (fun k e => by cases e)
          have rel0 : URel P w0 ks js 0 w1 := by
            rcases hown.2 with ⟨e, _⟩ | ⟨G, cap', cur, e, _, hG, hnc, hcm, hcs, htake⟩
            · simp at e
            · simp only [Value.slice.injEq, Option.some.injEq, Addr.mk.injEq] at e
              obtain ⟨⟨rfl, _⟩, _, rfl⟩ := e
              exact ⟨cur, [], hG, by omega, rfl, by rw [List.take_zero, uniteL_nil], by rw [T.wfL]; trivial, fun i h => by simp at h, hbw⟩
          have R0 := Lib.hid rel0
          have c0 : w1.cell? ⟨b, 0, none⟩ = some (.string ⟨#[c]⟩) := keep1 hbw h0
          have c1 : w1.cell? ⟨b, 1, none⟩ = some (.slice (some ⟨g, 0, none⟩) ks.length cap) := keep1 hbw h1
          clear rel0 hown hg
          have D0 := Lib.hid h0
          have D1 := Lib.hid h1
          have D1' := Lib.hid h1'
          clear h0 h1 h1'
          go_wp2_with fail
          go_loopw [41] (fun iv wr => ∃ k : Nat, k ≤ ks.length ∧ iv = .int .i64 k ∧ URel P w0 ks js k wr) (fun iv _ => ks.length - (intOf iv).toNat)
          case atStart => exact ⟨0, Nat.zero_le _, rfl, R0.out⟩
          case round =>
            obtain ⟨k, hk', rfl, hrel⟩ := hrel
            have HR := Lib.hid hrel
            obtain ⟨cur, acc, hcur, hcs, hal, hun, hawf, _, hB⟩ := hrel
            have HB := Lib.hid hB
            have HBW := Lib.hid (below_step HB0.out hB)
            have HCUR := Lib.hid hcur
            have HCS := Lib.hid hcs
            have HUN := Lib.hid hun
            have hzr := hB.size
            have q0 : wr.cell? ⟨b, 0, none⟩ = some (.string ⟨#[c]⟩) := keep1 hB D0.out
            have q1 : wr.cell? ⟨b, 1, none⟩ = some (.slice (some ⟨g, 0, none⟩) ks.length cap) := keep1 hB D1.out
            have q1' : wr.cell? ⟨b', 1, none⟩ = some (.slice (some ⟨g', 0, none⟩) js.length cap') := keep1 hB D1'.out
            clear hcs hal hun hawf hB hcur
            by_cases hlt : k < ks.length
            · have hltj : k < js.length := by have := HLEN.out; omega
              obtain ⟨ty1, a1, d1, d2⟩ := HL.out.get k hlt
              obtain ⟨ty2, a2, e1, e2⟩ := HL'.out.get k hltj
              rw [Nat.zero_add] at d1 e1
              have hwk := wfL_get HWK.out k hlt
              have hwj := wfL_get HWJ.out k hltj
              have hd : SizeOf.sizeOf ks[k] < SizeOf.sizeOf ks := List.sizeOf_lt_of_mem (List.getElem_mem hlt)
              simp only [T.node.sizeOf_spec] at hn
              have d1' : wr.cell? ⟨g, k, none⟩ = some (.iface ty1 (.pointer (some a1))) := keep1 HBW.out d1
              have e1' : wr.cell? ⟨g', k, none⟩ = some (.iface ty2 (.pointer (some a2))) := keep1 HBW.out e1
              have HI := Lib.hid (fun (W : World) (hb : Below wr.heap.size wr W) => (ih ks[k] js[k] ty1 a1 ty2 a2 W P (by omega) hwk hwj (fun b hb' => by have := hP0 b hb'; have := hb.size; omega) ((d2.below hwk HBW.out).below hwk hb) ((e2.below hwj HBW.out).below hwj hb)).mono (fun _ _ h => UnI.form h))
              clear ih d1 d2 e1 e2 hd
              go_wp2_with fail
              go_region_with (go_at_call 72; refine (HI.out _ (Below.refl _ _).drew).mono ?_; rintro e w2 ⟨hb2', v, bb, rfl, hres⟩; have hb2 : Below wr.heap.size wr w2 := (Below.refl _ _).drew.trans hb2'; have hv := hb2.size)
              all_goals
                rcases hres with ⟨hno, rfl, rfl⟩ | ⟨u, ty3, a3, hku, rfl, rfl, hrep⟩
                · have HNO := Lib.hid (unite_fail (c := c) (uniteL_stop ks js k hlt hltj hno))
                  have HB2 := Lib.hid (below_step HBW.out hb2)
                  clear hno hb2 hb2'
                  go_wp2_with fail
                  go_ret2
                  exact ⟨HB2.out, .inl ⟨HNO.out, rfl⟩⟩
                · have hblk : w2.heap[w0.heap.size]? = some (.cells cur 50 (0, 0)) := (hb2.block _ ((Array.getElem?_eq_some_iff.1 HCUR.out).1)).trans HCUR.out
                  have hcj : w2.cell? ⟨w0.heap.size, k, none⟩ = some (cur[k]'(by rw [HCS.out]; exact hlt)) := by rw [Lib.cell_of_heap hblk]; simp
                  have hfj : w2.frozen? ⟨w0.heap.size, k, none⟩ = false := Lib.frozen_of_heap hblk k
                  have NX := Lib.hid (HR.out.next hP0 hlt hltj hku (unite_ok _ _ _ hwk hwj hku).1 hb2 (hrep.keep (fun _ _ _ h => h) (fun b h _ => by rcases h with h | h; exact .inl h; exact .inr (by simpa using h)) (unite_ok _ _ _ hwk hwj hku).1))
                  have hs2 := hb2.size
                  clear hblk hku hrep hb2 hb2'
                  go_wp2_with fail
                  go_roundw
                  case rel => exact ⟨k + 1, by omega, by go_num, NX.out⟩
                  case measure => simp [intOf]; omega
            · have hkk : k = ks.length := by omega
              have HK := Lib.hid hkk
              clear hkk ih
              go_wp2_with fail
              go_ret2
              obtain ⟨cur', acc', hc', hs', hal', hun', hwf', hi', hB'⟩ := HR.out
              have hb3 : Below wr.heap.size wr (wr.alloc (.cells #[.string ⟨#[c]⟩, .slice (some ⟨w0.heap.size, 0, none⟩) ks.length ks.length] 117)) := (Below.refl _ _).alloc (Nat.le_refl _) _
              have hu : T.uniteL ks js = some acc' := by
                rw [HK.out, List.take_length, HLEN.out, List.take_length] at hun'
                exact hun'
              have hlen' : acc'.length = ks.length := by omega
              refine ⟨below_step HBW.out hb3, .inr ⟨.node c acc', _, _, unite_same HLEN.out hu, rfl, ?_⟩⟩
              rw [RepI]
              refine ⟨rfl, wr.heap.size, w0.heap.size, ks.length, rfl, .inr HBW.out.size, .inr HB0.out.size, by simp, by simp [hlen'], by rw [hlen']; exact h6, RepIL.of_get fun j hj => ?_⟩
              obtain ⟨ty', a', e3, e4⟩ := hi' j hj
              have hjw := wfL_get hwf' j hj
              refine ⟨ty', a', ?_, ?_⟩
              · rw [Nat.zero_add]
                refine keep1 hb3 ?_
                rw [Lib.cell_of_heap hc', e3]
              · exact (e4.below hjw hb3).keep (fun _ _ _ h => h) (fun b h _ => by rcases h with h | h; exact .inl h; exact .inr (by have := HB0.out.size; omega)) hjw
        · rw [decide_eq_false hcd] at HAL
          have HNO := Lib.hid (unite_unlike hcd)
          clear hcd h0 h1 h1'
          go_enter Try.func72, Try.ntmps72
          go_wp2_with fail
          refine (HAL.out _ (Below.refl _ _)).mono ?_
          rintro e w0 ⟨rfl, hB0⟩
          go_wp2_with fail
          go_ret2
          exact ⟨hB0, .inl ⟨HNO.out, rfl⟩⟩
end Go.Proofs.Ytfjodghnheliaaa
