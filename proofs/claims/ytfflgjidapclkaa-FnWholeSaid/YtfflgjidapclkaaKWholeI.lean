/- Merged out of: XWholeI, XLawWhole. -/
import Derived.Test.YtfflgjidapclkaaKWholeS
import Derived.Test.YtfflgjidapclkaaKStrT
section
/- TreeWhole by the program. -/
namespace Go.Proofs.Ytfflgjidapclkaa
open Go.RowKit

/-- Ahead of each round: the row in block g holds the trees that were read. -/
def WRel (base g n : Nat) (us : List T) (wr : World) : Prop :=
  ∃ cur : Array Value, wr.heap[g]? = some (.cells cur 44 (0, 0)) ∧ cur.size = n ∧
    (∀ j (h : j < us.length), ∃ ty a, cur[j]? = some (.iface ty (.pointer (some a))) ∧ RepI wr (fun b => base ≤ b ∧ b ≠ g) us[j] ty a) ∧ T.wfL us

theorem WRel.next {base g n : Nat} {us : List T} {wr w1 : World} {t : T} {ty : TypeId} {a : Addr} (h : WRel base g n us wr) (hb : Below wr.heap.size wr w1) (hbw : base ≤ wr.heap.size) (hr : RepI w1 (fun b => wr.heap.size ≤ b) t ty a) (htw : t.wf) (hl : us.length < n) :
    WRel base g n (us ++ [t]) (w1.setCell ⟨g, us.length, none⟩ (.iface ty (.pointer (some a)))) := by
  obtain ⟨cur, hc, hs, hj, hwf⟩ := h
  have hlt := (Array.getElem?_eq_some_iff.1 hc).1
  have hc1 : w1.heap[g]? = some (.cells cur 44 (0, 0)) := (hb.block _ hlt).trans hc
  have hkeep : ∀ (w0 : World) (P : Nat → Prop), (∀ b, P b → b ≠ g) → Below w0.heap.size w0 w1 → Keeps P w0 (w1.setCell ⟨g, us.length, none⟩ (.iface ty (.pointer (some a)))) := by
    intro w0 P hP hb0 q u hq hu
    rw [World.cell?_of_block (w := w0)]
    · exact hu
    · rw [Below.heap_setCell _ _ _ _ (hP _ hq), hb0.block _ (World.block_lt_of_cell? w0 q hu)]
  refine ⟨_, heap_setCell_same hc1 _, by simpa using hs, ?_, by rw [wfL_append]; exact ⟨hwf, by simp [T.wfL, htw]⟩⟩
  intro j hj'
  by_cases hjl : j < us.length
  · obtain ⟨ty', a', e1, e2⟩ := hj j hjl
    refine ⟨ty', a', by rw [Array.getElem?_setIfInBounds, if_neg (by omega)]; exact e1, ?_⟩
    rw [List.getElem_append_left hjl]
    exact e2.keep (hkeep wr _ (fun b h => h.2) hb) (fun _ h _ => h) (wfL_get hwf j hjl)
  · have hje : j = us.length := by simp at hj'; omega
    subst hje
    refine ⟨ty, a, by rw [Array.getElem?_setIfInBounds, if_pos rfl, if_pos (by omega)], ?_⟩
    rw [List.getElem_append_right (by omega)]
    simp only [Nat.sub_self, List.getElem_singleton]
    exact hr.keep (hkeep w1 _ (fun b h => by omega) (Below.refl _ _)) (fun b h _ => by omega) htw

set_option maxRecDepth 100000 in
set_option maxHeartbeats 2000000 in
theorem iWhole_any (s : ByteArray) (ps : List (List UInt8)) (a : Option Addr) (cap : Nat) (w : World) (hs : s.size ≤ 140737488351232) (hn : ps.length ≤ 1048576) (hz : ∀ j (h : j < ps.length), (ps[j]).length ≤ 1048576) (hl : Lies w a ps) :
    Calls Try.prog 15 #[.string s, .slice a ps.length cap] w (Ans (graftV (wholeOf s.data.toList ps)) w) := by
  have HL := Lib.hid hl
  have HZ := Lib.hid hz
  obtain ⟨i0, hi0, hiz, hzs, hzb⟩ := info_parts info46
  clear hl hz
  go_enter Try.func15, Try.ntmps15
  go_wp2_with fail
  refine (readTree_any s w hs).mono ?_
  rintro e w1 ⟨hB, ⟨hno, rfl⟩ | ⟨t, ty, ta, hyes, rfl, hrep⟩⟩
  · have HN := Lib.hid (wholeOf_no (ps := ps) hno)
    clear hno
    go_wp2_with fail
    go_ret2
    exact ⟨by rw [HN.out]; rfl, hB⟩
  · obtain ⟨hw, htx, hlv, hnd⟩ := parse_some hyes
    clear htx
    have HN := Lib.hid hyes
    have HB := Lib.hid hB
    have HR := Lib.hid (hrep.keep (w' := w1) (P' := fun b => b < w1.heap.size) (fun _ _ _ h => h) (fun _ _ h => h) hw)
    clear hyes hrep hB
    obtain ⟨nn, hnn⟩ : ∃ nn, nn = t.leaves := ⟨_, rfl⟩
    have HNN := Lib.hid hnn
    have HW := Lib.hid hw
    have hty : (t = .leaf ∧ ty = 78) ∨ (∃ c ks, t = .node c ks ∧ ty = 88) := by
      cases t with
      | leaf => have := HR.out; rw [RepI] at this; exact .inl ⟨rfl, this⟩
      | node c ks => have := HR.out; rw [RepI] at this; exact .inr ⟨c, ks, rfl, this.1⟩
    have HLF : Hid (∀ c ks, t = .node c ks → Calls Try.prog 79 #[.pointer (some ta)] w1 (fun e w' => e = .returned (.int .i64 ((nn : Nat) : Int)) ∧ w1 = w')) := Lib.hid (by
      intro c ks ht
      subst ht
      have hq := HNN.out
      rw [T.leaves] at hq hlv
      have hwk := hw
      rw [T.wf] at hwk
      exact (nodeLeaves_any _ c ks _ ta w1 _ (Nat.le_refl _) hwk.2.2.2.2 (by omega) HR.out).mono (fun e w' h => ⟨by rw [h.1, hq]; simp, h.2⟩))
    have HLG : Hid (t = .leaf → Calls Try.prog 72 #[.pointer (some ta)] w1 (fun e w' => e = .returned (.int .i64 ((nn : Nat) : Int)) ∧ w1 = w')) := Lib.hid (by
      intro ht
      exact (leafLeaves_any ta w1).mono (fun e w' h => ⟨by rw [h.1, HNN.out, ht, T.leaves]; rfl, h.2⟩))
    have hnn1 : 1 ≤ nn := by rw [hnn]; exact leaves_pos _ hw
    have hnb : nn ≤ 12 := by omega
    have HTN := Lib.hid (And.intro hlv hnd)
    clear hnn hlv hnd hw
    rcases hty with ⟨ht, rfl⟩ | ⟨c, ks, ht, rfl⟩
    all_goals
      first
        | (have HK := Lib.hid (HLG.out ht))
        | (have HK := Lib.hid (HLF.out c ks ht))
      clear ht
      by_cases hlen : ps.length = nn
      · have HLEN := Lib.hid hlen
        obtain ⟨pl, hpl⟩ : ∃ pl, pl = ps.length := ⟨_, rfl⟩
        have HPL := Lib.hid hpl
        rw [← hpl] at hlen hn
        rw [← hpl]
        clear hpl
        subst hlen
        go_wp2_with fail
        refine HK.out.mono ?_
        rintro e w2 ⟨rfl, rfl⟩
        go_wp2_with (at_make; refine wpList_make_full _ rfl _ _ 61 rfl w1.heap.size 44 i0 .nilIface 1 Try.underlying61 hi0 hiz hzs .i64 .i64 _ _ pl rfl rfl rfl rfl ?c1 ?c2 (Nat.le_refl _) ?_)
        case c1 => rw [hzb]; omega
        case c2 => unfold maxLen; omega
        intro w3 hown hg
        have rel0 : WRel w1.heap.size w1.heap.size pl [] w3 := by
          rcases hown.2 with ⟨e, _⟩ | ⟨G, cap', cur, e, _, hG, hnc, hcm, hcs, htake⟩
          · simp at e
          · simp only [Value.slice.injEq, Option.some.injEq, Addr.mk.injEq] at e
            obtain ⟨⟨rfl, _⟩, _, rfl⟩ := e
            exact ⟨cur, hG, by omega, fun j h => by simp at h, by simp [T.wfL]⟩
        have R0 := Lib.hid rel0
        have HB3 : Hid (Below w1.heap.size w1 w3) := Lib.hid ((Below.refl _ _).grown hg (by omega) (fun k e => by cases e))
        clear rel0 hown hg
        go_wp2_with fail
        go_loopw [32] (fun iv wr => ∃ (k : Nat) (us : List T), k ≤ pl ∧ us.length = k ∧ iv = .int .i64 k ∧ WRel w1.heap.size w1.heap.size pl us wr ∧ (∀ j (h : j < ps.length) (h' : j < us.length), parse ps[j] = some us[j]) ∧ Below w1.heap.size w1 wr) (fun iv _ => pl - (intOf iv).toNat)
        case atStart => exact ⟨0, [], Nat.zero_le _, rfl, rfl, R0.out, fun j _ h => by simp at h, HB3.out⟩
        case round =>
          obtain ⟨k, us, hk, hul, rfl, hrel, hj, hBr⟩ := hrel
          have HJ := Lib.hid hj
          have HREL := Lib.hid hrel
          have HUL := Lib.hid hul
          have HBR := Lib.hid hBr
          have HBW := Lib.hid (below_step HB.out hBr)
          have hrsz := hBr.size
          clear hj hrel hul hBr
          by_cases hlt : k < pl
          · have hltp : k < ps.length := by rw [← HPL.out]; exact hlt
            obtain ⟨g, rfl, hcc⟩ := (HL.out.below HBW.out) k hltp
            have hszk : (⟨(ps[k]).toArray⟩ : ByteArray).size ≤ 140737488351232 := by
              have := HZ.out k hltp
              have e : (⟨(ps[k]).toArray⟩ : ByteArray).size = (ps[k]).length := by simp [ByteArray.size]
              omega
            have HP := Lib.hid (readTree_any ⟨(ps[k]).toArray⟩ wr hszk)
            clear hszk
            go_wp2_with fail
            refine HP.out.mono ?_
            rintro e w4 ⟨hB4, ⟨hno, rfl⟩ | ⟨u, uty, ua, hyes4, rfl, hrep4⟩⟩
            · have HNO := Lib.hid (wholeOf_bad (s := s.data.toList) hltp (by simpa using hno))
              have HB4 := Lib.hid hB4
              clear hno hB4
              go_wp2_with fail
              go_ret2
              exact ⟨by rw [HNO.out]; rfl, below_step HBW.out HB4.out⟩
            · have huw := (parse_some hyes4).1
              have HY : Hid (parse (ps[k]) = some u) := Lib.hid (by simpa using hyes4)
              have NX := HREL.out.next hB4 hrsz hrep4 huw (by have := HUL.out; omega)
              rw [HUL.out] at NX
              have NXX := Lib.hid NX
              obtain ⟨cur, hcur, hcs, _, _⟩ := HREL.out
              have HCS := Lib.hid hcs
              have hc4 : w4.heap[w1.heap.size]? = some (.cells cur 44 (0, 0)) := (hB4.block _ (Array.getElem?_eq_some_iff.1 hcur).1).trans hcur
              have hck : w4.cell? ⟨w1.heap.size, k, none⟩ = some (cur[k]'(by rw [HCS.out]; exact hlt)) := by rw [Lib.cell_of_heap hc4]; simp
              have hff : w4.frozen? ⟨w1.heap.size, k, none⟩ = false := Lib.frozen_of_heap hc4 k
              have HB4 : Hid (Below w1.heap.size w1 (w4.setCell ⟨w1.heap.size, k, none⟩ (.iface uty (.pointer (some ua))))) := Lib.hid ((HBR.out.trans (hB4.mono hrsz)).setCell (by simp) _)
              clear hyes4 hrep4 huw hB4 NX hcur hcs hc4
              go_wp2_with fail
              go_roundw
              case rel => exact ⟨k + 1, us ++ [u], by omega, by rw [List.length_append, HUL.out]; rfl, by go_num, NXX.out, fun j h h' => by
                  by_cases e : j < us.length
                  · rw [List.getElem_append_left e]; exact HJ.out j h e
                  · have hjk : j = k := by have := HUL.out; simp at h'; omega
                    subst hjk
                    rw [List.getElem_append_right (by omega)]
                    simpa using HY.out, HB4.out⟩
              case measure => simp [intOf]; omega
          · have hkk : k = pl := by omega
            have hupl : us.length = ps.length := by have := HUL.out; have := HPL.out; omega
            have HSZU := Lib.hid (sizes_of hupl HJ.out)
            have HV := Lib.hid (wholeOf_yes HN.out (by rw [HLEN.out, HNN.out]) hupl HJ.out)
            obtain ⟨cur, hcur, hcs, hjc, hwfu⟩ := HREL.out
            have HUW := Lib.hid hwfu
            have HUS : RepIL wr (fun b => b < wr.heap.size) us w1.heap.size 0 := RepIL.of_get fun j hj => by
              obtain ⟨uty, ua, e1, e2⟩ := hjc j hj
              refine ⟨uty, ua, ?_, e2.keep (fun _ _ _ h => h) (fun b _ h => h) (wfL_get hwfu j hj)⟩
              rw [Nat.zero_add, Lib.cell_of_heap hcur]; exact e1
            have hgl : w1.heap.size < wr.heap.size := (Array.getElem?_eq_some_iff.1 hcur).1
            have hul' : us.length = pl := by have := HUL.out; omega
            have HG0 := graftAll_any _ t us _ ta w1.heap.size 0 pl wr (fun b => b < wr.heap.size) (Nat.le_refl _) HW.out hwfu (by have := HNN.out; have := HLEN.out; omega) (by omega) (by omega) (fun b h => h) hgl ((HR.out.below HW.out HBR.out).keep (fun _ _ _ h => h) (fun b h hb => hb) HW.out) HUS
            rw [hul'] at HG0
            have HG := Lib.hid HG0
            have HFW := Lib.hid (fill_wf t us HW.out hwfu)
            have HFL := Lib.hid (fill_len (us := us) HTN.out.1 HTN.out.2 HSZU.out)
            clear HG0 HUS hcur hcs hjc hwfu hgl hul' hkk hupl
            go_wp2_with fail
            refine HG.out.mono ?_
            rintro e w5 ⟨hB5, ty5, a5, rfl, hr5⟩
            have HBT := Lib.hid (boundedText_any _ ty5 a5 w5 _ HFW.out (by have := HFL.out; omega) (by have := HFL.out; omega) HFL.out.2.2 hr5)
            have HB5 := Lib.hid hB5
            obtain ⟨x, bb, hx⟩ := doneV_shape (t.fill us)
            rw [hx] at HBT
            have HX := Lib.hid hx
            clear hr5 hB5 hx
            go_wp2_with fail
            refine HBT.out.mono ?_
            rintro e w6 ⟨rfl, hB6⟩
            go_wp2_with fail
            go_ret2
            exact ⟨by rw [HV.out, graftV, HX.out]; rfl, below_step (below_step HBW.out HB5.out) hB6⟩
      · have HNO := Lib.hid (wholeOf_len (ps := ps) HN.out (by rw [← HNN.out]; exact hlen))
        have hne : ((ps.length : Int) != (nn : Int)) = true := by simp; omega
        clear hlen
        go_wp2_with fail
        refine HK.out.mono ?_
        rintro e w2 ⟨rfl, rfl⟩
        go_wp2_with fail
        go_ret2
        exact ⟨by rw [HNO.out]; rfl, HB.out⟩
end Go.Proofs.Ytfflgjidapclkaa
end
section
/- TreeWhole: the law. -/
namespace Go.Proofs.Ytfflgjidapclkaa
open Go.RowKit

end Go.Proofs.Ytfflgjidapclkaa
end
