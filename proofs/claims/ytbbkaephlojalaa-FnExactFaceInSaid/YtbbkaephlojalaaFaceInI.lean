/- 'FaceIn' by the program. -/
import Derived.Test.YtbbkaephlojalaaFaceR
namespace Go.Proofs.Ytbbkaephlojalaa
open Go.RowKit

/-- Is a face in another one, as a Boolean. -/
def inFB (s t : T) : Bool := decide (s.leaves = t.leaves) && (t.runs 0).all fun r => decide (r ∈ s.runs 0)
theorem inFB_iff (s t : T) : inFB s t = true ↔ inF s t := by
  simp [inFB, inF, List.all_eq_true]
theorem inFB_false {s t : T} (h : ¬ inF s t) : inFB s t = false := by
  cases hb : inFB s t with
  | false => rfl
  | true => exact absurd ((inFB_iff s t).1 hb) h
def faceInB : Option T → Option T → Bool
  | some s, some t => inFB s t
  | _, _ => false

set_option maxRecDepth 100000 in
set_option maxHeartbeats 8000000 in
theorem iFaceIn_any (x y : ByteArray) (w : World) (hx : x.size ≤ 140737488351232) (hy : y.size ≤ 140737488351232) :
    Calls Try.prog 13 #[.string x, .string y] w (Ans (.bool (faceInB (faceOf x.data.toList) (faceOf y.data.toList))) w) := by
  have HPX := Lib.hid (readFace_any x w hx)
  have HPY := Lib.hid (fun W => readFace_any y W hy)
  go_enter Try.func13, Try.ntmps13
  go_wp2_with fail
  refine HPX.out.mono ?_
  rintro e w1 ⟨hB1, ⟨hno, v, rfl⟩ | ⟨s, tys, asx, hyes, rfl, hreps⟩⟩
  · have HN := Lib.hid hno
    clear hno
    go_wp2_with fail
    go_ret
    exact ⟨by rw [HN.out]; rfl, hB1⟩
  · have HYS := Lib.hid hyes
    have HRS1 := Lib.hid hreps
    have HB1 := Lib.hid hB1
    clear hyes hreps hB1
    go_wp2_with fail
    refine (HPY.out w1).mono ?_
    rintro e w2 ⟨hB2, ⟨hno, v, rfl⟩ | ⟨t, tyt, at', hyes, rfl, hrept⟩⟩
    · have HN := Lib.hid hno
      clear hno
      go_wp2_with fail
      go_ret
      exact ⟨by rw [HYS.out, HN.out]; rfl, below_step HB1.out hB2⟩
    · have HANS : Hid (faceInB (faceOf x.data.toList) (faceOf y.data.toList) = inFB s t) := Lib.hid (by rw [HYS.out, hyes]; rfl)
      have hps := faceOf_some.1 HYS.out
      have hpt := faceOf_some.1 hyes
      have hqs := parse_some hps.1
      have hqt := parse_some hpt.1
      have HRs0 := Lib.hid (HRS1.out.below hqs.1 hB2)
      have HRt0 := Lib.hid hrept
      have HWs := Lib.hid hqs.1
      have HWt := Lib.hid hqt.1
      have HLBs : Hid (s.leaves < 1000000) := Lib.hid (by have := hqs.2.2.1; omega)
      have HLBt : Hid (t.leaves < 1000000) := Lib.hid (by have := hqt.2.2.1; omega)
      obtain ⟨Ls, hLs⟩ : ∃ L : Nat, L = s.leaves := ⟨_, rfl⟩
      obtain ⟨Lt, hLt⟩ : ∃ L : Nat, L = t.leaves := ⟨_, rfl⟩
      have HLs0 := Lib.hid hLs
      have HLt0 := Lib.hid hLt
      have HLs' := Lib.hid hLs
      have HLt' := Lib.hid hLt
      have hls := runs_length s 0
      have hlt := runs_length t 0
      obtain ⟨N, hN⟩ : ∃ N : Nat, N = (s.runs 0).length := ⟨_, rfl⟩
      obtain ⟨M, hM⟩ : ∃ M : Nat, M = (t.runs 0).length := ⟨_, rfl⟩
      have HN := Lib.hid hN
      have HM := Lib.hid hM
      have hNb : N ≤ 16 := by have := hqs.2.2.2; omega
      have hMb : M ≤ 16 := by have := hqt.2.2.2; omega
      have HRs : Hid (∀ V, Below w2.heap.size w2 V → Calls Try.prog 27 #[.iface tys (.pointer (some asx)), .int .i64 0] V (fun e w' => Below V.heap.size V w' ∧ ∃ g cap, e = .returned (.slice (some ⟨g, 0, none⟩) N cap) ∧ w'.ownsRow V.heap.size 49 2 (.slice (some ⟨g, 0, none⟩) N cap) N (runCells (s.runs 0)))) := Lib.hid (fun V hb => by
        rw [HN.out]
        exact leafRuns_any _ s tys asx 0 0 V _ (Nat.le_refl _) HWs.out rfl (by have := hqs.2.2.1; omega) (by have := hqs.2.2.2; omega) (HRs0.out.below HWs.out hb))
      have HRt : Hid (∀ V, Below w2.heap.size w2 V → Calls Try.prog 27 #[.iface tyt (.pointer (some at')), .int .i64 0] V (fun e w' => Below V.heap.size V w' ∧ ∃ g cap, e = .returned (.slice (some ⟨g, 0, none⟩) M cap) ∧ w'.ownsRow V.heap.size 49 2 (.slice (some ⟨g, 0, none⟩) M cap) M (runCells (t.runs 0)))) := Lib.hid (fun V hb => by
        rw [HM.out]
        exact leafRuns_any _ t tyt at' 0 0 V _ (Nat.le_refl _) HWt.out rfl (by have := hqt.2.2.1; omega) (by have := hqt.2.2.2; omega) (HRt0.out.below HWt.out hb))
      have HB2 := Lib.hid (below_step HB1.out hB2)
      have hks := HRs0.out.kind
      have hkt := HRt0.out.kind
      clear hyes hrept hps hpt hqs hqt hLs hLt hls hlt hN hM hB2
      rcases hks with ⟨es, rfl⟩ | ⟨cs, ks, es, rfl⟩
      · have HLs : Hid (∀ V, Below w2.heap.size w2 V → Calls Try.prog 80 #[.pointer (some asx)] V fun e w' => e = .returned (.int .i64 (Ls : Int)) ∧ V = w') := Lib.hid (fun V _ => by
          have := leafLeaves_any asx V
          rw [HLs0.out, es, T.leaves]; exact this)
        rcases hkt with ⟨et, rfl⟩ | ⟨ct, kt, et, rfl⟩
        · have HLt : Hid (∀ V, Below w2.heap.size w2 V → Calls Try.prog 80 #[.pointer (some at')] V fun e w' => e = .returned (.int .i64 (Lt : Int)) ∧ V = w') := Lib.hid (fun V _ => by
            have := leafLeaves_any at' V
            rw [HLt0.out, et, T.leaves]; exact this)
          clear es et
          by_cases hLL : Ls = Lt
          · have g1 : ((Ls : Int) != (Lt : Int)) = false := by simp; omega
            have HLL := Lib.hid hLL
            clear hLL
            go_wp2_with fail
            refine (HLs.out w2 (Below.refl _ _)).mono ?_
            rintro e w' ⟨rfl, rfl⟩
            go_wp2_with fail
            refine (HLt.out w2 (Below.refl _ _)).mono ?_
            rintro e w' ⟨rfl, rfl⟩
            go_wp2_with fail
            refine (HRs.out w2 (Below.refl _ _)).mono ?_
            rintro e w3 ⟨hb3, gs, cs, rfl, hown3⟩
            have HGS := Lib.hid (RunG.of_owns hown3)
            have HB3 := Lib.hid hb3
            clear hown3 hb3
            go_wp2_with fail
            refine (HRt.out w3 HB3.out).mono ?_
            rintro e w4 ⟨hb4, gt, ct, rfl, hown4⟩
            have HGT := Lib.hid (RunG.of_owns hown4)
            have HGS4 := Lib.hid (HGS.out.below hb4)
            have HB4 := Lib.hid (below_step HB2.out (below_step HB3.out hb4))
            clear hown4 hb4
            go_wp2_with fail
            go_loopw [37] (fun iv wr => ∃ k : Nat, k ≤ M ∧ iv = .int .i64 k ∧ Below w4.heap.size w4 wr ∧ ∀ j (h : j < (t.runs 0).length), j < k → (t.runs 0)[j] ∈ s.runs 0) (fun iv _ => M - (intOf iv).toNat)
            case atStart => exact ⟨0, Nat.zero_le _, rfl, Below.refl _ _, fun j _ hj => by omega⟩
            case round =>
              obtain ⟨k, hk, rfl, hB, hall⟩ := hrel
              have HALL := Lib.hid hall
              have HB := Lib.hid hB
              clear hall hB
              by_cases hlt : k < M
              · have hltm : k < (t.runs 0).length := by rw [← HM.out]; exact hlt
                obtain ⟨c0, c1⟩ := (HGT.out.below HB.out) k hltm
                obtain ⟨x, hx⟩ : ∃ x, x = (t.runs 0)[k] := ⟨_, rfl⟩
                rw [← hx] at c0 c1
                have HX := Lib.hid hx
                have HCO := Lib.hid (containsRun_any (s.runs 0) x N HN.out gs cs (wr.alloc (.cells #[.int .i64 (x.1 : Int), .int .i64 (x.2 : Int)] 49)) (by omega) (HGS4.out.below (HB.out.alloc HB.out.size _)))
                have k0 : (0 : Int) ≤ (k : Int) := by omega
                clear hx
                by_cases hin : x ∈ s.runs 0
                · have HC : Hid (Calls Try.prog 28 #[.slice (some ⟨gs, 0, none⟩) N cs, .agg #[.int .i64 (x.1 : Int), .int .i64 (x.2 : Int)]] (wr.alloc (.cells #[.int .i64 (x.1 : Int), .int .i64 (x.2 : Int)] 49)) (Ans (.bool true) (wr.alloc (.cells #[.int .i64 (x.1 : Int), .int .i64 (x.2 : Int)] 49)))) := Lib.hid (by
                    have := HCO.out
                    rw [decide_eq_true hin] at this
                    exact this)
                  have HIN := Lib.hid hin
                  clear hin
                  go_wp2_with fail
                  refine HC.out.mono ?_
                  rintro e w5 ⟨rfl, hb5⟩
                  have HB5 := Lib.hid (below_step (HB.out.alloc HB.out.size _) hb5)
                  clear hb5
                  go_wp2_with fail
                  go_roundw
                  case rel => exact ⟨k + 1, by omega, by go_num, HB5.out, fun j h hj => by
                      by_cases e : j = k
                      · subst e; rw [← HX.out]; exact HIN.out
                      · exact HALL.out j h (by omega)⟩
                  case measure => simp [intOf]; omega
                · have HC : Hid (Calls Try.prog 28 #[.slice (some ⟨gs, 0, none⟩) N cs, .agg #[.int .i64 (x.1 : Int), .int .i64 (x.2 : Int)]] (wr.alloc (.cells #[.int .i64 (x.1 : Int), .int .i64 (x.2 : Int)] 49)) (Ans (.bool false) (wr.alloc (.cells #[.int .i64 (x.1 : Int), .int .i64 (x.2 : Int)] 49)))) := Lib.hid (by
                    have := HCO.out
                    rw [decide_eq_false hin] at this
                    exact this)
                  have HNIN : Hid (inFB s t = false) := Lib.hid (inFB_false fun h => hin (by rw [HX.out]; exact h.2 _ (List.getElem_mem hltm)))
                  clear hin
                  go_wp2_with fail
                  refine HC.out.mono ?_
                  rintro e w5 ⟨rfl, hb5⟩
                  have HB5 := Lib.hid (below_step HB4.out (below_step (HB.out.alloc HB.out.size _) hb5))
                  clear hb5
                  go_wp2_with fail
                  go_ret
                  exact ⟨by rw [HANS.out, HNIN.out]; rfl, HB5.out⟩
              · have hkk : k = M := by omega
                have HE : Hid (inFB s t = true) := Lib.hid ((inFB_iff s t).2 ⟨by rw [← HLs'.out, ← HLt'.out]; exact HLL.out, fun r hr => by
                  obtain ⟨j, hj, e⟩ := List.getElem_of_mem hr
                  rw [← e]
                  exact HALL.out j hj (by rw [hkk, HM.out]; exact hj)⟩)
                clear hkk
                go_wp2_with fail
                go_ret
                exact ⟨by rw [HANS.out, HE.out]; rfl, below_step HB4.out HB.out⟩
          · have g1 : ((Ls : Int) != (Lt : Int)) = true := by simp; omega
            have HE : Hid (inFB s t = false) := Lib.hid (inFB_false fun h => hLL (by rw [HLs'.out, HLt'.out]; exact h.1))
            clear hLL
            go_wp2_with fail
            refine (HLs.out w2 (Below.refl _ _)).mono ?_
            rintro e w' ⟨rfl, rfl⟩
            go_wp2_with fail
            refine (HLt.out w2 (Below.refl _ _)).mono ?_
            rintro e w' ⟨rfl, rfl⟩
            go_wp2_with fail
            go_ret
            exact ⟨by rw [HANS.out, HE.out]; rfl, HB2.out⟩
        · have HLt : Hid (∀ V, Below w2.heap.size w2 V → Calls Try.prog 43 #[.pointer (some at')] V fun e w' => e = .returned (.int .i64 (Lt : Int)) ∧ V = w') := Lib.hid (fun V hb => by
            have hr := HRt0.out
            have hw := HWt.out
            have hl := HLt0.out
            have hlb := HLBt.out
            rw [et] at hr hw hl hlb
            have hw5 := hw
            rw [T.wf] at hw5
            rw [T.leaves] at hl hlb
            have := nodeLeaves_any _ _ _ _ at' V _ (Nat.le_refl _) hw5.2.2.2.2 hlb (hr.below hw hb)
            rw [hl]
            rw [Nat.zero_add] at this
            exact this)
          clear es et
          by_cases hLL : Ls = Lt
          · have g1 : ((Ls : Int) != (Lt : Int)) = false := by simp; omega
            have HLL := Lib.hid hLL
            clear hLL
            go_wp2_with fail
            refine (HLs.out w2 (Below.refl _ _)).mono ?_
            rintro e w' ⟨rfl, rfl⟩
            go_wp2_with fail
            refine (HLt.out w2 (Below.refl _ _)).mono ?_
            rintro e w' ⟨rfl, rfl⟩
            go_wp2_with fail
            refine (HRs.out w2 (Below.refl _ _)).mono ?_
            rintro e w3 ⟨hb3, gs, cs, rfl, hown3⟩
            have HGS := Lib.hid (RunG.of_owns hown3)
            have HB3 := Lib.hid hb3
            clear hown3 hb3
            go_wp2_with fail
            refine (HRt.out w3 HB3.out).mono ?_
            rintro e w4 ⟨hb4, gt, ct, rfl, hown4⟩
            have HGT := Lib.hid (RunG.of_owns hown4)
            have HGS4 := Lib.hid (HGS.out.below hb4)
            have HB4 := Lib.hid (below_step HB2.out (below_step HB3.out hb4))
            clear hown4 hb4
            go_wp2_with fail
            go_loopw [37] (fun iv wr => ∃ k : Nat, k ≤ M ∧ iv = .int .i64 k ∧ Below w4.heap.size w4 wr ∧ ∀ j (h : j < (t.runs 0).length), j < k → (t.runs 0)[j] ∈ s.runs 0) (fun iv _ => M - (intOf iv).toNat)
            case atStart => exact ⟨0, Nat.zero_le _, rfl, Below.refl _ _, fun j _ hj => by omega⟩
            case round =>
              obtain ⟨k, hk, rfl, hB, hall⟩ := hrel
              have HALL := Lib.hid hall
              have HB := Lib.hid hB
              clear hall hB
              by_cases hlt : k < M
              · have hltm : k < (t.runs 0).length := by rw [← HM.out]; exact hlt
                obtain ⟨c0, c1⟩ := (HGT.out.below HB.out) k hltm
                obtain ⟨x, hx⟩ : ∃ x, x = (t.runs 0)[k] := ⟨_, rfl⟩
                rw [← hx] at c0 c1
                have HX := Lib.hid hx
                have HCO := Lib.hid (containsRun_any (s.runs 0) x N HN.out gs cs (wr.alloc (.cells #[.int .i64 (x.1 : Int), .int .i64 (x.2 : Int)] 49)) (by omega) (HGS4.out.below (HB.out.alloc HB.out.size _)))
                have k0 : (0 : Int) ≤ (k : Int) := by omega
                clear hx
                by_cases hin : x ∈ s.runs 0
                · have HC : Hid (Calls Try.prog 28 #[.slice (some ⟨gs, 0, none⟩) N cs, .agg #[.int .i64 (x.1 : Int), .int .i64 (x.2 : Int)]] (wr.alloc (.cells #[.int .i64 (x.1 : Int), .int .i64 (x.2 : Int)] 49)) (Ans (.bool true) (wr.alloc (.cells #[.int .i64 (x.1 : Int), .int .i64 (x.2 : Int)] 49)))) := Lib.hid (by
                    have := HCO.out
                    rw [decide_eq_true hin] at this
                    exact this)
                  have HIN := Lib.hid hin
                  clear hin
                  go_wp2_with fail
                  refine HC.out.mono ?_
                  rintro e w5 ⟨rfl, hb5⟩
                  have HB5 := Lib.hid (below_step (HB.out.alloc HB.out.size _) hb5)
                  clear hb5
                  go_wp2_with fail
                  go_roundw
                  case rel => exact ⟨k + 1, by omega, by go_num, HB5.out, fun j h hj => by
                      by_cases e : j = k
                      · subst e; rw [← HX.out]; exact HIN.out
                      · exact HALL.out j h (by omega)⟩
                  case measure => simp [intOf]; omega
                · have HC : Hid (Calls Try.prog 28 #[.slice (some ⟨gs, 0, none⟩) N cs, .agg #[.int .i64 (x.1 : Int), .int .i64 (x.2 : Int)]] (wr.alloc (.cells #[.int .i64 (x.1 : Int), .int .i64 (x.2 : Int)] 49)) (Ans (.bool false) (wr.alloc (.cells #[.int .i64 (x.1 : Int), .int .i64 (x.2 : Int)] 49)))) := Lib.hid (by
                    have := HCO.out
                    rw [decide_eq_false hin] at this
                    exact this)
                  have HNIN : Hid (inFB s t = false) := Lib.hid (inFB_false fun h => hin (by rw [HX.out]; exact h.2 _ (List.getElem_mem hltm)))
                  clear hin
                  go_wp2_with fail
                  refine HC.out.mono ?_
                  rintro e w5 ⟨rfl, hb5⟩
                  have HB5 := Lib.hid (below_step HB4.out (below_step (HB.out.alloc HB.out.size _) hb5))
                  clear hb5
                  go_wp2_with fail
                  go_ret
                  exact ⟨by rw [HANS.out, HNIN.out]; rfl, HB5.out⟩
              · have hkk : k = M := by omega
                have HE : Hid (inFB s t = true) := Lib.hid ((inFB_iff s t).2 ⟨by rw [← HLs'.out, ← HLt'.out]; exact HLL.out, fun r hr => by
                  obtain ⟨j, hj, e⟩ := List.getElem_of_mem hr
                  rw [← e]
                  exact HALL.out j hj (by rw [hkk, HM.out]; exact hj)⟩)
                clear hkk
                go_wp2_with fail
                go_ret
                exact ⟨by rw [HANS.out, HE.out]; rfl, below_step HB4.out HB.out⟩
          · have g1 : ((Ls : Int) != (Lt : Int)) = true := by simp; omega
            have HE : Hid (inFB s t = false) := Lib.hid (inFB_false fun h => hLL (by rw [HLs'.out, HLt'.out]; exact h.1))
            clear hLL
            go_wp2_with fail
            refine (HLs.out w2 (Below.refl _ _)).mono ?_
            rintro e w' ⟨rfl, rfl⟩
            go_wp2_with fail
            refine (HLt.out w2 (Below.refl _ _)).mono ?_
            rintro e w' ⟨rfl, rfl⟩
            go_wp2_with fail
            go_ret
            exact ⟨by rw [HANS.out, HE.out]; rfl, HB2.out⟩
      · have HLs : Hid (∀ V, Below w2.heap.size w2 V → Calls Try.prog 43 #[.pointer (some asx)] V fun e w' => e = .returned (.int .i64 (Ls : Int)) ∧ V = w') := Lib.hid (fun V hb => by
          have hr := HRs0.out
          have hw := HWs.out
          have hl := HLs0.out
          have hlb := HLBs.out
          rw [es] at hr hw hl hlb
          have hw5 := hw
          rw [T.wf] at hw5
          rw [T.leaves] at hl hlb
          have := nodeLeaves_any _ _ _ _ asx V _ (Nat.le_refl _) hw5.2.2.2.2 hlb (hr.below hw hb)
          rw [hl]
          rw [Nat.zero_add] at this
          exact this)
        rcases hkt with ⟨et, rfl⟩ | ⟨ct, kt, et, rfl⟩
        · have HLt : Hid (∀ V, Below w2.heap.size w2 V → Calls Try.prog 80 #[.pointer (some at')] V fun e w' => e = .returned (.int .i64 (Lt : Int)) ∧ V = w') := Lib.hid (fun V _ => by
            have := leafLeaves_any at' V
            rw [HLt0.out, et, T.leaves]; exact this)
          clear es et
          by_cases hLL : Ls = Lt
          · have g1 : ((Ls : Int) != (Lt : Int)) = false := by simp; omega
            have HLL := Lib.hid hLL
            clear hLL
            go_wp2_with fail
            refine (HLs.out w2 (Below.refl _ _)).mono ?_
            rintro e w' ⟨rfl, rfl⟩
            go_wp2_with fail
            refine (HLt.out w2 (Below.refl _ _)).mono ?_
            rintro e w' ⟨rfl, rfl⟩
            go_wp2_with fail
            refine (HRs.out w2 (Below.refl _ _)).mono ?_
            rintro e w3 ⟨hb3, gs, cs, rfl, hown3⟩
            have HGS := Lib.hid (RunG.of_owns hown3)
            have HB3 := Lib.hid hb3
            clear hown3 hb3
            go_wp2_with fail
            refine (HRt.out w3 HB3.out).mono ?_
            rintro e w4 ⟨hb4, gt, ct, rfl, hown4⟩
            have HGT := Lib.hid (RunG.of_owns hown4)
            have HGS4 := Lib.hid (HGS.out.below hb4)
            have HB4 := Lib.hid (below_step HB2.out (below_step HB3.out hb4))
            clear hown4 hb4
            go_wp2_with fail
            go_loopw [37] (fun iv wr => ∃ k : Nat, k ≤ M ∧ iv = .int .i64 k ∧ Below w4.heap.size w4 wr ∧ ∀ j (h : j < (t.runs 0).length), j < k → (t.runs 0)[j] ∈ s.runs 0) (fun iv _ => M - (intOf iv).toNat)
            case atStart => exact ⟨0, Nat.zero_le _, rfl, Below.refl _ _, fun j _ hj => by omega⟩
            case round =>
              obtain ⟨k, hk, rfl, hB, hall⟩ := hrel
              have HALL := Lib.hid hall
              have HB := Lib.hid hB
              clear hall hB
              by_cases hlt : k < M
              · have hltm : k < (t.runs 0).length := by rw [← HM.out]; exact hlt
                obtain ⟨c0, c1⟩ := (HGT.out.below HB.out) k hltm
                obtain ⟨x, hx⟩ : ∃ x, x = (t.runs 0)[k] := ⟨_, rfl⟩
                rw [← hx] at c0 c1
                have HX := Lib.hid hx
                have HCO := Lib.hid (containsRun_any (s.runs 0) x N HN.out gs cs (wr.alloc (.cells #[.int .i64 (x.1 : Int), .int .i64 (x.2 : Int)] 49)) (by omega) (HGS4.out.below (HB.out.alloc HB.out.size _)))
                have k0 : (0 : Int) ≤ (k : Int) := by omega
                clear hx
                by_cases hin : x ∈ s.runs 0
                · have HC : Hid (Calls Try.prog 28 #[.slice (some ⟨gs, 0, none⟩) N cs, .agg #[.int .i64 (x.1 : Int), .int .i64 (x.2 : Int)]] (wr.alloc (.cells #[.int .i64 (x.1 : Int), .int .i64 (x.2 : Int)] 49)) (Ans (.bool true) (wr.alloc (.cells #[.int .i64 (x.1 : Int), .int .i64 (x.2 : Int)] 49)))) := Lib.hid (by
                    have := HCO.out
                    rw [decide_eq_true hin] at this
                    exact this)
                  have HIN := Lib.hid hin
                  clear hin
                  go_wp2_with fail
                  refine HC.out.mono ?_
                  rintro e w5 ⟨rfl, hb5⟩
                  have HB5 := Lib.hid (below_step (HB.out.alloc HB.out.size _) hb5)
                  clear hb5
                  go_wp2_with fail
                  go_roundw
                  case rel => exact ⟨k + 1, by omega, by go_num, HB5.out, fun j h hj => by
                      by_cases e : j = k
                      · subst e; rw [← HX.out]; exact HIN.out
                      · exact HALL.out j h (by omega)⟩
                  case measure => simp [intOf]; omega
                · have HC : Hid (Calls Try.prog 28 #[.slice (some ⟨gs, 0, none⟩) N cs, .agg #[.int .i64 (x.1 : Int), .int .i64 (x.2 : Int)]] (wr.alloc (.cells #[.int .i64 (x.1 : Int), .int .i64 (x.2 : Int)] 49)) (Ans (.bool false) (wr.alloc (.cells #[.int .i64 (x.1 : Int), .int .i64 (x.2 : Int)] 49)))) := Lib.hid (by
                    have := HCO.out
                    rw [decide_eq_false hin] at this
                    exact this)
                  have HNIN : Hid (inFB s t = false) := Lib.hid (inFB_false fun h => hin (by rw [HX.out]; exact h.2 _ (List.getElem_mem hltm)))
                  clear hin
                  go_wp2_with fail
                  refine HC.out.mono ?_
                  rintro e w5 ⟨rfl, hb5⟩
                  have HB5 := Lib.hid (below_step HB4.out (below_step (HB.out.alloc HB.out.size _) hb5))
                  clear hb5
                  go_wp2_with fail
                  go_ret
                  exact ⟨by rw [HANS.out, HNIN.out]; rfl, HB5.out⟩
              · have hkk : k = M := by omega
                have HE : Hid (inFB s t = true) := Lib.hid ((inFB_iff s t).2 ⟨by rw [← HLs'.out, ← HLt'.out]; exact HLL.out, fun r hr => by
                  obtain ⟨j, hj, e⟩ := List.getElem_of_mem hr
                  rw [← e]
                  exact HALL.out j hj (by rw [hkk, HM.out]; exact hj)⟩)
                clear hkk
                go_wp2_with fail
                go_ret
                exact ⟨by rw [HANS.out, HE.out]; rfl, below_step HB4.out HB.out⟩
          · have g1 : ((Ls : Int) != (Lt : Int)) = true := by simp; omega
            have HE : Hid (inFB s t = false) := Lib.hid (inFB_false fun h => hLL (by rw [HLs'.out, HLt'.out]; exact h.1))
            clear hLL
            go_wp2_with fail
            refine (HLs.out w2 (Below.refl _ _)).mono ?_
            rintro e w' ⟨rfl, rfl⟩
            go_wp2_with fail
            refine (HLt.out w2 (Below.refl _ _)).mono ?_
            rintro e w' ⟨rfl, rfl⟩
            go_wp2_with fail
            go_ret
            exact ⟨by rw [HANS.out, HE.out]; rfl, HB2.out⟩
        · have HLt : Hid (∀ V, Below w2.heap.size w2 V → Calls Try.prog 43 #[.pointer (some at')] V fun e w' => e = .returned (.int .i64 (Lt : Int)) ∧ V = w') := Lib.hid (fun V hb => by
            have hr := HRt0.out
            have hw := HWt.out
            have hl := HLt0.out
            have hlb := HLBt.out
            rw [et] at hr hw hl hlb
            have hw5 := hw
            rw [T.wf] at hw5
            rw [T.leaves] at hl hlb
            have := nodeLeaves_any _ _ _ _ at' V _ (Nat.le_refl _) hw5.2.2.2.2 hlb (hr.below hw hb)
            rw [hl]
            rw [Nat.zero_add] at this
            exact this)
          clear es et
          by_cases hLL : Ls = Lt
          · have g1 : ((Ls : Int) != (Lt : Int)) = false := by simp; omega
            have HLL := Lib.hid hLL
            clear hLL
            go_wp2_with fail
            refine (HLs.out w2 (Below.refl _ _)).mono ?_
            rintro e w' ⟨rfl, rfl⟩
            go_wp2_with fail
            refine (HLt.out w2 (Below.refl _ _)).mono ?_
            rintro e w' ⟨rfl, rfl⟩
            go_wp2_with fail
            refine (HRs.out w2 (Below.refl _ _)).mono ?_
            rintro e w3 ⟨hb3, gs, cs, rfl, hown3⟩
            have HGS := Lib.hid (RunG.of_owns hown3)
            have HB3 := Lib.hid hb3
            clear hown3 hb3
            go_wp2_with fail
            refine (HRt.out w3 HB3.out).mono ?_
            rintro e w4 ⟨hb4, gt, ct, rfl, hown4⟩
            have HGT := Lib.hid (RunG.of_owns hown4)
            have HGS4 := Lib.hid (HGS.out.below hb4)
            have HB4 := Lib.hid (below_step HB2.out (below_step HB3.out hb4))
            clear hown4 hb4
            go_wp2_with fail
            go_loopw [37] (fun iv wr => ∃ k : Nat, k ≤ M ∧ iv = .int .i64 k ∧ Below w4.heap.size w4 wr ∧ ∀ j (h : j < (t.runs 0).length), j < k → (t.runs 0)[j] ∈ s.runs 0) (fun iv _ => M - (intOf iv).toNat)
            case atStart => exact ⟨0, Nat.zero_le _, rfl, Below.refl _ _, fun j _ hj => by omega⟩
            case round =>
              obtain ⟨k, hk, rfl, hB, hall⟩ := hrel
              have HALL := Lib.hid hall
              have HB := Lib.hid hB
              clear hall hB
              by_cases hlt : k < M
              · have hltm : k < (t.runs 0).length := by rw [← HM.out]; exact hlt
                obtain ⟨c0, c1⟩ := (HGT.out.below HB.out) k hltm
                obtain ⟨x, hx⟩ : ∃ x, x = (t.runs 0)[k] := ⟨_, rfl⟩
                rw [← hx] at c0 c1
                have HX := Lib.hid hx
                have HCO := Lib.hid (containsRun_any (s.runs 0) x N HN.out gs cs (wr.alloc (.cells #[.int .i64 (x.1 : Int), .int .i64 (x.2 : Int)] 49)) (by omega) (HGS4.out.below (HB.out.alloc HB.out.size _)))
                have k0 : (0 : Int) ≤ (k : Int) := by omega
                clear hx
                by_cases hin : x ∈ s.runs 0
                · have HC : Hid (Calls Try.prog 28 #[.slice (some ⟨gs, 0, none⟩) N cs, .agg #[.int .i64 (x.1 : Int), .int .i64 (x.2 : Int)]] (wr.alloc (.cells #[.int .i64 (x.1 : Int), .int .i64 (x.2 : Int)] 49)) (Ans (.bool true) (wr.alloc (.cells #[.int .i64 (x.1 : Int), .int .i64 (x.2 : Int)] 49)))) := Lib.hid (by
                    have := HCO.out
                    rw [decide_eq_true hin] at this
                    exact this)
                  have HIN := Lib.hid hin
                  clear hin
                  go_wp2_with fail
                  refine HC.out.mono ?_
                  rintro e w5 ⟨rfl, hb5⟩
                  have HB5 := Lib.hid (below_step (HB.out.alloc HB.out.size _) hb5)
                  clear hb5
                  go_wp2_with fail
                  go_roundw
                  case rel => exact ⟨k + 1, by omega, by go_num, HB5.out, fun j h hj => by
                      by_cases e : j = k
                      · subst e; rw [← HX.out]; exact HIN.out
                      · exact HALL.out j h (by omega)⟩
                  case measure => simp [intOf]; omega
                · have HC : Hid (Calls Try.prog 28 #[.slice (some ⟨gs, 0, none⟩) N cs, .agg #[.int .i64 (x.1 : Int), .int .i64 (x.2 : Int)]] (wr.alloc (.cells #[.int .i64 (x.1 : Int), .int .i64 (x.2 : Int)] 49)) (Ans (.bool false) (wr.alloc (.cells #[.int .i64 (x.1 : Int), .int .i64 (x.2 : Int)] 49)))) := Lib.hid (by
                    have := HCO.out
                    rw [decide_eq_false hin] at this
                    exact this)
                  have HNIN : Hid (inFB s t = false) := Lib.hid (inFB_false fun h => hin (by rw [HX.out]; exact h.2 _ (List.getElem_mem hltm)))
                  clear hin
                  go_wp2_with fail
                  refine HC.out.mono ?_
                  rintro e w5 ⟨rfl, hb5⟩
                  have HB5 := Lib.hid (below_step HB4.out (below_step (HB.out.alloc HB.out.size _) hb5))
                  clear hb5
                  go_wp2_with fail
                  go_ret
                  exact ⟨by rw [HANS.out, HNIN.out]; rfl, HB5.out⟩
              · have hkk : k = M := by omega
                have HE : Hid (inFB s t = true) := Lib.hid ((inFB_iff s t).2 ⟨by rw [← HLs'.out, ← HLt'.out]; exact HLL.out, fun r hr => by
                  obtain ⟨j, hj, e⟩ := List.getElem_of_mem hr
                  rw [← e]
                  exact HALL.out j hj (by rw [hkk, HM.out]; exact hj)⟩)
                clear hkk
                go_wp2_with fail
                go_ret
                exact ⟨by rw [HANS.out, HE.out]; rfl, below_step HB4.out HB.out⟩
          · have g1 : ((Ls : Int) != (Lt : Int)) = true := by simp; omega
            have HE : Hid (inFB s t = false) := Lib.hid (inFB_false fun h => hLL (by rw [HLs'.out, HLt'.out]; exact h.1))
            clear hLL
            go_wp2_with fail
            refine (HLs.out w2 (Below.refl _ _)).mono ?_
            rintro e w' ⟨rfl, rfl⟩
            go_wp2_with fail
            refine (HLt.out w2 (Below.refl _ _)).mono ?_
            rintro e w' ⟨rfl, rfl⟩
            go_wp2_with fail
            go_ret
            exact ⟨by rw [HANS.out, HE.out]; rfl, HB2.out⟩

end Go.Proofs.Ytbbkaephlojalaa
