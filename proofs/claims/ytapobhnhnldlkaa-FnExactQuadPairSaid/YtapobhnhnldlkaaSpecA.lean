/- The model: leaves and nodes counted, small trees, a text parsed. -/
import Derived.Test.YtapobhnhnldlkaaReadB
import Derived.RegionTactic
import Derived.Deep.RegionWith
import Derived.Deep.RegionHeld3
import Derived.Deep.QuietTactic
import Derived.BigQuiet
namespace Go.Proofs.Ytapobhnhnldlkaa
open Go.RowKit

set_option maxHeartbeats 400000 in
theorem l1Leaves_any (n : Nat) : ∀ (t : T) (l s : Value) (w : World) (P : Nat → Prop), SizeOf.sizeOf t ≤ n → t.wf → t.leaves < 1000000 → RepS w P t l s →
    Calls Try.prog 44 #[.agg #[l, s]] w fun e w' => e = .returned (.int .i64 t.leaves) ∧ Below w.heap.size w w' := by
  induction n with
  | zero => intro t l s w P h; cases t <;> simp at h <;> omega
  | succ n ih =>
    intro t l s w P hn hwf hlt' hr
    cases t with
    | leaf =>
      rw [RepS] at hr
      obtain ⟨rfl, rfl⟩ := hr
      go_enter Try.func44, Try.ntmps44
      go_wp2
      go_ret
      exact ⟨by simp [T.leaves], (Below.refl _ _).alloc (Nat.le_refl _) _⟩
    | node c ks =>
      rw [RepS] at hr
      obtain ⟨rfl, g, cap, rfl, hP, hk, hL⟩ := hr
      rw [T.wf] at hwf
      have hwk := hwf.2.2.2.2
      go_enter Try.func44, Try.ntmps44
      go_wp2
      go_loopw [3, 4] (fun v i wr => ∃ k : Nat, k ≤ ks.length ∧ i = .int .i64 k ∧ v = .int .i64 (T.leavesL (ks.take k)) ∧ Below (w.heap.size+1) (w.alloc (Obj.cells #[Value.string { data := #[c] }, Value.slice (some { block := g, off := 0 }) ks.length cap] 44)) wr) (fun _ i _ => ks.length - (intOf i).toNat)
      case atStart => exact ⟨0, Nat.zero_le _, rfl, by simp [T.leavesL], Below.refl _ _⟩
      case round =>
        obtain ⟨k, hk', rfl, rfl, hB⟩ := hrel
        have c0 : wr.cell? ⟨w.heap.size, 0, none⟩ = some (Value.string { data := #[c] }) := by
          rw [hB.cell (by simp)]; simp [go_sem]
        have c1 : wr.cell? ⟨w.heap.size, 1, none⟩ = some (Value.slice (some { block := g, off := 0 }) ks.length cap) := by
          rw [hB.cell (by simp)]; simp [go_sem]
        by_cases hlt : k < ks.length
        · have hW : Below w.heap.size w wr := ((Below.refl _ _).alloc (Nat.le_refl _) _).trans (hB.mono (by omega))
          obtain ⟨l', s', d1, d2, d3⟩ := (hL.keep (Keeps.of_below hW P) (fun _ h _ => h) hP hwk).get k hlt
          simp only [Nat.zero_add] at d1 d2
          have hlv := leavesL_take hlt
          have hle := leavesL_take_le (ks := ks) (k+1)
          have hd : SizeOf.sizeOf ks[k] < SizeOf.sizeOf ks := List.sizeOf_lt_of_mem (List.getElem_mem hlt)
          simp only [T.leaves, T.node.sizeOf_spec] at hn hlt'
          have H := Lib.hid hlv
          have H1 : T.leavesL (ks.take k) + (ks[k]).leaves < 1000000 := by omega
          have HW := wfL_get hwk k hlt
          have HX := Lib.hid hwk
          clear hlv hwk
          go_wp2_with (go_at_call 44; refine (ih ks[k] l' s' _ P (by omega) HW (by omega) d3).mono ?_; rintro e w' ⟨rfl, hB1⟩)
          go_roundw
          case rel => exact ⟨k + 1, by omega, by go_num, by rw [H.out]; go_num, hB.trans (hB1.mono (by have := hB.size; simp at this; omega))⟩
          case measure => simp [intOf]; omega
        · have hkk : k = ks.length := by omega
          go_wp2
          go_ret
          exact ⟨by rw [T.leaves, hkk, List.take_length]; rfl, ((Below.refl _ _).alloc (Nat.le_refl _) _).trans (hB.mono (by omega))⟩

set_option maxHeartbeats 400000 in
theorem l1Nodes_any (n : Nat) : ∀ (t : T) (l s : Value) (w : World) (P : Nat → Prop), SizeOf.sizeOf t ≤ n → t.wf → t.nodes < 1000000 → RepS w P t l s →
    Calls Try.prog 74 #[.agg #[l, s]] w fun e w' => e = .returned (.int .i64 t.nodes) ∧ Below w.heap.size w w' := by
  induction n with
  | zero => intro t l s w P h; cases t <;> simp at h <;> omega
  | succ n ih =>
    intro t l s w P hn hwf hlt' hr
    cases t with
    | leaf =>
      rw [RepS] at hr
      obtain ⟨rfl, rfl⟩ := hr
      go_enter Try.func74, Try.ntmps74
      go_wp2
      go_ret
      exact ⟨by simp [T.nodes], (Below.refl _ _).alloc (Nat.le_refl _) _⟩
    | node c ks =>
      rw [RepS] at hr
      obtain ⟨rfl, g, cap, rfl, hP, hk, hL⟩ := hr
      rw [T.wf] at hwf
      have hwk := hwf.2.2.2.2
      go_enter Try.func74, Try.ntmps74
      go_wp2
      go_loopw [3, 4] (fun v i wr => ∃ k : Nat, k ≤ ks.length ∧ i = .int .i64 k ∧ v = .int .i64 (1 + T.nodesL (ks.take k) : Nat) ∧ Below (w.heap.size+1) (w.alloc (Obj.cells #[Value.string { data := #[c] }, Value.slice (some { block := g, off := 0 }) ks.length cap] 44)) wr) (fun _ i _ => ks.length - (intOf i).toNat)
      case atStart => exact ⟨0, Nat.zero_le _, rfl, by simp [T.nodesL], Below.refl _ _⟩
      case round =>
        obtain ⟨k, hk', rfl, rfl, hB⟩ := hrel
        have c0 : wr.cell? ⟨w.heap.size, 0, none⟩ = some (Value.string { data := #[c] }) := by
          rw [hB.cell (by simp)]; simp [go_sem]
        have c1 : wr.cell? ⟨w.heap.size, 1, none⟩ = some (Value.slice (some { block := g, off := 0 }) ks.length cap) := by
          rw [hB.cell (by simp)]; simp [go_sem]
        by_cases hlt : k < ks.length
        · have hW : Below w.heap.size w wr := ((Below.refl _ _).alloc (Nat.le_refl _) _).trans (hB.mono (by omega))
          obtain ⟨l', s', d1, d2, d3⟩ := (hL.keep (Keeps.of_below hW P) (fun _ h _ => h) hP hwk).get k hlt
          simp only [Nat.zero_add] at d1 d2
          have hlv := nodesL_take hlt
          have hle := nodesL_take_le (ks := ks) (k+1)
          have hd : SizeOf.sizeOf ks[k] < SizeOf.sizeOf ks := List.sizeOf_lt_of_mem (List.getElem_mem hlt)
          simp only [T.nodes, T.node.sizeOf_spec] at hn hlt'
          have H := Lib.hid hlv
          have H1 : 1 + T.nodesL (ks.take k) + (ks[k]).nodes < 1000000 := by omega
          have HW := wfL_get hwk k hlt
          have HX := Lib.hid hwk
          clear hlv hwk
          go_wp2_with (go_at_call 74; refine (ih ks[k] l' s' _ P (by omega) HW (by omega) d3).mono ?_; rintro e w' ⟨rfl, hB1⟩)
          go_roundw
          case rel => exact ⟨k + 1, by omega, by go_num, by rw [H.out]; go_num, hB.trans (hB1.mono (by have := hB.size; simp at this; omega))⟩
          case measure => simp [intOf]; omega
        · have hkk : k = ks.length := by omega
          go_wp2
          go_ret
          exact ⟨by rw [T.nodes, hkk, List.take_length]; rfl, ((Below.refl _ _).alloc (Nat.le_refl _) _).trans (hB.mono (by omega))⟩

set_option maxHeartbeats 400000 in
theorem l1Small_any (t : T) (lb : ByteArray) (sa : Option Addr) (sn sc : Nat) (w : World) (P : Nat → Prop) (hwf : t.wf) (hl : t.leaves < 1000000) (hn : t.nodes < 1000000) (hr : RepS w P t (.string lb) (.slice sa sn sc)) :
    Calls Try.prog 59 #[.agg #[.string lb, .slice sa sn sc]] w fun e w' => e = .returned (.bool (small t)) ∧ Below w.heap.size w w' := by
  have HR := Lib.hid hr
  have HS : Hid (small t = (decide (t.leaves ≤ 12) && decide (t.nodes ≤ 16))) := Lib.hid rfl
  clear hr
  have hb1 : Below w.heap.size w (w.alloc (Obj.cells #[Value.string lb, Value.slice sa sn sc] 44)) := (Below.refl _ _).alloc (Nat.le_refl _) _
  have HB1 := Lib.hid hb1
  by_cases h1 : (t.leaves : Int) ≤ 12
  · by_cases h2 : (t.nodes : Int) ≤ 16
    all_goals
      have hd : small t = decide ((t.nodes : Int) ≤ 16) := by
        rw [HS.out, decide_eq_true (by omega : t.leaves ≤ 12), Bool.true_and]
        exact decide_eq_decide.2 (by omega)
      have HD := Lib.hid hd
      clear hd
      go_enter Try.func59, Try.ntmps59
      go_wp2_with fail
      refine (l1Leaves_any _ t _ _ _ P (Nat.le_refl _) hwf hl (HR.out.below hwf hb1)).mono ?_
      rintro e w1 ⟨rfl, hb2⟩
      have hc := hb2.cell (p := ⟨w.heap.size, 0, none⟩) (by simp)
      have hc1 := hb2.cell (p := ⟨w.heap.size, 1, none⟩) (by simp)
      simp only [go_sem] at hc hc1
      simp at hc hc1
      go_wp2_with fail
      refine (l1Nodes_any _ t _ _ _ P (Nat.le_refl _) hwf hn ((HR.out.below hwf hb1).below hwf hb2)).mono ?_
      rintro e w2 ⟨rfl, hb3⟩
      go_wp2_with fail
      go_ret
      refine ⟨?_, HB1.out.trans (hb2.mono (by simp)) |>.trans (hb3.mono (by have := hb2.size; simp at this; omega))⟩
      rw [HD.out]
      first | rfl | simp [h2]
  · have h1' : decide ((t.leaves : Int) ≤ 12) = false := by rw [decide_eq_false_iff_not]; exact h1
    go_enter Try.func59, Try.ntmps59
    go_wp2_with fail
    refine (l1Leaves_any _ t _ _ _ P (Nat.le_refl _) hwf hl (HR.out.below hwf hb1)).mono ?_
    rintro e w1 ⟨rfl, hb2⟩
    go_wp2_with fail
    go_ret
    refine ⟨?_, HB1.out.trans (hb2.mono (by simp))⟩
    rw [HS.out, decide_eq_false (by omega : ¬ t.leaves ≤ 12)]
    rfl

/-- What 'l1Parse' answers. -/
def PsPost (s : ByteArray) (w : World) (e : Ending) (w' : World) : Prop :=
  Below w.heap.size w w' ∧ ∃ (lb : ByteArray) (sa : Option Addr) (sn sc : Nat) (b : Bool), e = .returned (.tuple #[.agg #[.string lb, .slice sa sn sc], .bool b]) ∧
    ((parse s.data.toList = none ∧ b = false) ∨
     ∃ t, parse s.data.toList = some t ∧ b = true ∧ RepS w' (fun b => w.heap.size ≤ b) t (.string lb) (.slice sa sn sc))

theorem ps_none {s : ByteArray} {w w' : World} {lb : ByteArray} {sa : Option Addr} {sn sc : Nat} (hb : Below w.heap.size w w') (h : parse s.data.toList = none) :
    PsPost s w (.returned (.tuple #[.agg #[.string lb, .slice sa sn sc], .bool false])) w' := ⟨hb, lb, sa, sn, sc, false, rfl, .inl ⟨h, rfl⟩⟩

set_option maxHeartbeats 400000 in
theorem l1Parse_long (s : ByteArray) (w : World) (hs : 200 < s.size) (hm : s.size ≤ 140737488351232) :
    Calls Try.prog 43 #[.string s] w (PsPost s w) := by
  go_enter Try.func43, Try.ntmps43
  go_wp2_with fail
  go_returns
  exact ps_none ((Below.refl _ _).alloc (Nat.le_refl _) _) (by unfold parse; rw [if_pos (by simpa using hs)])

set_option maxHeartbeats 400000 in
theorem l1Parse_short (s : ByteArray) (w : World) (hs : s.size ≤ 200) :
    Calls Try.prog 43 #[.string s] w (PsPost s w) := by
  have hl : s.data.toList.length = s.size := by simp
  go_enter Try.func43, Try.ntmps43
  go_wp2_with fail
  have hb1 : Below w.heap.size w (w.alloc (Obj.cells #[Value.string ⟨#[]⟩, Value.slice none 0 0] 44)) := (Below.refl _ _).alloc (Nat.le_refl _) _
  refine (l1Read_any s hs 17 0 0 0 0 _ rfl rfl rfl (Nat.zero_le _)).mono ?_
  rintro e w1 ⟨hb2, lb, sa, sn, sc, k, rfl, hres⟩
  have hB := Lib.hid (hb1.trans (hb2.mono (by simp)))
  have hz : w.heap.size < w1.heap.size := by have := hb2.size; simp at this; omega
  have h0 : w1.heap[w.heap.size]? = some (.cells #[.string ⟨#[]⟩, .slice none 0 0] 44 (0, 0)) := by
    rw [hb2.block _ (by simp)]; exact heap_alloc_new _ _
  obtain ⟨c00, c01, f00, f01⟩ := two_cells h0
  have H0 := Lib.hid h0
  clear h0
  rcases hres with ⟨hno, rfl⟩ | ⟨t, j, hyes, hj0, hj, rfl, hrep⟩
  · have hpn : parse s.data.toList = none := by
      rw [List.drop_zero] at hno; unfold parse; rw [if_neg (by omega), hno]
    have HP := Lib.hid hpn
    have hne : ((-1 : Int) == (s.size : Int)) = false := by simp
    clear hno hpn
    go_wp2_with fail
    go_region
    go_wp2_with fail
    refine bodyPost_ret (v := .tuple #[.agg #[.string lb, .slice sa sn sc], .bool false]) (by simp [results, Try.results43, go_sem, c00, c01, hz]) rfl ?_
    exact ps_none ((((hB.out.setCell (by simp) _).setCell (by simp) _).alloc (by simp; omega) _).drew) HP.out
  · by_cases he : j = s.size
    · subst he
      have hrd : rd 17 s.data.toList = some (t, []) := by
        rw [List.drop_zero, drop_end (Nat.le_refl _)] at hyes; exact hyes
      have hps : parse s.data.toList = if small t = true then some t else none := by
        unfold parse; rw [if_neg (by omega), hrd]
      obtain ⟨htw, htt⟩ := rd_some _ _ _ _ hrd
      have HP := Lib.hid hps
      have hle : t.leaves ≤ 200 := by have h := leaves_le_text t; rw [List.append_nil] at htt; rw [← htt] at h; omega
      have hno : t.nodes ≤ 200 := by have h := nodes_le_text t; rw [List.append_nil] at htt; rw [← htt] at h; omega
      have hle' : t.leaves < 1000000 := by omega
      have hno' : t.nodes < 1000000 := by omega
      clear hyes hrd hps htt
      have HR := Lib.hid hrep
      clear hrep
      go_wp2_with fail
      go_region_with ((go_at_call 59; refine (l1Small_any t lb sa sn sc _ (fun b => (w.alloc (Obj.cells #[Value.string ⟨#[]⟩, Value.slice none 0 0] 44)).heap.size ≤ b) htw hle' hno' (HR.out.below htw ((Below.refl _ _).alloc (Nat.le_refl _) _).drew)).mono ?_; rintro e w2 ⟨rfl, hb3⟩; have d0 := keep1 (a := ⟨w1.heap.size, 0, none⟩) (v := .string lb) hb3 (by simp [go_sem]); have d1 := keep1 (a := ⟨w1.heap.size, 1, none⟩) (v := .slice sa sn sc) hb3 (by simp [go_sem]); have e0 := keep1 (a := ⟨w.heap.size, 0, none⟩) (v := .string ⟨#[]⟩) hb3 (by simp [go_sem, hz, c00]); have e1 := keep1 (a := ⟨w.heap.size, 1, none⟩) (v := .slice none 0 0) hb3 (by simp [go_sem, hz, c01]); have g0 := keepf (a := ⟨w.heap.size, 0, none⟩) (v := .string ⟨#[]⟩) hb3 (by simp [go_sem, hz, c00]) (by simp [go_sem, hz, f00]); have g1 := keepf (a := ⟨w.heap.size, 1, none⟩) (v := .slice none 0 0) hb3 (by simp [go_sem, hz, c01]) (by simp [go_sem, hz, f01])))
      all_goals
        go_wp2_with fail
        refine bodyPost_ret (v := .tuple #[.agg #[.string lb, .slice sa sn sc], .bool (small t)]) (by simp [results, Try.results43, go_sem, e0, e1]) rfl ?_
        have hzz : w1.heap.size < w2.heap.size := by have := hb3.size; simp at this; omega
        have hbb : Below w1.heap.size w1 w2 := (((Below.refl _ _).alloc (Nat.le_refl _) _).drew).trans (hb3.mono (by simp))
        refine ⟨((hB.out.trans (hbb.mono (by omega))).setCell (Nat.le_refl _) _).setCell (Nat.le_refl _) _, _, _, _, _, _, rfl, ?_⟩
        cases hsm : small t with
        | false => exact .inl ⟨by rw [HP.out, hsm]; rfl, rfl⟩
        | true =>
          refine .inr ⟨t, by rw [HP.out, hsm]; rfl, rfl, ?_⟩
          refine (HR.out.below htw hbb).keep (w := w2) ?_ (fun b hb _ => by simp at hb; omega) htw
          intro q u hq hu
          simp only [World.size_alloc] at hq
          rw [World.cell?_of_block (w := w2)]
          · exact hu
          · rw [Below.heap_setCell _ _ _ _ (by simp; omega), Below.heap_setCell _ _ _ _ (by simp; omega)]
    · have hpn : parse s.data.toList = none := by
        rw [List.drop_zero] at hyes
        unfold parse; rw [if_neg (by omega), hyes]
        have : (s.data.toList.drop j).length ≠ 0 := by simp; omega
        cases hd : s.data.toList.drop j with
        | nil => rw [hd] at this; simp at this
        | cons x r => rfl
      have HP := Lib.hid hpn
      have hne : ((j : Int) == (s.size : Int)) = false := by simp; omega
      clear hyes hpn hrep
      go_wp2_with fail
      go_region
      go_wp2_with fail
      refine bodyPost_ret (v := .tuple #[.agg #[.string lb, .slice sa sn sc], .bool false]) (by simp [results, Try.results43, go_sem, c00, c01, hz]) rfl ?_
      exact ps_none ((((hB.out.setCell (by simp) _).setCell (by simp) _).alloc (by simp; omega) _).drew) HP.out

theorem l1Parse_any (s : ByteArray) (w : World) (hm : s.size ≤ 140737488351232) : Calls Try.prog 43 #[.string s] w (PsPost s w) := by
  by_cases h : s.size ≤ 200
  · exact l1Parse_short s w h
  · exact l1Parse_long s w (by omega) hm
end Go.Proofs.Ytapobhnhnldlkaa
