/- The model grafts a tree at a leaf; TreeGraft on both sides. -/
import Derived.Test.YtfflgjidapclkaaKFill
import Derived.Test.YtfflgjidapclkaaKLawMirrorC
namespace Go.Proofs.Ytfflgjidapclkaa
open Go.RowKit

/-- What is answered for a tree that was made: its text if it is small enough. -/
def doneV (t : T) : Value := if t.leaves ≤ 12 ∧ t.nodes ≤ 16 then .tuple #[.string ⟨t.text.toArray⟩, .bool true] else .tuple #[.string ⟨#[]⟩, .bool false]

theorem doneV_yes {t : T} (h : small t = true) : doneV t = .tuple #[.string ⟨t.text.toArray⟩, .bool true] := by
  have h' : t.leaves ≤ 12 ∧ t.nodes ≤ 16 := by simpa [small] using h
  rw [doneV, if_pos h']
theorem doneV_no {t : T} (h : small t = false) : doneV t = .tuple #[.string ⟨#[]⟩, .bool false] := by
  have h' : ¬ (t.leaves ≤ 12 ∧ t.nodes ≤ 16) := by
    intro h2
    have : small t = true := by simpa [small] using h2
    rw [this] at h; cases h
  rw [doneV, if_neg h']

theorem l1Done_any (t : T) (lb : ByteArray) (sa : Option Addr) (sn sc : Nat) (w : World) (P : Nat → Prop) (hw : t.wf) (hl : t.leaves < 1000000) (hn : t.nodes < 1000000) (ht : t.text.length ≤ 100000) (hr : RepS w P t (.string lb) (.slice sa sn sc)) :
    Calls Try.prog 31 #[.agg #[.string lb, .slice sa sn sc]] w (Ans (doneV t) w) := by
  have hb1 : Below w.heap.size w (w.alloc (Obj.cells #[Value.string lb, Value.slice sa sn sc] 52)) := (Below.refl _ _).alloc (Nat.le_refl _) _
  have HB1 := Lib.hid hb1
  have HR := Lib.hid (hr.below hw hb1)
  have HS0 := l1Small_any t lb sa sn sc (w.alloc (Obj.cells #[Value.string lb, Value.slice sa sn sc] 52)) P hw hl hn HR.out
  obtain ⟨b, hb⟩ : ∃ b, small t = b := ⟨_, rfl⟩
  rw [hb] at HS0
  have HS := Lib.hid HS0
  clear hr hb1 HS0
  cases b
  · have HV := Lib.hid (doneV_no hb)
    clear hb
    go_enter Try.func31, Try.ntmps31
    go_wp2_with fail
    refine HS.out.mono ?_
    rintro e w1 ⟨rfl, hb2⟩
    go_wp2_with fail
    go_ret2
    exact ⟨by rw [HV.out]; rfl, below_step HB1.out hb2⟩
  · have HV := Lib.hid (doneV_yes hb)
    clear hb
    go_enter Try.func31, Try.ntmps31
    go_wp2_with fail
    refine HS.out.mono ?_
    rintro e w1 ⟨rfl, hb2⟩
    have hc := hb2.cell (p := ⟨w.heap.size, 0, none⟩) (by simp)
    have hc1 := hb2.cell (p := ⟨w.heap.size, 1, none⟩) (by simp)
    simp only [go_sem] at hc hc1
    simp at hc hc1
    have HB2 := Lib.hid hb2
    clear hb2
    go_wp2_with fail
    refine (l1Text_any _ t _ _ _ P (Nat.le_refl _) hw ht (HR.out.below hw HB2.out)).mono ?_
    rintro e w2 ⟨rfl, hb3⟩
    go_wp2_with fail
    go_ret2
    exact ⟨by rw [HV.out]; rfl, below_step (below_step HB1.out HB2.out) hb3⟩

theorem l1Whole_any (t : T) (l s : Value) (us : List T) (ug uc : Nat) (w : World) (P : Nat → Prop) (hw : t.wf) (huw : T.wfL us) (hlv : t.leaves ≤ us.length) (huc : us.length ≤ uc) (hum : uc ≤ 9223372036854775807) (hP : ∀ b, P b → b < w.heap.size) (hPu : P ug) (hr : RepS w P t l s) (hu : RepSL w P us ug 0) :
    Calls Try.prog 36 #[.agg #[l, s], .slice (some ⟨ug, 0, none⟩) us.length uc] w (NewSP P (t.fill us) w) := by
  obtain ⟨lb, sa, sn, sc, rfl, rfl⟩ := hr.shape'
  have hb1 : Below w.heap.size w ((w.alloc (Obj.cells #[Value.string lb, Value.slice sa sn sc] 52)).alloc (Obj.cells #[Value.string { data := #[] }, Value.slice none 0 0] 52)) := ((Below.refl _ _).alloc (Nat.le_refl _) _).alloc (by simp) _
  have hF := l1Fill_any _ t (.string lb) (.slice sa sn sc) us ug 0 uc ((w.alloc (Obj.cells #[Value.string lb, Value.slice sa sn sc] 52)).alloc (Obj.cells #[Value.string { data := #[] }, Value.slice none 0 0] 52)) P (Nat.le_refl _) hw huw hlv huc hum (fun b hb => by have := hP b hb; simp; omega) hPu (hr.below hw hb1) (hu.keep (Keeps.of_below hb1 P) (fun _ h _ => h) hPu huw)
  rw [Nat.zero_mul] at hF
  have HF := Lib.hid hF
  have HB1 := Lib.hid hb1
  have HW := Lib.hid (fill_wf t us hw huw)
  clear hr hu hb1 hF
  go_enter Try.func36, Try.ntmps36
  go_wp2_with fail
  refine HF.out.mono ?_
  rintro e w1 ⟨hb2, kb, ka, kn, kc, lo, rfl, hlo, hrep⟩
  have HB2 := Lib.hid hb2
  have HRP := Lib.hid hrep
  have hzz : w1.heap[w.heap.size + 1]? = some (.cells #[.string ⟨#[]⟩, .slice none 0 0] 52 (0, 0)) := by
    rw [HB2.out.block _ (by simp)]
    have := heap_alloc_new (w.alloc (Obj.cells #[Value.string lb, Value.slice sa sn sc] 52)) (Obj.cells #[Value.string { data := #[] }, Value.slice none 0 0] 52)
    simpa using this
  obtain ⟨r0, r1, fr0, fr1⟩ := two_cells hzz
  have hzl : w.heap.size + 1 < w1.heap.size := World.block_lt_of_cell? w1 _ r0
  have hzf : (((w1.setCell ⟨w.heap.size + 1, 0, none⟩ (.string kb)).setCell ⟨w.heap.size + 1, 1, none⟩ (.slice ka kn kc)).alloc (Obj.cells #[Value.string kb, Value.slice ka kn kc] 52)).heap[w.heap.size + 1]? = some (.cells #[.string kb, .slice ka kn kc] 52 (0, 0)) := by
    rw [Below.heap_alloc _ _ _ (by simp; omega), heap_setCell_same (heap_setCell_same hzz _) _]
    rfl
  obtain ⟨q0, q1, _, _⟩ := two_cells hzf
  have hbf : Below w1.heap.size w1 (w1.alloc (Obj.cells #[Value.string kb, Value.slice ka kn kc] 52)) := (Below.refl _ _).alloc (Nat.le_refl _) _
  have hBw : Below w.heap.size w (((w1.setCell ⟨w.heap.size + 1, 0, none⟩ (.string kb)).setCell ⟨w.heap.size + 1, 1, none⟩ (.slice ka kn kc)).alloc (Obj.cells #[Value.string kb, Value.slice ka kn kc] 52)) :=
    (((below_step HB1.out HB2.out).setCell (by simp) _).setCell (by simp) _).alloc (by simp; omega) _
  have hks : Keeps (fun b => P b ∨ w.heap.size + 1 + 1 ≤ b) w1 (((w1.setCell ⟨w.heap.size + 1, 0, none⟩ (.string kb)).setCell ⟨w.heap.size + 1, 1, none⟩ (.slice ka kn kc)).alloc (Obj.cells #[Value.string kb, Value.slice ka kn kc] 52)) := by
    intro q v hq hv
    rw [World.cell?_of_block (w := w1)]
    · exact hv
    · have hlt := World.block_lt_of_cell? w1 q hv
      have : q.block ≠ w.heap.size + 1 := by
        rcases hq with h | h
        · have := hP _ h; omega
        · omega
      rw [Below.heap_alloc _ _ _ (by simp; omega), Below.heap_setCell _ _ _ _ this, Below.heap_setCell _ _ _ _ this]
  have HF2 := Lib.hid (HRP.out.keep (P' := fun b => P b ∨ w.heap.size ≤ b) (Keeps.mono hks (fun b h => by rcases h with h | h; exact .inl h; exact .inr (by simp at h; omega))) (fun b h _ => by rcases h with h | h; exact .inl h; exact .inr (by simp at h; omega)) HW.out)
  have HBW := Lib.hid hBw
  clear hb2 hrep hlo hzz hzf hbf hBw hks
  go_wp2_with fail
  refine bodyPost_ret (v := .agg #[.string kb, .slice ka kn kc]) (by simp [results, Try.results36, go_sem, q0, q1]) rfl ?_
  exact ⟨HBW.out, _, _, _, _, rfl, HF2.out⟩

set_option maxHeartbeats 1000000 in
theorem isBounded_any (t : T) (ty : TypeId) (a : Addr) (w : World) (P : Nat → Prop) (hw : t.wf) (hl : t.leaves < 1000000) (hn : t.nodes < 1000000) (hr : RepI w P t ty a) :
    Calls Try.prog 46 #[.iface ty (.pointer (some a))] w fun e w' => e = .returned (.bool (small t)) ∧ w = w' := by
  have HR := Lib.hid hr
  obtain ⟨L, hL⟩ : ∃ L, L = t.leaves := ⟨_, rfl⟩
  obtain ⟨N, hN⟩ : ∃ N, N = t.nodes := ⟨_, rfl⟩
  have HL := Lib.hid hL
  have HN := Lib.hid hN
  rw [← hL] at hl
  rw [← hN] at hn
  obtain ⟨b, hb⟩ : ∃ b, b = small t := ⟨_, rfl⟩
  have HV1 : Hid (L ≤ 12 → N ≤ 16 → b = true) := Lib.hid (fun h1 h2 => by rw [hb, small_iff, ← HL.out, ← HN.out]; exact ⟨h1, h2⟩)
  have HV2 : Hid ((12 < L ∨ 16 < N) → b = false) := Lib.hid (fun h => by
    cases hq : small t with
    | false => rw [hb, hq]
    | true => have := small_iff.1 hq; rw [← HL.out, ← HN.out] at this; omega)
  rw [← hb]
  clear hr hL hN hb
  cases t with
  | leaf =>
    have hty := HR.out
    rw [RepI] at hty
    subst hty
    have hL1 : L = 1 := by rw [HL.out, T.leaves]
    have hN1 : N = 0 := by rw [HN.out, T.nodes]
    subst hL1 hN1
    go_enter Try.func46, Try.ntmps46
    go_wp2_with fail
    refine (leafLeaves_any _ _).mono ?_
    rintro e w2 ⟨rfl, rfl⟩
    go_wp2_with fail
    refine (leafNodes_any _ _).mono ?_
    rintro e w2 ⟨rfl, rfl⟩
    go_wp2_with fail
    go_ret
    exact ⟨by rw [HV1.out (by omega) (by omega)]; rfl, rfl⟩
  | node c ks =>
    have hty : ty = 88 := by have := HR.out; rw [RepI] at this; exact this.1
    subst hty
    have hwk := hw
    rw [T.wf] at hwk
    have HLC : Hid (Calls Try.prog 79 #[.pointer (some a)] w (fun e w' => e = .returned (.int .i64 ((L : Nat) : Int)) ∧ w = w')) := Lib.hid (by
      have hq := HL.out
      rw [T.leaves] at hq
      exact (nodeLeaves_any _ c ks _ a w P (Nat.le_refl _) hwk.2.2.2.2 (by omega) HR.out).mono (fun e w' h => ⟨by rw [h.1, hq]; simp, h.2⟩))
    have HNC : Hid (Calls Try.prog 80 #[.pointer (some a)] w (fun e w' => e = .returned (.int .i64 ((N : Nat) : Int)) ∧ w = w')) := Lib.hid (by
      have hq := HN.out
      rw [T.nodes] at hq
      exact (nodeNodes_any _ c ks _ a w P (Nat.le_refl _) hwk.2.2.2.2 (by omega) HR.out).mono (fun e w' h => ⟨by rw [h.1, hq], h.2⟩))
    clear hwk
    by_cases h1 : L ≤ 12
    · by_cases h2 : N ≤ 16
      · have h2' : decide ((N : Int) ≤ 16) = true := decide_eq_true (by omega)
        go_enter Try.func46, Try.ntmps46
        go_wp2_with fail
        refine HLC.out.mono ?_
        rintro e w2 ⟨rfl, rfl⟩
        go_wp2_with fail
        refine HNC.out.mono ?_
        rintro e w2 ⟨rfl, rfl⟩
        go_wp2_with fail
        go_ret
        exact ⟨by rw [HV1.out h1 h2]; rfl, rfl⟩
      · have h2' : decide ((N : Int) ≤ 16) = false := by simp; omega
        go_enter Try.func46, Try.ntmps46
        go_wp2_with fail
        refine HLC.out.mono ?_
        rintro e w2 ⟨rfl, rfl⟩
        go_wp2_with fail
        refine HNC.out.mono ?_
        rintro e w2 ⟨rfl, rfl⟩
        go_wp2_with fail
        go_ret
        exact ⟨by rw [HV2.out (.inr (by omega))]; rfl, rfl⟩
    · have h1' : decide ((L : Int) ≤ 12) = false := by simp; omega
      go_enter Try.func46, Try.ntmps46
      go_wp2_with fail
      refine HLC.out.mono ?_
      rintro e w2 ⟨rfl, rfl⟩
      go_wp2_with fail
      go_ret
      exact ⟨by rw [HV2.out (.inl (by omega))]; rfl, rfl⟩

set_option maxHeartbeats 1000000 in
theorem boundedText_any (t : T) (ty : TypeId) (a : Addr) (w : World) (P : Nat → Prop) (hw : t.wf) (hl : t.leaves < 1000000) (hn : t.nodes < 1000000) (ht : t.text.length ≤ 100000) (hr : RepI w P t ty a) :
    Calls Try.prog 26 #[.iface ty (.pointer (some a))] w (Ans (doneV t) w) := by
  have HT := Lib.hid (treeText_any t ty a w P hw hr ht)
  have HBD := isBounded_any t ty a w P hw hl hn hr
  obtain ⟨b, hb⟩ : ∃ b, small t = b := ⟨_, rfl⟩
  rw [hb] at HBD
  have HBD := Lib.hid HBD
  clear hr
  cases b
  · have HV := Lib.hid (doneV_no hb)
    clear hb
    go_enter Try.func26, Try.ntmps26
    go_wp2_with fail
    refine HBD.out.mono ?_
    rintro e w2 ⟨rfl, rfl⟩
    go_wp2_with fail
    go_ret2
    exact ⟨by rw [HV.out]; rfl, Below.refl _ _⟩
  · have HV := Lib.hid (doneV_yes hb)
    clear hb
    go_enter Try.func26, Try.ntmps26
    go_wp2_with fail
    refine HBD.out.mono ?_
    rintro e w2 ⟨rfl, rfl⟩
    go_wp2_with fail
    refine HT.out.mono ?_
    rintro e w2 ⟨rfl, hb⟩
    go_wp2_with fail
    go_ret2
    exact ⟨by rw [HV.out]; rfl, hb⟩
end Go.Proofs.Ytfflgjidapclkaa
