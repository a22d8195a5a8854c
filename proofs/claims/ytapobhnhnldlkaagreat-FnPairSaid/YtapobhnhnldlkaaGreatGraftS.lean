/- The model grafts a tree at a leaf; TreeGraft on both sides. -/
import Derived.Test.YtapobhnhnldlkaaGreatKFill
import Derived.Test.YtapobhnhnldlkaaGreatKLawMirrorC
namespace Go.Proofs.YtapobhnhnldlkaaGreat
open Go.RowKit

/-- What is answered for a tree that was made: its text if it is small enough. -/
def doneV (t : T) : Value := if t.leaves ≤ 12 ∧ t.nodes ≤ 16 then .tuple #[.string ⟨t.text.toArray⟩, .bool true] else .tuple #[.string ⟨#[]⟩, .bool false]

theorem doneV_yes {t : T} (h : small t = true) : doneV t = .tuple #[.string ⟨t.text.toArray⟩, .bool true] := by
  have h' : t.leaves ≤ 12 ∧ t.nodes ≤ 16 := by simpa [small] using h
  rw [doneV, if_pos h']
theorem doneV_no {t : T} (h : small t = false) : doneV t = .tuple #[.string ⟨#[]⟩, .bool false] := by
  have h' : ¬ (t.leaves ≤ 12 ∧ t.nodes ≤ 16) := by
    intro h2
    have : small t = true := by simpa [small] using h2
    rw [this] at h; cases h
  rw [doneV, if_neg h']

theorem l1Done_any (t : T) (lb : ByteArray) (sa : Option Addr) (sn sc : Nat) (w : World) (P : Nat → Prop) (hw : t.wf) (hl : t.leaves < 1000000) (hn : t.nodes < 1000000) (ht : t.text.length ≤ 100000) (hr : RepS w P t (.string lb) (.slice sa sn sc)) :
    Calls Tryz.prog 56 #[.agg #[.string lb, .slice sa sn sc]] w (Ans (doneV t) w) := by
  have hb1 : Below w.heap.size w (w.alloc (Obj.cells #[Value.string lb, Value.slice sa sn sc] 52)) := (Below.refl _ _).alloc (Nat.le_refl _) _
  have HB1 := Lib.hid hb1
  have HR := Lib.hid (hr.below hw hb1)
  have HS0 := l1Small_any t lb sa sn sc (w.alloc (Obj.cells #[Value.string lb, Value.slice sa sn sc] 52)) P hw hl hn HR.out
  obtain ⟨b, hb⟩ : ∃ b, small t = b := ⟨_, rfl⟩
  rw [hb] at HS0
  have HS := Lib.hid HS0
  clear hr hb1 HS0
  cases b
  · have HV := Lib.hid (doneV_no hb)
    clear hb
    go_enter Tryz.func56, Tryz.ntmps56
    go_wp2_with fail
    refine HS.out.mono ?_
    rintro e w1 ⟨rfl, hb2⟩
    go_wp2_with fail
    go_ret2
    exact ⟨by rw [HV.out]; rfl, below_step HB1.out hb2⟩
  · have HV := Lib.hid (doneV_yes hb)
    clear hb
    go_enter Tryz.func56, Tryz.ntmps56
    go_wp2_with fail
    refine HS.out.mono ?_
    rintro e w1 ⟨rfl, hb2⟩
    have hc := hb2.cell (p := ⟨w.heap.size, 0, none⟩) (by simp)
    have hc1 := hb2.cell (p := ⟨w.heap.size, 1, none⟩) (by simp)
    simp only [go_sem] at hc hc1
    simp at hc hc1
    have HB2 := Lib.hid hb2
    clear hb2
    go_wp2_with fail
    refine (l1Text_any _ t _ _ _ P (Nat.le_refl _) hw ht (HR.out.below hw HB2.out)).mono ?_
    rintro e w2 ⟨rfl, hb3⟩
    go_wp2_with fail
    go_ret2
    exact ⟨by rw [HV.out]; rfl, below_step (below_step HB1.out HB2.out) hb3⟩

set_option maxHeartbeats 1000000 in
theorem isBounded_any (t : T) (ty : TypeId) (a : Addr) (w : World) (P : Nat → Prop) (hw : t.wf) (hl : t.leaves < 1000000) (hn : t.nodes < 1000000) (hr : RepI w P t ty a) :
    Calls Tryz.prog 52 #[.iface ty (.pointer (some a))] w fun e w' => e = .returned (.bool (small t)) ∧ w = w' := by
  have HR := Lib.hid hr
  obtain ⟨L, hL⟩ : ∃ L, L = t.leaves := ⟨_, rfl⟩
  obtain ⟨N, hN⟩ : ∃ N, N = t.nodes := ⟨_, rfl⟩
  have HL := Lib.hid hL
  have HN := Lib.hid hN
  rw [← hL] at hl
  rw [← hN] at hn
  obtain ⟨b, hb⟩ : ∃ b, b = small t := ⟨_, rfl⟩
  have HV1 : Hid (L ≤ 12 → N ≤ 16 → b = true) := Lib.hid (fun h1 h2 => by rw [hb, small_iff, ← HL.out, ← HN.out]; exact ⟨h1, h2⟩)
  have HV2 : Hid ((12 < L ∨ 16 < N) → b = false) := Lib.hid (fun h => by
    cases hq : small t with
    | false => rw [hb, hq]
    | true => have := small_iff.1 hq; rw [← HL.out, ← HN.out] at this; omega)
  rw [← hb]
  clear hr hL hN hb
  cases t with
  | leaf =>
    have hty := HR.out
    rw [RepI] at hty
    subst hty
    have hL1 : L = 1 := by rw [HL.out, T.leaves]
    have hN1 : N = 0 := by rw [HN.out, T.nodes]
    subst hL1 hN1
    go_enter Tryz.func52, Tryz.ntmps52
    go_wp2_with fail
    refine (leafLeaves_any _ _).mono ?_
    rintro e w2 ⟨rfl, rfl⟩
    go_wp2_with fail
    refine (leafNodes_any _ _).mono ?_
    rintro e w2 ⟨rfl, rfl⟩
    go_wp2_with fail
    go_ret
    exact ⟨by rw [HV1.out (by omega) (by omega)]; rfl, rfl⟩
  | node c ks =>
    have hty : ty = 78 := by have := HR.out; rw [RepI] at this; exact this.1
    subst hty
    have hwk := hw
    rw [T.wf] at hwk
    have HLC : Hid (Calls Tryz.prog 111 #[.pointer (some a)] w (fun e w' => e = .returned (.int .i64 ((L : Nat) : Int)) ∧ w = w')) := Lib.hid (by
      have hq := HL.out
      rw [T.leaves] at hq
      exact (nodeLeaves_any _ c ks _ a w P (Nat.le_refl _) hwk.2.2.2.2 (by omega) HR.out).mono (fun e w' h => ⟨by rw [h.1, hq]; simp, h.2⟩))
    have HNC : Hid (Calls Tryz.prog 112 #[.pointer (some a)] w (fun e w' => e = .returned (.int .i64 ((N : Nat) : Int)) ∧ w = w')) := Lib.hid (by
      have hq := HN.out
      rw [T.nodes] at hq
      exact (nodeNodes_any _ c ks _ a w P (Nat.le_refl _) hwk.2.2.2.2 (by omega) HR.out).mono (fun e w' h => ⟨by rw [h.1, hq], h.2⟩))
    clear hwk
    by_cases h1 : L ≤ 12
    · by_cases h2 : N ≤ 16
      · have h2' : decide ((N : Int) ≤ 16) = true := decide_eq_true (by omega)
        go_enter Tryz.func52, Tryz.ntmps52
        go_wp2_with fail
        refine HLC.out.mono ?_
        rintro e w2 ⟨rfl, rfl⟩
        go_wp2_with fail
        refine HNC.out.mono ?_
        rintro e w2 ⟨rfl, rfl⟩
        go_wp2_with fail
        go_ret
        exact ⟨by rw [HV1.out h1 h2]; rfl, rfl⟩
      · have h2' : decide ((N : Int) ≤ 16) = false := by simp; omega
        go_enter Tryz.func52, Tryz.ntmps52
        go_wp2_with fail
        refine HLC.out.mono ?_
        rintro e w2 ⟨rfl, rfl⟩
        go_wp2_with fail
        refine HNC.out.mono ?_
        rintro e w2 ⟨rfl, rfl⟩
        go_wp2_with fail
        go_ret
        exact ⟨by rw [HV2.out (.inr (by omega))]; rfl, rfl⟩
    · have h1' : decide ((L : Int) ≤ 12) = false := by simp; omega
      go_enter Tryz.func52, Tryz.ntmps52
      go_wp2_with fail
      refine HLC.out.mono ?_
      rintro e w2 ⟨rfl, rfl⟩
      go_wp2_with fail
      go_ret
      exact ⟨by rw [HV2.out (.inl (by omega))]; rfl, rfl⟩

end Go.Proofs.YtapobhnhnldlkaaGreat
