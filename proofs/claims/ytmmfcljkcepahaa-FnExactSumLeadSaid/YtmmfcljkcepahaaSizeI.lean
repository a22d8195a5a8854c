/- The program: leaves and nodes counted through the interface. -/
import Derived.Test.YtmmfcljkcepahaaReadIC
namespace Go.Proofs.Ytmmfcljkcepahaa
open Go.RowKit

theorem leafLeaves_any (a : Addr) (w : World) : Calls Try.prog 251 #[.pointer (some a)] w fun e w' => e = .returned (.int .i64 1) ∧ w = w' := by
  go_enter Try.func251, Try.ntmps251
  go_wp2_with fail
  go_ret
  exact ⟨rfl, rfl⟩

theorem leafNodes_any (a : Addr) (w : World) : Calls Try.prog 252 #[.pointer (some a)] w fun e w' => e = .returned (.int .i64 0) ∧ w = w' := by
  go_enter Try.func252, Try.ntmps252
  go_wp2_with fail
  go_ret
  exact ⟨rfl, rfl⟩

set_option maxHeartbeats 400000 in
theorem nodeLeaves_any (n : Nat) : ∀ (c : UInt8) (ks : List T) (ty : TypeId) (a : Addr) (w : World) (P : Nat → Prop), SizeOf.sizeOf ks ≤ n → T.wfL ks → T.leavesL ks < 1000000 → RepI w P (.node c ks) ty a →
    Calls Try.prog 244 #[.pointer (some a)] w fun e w' => e = .returned (.int .i64 (0 + T.leavesL ks : Nat)) ∧ w = w' := by
  induction n with
  | zero => intro c ks ty a w P h; cases ks <;> simp at h <;> omega
  | succ n ih =>
    intro c ks ty a w P hn hwf hlt hr
    rw [RepI] at hr
    obtain ⟨_, b, g, cap, rfl, hPb, hPg, h0, h1, h6, hL⟩ := hr
    have HL := Lib.hid hL
    have HW := Lib.hid hwf
    clear hL hwf
    go_enter Try.func244, Try.ntmps244
    go_wp2_with fail
    go_loop [3, 11] (fun v i => ∃ k : Nat, k ≤ ks.length ∧ i = .int .i64 k ∧ v = .int .i64 (0 + T.leavesL (ks.take k) : Nat)) (fun _ i => ks.length - (intOf i).toNat)
    case atStart => exact ⟨0, Nat.zero_le _, rfl, by simp [T.leavesL]⟩
    case round =>
      obtain ⟨k, hk', rfl, rfl⟩ := hrel
      by_cases hlt' : k < ks.length
      · obtain ⟨ty', a', d1, d2⟩ := HL.out.get k hlt'
        have hwk := wfL_get HW.out k hlt'
        have hd : SizeOf.sizeOf ks[k] < SizeOf.sizeOf ks := List.sizeOf_lt_of_mem (List.getElem_mem hlt')
        have hle := leavesL_take_le (ks := ks) (k + 1)
        have hlv := leavesL_take hlt'
        have hsum : T.leavesL (ks.take k) + (ks[k]).leaves < 1000000 := by omega
        have HV := Lib.hid hlv
        rw [Nat.zero_add] at d1
        clear hlv
        cases hkk : ks[k] with
        | leaf =>
          rw [hkk] at d2 HV hsum
          rw [RepI] at d2
          subst d2
          have HK := Lib.hid hkk
          clear hkk hd hwk
          go_wp2_with (go_at_call 251; refine (leafLeaves_any _ _).mono ?_; rintro e w' ⟨rfl, rfl⟩)
          go_round
          case rel => exact ⟨k + 1, by omega, by go_num, by rw [HV.out, T.leaves]; go_num⟩
          case measure => simp [intOf]; omega
        | node c' ks' =>
          rw [hkk] at d2 HV hsum hd hwk
          have hty : ty' = 134 := by rw [RepI] at d2; exact d2.1
          subst hty
          have HK := Lib.hid hkk
          have HD := Lib.hid d2
          have hsz : SizeOf.sizeOf ks' ≤ n := by simp only [T.node.sizeOf_spec] at hd; omega
          have hwk' : T.wfL ks' := by rw [T.wf] at hwk; exact hwk.2.2.2.2
          have hl' : T.leavesL ks' < 1000000 := by rw [T.leaves] at hsum; omega
          rw [T.leaves] at hsum
          have HC := Lib.hid (fun w => ih c' ks' 134 a' w P hsz hwk' hl')
          clear hkk hd hwk d2 hwk' ih
          go_wp2_with (go_at_call 244; refine (HC.out _ HD.out).mono ?_; rintro e w' ⟨rfl, rfl⟩)
          go_round
          case rel => exact ⟨k + 1, by omega, by go_num, by rw [HV.out, T.leaves]; go_num⟩
          case measure => simp [intOf]; omega
      · have hkk : k = ks.length := by omega
        have HK := Lib.hid hkk
        clear hkk
        go_wp2_with fail
        go_ret
        exact ⟨by rw [HK.out, List.take_length]; rfl, rfl⟩

set_option maxHeartbeats 400000 in
theorem nodeNodes_any (n : Nat) : ∀ (c : UInt8) (ks : List T) (ty : TypeId) (a : Addr) (w : World) (P : Nat → Prop), SizeOf.sizeOf ks ≤ n → T.wfL ks → T.nodesL ks < 1000000 → RepI w P (.node c ks) ty a →
    Calls Try.prog 245 #[.pointer (some a)] w fun e w' => e = .returned (.int .i64 (1 + T.nodesL ks : Nat)) ∧ w = w' := by
  induction n with
  | zero => intro c ks ty a w P h; cases ks <;> simp at h <;> omega
  | succ n ih =>
    intro c ks ty a w P hn hwf hlt hr
    rw [RepI] at hr
    obtain ⟨_, b, g, cap, rfl, hPb, hPg, h0, h1, h6, hL⟩ := hr
    have HL := Lib.hid hL
    have HW := Lib.hid hwf
    clear hL hwf
    go_enter Try.func245, Try.ntmps245
    go_wp2_with fail
    go_loop [3, 11] (fun v i => ∃ k : Nat, k ≤ ks.length ∧ i = .int .i64 k ∧ v = .int .i64 (1 + T.nodesL (ks.take k) : Nat)) (fun _ i => ks.length - (intOf i).toNat)
    case atStart => exact ⟨0, Nat.zero_le _, rfl, by simp [T.nodesL]⟩
    case round =>
      obtain ⟨k, hk', rfl, rfl⟩ := hrel
      by_cases hlt' : k < ks.length
      · obtain ⟨ty', a', d1, d2⟩ := HL.out.get k hlt'
        have hwk := wfL_get HW.out k hlt'
        have hd : SizeOf.sizeOf ks[k] < SizeOf.sizeOf ks := List.sizeOf_lt_of_mem (List.getElem_mem hlt')
        have hle := nodesL_take_le (ks := ks) (k + 1)
        have hlv := nodesL_take hlt'
        have hsum : T.nodesL (ks.take k) + (ks[k]).nodes < 1000000 := by omega
        have HV := Lib.hid hlv
        rw [Nat.zero_add] at d1
        clear hlv
        cases hkk : ks[k] with
        | leaf =>
          rw [hkk] at d2 HV hsum
          rw [RepI] at d2
          subst d2
          have HK := Lib.hid hkk
          clear hkk hd hwk
          go_wp2_with (go_at_call 252; refine (leafNodes_any _ _).mono ?_; rintro e w' ⟨rfl, rfl⟩)
          go_round
          case rel => exact ⟨k + 1, by omega, by go_num, by rw [HV.out, T.nodes]; go_num⟩
          case measure => simp [intOf]; omega
        | node c' ks' =>
          rw [hkk] at d2 HV hsum hd hwk
          have hty : ty' = 134 := by rw [RepI] at d2; exact d2.1
          subst hty
          have HK := Lib.hid hkk
          have HD := Lib.hid d2
          have hsz : SizeOf.sizeOf ks' ≤ n := by simp only [T.node.sizeOf_spec] at hd; omega
          have hwk' : T.wfL ks' := by rw [T.wf] at hwk; exact hwk.2.2.2.2
          have hl' : T.nodesL ks' < 1000000 := by rw [T.nodes] at hsum; omega
          rw [T.nodes] at hsum
          have HC := Lib.hid (fun w => ih c' ks' 134 a' w P hsz hwk' hl')
          clear hkk hd hwk d2 hwk' ih
          go_wp2_with (go_at_call 245; refine (HC.out _ HD.out).mono ?_; rintro e w' ⟨rfl, rfl⟩)
          go_round
          case rel => exact ⟨k + 1, by omega, by go_num, by rw [HV.out, T.nodes]; go_num⟩
          case measure => simp [intOf]; omega
      · have hkk : k = ks.length := by omega
        have HK := Lib.hid hkk
        clear hkk
        go_wp2_with fail
        go_ret
        exact ⟨by rw [HK.out, List.take_length]; rfl, rfl⟩

end Go.Proofs.Ytmmfcljkcepahaa
