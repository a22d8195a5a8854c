/- The model writes a tree. -/
import Derived.Test.YtmmfcljkcepahaaSpecA
namespace Go.Proofs.Ytmmfcljkcepahaa
open Go.RowKit

theorem textL_takeS {ks : List T} {k : Nat} (h : k < ks.length) : T.textL (ks.take (k + 1)) = T.textL (ks.take k) ++ (32 :: (ks[k]).text) := by
  rw [List.take_succ_eq_append_getElem h, textL_append]; simp [T.textL]

theorem textL_take_leS {ks : List T} (k : Nat) : (T.textL (ks.take k)).length ≤ (T.textL ks).length := by
  have h := textL_append (ks.take k) (ks.drop k)
  rw [List.take_append_drop] at h
  rw [h, List.length_append]; omega

theorem bytes_append (l m : List UInt8) : (⟨l.toArray⟩ : ByteArray) ++ ⟨m.toArray⟩ = ⟨(l ++ m).toArray⟩ := by
  apply ByteArray.ext
  simp

def TextS (l : List UInt8) (w : World) (e : Ending) (w' : World) : Prop := e = .returned (.string ⟨l.toArray⟩) ∧ Below w.heap.size w w'

set_option maxHeartbeats 400000 in
theorem l1Text_any (n : Nat) : ∀ (t : T) (l s : Value) (w : World) (P : Nat → Prop), SizeOf.sizeOf t ≤ n → t.wf → t.text.length ≤ 100000 → RepS w P t l s →
    Calls Try.prog 150 #[.agg #[l, s]] w (TextS t.text w) := by
  induction n with
  | zero => intro t l s w P h; cases t <;> simp at h <;> omega
  | succ n ih =>
    intro t l s w P hn hwf hlt' hr
    cases t with
    | leaf =>
      rw [RepS] at hr
      obtain ⟨rfl, rfl⟩ := hr
      go_enter Try.func150, Try.ntmps150
      go_wp2
      go_ret
      exact ⟨by simp [T.text], (Below.refl _ _).alloc (Nat.le_refl _) _⟩
    | node c ks =>
      rw [RepS] at hr
      obtain ⟨rfl, g, cap, rfl, hP, hk, hL⟩ := hr
      rw [T.wf] at hwf
      have hwk := hwf.2.2.2.2
      have hlen0 : (T.node c ks).text.length = 3 + (T.textL ks).length := by simp [T.text]; omega
      have HLE : Hid ((T.textL ks).length ≤ 100000) := Lib.hid (by omega)
      clear hlen0 hlt'
      go_enter Try.func150, Try.ntmps150
      go_wp2_with fail
      go_loopw [3, 4] (fun v i wr => ∃ k : Nat, k ≤ ks.length ∧ i = .int .i64 k ∧ v = .string ⟨(40 :: c :: T.textL (ks.take k)).toArray⟩ ∧ Below (w.heap.size+1) (w.alloc (Obj.cells #[Value.string { data := #[c] }, Value.slice (some { block := g, off := 0 }) ks.length cap] 93)) wr) (fun _ i _ => ks.length - (intOf i).toNat)
      case atStart => exact ⟨0, Nat.zero_le _, rfl, by rw [show (40 :: c :: T.textL (ks.take 0)) = [40] ++ [c] from by simp [T.textL], ← bytes_append], Below.refl _ _⟩
      case round =>
        obtain ⟨k, hk', rfl, rfl, hB⟩ := hrel
        have c0 : wr.cell? ⟨w.heap.size, 0, none⟩ = some (Value.string { data := #[c] }) := by
          rw [hB.cell (by simp)]; simp [go_sem]
        have c1 : wr.cell? ⟨w.heap.size, 1, none⟩ = some (Value.slice (some { block := g, off := 0 }) ks.length cap) := by
          rw [hB.cell (by simp)]; simp [go_sem]
        have hle0 := textL_take_leS (ks := ks) k
        have hL0 := HLE.out
        obtain ⟨A, hA⟩ : ∃ A, A = (40 :: c :: T.textL (ks.take k)) := ⟨_, rfl⟩
        have hAl : A.length = 2 + (T.textL (ks.take k)).length := by rw [hA]; simp; omega
        rw [← hA]
        have HA := Lib.hid hA
        clear hA
        by_cases hlt : k < ks.length
        · have hW : Below w.heap.size w wr := ((Below.refl _ _).alloc (Nat.le_refl _) _).trans (hB.mono (by omega))
          obtain ⟨l', s', d1, d2, d3⟩ := (hL.keep (Keeps.of_below hW P) (fun _ h _ => h) hP hwk).get k hlt
          simp only [Nat.zero_add] at d1 d2
          have hle := textL_take_leS (ks := ks) (k+1)
          have hlv := textL_takeS hlt
          rw [hlv, List.length_append, List.length_cons] at hle
          have hd : SizeOf.sizeOf ks[k] < SizeOf.sizeOf ks := List.sizeOf_lt_of_mem (List.getElem_mem hlt)
          simp only [T.node.sizeOf_spec] at hn
          have H := Lib.hid hlv
          have HI := Lib.hid (ih ks[k] l' s' wr P (by omega) (wfL_get hwk k hlt) (by omega) d3)
          have HX := Lib.hid hwk
          clear hlv hwk ih
          have hAs : (⟨A.toArray⟩ : ByteArray).size = A.length := by simp [ByteArray.size]
          have hts : (⟨(ks[k]).text.toArray⟩ : ByteArray).size = (ks[k]).text.length := by simp [ByteArray.size]
          go_wp2_with fail
          refine HI.out.mono ?_
          rintro e w' ⟨rfl, hB1⟩
          go_wp2_with fail
          go_roundw
          case rel =>
            refine ⟨k + 1, by omega, by go_num, ?_, hB.trans (hB1.mono (by have := hB.size; simp at this; omega))⟩
            rw [H.out, show 40 :: c :: (T.textL (ks.take k) ++ 32 :: (ks[k]).text) = (A ++ [32]) ++ (ks[k]).text from by rw [HA.out]; simp, ← bytes_append, ← bytes_append]
          case measure => simp [intOf]; omega
        · have hkk : k = ks.length := by omega
          have HK := Lib.hid hkk
          clear hkk
          go_wp2_with fail
          go_ret
          refine ⟨?_, ((Below.refl _ _).alloc (Nat.le_refl _) _).trans (hB.mono (by omega))⟩
          have : (T.node c ks).text = A ++ [41] := by rw [HA.out, HK.out, List.take_length, T.text]; simp
          rw [this, ← bytes_append]
          rfl
end Go.Proofs.Ytmmfcljkcepahaa
