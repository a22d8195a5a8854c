/- The law of SumOf. -/
import Derived.Test.YtflmdknienjlmaaKSumRJ
import Derived.Test.YtflmdknienjlmaaKSumOfS
import Derived.Test.YtflmdknienjlmaaTermM
namespace Go.Proofs.Ytflmdknienjlmaa
open Go.RowKit

theorem TermL.blk {w w' : World} {g : Nat} {ys : List (Int × ByteArray)} (h : TermL w g ys) (he : w'.heap[g]? = w.heap[g]?) : TermL w' g ys := fun j hj => by
  obtain ⟨hc, hd⟩ := h j hj
  exact ⟨by simp only [World.cell?, he]; exact hc, by simp only [World.cell?, he]; exact hd⟩

theorem ofList_len {xs : List (Int × ByteArray)} {qs : List Tm} (h : some qs = ofList xs) : qs.length ≤ 60 := by
  rw [ofList] at h
  split at h
  · cases h
  · rw [outOf] at h
    split at h
    · next hb =>
      have e := Option.some.inj h
      rw [← e] at hb
      by_cases h60 : 60 < qs.length
      · rw [bounded_long h60] at hb; cases hb
      · omega
    · cases h

/-- No terms at all: alike. -/
theorem eqTermS_none (a a' : Option Addr) (ca cb : Nat) (w : World) :
    Calls Try.prog 15 #[.slice a 0 ca, .slice a' 0 cb] w (Ans (.bool true) w) := by
  go_enter Try.func15, Try.ntmps15
  go_wp2_with fail
  go_rounds 1
  go_ret
  exact ⟨rfl, Below.refl _ _⟩
theorem markTermS_none (a : Option Addr) (cap m : Nat) (w : World) :
    Calls Try.prog 16 #[.slice a 0 cap, .int .i64 m] w (Ans (.int .i64 m) w) := by
  go_enter Try.func16, Try.ntmps16
  go_wp2_with fail
  go_rounds 1
  go_ret
  exact ⟨rfl, Below.refl _ _⟩
theorem heldTermS_none (a : Option Addr) (cap m : Nat) (w : World) :
    Calls Try.prog 17 #[.slice a 0 cap, .int .i64 m] w (Ans (.int .i64 m) w) := by
  go_enter Try.func17, Try.ntmps17
  go_wp2_with fail
  go_rounds 1
  go_ret
  exact ⟨rfl, Below.refl _ _⟩

end Go.Proofs.Ytflmdknienjlmaa
