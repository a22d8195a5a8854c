/- The model's reader, walked: 'l1Read' gives what 'rd' gives. -/
import Derived.Test.YtmmfcljkcepahaaRep
namespace Go.Proofs.Ytmmfcljkcepahaa
open Go.RowKit

theorem l6In_any (n a b : Int) (w : World) :
    Calls Try.prog 72 #[.int .i64 n, .int .i64 a, .int .i64 b] w fun e w' => e = .returned (.bool (decide (a ≤ n ∧ n ≤ b))) ∧ w = w' := by
  by_cases h1 : a ≤ n
  · by_cases h2 : n ≤ b
    · go_enter Try.func72, Try.ntmps72
      go_wp2
      go_ret
      simp [h1, h2]
    · have h2' : decide (n ≤ b) = false := by simpa using h2
      go_enter Try.func72, Try.ntmps72
      go_wp2
      go_ret
      simp
  · have h1' : decide (a ≤ n) = false := by simpa using h1
    go_enter Try.func72, Try.ntmps72
    go_wp2
    go_ret
    simp

/-- What 'l1Read' answers. -/
def RdPost (s : ByteArray) (i f : Nat) (w : World) (e : Ending) (w' : World) : Prop :=
  Below w.heap.size w w' ∧ ∃ (lb : ByteArray) (sa : Option Addr) (sn sc : Nat) (k : Int), e = .returned (.tuple #[.agg #[.string lb, .slice sa sn sc], .int .i64 k]) ∧
    ((rd f (s.data.toList.drop i) = none ∧ k = -1) ∨
     ∃ t j, rd f (s.data.toList.drop i) = some (t, s.data.toList.drop j) ∧ i < j ∧ j ≤ s.size ∧ k = (j : Int) ∧ RepS w' (fun b => w.heap.size ≤ b) t (.string lb) (.slice sa sn sc))

theorem drop_at {s : ByteArray} {i : Nat} (h : i < s.size) : s.data.toList.drop i = s[i] :: s.data.toList.drop (i + 1) := by
  rw [List.drop_eq_getElem_cons (by simpa using h)]; rfl

theorem drop_end {s : ByteArray} {i : Nat} (h : s.size ≤ i) : s.data.toList.drop i = [] :=
  List.drop_eq_nil_of_le (by simpa using h)

theorem extract_one {s : ByteArray} {i : Nat} (h : i + 1 < s.size) : s.extract (i + 1) (i + 2) = ⟨#[s[i + 1]]⟩ := by
  apply ByteArray.ext
  apply Array.ext
  · simp [ByteArray.data_extract]; change _ - _ = 1; have : s.data.size = s.size := rfl; omega
  · intro k h1 h2
    simp at h2
    subst h2
    simp [ByteArray.data_extract]; rfl

theorem rd_post_none {s : ByteArray} {i f : Nat} {w w' : World} {lb : ByteArray} {sa : Option Addr} {sn sc : Nat} (hb : Below w.heap.size w w') (h : rd f (s.data.toList.drop i) = none) :
    RdPost s i f w (.returned (.tuple #[.agg #[.string lb, .slice sa sn sc], .int .i64 (-1)])) w' := ⟨hb, lb, sa, sn, sc, -1, rfl, .inl ⟨h, rfl⟩⟩

set_option maxHeartbeats 400000 in
theorem l1Read_deep (s : ByteArray) (i : Nat) (w : World) :
    Calls Try.prog 127 #[.string s, .int .i64 i, .int .i64 17] w (RdPost s i 0 w) := by
  go_enter Try.func127, Try.ntmps127
  go_wp2_with fail
  go_returns
  exact rd_post_none ((Below.refl _ _).alloc (Nat.le_refl _) _) rfl

set_option maxHeartbeats 400000 in
theorem l1Read_end (s : ByteArray) (i d f : Nat) (w : World) (hd : d + f = 16) (hi : s.size ≤ i) (_hi2 : i ≤ 200) :
    Calls Try.prog 127 #[.string s, .int .i64 i, .int .i64 d] w (RdPost s i (f + 1) w) := by
  go_enter Try.func127, Try.ntmps127
  go_wp2_with fail
  go_returns
  exact rd_post_none ((Below.refl _ _).alloc (Nat.le_refl _) _) (by rw [drop_end hi]; rfl)

set_option maxHeartbeats 400000 in
theorem l1Read_leaf (s : ByteArray) (i d f : Nat) (w : World) (hd : d + f = 16) (hi : i < s.size) (hs : s.size ≤ 200) (hx : s[i] = 42) :
    Calls Try.prog 127 #[.string s, .int .i64 i, .int .i64 d] w (RdPost s i (f + 1) w) := by
  go_enter Try.func127, Try.ntmps127
  go_wp2_with fail
  go_returns
  exact ⟨(Below.refl _ _).alloc (Nat.le_refl _) _, _, _, _, _, _, rfl, .inr ⟨.leaf, i + 1, by rw [drop_at hi, hx]; rfl, by omega, by omega, by omega, by rw [RepS]; exact ⟨rfl, rfl⟩⟩⟩

set_option maxHeartbeats 400000 in
theorem l1Read_other (s : ByteArray) (i d f : Nat) (w : World) (hd : d + f = 16) (hi : i < s.size) (_hs : s.size ≤ 200) (hx : (s[i].toNat : Int) ≠ 42) (hx' : (s[i].toNat : Int) ≠ 40) :
    Calls Try.prog 127 #[.string s, .int .i64 i, .int .i64 d] w (RdPost s i (f + 1) w) := by
  have h1 : ((s[i].toNat : Int) == 42) = false := by simpa using hx
  have h2 : ((s[i].toNat : Int) != 40) = true := by simpa using hx'
  have hr : rd (f + 1) (s.data.toList.drop i) = none := by
    rw [drop_at hi, rd_other (by intro e; rw [e] at hx; simp at hx) (by intro e; rw [e] at hx'; simp at hx')]
  have H := Lib.hid hr
  clear hx hx' hr
  go_enter Try.func127, Try.ntmps127
  go_wp2_with fail
  go_returns
  exact rd_post_none ((Below.refl _ _).alloc (Nat.le_refl _) _) H.out

set_option maxHeartbeats 400000 in
theorem l1Read_short (s : ByteArray) (i d f : Nat) (w : World) (hd : d + f = 16) (hi : i < s.size) (hs : s.size ≤ 200) (hx : s[i] = 40) (hi1 : s.size ≤ i + 1) :
    Calls Try.prog 127 #[.string s, .int .i64 i, .int .i64 d] w (RdPost s i (f + 1) w) := by
  have hr : rd (f + 1) (s.data.toList.drop i) = none := by
    rw [drop_at hi, drop_end hi1, hx, rd_short]
  have H := Lib.hid hr
  clear hr
  go_enter Try.func127, Try.ntmps127
  go_wp2_with fail
  go_returns
  exact rd_post_none ((Below.refl _ _).alloc (Nat.le_refl _) _) H.out

set_option maxHeartbeats 400000 in
theorem l1Read_letter (s : ByteArray) (i d f : Nat) (w : World) (hd : d + f = 16) (hi : i + 1 < s.size) (hs : s.size ≤ 200) (hx : s[i] = 40) (hc : (s[i + 1].toNat : Int) < 97 ∨ 104 < (s[i + 1].toNat : Int)) :
    Calls Try.prog 127 #[.string s, .int .i64 i, .int .i64 d] w (RdPost s i (f + 1) w) := by
  have hr : rd (f + 1) (s.data.toList.drop i) = none := by
    rw [drop_at (by omega), drop_at hi, hx, rd_letter (by omega)]
  have H := Lib.hid hr
  clear hr
  rcases hc with hc | hc
  · go_enter Try.func127, Try.ntmps127
    go_wp2_with fail
    go_returns
    exact rd_post_none ((Below.refl _ _).alloc (Nat.le_refl _) _) H.out
  · have h97 : 97 ≤ (s[i + 1].toNat : Int) := by omega
    go_enter Try.func127, Try.ntmps127
    go_wp2_with fail
    go_returns
    exact rd_post_none ((Below.refl _ _).alloc (Nat.le_refl _) _) H.out

end Go.Proofs.Ytmmfcljkcepahaa
