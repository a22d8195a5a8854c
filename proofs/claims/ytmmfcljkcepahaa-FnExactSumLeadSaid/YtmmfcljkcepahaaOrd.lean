/- The order of trees as mathematics; the library's comparisons as the program calls them. -/
import Derived.Test.YtmmfcljkcepahaaStrsC
import Derived.Lib.Bytealg
import Derived.Lib.Strings
import Derived.Lib.Slices
import Derived.Lib.Walk
namespace Go.Proofs.Ytmmfcljkcepahaa
open Go.RowKit

def cmpI (a b : Int) : Int := if a < b then -1 else if b < a then 1 else 0
def orI : List Int → Int
  | [] => 0
  | z :: zs => if z = 0 then orI zs else z

/-- Words: the shorter one first, and then byte by byte. -/
def wordCmp (a b : List UInt8) : Int := orI [cmpI a.length b.length, Lib.compareBytes a b]

def rowCmp : List (List UInt8) → List (List UInt8) → Int
  | [], [] => 0
  | [], _ :: _ => -1
  | _ :: _, [] => 1
  | a :: r, b :: q => if wordCmp a b = 0 then rowCmp r q else wordCmp a b

def ordCmp (ps : List (List UInt8)) (s : List UInt8) (qs : List (List UInt8)) (u : List UInt8) : Int := orI [cmpI ps.length qs.length, rowCmp ps qs, Lib.compareBytes s u]

theorem cmpI_lt {a b : Int} (h : a < b) : cmpI a b = -1 := by simp [cmpI, h]
theorem cmpI_gt {a b : Int} (h : b < a) : cmpI a b = 1 := by rw [cmpI, if_neg (by omega), if_pos h]
theorem cmpI_eq {a b : Int} (h : a = b) : cmpI a b = 0 := by rw [cmpI, if_neg (by omega), if_neg (by omega)]
theorem cmpI_range (a b : Int) : -1 ≤ cmpI a b ∧ cmpI a b ≤ 1 := by unfold cmpI; split <;> (try split) <;> omega
theorem compareBytes_range : ∀ (a b : List UInt8), -1 ≤ Lib.compareBytes a b ∧ Lib.compareBytes a b ≤ 1
  | [], [] => by simp [Lib.compareBytes]
  | [], _ :: _ => by simp [Lib.compareBytes]
  | _ :: _, [] => by simp [Lib.compareBytes]
  | a :: r, b :: q => by
    have := compareBytes_range r q
    simp only [Lib.compareBytes]
    split
    · omega
    · split <;> omega
theorem wordCmp_range (a b : List UInt8) : -1 ≤ wordCmp a b ∧ wordCmp a b ≤ 1 := by
  have h1 := cmpI_range a.length b.length
  have h2 := compareBytes_range a b
  simp only [wordCmp, orI]
  split
  · split <;> omega
  · omega
theorem rowCmp_range : ∀ (a b : List (List UInt8)), -1 ≤ rowCmp a b ∧ rowCmp a b ≤ 1
  | [], [] => by simp [rowCmp]
  | [], _ :: _ => by simp [rowCmp]
  | _ :: _, [] => by simp [rowCmp]
  | a :: r, b :: q => by
    have h1 := rowCmp_range r q
    have h2 := wordCmp_range a b
    simp only [rowCmp]
    split <;> omega

theorem rowCmp_at {ps qs : List (List UInt8)} {k : Nat} (h : k < ps.length) (h' : k < qs.length) : rowCmp (ps.drop k) (qs.drop k) = if wordCmp ps[k] qs[k] = 0 then rowCmp (ps.drop (k + 1)) (qs.drop (k + 1)) else wordCmp ps[k] qs[k] := by
  rw [List.drop_eq_getElem_cons h, List.drop_eq_getElem_cons h', rowCmp]
theorem rowCmp_long {ps qs : List (List UInt8)} {k : Nat} (h : k < ps.length) (h' : qs.length ≤ k) : rowCmp (ps.drop k) (qs.drop k) = 1 := by
  rw [List.drop_eq_getElem_cons h, List.drop_eq_nil_of_le h', rowCmp]
theorem rowCmp_short {ps qs : List (List UInt8)} {k : Nat} (h : ps.length ≤ k) (h' : k < qs.length) : rowCmp (ps.drop k) (qs.drop k) = -1 := by
  rw [List.drop_eq_getElem_cons h', List.drop_eq_nil_of_le h, rowCmp]
theorem rowCmp_done {ps qs : List (List UInt8)} {k : Nat} (h : ps.length ≤ k) (h' : qs.length ≤ k) : rowCmp (ps.drop k) (qs.drop k) = 0 := by
  rw [List.drop_eq_nil_of_le h', List.drop_eq_nil_of_le h, rowCmp]

set_option maxRecDepth 100000 in
theorem isNaNInt_any (x : Int) (w : World) : Calls Try.prog 189 #[.int .i64 x] w fun e w' => e = .returned (.bool false) ∧ w' = w := by
  go_enter Try.func189, Try.ntmps189
  go_wp2_with fail
  go_ret
  exact ⟨by simp, rfl⟩

set_option maxRecDepth 100000 in
theorem cmpInt_any (x y : Int) (w : World) : Calls Try.prog 160 #[.int .i64 x, .int .i64 y] w fun e w' => e = .returned (.int .i64 (cmpI x y)) ∧ w' = w := by
  rcases Int.lt_trichotomy x y with h | h | h
  · have HV := Lib.hid (cmpI_lt h)
    go_enter Try.func160, Try.ntmps160
    go_wp2_with (go_at_call 189; refine (isNaNInt_any _ _).mono ?_; rintro e w' ⟨rfl, rfl⟩)
    go_ret
    exact ⟨by rw [HV.out]; rfl, rfl⟩
  · have HV := Lib.hid (cmpI_eq h)
    subst h
    go_enter Try.func160, Try.ntmps160
    go_wp2_with (go_at_call 189; refine (isNaNInt_any _ _).mono ?_; rintro e w' ⟨rfl, rfl⟩)
    go_ret
    exact ⟨by rw [HV.out]; rfl, rfl⟩
  · have HV := Lib.hid (cmpI_gt h)
    have hn : ¬ x < y := by omega
    go_enter Try.func160, Try.ntmps160
    go_wp2_with (go_at_call 189; refine (isNaNInt_any _ _).mono ?_; rintro e w' ⟨rfl, rfl⟩)
    go_ret
    exact ⟨by rw [HV.out]; rfl, rfl⟩

/-- A row of ints reads as these. -/
def Ints (w : World) (g : Nat) (zs : List Int) : Prop := ∀ j (h : j < zs.length), w.cell? ⟨g, j, none⟩ = some (.int .i64 zs[j])

theorem orI_drop {zs : List Int} {k : Nat} (h : k < zs.length) : orI (zs.drop k) = if zs[k] = 0 then orI (zs.drop (k + 1)) else zs[k] := by
  rw [List.drop_eq_getElem_cons h, orI]

set_option maxRecDepth 100000 in
theorem cmpOr_any (zs : List Int) (n : Nat) (hnz : n = zs.length) (g cap : Nat) (w : World) (hn : n ≤ 1000) (hl : Ints w g zs) :
    Calls Try.prog 159 #[.slice (some ⟨g, 0, none⟩) n cap] w fun e w' => e = .returned (.int .i64 (orI zs)) ∧ w' = w := by
  have HL := Lib.hid hl
  have HNN := Lib.hid hnz
  clear hl hnz
  go_enter Try.func159, Try.ntmps159
  go_wp2_with fail
  go_loopw [8] (fun iv wr => ∃ k : Nat, k ≤ n ∧ iv = .int .i64 k ∧ orI zs = orI (zs.drop k) ∧ wr = w) (fun iv _ => n - (intOf iv).toNat)
  case atStart => exact ⟨0, Nat.zero_le _, rfl, by rw [List.drop_zero], rfl⟩
  case round =>
    obtain ⟨k, hk, rfl, ho, rfl⟩ := hrel
    have HO := Lib.hid ho
    clear ho
    by_cases hlt : k < n
    · have hlt' : k < zs.length := by rw [← HNN.out]; exact hlt
      have hc := HL.out k hlt'
      obtain ⟨z, hz⟩ : ∃ z, z = zs[k] := ⟨_, rfl⟩
      have HZ := Lib.hid hz
      rw [← hz] at hc
      clear hz
      by_cases h0 : z = 0
      · have HN : Hid (orI zs = orI (zs.drop (k + 1))) := Lib.hid (by rw [HO.out, orI_drop hlt', if_pos (by rw [← HZ.out]; exact h0)])
        subst h0
        go_wp2_with fail
        go_roundw
        case rel => exact ⟨k + 1, by omega, by go_num, HN.out, by first | rfl | trivial⟩
        case measure => simp [intOf]; omega
      · have HN : Hid (orI zs = z) := Lib.hid (by rw [HO.out, orI_drop hlt', if_neg (by rw [← HZ.out]; exact h0), HZ.out])
        go_wp2_with fail
        go_ret
        exact ⟨by rw [HN.out]; rfl, rfl⟩
    · have HN : Hid (orI zs = 0) := Lib.hid (by rw [HO.out, List.drop_eq_nil_of_le (by have := HNN.out; omega), orI])
      go_wp2_with fail
      go_ret
      exact ⟨by rw [HN.out]; rfl, rfl⟩

set_option maxHeartbeats 1000000 in
set_option maxRecDepth 100000 in
theorem cmpString_any (a b : ByteArray) (w : World) :
    Calls Try.prog 190 #[.string a, .string b] w fun e w' => e = .returned (.int .i64 (Lib.compareBytes a.data.toList b.data.toList)) ∧ w' = w := by
  go_enter Try.func190, Try.ntmps190
  go_wp2
  rw [run_callFunc_extern Try.func217 (by kernel_rfl) (by kernel_rfl) (by kernel_rfl) (e := Extern.BytealgCompare.compare) (by kernel_rfl), Lib.run_compareString]
  simp only [Result.andThen]
  rw [Oper.upon_value]
  go_wp2
  go_ret
  exact ⟨rfl, rfl⟩

set_option maxRecDepth 100000 in
theorem stringsCompare_any (a b : ByteArray) (w : World) :
    Calls Try.prog 163 #[.string a, .string b] w fun e w' => e = .returned (.int .i64 (Lib.compareBytes a.data.toList b.data.toList)) ∧ w' = w := by
  go_enter Try.func163, Try.ntmps163
  go_wp2_with fail
  refine (cmpString_any a b _).mono ?_
  rintro e w' ⟨rfl, rfl⟩
  go_wp2_with fail
  go_ret
  exact ⟨rfl, rfl⟩

theorem Ints.new (w : World) (zs : List Int) : Ints (w.alloc (.cells (zs.map (Value.int .i64)).toArray 3)) w.heap.size zs := fun j h => by
  rw [World.cell?_alloc_at _ _ _ _ rfl]
  simp [h]

set_option maxRecDepth 100000 in
set_option maxHeartbeats 1000000 in
theorem compareWays_any (a b : List UInt8) (w : World) :
    Calls Try.prog 162 #[.string ⟨a.toArray⟩, .string ⟨b.toArray⟩] w (Ans (.int .i64 (wordCmp a b)) w) := by
  have hsa : (⟨a.toArray⟩ : ByteArray).size = a.length := by simp [ByteArray.size]
  have hsb : (⟨b.toArray⟩ : ByteArray).size = b.length := by simp [ByteArray.size]
  obtain ⟨z0, hz0⟩ : ∃ z0, z0 = cmpI a.length b.length := ⟨_, rfl⟩
  obtain ⟨z1, hz1⟩ : ∃ z1, z1 = Lib.compareBytes a b := ⟨_, rfl⟩
  have H0 : Hid (∀ w, Calls Try.prog 160 #[.int .i64 (a.length : Int), .int .i64 (b.length : Int)] w fun e w' => e = .returned (.int .i64 z0) ∧ w' = w) := Lib.hid (fun w => by rw [hz0]; exact cmpInt_any _ _ w)
  have H1 : Hid (∀ w, Calls Try.prog 163 #[.string ⟨a.toArray⟩, .string ⟨b.toArray⟩] w fun e w' => e = .returned (.int .i64 z1) ∧ w' = w) := Lib.hid (fun w => by rw [hz1]; exact stringsCompare_any _ _ w)
  have HV : Hid (wordCmp a b = orI [z0, z1]) := Lib.hid (by rw [hz0, hz1, wordCmp])
  have H2 := Lib.hid (cmpOr_any [z0, z1] 2 rfl w.heap.size 2 (w.alloc (.cells #[.int .i64 z0, .int .i64 z1] 3)) (by omega) (Ints.new w [z0, z1]))
  clear hz0 hz1
  go_enter Try.func162, Try.ntmps162
  go_wp2_with (first
    | (go_at_call 160; refine (H0.out _).mono ?_; rintro e w' ⟨rfl, rfl⟩)
    | (go_at_call 163; refine (H1.out _).mono ?_; rintro e w' ⟨rfl, rfl⟩)
    | (go_at_call 159; refine H2.out.mono ?_; rintro e w' ⟨rfl, rfl⟩))
  go_ret
  exact ⟨by rw [HV.out]; rfl, (Below.refl _ _).alloc (Nat.le_refl _) _⟩
end Go.Proofs.Ytmmfcljkcepahaa
