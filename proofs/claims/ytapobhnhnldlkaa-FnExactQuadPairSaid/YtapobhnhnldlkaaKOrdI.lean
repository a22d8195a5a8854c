/- Merged out of: XOrd, XOrdI. -/
import Derived.Test.YtapobhnhnldlkaaKPathsJ
import Derived.Lib.Bytealg
import Derived.Lib.Strings
import Derived.Lib.Slices
import Derived.Lib.Walk
import Derived.Deep.RegionHeld3
section
/- The order of trees as mathematics; the library's comparisons as the program calls them. -/
namespace Go.Proofs.Ytapobhnhnldlkaa
open Go.RowKit

def cmpI (a b : Int) : Int := if a < b then -1 else if b < a then 1 else 0
def orI : List Int → Int
  | [] => 0
  | z :: zs => if z = 0 then orI zs else z

/-- Words: the shorter one first, and then byte by byte. -/
def wordCmp (a b : List UInt8) : Int := orI [cmpI a.length b.length, Lib.compareBytes a b]

def rowCmp : List (List UInt8) → List (List UInt8) → Int
  | [], [] => 0
  | [], _ :: _ => -1
  | _ :: _, [] => 1
  | a :: r, b :: q => if wordCmp a b = 0 then rowCmp r q else wordCmp a b

def ordCmp (ps : List (List UInt8)) (s : List UInt8) (qs : List (List UInt8)) (u : List UInt8) : Int := orI [cmpI ps.length qs.length, rowCmp ps qs, Lib.compareBytes s u]

theorem cmpI_lt {a b : Int} (h : a < b) : cmpI a b = -1 := by simp [cmpI, h]
theorem cmpI_gt {a b : Int} (h : b < a) : cmpI a b = 1 := by rw [cmpI, if_neg (by omega), if_pos h]
theorem cmpI_eq {a b : Int} (h : a = b) : cmpI a b = 0 := by rw [cmpI, if_neg (by omega), if_neg (by omega)]
theorem cmpI_range (a b : Int) : -1 ≤ cmpI a b ∧ cmpI a b ≤ 1 := by unfold cmpI; split <;> (try split) <;> omega
theorem compareBytes_range : ∀ (a b : List UInt8), -1 ≤ Lib.compareBytes a b ∧ Lib.compareBytes a b ≤ 1
  | [], [] => by simp [Lib.compareBytes]
  | [], _ :: _ => by simp [Lib.compareBytes]
  | _ :: _, [] => by simp [Lib.compareBytes]
  | a :: r, b :: q => by
    have := compareBytes_range r q
    simp only [Lib.compareBytes]
    split
    · omega
    · split <;> omega
theorem wordCmp_range (a b : List UInt8) : -1 ≤ wordCmp a b ∧ wordCmp a b ≤ 1 := by
  have h1 := cmpI_range a.length b.length
  have h2 := compareBytes_range a b
  simp only [wordCmp, orI]
  split
  · split <;> omega
  · omega
theorem rowCmp_range : ∀ (a b : List (List UInt8)), -1 ≤ rowCmp a b ∧ rowCmp a b ≤ 1
  | [], [] => by simp [rowCmp]
  | [], _ :: _ => by simp [rowCmp]
  | _ :: _, [] => by simp [rowCmp]
  | a :: r, b :: q => by
    have h1 := rowCmp_range r q
    have h2 := wordCmp_range a b
    simp only [rowCmp]
    split <;> omega

theorem rowCmp_at {ps qs : List (List UInt8)} {k : Nat} (h : k < ps.length) (h' : k < qs.length) : rowCmp (ps.drop k) (qs.drop k) = if wordCmp ps[k] qs[k] = 0 then rowCmp (ps.drop (k + 1)) (qs.drop (k + 1)) else wordCmp ps[k] qs[k] := by
  rw [List.drop_eq_getElem_cons h, List.drop_eq_getElem_cons h', rowCmp]
theorem rowCmp_long {ps qs : List (List UInt8)} {k : Nat} (h : k < ps.length) (h' : qs.length ≤ k) : rowCmp (ps.drop k) (qs.drop k) = 1 := by
  rw [List.drop_eq_getElem_cons h, List.drop_eq_nil_of_le h', rowCmp]
theorem rowCmp_short {ps qs : List (List UInt8)} {k : Nat} (h : ps.length ≤ k) (h' : k < qs.length) : rowCmp (ps.drop k) (qs.drop k) = -1 := by
  rw [List.drop_eq_getElem_cons h', List.drop_eq_nil_of_le h, rowCmp]
theorem rowCmp_done {ps qs : List (List UInt8)} {k : Nat} (h : ps.length ≤ k) (h' : qs.length ≤ k) : rowCmp (ps.drop k) (qs.drop k) = 0 := by
  rw [List.drop_eq_nil_of_le h', List.drop_eq_nil_of_le h, rowCmp]

set_option maxRecDepth 100000 in
theorem isNaNInt_any (x : Int) (w : World) : Calls Try.prog 71 #[.int .i64 x] w fun e w' => e = .returned (.bool false) ∧ w' = w := by
  go_enter Try.func71, Try.ntmps71
  go_wp2_with fail
  go_ret
  exact ⟨by simp, rfl⟩

set_option maxRecDepth 100000 in
theorem cmpInt_any (x y : Int) (w : World) : Calls Try.prog 53 #[.int .i64 x, .int .i64 y] w fun e w' => e = .returned (.int .i64 (cmpI x y)) ∧ w' = w := by
  rcases Int.lt_trichotomy x y with h | h | h
  · have HV := Lib.hid (cmpI_lt h)
    go_enter Try.func53, Try.ntmps53
    go_wp2_with (go_at_call 71; refine (isNaNInt_any _ _).mono ?_; rintro e w' ⟨rfl, rfl⟩)
    go_ret
    exact ⟨by rw [HV.out]; rfl, rfl⟩
  · have HV := Lib.hid (cmpI_eq h)
    subst h
    go_enter Try.func53, Try.ntmps53
    go_wp2_with (go_at_call 71; refine (isNaNInt_any _ _).mono ?_; rintro e w' ⟨rfl, rfl⟩)
    go_ret
    exact ⟨by rw [HV.out]; rfl, rfl⟩
  · have HV := Lib.hid (cmpI_gt h)
    have hn : ¬ x < y := by omega
    go_enter Try.func53, Try.ntmps53
    go_wp2_with (go_at_call 71; refine (isNaNInt_any _ _).mono ?_; rintro e w' ⟨rfl, rfl⟩)
    go_ret
    exact ⟨by rw [HV.out]; rfl, rfl⟩

/-- A row of ints reads as these. -/
def Ints (w : World) (g : Nat) (zs : List Int) : Prop := ∀ j (h : j < zs.length), w.cell? ⟨g, j, none⟩ = some (.int .i64 zs[j])

theorem orI_drop {zs : List Int} {k : Nat} (h : k < zs.length) : orI (zs.drop k) = if zs[k] = 0 then orI (zs.drop (k + 1)) else zs[k] := by
  rw [List.drop_eq_getElem_cons h, orI]

set_option maxRecDepth 100000 in
theorem cmpOr_any (zs : List Int) (n : Nat) (hnz : n = zs.length) (g cap : Nat) (w : World) (hn : n ≤ 1000) (hl : Ints w g zs) :
    Calls Try.prog 52 #[.slice (some ⟨g, 0, none⟩) n cap] w fun e w' => e = .returned (.int .i64 (orI zs)) ∧ w' = w := by
  have HL := Lib.hid hl
  have HNN := Lib.hid hnz
  clear hl hnz
  go_enter Try.func52, Try.ntmps52
  go_wp2_with fail
  go_loopw [8] (fun iv wr => ∃ k : Nat, k ≤ n ∧ iv = .int .i64 k ∧ orI zs = orI (zs.drop k) ∧ wr = w) (fun iv _ => n - (intOf iv).toNat)
  case atStart => exact ⟨0, Nat.zero_le _, rfl, by rw [List.drop_zero], rfl⟩
  case round =>
    obtain ⟨k, hk, rfl, ho, rfl⟩ := hrel
    have HO := Lib.hid ho
    clear ho
    by_cases hlt : k < n
    · have hlt' : k < zs.length := by rw [← HNN.out]; exact hlt
      have hc := HL.out k hlt'
      obtain ⟨z, hz⟩ : ∃ z, z = zs[k] := ⟨_, rfl⟩
      have HZ := Lib.hid hz
      rw [← hz] at hc
      clear hz
      by_cases h0 : z = 0
      · have HN : Hid (orI zs = orI (zs.drop (k + 1))) := Lib.hid (by rw [HO.out, orI_drop hlt', if_pos (by rw [← HZ.out]; exact h0)])
        subst h0
        go_wp2_with fail
        go_roundw
        case rel => exact ⟨k + 1, by omega, by go_num, HN.out, by first | rfl | trivial⟩
        case measure => simp [intOf]; omega
      · have HN : Hid (orI zs = z) := Lib.hid (by rw [HO.out, orI_drop hlt', if_neg (by rw [← HZ.out]; exact h0), HZ.out])
        go_wp2_with fail
        go_ret
        exact ⟨by rw [HN.out]; rfl, rfl⟩
    · have HN : Hid (orI zs = 0) := Lib.hid (by rw [HO.out, List.drop_eq_nil_of_le (by have := HNN.out; omega), orI])
      go_wp2_with fail
      go_ret
      exact ⟨by rw [HN.out]; rfl, rfl⟩

theorem Ints.new (w : World) (zs : List Int) : Ints (w.alloc (.cells (zs.map (Value.int .i64)).toArray 3)) w.heap.size zs := fun j h => by
  rw [World.cell?_alloc_at _ _ _ _ rfl]
  simp [h]

end Go.Proofs.Ytapobhnhnldlkaa
end
section
/- The order of trees by the program. -/
namespace Go.Proofs.Ytapobhnhnldlkaa
open Go.RowKit

/-- What is compared of a tree. -/
def KeyPost (t : T) (w : World) (e : Ending) (w' : World) : Prop :=
  Below w.heap.size w w' ∧ ∃ g cap, e = .returned (.agg #[.slice (some ⟨g, 0, none⟩) (t.paths []).length cap, .string ⟨t.text.toArray⟩]) ∧ Lies w' (some ⟨g, 0, none⟩) (t.paths []) ∧ w.heap.size ≤ g

theorem cell_new {w : World} {a : Addr} {v : Value} {o : Obj} (h : w.cell? a = some v) : (w.alloc o).cell? a = some v := keep1 ((Below.refl _ _).alloc (Nat.le_refl _) o) h

def orderOf (a b : List UInt8) : Option Int :=
  match parse a, parse b with
  | some t, some u => some (ordCmp (t.paths []) t.text (u.paths []) u.text)
  | _, _ => none

def orderV : Option Int → Value
  | none => .tuple #[.int .i64 0, .bool false]
  | some c => .tuple #[.int .i64 c, .bool true]

theorem orderOf_no {a b : List UInt8} (h : parse a = none) : orderOf a b = none := by simp [orderOf, h]
theorem orderOf_no2 {a b : List UInt8} (h : parse b = none) : orderOf a b = none := by
  cases ha : parse a <;> simp [orderOf, h, ha]
theorem orderOf_yes {a b : List UInt8} {t u : T} (ha : parse a = some t) (hb : parse b = some u) : orderOf a b = some (ordCmp (t.paths []) t.text (u.paths []) u.text) := by
  simp only [orderOf, ha, hb]

end Go.Proofs.Ytapobhnhnldlkaa
end
