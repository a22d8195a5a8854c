/- How a tree lies in memory as the program has it (a pointer behind an interface); the program's reader: its small steps. -/
import Derived.Test.YtoeebipahifpcaaGreatKRead
import Derived.RegionTactic
import Derived.Deep.RegionWith
import Derived.Deep.QuietTactic
import Derived.BigQuiet
namespace Go.Proofs.YtoeebipahifpcaaGreat
open Go.RowKit

mutual
def RepI (w : World) (P : Nat → Prop) : T → TypeId → Addr → Prop
  | .leaf, ty, _ => ty = 106
  | .node c ks, ty, a => ty = 105 ∧ ∃ b g cap, a = ⟨b, 0, none⟩ ∧ P b ∧ P g ∧ w.cell? ⟨b, 0, none⟩ = some (.string ⟨#[c]⟩) ∧ w.cell? ⟨b, 1, none⟩ = some (.slice (some ⟨g, 0, none⟩) ks.length cap) ∧ ks.length ≤ 6 ∧ RepIL w P ks g 0
def RepIL (w : World) (P : Nat → Prop) : List T → Nat → Nat → Prop
  | [], _, _ => True
  | k :: ks, g, i => (∃ ty a, w.cell? ⟨g, i, none⟩ = some (.iface ty (.pointer (some a))) ∧ RepI w P k ty a) ∧ RepIL w P ks g (i + 1)
end

theorem RepIL.get {w : World} {P : Nat → Prop} : ∀ {ks : List T} {g i : Nat}, RepIL w P ks g i → ∀ j (h : j < ks.length), ∃ ty a, w.cell? ⟨g, i + j, none⟩ = some (.iface ty (.pointer (some a))) ∧ RepI w P ks[j] ty a
  | [], _, _, _, _, h => absurd h (by simp)
  | k :: ks, g, i, hr, 0, h => by
    rw [RepIL] at hr; exact hr.1
  | k :: ks, g, i, hr, j + 1, h => by
    rw [RepIL] at hr
    have := RepIL.get hr.2 j (by simpa using h)
    rw [show i + (j + 1) = i + 1 + j from by omega]; exact this

theorem RepIL.of_get {w : World} {P : Nat → Prop} : ∀ {ks : List T} {g i : Nat}, (∀ j (h : j < ks.length), ∃ ty a, w.cell? ⟨g, i + j, none⟩ = some (.iface ty (.pointer (some a))) ∧ RepI w P ks[j] ty a) → RepIL w P ks g i
  | [], _, _, _ => by rw [RepIL]; trivial
  | k :: ks, g, i, h => by
    rw [RepIL]
    refine ⟨h 0 (by simp), RepIL.of_get (fun j hj => ?_)⟩
    have := h (j + 1) (by simpa using hj)
    rw [show i + (j + 1) = i + 1 + j from by omega] at this; exact this

mutual
theorem RepI.keep {w w' : World} {P P' : Nat → Prop} (hk : Keeps P w w') (hp : ∀ g, P g → g < w.heap.size → P' g) : ∀ {t : T} {ty : TypeId} {a : Addr}, t.wf → RepI w P t ty a → RepI w' P' t ty a
  | .leaf, _, _, _, h => by rw [RepI] at h ⊢; exact h
  | .node c [], _, _, hw, h => by rw [T.wf] at hw; simp at hw
  | .node c (k :: ks), _, _, hw, h => by
    rw [RepI] at h ⊢
    rw [T.wf] at hw
    obtain ⟨h1, b, g, cap, h2, h3, h4, h5, h6, h7, h8⟩ := h
    have hlt : g < w.heap.size := by
      rw [RepIL] at h8
      obtain ⟨⟨ty, a, h9, _⟩, _⟩ := h8
      exact World.block_lt_of_cell? w _ h9
    exact ⟨h1, b, g, cap, h2, hp _ h3 (World.block_lt_of_cell? w _ h5), hp _ h4 hlt, hk _ _ h3 h5, hk _ _ h3 h6, h7, RepIL.keep hk hp h4 hw.2.2.2.2 h8⟩
theorem RepIL.keep {w w' : World} {P P' : Nat → Prop} (hk : Keeps P w w') (hp : ∀ g, P g → g < w.heap.size → P' g) : ∀ {ks : List T} {g i : Nat}, P g → T.wfL ks → RepIL w P ks g i → RepIL w' P' ks g i
  | [], _, _, _, _, _ => by rw [RepIL]; trivial
  | k :: ks, g, i, hg, hw, h => by
    rw [RepIL] at h ⊢
    rw [T.wfL] at hw
    obtain ⟨⟨ty, a, h1, h2⟩, h4⟩ := h
    exact ⟨⟨ty, a, hk _ _ hg h1, RepI.keep hk hp hw.1 h2⟩, RepIL.keep hk hp hg hw.2 h4⟩
end

theorem RepI.below {w w' : World} {P : Nat → Prop} {t : T} {ty : TypeId} {a : Addr} (h : RepI w P t ty a) (hw : t.wf) (hb : Below w.heap.size w w') : RepI w' P t ty a :=
  h.keep (Keeps.of_below hb P) (fun _ h _ => h) hw

/-- The reader's own block. -/
def RB (w : World) (r : Nat) (s : ByteArray) (i L N : Nat) : Prop :=
  w.heap[r]? = some (.cells #[.string s, .int .i64 i, .int .i64 L, .int .i64 N] 174 (0, 0))

theorem RB.cells {w : World} {r : Nat} {s : ByteArray} {i L N : Nat} (h : RB w r s i L N) :
    w.cell? ⟨r, 0, none⟩ = some (.string s) ∧ w.cell? ⟨r, 1, none⟩ = some (.int .i64 i) ∧ w.cell? ⟨r, 2, none⟩ = some (.int .i64 L) ∧ w.cell? ⟨r, 3, none⟩ = some (.int .i64 N) ∧
      w.frozen? ⟨r, 1, none⟩ = false ∧ w.frozen? ⟨r, 2, none⟩ = false ∧ w.frozen? ⟨r, 3, none⟩ = false := by
  unfold RB at h
  simp [World.cell?, World.frozen?, h]

theorem RB.lt {w : World} {r : Nat} {s : ByteArray} {i L N : Nat} (h : RB w r s i L N) : r < w.heap.size := (Array.getElem?_eq_some_iff.1 h).1

/-- All but block r is as it was. -/
theorem grownBy_refl (w : World) (row : Option Nat) : w.grownBy w row := ⟨rfl, rfl, rfl, Nat.le_refl _, fun _ _ _ => rfl⟩
theorem grownBy_trans {a b c : World} {row : Option Nat} (h : a.grownBy b row) (k : b.grownBy c row) : a.grownBy c row :=
  ⟨k.os.trans h.os, k.tape.trans h.tape, k.output.trans h.output, Nat.le_trans h.size k.size, fun i hi hn => (k.block i (Nat.lt_of_lt_of_le hi h.size) hn).trans (h.block i hi hn)⟩
theorem grownBy_drewN {a b : World} {row : Option Nat} (h : a.grownBy b row) (n : Nat) : a.grownBy (b.drewN n) row := ⟨h.os, h.tape, h.output, h.size, h.block⟩
theorem grownBy_below {a b c : World} {row : Option Nat} (h : a.grownBy b row) (k : Below b.heap.size b c) : a.grownBy c row :=
  ⟨k.os.trans h.os, k.tape.trans h.tape, k.output.trans h.output, Nat.le_trans h.size k.size, fun i hi hn => (k.block i (Nat.lt_of_lt_of_le hi h.size)).trans (h.block i hi hn)⟩
theorem grownBy_setCell {a b : World} {r k : Nat} (h : a.grownBy b (some r)) (v : Value) : a.grownBy (b.setCell ⟨r, k, none⟩ v) (some r) :=
  ⟨h.os, h.tape, h.output, by simpa using h.size, fun i hi hn => by rw [Below.heap_setCell _ _ _ _ (by simpa using hn)]; exact h.block i hi hn⟩
theorem RB.drewN {w : World} {r : Nat} {s : ByteArray} {i L N : Nat} (h : RB w r s i L N) (n : Nat) : RB (w.drewN n) r s i L N := h

def TakeYes (r : Nat) (s : ByteArray) (i L N : Nat) (w : World) (e : Ending) (w' : World) : Prop := e = .returned (.bool true) ∧ RB w' r s (i + 1) L N ∧ w.grownBy w' (some r) ∧ w'.heap.size = w.heap.size
def TakeNo (r : Nat) (s : ByteArray) (i L N : Nat) (w : World) (e : Ending) (w' : World) : Prop := e = .returned (.bool false) ∧ RB w' r s i L N ∧ w.grownBy w' (some r) ∧ w'.heap.size = w.heap.size

set_option maxHeartbeats 400000 in
theorem take_yes (r : Nat) (s : ByteArray) (i L N : Nat) (c : UInt8) (n : Int) (w : World) (hb : RB w r s i L N) (hs : s.size ≤ 140737488351232) (hi : i < s.size) (hn : n = (c.toNat : Int)) (hc : s[i] = c) :
    Calls Tryz.prog 117 #[.pointer (some ⟨r, 0, none⟩), .int .u8 n] w (TakeYes r s i L N w) := by
  subst hn
  obtain ⟨c0, c1, c2, c3, f1, f2, f3⟩ := hb.cells
  have HB := Lib.hid hb
  have hne : ((i : Int) == (s.size : Int)) = false := by simp; omega
  have hce : ((s[i].toNat : Int) != (c.toNat : Int)) = false := by rw [hc]; simp
  have HC := Lib.hid hc
  clear hc hb
  go_enter Tryz.func117, Tryz.ntmps117
  go_wp2_with fail
  go_quiet (fail)
  go_wp2_with fail
  go_ret
  refine ⟨rfl, ?_, grownBy_setCell (grownBy_drewN (grownBy_refl _ _) _) _, by simp⟩
  have h1 := heap_setCell_same (k := 1) (RB.drewN HB.out nq) (.int .i64 (i + 1))
  unfold RB
  rw [h1]
  rfl

set_option maxHeartbeats 400000 in
theorem take_end (r : Nat) (s : ByteArray) (i L N : Nat) (n : Int) (w : World) (hb : RB w r s i L N) (_hs : s.size ≤ 140737488351232) (hi : i = s.size) :
    Calls Tryz.prog 117 #[.pointer (some ⟨r, 0, none⟩), .int .u8 n] w (TakeNo r s i L N w) := by
  obtain ⟨c0, c1, c2, c3, f1, f2, f3⟩ := hb.cells
  have HB := Lib.hid hb
  have hne : ((i : Int) == (s.size : Int)) = true := by simp; omega
  have HI := Lib.hid hi
  clear hi hb
  go_enter Tryz.func117, Tryz.ntmps117
  go_wp2_with fail
  go_quiet (fail)
  go_wp2_with fail
  go_ret
  exact ⟨rfl, HB.out, grownBy_drewN (grownBy_refl _ _) _, rfl⟩

set_option maxHeartbeats 400000 in
theorem take_other (r : Nat) (s : ByteArray) (i L N : Nat) (c : UInt8) (n : Int) (w : World) (hb : RB w r s i L N) (_hs : s.size ≤ 140737488351232) (hi : i < s.size) (hn : n = (c.toNat : Int)) (hc : s[i] ≠ c) :
    Calls Tryz.prog 117 #[.pointer (some ⟨r, 0, none⟩), .int .u8 n] w (TakeNo r s i L N w) := by
  subst hn
  obtain ⟨c0, c1, c2, c3, f1, f2, f3⟩ := hb.cells
  have HB := Lib.hid hb
  have hne : ((i : Int) == (s.size : Int)) = false := by simp; omega
  have hce : ((s[i].toNat : Int) != (c.toNat : Int)) = true := byte_ne_tt hc rfl
  clear hc hb
  go_enter Tryz.func117, Tryz.ntmps117
  go_wp2_with fail
  go_quiet (fail)
  go_wp2_with fail
  go_ret
  exact ⟨rfl, HB.out, grownBy_drewN (grownBy_refl _ _) _, rfl⟩

theorem ret_str2 {a b : ByteArray} {v : Value} (h : a = b) : Ending.returned (.tuple #[.string a, v]) = .returned (.tuple #[.string b, v]) := by rw [h]

/-- What 'letter' answers. -/
def LetYes (r : Nat) (s : ByteArray) (i L N : Nat) (c : UInt8) (w : World) (e : Ending) (w' : World) : Prop := e = .returned (.tuple #[.string ⟨#[c]⟩, .bool true]) ∧ RB w' r s (i + 1) L N ∧ w.grownBy w' (some r) ∧ w'.heap.size = w.heap.size
def LetNo (r : Nat) (s : ByteArray) (i L N : Nat) (w : World) (e : Ending) (w' : World) : Prop := e = .returned (.tuple #[.string ⟨#[]⟩, .bool false]) ∧ RB w' r s i L N ∧ w.grownBy w' (some r) ∧ w'.heap.size = w.heap.size

set_option maxRecDepth 100000 in
set_option maxHeartbeats 1000000 in
theorem letter_end (r : Nat) (s : ByteArray) (i L N : Nat) (w : World) (hb : RB w r s i L N) (_hs : s.size ≤ 140737488351232) (hi : i = s.size) :
    Calls Tryz.prog 120 #[.pointer (some ⟨r, 0, none⟩)] w (LetNo r s i L N w) := by
  obtain ⟨c0, c1, c2, c3, f1, f2, f3⟩ := hb.cells
  have HB := Lib.hid hb
  have hne : ((i : Int) == (s.size : Int)) = true := by simp; omega
  have HI := Lib.hid hi
  clear hi hb
  go_enter Tryz.func120, Tryz.ntmps120
  go_wp2_with fail
  go_quiet (fail)
  go_wp2_with fail
  go_ret2
  exact ⟨rfl, HB.out, grownBy_drewN (grownBy_refl _ _) _, rfl⟩

theorem extract_here {s : ByteArray} {i : Nat} (h : i < s.size) : s.extract i (i + 1) = ⟨#[s[i]]⟩ := by
  apply ByteArray.ext
  apply Array.ext
  · simp [ByteArray.data_extract]; change _ - _ = 1; have : s.data.size = s.size := rfl; omega
  · intro k h1 h2
    simp at h2
    subst h2
    simp [ByteArray.data_extract]; rfl

theorem wrap_next {s : ByteArray} {i : Nat} (hs : s.size ≤ 140737488351232) (hi : i < s.size) : IntKind.i64.wrap ((i : Int) + 1) = (i : Int) + 1 := by
  rw [IntKind.wrap_i64]; omega

/-- A letter that a node may have. -/
def isLet : List UInt8 → Bool
  | [c] => decide (97 ≤ (c.toNat : Int)) && decide ((c.toNat : Int) ≤ 104)
  | _ => false

theorem isLetter_one (c : UInt8) (w : World) :
    Calls Tryz.prog 62 #[.string ⟨#[c]⟩] w fun e w' => e = .returned (.bool (isLet [c])) ∧ w' = w := by
  have hz : (⟨#[c]⟩ : ByteArray).size = 1 := rfl
  have h0 : (⟨#[c]⟩ : ByteArray)[0]'(by rw [hz]; omega) = c := rfl
  rcases Classical.em (97 ≤ (c.toNat : Int)) with h1 | h1
  · rcases Classical.em ((c.toNat : Int) ≤ 104) with h2 | h2
    · have e1 : decide (97 ≤ (c.toNat : Int)) = true := decide_eq_true h1
      have e2 : decide ((c.toNat : Int) ≤ 104) = true := decide_eq_true h2
      have HI := Lib.hid (show isLet [c] = true by simp only [isLet, e1, e2]; rfl)
      go_enter Tryz.func62, Tryz.ntmps62
      go_wp2_with fail
      go_ret
      exact ⟨by rw [HI.out]; rfl, rfl⟩
    · have e1 : decide (97 ≤ (c.toNat : Int)) = true := decide_eq_true h1
      have e2 : decide ((c.toNat : Int) ≤ 104) = false := decide_eq_false h2
      have HI := Lib.hid (show isLet [c] = false by simp only [isLet, e1, e2]; rfl)
      go_enter Tryz.func62, Tryz.ntmps62
      go_wp2_with fail
      go_ret
      exact ⟨by rw [HI.out]; rfl, rfl⟩
  · have e1 : decide (97 ≤ (c.toNat : Int)) = false := decide_eq_false h1
    have HI := Lib.hid (show isLet [c] = false by simp only [isLet, e1]; rfl)
    go_enter Tryz.func62, Tryz.ntmps62
    go_wp2_with fail
    go_ret
    exact ⟨by rw [HI.out]; rfl, rfl⟩

theorem isLetter_long (s : ByteArray) (w : World) (_hs : s.size ≤ 140737488351232) (h : s.size ≠ 1) :
    Calls Tryz.prog 62 #[.string s] w fun e w' => e = .returned (.bool false) ∧ w' = w := by
  have hz : ((s.size : Int) == 1) = false := by simp; omega
  go_enter Tryz.func62, Tryz.ntmps62
  go_wp2_with fail
  go_ret
  exact ⟨rfl, rfl⟩

theorem isLetter_any (s : ByteArray) (w : World) (hs : s.size ≤ 140737488351232) :
    Calls Tryz.prog 62 #[.string s] w fun e w' => e = .returned (.bool (isLet s.data.toList)) ∧ w' = w := by
  by_cases h : s.size = 1
  · have h2 : s.data.toList.length = 1 := by rw [Array.length_toList]; exact h
    obtain ⟨c, hc⟩ : ∃ c, s.data.toList = [c] := by
      cases hd : s.data.toList with
      | nil => rw [hd] at h2; simp at h2
      | cons c r => cases r with
        | nil => exact ⟨c, rfl⟩
        | cons _ _ => rw [hd] at h2; simp at h2
    have hs' : s = ⟨#[c]⟩ := by
      apply ByteArray.ext; apply Array.toList_inj.1; rw [hc]
    subst hs'
    exact isLetter_one c w
  · have h2 : isLet s.data.toList = false := by
      have h3 : s.data.toList.length ≠ 1 := by rw [Array.length_toList]; exact h
      generalize s.data.toList = l at h3
      match l, h3 with
      | [], _ => rfl
      | [_], h3 => simp at h3
      | _ :: _ :: _, _ => rfl
    rw [h2]
    exact isLetter_long s w hs h

set_option maxRecDepth 100000 in
set_option maxHeartbeats 1000000 in
theorem letter_no (r : Nat) (s : ByteArray) (i L N : Nat) (w : World) (hb : RB w r s i L N) (hs : s.size ≤ 140737488351232) (hi : i < s.size) (hc : isLet [s[i]] = false) :
    Calls Tryz.prog 120 #[.pointer (some ⟨r, 0, none⟩)] w (LetNo r s i L N w) := by
  obtain ⟨c0, c1, c2, c3, f1, f2, f3⟩ := hb.cells
  have HB := Lib.hid hb
  have hne : ((i : Int) == (s.size : Int)) = false := by simp; omega
  have HE := Lib.hid (extract_here hi)
  have HC : Hid (∀ w : World, Calls Tryz.prog 62 #[.string ⟨#[s[i]]⟩] w fun e w' => e = .returned (.bool false) ∧ w' = w) := Lib.hid fun w => by have := isLetter_one s[i] w; rw [hc] at this; exact this
  have hw1 := wrap_next hs hi
  have hq1 : (0 : Int) ≤ (i : Int) + 1 := by omega
  have hq2 : (i : Int) + 1 ≤ (s.size : Int) := by omega
  have hq3 : (i : Int) ≤ (i : Int) + 1 := by omega
  clear hb hc
  go_enter Tryz.func120, Tryz.ntmps120
  go_wp2_with fail
  go_quiet ((go_at_call 62; rw [HE.out]; refine Calls.quiet_of_same (v := .bool false) ?_; exact HC.out _))
  go_wp2_with fail
  go_ret2
  exact ⟨rfl, HB.out, grownBy_drewN (grownBy_refl _ _) _, rfl⟩

theorem letter_low (r : Nat) (s : ByteArray) (i L N : Nat) (w : World) (hb : RB w r s i L N) (hs : s.size ≤ 140737488351232) (hi : i < s.size) (hc : (s[i].toNat : Int) < 97) :
    Calls Tryz.prog 120 #[.pointer (some ⟨r, 0, none⟩)] w (LetNo r s i L N w) :=
  letter_no r s i L N w hb hs hi (by simp only [isLet, decide_eq_false (show ¬ 97 ≤ (s[i].toNat : Int) by omega)]; rfl)

theorem letter_high (r : Nat) (s : ByteArray) (i L N : Nat) (w : World) (hb : RB w r s i L N) (hs : s.size ≤ 140737488351232) (hi : i < s.size) (hc : 104 < (s[i].toNat : Int)) :
    Calls Tryz.prog 120 #[.pointer (some ⟨r, 0, none⟩)] w (LetNo r s i L N w) :=
  letter_no r s i L N w hb hs hi (by simp only [isLet, decide_eq_false (show ¬ (s[i].toNat : Int) ≤ 104 by omega), Bool.and_false])

set_option maxRecDepth 100000 in
set_option maxHeartbeats 1000000 in
theorem letter_yes (r : Nat) (s : ByteArray) (i L N : Nat) (w : World) (hb : RB w r s i L N) (hs : s.size ≤ 140737488351232) (hi : i < s.size) (hc : 97 ≤ (s[i].toNat : Int)) (hc' : (s[i].toNat : Int) ≤ 104) :
    Calls Tryz.prog 120 #[.pointer (some ⟨r, 0, none⟩)] w (LetYes r s i L N s[i] w) := by
  obtain ⟨c0, c1, c2, c3, f1, f2, f3⟩ := hb.cells
  have HB := Lib.hid hb
  have hne : ((i : Int) == (s.size : Int)) = false := by simp; omega
  clear hb
  have hw1 := wrap_next hs hi
  have hq1 : (0 : Int) ≤ (i : Int) + 1 := by omega
  have hq2 : (i : Int) + 1 ≤ (s.size : Int) := by omega
  have hq3 : (i : Int) ≤ (i : Int) + 1 := by omega
  have HE := Lib.hid (extract_here hi)
  have hcc : isLet [s[i]] = true := by simp only [isLet, decide_eq_true hc, decide_eq_true hc']; rfl
  have HC : Hid (∀ w : World, Calls Tryz.prog 62 #[.string ⟨#[s[i]]⟩] w fun e w' => e = .returned (.bool true) ∧ w' = w) := Lib.hid fun w => by have := isLetter_one s[i] w; rw [hcc] at this; exact this
  clear hcc
  go_enter Tryz.func120, Tryz.ntmps120
  go_wp2_with fail
  go_quiet ((go_at_call 62; rw [HE.out]; refine Calls.quiet_of_same (v := .bool true) ?_; exact HC.out _))
  go_wp2_with fail
  go_quiet (fail)
  rename_i nq2
  go_wp2_with fail
  go_ret2
  refine ⟨ret_str2 HE.out, ?_, grownBy_drewN (grownBy_setCell (grownBy_drewN (grownBy_refl _ _) _) _) _, by simp⟩
  have h1 := heap_setCell_same (k := 1) (RB.drewN HB.out nq) (.int .i64 (i + 1))
  unfold RB
  refine Eq.trans h1 ?_
  rfl
end Go.Proofs.YtoeebipahifpcaaGreat
