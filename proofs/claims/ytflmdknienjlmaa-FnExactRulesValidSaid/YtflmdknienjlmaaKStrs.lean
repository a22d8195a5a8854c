/- Merged out of: XStrArgC, XStrs, XStrArg. -/
import Derived.Test.YtflmdknienjlmaaKPathsI
import Derived.ProofKit
import Derived.Test.YtflmdknienjlmaaLawA
import Derived.Deep.QuietTactic
import Derived.BigQuiet
section
/- A list of texts that comes in: its size told, its copy made. -/
namespace Go.Proofs.Ytflmdknienjlmaa
open Go.RowKit

/-- A slice from outside reads as these texts. -/
def LiesO (w : World) (a : Option Addr) (ss : List ByteArray) : Prop := ∀ j (h : j < ss.length), ∃ b off, a = some ⟨b, off, none⟩ ∧ w.cell? ⟨b, off + j, none⟩ = some (.string ss[j])

theorem LiesO.below {w w' : World} {a : Option Addr} {ss : List ByteArray} (h : LiesO w a ss) (hb : Below w.heap.size w w') : LiesO w' a ss := fun j hj => by
  obtain ⟨b, off, e, hc⟩ := h j hj
  exact ⟨b, off, e, keep1 hb hc⟩

/-- The texts' bytes. -/
def txl (ss : List ByteArray) : List (List UInt8) := ss.map fun s => s.data.toList

theorem txl_length (ss : List ByteArray) : (txl ss).length = ss.length := by simp [txl]

theorem txl_get {ss : List ByteArray} {j : Nat} (h : j < (txl ss).length) : (⟨((txl ss)[j]).toArray⟩ : ByteArray) = ss[j]'(by rw [txl_length] at h; exact h) := by
  have e : (txl ss)[j] = (ss[j]'(by rw [txl_length] at h; exact h)).data.toList := by simp only [txl, List.getElem_map]
  rw [e]

theorem cellsStr : Try.prog.cellsOf 9 = 1 := by kernel_rfl

set_option maxRecDepth 100000 in
/-- A []string among the arguments. -/
theorem open_txts {H : Type} {enc : TypeId × Value → H} {W : World} {spare : Nat → Bool} {held : Bool} {v : Value} {d : DataW H} {p : List MemPlace} {b : Nat}
    (hv : Value.okWide Try.prog W .any b 34 v) (h : DataW.Trod enc Try.prog W 0 spare held 34 v d p) :
    ∃ (a : Option Addr) (cap : Nat) (ss : List ByteArray), v = .slice a ss.length cap ∧ LiesO W a ss ∧ (∀ s ∈ ss, s.size ≤ 9223372036854775807) ∧ ss.length ≤ 9223372036854775807 := by
  obtain ⟨a0, len, cap, rfl⟩ := Go.WideShapes.okWide_slice Try.underlying34 hv
  obtain ⟨fuel, hf⟩ := h
  rcases Go.ChangeShapes.open_strings Try.underlying34 Try.underlying9 cellsStr hf with ⟨hcs, hx⟩ | ⟨a, len', cap', ss, hcs, _, hl, hm, hz, hx, hcell, hws⟩
  · simp [Value.cells] at hcs
    obtain ⟨rfl, rfl, rfl⟩ := hcs
    exact ⟨none, 0, [], rfl, fun j h => by simp at h, fun s h => by simp at h, by simp⟩
  · simp [Value.cells] at hcs
    obtain ⟨rfl, rfl, rfl⟩ := hcs
    have hle : len ≤ ss.length := by rw [hz]; split <;> omega
    simp only [maxLen, show (2 ^ 63 - 1 : Nat) = 9223372036854775807 from rfl] at hm hws
    refine ⟨some a, cap, ss.take len, by rw [List.length_take, Nat.min_eq_left hle], ?_, fun s hs => hws s (List.mem_of_mem_take hs), by rw [List.length_take]; omega⟩
    intro j hj
    rw [List.length_take] at hj
    have hc := hcell j (by omega)
    obtain ⟨b, off, spot⟩ := a
    have hspot : spot = none := by simpa [Addr.add] using World.cell?_spot (hcell 0 (by omega))
    subst hspot
    refine ⟨b, off, rfl, ?_⟩
    have e : (⟨b, off, none⟩ : Addr).add j = ⟨b, off + j, none⟩ := by unfold Addr.add; split <;> simp_all
    rw [e] at hc
    rw [hc, List.getElem_take]
    congr 2
    rw [List.getD_eq_getElem?_getD, List.getElem?_eq_getElem (by omega)]
    rfl

/-- How much is left: below 0, or all lengths are small. -/
def SzPost (ss : List ByteArray) (w : World) (e : Ending) (w' : World) : Prop :=
  Below w.heap.size w w' ∧ ∃ v : Int, e = .returned (.int .i64 v) ∧ (v < 0 ∨ (0 ≤ v ∧ ss.length ≤ 1048576 ∧ ∀ j (h : j < ss.length), (ss[j]).size ≤ 1048576))

/-- A copy in new memory. -/
def CopyPost (ss : List ByteArray) (w : World) (e : Ending) (w' : World) : Prop :=
  Below w.heap.size w w' ∧ ∃ g, e = .returned (.slice (some ⟨g, 0, none⟩) ss.length ss.length) ∧ w.heap.size ≤ g ∧ Lies w' (some ⟨g, 0, none⟩) (txl ss)

end Go.Proofs.Ytflmdknienjlmaa
end
section
/- The laws' own helpers on lists of texts: equal, marked, held. (what the exact laws want besides) -/
namespace Go.Proofs.Ytflmdknienjlmaa
open Go.RowKit

set_option maxRecDepth 100000 in
set_option maxHeartbeats 1000000 in
theorem markText_any (k : Nat) (w : World) (hk : 0 < k) (hk2 : k ≤ 100000000) :
    Calls Try.prog 56 #[.int .i64 k] w (Ans (.string ⟨(mark k).toArray⟩) w) := by
  go_enter Try.func56, Try.ntmps56
  go_wp2_with fail
  go_loopw [0, 3] (fun kv ov wr => ∃ (j f : Nat) (out : List UInt8), kv = .int .i64 j ∧ ov = .string ⟨out.toArray⟩ ∧ digits 20 k = digits f j ++ out ∧ j ≤ 100000000 ∧ out.length + f ≤ 20 ∧ j < 10 ^ f ∧ Below w.heap.size w wr) (fun kv _ _ => (intOf kv).toNat)
  case atStart => exact ⟨k, 20, [], rfl, rfl, by simp, hk2, by simp, by omega, Below.refl _ _⟩
  case round =>
    obtain ⟨j, f, out, rfl, rfl, hd, hj, hf, hp, hB⟩ := hrel
    have HD := Lib.hid hd
    have HP := Lib.hid hp
    have hol : (⟨out.toArray⟩ : ByteArray).size = out.length := by simp [ByteArray.size]
    have hol2 : out.length ≤ 20 := by omega
    clear hd hp
    by_cases h0 : 0 < j
    · have hcv := digit_conv j wr
      go_wp2_with fail
      exact ⟨⟨j / 10, f - 1, dg j :: out, by first | rfl | go_num, by
          rw [show dg j :: out = [dg j] ++ out from rfl, ← bytes_append], by
          obtain ⟨f', rfl⟩ : ∃ f', f = f' + 1 := ⟨f - 1, by have := HP.out; rcases f with _ | f; (simp at this; omega); omega⟩
          rw [HD.out, digits, if_neg (by omega)]; simp, by omega, by simp; have := HP.out; rcases f with _ | f; (simp at this; omega); omega, by
          obtain ⟨f', rfl⟩ : ∃ f', f = f' + 1 := ⟨f - 1, by have := HP.out; rcases f with _ | f; (simp at this; omega); omega⟩
          have := HP.out
          rw [Nat.pow_succ] at this
          simp only [Nat.add_sub_cancel]
          omega, hB.alloc hB.size _⟩, by simp [intOf]; omega⟩
    · obtain rfl : j = 0 := by omega
      have hd0 : digits 20 k = out := by
        rw [HD.out]; cases f <;> simp [digits]
      have HD0 := Lib.hid hd0
      clear hd0
      go_wp2_with fail
      go_ret
      refine ⟨?_, hB⟩
      rw [mark, HD0.out, show (109 :: out : List UInt8) = [109] ++ out from rfl, ← bytes_append]
      rfl

set_option maxRecDepth 100000 in
set_option maxHeartbeats 1000000 in
theorem eqStringS_any (ps : List (List UInt8)) (a b : Option Addr) (ca cb : Nat) (w : World) (hn : ps.length ≤ 1048576) (ha : Lies w a ps) (hb : Lies w b ps) :
    Calls Try.prog 22 #[.slice a ps.length ca, .slice b ps.length cb] w (Ans (.bool true) w) := by
  have HA := Lib.hid ha
  have HB := Lib.hid hb
  clear ha hb
  go_enter Try.func22, Try.ntmps22
  go_wp2_with fail
  go_loopw [5] (fun i wr => ∃ k : Nat, k ≤ ps.length ∧ i = .int .i64 k ∧ Below w.heap.size w wr) (fun i _ => ps.length - (intOf i).toNat)
  case atStart => exact ⟨0, Nat.zero_le _, rfl, Below.refl _ _⟩
  case round =>
    obtain ⟨k, hk, rfl, hB⟩ := hrel
    by_cases hlt : k < ps.length
    · obtain ⟨g, ea, c1⟩ := (HA.out.below hB) k hlt
      obtain ⟨g', eb, c2⟩ := (HB.out.below hB) k hlt
      subst ea eb
      have k0 : (0 : Int) ≤ k := by omega
      go_wp2_with fail
      go_quiet (fail)
      go_wp2_with fail
      exact ⟨⟨k + 1, by omega, by go_num, below_drewN hB nq⟩, by simp [intOf]; omega⟩
    · go_wp2_with fail
      go_ret
      exact ⟨rfl, hB⟩

set_option maxRecDepth 100000 in
set_option maxHeartbeats 1000000 in
theorem markStringS_any (n : Nat) (g cap m : Nat) (cur : Array Value) (w : World) (hn : n ≤ 1000000) (hm : 0 < m) (hm2 : m ≤ 1000000) (hcur : w.heap[g]? = some (.cells cur 9 (0, 0))) (hcs : n ≤ cur.size) :
    Calls Try.prog 23 #[.slice (some ⟨g, 0, none⟩) n cap, .int .i64 m] w fun e w' => e = .returned (.int .i64 (m + n : Nat)) ∧ w.grownBy w' (some g) ∧ Lies w' (some ⟨g, 0, none⟩) ((List.range n).map fun j => mark (m + j)) := by
  have HC := Lib.hid hcur
  clear hcur
  go_enter Try.func23, Try.ntmps23
  go_wp2_with fail
  go_loopw [1, 5] (fun mv i wr => ∃ (k : Nat) (cr : Array Value), k ≤ n ∧ i = .int .i64 k ∧ mv = .int .i64 (m + k : Nat) ∧ wr.heap[g]? = some (.cells cr 9 (0, 0)) ∧ n ≤ cr.size ∧ (∀ j, j < k → cr[j]? = some (.string ⟨(mark (m + j)).toArray⟩)) ∧ w.grownBy wr (some g)) (fun _ i _ => n - (intOf i).toNat)
  case atStart => exact ⟨0, cur, Nat.zero_le _, rfl, by simp, HC.out, hcs, fun j h => by omega, grownBy_refl _ _⟩
  case round =>
    obtain ⟨k, cr, hk, rfl, rfl, hc, hcs2, hj, hg⟩ := hrel
    have H1 := Lib.hid hc
    have H2 := Lib.hid hj
    have hgl := (Array.getElem?_eq_some_iff.1 hc).1
    clear hc hj
    by_cases hlt : k < n
    · have HM := Lib.hid (markText_any (m + k) wr (by omega) (by omega))
      go_wp2_with fail
      refine HM.out.mono ?_
      rintro e w1 ⟨rfl, hb1⟩
      have hc1 : w1.heap[g]? = some (.cells cr 9 (0, 0)) := (hb1.block g hgl).trans H1.out
      have hcc : w1.cell? ⟨g, k, none⟩ = some (cr[k]'(by omega)) := by rw [Lib.cell_of_heap hc1]; simp
      have hff : w1.frozen? ⟨g, k, none⟩ = false := Lib.frozen_of_heap hc1 k
      have H3 := Lib.hid (heap_setCell_same (k := k) hc1 (.string ⟨(mark (m + k)).toArray⟩))
      have H4 := Lib.hid (grownBy_setCell (k := k) (grownBy_below hg hb1) (.string ⟨(mark (m + k)).toArray⟩))
      clear hc1
      go_wp2_with fail
      refine ⟨⟨k + 1, _, by omega, by go_num, by go_num, H3.out, by simpa using hcs2, ?_, H4.out⟩, by simp [intOf]; omega⟩
      intro j hjk
      by_cases hjk2 : j = k
      · subst hjk2
        rw [Array.getElem?_setIfInBounds, if_pos rfl, if_pos (by omega)]
      · rw [Array.getElem?_setIfInBounds, if_neg (by omega)]
        exact H2.out j (by omega)
    · obtain rfl : k = n := by omega
      go_wp2_with fail
      go_ret
      refine ⟨rfl, hg, fun j hj => ⟨g, rfl, ?_⟩⟩
      simp at hj
      rw [Lib.cell_of_heap H1.out, H2.out j hj]
      simp

set_option maxRecDepth 100000 in
set_option maxHeartbeats 1000000 in
theorem heldStringS_any (n : Nat) (a : Option Addr) (cap m : Nat) (w : World) (hn : n ≤ 1000000) (hm : 0 < m) (hm2 : m ≤ 1000000) (hl : Lies w a ((List.range n).map fun j => mark (m + j))) :
    Calls Try.prog 24 #[.slice a n cap, .int .i64 m] w (Ans (.int .i64 (m + n : Nat)) w) := by
  have HL := Lib.hid hl
  clear hl
  go_enter Try.func24, Try.ntmps24
  go_wp2_with fail
  go_loopw [1, 5] (fun mv i wr => ∃ (k : Nat), k ≤ n ∧ i = .int .i64 k ∧ mv = .int .i64 (m + k : Nat) ∧ Below w.heap.size w wr) (fun _ i _ => n - (intOf i).toNat)
  case atStart => exact ⟨0, Nat.zero_le _, rfl, by simp, Below.refl _ _⟩
  case round =>
    obtain ⟨k, hk, rfl, rfl, hB⟩ := hrel
    by_cases hlt : k < n
    · obtain ⟨g, ea, c1⟩ := (HL.out.below hB) k (by simpa using hlt)
      subst ea
      have hmk : ((List.range n).map fun j => mark (m + j))[k]'(by simpa using hlt) = mark (m + k) := by simp
      rw [hmk] at c1
      have k0 : (0 : Int) ≤ k := by omega
      have c1' : wr.drew.cell? ⟨g, k, none⟩ = some (.string ⟨(mark (m + k)).toArray⟩) := c1
      have HM := Lib.hid (fun w => markText_any (m + k) w (by omega) (by omega))
      clear hmk
      go_wp2_with fail
      go_region_with ((go_at_call 56; refine (HM.out _).mono ?_; rintro e w1 ⟨rfl, hb1⟩; have x1 := keep1 (w := wr.drew) hb1 c1'))
      all_goals
        go_wp2_with fail
        exact ⟨⟨k + 1, by omega, by go_num, by go_num, hB.trans ((Below.refl _ _).drew.trans (hb1.mono hB.size))⟩, by simp [intOf]; omega⟩
    · obtain rfl : k = n := by omega
      go_wp2_with fail
      go_ret
      exact ⟨rfl, hB⟩

end Go.Proofs.Ytflmdknienjlmaa
end
section
/- A list of texts that comes in: its size told, its copy made. (what the exact laws want besides) -/
namespace Go.Proofs.Ytflmdknienjlmaa
open Go.RowKit

end Go.Proofs.Ytflmdknienjlmaa
end
