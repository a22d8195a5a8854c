/- Series by the program: cloned, multiplied, added, turned. -/
import Derived.Test.YtnobpckmlhgeiaaSerI
import Derived.Deep.RegionHeld3
import Derived.Deep.RegionWith
import Derived.RegionTactic
namespace Go.Proofs.Ytnobpckmlhgeiaa
open Go.RowKit

theorem NumR.of_owns {w : World} {base g n cap : Nat} {xs : List Value} {f : Nat → Int} (h : w.ownsRow base 3 1 (.slice (some ⟨g, 0, none⟩) n cap) n xs) (hx : ∀ j, j < n → xs[j]? = some (.int .i64 (f j))) : NumR w g n f ∧ base ≤ g ∧ n ≤ cap := by
  rcases h.2 with ⟨e, _⟩ | ⟨g', cap', cur, e, hb, hg, hn, _, hs, ht⟩
  · cases e
  · simp only [Value.slice.injEq, Option.some.injEq, Addr.mk.injEq] at e
    obtain ⟨⟨rfl, _⟩, _, rfl⟩ := e
    refine ⟨⟨cur, hg, by omega, fun j hj => ?_⟩, hb, hn⟩
    have := hx j hj
    rw [← ht, List.getElem?_take, if_pos (by omega)] at this
    simpa using this

/-- The numbers as values. -/
def numVals (n : Nat) (f : Nat → Int) : List Value := (List.range n).map fun j => Value.int .i64 (f j)
theorem numVals_length (n : Nat) (f : Nat → Int) : (numVals n f).length = n := by simp [numVals]
theorem numVals_get {n : Nat} {f : Nat → Int} {j : Nat} (h : j < n) : (numVals n f)[j]? = some (.int .i64 (f j)) := by simp [numVals, h]

set_option maxRecDepth 100000 in
set_option maxHeartbeats 1000000 in
theorem cloneSer_any (n : Nat) (f : Nat → Int) (a : Option Addr) (cap : Nat) (w : World) (hn : 0 < n) (hn2 : n ≤ 1000000) (hl : NumO w a n f) :
    Calls Try.prog 53 #[.slice a n cap] w (NumNew n f w) := by
  obtain ⟨i0, hi0, hz, hzs, hzb⟩ := info_parts infoNum
  obtain ⟨b, o, ea, c0⟩ := hl 0 hn
  subst ea
  have R0 : Hid ((w.alloc (.cells #[] 3)).ownsRow w.heap.size 3 1 (.slice (some ⟨w.heap.size, 0, none⟩) 0 0) 0 []) := Lib.hid (World.ownsRow_made w #[] 0 (Nat.le_refl _) (by simp [maxLen]) rfl)
  have HL := Lib.hid hl
  have hnil : (binOp .eql 36 (.slice (some ⟨b, o, none⟩) n cap) (.slice none 0 0)).run Try.prog w = .ok (.bool false) w := by
    simp only [binOp]
    simp [Op.equal, Op.maxDepth, Lib.run_equalIn_slice_nil w 9999 36 3 (some ⟨b, o, none⟩) n cap 0 0 Try.underlying36]
  clear hl c0
  go_enter Try.func53, Try.ntmps53
  go_wp2_with (at_builtin; refine wpList_append_new _ rfl _ _ 36 rfl w.heap.size 3 i0 (.int .i64 0) 1 8 Try.underlying36 hi0 hz hzs hzb rfl (by decide) _ _ _ rfl R0.out ⟨b, o, none⟩ n cap (numVals n f) hn rfl ?c1 ?c2 ?c3 ?c4 ?c5 ?c6 ?_)
  case c1 => rw [numVals_length]; omega
  case c2 =>
    intro j u hu
    have hj : j < n := by
      have := (List.getElem?_eq_some_iff.1 hu).1
      rw [numVals_length] at this; exact this
    rw [numVals_get hj] at hu
    simp only [Option.some.injEq] at hu
    subst hu
    obtain ⟨b', o', e, hc⟩ := HL.out j hj
    simp only [Option.some.injEq, Addr.mk.injEq] at e
    obtain ⟨rfl, rfl, _⟩ := e
    have e : (⟨b, o, none⟩ : Addr).add j = ⟨b, o + j, none⟩ := by unfold Addr.add; split <;> simp_all
    rw [e]
    exact keep1 ((Below.refl _ _).alloc (Nat.le_refl _) _) hc
  case c3 =>
    intro u hu
    obtain ⟨j, _, rfl⟩ := List.mem_map.1 hu
    rfl
  case c4 => unfold maxLen; omega
  case c5 => omega
  case c6 => simp
  intro g2 cap2 w2 hown hg _
  have HO := Lib.hid hown
  have HG := Lib.hid hg
  clear hown hg
  go_wp2_with fail
  go_ret
  have h := NumR.of_owns HO.out (f := f) (fun j hj => numVals_get hj)
  exact ⟨((Below.refl _ _).alloc (Nat.le_refl _) _).grown HG.out (by simp) (fun q e => by simp [Value.ownBlock] at e; omega), g2, cap2, rfl, h.2.1, h.2.2, h.1⟩

set_option maxRecDepth 100000 in
set_option maxHeartbeats 1000000 in
theorem turned_any (n : Nat) (f : Nat → Int) (a : Option Addr) (cap : Nat) (w : World) (hn : 0 < n) (hn2 : n ≤ 8) (hb : ∀ j, j < n → -1000000 ≤ f j ∧ f j ≤ 1000000) (hl : NumO w a n f) :
    Calls Try.prog 44 #[.slice a n cap] w (NumNew n (serTurn f) w) := by
  have HC := Lib.hid (cloneSer_any n f a cap w hn (by omega) hl)
  have HBD := Lib.hid hb
  clear hl hb
  go_enter Try.func44, Try.ntmps44
  go_wp2_with fail
  refine HC.out.mono ?_
  rintro e w1 ⟨hB1, g, c, rfl, hg, hcc, hr⟩
  have HB1 := Lib.hid hB1
  have HR := Lib.hid hr
  clear hB1 hr
  go_wp2_with fail
  go_loopw [4] (fun iv wr => ∃ k : Nat, k ≤ n + 1 ∧ k % 2 = 1 ∧ iv = .int .i64 k ∧ NumR wr g n (fun j => if j < k then serTurn f j else f j) ∧ Below w.heap.size w wr) (fun iv _ => n + 2 - (intOf iv).toNat)
  case atStart => exact ⟨1, by omega, rfl, rfl, HR.out.congr (fun j hj => by
    split
    · have : j = 0 := by omega
      subst this; rfl
    · rfl), HB1.out⟩
  case round =>
    obtain ⟨k, hk, hodd, rfl, hr, hB⟩ := hrel
    have HR := Lib.hid hr
    clear hr
    by_cases hlt : k < n
    · have c0 := HR.out.cell hlt
      rw [if_neg (Nat.lt_irrefl _)] at c0
      have f0 := HR.out.frozen k
      have hbk := HBD.out k hlt
      obtain ⟨x, hx⟩ : ∃ x, x = f k := ⟨_, rfl⟩
      rw [← hx] at c0 hbk
      have HX := Lib.hid hx
      have H3 := Lib.hid (HR.out.put (k := k) (-x))
      have H4 := Lib.hid (hB.setCell (p := ⟨g, k, none⟩) (by simpa using hg) (.int .i64 (-x)))
      have hgl := HR.out.lt
      clear hx
      go_wp2_with fail
      refine ⟨⟨k + 2, by omega, by omega, by go_num, H3.out.congr (fun j hj => ?_), H4.out⟩, by simp [intOf]; omega⟩
      by_cases e : j = k
      · subst e; rw [if_pos rfl, if_pos (by omega), HX.out, serTurn, if_pos hodd]
      · rw [if_neg e]
        by_cases h2 : j < k
        · rw [if_pos h2, if_pos (by omega)]
        · rw [if_neg h2]
          by_cases h3 : j = k + 1
          · subst h3; rw [if_pos (by omega), serTurn, if_neg (by omega)]
          · rw [if_neg (by omega)]
    · go_wp2_with fail
      go_ret
      exact ⟨hB, g, c, rfl, hg, hcc, HR.out.congr (fun j hj => by rw [if_pos (by omega)])⟩

end Go.Proofs.Ytnobpckmlhgeiaa
