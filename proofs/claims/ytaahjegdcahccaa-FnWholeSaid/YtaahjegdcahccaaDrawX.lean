/- A text is drawn. -/
import Derived.Test.YtaahjegdcahccaaDrawT
namespace Go.Proofs.Ytaahjegdcahccaa
open Go.RowKit

/-- A drawn text: short, and the reader moved on. -/
def TextDr (R : Nat) (a : Option Addr) (cap : Nat) (bs : List Nat) (p d : Nat) (w : World) (e : Ending) (w' : World) : Prop :=
  w.grownBy w' (some R) ∧ ∃ (s : ByteArray) (q : Nat), e = .returned (.string s) ∧ s.size ≤ 2000 ∧ RdR w' R a cap bs q ∧ q ≤ p + 1 + 3 ^ d

def badTexts : List ByteArray := [⟨#[]⟩, ⟨#[40, 97, 41]⟩, ⟨#[40, 97, 32, 42, 32, 42]⟩, ⟨#[40, 105, 32, 42, 32, 42, 41]⟩, ⟨#[40, 97, 32, 32, 42, 32, 42, 41]⟩, ⟨#[42, 42]⟩, ⟨#[40, 97, 32, 42, 41]⟩, ⟨#[40, 97, 32, 42, 32, 42, 32, 42, 32, 42, 32, 42, 32, 42, 32, 42, 41]⟩]

theorem badTexts_size : ∀ s ∈ badTexts, s.size ≤ 2000 := by decide

def badCells : Array Value := #[.string ⟨#[]⟩, .string ⟨#[40, 97, 41]⟩, .string ⟨#[40, 97, 32, 42, 32, 42]⟩, .string ⟨#[40, 105, 32, 42, 32, 42, 41]⟩, .string ⟨#[40, 97, 32, 32, 42, 32, 42, 41]⟩, .string ⟨#[42, 42]⟩, .string ⟨#[40, 97, 32, 42, 41]⟩, .string ⟨#[40, 97, 32, 42, 32, 42, 32, 42, 32, 42, 32, 42, 32, 42, 32, 42, 41]⟩]

theorem badCells_get : ∀ j (h : j < 8), badCells[j]? = some (.string (badTexts[j]'h)) := by
  intro j h
  match j, h with
  | 0, _ => rfl
  | 1, _ => rfl
  | 2, _ => rfl
  | 3, _ => rfl
  | 4, _ => rfl
  | 5, _ => rfl
  | 6, _ => rfl
  | 7, _ => rfl

theorem bad_of (R : Nat) (a : Option Addr) (cap : Nat) (bs : List Nat) (p : Nat) (w : World) (h : RdR w R a cap bs p) (hp : p ≤ 1000000) :
    Calls Try.prog 133 #[.pointer (some ⟨R, 0, none⟩), .slice (some ⟨w.heap.size, 0, none⟩) 8 8] (w.alloc (.cells badCells 9 (0, 0))) (OfPost R a cap bs p badTexts (w.alloc (.cells badCells 9 (0, 0)))) := by
  refine of_any R a cap p bs _ w.heap.size 0 8 badTexts (h.grown (grownBy_below (grownBy_refl w none) ((Below.refl _ _).alloc (Nat.le_refl _) _)) (fun _ e => by cases e)) hp (by decide) (by decide) (by have := h.cells.2.2.2; omega) ?_
  intro j hj
  have h1 : (w.alloc (.cells badCells 9 (0, 0))).heap[w.heap.size]? = some (.cells badCells 9 (0, 0)) := heap_alloc_new w _
  simp only [World.cell?, h1, Nat.zero_add]
  exact badCells_get j hj

set_option maxRecDepth 100000 in
set_option maxHeartbeats 2000000 in
theorem l91Text_any (R : Nat) (a : Option Addr) (cap : Nat) (bs : List Nat) (d p : Nat) (w : World) (hd : d ≤ 5) (hp : p + 1 + 3 ^ d ≤ 1000000) (h : RdR w R a cap bs p) :
    Calls Try.prog 114 #[.pointer (some ⟨R, 0, none⟩), .int .i64 d] w (TextDr R a cap bs p d w) := by
  have hp1 : 1 ≤ 3 ^ d := Nat.one_le_pow _ _ (by decide)
  have HP := Lib.hid (show p + 1 + 3 ^ d ≤ 1000000 ∧ 1 ≤ 3 ^ d from ⟨hp, hp1⟩)
  have HR := Lib.hid h
  have HP1 := Lib.hid (pick_any R a cap p 20 bs w h (by omega) (by omega) (by omega))
  clear h hp hp1
  go_enter Try.func114, Try.ntmps114
  go_wp2_with fail
  refine HP1.out.mono ?_
  rintro e w1 ⟨⟨k1, hk1, rfl⟩, hg1, hs1, hr1⟩
  have HG1 := Lib.hid hg1
  have HR1 := Lib.hid hr1
  clear hg1 hs1 hr1
  by_cases hk0 : k1 = 0
  · subst hk0
    have HO := Lib.hid (bad_of R a cap bs (p + 1) w1 HR1.out (by have := HP.out; omega))
    go_wp2_with fail
    refine HO.out.mono ?_
    rintro e w2 ⟨⟨s, hs, rfl⟩, hg2, hs2, hr2⟩
    have hsz := badTexts_size s hs
    have hb : w1.grownBy (w1.alloc (.cells badCells 9 (0, 0))) none := grownBy_below (grownBy_refl _ _) ((Below.refl _ _).alloc (Nat.le_refl _) _)
    have ALL := Lib.hid (show w.grownBy w2 (some R) ∧ RdR w2 R a cap bs (p + 2) from ⟨grownBy_trans (grownBy_over HG1.out hb (fun _ e => by cases e)) hg2, hr2⟩)
    clear hg2 hs2 hr2 hs hb
    go_wp2_with fail
    go_ret
    exact ⟨ALL.out.1, s, p + 2, rfl, hsz, ALL.out.2, by have := HP.out; omega⟩
  · have h2 : ((k1 : Int) == 0) = false := beq_false_of_ne (by omega)
    have HT := Lib.hid (l91Tree_any R a cap bs d (p + 1) w1 hd (by have := HP.out; omega) HR1.out)
    go_wp2_with fail
    refine HT.out.mono ?_
    rintro e w2 ⟨hg2, t, lb, sa, sn, sc, q, rfl, hrep, hwf, hlv, hnd, hrd, hq⟩
    have h5 : 3 ^ d ≤ 243 := Nat.pow_le_pow_right (by decide) hd
    have htl := text_length t
    have HT2 := Lib.hid (l1Text_any _ t _ _ w2 _ (Nat.le_refl _) hwf (by omega) hrep)
    have HG2 := Lib.hid (grownBy_trans HG1.out hg2)
    have HRD := Lib.hid hrd
    have hsz : t.text.length ≤ 2000 := by omega
    clear hg2 hrep hrd htl
    go_wp2_with fail
    refine HT2.out.mono ?_
    rintro e w3 ⟨rfl, hb3⟩
    have HB3 := Lib.hid hb3
    clear hb3
    go_wp2_with fail
    go_ret
    exact ⟨grownBy_below HG2.out HB3.out, ⟨t.text.toArray⟩, q, rfl, by change t.text.toArray.size ≤ 2000; simpa using hsz, HRD.out.grown (grownBy_below (grownBy_refl _ none) HB3.out) (fun _ e => by cases e), by omega⟩

/-- What a draw of a text is good for. -/
def DrPost (w : World) (e : Ending) (w' : World) : Prop := Below w.heap.size w w' ∧ ∃ s : ByteArray, e = .returned (.string s) ∧ s.size ≤ 2000

theorem below_over {w w1 w2 : World} {row : Option Nat} (h : Below w.heap.size w w1) (hg : w1.grownBy w2 row) (hr : ∀ r, row = some r → w.heap.size ≤ r) : Below w.heap.size w w2 :=
  h.grown hg h.size hr

set_option maxHeartbeats 1000000 in
theorem dTree_any (bs : List Nat) (a : Option Addr) (cap : Nat) (w : World) (hn : bs.length ≤ 9223372036854775807) (hcap : bs.length ≤ cap) (h8 : ∀ z ∈ bs, z ≤ 255) (hl : LiesB w a bs) :
    Calls Try.prog 69 #[.slice a bs.length cap] w (DrPost w) := by
  have HO := Lib.hid (l6Open_any bs a cap w hn hcap h8 hl)
  clear h8 hl
  go_enter Try.func69, Try.ntmps69
  go_wp2_with fail
  refine HO.out.mono ?_
  rintro e w1 ⟨rfl, hb1, hr1⟩
  have HX := Lib.hid (l91Text_any w.heap.size a cap (bs.take 2000) 3 0 w1 (by decide) (by decide) hr1)
  have HB1 := Lib.hid hb1
  clear hb1 hr1
  go_wp2_with fail
  refine HX.out.mono ?_
  rintro e w2 ⟨hg2, s, q, rfl, hsz, hr2, hq⟩
  have HB2 := Lib.hid (below_over HB1.out hg2 (fun r e => by cases e; exact Nat.le_refl _))
  clear hg2 hr2
  go_wp2_with fail
  go_ret
  exact ⟨HB2.out, s, rfl, hsz⟩
end Go.Proofs.Ytaahjegdcahccaa
