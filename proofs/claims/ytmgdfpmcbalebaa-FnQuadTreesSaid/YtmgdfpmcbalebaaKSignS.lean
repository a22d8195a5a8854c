/- Merged out of: XSymC, XSignS. -/
import Derived.Test.YtmgdfpmcbalebaaKStrT
import Derived.Deep.SlicePairs
import Derived.OpenShut
section
/- A list of symbols that comes in: its size told, its copy made, two copies compared. -/
namespace Go.Proofs.Ytmgdfpmcbalebaa
open Go.RowKit

/-- A slice of symbols reads as these letters and arities. -/
def SymO (w : World) (a : Option Addr) (ys : List (ByteArray × Int)) : Prop := ∀ j (h : j < ys.length), ∃ b off, a = some ⟨b, off, none⟩ ∧ w.cell? ⟨b, off + j * 2, none⟩ = some (.string (ys[j]).1) ∧ w.cell? ⟨b, off + j * 2 + 1, none⟩ = some (.int .i64 (ys[j]).2)

theorem SymO.below {w w' : World} {a : Option Addr} {ys : List (ByteArray × Int)} (h : SymO w a ys) (hb : Below w.heap.size w w') : SymO w' a ys := fun j hj => by
  obtain ⟨b, off, e, hc, hd⟩ := h j hj
  exact ⟨b, off, e, keep1 hb hc, keep1 hb hd⟩

/-- .. in memory of the call's own. -/
def SymL (w : World) (g : Nat) (ys : List (ByteArray × Int)) : Prop := ∀ j (h : j < ys.length), w.cell? ⟨g, j * 2, none⟩ = some (.string (ys[j]).1) ∧ w.cell? ⟨g, j * 2 + 1, none⟩ = some (.int .i64 (ys[j]).2)

theorem SymL.below {w w' : World} {g : Nat} {ys : List (ByteArray × Int)} (h : SymL w g ys) (hb : Below w.heap.size w w') : SymL w' g ys := fun j hj => by
  obtain ⟨hc, hd⟩ := h j hj
  exact ⟨keep1 hb hc, keep1 hb hd⟩

/-- The arities are ints. -/
def Arities (ys : List (ByteArray × Int)) : Prop := ∀ j (h : j < ys.length), -9223372036854775808 ≤ (ys[j]).2 ∧ (ys[j]).2 ≤ 9223372036854775807

theorem cellsInt : Try.prog.cellsOf 3 = 1 := by kernel_rfl

theorem cellsSymO : Try.prog.cellsOf 125 = 2 := by kernel_rfl

/-- The choice of what stands behind each index. -/
theorem choose_pairs {n : Nat} {Q : Nat → ByteArray × Int → Prop} (h : ∀ j, j < n → ∃ y, Q j y) : ∃ ys : List (ByteArray × Int), ys.length = n ∧ ∀ j (hj : j < ys.length), Q j ys[j] := by
  induction n with
  | zero => exact ⟨[], rfl, fun j hj => by simp at hj⟩
  | succ n ih =>
    obtain ⟨ys, h1, h2⟩ := ih (fun j hj => h j (by omega))
    obtain ⟨y, hy⟩ := h n (by omega)
    refine ⟨ys ++ [y], by simp [h1], fun j hj => ?_⟩
    by_cases e : j < ys.length
    · rw [List.getElem_append_left e]; exact h2 j e
    · have : j = n := by simp at hj; omega
      subst this
      rw [List.getElem_append_right (by omega)]
      simpa using hy

set_option maxRecDepth 100000 in
/-- A []Symbol among the arguments. -/
theorem open_syms {H : Type} {enc : TypeId × Value → H} {W : World} {spare : Nat → Bool} {held : Bool} {v : Value} {d : DataW H} {p : List MemPlace} {b : Nat}
    (hv : Value.okWide Try.prog W .any b 50 v) (h : DataW.Trod enc Try.prog W 0 spare held 50 v d p) :
    ∃ (a : Option Addr) (cap : Nat) (ys : List (ByteArray × Int)), v = .slice a ys.length cap ∧ SymO W a ys ∧ (∀ j (h : j < ys.length), (ys[j]).1.size ≤ 9223372036854775807) ∧ Arities ys ∧ ys.length ≤ 9223372036854775807 := by
  obtain ⟨a0, len, cap, rfl⟩ := Go.WideShapes.okWide_slice Try.underlying50 hv
  obtain ⟨fuel, hf⟩ := h
  rcases Go.Deep.open_slice_pairs Try.underlying50 Try.underlying125 cellsSymO rfl rfl cellsStr cellsInt hf with ⟨hcs, hx⟩ | ⟨a, len', cap', m, n, V0, V1, D0, D1, P0, P1, hcs, _, hl, hm, hmm, hx, hcell⟩
  · simp [Value.cells] at hcs
    obtain ⟨rfl, rfl, rfl⟩ := hcs
    exact ⟨none, 0, [], rfl, fun j h => by simp at h, fun j h => by simp at h, fun j h => by simp at h, by simp⟩
  · simp [Value.cells] at hcs
    obtain ⟨rfl, rfl, rfl⟩ := hcs
    have hle : len ≤ m := by rw [hmm]; split <;> omega
    simp only [maxLen, show (2 ^ 63 - 1 : Nat) = 9223372036854775807 from rfl] at hm
    have hch : ∀ j, j < len → ∃ y : ByteArray × Int, W.cell? (a.add (j * 2)) = some (.string y.1) ∧ W.cell? (a.add (j * 2 + 1)) = some (.int .i64 y.2) ∧ y.1.size ≤ 9223372036854775807 ∧ (-9223372036854775808 ≤ y.2 ∧ y.2 ≤ 9223372036854775807) := by
      intro j hj
      obtain ⟨c0, c1, t0, t1⟩ := hcell j (by omega)
      obtain ⟨s, e0, _, hs⟩ := DataW.trod_string Try.underlying9 t0
      obtain ⟨x, e1, _, hx⟩ := DataW.trod_int Try.underlying3 t1
      simp only [List.cons.injEq, and_true] at e0 e1
      rw [e0] at c0
      rw [e1] at c1
      refine ⟨(s, x), c0, c1, ?_, ?_⟩
      · simpa only [maxLen, show (2 ^ 63 - 1 : Nat) = 9223372036854775807 from rfl] using hs
      · exact bounds_i64 hx
    obtain ⟨ys, hyl, hyq⟩ := choose_pairs hch
    refine ⟨some a, cap, ys, by rw [hyl], ?_, fun j h => (hyq j h).2.2.1, fun j h => (hyq j h).2.2.2, by omega⟩
    intro j hj
    obtain ⟨h0, h1, _, _⟩ := hyq j hj
    obtain ⟨b, off, spot⟩ := a
    have hspot : spot = none := by
      have h00 := (hyq 0 (by omega)).1
      simpa [Addr.add] using World.cell?_spot h00
    subst hspot
    have e : ∀ n, (⟨b, off, none⟩ : Addr).add n = ⟨b, off + n, none⟩ := fun n => by unfold Addr.add; split <;> simp_all
    rw [e] at h0 h1
    exact ⟨b, off, rfl, h0, by rw [Nat.add_assoc]; exact h1⟩

/-- How much is left: below 0, or all letters are small. -/
def SzSym (ys : List (ByteArray × Int)) (w : World) (e : Ending) (w' : World) : Prop :=
  Below w.heap.size w w' ∧ ∃ v : Int, e = .returned (.int .i64 v) ∧ (v < 0 ∨ (0 ≤ v ∧ ys.length ≤ 1048576 ∧ ∀ j (h : j < ys.length), (ys[j]).1.size ≤ 1048576))

theorem infoSym : (Try.prog.info? 118).map (fun i => (i.zero, i.size, i.bytes)) = some (some (.agg #[.string ⟨#[]⟩, .int .i64 0]), 2, 24) := by kernel_rfl

/-- A copy in new memory. -/
def CopySym (ys : List (ByteArray × Int)) (n : Nat) (w : World) (e : Ending) (w' : World) : Prop :=
  Below w.heap.size w w' ∧ ∃ g, e = .returned (.slice (some ⟨g, 0, none⟩) n n) ∧ w.heap.size ≤ g ∧ SymL w' g ys

end Go.Proofs.Ytmgdfpmcbalebaa
end
section
/- Signatures: what they are; SignValid by the model. -/
namespace Go.Proofs.Ytmgdfpmcbalebaa
open Go.RowKit

/-- A symbol that a signature may have. -/
def okSym (y : ByteArray × Int) : Prop := isLet y.1.data.toList = true ∧ 1 ≤ y.2 ∧ y.2 ≤ 6

/-- The first k symbols are fine, and no letter stands twice. -/
def SignTo (ys : List (ByteArray × Int)) (k : Nat) : Prop := ∀ i (h : i < ys.length), i < k → okSym ys[i] ∧ ∀ j (hj : j < i), (ys[j]'(by omega)).1 ≠ (ys[i]).1

def SignOk (ys : List (ByteArray × Int)) : Prop := ys.length ≤ 6 ∧ SignTo ys ys.length

theorem SignTo.zero (ys : List (ByteArray × Int)) : SignTo ys 0 := fun i _ h => by omega
theorem SignTo.next {ys : List (ByteArray × Int)} {k : Nat} (h : SignTo ys k) (hk : k < ys.length) (h1 : okSym ys[k]) (h2 : ∀ j (hj : j < k), (ys[j]'(by omega)).1 ≠ (ys[k]).1) : SignTo ys (k + 1) := by
  intro i hi hik
  by_cases e : i = k
  · subst e; exact ⟨h1, h2⟩
  · exact h i hi (by omega)

/-- What a function answers that asks whether they are a signature. -/
def SvPost (ys : List (ByteArray × Int)) (w : World) (e : Ending) (w' : World) : Prop :=
  Below w.heap.size w w' ∧ ∃ b, e = .returned (.bool b) ∧ (b = true ↔ SignOk ys)

theorem not_sign {ys : List (ByteArray × Int)} {k : Nat} (hk : k < ys.length) (h : ¬ okSym ys[k]) : ¬ SignOk ys := fun hs => h (hs.2 k hk hk).1

theorem let_of {s : ByteArray} (h : isLet s.data.toList = true) : ∃ c : UInt8, s = ⟨#[c]⟩ ∧ 97 ≤ (c.toNat : Int) ∧ (c.toNat : Int) ≤ 104 := by
  have hd : ∃ c, s.data.toList = [c] := by
    generalize s.data.toList = l at h
    match l, h with
    | [c], _ => exact ⟨c, rfl⟩
    | [], h => simp [isLet] at h
    | _ :: _ :: _, h => simp [isLet] at h
  obtain ⟨c, hc⟩ := hd
  rw [hc] at h
  simp only [isLet, Bool.and_eq_true, decide_eq_true_eq] at h
  refine ⟨c, ?_, h⟩
  apply ByteArray.ext; apply Array.toList_inj.1; rw [hc]

theorem one_of {s : ByteArray} (h : s.size = 1) : ∃ c : UInt8, s = ⟨#[c]⟩ := by
  have h2 : s.data.toList.length = 1 := by rw [Array.length_toList]; exact h
  cases hd : s.data.toList with
  | nil => rw [hd] at h2; simp at h2
  | cons c r => cases r with
    | nil => exact ⟨c, by apply ByteArray.ext; apply Array.toList_inj.1; rw [hd]⟩
    | cons _ _ => rw [hd] at h2; simp at h2

theorem ba_ne {a b : ByteArray} (h : a ≠ b) : (a.toList == b.toList) = false := by
  have : a.toList ≠ b.toList := fun e => h (by
    rw [ByteArray.toList_eq, ByteArray.toList_eq] at e
    exact Go.WideShapes.bytes_inj e)
  exact beq_eq_false_iff_ne.2 this

theorem let_size {s : ByteArray} (h : s.size ≠ 1) : isLet s.data.toList ≠ true := fun hc => by
  obtain ⟨c, rfl, _⟩ := let_of hc
  exact h rfl

theorem let_one {c : UInt8} (h : ¬ (97 ≤ (c.toNat : Int) ∧ (c.toNat : Int) ≤ 104)) : isLet (⟨#[c]⟩ : ByteArray).data.toList ≠ true := fun hc => by
  simp only [isLet, Bool.and_eq_true, decide_eq_true_eq] at hc
  exact h hc

set_option maxRecDepth 100000 in
set_option maxHeartbeats 2000000 in
theorem sSignValid_any (ys : List (ByteArray × Int)) (n : Nat) (hny : n = ys.length) (g cap : Nat) (w : World) (hn : n ≤ 1048576) (hz : ∀ j (h : j < ys.length), (ys[j]).1.size ≤ 1048576) (hl : SymL w g ys) :
    Calls Try.prog 73 #[.slice (some ⟨g, 0, none⟩) n cap] w (SvPost ys w) := by
  have HL := Lib.hid hl
  have HZ := Lib.hid hz
  have HNN := Lib.hid hny
  clear hl hz hny
  go_enter Try.func73, Try.ntmps73
  go_wp2_with fail
  go_loopw [3] (fun iv wr => ∃ k : Nat, k ≤ n ∧ iv = .int .i64 k ∧ SignTo ys k ∧ Below w.heap.size w wr) (fun iv _ => n - (intOf iv).toNat)
  case atStart => exact ⟨0, Nat.zero_le _, rfl, SignTo.zero _, Below.refl _ _⟩
  case round =>
    obtain ⟨k, hk, rfl, hto, hB⟩ := hrel
    have HTO := Lib.hid hto
    have HB := Lib.hid hB
    clear hto
    by_cases hlt : k < n
    · have hlt' : k < ys.length := by rw [← HNN.out]; exact hlt
      obtain ⟨c1, c2⟩ := (HL.out.below hB) k hlt'
      obtain ⟨s, hs⟩ : ∃ s, s = (ys[k]).1 := ⟨_, rfl⟩
      obtain ⟨x, hx⟩ : ∃ x, x = (ys[k]).2 := ⟨_, rfl⟩
      have hsz : s.size ≤ 1048576 := by rw [hs]; exact HZ.out k hlt'
      rw [← hs] at c1
      rw [← hx] at c2
      have HS := Lib.hid hs
      have HX := Lib.hid hx
      have hBA : Below w.heap.size w (wr.alloc (.cells #[.string s, .int .i64 x] 118 (0, 0))) := hB.alloc hB.size _
      have HBA := Lib.hid hBA
      have HNS : Hid (¬ okSym (s, x) → ¬ SignOk ys) := Lib.hid (fun h => not_sign hlt' (by
        have : ys[k] = (s, x) := by rw [hs, hx]
        rw [this]; exact h))
      clear hs hx hB hBA
      by_cases h1 : s.size = 1
      · obtain ⟨c, hc⟩ := one_of h1
        have h0 : s[0]'(by rw [h1]; omega) = c := by subst hc; rfl
        have HC := Lib.hid hc
        clear hc
        by_cases ha : (c.toNat : Int) < 97
        · have HF := Lib.hid (HNS.out (fun h => let_one (c := c) (by omega) (by rw [← HC.out]; exact h.1)))
          have ht : decide ((c.toNat : Int) < 97) = true := decide_eq_true ha
          clear ha
          go_wp2_with fail
          go_ret
          exact ⟨HBA.out, false, rfl, by simp; exact HF.out⟩
        · have ht : decide ((c.toNat : Int) < 97) = false := decide_eq_false ha
          by_cases hb : 104 < (c.toNat : Int)
          · have HF := Lib.hid (HNS.out (fun h => let_one (c := c) (by omega) (by rw [← HC.out]; exact h.1)))
            have ht2 : decide (104 < (c.toNat : Int)) = true := decide_eq_true hb
            clear ha hb
            go_wp2_with fail
            go_ret
            exact ⟨HBA.out, false, rfl, by simp; exact HF.out⟩
          · have ht2 : decide (104 < (c.toNat : Int)) = false := decide_eq_false hb
            have HLT : Hid (isLet s.data.toList = true) := Lib.hid (by
              rw [HC.out]
              simp only [isLet, Bool.and_eq_true, decide_eq_true_eq]; omega)
            clear ha hb
            by_cases hin : 1 ≤ x ∧ x ≤ 6
            · have HBN := Lib.hid (decide_eq_true hin)
              have HOK : Hid (okSym ys[k]) := Lib.hid (by
                have : ys[k] = (s, x) := by rw [HS.out, HX.out]
                rw [this]; exact ⟨HLT.out, hin⟩)
              clear hin
              have hbx := heap_alloc_new wr (.cells #[.string s, .int .i64 x] 118 (0, 0))
              go_wp2_with (go_at_call 74; refine (l6In_any _ _ _ _).mono ?_; rintro e w' ⟨rfl, rfl⟩; rw [HBN.out])
              go_loopw [5] (fun jv wq => ∃ j : Nat, j ≤ k ∧ jv = .int .i64 j ∧ (∀ i (hi : i < j) (hi' : i < ys.length), (ys[i]).1 ≠ s) ∧ Below (wr.alloc (.cells #[.string s, .int .i64 x] 118 (0, 0))).heap.size (wr.alloc (.cells #[.string s, .int .i64 x] 118 (0, 0))) wq) (fun jv _ => k - (intOf jv).toNat)
              case atStart => exact ⟨0, Nat.zero_le _, rfl, fun i hi _ => by omega, Below.refl _ _⟩
              case round =>
                obtain ⟨j, hj, rfl, hall, hBj⟩ := hrel
                have HALL := Lib.hid hall
                have HBJ := Lib.hid (below_step HBA.out hBj)
                have HB0 := Lib.hid hBj
                obtain ⟨b1, b2, _, _⟩ := two_cells ((hBj.block _ (by simp)).trans hbx)
                clear hall hBj
                by_cases hjk : j < k
                · have hjy : j < ys.length := by omega
                  obtain ⟨d1, d2⟩ := (HL.out.below HBJ.out) j hjy
                  obtain ⟨l, hl⟩ : ∃ l, l = (ys[j]).1 := ⟨_, rfl⟩
                  rw [← hl] at d1
                  have HLL := Lib.hid hl
                  have k0 : (0 : Int) ≤ j := by omega
                  clear hl d2
                  by_cases hsame : l = s
                  · have HF : Hid (¬ SignOk ys) := Lib.hid (fun h => (h.2 k hlt' hlt').2 j hjk (by rw [← HLL.out, ← HS.out, hsame]))
                    subst hsame
                    go_wp2_with fail
                    go_quiet (fail)
                    go_wp2_with fail
                    go_ret
                    exact ⟨below_drewN HBJ.out _, false, rfl, by simp; exact HF.out⟩
                  · have hsb : (l.toList == s.toList) = false := ba_ne hsame
                    have HSM := Lib.hid hsame
                    clear hsame
                    go_wp2_with fail
                    go_quiet (fail)
                    go_wp2_with fail
                    exact ⟨⟨j + 1, by omega, by go_num, fun i hi hi' => by
                      by_cases e : i = j
                      · subst e; rw [← HLL.out]; exact HSM.out
                      · exact HALL.out i (by omega) hi', below_drewN HB0.out _⟩, by simp [intOf]; omega⟩
                · have hjk2 : j = k := by omega
                  have HTN : Hid (SignTo ys (k + 1)) := Lib.hid (HTO.out.next hlt' HOK.out (fun i hi => by rw [← HS.out]; exact HALL.out i (by omega) (by omega)))
                  clear b1 b2
                  go_wp2_with fail
                  exact ⟨⟨k + 1, by omega, by go_num, HTN.out, HBJ.out⟩, by simp [intOf]; omega⟩
            · have HBN := Lib.hid (decide_eq_false hin)
              have HF := Lib.hid (HNS.out (fun h => hin h.2))
              clear hin
              go_wp2_with (go_at_call 74; refine (l6In_any _ _ _ _).mono ?_; rintro e w' ⟨rfl, rfl⟩; rw [HBN.out])
              go_ret
              exact ⟨HBA.out, false, rfl, by simp; exact HF.out⟩
      · have hne : ((s.size : Int) != 1) = true := by simp; omega
        have HF := Lib.hid (HNS.out (fun h => let_size h1 h.1))
        clear h1
        go_wp2_with fail
        go_ret
        exact ⟨HBA.out, false, rfl, by simp; exact HF.out⟩
    · have hkn : k = n := by omega
      subst hkn
      by_cases h6 : k ≤ 6
      · have HF : Hid (SignOk ys) := Lib.hid ⟨by have := HNN.out; omega, by rw [← HNN.out]; exact HTO.out⟩
        have ht : decide ((k : Int) ≤ 6) = true := decide_eq_true (by omega)
        clear h6
        go_wp2_with fail
        go_ret
        exact ⟨HB.out, true, rfl, by simp; exact HF.out⟩
      · have HF : Hid (¬ SignOk ys) := Lib.hid (fun h => by have := h.1; have := HNN.out; omega)
        have ht : decide ((k : Int) ≤ 6) = false := decide_eq_false (by omega)
        clear h6
        go_wp2_with fail
        go_ret
        exact ⟨HB.out, false, rfl, by simp; exact HF.out⟩
end Go.Proofs.Ytmgdfpmcbalebaa
end
