/- The program's quadratic trees. -/
import Derived.Test.YtapobhnhnldlkaaQuadT
import Derived.Test.YtapobhnhnldlkaaKComb
import Derived.Laws.Rows
import Derived.Laws.Tables
import Derived.Deep.WholeRow
namespace Go.Proofs.Ytapobhnhnldlkaa
open Go.RowKit

/-- What 'slices.Index' answers. -/
def IdxPost (ss : List ByteArray) (x : ByteArray) (w : World) (e : Ending) (w' : World) : Prop :=
  w = w' ∧ ((∃ (k : Nat) (h : k < ss.length), e = .returned (.int .i64 k) ∧ ss[k] = x ∧ ∀ j (hj : j < k), ss[j]'(by omega) ≠ x) ∨ (e = .returned (.int .i64 (-1)) ∧ ∀ j (h : j < ss.length), ss[j] ≠ x))

set_option maxRecDepth 100000 in
set_option maxHeartbeats 1000000 in
theorem index_any (ss : List ByteArray) (x : ByteArray) (n : Nat) (hns : n = ss.length) (g cap : Nat) (w : World) (hn : n ≤ 1048576) (hl : TxG w g ss) :
    Calls Try.prog 29 #[.slice (some ⟨g, 0, none⟩) n cap, .string x] w (IdxPost ss x w) := by
  have HL := Lib.hid hl
  have HNN := Lib.hid hns
  clear hl hns
  go_enter Try.func29, Try.ntmps29
  go_wp2_with fail
  go_loopw [8] (fun iv wr => ∃ i : Nat, i ≤ n ∧ iv = .int .i64 i ∧ w = wr ∧ ∀ j (hj : j < i) (h : j < ss.length), ss[j] ≠ x) (fun iv _ => n - (intOf iv).toNat)
  case atStart => exact ⟨0, Nat.zero_le _, rfl, rfl, fun j hj => by omega⟩
  case round =>
    obtain ⟨i, hi, rfl, rfl, hne⟩ := hrel
    have HNE := Lib.hid hne
    clear hne
    by_cases hlt : i < n
    · have hlts : i < ss.length := by rw [← HNN.out]; exact hlt
      have c0 := HL.out i hlts
      obtain ⟨y, hy⟩ : ∃ y, y = ss[i] := ⟨_, rfl⟩
      rw [← hy] at c0
      have HY := Lib.hid hy
      clear hy
      by_cases he : x = y
      · have HE := Lib.hid he
        subst he
        have hxx : (x.toList == x.toList) = true := by simp
        go_wp2_with fail
        go_ret
        exact ⟨rfl, .inl ⟨i, hlts, rfl, HY.out.symm, fun j hj => HNE.out j hj (by omega)⟩⟩
      · have hsb : (x.toList == y.toList) = false := ba_ne he
        have HE := Lib.hid he
        clear he
        go_wp2_with fail
        exact ⟨⟨i + 1, by omega, by go_num, trivial, fun j hj h => by
          by_cases e : j = i
          · subst e; rw [← HY.out]; exact fun e => HE.out e.symm
          · exact HNE.out j (by omega) h⟩, by simp [intOf]; omega⟩
    · have hin : i = n := by omega
      have HF : Hid (∀ j (h : j < ss.length), ss[j] ≠ x) := Lib.hid (fun j h => HNE.out j (by rw [hin, HNN.out]; exact h) h)
      go_wp2_with fail
      go_ret
      exact ⟨rfl, .inr ⟨rfl, HF.out⟩⟩

/-- What 'slices.Contains' answers. -/
def HasPost (ss : List ByteArray) (x : ByteArray) (w : World) (e : Ending) (w' : World) : Prop :=
  w = w' ∧ ∃ b, e = .returned (.bool b) ∧ (b = true → ∃ (k : Nat) (h : k < ss.length), ss[k] = x) ∧ (b = false → ∀ j (h : j < ss.length), ss[j] ≠ x)

set_option maxRecDepth 100000 in
theorem contains_any (ss : List ByteArray) (x : ByteArray) (n : Nat) (hns : n = ss.length) (g cap : Nat) (w : World) (hn : n ≤ 1048576) (hl : TxG w g ss) :
    Calls Try.prog 24 #[.slice (some ⟨g, 0, none⟩) n cap, .string x] w (HasPost ss x w) := by
  have HI := Lib.hid (index_any ss x n hns g cap w hn hl)
  clear hns hl
  go_enter Try.func24, Try.ntmps24
  go_wp2_with fail
  refine HI.out.mono ?_
  rintro e w1 ⟨rfl, ⟨k, hk, rfl, hx, _⟩ | ⟨rfl, hne⟩⟩
  · have HX := Lib.hid hx
    have k0 : (0 : Int) ≤ (k : Int) := by omega
    clear hx
    go_wp2_with fail
    go_ret
    exact ⟨rfl, true, by first | rfl | simp, fun _ => ⟨k, hk, HX.out⟩, fun h => by cases h⟩
  · have HNE := Lib.hid hne
    clear hne
    go_wp2_with fail
    go_ret
    exact ⟨rfl, false, by first | rfl | simp, (fun h => by cases h), fun _ => HNE.out⟩

/-- The struct of quadratic trees: its texts, and the sign of each. -/
def QAgg (ts : List T) (v : Value) (cs : Array Value) : Prop :=
  cs.size = 19 ∧ cs[0]? = some v ∧ ∀ j, j < 18 → cs[1 + j]? = some (.int .i64 (if h : j < ts.length then quadSign ts[j] % 101 else 0))

/-- What 'readQuadratics' answers. -/
def RQuad (ss : List ByteArray) (w : World) (e : Ending) (w' : World) : Prop :=
  Below w.heap.size w w' ∧ ((quadsOf ss = none ∧ ∃ cs, e = .returned (.tuple #[.agg cs, .bool false]) ∧ QAgg [] (.slice none 0 0) cs) ∨
    ∃ ts a c cs, quadsOf ss = some ts ∧ e = .returned (.tuple #[.agg cs, .bool true]) ∧ QAgg ts (.slice a ts.length c) cs ∧ Lies w' a (ts.map T.text) ∧
      (ts = [] ∨ ∃ g cur, a = some ⟨g, 0, none⟩ ∧ w'.heap[g]? = some (.cells cur 9 (0, 0)) ∧ ts.length ≤ cur.size ∧ w.heap.size ≤ g))


theorem below_setRow {n : Nat} {w w' : World} (h : Below n w w') {g : Nat} (hg : n ≤ g) (cs : Array Value) : Below n w (w'.setRow g cs) where
  os := h.os
  tape := h.tape
  output := h.output
  size := by simpa using h.size
  block := fun b hb => by rw [setRow_other _ _ _ _ (by omega)]; exact h.block b hb

theorem infoQ : (Try.prog.info? 51).map (·.size) = some 19 := by kernel_rfl
theorem descQ : (match Try.prog.underlying 51 with | some (.struct _) => true | _ => false) = true := by kernel_rfl

def quadZero : Array Value := #[.slice none 0 0, .int .i64 0, .int .i64 0, .int .i64 0, .int .i64 0, .int .i64 0, .int .i64 0, .int .i64 0, .int .i64 0, .int .i64 0, .int .i64 0, .int .i64 0, .int .i64 0, .int .i64 0, .int .i64 0, .int .i64 0, .int .i64 0, .int .i64 0, .int .i64 0]
theorem quadZero_agg : QAgg [] (.slice none 0 0) quadZero := by
  refine ⟨rfl, rfl, fun j hj => ?_⟩
  have e : quadZero = #[.slice none 0 0] ++ Array.replicate 18 (.int .i64 0) := by rfl
  rw [e, Array.getElem?_append_right (by simp)]
  simp only [List.size_toArray, List.length_cons, List.length_nil, Nat.zero_add, Nat.add_sub_cancel_left, Array.getElem?_replicate, hj, if_true]
  simp

theorem quadZero_one : quadZero.all (·.oneCell') = true := by kernel_rfl
theorem QAgg.one {ts : List T} {v : Value} {cs : Array Value} (h : QAgg ts v cs) (hv : v.oneCell' = true) : cs.all (·.oneCell') = true := by
  obtain ⟨h1, h2, h3⟩ := h
  rw [Array.all_eq_true]
  intro i hi
  by_cases h0 : i = 0
  · subst h0
    rw [Array.getElem?_eq_getElem hi] at h2
    simp only [Option.some.injEq] at h2
    rw [h2]; exact hv
  · have := h3 (i - 1) (by omega)
    rw [show 1 + (i - 1) = i by omega, Array.getElem?_eq_getElem hi] at this
    simp only [Option.some.injEq] at this
    rw [this]; rfl
/-- The letters, one by one. -/
theorem isLet_one {s : ByteArray} (h : isLet s.data.toList = true) : ∃ c, letOne s.data.toList = some c := by
  obtain ⟨c, rfl, h1, h2⟩ := let_of h
  exact ⟨c, let_one_yes ⟨h1, h2⟩⟩
theorem isLet_none {s : ByteArray} (h : isLet s.data.toList = false) : letOne s.data.toList = none := by
  cases ho : letOne s.data.toList with
  | none => rfl
  | some c =>
    obtain ⟨e, h1, h2⟩ := letOne_some ho
    rw [e] at h
    simp only [isLet, Bool.and_eq_false_imp, decide_eq_true_eq, decide_eq_false_iff_not] at h
    exact absurd (show (c.toNat : Int) ≤ 104 by omega) (h (by omega))

theorem quad_ret {w : World} {g : Nat} {cs : Array Value} {fr : Nat × Nat} (hg : w.heap[g]? = some (.cells cs 51 fr)) (h19 : cs.size = 19) : (loadVar 51 ⟨g, 0, none⟩).run Try.prog w = .ok (.agg cs) w := by
  have hd := descQ
  cases hu : Try.prog.underlying 51 with
  | none => rw [hu] at hd; cases hd
  | some d =>
    rw [hu] at hd
    cases d <;> first | (cases hd; done) | exact run_loadVar_row w g 51 51 cs fr _ hg hu rfl (by rw [h19]; exact infoQ)

def quadW (wr : World) (x y : ByteArray) : World := ((((((((((wr.alloc (.cells #[] 68 (0, 0))).alloc (.cells #[] 68 (0, 0))).alloc (.cells #[.iface 66 (.pointer (some ⟨wr.heap.size, 0, none⟩)), .iface 66 (.pointer (some ⟨wr.heap.size + 1, 0, none⟩))] 73 (0, 0))).alloc (.cells #[.string y, .slice (some ⟨wr.heap.size + 1 + 1, 0, none⟩) 2 2] 71 (0, 0))).alloc (.cells #[] 68 (0, 0))).alloc (.cells #[.iface 65 (.pointer (some ⟨wr.heap.size + 1 + 1 + 1, 0, none⟩)), .iface 66 (.pointer (some ⟨wr.heap.size + 1 + 1 + 1 + 1, 0, none⟩))] 73 (0, 0))).alloc (.cells #[.string x, .slice (some ⟨wr.heap.size + 1 + 1 + 1 + 1 + 1, 0, none⟩) 2 2] 71 (0, 0))).alloc (.cells #[] 68 (0, 0))).alloc (.cells #[.iface 66 (.pointer (some ⟨wr.heap.size + 1 + 1 + 1 + 1 + 1 + 1 + 1, 0, none⟩)), .iface 65 (.pointer (some ⟨wr.heap.size + 1 + 1 + 1, 0, none⟩))] 73 (0, 0))).alloc (.cells #[.string x, .slice (some ⟨wr.heap.size + 1 + 1 + 1 + 1 + 1 + 1 + 1 + 1, 0, none⟩) 2 2] 71 (0, 0)))
theorem quadW_size (wr : World) (x y : ByteArray) : (quadW wr x y).heap.size = wr.heap.size + 10 := by simp [quadW]
theorem quadW_below (wr : World) (x y : ByteArray) : Below wr.heap.size wr (quadW wr x y) := by
  unfold quadW
  exact (((((((((((Below.refl _ _).alloc (Nat.le_refl _) _).alloc (by simp) _).alloc (by simp; omega) _).alloc (by simp; omega) _).alloc (by simp; omega) _).alloc (by simp; omega) _).alloc (by simp; omega) _).alloc (by simp; omega) _).alloc (by simp; omega) _).alloc (by simp; omega) _)
theorem quadW_b2 (wr : World) (x y : ByteArray) : (quadW wr x y).heap[wr.heap.size + 1 + 1]? = some (.cells #[.iface 66 (.pointer (some ⟨wr.heap.size, 0, none⟩)), .iface 66 (.pointer (some ⟨wr.heap.size + 1, 0, none⟩))] 73 (0, 0)) := by
  unfold quadW
  rw [Below.heap_alloc _ _ _ (by simp <;> omega)]
  rw [Below.heap_alloc _ _ _ (by simp <;> omega)]
  rw [Below.heap_alloc _ _ _ (by simp <;> omega)]
  rw [Below.heap_alloc _ _ _ (by simp <;> omega)]
  rw [Below.heap_alloc _ _ _ (by simp <;> omega)]
  rw [Below.heap_alloc _ _ _ (by simp <;> omega)]
  rw [Below.heap_alloc _ _ _ (by simp <;> omega)]
  rw [show wr.heap.size + 1 + 1 = ((wr.alloc (.cells #[] 68 (0, 0))).alloc (.cells #[] 68 (0, 0))).heap.size by simp]
  exact heap_alloc_new _ _
theorem quadW_b3 (wr : World) (x y : ByteArray) : (quadW wr x y).heap[wr.heap.size + 1 + 1 + 1]? = some (.cells #[.string y, .slice (some ⟨wr.heap.size + 1 + 1, 0, none⟩) 2 2] 71 (0, 0)) := by
  unfold quadW
  rw [Below.heap_alloc _ _ _ (by simp <;> omega)]
  rw [Below.heap_alloc _ _ _ (by simp <;> omega)]
  rw [Below.heap_alloc _ _ _ (by simp <;> omega)]
  rw [Below.heap_alloc _ _ _ (by simp <;> omega)]
  rw [Below.heap_alloc _ _ _ (by simp <;> omega)]
  rw [Below.heap_alloc _ _ _ (by simp <;> omega)]
  rw [show wr.heap.size + 1 + 1 + 1 = (((wr.alloc (.cells #[] 68 (0, 0))).alloc (.cells #[] 68 (0, 0))).alloc (.cells #[.iface 66 (.pointer (some ⟨wr.heap.size, 0, none⟩)), .iface 66 (.pointer (some ⟨wr.heap.size + 1, 0, none⟩))] 73 (0, 0))).heap.size by simp]
  exact heap_alloc_new _ _
theorem quadW_b5 (wr : World) (x y : ByteArray) : (quadW wr x y).heap[wr.heap.size + 1 + 1 + 1 + 1 + 1]? = some (.cells #[.iface 65 (.pointer (some ⟨wr.heap.size + 1 + 1 + 1, 0, none⟩)), .iface 66 (.pointer (some ⟨wr.heap.size + 1 + 1 + 1 + 1, 0, none⟩))] 73 (0, 0)) := by
  unfold quadW
  rw [Below.heap_alloc _ _ _ (by simp <;> omega)]
  rw [Below.heap_alloc _ _ _ (by simp <;> omega)]
  rw [Below.heap_alloc _ _ _ (by simp <;> omega)]
  rw [Below.heap_alloc _ _ _ (by simp <;> omega)]
  rw [show wr.heap.size + 1 + 1 + 1 + 1 + 1 = (((((wr.alloc (.cells #[] 68 (0, 0))).alloc (.cells #[] 68 (0, 0))).alloc (.cells #[.iface 66 (.pointer (some ⟨wr.heap.size, 0, none⟩)), .iface 66 (.pointer (some ⟨wr.heap.size + 1, 0, none⟩))] 73 (0, 0))).alloc (.cells #[.string y, .slice (some ⟨wr.heap.size + 1 + 1, 0, none⟩) 2 2] 71 (0, 0))).alloc (.cells #[] 68 (0, 0))).heap.size by simp]
  exact heap_alloc_new _ _
theorem quadW_b6 (wr : World) (x y : ByteArray) : (quadW wr x y).heap[wr.heap.size + 1 + 1 + 1 + 1 + 1 + 1]? = some (.cells #[.string x, .slice (some ⟨wr.heap.size + 1 + 1 + 1 + 1 + 1, 0, none⟩) 2 2] 71 (0, 0)) := by
  unfold quadW
  rw [Below.heap_alloc _ _ _ (by simp <;> omega)]
  rw [Below.heap_alloc _ _ _ (by simp <;> omega)]
  rw [Below.heap_alloc _ _ _ (by simp <;> omega)]
  rw [show wr.heap.size + 1 + 1 + 1 + 1 + 1 + 1 = ((((((wr.alloc (.cells #[] 68 (0, 0))).alloc (.cells #[] 68 (0, 0))).alloc (.cells #[.iface 66 (.pointer (some ⟨wr.heap.size, 0, none⟩)), .iface 66 (.pointer (some ⟨wr.heap.size + 1, 0, none⟩))] 73 (0, 0))).alloc (.cells #[.string y, .slice (some ⟨wr.heap.size + 1 + 1, 0, none⟩) 2 2] 71 (0, 0))).alloc (.cells #[] 68 (0, 0))).alloc (.cells #[.iface 65 (.pointer (some ⟨wr.heap.size + 1 + 1 + 1, 0, none⟩)), .iface 66 (.pointer (some ⟨wr.heap.size + 1 + 1 + 1 + 1, 0, none⟩))] 73 (0, 0))).heap.size by simp]
  exact heap_alloc_new _ _
theorem quadW_b8 (wr : World) (x y : ByteArray) : (quadW wr x y).heap[wr.heap.size + 1 + 1 + 1 + 1 + 1 + 1 + 1 + 1]? = some (.cells #[.iface 66 (.pointer (some ⟨wr.heap.size + 1 + 1 + 1 + 1 + 1 + 1 + 1, 0, none⟩)), .iface 65 (.pointer (some ⟨wr.heap.size + 1 + 1 + 1, 0, none⟩))] 73 (0, 0)) := by
  unfold quadW
  rw [Below.heap_alloc _ _ _ (by simp <;> omega)]
  rw [show wr.heap.size + 1 + 1 + 1 + 1 + 1 + 1 + 1 + 1 = ((((((((wr.alloc (.cells #[] 68 (0, 0))).alloc (.cells #[] 68 (0, 0))).alloc (.cells #[.iface 66 (.pointer (some ⟨wr.heap.size, 0, none⟩)), .iface 66 (.pointer (some ⟨wr.heap.size + 1, 0, none⟩))] 73 (0, 0))).alloc (.cells #[.string y, .slice (some ⟨wr.heap.size + 1 + 1, 0, none⟩) 2 2] 71 (0, 0))).alloc (.cells #[] 68 (0, 0))).alloc (.cells #[.iface 65 (.pointer (some ⟨wr.heap.size + 1 + 1 + 1, 0, none⟩)), .iface 66 (.pointer (some ⟨wr.heap.size + 1 + 1 + 1 + 1, 0, none⟩))] 73 (0, 0))).alloc (.cells #[.string x, .slice (some ⟨wr.heap.size + 1 + 1 + 1 + 1 + 1, 0, none⟩) 2 2] 71 (0, 0))).alloc (.cells #[] 68 (0, 0))).heap.size by simp]
  exact heap_alloc_new _ _
theorem quadW_b9 (wr : World) (x y : ByteArray) : (quadW wr x y).heap[wr.heap.size + 1 + 1 + 1 + 1 + 1 + 1 + 1 + 1 + 1]? = some (.cells #[.string x, .slice (some ⟨wr.heap.size + 1 + 1 + 1 + 1 + 1 + 1 + 1 + 1, 0, none⟩) 2 2] 71 (0, 0)) := by
  unfold quadW
  rw [show wr.heap.size + 1 + 1 + 1 + 1 + 1 + 1 + 1 + 1 + 1 = (((((((((wr.alloc (.cells #[] 68 (0, 0))).alloc (.cells #[] 68 (0, 0))).alloc (.cells #[.iface 66 (.pointer (some ⟨wr.heap.size, 0, none⟩)), .iface 66 (.pointer (some ⟨wr.heap.size + 1, 0, none⟩))] 73 (0, 0))).alloc (.cells #[.string y, .slice (some ⟨wr.heap.size + 1 + 1, 0, none⟩) 2 2] 71 (0, 0))).alloc (.cells #[] 68 (0, 0))).alloc (.cells #[.iface 65 (.pointer (some ⟨wr.heap.size + 1 + 1 + 1, 0, none⟩)), .iface 66 (.pointer (some ⟨wr.heap.size + 1 + 1 + 1 + 1, 0, none⟩))] 73 (0, 0))).alloc (.cells #[.string x, .slice (some ⟨wr.heap.size + 1 + 1 + 1 + 1 + 1, 0, none⟩) 2 2] 71 (0, 0))).alloc (.cells #[] 68 (0, 0))).alloc (.cells #[.iface 66 (.pointer (some ⟨wr.heap.size + 1 + 1 + 1 + 1 + 1 + 1 + 1, 0, none⟩)), .iface 65 (.pointer (some ⟨wr.heap.size + 1 + 1 + 1, 0, none⟩))] 73 (0, 0))).heap.size by simp]
  exact heap_alloc_new _ _
theorem cellAt {W : World} {g : Nat} {cs : Array Value} {t : TypeId} {fr : Nat × Nat} (h : W.heap[g]? = some (.cells cs t fr)) {j : Nat} {v : Value} (hv : cs[j]? = some v) : W.cell? ⟨g, j, none⟩ = some v := by
  rw [cell_of_row W g j cs t fr h]; exact hv
theorem quadW_inner (wr : World) (x : ByteArray) (cy : UInt8) : RepI (quadW wr x ⟨#[cy]⟩) (fun b => wr.heap.size ≤ b) (.node cy [.leaf, .leaf]) 65 ⟨wr.heap.size + 1 + 1 + 1, 0, none⟩ := by
  simp only [RepI, RepIL]
  exact ⟨trivial, _, _, 2, rfl, by omega, by omega, cellAt (quadW_b3 wr x ⟨#[cy]⟩) rfl, cellAt (quadW_b3 wr x ⟨#[cy]⟩) rfl, by simp, ⟨_, _, cellAt (quadW_b2 wr x ⟨#[cy]⟩) rfl, rfl⟩, ⟨_, _, cellAt (quadW_b2 wr x ⟨#[cy]⟩) rfl, rfl⟩, trivial⟩
theorem quadW_left (wr : World) (cx cy : UInt8) : RepI (quadW wr ⟨#[cx]⟩ ⟨#[cy]⟩) (fun b => wr.heap.size ≤ b) (quadL cx cy) 65 ⟨wr.heap.size + 1 + 1 + 1 + 1 + 1 + 1, 0, none⟩ := by
  have h := quadW_inner wr ⟨#[cx]⟩ cy
  show RepI _ _ (.node cx [.node cy [.leaf, .leaf], .leaf]) _ _
  rw [RepI]
  refine ⟨rfl, _, _, 2, rfl, by omega, by omega, cellAt (quadW_b6 wr ⟨#[cx]⟩ ⟨#[cy]⟩) rfl, cellAt (quadW_b6 wr ⟨#[cx]⟩ ⟨#[cy]⟩) rfl, by simp, ?_⟩
  rw [RepIL, RepIL, RepIL]
  refine ⟨⟨_, _, cellAt (quadW_b5 wr ⟨#[cx]⟩ ⟨#[cy]⟩) rfl, h⟩, ⟨_, _, cellAt (quadW_b5 wr ⟨#[cx]⟩ ⟨#[cy]⟩) rfl, ?_⟩, trivial⟩
  rw [RepI]
theorem quadW_right (wr : World) (cx cy : UInt8) : RepI (quadW wr ⟨#[cx]⟩ ⟨#[cy]⟩) (fun b => wr.heap.size ≤ b) (quadR cx cy) 65 ⟨wr.heap.size + 1 + 1 + 1 + 1 + 1 + 1 + 1 + 1 + 1, 0, none⟩ := by
  have h := quadW_inner wr ⟨#[cx]⟩ cy
  show RepI _ _ (.node cx [.leaf, .node cy [.leaf, .leaf]]) _ _
  rw [RepI]
  refine ⟨rfl, _, _, 2, rfl, by omega, by omega, cellAt (quadW_b9 wr ⟨#[cx]⟩ ⟨#[cy]⟩) rfl, cellAt (quadW_b9 wr ⟨#[cx]⟩ ⟨#[cy]⟩) rfl, by simp, ?_⟩
  rw [RepIL, RepIL, RepIL]
  refine ⟨⟨_, _, cellAt (quadW_b8 wr ⟨#[cx]⟩ ⟨#[cy]⟩) rfl, ?_⟩, ⟨_, _, cellAt (quadW_b8 wr ⟨#[cx]⟩ ⟨#[cy]⟩) rfl, h⟩, trivial⟩
  rw [RepI]
theorem quad_ok {cx cy : UInt8} (hx : 97 ≤ cx.toNat ∧ cx.toNat ≤ 104) (hy : 97 ≤ cy.toNat ∧ cy.toNat ≤ 104) : ((quadL cx cy).wf ∧ (quadL cx cy).leaves = 3 ∧ (quadL cx cy).nodes = 2) ∧ (quadR cx cy).wf ∧ (quadR cx cy).leaves = 3 ∧ (quadR cx cy).nodes = 2 := by
  have h := quad_wf (cs := [cx, cy]) (fun c hc => by
    simp at hc
    rcases hc with rfl | rfl
    · exact hx
    · exact hy)
  exact ⟨h _ (quadAll_mem.2 ⟨cx, by simp, cy, by simp, .inl rfl⟩), h _ (quadAll_mem.2 ⟨cx, by simp, cy, by simp, .inr rfl⟩)⟩
theorem descQ2 : ∃ fs, Try.prog.underlying 51 = some (.struct fs) := by
  have hd := descQ
  cases hu : Try.prog.underlying 51 with
  | none => rw [hu] at hd; cases hd
  | some d =>
    rw [hu] at hd
    cases d <;> first | (cases hd; done) | exact ⟨_, rfl⟩

def qTms (ts : List T) : List Tm := ts.map fun t => (quadSign t, t)
/-- The row of parts that grows. -/
def PAll (w0 : World) (ts : List T) (m : Nat) (pv : Value) (wr : World) : Prop :=
  ∃ va vc vs, pv = .slice va m vc ∧ va ≠ none ∧ (qTms ts).length = m ∧ Row tmI 80 w0.heap.size (qTms ts) (.slice va m vc) vs wr ∧ Below w0.heap.size w0 wr

theorem field_parts (f v : Value) (w : World) : (Instr.field 83 (.agg #[f, v]) 1).run Try.prog w = .ok v w := by kernel_rfl
/-- The loop that tells texts and signs: 'B' is the struct's block. -/
def QLoop (B : Nat) (w3 : World) (ts : List T) (i : Nat) (wr : World) : Prop :=
  ∃ va vc vs cur, Row txQ 9 w3.heap.size ((ts.take i).map T.text) (.slice va i vc) vs wr ∧ wr.heap[B]? = some (.cells cur 51 (0, 0)) ∧ QAgg (ts.take i) (.slice va i vc) cur ∧ (∀ b, b < w3.heap.size → b ≠ B → wr.heap[b]? = w3.heap[b]?) ∧ Below B w3 wr

theorem quad_next {B i2 : Nat} {w3 wr w6 : World} {ts : List T} {va : Option Addr} {vc : Nat} {vs : List Value} {cur : Array Value} {cc : Int} {ty : TypeId} {a : Addr} {gw pl wc g3 q3 : Nat} {tx : List UInt8} {t : T}
    (hrow : Row txQ 9 w3.heap.size ((ts.take i2).map T.text) (.slice va i2 vc) vs wr) (hcur : wr.heap[B]? = some (.cells cur 51 (0, 0))) (hagg : QAgg (ts.take i2) (.slice va i2 vc) cur) (hmid : ∀ b, b < w3.heap.size → b ≠ B → wr.heap[b]? = w3.heap[b]?) (hBx : Below B w3 wr)
    (hsr : w3.heap.size ≤ wr.heap.size) (hB : B < w3.heap.size) (ht2 : i2 < ts.length) (h18 : ts.length ≤ 18) (ht : t = ts[i2]) (hcc : cc = quadSign t % 101) (htx : tx = t.text)
    (hown3 : w6.ownsRow w3.heap.size 9 1 (.slice (some ⟨g3, 0, none⟩) (i2 + 1) q3) (i2 + 1) (vs ++ [.string ⟨tx.toArray⟩])) (hg3 : ((wr.alloc (.cells #[.int .i64 cc, .iface ty (.pointer (some a)), .slice (some ⟨gw, 0, none⟩) pl wc, .string ⟨tx.toArray⟩] 80 (0, 0))).alloc (.cells #[.string ⟨tx.toArray⟩] 9 (0, 0))).grownBy w6 (Value.slice va i2 vc).ownBlock)
    (hat3 : (Value.slice (some ⟨g3, 0, none⟩) (i2 + 1) q3).ownBlock = (Value.slice va i2 vc).ownBlock ∨ (Value.slice (some ⟨g3, 0, none⟩) (i2 + 1) q3).ownBlock = some ((wr.alloc (.cells #[.int .i64 cc, .iface ty (.pointer (some a)), .slice (some ⟨gw, 0, none⟩) pl wc, .string ⟨tx.toArray⟩] 80 (0, 0))).alloc (.cells #[.string ⟨tx.toArray⟩] 9 (0, 0))).heap.size) :
    w6.cell? ⟨B, 0, none⟩ = some (.slice va i2 vc) ∧ w6.frozen? ⟨B, 0, none⟩ = false ∧ (w6.setCell ⟨B, 0, none⟩ (.slice (some ⟨g3, 0, none⟩) (i2 + 1) q3)).cell? ⟨wr.heap.size, 0, none⟩ = some (.int .i64 cc) ∧ (∃ z, (w6.setCell ⟨B, 0, none⟩ (.slice (some ⟨g3, 0, none⟩) (i2 + 1) q3)).cell? ⟨B, 1 + i2, none⟩ = some (.int .i64 z)) ∧
      (w6.setCell ⟨B, 0, none⟩ (.slice (some ⟨g3, 0, none⟩) (i2 + 1) q3)).frozen? ⟨B, 1 + i2, none⟩ = false ∧ QLoop B w3 ts (i2 + 1) ((w6.setCell ⟨B, 0, none⟩ (.slice (some ⟨g3, 0, none⟩) (i2 + 1) q3)).setCell ⟨B, 1 + i2, none⟩ (.int .i64 cc)) := by
  have hlen2 : ((ts.take i2).map T.text).length = i2 := by rw [List.length_map, List.length_take]; omega
  have hlt3 : ∀ q, (Value.slice va i2 vc).ownBlock = some q → w3.heap.size ≤ q ∧ q < wr.heap.size := fun q e => hrow.own.lt q e
  have hbB : w6.heap[B]? = some (.cells cur 51 (0, 0)) := by
    rw [hg3.block _ (by simp; omega) (fun e => by have := (hlt3 _ e.symm).1; omega), Below.heap_alloc _ _ _ (by simp; omega), Below.heap_alloc _ _ _ (by omega)]
    exact hcur
  have hb16 : w6.heap[wr.heap.size]? = some (.cells #[.int .i64 cc, .iface ty (.pointer (some a)), .slice (some ⟨gw, 0, none⟩) pl wc, .string ⟨tx.toArray⟩] 80 (0, 0)) := by
    rw [hg3.block _ (by simp; omega) (fun e => by have := (hlt3 _ e.symm).2; omega), Below.heap_alloc _ _ _ (by simp)]
    exact heap_alloc_new _ _
  have hbB7 := heap_setCell_same (k := 0) hbB (.slice (some ⟨g3, 0, none⟩) (i2 + 1) q3)
  have hb167 : (w6.setCell ⟨B, 0, none⟩ (.slice (some ⟨g3, 0, none⟩) (i2 + 1) q3)).heap[wr.heap.size]? = some (.cells #[.int .i64 cc, .iface ty (.pointer (some a)), .slice (some ⟨gw, 0, none⟩) pl wc, .string ⟨tx.toArray⟩] 80 (0, 0)) := by
    rw [Below.heap_setCell _ _ _ _ (by simp; omega)]; exact hb16
  have hcs : cur.size = 19 := hagg.1
  have hold := hagg.2.2 i2 (by omega)
  refine ⟨cellAt hbB hagg.2.1, frozen_of_row _ _ 0 _ _ hbB, cellAt hb167 rfl, ⟨_, cellAt hbB7 (by rw [Array.getElem?_setIfInBounds_ne (by omega)]; exact hold)⟩, frozen_of_row _ _ (1 + i2) _ _ hbB7, ?_⟩
  have e1 : ts.take (i2 + 1) = ts.take i2 ++ [t] := by rw [List.take_succ_eq_append_getElem ht2, ← ht]
  have hNX := hrow.next (a := tx) (g := g3) (cap := q3) (w1 := wr) (w1' := (wr.alloc (.cells #[.int .i64 cc, .iface ty (.pointer (some a)), .slice (some ⟨gw, 0, none⟩) pl wc, .string ⟨tx.toArray⟩] 80 (0, 0))).alloc (.cells #[.string ⟨tx.toArray⟩] 9 (0, 0))) (Below.refl _ _) rfl (((Below.refl _ _).alloc (Nat.le_refl _) _).alloc (by simp) _) (by rw [hlen2]; exact hown3) hg3 (by
    rcases hat3 with h | h
    · left; rw [← h]; rfl
    · right; simp [Value.ownBlock] at h; omega)
  rw [hlen2] at hNX
  have hk1 : (w6.setCell ⟨B, 0, none⟩ (.slice (some ⟨g3, 0, none⟩) (i2 + 1) q3)).ownsRow w3.heap.size 9 1 (.slice (some ⟨g3, 0, none⟩) (i2 + 1) q3) (i2 + 1) (vs ++ [.string ⟨tx.toArray⟩]) := hown3.kept (grownBy_setCell (grownBy_refl _ _) _) (.inr fun e => by have := (hown3.lt _ e).1; omega)
  have hk2 : ((w6.setCell ⟨B, 0, none⟩ (.slice (some ⟨g3, 0, none⟩) (i2 + 1) q3)).setCell ⟨B, 1 + i2, none⟩ (.int .i64 cc)).ownsRow w3.heap.size 9 1 (.slice (some ⟨g3, 0, none⟩) (i2 + 1) q3) (i2 + 1) (vs ++ [.string ⟨tx.toArray⟩]) := hk1.kept (grownBy_setCell (grownBy_refl _ _) _) (.inr fun e => by have := (hk1.lt _ e).1; omega)
  refine ⟨some ⟨g3, 0, none⟩, q3, vs ++ [.string ⟨tx.toArray⟩], (cur.setIfInBounds 0 (.slice (some ⟨g3, 0, none⟩) (i2 + 1) q3)).setIfInBounds (1 + i2) (.int .i64 cc), ?_, heap_setCell_same (k := 1 + i2) hbB7 _, ⟨by simp [hcs], ?_, fun j hj => ?_⟩, fun b hb hne => ?_, ?_⟩
  · rw [e1, List.map_append, List.map_cons, List.map_nil, ← htx]
    exact ⟨by rw [List.length_append, hlen2]; exact hk2, fun q hq => hNX.reps q hq⟩
  · rw [Array.getElem?_setIfInBounds_ne (by omega), Array.getElem?_setIfInBounds_self_of_lt (by omega)]
  · have hl1 : (ts.take (i2 + 1)).length = i2 + 1 := by rw [List.length_take]; omega
    by_cases ej : j = i2
    · subst ej
      rw [Array.getElem?_setIfInBounds_self_of_lt (by simp; omega), dif_pos (by omega), hcc, ht, List.getElem_take]
    · rw [Array.getElem?_setIfInBounds_ne (by omega), Array.getElem?_setIfInBounds_ne (by omega), hagg.2.2 j hj]
      have hl0 : (ts.take i2).length = i2 := by rw [List.length_take]; omega
      by_cases hji : j < i2
      · rw [dif_pos (by omega), dif_pos (by omega), List.getElem_take, List.getElem_take]
      · rw [dif_neg (by omega), dif_neg (by omega)]
  · rw [Below.heap_setCell _ _ _ _ hne, Below.heap_setCell _ _ _ _ hne, hg3.block b (by simp; omega) (fun e => by have := (hlt3 _ e.symm).1; omega), Below.heap_alloc _ _ _ (by simp; omega), Below.heap_alloc _ _ _ (by omega)]
    exact hmid b hb hne
  · exact ((((hBx.alloc (by omega) _).alloc (by simp; omega) _).grown hg3 (by simp; omega) (fun q e => by have := (hlt3 q e).1; omega)).setCell (Nat.le_refl _) _).setCell (Nat.le_refl _) _


end Go.Proofs.Ytapobhnhnldlkaa
