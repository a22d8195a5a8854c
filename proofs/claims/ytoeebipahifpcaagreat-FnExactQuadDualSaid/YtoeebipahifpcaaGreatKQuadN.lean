/- Merged out of: XQuadN, XQuadI. -/
import Derived.Test.YtoeebipahifpcaaGreatKQuadT
import Derived.Test.YtoeebipahifpcaaGreatKComb
import Derived.Laws.Rows
import Derived.Laws.Tables
import Derived.Deep.WholeRow
section
/- The program's quadratic trees. -/
namespace Go.Proofs.YtoeebipahifpcaaGreat
open Go.RowKit

/-- What 'slices.Index' answers. -/
def IdxPost (ss : List ByteArray) (x : ByteArray) (w : World) (e : Ending) (w' : World) : Prop :=
  w = w' ∧ ((∃ (k : Nat) (h : k < ss.length), e = .returned (.int .i64 k) ∧ ss[k] = x ∧ ∀ j (hj : j < k), ss[j]'(by omega) ≠ x) ∨ (e = .returned (.int .i64 (-1)) ∧ ∀ j (h : j < ss.length), ss[j] ≠ x))

set_option maxRecDepth 100000 in
set_option maxHeartbeats 1000000 in
theorem index_any (ss : List ByteArray) (x : ByteArray) (n : Nat) (hns : n = ss.length) (g cap : Nat) (w : World) (hn : n ≤ 1048576) (hl : TxG w g ss) :
    Calls Tryz.prog 58 #[.slice (some ⟨g, 0, none⟩) n cap, .string x] w (IdxPost ss x w) := by
  have HL := Lib.hid hl
  have HNN := Lib.hid hns
  clear hl hns
  go_enter Tryz.func58, Tryz.ntmps58
  go_wp2_with fail
  go_loopw [8] (fun iv wr => ∃ i : Nat, i ≤ n ∧ iv = .int .i64 i ∧ w = wr ∧ ∀ j (hj : j < i) (h : j < ss.length), ss[j] ≠ x) (fun iv _ => n - (intOf iv).toNat)
  case atStart => exact ⟨0, Nat.zero_le _, rfl, rfl, fun j hj => by omega⟩
  case round =>
    obtain ⟨i, hi, rfl, rfl, hne⟩ := hrel
    have HNE := Lib.hid hne
    clear hne
    by_cases hlt : i < n
    · have hlts : i < ss.length := by rw [← HNN.out]; exact hlt
      have c0 := HL.out i hlts
      obtain ⟨y, hy⟩ : ∃ y, y = ss[i] := ⟨_, rfl⟩
      rw [← hy] at c0
      have HY := Lib.hid hy
      clear hy
      by_cases he : x = y
      · have HE := Lib.hid he
        subst he
        have hxx : (x.toList == x.toList) = true := by simp
        go_wp2_with fail
        go_ret
        exact ⟨rfl, .inl ⟨i, hlts, rfl, HY.out.symm, fun j hj => HNE.out j hj (by omega)⟩⟩
      · have hsb : (x.toList == y.toList) = false := ba_ne he
        have HE := Lib.hid he
        clear he
        go_wp2_with fail
        exact ⟨⟨i + 1, by omega, by go_num, trivial, fun j hj h => by
          by_cases e : j = i
          · subst e; rw [← HY.out]; exact fun e => HE.out e.symm
          · exact HNE.out j (by omega) h⟩, by simp [intOf]; omega⟩
    · have hin : i = n := by omega
      have HF : Hid (∀ j (h : j < ss.length), ss[j] ≠ x) := Lib.hid (fun j h => HNE.out j (by rw [hin, HNN.out]; exact h) h)
      go_wp2_with fail
      go_ret
      exact ⟨rfl, .inr ⟨rfl, HF.out⟩⟩

/-- What 'slices.Contains' answers. -/
def HasPost (ss : List ByteArray) (x : ByteArray) (w : World) (e : Ending) (w' : World) : Prop :=
  w = w' ∧ ∃ b, e = .returned (.bool b) ∧ (b = true → ∃ (k : Nat) (h : k < ss.length), ss[k] = x) ∧ (b = false → ∀ j (h : j < ss.length), ss[j] ≠ x)

set_option maxRecDepth 100000 in
theorem contains_any (ss : List ByteArray) (x : ByteArray) (n : Nat) (hns : n = ss.length) (g cap : Nat) (w : World) (hn : n ≤ 1048576) (hl : TxG w g ss) :
    Calls Tryz.prog 63 #[.slice (some ⟨g, 0, none⟩) n cap, .string x] w (HasPost ss x w) := by
  have HI := Lib.hid (index_any ss x n hns g cap w hn hl)
  clear hns hl
  go_enter Tryz.func63, Tryz.ntmps63
  go_wp2_with fail
  refine HI.out.mono ?_
  rintro e w1 ⟨rfl, ⟨k, hk, rfl, hx, _⟩ | ⟨rfl, hne⟩⟩
  · have HX := Lib.hid hx
    have k0 : (0 : Int) ≤ (k : Int) := by omega
    clear hx
    go_wp2_with fail
    go_ret
    exact ⟨rfl, true, by first | rfl | simp, fun _ => ⟨k, hk, HX.out⟩, fun h => by cases h⟩
  · have HNE := Lib.hid hne
    clear hne
    go_wp2_with fail
    go_ret
    exact ⟨rfl, false, by first | rfl | simp, (fun h => by cases h), fun _ => HNE.out⟩

/-- The struct of quadratic trees: its texts, and the sign of each. -/
def QAgg (ts : List T) (v : Value) (cs : Array Value) : Prop :=
  cs.size = 19 ∧ cs[0]? = some v ∧ ∀ j, j < 18 → cs[1 + j]? = some (.int .i64 (if h : j < ts.length then quadSign ts[j] % 101 else 0))

/-- What 'readQuadratics' answers. -/
def RQuad (ss : List ByteArray) (w : World) (e : Ending) (w' : World) : Prop :=
  Below w.heap.size w w' ∧ ((quadsOf ss = none ∧ ∃ cs, e = .returned (.tuple #[.agg cs, .bool false]) ∧ QAgg [] (.slice none 0 0) cs) ∨
    ∃ ts a c cs, quadsOf ss = some ts ∧ e = .returned (.tuple #[.agg cs, .bool true]) ∧ QAgg ts (.slice a ts.length c) cs ∧ Lies w' a (ts.map T.text) ∧
      (ts = [] ∨ ∃ g cur, a = some ⟨g, 0, none⟩ ∧ w'.heap[g]? = some (.cells cur 9 (0, 0)) ∧ ts.length ≤ cur.size ∧ w.heap.size ≤ g))


theorem below_setRow {n : Nat} {w w' : World} (h : Below n w w') {g : Nat} (hg : n ≤ g) (cs : Array Value) : Below n w (w'.setRow g cs) where
  os := h.os
  tape := h.tape
  output := h.output
  size := by simpa using h.size
  block := fun b hb => by rw [setRow_other _ _ _ _ (by omega)]; exact h.block b hb

theorem infoQ : (Tryz.prog.info? 55).map (·.size) = some 19 := by kernel_rfl
theorem descQ : (match Tryz.prog.underlying 55 with | some (.struct _) => true | _ => false) = true := by kernel_rfl

def quadZero : Array Value := #[.slice none 0 0, .int .i64 0, .int .i64 0, .int .i64 0, .int .i64 0, .int .i64 0, .int .i64 0, .int .i64 0, .int .i64 0, .int .i64 0, .int .i64 0, .int .i64 0, .int .i64 0, .int .i64 0, .int .i64 0, .int .i64 0, .int .i64 0, .int .i64 0, .int .i64 0]
theorem quadZero_agg : QAgg [] (.slice none 0 0) quadZero := by
  refine ⟨rfl, rfl, fun j hj => ?_⟩
  have e : quadZero = #[.slice none 0 0] ++ Array.replicate 18 (.int .i64 0) := by rfl
  rw [e, Array.getElem?_append_right (by simp)]
  simp only [List.size_toArray, List.length_cons, List.length_nil, Nat.zero_add, Nat.add_sub_cancel_left, Array.getElem?_replicate, hj, if_true]
  simp

theorem quadZero_one : quadZero.all (·.oneCell') = true := by kernel_rfl
theorem QAgg.one {ts : List T} {v : Value} {cs : Array Value} (h : QAgg ts v cs) (hv : v.oneCell' = true) : cs.all (·.oneCell') = true := by
  obtain ⟨h1, h2, h3⟩ := h
  rw [Array.all_eq_true]
  intro i hi
  by_cases h0 : i = 0
  · subst h0
    rw [Array.getElem?_eq_getElem hi] at h2
    simp only [Option.some.injEq] at h2
    rw [h2]; exact hv
  · have := h3 (i - 1) (by omega)
    rw [show 1 + (i - 1) = i by omega, Array.getElem?_eq_getElem hi] at this
    simp only [Option.some.injEq] at this
    rw [this]; rfl
/-- The letters, one by one. -/
theorem isLet_one {s : ByteArray} (h : isLet s.data.toList = true) : ∃ c, letOne s.data.toList = some c := by
  obtain ⟨c, rfl, h1, h2⟩ := let_of h
  exact ⟨c, let_one_yes ⟨h1, h2⟩⟩
theorem isLet_none {s : ByteArray} (h : isLet s.data.toList = false) : letOne s.data.toList = none := by
  cases ho : letOne s.data.toList with
  | none => rfl
  | some c =>
    obtain ⟨e, h1, h2⟩ := letOne_some ho
    rw [e] at h
    simp only [isLet, Bool.and_eq_false_imp, decide_eq_true_eq, decide_eq_false_iff_not] at h
    exact absurd (show (c.toNat : Int) ≤ 104 by omega) (h (by omega))

theorem quad_ret {w : World} {g : Nat} {cs : Array Value} {fr : Nat × Nat} (hg : w.heap[g]? = some (.cells cs 55 fr)) (h19 : cs.size = 19) : (loadVar 55 ⟨g, 0, none⟩).run Tryz.prog w = .ok (.agg cs) w := by
  have hd := descQ
  cases hu : Tryz.prog.underlying 55 with
  | none => rw [hu] at hd; cases hd
  | some d =>
    rw [hu] at hd
    cases d <;> first | (cases hd; done) | exact run_loadVar_row w g 55 55 cs fr _ hg hu rfl (by rw [h19]; exact infoQ)

def quadW (wr : World) (x y : ByteArray) : World := ((((((((((wr.alloc (.cells #[] 108 (0, 0))).alloc (.cells #[] 108 (0, 0))).alloc (.cells #[.iface 106 (.pointer (some ⟨wr.heap.size, 0, none⟩)), .iface 106 (.pointer (some ⟨wr.heap.size + 1, 0, none⟩))] 113 (0, 0))).alloc (.cells #[.string y, .slice (some ⟨wr.heap.size + 1 + 1, 0, none⟩) 2 2] 111 (0, 0))).alloc (.cells #[] 108 (0, 0))).alloc (.cells #[.iface 105 (.pointer (some ⟨wr.heap.size + 1 + 1 + 1, 0, none⟩)), .iface 106 (.pointer (some ⟨wr.heap.size + 1 + 1 + 1 + 1, 0, none⟩))] 113 (0, 0))).alloc (.cells #[.string x, .slice (some ⟨wr.heap.size + 1 + 1 + 1 + 1 + 1, 0, none⟩) 2 2] 111 (0, 0))).alloc (.cells #[] 108 (0, 0))).alloc (.cells #[.iface 106 (.pointer (some ⟨wr.heap.size + 1 + 1 + 1 + 1 + 1 + 1 + 1, 0, none⟩)), .iface 105 (.pointer (some ⟨wr.heap.size + 1 + 1 + 1, 0, none⟩))] 113 (0, 0))).alloc (.cells #[.string x, .slice (some ⟨wr.heap.size + 1 + 1 + 1 + 1 + 1 + 1 + 1 + 1, 0, none⟩) 2 2] 111 (0, 0)))
theorem quadW_size (wr : World) (x y : ByteArray) : (quadW wr x y).heap.size = wr.heap.size + 10 := by simp [quadW]
theorem quadW_below (wr : World) (x y : ByteArray) : Below wr.heap.size wr (quadW wr x y) := by
  unfold quadW
  exact (((((((((((Below.refl _ _).alloc (Nat.le_refl _) _).alloc (by simp) _).alloc (by simp; omega) _).alloc (by simp; omega) _).alloc (by simp; omega) _).alloc (by simp; omega) _).alloc (by simp; omega) _).alloc (by simp; omega) _).alloc (by simp; omega) _).alloc (by simp; omega) _)
theorem quadW_b2 (wr : World) (x y : ByteArray) : (quadW wr x y).heap[wr.heap.size + 1 + 1]? = some (.cells #[.iface 106 (.pointer (some ⟨wr.heap.size, 0, none⟩)), .iface 106 (.pointer (some ⟨wr.heap.size + 1, 0, none⟩))] 113 (0, 0)) := by
  unfold quadW
  rw [Below.heap_alloc _ _ _ (by simp <;> omega)]
  rw [Below.heap_alloc _ _ _ (by simp <;> omega)]
  rw [Below.heap_alloc _ _ _ (by simp <;> omega)]
  rw [Below.heap_alloc _ _ _ (by simp <;> omega)]
  rw [Below.heap_alloc _ _ _ (by simp <;> omega)]
  rw [Below.heap_alloc _ _ _ (by simp <;> omega)]
  rw [Below.heap_alloc _ _ _ (by simp <;> omega)]
  rw [show wr.heap.size + 1 + 1 = ((wr.alloc (.cells #[] 108 (0, 0))).alloc (.cells #[] 108 (0, 0))).heap.size by simp]
  exact heap_alloc_new _ _
theorem quadW_b3 (wr : World) (x y : ByteArray) : (quadW wr x y).heap[wr.heap.size + 1 + 1 + 1]? = some (.cells #[.string y, .slice (some ⟨wr.heap.size + 1 + 1, 0, none⟩) 2 2] 111 (0, 0)) := by
  unfold quadW
  rw [Below.heap_alloc _ _ _ (by simp <;> omega)]
  rw [Below.heap_alloc _ _ _ (by simp <;> omega)]
  rw [Below.heap_alloc _ _ _ (by simp <;> omega)]
  rw [Below.heap_alloc _ _ _ (by simp <;> omega)]
  rw [Below.heap_alloc _ _ _ (by simp <;> omega)]
  rw [Below.heap_alloc _ _ _ (by simp <;> omega)]
  rw [show wr.heap.size + 1 + 1 + 1 = (((wr.alloc (.cells #[] 108 (0, 0))).alloc (.cells #[] 108 (0, 0))).alloc (.cells #[.iface 106 (.pointer (some ⟨wr.heap.size, 0, none⟩)), .iface 106 (.pointer (some ⟨wr.heap.size + 1, 0, none⟩))] 113 (0, 0))).heap.size by simp]
  exact heap_alloc_new _ _
theorem quadW_b5 (wr : World) (x y : ByteArray) : (quadW wr x y).heap[wr.heap.size + 1 + 1 + 1 + 1 + 1]? = some (.cells #[.iface 105 (.pointer (some ⟨wr.heap.size + 1 + 1 + 1, 0, none⟩)), .iface 106 (.pointer (some ⟨wr.heap.size + 1 + 1 + 1 + 1, 0, none⟩))] 113 (0, 0)) := by
  unfold quadW
  rw [Below.heap_alloc _ _ _ (by simp <;> omega)]
  rw [Below.heap_alloc _ _ _ (by simp <;> omega)]
  rw [Below.heap_alloc _ _ _ (by simp <;> omega)]
  rw [Below.heap_alloc _ _ _ (by simp <;> omega)]
  rw [show wr.heap.size + 1 + 1 + 1 + 1 + 1 = (((((wr.alloc (.cells #[] 108 (0, 0))).alloc (.cells #[] 108 (0, 0))).alloc (.cells #[.iface 106 (.pointer (some ⟨wr.heap.size, 0, none⟩)), .iface 106 (.pointer (some ⟨wr.heap.size + 1, 0, none⟩))] 113 (0, 0))).alloc (.cells #[.string y, .slice (some ⟨wr.heap.size + 1 + 1, 0, none⟩) 2 2] 111 (0, 0))).alloc (.cells #[] 108 (0, 0))).heap.size by simp]
  exact heap_alloc_new _ _
theorem quadW_b6 (wr : World) (x y : ByteArray) : (quadW wr x y).heap[wr.heap.size + 1 + 1 + 1 + 1 + 1 + 1]? = some (.cells #[.string x, .slice (some ⟨wr.heap.size + 1 + 1 + 1 + 1 + 1, 0, none⟩) 2 2] 111 (0, 0)) := by
  unfold quadW
  rw [Below.heap_alloc _ _ _ (by simp <;> omega)]
  rw [Below.heap_alloc _ _ _ (by simp <;> omega)]
  rw [Below.heap_alloc _ _ _ (by simp <;> omega)]
  rw [show wr.heap.size + 1 + 1 + 1 + 1 + 1 + 1 = ((((((wr.alloc (.cells #[] 108 (0, 0))).alloc (.cells #[] 108 (0, 0))).alloc (.cells #[.iface 106 (.pointer (some ⟨wr.heap.size, 0, none⟩)), .iface 106 (.pointer (some ⟨wr.heap.size + 1, 0, none⟩))] 113 (0, 0))).alloc (.cells #[.string y, .slice (some ⟨wr.heap.size + 1 + 1, 0, none⟩) 2 2] 111 (0, 0))).alloc (.cells #[] 108 (0, 0))).alloc (.cells #[.iface 105 (.pointer (some ⟨wr.heap.size + 1 + 1 + 1, 0, none⟩)), .iface 106 (.pointer (some ⟨wr.heap.size + 1 + 1 + 1 + 1, 0, none⟩))] 113 (0, 0))).heap.size by simp]
  exact heap_alloc_new _ _
theorem quadW_b8 (wr : World) (x y : ByteArray) : (quadW wr x y).heap[wr.heap.size + 1 + 1 + 1 + 1 + 1 + 1 + 1 + 1]? = some (.cells #[.iface 106 (.pointer (some ⟨wr.heap.size + 1 + 1 + 1 + 1 + 1 + 1 + 1, 0, none⟩)), .iface 105 (.pointer (some ⟨wr.heap.size + 1 + 1 + 1, 0, none⟩))] 113 (0, 0)) := by
  unfold quadW
  rw [Below.heap_alloc _ _ _ (by simp <;> omega)]
  rw [show wr.heap.size + 1 + 1 + 1 + 1 + 1 + 1 + 1 + 1 = ((((((((wr.alloc (.cells #[] 108 (0, 0))).alloc (.cells #[] 108 (0, 0))).alloc (.cells #[.iface 106 (.pointer (some ⟨wr.heap.size, 0, none⟩)), .iface 106 (.pointer (some ⟨wr.heap.size + 1, 0, none⟩))] 113 (0, 0))).alloc (.cells #[.string y, .slice (some ⟨wr.heap.size + 1 + 1, 0, none⟩) 2 2] 111 (0, 0))).alloc (.cells #[] 108 (0, 0))).alloc (.cells #[.iface 105 (.pointer (some ⟨wr.heap.size + 1 + 1 + 1, 0, none⟩)), .iface 106 (.pointer (some ⟨wr.heap.size + 1 + 1 + 1 + 1, 0, none⟩))] 113 (0, 0))).alloc (.cells #[.string x, .slice (some ⟨wr.heap.size + 1 + 1 + 1 + 1 + 1, 0, none⟩) 2 2] 111 (0, 0))).alloc (.cells #[] 108 (0, 0))).heap.size by simp]
  exact heap_alloc_new _ _
theorem quadW_b9 (wr : World) (x y : ByteArray) : (quadW wr x y).heap[wr.heap.size + 1 + 1 + 1 + 1 + 1 + 1 + 1 + 1 + 1]? = some (.cells #[.string x, .slice (some ⟨wr.heap.size + 1 + 1 + 1 + 1 + 1 + 1 + 1 + 1, 0, none⟩) 2 2] 111 (0, 0)) := by
  unfold quadW
  rw [show wr.heap.size + 1 + 1 + 1 + 1 + 1 + 1 + 1 + 1 + 1 = (((((((((wr.alloc (.cells #[] 108 (0, 0))).alloc (.cells #[] 108 (0, 0))).alloc (.cells #[.iface 106 (.pointer (some ⟨wr.heap.size, 0, none⟩)), .iface 106 (.pointer (some ⟨wr.heap.size + 1, 0, none⟩))] 113 (0, 0))).alloc (.cells #[.string y, .slice (some ⟨wr.heap.size + 1 + 1, 0, none⟩) 2 2] 111 (0, 0))).alloc (.cells #[] 108 (0, 0))).alloc (.cells #[.iface 105 (.pointer (some ⟨wr.heap.size + 1 + 1 + 1, 0, none⟩)), .iface 106 (.pointer (some ⟨wr.heap.size + 1 + 1 + 1 + 1, 0, none⟩))] 113 (0, 0))).alloc (.cells #[.string x, .slice (some ⟨wr.heap.size + 1 + 1 + 1 + 1 + 1, 0, none⟩) 2 2] 111 (0, 0))).alloc (.cells #[] 108 (0, 0))).alloc (.cells #[.iface 106 (.pointer (some ⟨wr.heap.size + 1 + 1 + 1 + 1 + 1 + 1 + 1, 0, none⟩)), .iface 105 (.pointer (some ⟨wr.heap.size + 1 + 1 + 1, 0, none⟩))] 113 (0, 0))).heap.size by simp]
  exact heap_alloc_new _ _
theorem cellAt {W : World} {g : Nat} {cs : Array Value} {t : TypeId} {fr : Nat × Nat} (h : W.heap[g]? = some (.cells cs t fr)) {j : Nat} {v : Value} (hv : cs[j]? = some v) : W.cell? ⟨g, j, none⟩ = some v := by
  rw [cell_of_row W g j cs t fr h]; exact hv
theorem quadW_inner (wr : World) (x : ByteArray) (cy : UInt8) : RepI (quadW wr x ⟨#[cy]⟩) (fun b => wr.heap.size ≤ b) (.node cy [.leaf, .leaf]) 105 ⟨wr.heap.size + 1 + 1 + 1, 0, none⟩ := by
  simp only [RepI, RepIL]
  exact ⟨trivial, _, _, 2, rfl, by omega, by omega, cellAt (quadW_b3 wr x ⟨#[cy]⟩) rfl, cellAt (quadW_b3 wr x ⟨#[cy]⟩) rfl, by simp, ⟨_, _, cellAt (quadW_b2 wr x ⟨#[cy]⟩) rfl, rfl⟩, ⟨_, _, cellAt (quadW_b2 wr x ⟨#[cy]⟩) rfl, rfl⟩, trivial⟩
theorem quadW_left (wr : World) (cx cy : UInt8) : RepI (quadW wr ⟨#[cx]⟩ ⟨#[cy]⟩) (fun b => wr.heap.size ≤ b) (quadL cx cy) 105 ⟨wr.heap.size + 1 + 1 + 1 + 1 + 1 + 1, 0, none⟩ := by
  have h := quadW_inner wr ⟨#[cx]⟩ cy
  show RepI _ _ (.node cx [.node cy [.leaf, .leaf], .leaf]) _ _
  rw [RepI]
  refine ⟨rfl, _, _, 2, rfl, by omega, by omega, cellAt (quadW_b6 wr ⟨#[cx]⟩ ⟨#[cy]⟩) rfl, cellAt (quadW_b6 wr ⟨#[cx]⟩ ⟨#[cy]⟩) rfl, by simp, ?_⟩
  rw [RepIL, RepIL, RepIL]
  refine ⟨⟨_, _, cellAt (quadW_b5 wr ⟨#[cx]⟩ ⟨#[cy]⟩) rfl, h⟩, ⟨_, _, cellAt (quadW_b5 wr ⟨#[cx]⟩ ⟨#[cy]⟩) rfl, ?_⟩, trivial⟩
  rw [RepI]
theorem quadW_right (wr : World) (cx cy : UInt8) : RepI (quadW wr ⟨#[cx]⟩ ⟨#[cy]⟩) (fun b => wr.heap.size ≤ b) (quadR cx cy) 105 ⟨wr.heap.size + 1 + 1 + 1 + 1 + 1 + 1 + 1 + 1 + 1, 0, none⟩ := by
  have h := quadW_inner wr ⟨#[cx]⟩ cy
  show RepI _ _ (.node cx [.leaf, .node cy [.leaf, .leaf]]) _ _
  rw [RepI]
  refine ⟨rfl, _, _, 2, rfl, by omega, by omega, cellAt (quadW_b9 wr ⟨#[cx]⟩ ⟨#[cy]⟩) rfl, cellAt (quadW_b9 wr ⟨#[cx]⟩ ⟨#[cy]⟩) rfl, by simp, ?_⟩
  rw [RepIL, RepIL, RepIL]
  refine ⟨⟨_, _, cellAt (quadW_b8 wr ⟨#[cx]⟩ ⟨#[cy]⟩) rfl, ?_⟩, ⟨_, _, cellAt (quadW_b8 wr ⟨#[cx]⟩ ⟨#[cy]⟩) rfl, h⟩, trivial⟩
  rw [RepI]
theorem quad_ok {cx cy : UInt8} (hx : 97 ≤ cx.toNat ∧ cx.toNat ≤ 104) (hy : 97 ≤ cy.toNat ∧ cy.toNat ≤ 104) : ((quadL cx cy).wf ∧ (quadL cx cy).leaves = 3 ∧ (quadL cx cy).nodes = 2) ∧ (quadR cx cy).wf ∧ (quadR cx cy).leaves = 3 ∧ (quadR cx cy).nodes = 2 := by
  have h := quad_wf (cs := [cx, cy]) (fun c hc => by
    simp at hc
    rcases hc with rfl | rfl
    · exact hx
    · exact hy)
  exact ⟨h _ (quadAll_mem.2 ⟨cx, by simp, cy, by simp, .inl rfl⟩), h _ (quadAll_mem.2 ⟨cx, by simp, cy, by simp, .inr rfl⟩)⟩
theorem descQ2 : ∃ fs, Tryz.prog.underlying 55 = some (.struct fs) := by
  have hd := descQ
  cases hu : Tryz.prog.underlying 55 with
  | none => rw [hu] at hd; cases hd
  | some d =>
    rw [hu] at hd
    cases d <;> first | (cases hd; done) | exact ⟨_, rfl⟩

def qTms (ts : List T) : List Tm := ts.map fun t => (quadSign t, t)
/-- The row of parts that grows. -/
def PAll (w0 : World) (ts : List T) (m : Nat) (pv : Value) (wr : World) : Prop :=
  ∃ va vc vs, pv = .slice va m vc ∧ va ≠ none ∧ (qTms ts).length = m ∧ Row tmI 120 w0.heap.size (qTms ts) (.slice va m vc) vs wr ∧ Below w0.heap.size w0 wr

theorem field_parts (f v : Value) (w : World) : (Instr.field 123 (.agg #[f, v]) 1).run Tryz.prog w = .ok v w := by kernel_rfl
/-- The loop that tells texts and signs: 'B' is the struct's block. -/
def QLoop (B : Nat) (w3 : World) (ts : List T) (i : Nat) (wr : World) : Prop :=
  ∃ va vc vs cur, Row txQ 9 w3.heap.size ((ts.take i).map T.text) (.slice va i vc) vs wr ∧ wr.heap[B]? = some (.cells cur 55 (0, 0)) ∧ QAgg (ts.take i) (.slice va i vc) cur ∧ (∀ b, b < w3.heap.size → b ≠ B → wr.heap[b]? = w3.heap[b]?) ∧ Below B w3 wr

theorem quad_next {B i2 : Nat} {w3 wr w6 : World} {ts : List T} {va : Option Addr} {vc : Nat} {vs : List Value} {cur : Array Value} {cc : Int} {ty : TypeId} {a : Addr} {gw pl wc g3 q3 : Nat} {tx : List UInt8} {t : T}
    (hrow : Row txQ 9 w3.heap.size ((ts.take i2).map T.text) (.slice va i2 vc) vs wr) (hcur : wr.heap[B]? = some (.cells cur 55 (0, 0))) (hagg : QAgg (ts.take i2) (.slice va i2 vc) cur) (hmid : ∀ b, b < w3.heap.size → b ≠ B → wr.heap[b]? = w3.heap[b]?) (hBx : Below B w3 wr)
    (hsr : w3.heap.size ≤ wr.heap.size) (hB : B < w3.heap.size) (ht2 : i2 < ts.length) (h18 : ts.length ≤ 18) (ht : t = ts[i2]) (hcc : cc = quadSign t % 101) (htx : tx = t.text)
    (hown3 : w6.ownsRow w3.heap.size 9 1 (.slice (some ⟨g3, 0, none⟩) (i2 + 1) q3) (i2 + 1) (vs ++ [.string ⟨tx.toArray⟩])) (hg3 : ((wr.alloc (.cells #[.int .i64 cc, .iface ty (.pointer (some a)), .slice (some ⟨gw, 0, none⟩) pl wc, .string ⟨tx.toArray⟩] 120 (0, 0))).alloc (.cells #[.string ⟨tx.toArray⟩] 9 (0, 0))).grownBy w6 (Value.slice va i2 vc).ownBlock)
    (hat3 : (Value.slice (some ⟨g3, 0, none⟩) (i2 + 1) q3).ownBlock = (Value.slice va i2 vc).ownBlock ∨ (Value.slice (some ⟨g3, 0, none⟩) (i2 + 1) q3).ownBlock = some ((wr.alloc (.cells #[.int .i64 cc, .iface ty (.pointer (some a)), .slice (some ⟨gw, 0, none⟩) pl wc, .string ⟨tx.toArray⟩] 120 (0, 0))).alloc (.cells #[.string ⟨tx.toArray⟩] 9 (0, 0))).heap.size) :
    w6.cell? ⟨B, 0, none⟩ = some (.slice va i2 vc) ∧ w6.frozen? ⟨B, 0, none⟩ = false ∧ (w6.setCell ⟨B, 0, none⟩ (.slice (some ⟨g3, 0, none⟩) (i2 + 1) q3)).cell? ⟨wr.heap.size, 0, none⟩ = some (.int .i64 cc) ∧ (∃ z, (w6.setCell ⟨B, 0, none⟩ (.slice (some ⟨g3, 0, none⟩) (i2 + 1) q3)).cell? ⟨B, 1 + i2, none⟩ = some (.int .i64 z)) ∧
      (w6.setCell ⟨B, 0, none⟩ (.slice (some ⟨g3, 0, none⟩) (i2 + 1) q3)).frozen? ⟨B, 1 + i2, none⟩ = false ∧ QLoop B w3 ts (i2 + 1) ((w6.setCell ⟨B, 0, none⟩ (.slice (some ⟨g3, 0, none⟩) (i2 + 1) q3)).setCell ⟨B, 1 + i2, none⟩ (.int .i64 cc)) := by
  have hlen2 : ((ts.take i2).map T.text).length = i2 := by rw [List.length_map, List.length_take]; omega
  have hlt3 : ∀ q, (Value.slice va i2 vc).ownBlock = some q → w3.heap.size ≤ q ∧ q < wr.heap.size := fun q e => hrow.own.lt q e
  have hbB : w6.heap[B]? = some (.cells cur 55 (0, 0)) := by
    rw [hg3.block _ (by simp; omega) (fun e => by have := (hlt3 _ e.symm).1; omega), Below.heap_alloc _ _ _ (by simp; omega), Below.heap_alloc _ _ _ (by omega)]
    exact hcur
  have hb16 : w6.heap[wr.heap.size]? = some (.cells #[.int .i64 cc, .iface ty (.pointer (some a)), .slice (some ⟨gw, 0, none⟩) pl wc, .string ⟨tx.toArray⟩] 120 (0, 0)) := by
    rw [hg3.block _ (by simp; omega) (fun e => by have := (hlt3 _ e.symm).2; omega), Below.heap_alloc _ _ _ (by simp)]
    exact heap_alloc_new _ _
  have hbB7 := heap_setCell_same (k := 0) hbB (.slice (some ⟨g3, 0, none⟩) (i2 + 1) q3)
  have hb167 : (w6.setCell ⟨B, 0, none⟩ (.slice (some ⟨g3, 0, none⟩) (i2 + 1) q3)).heap[wr.heap.size]? = some (.cells #[.int .i64 cc, .iface ty (.pointer (some a)), .slice (some ⟨gw, 0, none⟩) pl wc, .string ⟨tx.toArray⟩] 120 (0, 0)) := by
    rw [Below.heap_setCell _ _ _ _ (by simp; omega)]; exact hb16
  have hcs : cur.size = 19 := hagg.1
  have hold := hagg.2.2 i2 (by omega)
  refine ⟨cellAt hbB hagg.2.1, frozen_of_row _ _ 0 _ _ hbB, cellAt hb167 rfl, ⟨_, cellAt hbB7 (by rw [Array.getElem?_setIfInBounds_ne (by omega)]; exact hold)⟩, frozen_of_row _ _ (1 + i2) _ _ hbB7, ?_⟩
  have e1 : ts.take (i2 + 1) = ts.take i2 ++ [t] := by rw [List.take_succ_eq_append_getElem ht2, ← ht]
  have hNX := hrow.next (a := tx) (g := g3) (cap := q3) (w1 := wr) (w1' := (wr.alloc (.cells #[.int .i64 cc, .iface ty (.pointer (some a)), .slice (some ⟨gw, 0, none⟩) pl wc, .string ⟨tx.toArray⟩] 120 (0, 0))).alloc (.cells #[.string ⟨tx.toArray⟩] 9 (0, 0))) (Below.refl _ _) rfl (((Below.refl _ _).alloc (Nat.le_refl _) _).alloc (by simp) _) (by rw [hlen2]; exact hown3) hg3 (by
    rcases hat3 with h | h
    · left; rw [← h]; rfl
    · right; simp [Value.ownBlock] at h; omega)
  rw [hlen2] at hNX
  have hk1 : (w6.setCell ⟨B, 0, none⟩ (.slice (some ⟨g3, 0, none⟩) (i2 + 1) q3)).ownsRow w3.heap.size 9 1 (.slice (some ⟨g3, 0, none⟩) (i2 + 1) q3) (i2 + 1) (vs ++ [.string ⟨tx.toArray⟩]) := hown3.kept (grownBy_setCell (grownBy_refl _ _) _) (.inr fun e => by have := (hown3.lt _ e).1; omega)
  have hk2 : ((w6.setCell ⟨B, 0, none⟩ (.slice (some ⟨g3, 0, none⟩) (i2 + 1) q3)).setCell ⟨B, 1 + i2, none⟩ (.int .i64 cc)).ownsRow w3.heap.size 9 1 (.slice (some ⟨g3, 0, none⟩) (i2 + 1) q3) (i2 + 1) (vs ++ [.string ⟨tx.toArray⟩]) := hk1.kept (grownBy_setCell (grownBy_refl _ _) _) (.inr fun e => by have := (hk1.lt _ e).1; omega)
  refine ⟨some ⟨g3, 0, none⟩, q3, vs ++ [.string ⟨tx.toArray⟩], (cur.setIfInBounds 0 (.slice (some ⟨g3, 0, none⟩) (i2 + 1) q3)).setIfInBounds (1 + i2) (.int .i64 cc), ?_, heap_setCell_same (k := 1 + i2) hbB7 _, ⟨by simp [hcs], ?_, fun j hj => ?_⟩, fun b hb hne => ?_, ?_⟩
  · rw [e1, List.map_append, List.map_cons, List.map_nil, ← htx]
    exact ⟨by rw [List.length_append, hlen2]; exact hk2, fun q hq => hNX.reps q hq⟩
  · rw [Array.getElem?_setIfInBounds_ne (by omega), Array.getElem?_setIfInBounds_self_of_lt (by omega)]
  · have hl1 : (ts.take (i2 + 1)).length = i2 + 1 := by rw [List.length_take]; omega
    by_cases ej : j = i2
    · subst ej
      rw [Array.getElem?_setIfInBounds_self_of_lt (by simp; omega), dif_pos (by omega), hcc, ht, List.getElem_take]
    · rw [Array.getElem?_setIfInBounds_ne (by omega), Array.getElem?_setIfInBounds_ne (by omega), hagg.2.2 j hj]
      have hl0 : (ts.take i2).length = i2 := by rw [List.length_take]; omega
      by_cases hji : j < i2
      · rw [dif_pos (by omega), dif_pos (by omega), List.getElem_take, List.getElem_take]
      · rw [dif_neg (by omega), dif_neg (by omega)]
  · rw [Below.heap_setCell _ _ _ _ hne, Below.heap_setCell _ _ _ _ hne, hg3.block b (by simp; omega) (fun e => by have := (hlt3 _ e.symm).1; omega), Below.heap_alloc _ _ _ (by simp; omega), Below.heap_alloc _ _ _ (by omega)]
    exact hmid b hb hne
  · exact ((((hBx.alloc (by omega) _).alloc (by simp; omega) _).grown hg3 (by simp; omega) (fun q e => by have := (hlt3 q e).1; omega)).setCell (Nat.le_refl _) _).setCell (Nat.le_refl _) _


end Go.Proofs.YtoeebipahifpcaaGreat
end
section
/- The program reads letters: the quadratic trees. -/
namespace Go.Proofs.YtoeebipahifpcaaGreat
open Go.RowKit

set_option maxRecDepth 100000 in
set_option maxHeartbeats 4000000 in
theorem readQuadratics_any (ss : List ByteArray) (n : Nat) (hns : n = ss.length) (ga cap : Nat) (w : World) (hn : n ≤ 1048576) (hcap : n ≤ cap) (hz : ∀ j (h : j < ss.length), (ss[j]).size ≤ 1048576) (hl : TxG w ga ss) :
    Calls Tryz.prog 49 #[.slice (some ⟨ga, 0, none⟩) n cap] w (RQuad ss w) := by
  obtain ⟨i0, hi0, hzz, hzs, hzb⟩ := info_parts infoPt
  have HL := Lib.hid hl
  have HZ := Lib.hid hz
  have HNN := Lib.hid hns
  obtain ⟨w0, hw0⟩ : ∃ w0, w0 = w.alloc (.cells #[.slice none 0 0, .int .i64 0, .int .i64 0, .int .i64 0, .int .i64 0, .int .i64 0, .int .i64 0, .int .i64 0, .int .i64 0, .int .i64 0, .int .i64 0, .int .i64 0, .int .i64 0, .int .i64 0, .int .i64 0, .int .i64 0, .int .i64 0, .int .i64 0, .int .i64 0] 55 (0, 0)) := ⟨_, rfl⟩
  have HW0 := Lib.hid hw0
  have HB0 : Hid (Below w.heap.size w w0) := Lib.hid (by rw [hw0]; exact (Below.refl _ _).alloc (Nat.le_refl _) _)
  have HG0 : Hid (w0.heap[w.heap.size]? = some (.cells quadZero 55 (0, 0))) := Lib.hid (by rw [hw0]; exact heap_alloc_new w _)
  have HS0 : Hid (w0.heap.size = w.heap.size + 1) := Lib.hid (by rw [hw0]; simp)
  have BAD : Hid (∀ (W : World), Below w0.heap.size w0 W → Below w.heap.size w (W.setRow w.heap.size quadZero) ∧ (W.setRow w.heap.size quadZero).heap[w.heap.size]? = some (.cells quadZero 55 (0, 0)) ∧ W.heap[w.heap.size]? = some (.cells quadZero 55 (0, 0))) := Lib.hid (fun W hb => by
    have h1 : W.heap[w.heap.size]? = some (.cells quadZero 55 (0, 0)) := (hb.block _ (by have := HS0.out; omega)).trans HG0.out
    exact ⟨below_setRow (below_step HB0.out hb) (Nat.le_refl _) _, setRow_heap _ _ _ _ _ _ h1, h1⟩)
  clear hl hz hns hw0
  by_cases hin : 1 ≤ n ∧ n ≤ 3
  · have hn1 : ((n : Int) == 0) = false := by simp; omega
    have hn2 : decide ((3 : Int) < (n : Int)) = false := decide_eq_false (by omega)
    go_enter Tryz.func49, Tryz.ntmps49
    go_upto_region 1 with fail
    rw [← HW0.out]
    go_wp2_with fail
    go_loopw [28] (fun iv wr => ∃ i : Nat, i ≤ n ∧ iv = .int .i64 i ∧ wr = w0 ∧ (letAll (ss.take i)).isSome = true) (fun iv _ => n - (intOf iv).toNat)
    case atStart => exact ⟨0, Nat.zero_le _, rfl, rfl, rfl⟩
    case round =>
      obtain ⟨i, hi, rfl, hwr, hlet⟩ := hrel
      rw [hwr]
      clear hwr
      have HLET := Lib.hid hlet
      clear hlet
      by_cases hlt : i < n
      · have hlts : i < ss.length := by rw [← HNN.out]; exact hlt
        have c0 := (HL.out.below HB0.out) i hlts
        obtain ⟨x, hx⟩ : ∃ x, x = ss[i] := ⟨_, rfl⟩
        rw [← hx] at c0
        have hxz : x.size ≤ 1048576 := by rw [hx]; exact HZ.out i hlts
        have HX := Lib.hid hx
        have HIS : Hid (∀ W, Calls Tryz.prog 62 #[.string x] W fun e w' => e = .returned (.bool (isLet x.data.toList)) ∧ W = w') := Lib.hid (fun W => (isLetter_any x W (by omega)).mono fun _ _ h => ⟨h.1, h.2.symm⟩)
        have hic : (i : Int) ≤ (cap : Int) := by omega
        clear hx
        cases hb : isLet x.data.toList with
        | false =>
          have HF : Hid (quadsOf ss = none) := Lib.hid (by rw [quadsOf, let_bad hlts (by rw [← HX.out]; exact isLet_none hb)]; rfl)
          rw [hb] at HIS
          clear hb
          go_wp2_with (first
            | (go_at_call 62; refine (HIS.out _).mono ?_; rintro e w' ⟨rfl, rfl⟩)
            | (refine wpList_store_row rfl 55 (.tmp 2) (.tmp 43) rfl w.heap.size quadZero rfl rfl 55 quadZero (BAD.out w0 (Below.refl _ _)).2.2 infoQ rfl quadZero_one ?_))
          obtain ⟨b1, b2, _⟩ := BAD.out w0 (Below.refl _ _)
          have hq := quad_ret b2 rfl
          refine bodyPost_ret (v := .tuple #[.agg quadZero, .bool false]) (by rw [results_cell_tmp rfl]; simp [asAddr, Result.andThen, hq]) rfl ?_
          exact ⟨b1, .inl ⟨HF.out, _, rfl, quadZero_agg⟩⟩
        | true =>
          obtain ⟨c, hc⟩ := isLet_one hb
          rw [HX.out] at hc
          have HC := Lib.hid hc
          have HCO := Lib.hid (contains_any (ss.take i) x i (by rw [List.length_take]; omega) ga cap w0 (by omega) (fun j hj => by
            rw [List.getElem_take]
            exact (HL.out.below HB0.out) j (by rw [List.length_take] at hj; omega)))
          rw [hb] at HIS
          clear hb hc
          go_wp2_with (go_at_call 62; refine (HIS.out _).mono ?_; rintro e w' ⟨rfl, rfl⟩)
          refine HCO.out.mono ?_
          rintro e w' ⟨rfl, b, rfl, hbt, hbf⟩
          cases b with
          | true =>
            have HF : Hid (quadsOf ss = none) := Lib.hid (by
              obtain ⟨k, hk, e⟩ := hbt rfl
              rw [List.length_take] at hk
              rw [List.getElem_take] at e
              rw [quadsOf, let_dup hlts (show k < i by omega) (by rw [e, HX.out])]; rfl)
            clear hbt hbf
            go_wp2_with (refine wpList_store_row rfl 55 (.tmp 2) (.tmp 43) rfl w.heap.size quadZero rfl rfl 55 quadZero (BAD.out w0 (Below.refl _ _)).2.2 infoQ rfl quadZero_one ?_)
            obtain ⟨b1, b2, _⟩ := BAD.out w0 (Below.refl _ _)
            have hq := quad_ret b2 rfl
            refine bodyPost_ret (v := .tuple #[.agg quadZero, .bool false]) (by rw [results_cell_tmp rfl]; simp [asAddr, Result.andThen, hq]) rfl ?_
            exact ⟨b1, .inl ⟨HF.out, _, rfl, quadZero_agg⟩⟩
          | false =>
            have HLN : Hid ((letAll (ss.take (i + 1))).isSome = true) := Lib.hid (let_next hlts HLET.out HC.out (fun k hk e => hbf rfl k (by rw [List.length_take]; omega) (by rw [List.getElem_take, e, HX.out])))
            clear hbt hbf
            go_wp2_with fail
            exact ⟨⟨i + 1, by omega, by go_num, trivial, HLN.out⟩, by simp [intOf]; omega⟩
      · have hin2 : i = n := by omega
        obtain ⟨cs, hcs⟩ : ∃ cs, lettersOf ss = some cs := by
          have h := HLET.out
          rw [hin2, HNN.out, List.take_length] at h
          cases hc : letAll ss with
          | none => rw [hc] at h; cases h
          | some cs => exact ⟨cs, by rw [lettersOf, if_pos (by have := HNN.out; omega), hc]⟩
        have HCS := Lib.hid hcs
        have hLET : ∀ k, k < n → ∃ c : UInt8, cs[k]? = some c ∧ ss[k]? = some ⟨#[c]⟩ ∧ 97 ≤ c.toNat ∧ c.toNat ≤ 104 := fun k hk => by
          have hks : k < ss.length := by rw [← HNN.out]; exact hk
          obtain ⟨a1, a2, a3, a4⟩ := letters_at hcs hks
          have e : cs.getD k 0 = cs[k] := by rw [List.getD_eq_getElem?_getD, List.getElem?_eq_getElem a1]; rfl
          rw [e] at a2 a3 a4
          exact ⟨cs[k], List.getElem?_eq_getElem a1, by rw [List.getElem?_eq_getElem hks, a2], a3, a4⟩
        have HLT := Lib.hid hLET
        clear hcs hLET hin2
        go_wp2_with fail
        go_loopw [6, 48] (fun pv iv wr => ∃ (i m : Nat), i ≤ n ∧ m ≤ 6 * i ∧ iv = .int .i64 i ∧ PAll w0 ((cs.take i).flatMap (quadRow cs)) m pv wr) (fun _ iv _ => n - (intOf iv).toNat)
        case atStart =>
          exact ⟨0, 0, Nat.zero_le _, Nat.le_refl _, rfl, some ⟨w0.heap.size, 0, none⟩, 0, [], rfl, by simp, by simp [qTms], ⟨World.ownsRow_made w0 #[] 0 (Nat.le_refl _) (by simp [maxLen]) rfl, fun _ h => by simp [qTms] at h⟩, (Below.refl _ _).alloc (Nat.le_refl _) _⟩
        case round =>
          obtain ⟨i, m, hi, hm, rfl, hq⟩ := hrel
          obtain ⟨wo, hwo⟩ : ∃ wo : World, wo = wr := ⟨_, rfl⟩
          rw [← hwo] at hq
          rw [← hwo]
          clear hwo
          have HQ := Lib.hid hq
          obtain ⟨va, vc, vs, rfl, hva, hpl, hrow, hB⟩ := hq
          have HVA := Lib.hid hva
          have HPL := Lib.hid hpl
          have HROW := Lib.hid hrow
          have HB := Lib.hid hB
          clear hva hpl hrow
          by_cases hlt : i < n
          · obtain ⟨cx, hcx, hsx, hx1, hx2⟩ := HLT.out i hlt
            have d0 : wo.cell? ⟨ga, i, none⟩ = some (.string ⟨#[cx]⟩) := by
              have hks : i < ss.length := by rw [← HNN.out]; exact hlt
              have := (HL.out.below (below_step HB0.out hB)) i hks
              rw [List.getElem?_eq_getElem hks] at hsx
              simp only [Option.some.injEq] at hsx
              rw [this, hsx]
            obtain ⟨x, hx⟩ : ∃ x : ByteArray, x = ⟨#[cx]⟩ := ⟨_, rfl⟩
            rw [← hx] at d0
            have HXX := Lib.hid hx
            have HCX := Lib.hid hcx
            clear hx hsx hcx hB
            go_wp2_with fail
            go_loopw [6, 54] (fun pv kv wr => ∃ (k m2 : Nat), k ≤ n ∧ m2 ≤ 6 * i + 2 * k ∧ kv = .int .i64 k ∧ PAll w0 ((cs.take i).flatMap (quadRow cs) ++ (cs.take k).flatMap (quadTwo cx)) m2 pv wr) (fun _ kv _ => n - (intOf kv).toNat)
            case atStart => exact ⟨0, m, Nat.zero_le _, by omega, rfl, by simpa using HQ.out⟩
            case round =>
              obtain ⟨k, m2, hk, hm2, rfl, hq⟩ := hrel
              have HQ2 := Lib.hid hq
              obtain ⟨va, vc, vs, rfl, hva, hpl, hrow, hBk⟩ := hq
              have HVA := Lib.hid hva
              have HPL := Lib.hid hpl
              have HROW := Lib.hid hrow
              have HBK := Lib.hid hBk
              have hszr : w0.heap.size ≤ wr.heap.size := hBk.size
              clear hva hpl hrow
              by_cases hlk : k < n
              · obtain ⟨cy, hcy, hsy, hy1, hy2⟩ := HLT.out k hlk
                have e0 : wr.cell? ⟨ga, k, none⟩ = some (.string ⟨#[cy]⟩) := by
                  have hks : k < ss.length := by rw [← HNN.out]; exact hlk
                  have := (HL.out.below (below_step HB0.out hBk)) k hks
                  rw [List.getElem?_eq_getElem hks] at hsy
                  simp only [Option.some.injEq] at hsy
                  rw [this, hsy]
                obtain ⟨y, hy⟩ : ∃ y : ByteArray, y = ⟨#[cy]⟩ := ⟨_, rfl⟩
                rw [← hy] at e0
                have HYY := Lib.hid hy
                have HCY := Lib.hid hcy
                have HOK := Lib.hid (quad_ok ⟨hx1, hx2⟩ ⟨hy1, hy2⟩)
                have HRK1 : Hid (Calls Tryz.prog 64 #[.iface 105 (.pointer (some ⟨wr.heap.size + 1 + 1 + 1 + 1 + 1 + 1, 0, none⟩))] (quadW wr x y) (RankPost (fun b => wr.heap.size ≤ b) (quadL cx cy) (quadW wr x y))) := Lib.hid (by
                  rw [HXX.out, HYY.out]
                  exact rank_any (quadL cx cy) 105 _ _ _ HOK.out.1.1 (by have := HOK.out.1.2.1; omega) (by have := HOK.out.1.2.2; omega) (quadW_left wr cx cy))
                have HRP2 : Hid (RepI (quadW wr x y) (fun b => wr.heap.size ≤ b) (quadR cx cy) 105 ⟨wr.heap.size + 1 + 1 + 1 + 1 + 1 + 1 + 1 + 1 + 1, 0, none⟩) := Lib.hid (by
                  rw [HXX.out, HYY.out]; exact quadW_right wr cx cy)
                have HQB := Lib.hid (quadW_below wr x y)
                have HQS := Lib.hid (quadW_size wr x y)
                clear hy hsy hcy hBk
                go_wp2_with fail
                show Calls _ _ _ (quadW wr x y) _
                refine HRK1.out.mono ?_
                rintro e w1 ⟨hB1, x1, y1, z1, rfl, hk1⟩
                have HK1 := Lib.hid hk1
                obtain ⟨ty1, a1, g1, wc1, rfl, rfl, rfl, _⟩ := hk1
                obtain ⟨L1, hL1⟩ : ∃ L1, L1 = ((quadL cx cy).paths []).length := ⟨_, rfl⟩
                obtain ⟨t1, ht1⟩ : ∃ t1 : ByteArray, t1 = ⟨(quadL cx cy).text.toArray⟩ := ⟨_, rfl⟩
                rw [← hL1, ← ht1] at HK1
                rw [← hL1, ← ht1]
                have HRK2 := Lib.hid (rank_any (quadR cx cy) 105 _ w1 _ HOK.out.2.1 (by have := HOK.out.2.2.1; omega) (by have := HOK.out.2.2.2; omega) (HRP2.out.below HOK.out.2.1 hB1))
                have HB1 := Lib.hid (below_step HQB.out hB1)
                have hs1 : wr.heap.size + 10 ≤ w1.heap.size := by have := hB1.size; rw [HQS.out] at this; exact this
                clear hB1 hL1 ht1
                go_wp2_with fail
                refine HRK2.out.mono ?_
                rintro e w2 ⟨hB2, x2, y2, z2, rfl, hk2⟩
                have HK2 := Lib.hid hk2
                obtain ⟨ty2, a2, g2, wc2, rfl, rfl, rfl, _⟩ := hk2
                obtain ⟨L2, hL2⟩ : ∃ L2, L2 = ((quadR cx cy).paths []).length := ⟨_, rfl⟩
                obtain ⟨t2, ht2⟩ : ∃ t2 : ByteArray, t2 = ⟨(quadR cx cy).text.toArray⟩ := ⟨_, rfl⟩
                rw [← hL2, ← ht2] at HK2
                rw [← hL2, ← ht2]
                have HB12 := Lib.hid hB2
                have HB2 := Lib.hid (below_step HB1.out hB2)
                have hs2 : wr.heap.size + 10 ≤ w2.heap.size := by have := hB2.size; omega
                have OWN := owns_below HROW.out.own HB2.out
                rw [HPL.out] at OWN
                have HOWN := Lib.hid OWN
                have HOA := Lib.hid (World.ownsRow.alloc OWN (.cells #[.int .i64 1, .iface ty1 (.pointer (some a1)), .slice (some ⟨g1, 0, none⟩) L1 wc1, .string t1, .int .i64 (-1), .iface ty2 (.pointer (some a2)), .slice (some ⟨g2, 0, none⟩) L2 wc2, .string t2] 120 (0, 0)))
                have HNL : Hid ((cs.take i).flatMap (quadRow cs) ++ (cs.take (k + 1)).flatMap (quadTwo cx) = ((cs.take i).flatMap (quadRow cs) ++ (cs.take k).flatMap (quadTwo cx)) ++ [quadL cx cy, quadR cx cy]) := Lib.hid (by
                  have a1 := HCY.out
                  have a2 : k < cs.length := by
                    rcases Nat.lt_or_ge k cs.length with h | h
                    · exact h
                    · rw [List.getElem?_eq_none h] at a1; cases a1
                  rw [List.getElem?_eq_getElem a2] at a1
                  simp only [Option.some.injEq] at a1
                  rw [quadRow_take cs _ a2, a1, List.append_assoc])
                clear OWN hB2 hL2 ht2
                go_wp2_with (at_builtin; refine wpList_append_own_at _ rfl _ _ 104 rfl w0.heap.size 120 i0 (.agg #[.int .i64 0, .nilIface, .slice none 0 0, .string ⟨#[]⟩]) 4 64 Tryz.underlying104 hi0 hzz hzs hzb rfl (by decide) (.slice va m2 vc) m2 vs rfl HOA.out ⟨w2.heap.size, 0, none⟩ 2 2 [.int .i64 1, .iface ty1 (.pointer (some a1)), .slice (some ⟨g1, 0, none⟩) L1 wc1, .string t1, .int .i64 (-1), .iface ty2 (.pointer (some a2)), .slice (some ⟨g2, 0, none⟩) L2 wc2, .string t2] rfl rfl (World.news_of_block (heap_alloc_new _ _)) (by simp [Value.oneCell']) (by unfold maxLen; omega) (by omega) (by simp; omega) ?_; intro v3 w6 hown3 hg3 hnil3 hat3)
                obtain ⟨g3, q3, rfl, _, _, _⟩ := owns_some hown3 (fun e => by have := hnil3.1 e; simp at this)
                have NX : PAll w0 ((cs.take i).flatMap (quadRow cs) ++ (cs.take (k + 1)).flatMap (quadTwo cx)) (m2 + 2) (.slice (some ⟨g3, 0, none⟩) (m2 + 2) q3) w6 := by
                  have hlt3 : ∀ q, (Value.slice va m2 vc).ownBlock = some q → w0.heap.size ≤ q ∧ q < wr.heap.size := fun q e => HROW.out.own.lt q e
                  have hne : ∀ b, wr.heap.size ≤ b → (Value.slice va m2 vc).ownBlock ≠ some b := fun b hb e => by have := (hlt3 b e).2; omega
                  have hr1 : tmI.R w2 (fun b => (Value.slice va m2 vc).ownBlock ≠ some b) (1, quadL cx cy) [.int .i64 1, .iface ty1 (.pointer (some a1)), .slice (some ⟨g1, 0, none⟩) L1 wc1, .string t1] :=
                    ⟨_, _, _, rfl, HOK.out.1.1, (HK1.out.below HOK.out.1.1 HB12.out).keep HOK.out.1.1 (fun _ _ _ h => h) (fun b hb _ => hne b (by rcases hb with h | h; exact h; rw [HQS.out] at h; omega))⟩
                  have hr2 : tmI.R w2 (fun b => (Value.slice va m2 vc).ownBlock ≠ some b) (-1, quadR cx cy) [.int .i64 (-1), .iface ty2 (.pointer (some a2)), .slice (some ⟨g2, 0, none⟩) L2 wc2, .string t2] :=
                    ⟨_, _, _, rfl, HOK.out.2.1, HK2.out.keep HOK.out.2.1 (fun _ _ _ h => h) (fun b hb _ => hne b (by rcases hb with h | h; exact h; omega))⟩
                  have e2 : qTms ((cs.take i).flatMap (quadRow cs) ++ (cs.take (k + 1)).flatMap (quadTwo cx)) = qTms ((cs.take i).flatMap (quadRow cs) ++ (cs.take k).flatMap (quadTwo cx)) ++ [(1, quadL cx cy), (-1, quadR cx cy)] := by
                    rw [HNL.out]; simp [qTms, quadSign, quadL, quadR]
                  refine ⟨_, _, vs ++ [.int .i64 1, .iface ty1 (.pointer (some a1)), .slice (some ⟨g1, 0, none⟩) L1 wc1, .string t1, .int .i64 (-1), .iface ty2 (.pointer (some a2)), .slice (some ⟨g2, 0, none⟩) L2 wc2, .string t2], rfl, by simp, by rw [e2, List.length_append, HPL.out]; rfl, ?_, ?_⟩
                  · rw [e2]
                    exact HROW.out.many (bs := [(1, quadL cx cy), (-1, quadR cx cy)]) (news := [.int .i64 1, .iface ty1 (.pointer (some a1)), .slice (some ⟨g1, 0, none⟩) L1 wc1, .string t1, .int .i64 (-1), .iface ty2 (.pointer (some a2)), .slice (some ⟨g2, 0, none⟩) L2 wc2, .string t2]) (w1 := w2) (w1' := w2.alloc (.cells #[.int .i64 1, .iface ty1 (.pointer (some a1)), .slice (some ⟨g1, 0, none⟩) L1 wc1, .string t1, .int .i64 (-1), .iface ty2 (.pointer (some a2)), .slice (some ⟨g2, 0, none⟩) L2 wc2, .string t2] 120 (0, 0))) HB2.out (fun q hq => by
                      simp only [List.length_cons, List.length_nil] at hq
                      rcases (show q = 0 ∨ q = 1 by omega) with rfl | rfl
                      · refine ⟨_, fun j hj => ?_, hr1⟩
                        rcases (show j = 0 ∨ j = 1 ∨ j = 2 ∨ j = 3 by simp only [tmI] at hj; omega) with rfl | rfl | rfl | rfl <;> rfl
                      · refine ⟨_, fun j hj => ?_, hr2⟩
                        rcases (show j = 0 ∨ j = 1 ∨ j = 2 ∨ j = 3 by simp only [tmI] at hj; omega) with rfl | rfl | rfl | rfl <;> rfl) ((Below.refl _ _).alloc (Nat.le_refl _) _) (by rw [HPL.out]; exact hown3) hg3 (fun b e => by
                      simp only [Value.ownBlock, Option.some.injEq] at e
                      subst e
                      rcases hat3 with h | h
                      · left; rw [← h]; rfl
                      · right; simp [Value.ownBlock] at h; omega)
                  · exact ((below_step HBK.out HB2.out).alloc (by omega) _).grown hg3 (by simp; omega) (fun q e => (hlt3 q e).1)
                have HNX := Lib.hid NX
                clear NX hown3 hg3 hnil3 hat3
                exact ⟨⟨k + 1, m2 + 2, by omega, by omega, by go_num, HNX.out⟩, by simp [intOf]; omega⟩
              · have hkn : k = n := by omega
                have HNX : Hid (PAll w0 ((cs.take (i + 1)).flatMap (quadRow cs)) m2 (.slice va m2 vc) wr) := Lib.hid (by
                  obtain ⟨h1, _, _⟩ := lettersOf_ok HCS.out
                  have hlen : ss.length = cs.length := by
                    have := congrArg List.length h1.txt
                    rw [List.length_map] at this; exact this
                  have a1 : i < cs.length := by rw [← hlen, ← HNN.out]; exact hlt
                  have a2 := HCX.out
                  rw [List.getElem?_eq_getElem a1] at a2
                  simp only [Option.some.injEq] at a2
                  have e : (cs.take (i + 1)).flatMap (quadRow cs) = (cs.take i).flatMap (quadRow cs) ++ (cs.take k).flatMap (quadTwo cx) := by
                    rw [quadAll_take cs a1, a2, hkn, HNN.out, hlen, List.take_length]; rfl
                  rw [e]; exact HQ2.out)
                go_wp2_with fail
                exact ⟨⟨i + 1, m2, by omega, by omega, by simp, HNX.out⟩, by simp [intOf]; omega⟩
          · have hin3 : i = n := by omega
            have HEX : Hid (PAll w0 (quadAll cs) m (.slice va m vc) wo) := Lib.hid (by
              have h := HQ.out
              obtain ⟨h1, _, _⟩ := lettersOf_ok HCS.out
              have hlen : ss.length = cs.length := by
                have := congrArg List.length h1.txt
                rw [List.length_map] at this; exact this
              rw [hin3, HNN.out, hlen, List.take_length] at h
              exact h)
            obtain ⟨gp, rfl, hgp⟩ := owns_addr HROW.out.own HVA.out
            have hWF := quad_wf (lettersOf_ok HCS.out).1.let_
            have hwo : w0.heap.size ≤ wo.heap.size := HB.out.size
            obtain ⟨W2, hW2⟩ : ∃ W2, W2 = wo.alloc (.cells quadZero 55 (0, 0)) := ⟨_, rfl⟩
            have HW2 := Lib.hid hW2
            have hB2 : Below wo.heap.size wo W2 := by rw [hW2]; exact (Below.refl _ _).alloc (Nat.le_refl _) _
            have HG2 : Hid (W2.heap[wo.heap.size]? = some (.cells quadZero 55 (0, 0))) := Lib.hid (by rw [hW2]; exact heap_alloc_new _ _)
            have hs2 : W2.heap.size = wo.heap.size + 1 := by rw [hW2]; simp
            obtain ⟨_, _, _, epv, _, hpl, hrow, _⟩ := HEX.out
            cases epv
            have HCB := Lib.hid (combine_any (fun b => b < wo.heap.size) (qTms (quadAll cs)) m hpl.symm gp vc W2 (by omega) (fun p hp => by
              obtain ⟨t, ht, rfl⟩ := List.mem_map.1 hp
              have := hWF t ht
              have h2 : t.leaves = 3 := this.2.1
              have h3 : t.nodes = 2 := this.2.2
              refine ⟨this.1, by show t.leaves ≤ 1000; omega, by show t.nodes ≤ 1000; omega, ?_, ?_⟩ <;> simp only [quadSign] <;> split <;> omega) ((hrow.rd.weak (P' := fun b => b < wo.heap.size) (by decide) (fun _ _ h => h)).below (by decide) hB2))
            have HB02 := Lib.hid (below_step HB.out hB2)
            have HS2 := Lib.hid hs2
            have HSG : Hid (canon (qTms (quadAll cs)) = (downT (quadAll cs)).map fun t => (quadSign t % 101, t)) := Lib.hid (canon_signs (fun t ht => (hWF t ht).1) (quadRows_nodup (lettersOf_ok HCS.out).1.nodup cs (lettersOf_ok HCS.out).1.nodup) quadSign (fun t ht => by simp only [quadSign]; split <;> omega))
            have HQO : Hid (quadsOf ss = some (downT (quadAll cs))) := Lib.hid (by rw [quadsOf, HCS.out]; rfl)
            obtain ⟨ts, hts⟩ : ∃ ts, ts = downT (quadAll cs) := ⟨_, rfl⟩
            rw [← hts] at HSG HQO
            have HTL : Hid (ts.length ≤ 18) := Lib.hid (quadsOf_ok HQO.out).1
            obtain ⟨L, hL⟩ : ∃ L, L = (canon (qTms (quadAll cs))).length := ⟨_, rfl⟩
            have HLT2 : Hid (L = ts.length) := Lib.hid (by rw [hL, HSG.out, List.length_map])
            have hL18 : L ≤ 18 := by rw [HLT2.out]; exact HTL.out
            have HLL := Lib.hid hL
            clear hin3 hWF hB2 hs2 hpl hrow hts hL hW2
            go_upto_region 23 with (refine wpList_store_row rfl 55 (.tmp 14) (.tmp 99) rfl wo.heap.size quadZero rfl rfl 55 _ (heap_alloc_new _ _) infoQ rfl quadZero_one ?_)
            rw [World.setRow_alloc_new, ← HW2.out]
            go_wp2_with fail
            refine HCB.out.mono ?_
            rintro e w3 ⟨hB3, gk, ck, rfl, hrk⟩
            rw [← HLL.out]
            have hs3 : wo.heap.size + 1 ≤ w3.heap.size := by have := hB3.size; rw [HS2.out] at this; exact this
            have HG3 : Hid (w3.heap[wo.heap.size]? = some (.cells quadZero 55 (0, 0))) := Lib.hid ((hB3.block _ (by rw [HS2.out]; omega)).trans HG2.out)
            have HB3 := Lib.hid (below_step HB02.out hB3)
            rw [HSG.out] at hrk
            have HRK := Lib.hid hrk
            have hlw0 : w0.heap.size = w.heap.size + 1 := HS0.out
            have hfp := fun v w => field_parts (.func (.func 66) #[] #[]) v w
            have hlw : w.heap.size + 1 ≤ wo.heap.size := by omega
            clear hB3 hrk hlw0
            go_wp2_with fail
            go_loopw [104] (fun iv wr => ∃ i : Nat, i ≤ L ∧ iv = .int .i64 i ∧ QLoop wo.heap.size w3 ts i wr) (fun iv _ => L - (intOf iv).toNat)
            case atStart =>
              refine ⟨0, Nat.zero_le _, rfl, none, 0, [], quadZero, ?_, HG3.out, ?_, fun _ _ _ => rfl, Below.refl _ _⟩
              · simp only [List.take_zero, List.map_nil]; exact Row.nil _
              · simp only [List.take_zero]; exact quadZero_agg
            case round =>
              obtain ⟨i2, hi2, rfl, va, vc, vs, cur, hrow, hcur, hagg, hmid, hBx⟩ := hrel
              have HROW2 := Lib.hid hrow
              have HCUR := Lib.hid hcur
              have HAGG := Lib.hid hagg
              have HMID := Lib.hid hmid
              have HBX := Lib.hid hBx
              have hsr : w3.heap.size ≤ wr.heap.size := hBx.size
              have hlen2 : ((ts.take i2).map T.text).length = i2 := by rw [List.length_map, List.length_take, ← HLT2.out]; omega
              have HLEN2 := Lib.hid hlen2
              have q0 : wr.cell? ⟨wo.heap.size, 0, none⟩ = some (.slice va i2 vc) := cellAt hcur hagg.2.1
              have f0 : wr.frozen? ⟨wo.heap.size, 0, none⟩ = false := frozen_of_row _ _ _ _ _ hcur
              by_cases hli : i2 < L
              · have hlt2 : i2 < (ts.map fun t => (quadSign t % 101, t)).length := by rw [List.length_map, ← HLT2.out]; exact hli
                obtain ⟨gk', x, y, z, egk, hgk, c0, c1, c2, c3, hwf, ty, a, gw, wc, rfl, rfl, rfl, _⟩ := tmI.get HRK.out i2 hlt2
                cases egk
                have hgk2 : gk ≠ wo.heap.size := by rcases hgk with h | h; omega; rw [HS2.out] at h; omega
                have hgk3 : gk < w3.heap.size := World.block_lt_of_cell? w3 _ c0
                have hkc : ∀ j v, w3.cell? ⟨gk, j, none⟩ = some v → wr.cell? ⟨gk, j, none⟩ = some v := fun j v hv => by
                  rw [World.cell?_of_block (w := w3) (hmid gk hgk3 hgk2)]; exact hv
                have d0 := hkc _ _ c0
                have d1 := hkc _ _ c1
                have d2 := hkc _ _ c2
                have d3 := hkc _ _ c3
                have ht2 : i2 < ts.length := by rw [← HLT2.out]; exact hli
                simp only [List.getElem_map] at d0 d2 d3
                obtain ⟨t, ht⟩ : ∃ t, t = ts[i2] := ⟨_, rfl⟩
                rw [← ht] at d0 d2 d3
                obtain ⟨cc, hcc⟩ : ∃ cc, cc = quadSign t % 101 := ⟨_, rfl⟩
                obtain ⟨tx, htx⟩ : ∃ tx, tx = t.text := ⟨_, rfl⟩
                obtain ⟨pl, hpl⟩ : ∃ pl, pl = (t.paths []).length := ⟨_, rfl⟩
                rw [← hcc] at d0
                rw [← hpl] at d2
                rw [← htx] at d3
                have HTT := Lib.hid ht
                have HCC := Lib.hid hcc
                have HTX := Lib.hid htx
                have i20 : (0 : Int) ≤ (i2 : Int) := by omega
                have i218 : (i2 : Int) < 18 := by omega
                have OWN := HROW2.out.own
                rw [hlen2] at OWN
                have HOWN := Lib.hid OWN
                have HOA := Lib.hid (World.ownsRow.alloc (World.ownsRow.alloc OWN (.cells #[.int .i64 cc, .iface ty (.pointer (some a)), .slice (some ⟨gw, 0, none⟩) pl wc, .string ⟨tx.toArray⟩] 120 (0, 0))) (.cells #[.string ⟨tx.toArray⟩] 9 (0, 0)))
                obtain ⟨j0, hj0, jzz, jzs, jzb⟩ := info_parts info9
                have hwb : wo.heap.size < wr.heap.size := by omega
                have QN := Lib.hid (fun g3 q3 (w6 : World) h1 h2 h3 => quad_next (w6 := w6) (g3 := g3) (q3 := q3) (ty := ty) (a := a) (gw := gw) (pl := pl) (wc := wc) HROW2.out HCUR.out HAGG.out HMID.out HBX.out hsr (by omega) ht2 HTL.out HTT.out HCC.out HTX.out h1 h2 h3)
                clear hrow hcur hagg hmid hBx hlen2 c0 c1 c2 c3 hkc ht hcc htx hpl OWN
                go_wp2_with (at_builtin; refine wpList_append_own_at _ rfl _ _ 22 rfl w3.heap.size 9 j0 (.string ⟨#[]⟩) 1 16 Tryz.underlying22 hj0 jzz jzs jzb rfl (by decide) (.slice va i2 vc) i2 vs rfl HOA.out ⟨wr.heap.size + 1, 0, none⟩ 1 1 [.string ⟨tx.toArray⟩] rfl rfl (World.news_of_block (by rw [show wr.heap.size + 1 = (wr.alloc (.cells #[.int .i64 cc, .iface ty (.pointer (some a)), .slice (some ⟨gw, 0, none⟩) pl wc, .string ⟨tx.toArray⟩] 120 (0, 0))).heap.size by simp]; exact heap_alloc_new _ _)) (by simp [Value.oneCell']) (by unfold maxLen; omega) (by omega) (by simp; omega) ?_; intro v3 w6 hown3 hg3 hnil3 hat3; obtain ⟨g3, q3, rfl, _, _, _⟩ := owns_some hown3 (fun e => by have := hnil3.1 e; simp at this); obtain ⟨p0, pf, p16, ⟨z, p1⟩, pf1, NX⟩ := QN.out g3 q3 w6 hown3 hg3 hat3; have NEXT := Lib.hid NX; clear NX hown3 hg3 hnil3 hat3 q0 f0)
                exact ⟨⟨i2 + 1, by omega, by go_num, NEXT.out⟩, by simp [intOf]; omega⟩
              · have hiL : i2 = L := by omega
                have hgr : wr.heap[w.heap.size]? = some (.cells quadZero 55 (0, 0)) := by
                  rw [hmid _ (by omega) (by omega), HB3.out.block _ (by rw [HS0.out]; omega)]
                  exact HG0.out
                obtain ⟨fs, hfs⟩ := descQ2
                have hc19 : cur.size = 19 := hagg.1
                have hone := hagg.one (by rfl)
                have hBW : Below w.heap.size w wr := (below_step HB0.out HB3.out).trans (hBx.mono (by omega))
                have hHR := setRow_heap wr w.heap.size quadZero cur 55 (0, 0) hgr
                have FIN : Hid (RQuad ss w (.returned (.tuple #[.agg cur, .bool true])) (wr.setRow w.heap.size cur)) := Lib.hid (by
                  have hi2 : i2 = ts.length := by rw [hiL, HLT2.out]
                  have ek : ts.take i2 = ts := by rw [hi2, List.take_length]
                  rw [ek, hi2] at hagg
                  rw [ek, hi2] at hrow
                  refine ⟨below_setRow hBW (Nat.le_refl _) _, .inr ⟨ts, va, vc, cur, HQO.out, rfl, hagg, fun j hj => ?_, ?_⟩⟩
                  · obtain ⟨g, e, hc⟩ := (txQ.lies hrow.rd) j hj
                    have hgl := hrow.rd_from g e (by omega)
                    exact ⟨g, e, by rw [cell_setRow_other _ _ _ _ (by simp; omega)]; exact hc⟩
                  · rcases Nat.eq_zero_or_pos ts.length with h0 | h0
                    · exact .inl (List.length_eq_zero_iff.1 h0)
                    · obtain ⟨g, c', e, hg1, hg2⟩ := hrow.own.form (by rw [List.length_map]; exact h0)
                      have hown := hrow.own
                      rw [List.length_map] at hown e
                      simp only [Value.slice.injEq] at e
                      obtain ⟨rfl, _, rfl⟩ := e
                      obtain ⟨cu, h1, h2, h3⟩ := owns_row hown
                      exact .inr ⟨g, cu, rfl, by rw [setRow_other _ _ _ _ (by omega)]; exact h1, h2, by omega⟩)
                have hq := quad_ret hHR hc19
                have HHR := Lib.hid hHR
                have HCU := Lib.hid hcur
                clear hrow hagg hmid hBx q0 f0 hcur hHR hlen2 hiL
                go_wp2_with (first
                  | (refine wpList_load_row rfl 55 (.tmp 14) rfl wo.heap.size rfl 55 cur (0, 0) (.struct fs) HCU.out hfs rfl (by rw [hc19]; exact infoQ) ?_)
                  | (refine wpList_store_row rfl 55 (.tmp 2) (.tmp 124) rfl w.heap.size cur rfl rfl 55 quadZero hgr (by rw [hc19]; exact infoQ) (by rw [hc19]; rfl) hone ?_))
                refine bodyPost_ret (v := .tuple #[.agg cur, .bool true]) (by rw [results_cell_tmp rfl]; simp [asAddr, Result.andThen, hq]) rfl ?_
                exact FIN.out
  · have HF : Hid (quadsOf ss = none) := Lib.hid (by rw [quadsOf, lettersOf, if_neg (by have := HNN.out; omega)]; rfl)
    by_cases h0 : n = 0
    · have hn1 : ((n : Int) == 0) = true := by simp; omega
      clear hin
      go_enter Tryz.func49, Tryz.ntmps49
      go_upto_region 1 with fail
      rw [← HW0.out]
      go_wp2_with (refine wpList_store_row rfl 55 (.tmp 2) (.tmp 25) rfl w.heap.size quadZero rfl rfl 55 quadZero (BAD.out w0 (Below.refl _ _)).2.2 infoQ rfl quadZero_one ?_)
      obtain ⟨b1, b2, _⟩ := BAD.out w0 (Below.refl _ _)
      have hq := quad_ret b2 rfl
      refine bodyPost_ret (v := .tuple #[.agg quadZero, .bool false]) (by rw [results_cell_tmp rfl]; simp [asAddr, Result.andThen, hq]) rfl ?_
      exact ⟨b1, .inl ⟨HF.out, _, rfl, quadZero_agg⟩⟩
    · have hn1 : ((n : Int) == 0) = false := by simp; omega
      have hn2 : decide ((3 : Int) < (n : Int)) = true := decide_eq_true (by omega)
      clear hin h0
      go_enter Tryz.func49, Tryz.ntmps49
      go_upto_region 1 with fail
      rw [← HW0.out]
      go_wp2_with (refine wpList_store_row rfl 55 (.tmp 2) (.tmp 25) rfl w.heap.size quadZero rfl rfl 55 quadZero (BAD.out w0 (Below.refl _ _)).2.2 infoQ rfl quadZero_one ?_)
      obtain ⟨b1, b2, _⟩ := BAD.out w0 (Below.refl _ _)
      have hq := quad_ret b2 rfl
      refine bodyPost_ret (v := .tuple #[.agg quadZero, .bool false]) (by rw [results_cell_tmp rfl]; simp [asAddr, Result.andThen, hq]) rfl ?_
      exact ⟨b1, .inl ⟨HF.out, _, rfl, quadZero_agg⟩⟩
end Go.Proofs.YtoeebipahifpcaaGreat
end
