/- Merged out of: XQFirst, XQPut, XQWith. -/
import Derived.Test.YtoeebipahifpcaaGreatKQSpan
import Derived.Test.YtoeebipahifpcaaGreatInv
section
/- The first number of a row that is not 0, by the program. -/
namespace Go.Proofs.YtoeebipahifpcaaGreat
open Go.RowKit

/-- Where a row begins. -/
def HeadPost (f : Nat → Int) (w : World) (e : Ending) (w' : World) : Prop :=
  ∃ a : Nat, a < 18 ∧ f a ≠ 0 ∧ (∀ j, j < a → f j = 0) ∧ e = .returned (.int .i64 a) ∧ Below w.heap.size w w'

set_option maxRecDepth 100000 in
set_option maxHeartbeats 1000000 in
theorem firstOne_any (x : Int) (w : World) : Calls Tryz.prog 82 #[.int .i64 x] w fun e w' => e = .returned (.bool (!decide (x = 0))) ∧ w = w' := by
  by_cases h : x = 0
  · subst h
    go_enter Tryz.func82, Tryz.ntmps82
    go_wp2_with fail
    go_ret
    exact ⟨rfl, rfl⟩
  · have h1 : (x == 0) = false := by simp [h]
    have h2 : decide (x = 0) = false := by simp [h]
    have H2 := Lib.hid h2
    clear h2
    go_enter Tryz.func82, Tryz.ntmps82
    go_wp2_with fail
    go_ret
    exact ⟨by first | rfl | (rw [H2.out]; rfl), rfl⟩

set_option maxRecDepth 100000 in
set_option maxHeartbeats 1000000 in
theorem indexFunc_any (f : Nat → Int) (B : Nat) (w : World) (hB : w.heap[B]? = some (.cells (arr f) 53 (0, 0))) (hne : ∃ j, j < 18 ∧ f j ≠ 0) :
    Calls Tryz.prog 81 #[.slice (some ⟨B, 0, none⟩) 18 18, .func (.func 82) #[] #[]] w (HeadPost f w) := by
  have HC : Hid (∀ j, j < 18 → w.cell? ⟨B, j, none⟩ = some (.int .i64 (f j))) := Lib.hid (fun j hj => cellAt hB (arr_get f hj))
  have HN := Lib.hid hne
  have HF := Lib.hid (fun (x : Int) (W : World) => firstOne_any x W)
  clear hB hne
  go_enter Tryz.func81, Tryz.ntmps81
  go_wp2_with fail
  go_loopw [8] (fun iv wr => ∃ i : Nat, i ≤ 18 ∧ iv = .int .i64 i ∧ w = wr ∧ ∀ j, j < i → f j = 0) (fun iv _ => 18 - (intOf iv).toNat)
  case atStart => exact ⟨0, Nat.zero_le _, rfl, rfl, fun j hj => by omega⟩
  case round =>
    obtain ⟨i, hi, rfl, rfl, hz⟩ := hrel
    have HZ := Lib.hid hz
    clear hz
    have hlt : i < 18 := by
      obtain ⟨j, hj, hj0⟩ := HN.out
      rcases Nat.lt_or_ge j i with h | h
      · exact absurd (HZ.out j h) hj0
      · omega
    have c0 := HC.out i hlt
    obtain ⟨x, hx⟩ : ∃ x, x = f i := ⟨_, rfl⟩
    rw [← hx] at c0
    have HX := Lib.hid hx
    clear hx
    have k0 : (0 : Int) ≤ (i : Int) := by omega
    have k18 : (i : Int) < 18 := by omega
    by_cases he : x = 0
    · have HE := Lib.hid he
      have hd : decide (x = 0) = true := decide_eq_true he
      clear he
      go_wp2_with fail
      go_at_call 82
      refine (HF.out _ _).mono ?_
      rintro e w1 ⟨rfl, rfl⟩
      go_wp2_with fail
      exact ⟨⟨i + 1, by omega, by go_num, trivial, fun j hj => by
        by_cases e : j = i
        · subst e; rw [← HX.out]; exact HE.out
        · exact HZ.out j (by omega)⟩, by simp [intOf]; omega⟩
    · have HE := Lib.hid he
      have hd : decide (x = 0) = false := decide_eq_false he
      clear he
      go_wp2_with fail
      go_at_call 82
      refine (HF.out _ _).mono ?_
      rintro e w1 ⟨rfl, rfl⟩
      go_wp2_with fail
      go_ret
      exact ⟨i, hlt, by rw [← HX.out]; exact HE.out, HZ.out, rfl, Below.refl _ _⟩

set_option maxRecDepth 100000 in
set_option maxHeartbeats 1000000 in
theorem rowFirst_any (f : Nat → Int) (w : World) (hne : ∃ j, j < 18 ∧ f j ≠ 0) :
    Calls Tryz.prog 67 #[.agg (arr f)] w (HeadPost f w) := by
  have HI := Lib.hid (fun (B : Nat) (W : World) (hB : W.heap[B]? = some (.cells (arr f) 53 (0, 0))) => indexFunc_any f B W hB hne)
  obtain ⟨W0, hW0⟩ : ∃ W0, W0 = w.alloc (.cells (arr f) 53 (0, 0)) := ⟨_, rfl⟩
  have HW0 := Lib.hid hW0
  have H0 : Hid (W0.heap[w.heap.size]? = some (.cells (arr f) 53 (0, 0))) := Lib.hid (by rw [hW0]; exact heap_alloc_new _ _)
  have HB0 : Hid (Below w.heap.size w W0) := Lib.hid (by rw [hW0]; exact (Below.refl _ _).alloc (Nat.le_refl _) _)
  clear hne hW0
  go_enter Tryz.func67, Tryz.ntmps67
  go_upto_region 1 with fail
  rw [← HW0.out]
  go_wp2_with fail
  refine (HI.out _ _ H0.out).mono ?_
  rintro e w1 ⟨a, ha, ha0, hal, rfl, hB1⟩
  have HB1 := Lib.hid (below_step HB0.out hB1)
  have HA0 := Lib.hid ha0
  have HAL := Lib.hid hal
  clear hB1 ha0 hal
  go_wp2_with fail
  go_ret
  exact ⟨a, ha, HA0.out, HAL.out, rfl, HB1.out⟩

end Go.Proofs.YtoeebipahifpcaaGreat
end
section
/- A row put into a span that lies in memory. -/
namespace Go.Proofs.YtoeebipahifpcaaGreat
open Go.RowKit

/-- The span with another row at k. -/
def setB (s : Nat → Nat → Int) (k : Nat) (d : Nat → Int) : Nat → Nat → Int := fun i j => if i = k then d j else s i j

theorem spanL_get (s : Nat → Nat → Int) {i j : Nat} (hi : i < 18) (hj : j < 18) : (spanL s)[18 * i + j]? = some (.int .i64 (s i j)) := by
  have h := congrArg (fun l => l[j]?) (spanL_row s hi)
  simp only [List.getElem?_take, hj, if_true, List.getElem?_drop] at h
  rw [h]
  simp [arrL, hj]

theorem sarr_get (s : Nat → Nat → Int) {i j : Nat} (hi : i < 18) (hj : j < 18) : (sarr s)[18 * i + j]? = some (.int .i64 (s i j)) := by
  rw [← spanL_get s hi hj, sarr, List.getElem?_toArray]

theorem sarr_eq {s t : Nat → Nat → Int} (h : ∀ i j, i < 18 → j < 18 → s i j = t i j) : sarr s = sarr t := by
  apply Array.ext_getElem?
  intro m
  by_cases hm : m < 324
  · have e : m = 18 * (m / 18) + m % 18 := by omega
    have h1 : m / 18 < 18 := by omega
    have h2 : m % 18 < 18 := Nat.mod_lt _ (by omega)
    rw [e, sarr_get s h1 h2, sarr_get t h1 h2, h _ _ h1 h2]
  · rw [Array.getElem?_eq_none (by rw [sarr_size]; omega), Array.getElem?_eq_none (by rw [sarr_size]; omega)]

/-- Cells written one behind the other. -/
def putAt : Array Value → Nat → List Value → Array Value
  | cs, _, [] => cs
  | cs, o, v :: r => putAt (cs.setIfInBounds o v) (o + 1) r

theorem putAt_size : ∀ (vs : List Value) (cs : Array Value) (o : Nat), (putAt cs o vs).size = cs.size
  | [], _, _ => rfl
  | v :: r, cs, o => by rw [putAt, putAt_size r, Array.size_setIfInBounds]

theorem putAt_get : ∀ (vs : List Value) (cs : Array Value) (o m : Nat), o + vs.length ≤ cs.size → (putAt cs o vs)[m]? = if o ≤ m ∧ m < o + vs.length then vs[m - o]? else cs[m]?
  | [], cs, o, m, _ => by rw [putAt, if_neg (by simp <;> omega)]
  | v :: r, cs, o, m, h => by
    simp only [List.length_cons] at h
    rw [putAt, putAt_get r _ _ m (by rw [Array.size_setIfInBounds]; omega)]
    simp only [List.length_cons]
    by_cases h1 : o + 1 ≤ m ∧ m < o + 1 + r.length
    · rw [if_pos h1, if_pos (by omega), show m - o = (m - (o + 1)) + 1 by omega, List.getElem?_cons_succ]
    · rw [if_neg h1]
      by_cases h2 : m = o
      · subst h2
        rw [if_pos (by omega), Nat.sub_self, Array.getElem?_setIfInBounds_self]
        simp <;> omega
      · rw [if_neg (by omega), Array.getElem?_setIfInBounds_ne (by omega)]

theorem setCells_heap {b : Nat} {t : TypeId} {fr : Nat × Nat} : ∀ (vs : List Value) (cs : Array Value) (o : Nat) (w : World), w.heap[b]? = some (.cells cs t fr) → (w.setCells b o vs).heap[b]? = some (.cells (putAt cs o vs) t fr)
  | [], _, _, _, h => h
  | v :: r, _, o, _, h => setCells_heap r _ (o + 1) _ (heap_setCell_same (k := o) h v)

theorem setCells_else {b c : Nat} (hc : c ≠ b) : ∀ (vs : List Value) (o : Nat) (w : World), (w.setCells b o vs).heap[c]? = w.heap[c]?
  | [], _, _ => rfl
  | v :: r, o, w => by rw [World.setCells, setCells_else hc r, Below.heap_setCell _ _ _ _ hc]

theorem setCells_below {b n : Nat} (hn : n ≤ b) {a : World} : ∀ (vs : List Value) (o : Nat) (w : World), Below n a w → Below n a (w.setCells b o vs)
  | [], _, _, h => h
  | v :: r, o, _, h => setCells_below hn r (o + 1) _ (h.setCell (p := ⟨b, o, none⟩) hn v)

theorem putAt_sarr (s : Nat → Nat → Int) (d : Nat → Int) {k : Nat} (hk : k < 18) : putAt (sarr s) (18 * k) (arrL d) = sarr (setB s k d) := by
  apply Array.ext_getElem?
  intro m
  by_cases hm : m < 324
  · have e : m = 18 * (m / 18) + m % 18 := by omega
    have h1 : m / 18 < 18 := by omega
    have h2 : m % 18 < 18 := Nat.mod_lt _ (by omega)
    rw [putAt_get _ _ _ _ (by rw [arrL_length, sarr_size]; omega), arrL_length]
    by_cases hq : m / 18 = k
    · rw [if_pos (by omega), show m - 18 * k = m % 18 by omega]
      conv => rhs; rw [e]
      rw [sarr_get _ h1 h2]
      unfold setB
      rw [if_pos hq]
      simp [arrL, h2]
    · rw [if_neg (by omega)]
      conv => lhs; rw [e]
      conv => rhs; rw [e]
      rw [sarr_get _ h1 h2, sarr_get _ h1 h2]
      unfold setB
      rw [if_neg hq]
  · rw [Array.getElem?_eq_none (by rw [putAt_size, sarr_size]; omega), Array.getElem?_eq_none (by rw [sarr_size]; omega)]

theorem sarr_there {w : World} {B : Nat} {s : Nat → Nat → Int} {k : Nat} (hB : w.heap[B]? = some (.cells (sarr s) 57 (0, 0))) (hk : k < 18) : w.there B (18 * k) 18 := fun j hj => by
  rw [cellAt hB (sarr_get s hk hj), frozen_of_row _ _ _ _ _ hB]
  exact ⟨rfl, rfl⟩

/-- What a row put into a span leaves. -/
def PutRow (B : Nat) (s : Nat → Nat → Int) (w w' : World) : Prop :=
  w'.heap[B]? = some (.cells (sarr s) 57 (0, 0)) ∧ (∀ b, b ≠ B → w'.heap[b]? = w.heap[b]?) ∧ ∀ n a, n ≤ B → Below n a w → Below n a w'

theorem putRow_cells {w : World} {B : Nat} {s : Nat → Nat → Int} {d : Nat → Int} {k : Nat} (hB : w.heap[B]? = some (.cells (sarr s) 57 (0, 0))) (hk : k < 18) :
    PutRow B (setB s k d) w (w.setCells B (18 * k) (arr d).toList) := by
  have e : (arr d).toList = arrL d := by simp [arr, arrL]
  rw [e]
  exact ⟨by rw [setCells_heap _ _ _ _ hB, putAt_sarr s d hk], fun b hb => setCells_else hb _ _ _, fun n a hn h => setCells_below hn _ _ _ h⟩

theorem wp_put_row {op : Oper} {a : Act} {w : World} {K : Act → World → Prop} {Q : Exit → Act → World → Prop} (x y : Operand) (ho : op.op = .store 53 x y)
    (B k : Nat) (s : Nat → Nat → Int) (d : Nat → Int) (hx : a.eval x = .pointer (some ⟨B, 18 * k, none⟩)) (hy : a.eval y = .agg (arr d))
    (hB : w.heap[B]? = some (.cells (sarr s) 57 (0, 0))) (hk : k < 18)
    (h : ∀ w', PutRow B (setB s k d) w w' → K (a.put op.dst undef) w') : op.wp Tryz.prog a w K Q :=
  wp_store_mid 53 x y ho B (18 * k) (arr d) hx hy (by rw [arr_size]; exact sarr_there hB hk) (by rw [arr_size]; exact infoA) (arr_one _) (h _ (putRow_cells hB hk))

theorem wpList_put_row {ops : Array Oper} {rest : List Oper} {op : Oper} {a : Act} {w : World} {Q : Exit → Act → World → Prop} (hgd : op.guard = none) (x y : Operand) (ho : op.op = .store 53 x y)
    (B k : Nat) (s : Nat → Nat → Int) (d : Nat → Int) (hx : a.eval x = .pointer (some ⟨B, 18 * k, none⟩)) (hy : a.eval y = .agg (arr d))
    (hB : w.heap[B]? = some (.cells (sarr s) 57 (0, 0))) (hk : k < 18)
    (h : ∀ w', PutRow B (setB s k d) w w' → wpList Tryz.prog ops Q rest (a.put op.dst undef) w') : wpList Tryz.prog ops Q (op :: rest) a w :=
  wpList_plain hgd fun _ hK => wp_put_row x y ho B k s d hx hy hB hk fun w' hw' => hK _ _ (h w' hw')

theorem ret_sarr {fn : Func} {p : Tmp} (h : fn.results = #[.cell p 57]) (tmps : Array Value) (w : World) (g : Nat) (s : Nat → Nat → Int) (fr : Nat × Nat)
    (hp : tmps.getD p undef = .pointer (some ⟨g, 0, none⟩)) (hg : w.heap[g]? = some (.cells (sarr s) 57 fr)) : (results fn tmps).run Tryz.prog w = .ok (.agg (sarr s)) w :=
  results_cell_row h tmps w g 57 (sarr s) fr _ hp hg descS rfl (by rw [sarr_size]; exact infoS)

/-- The rows before i less what they have of the new one. -/
def withStep (s : Nat → Nat → Int) (a : Nat) (d : Nat → Int) (i : Nat) : Nat → Nat → Int := fun k j => if k < i then (s k j - s k a * d j) % 101 else s k j

theorem withStep_zero (s : Nat → Nat → Int) (a : Nat) (d : Nat → Int) : withStep s a d 0 = s := by
  funext k j; unfold withStep; rw [if_neg (by omega)]

theorem withStep_next (s : Nat → Nat → Int) (a : Nat) (d : Nat → Int) (i : Nat) : sarr (setB (withStep s a d i) i (fun j => (s i j + d j * -(s i a)) % 101)) = sarr (withStep s a d (i + 1)) := sarr_eq fun k j _ _ => by
  unfold setB withStep
  by_cases e : k = i
  · subst e
    rw [if_pos rfl, if_pos (by omega)]
    show (s k j + d j * -s k a) % 101 = _
    rw [Int.mul_neg, Int.mul_comm]
    omega
  · rw [if_neg e]
    by_cases h : k < i
    · rw [if_pos h, if_pos (by omega)]
    · rw [if_neg h, if_neg (by omega)]

theorem withStep_put (s : Nat → Nat → Int) (a : Nat) (d : Nat → Int) : sarr (setB (withStep s a d 18) a d) = sarr (putB s a d) := sarr_eq fun k j hk _ => by
  unfold setB withStep putB
  rw [if_pos hk]

/-- The span with a row, by its base. -/
theorem put_with {s : Nat → Nat → Int} {r : Nat → Int} (hs : Bs 18 s) {a : Nat} {x : Nat} (ha : a < 18) (hx : redV 18 s r a = x) (hx1 : 1 ≤ x) (hx2 : x ≤ 100) (hlow : ∀ j, j < a → redV 18 s r j = 0) :
    Bs 18 (putB s a fun j => redV 18 s r j * (inv101 x : Int) % 101) ∧ ∀ v, Sp 18 (BsR 18 (putB s a fun j => redV 18 s r j * (inv101 x : Int) % 101)) v ↔ Sp 18 (fun y => BsR 18 s y ∨ y = r) v := by
  have hm := inv101_mul x (by omega) (by omega)
  have hm' : ((x : Int) * (inv101 x : Int)) % 101 = 1 := by
    have : ((x * inv101 x % 101 : Nat) : Int) = 1 := by rw [hm]; rfl
    simpa using this
  have hda : redV 18 s r a * (inv101 x : Int) % 101 = 1 := by rw [hx]; exact hm'
  have hh : ∀ i, s i i = 1 → redV 18 s r i * (inv101 x : Int) % 101 = 0 := fun i hi => by rw [hs.red_head r hi, Int.zero_mul]; rfl
  have hsa : ∀ j, s a j = 0 := by
    rcases hs.row a with h0 | ⟨_, h2, _, _⟩
    · exact h0
    · have := hh a h2
      rw [hda] at this; cases this
  refine ⟨hs.put ha (fun j => by omega) hda (fun j hj => by rw [hlow j hj, Int.zero_mul]; rfl) hh, fun v => (Bs.put_span ha hsa).trans (span_swap (c := (x : Int)) (e := (inv101 x : Int)) (by omega) (fun j _ => ?_))⟩
  rw [Int.mul_comm (inv101 x : Int)]
  omega

end Go.Proofs.YtoeebipahifpcaaGreat
end
section
/- A row put to a span, by the program. -/
namespace Go.Proofs.YtoeebipahifpcaaGreat
open Go.RowKit

theorem zeroS : Tryz.zeroCells57 = sarr (fun _ _ => 0) := by kernel_rfl

/-- A span is answered. -/
def AnsS (s : Nat → Nat → Int) (w : World) (e : Ending) (w' : World) : Prop := e = .returned (.agg (sarr s)) ∧ Below w.heap.size w w'

/-- The span, the cell of the answer, and what lay before. -/
def Frm (w : World) (BS BO BA : Nat) (cs : Array Value) (w' : World) : Prop :=
  w'.heap[BS]? = some (.cells cs 57 (0, 0)) ∧ w'.heap[BO]? = some (.cells (sarr fun _ _ => 0) 57 (0, 0)) ∧ Below w.heap.size w w' ∧ w.heap.size ≤ BS ∧ BS < BO ∧ BO < BA ∧ BA < w'.heap.size
theorem Frm.drew {w w1 : World} {BS BO BA : Nat} {cs : Array Value} (h : Frm w BS BO BA cs w1) : Frm w BS BO BA cs w1.drew := ⟨h.1, h.2.1, h.2.2.1.drew, h.2.2.2⟩
theorem Frm.keep {w w1 w2 : World} {BS BO BA : Nat} {cs : Array Value} (h : Frm w BS BO BA cs w1) (hb : Below w1.heap.size w1 w2) : Frm w BS BO BA cs w2 := by
  obtain ⟨h1, h2, h3, h4, h5, h6, h7⟩ := h
  exact ⟨(hb.block _ (by omega)).trans h1, (hb.block _ (by omega)).trans h2, below_step h3 hb, h4, h5, h6, Nat.lt_of_lt_of_le h7 hb.size⟩
theorem Frm.setRow {w w1 : World} {BS BO BA : Nat} {cs : Array Value} (h : Frm w BS BO BA cs w1) (vs : Array Value) : Frm w BS BO BA cs (w1.setRow BA vs) := by
  obtain ⟨h1, h2, h3, h4, h5, h6, h7⟩ := h
  exact ⟨(setRow_other w1 BA BS vs (by omega)).trans h1, (setRow_other w1 BA BO vs (by omega)).trans h2, below_setRow h3 (by omega) vs, h4, h5, h6, by simpa using h7⟩
theorem Frm.put {w w1 w2 : World} {BS BO BA : Nat} {cs : Array Value} {t : Nat → Nat → Int} (h : Frm w BS BO BA cs w1) (hp : PutRow BS t w1 w2) : Frm w BS BO BA (sarr t) w2 := by
  obtain ⟨h1, h2, h3, h4, h5, h6, h7⟩ := h
  have h8 := hp.2.2 _ _ (Nat.le_refl _) ((Below.refl BS w1))
  exact ⟨hp.1, (hp.2.1 BO (by omega)).trans h2, hp.2.2 _ _ h4 h3, h4, h5, h6, Nat.lt_of_lt_of_le h7 h8.size⟩
theorem Frm.alloc {w w1 : World} {BS BO BA : Nat} {cs : Array Value} (h : Frm w BS BO BA cs w1) (o : Obj) : Frm w BS BO BA cs (w1.alloc o) := h.keep ((Below.refl _ _).alloc (Nat.le_refl _) _)

/-- The world in which the row that is left has been found. -/
theorem with_start (s : Nat → Nat → Int) (r : Nat → Int) (w : World) : ∃ w3, w3 = ((w.alloc (.cells (sarr s) 57 (0, 0))).alloc (.cells (arr r) 53 (0, 0))).alloc (.cells Tryz.zeroCells57 57 (0, 0)) ∧
    w3.heap.size = w.heap.size + 3 ∧ Below w.heap.size w w3 ∧ w3.heap[w.heap.size]? = some (.cells (sarr s) 57 (0, 0)) ∧ w3.heap[w.heap.size + 1]? = some (.cells (arr r) 53 (0, 0)) ∧ w3.heap[w.heap.size + 1 + 1]? = some (.cells (sarr fun _ _ => 0) 57 (0, 0)) := by
  refine ⟨_, rfl, by simp, (((Below.refl _ _).alloc (Nat.le_refl _) _).alloc (by simp) _).alloc (by simp; omega) _, ?_, ?_, ?_⟩
  · rw [Below.heap_alloc _ _ _ (by simp; omega), Below.heap_alloc _ _ _ (by simp)]; exact heap_alloc_new _ _
  · rw [Below.heap_alloc _ _ _ (by simp), show w.heap.size + 1 = (w.alloc (.cells (sarr s) 57 (0, 0))).heap.size by simp]; exact heap_alloc_new _ _
  · rw [← zeroS, show w.heap.size + 1 + 1 = ((w.alloc (.cells (sarr s) 57 (0, 0))).alloc (.cells (arr r) 53 (0, 0))).heap.size by simp]; exact heap_alloc_new _ _

set_option maxRecDepth 100000 in
set_option maxHeartbeats 4000000 in
theorem spanWith_zero (s : Nat → Nat → Int) (r : Nat → Int) (w : World) (hs : Bs 18 s) (hr : ∀ j, j < 18 → 0 ≤ r j ∧ r j ≤ 100) (hz : rowZ (redV 18 s r) = true) :
    Calls Tryz.prog 53 #[.agg (sarr s), .agg (arr r)] w (AnsS s w) := by
  obtain ⟨w3, hw3, hs3, hB3, h0, h1, h2⟩ := with_start s r w
  have HW3 := Lib.hid hw3
  have HS3 := Lib.hid hs3
  have HB3 := Lib.hid hB3
  have H0 := Lib.hid h0
  have H1 := Lib.hid h1
  have H2 := Lib.hid h2
  obtain ⟨c, hc⟩ : ∃ c, c = redV 18 s r := ⟨_, rfl⟩
  have HRD : Hid (∀ W : World, Calls Tryz.prog 59 #[.agg (sarr s), .agg (arr r)] W (AnsA c W)) := Lib.hid (fun W => by rw [hc]; exact spanReduced_any s r W hs hr)
  have HIZ : Hid (∀ W : World, Calls Tryz.prog 50 #[.agg (arr c)] W (Ans (.bool true) W)) := Lib.hid (fun W => by rw [← hz, hc]; exact rowIsZero_any (redV 18 s r) W)
  obtain ⟨BS, hBS⟩ : ∃ BS, BS = w.heap.size := ⟨_, rfl⟩
  obtain ⟨BR, hBR⟩ : ∃ BR, BR = BS + 1 := ⟨_, rfl⟩
  obtain ⟨BO, hBO⟩ : ∃ BO, BO = BR + 1 := ⟨_, rfl⟩
  rw [← hBS] at H0
  rw [← hBS, ← hBR] at H1
  rw [← hBS, ← hBR, ← hBO] at H2
  have HBS := Lib.hid hBS
  have HBR := Lib.hid hBR
  have HBO := Lib.hid hBO
  clear hw3 hs3 hB3 h0 h1 h2 hc hz hs hr hBS hBR hBO
  go_enter Tryz.func53, Tryz.ntmps53
  go_upto_region 1 with fail
  rw [← HW3.out, ← HBS.out, ← HBR.out, ← HBO.out]
  go_wp2_with (first
    | (refine wpList_load_row rfl 57 (.tmp 2) rfl BS rfl 57 (sarr s) (0, 0) _ H0.out descS rfl (by rw [sarr_size]; exact infoS) ?_)
    | (refine wpList_load_row rfl 53 (.tmp 3) rfl BR rfl 53 (arr r) (0, 0) _ H1.out descA rfl (by rw [arr_size]; exact infoA) ?_))
  refine (HRD.out w3).mono ?_
  rintro e w4 ⟨rfl, hB4⟩
  obtain ⟨BA, hBA⟩ : ∃ BA, BA = w4.heap.size := ⟨_, rfl⟩
  obtain ⟨W5, hW5⟩ : ∃ W5, W5 = w4.alloc (.cells (arr c) 53 (0, 0)) := ⟨_, rfl⟩
  have hF5 : Frm w BS BO BA (sarr s) W5 := by
    have e1 := HBS.out
    have e2 := HBR.out
    have e3 := HBO.out
    have e4 := HS3.out
    have e5 := hB4.size
    rw [hW5]
    refine ⟨?_, ?_, (below_step HB3.out hB4).alloc (by omega) _, by omega, by omega, by omega, by simp; omega⟩
    · rw [Below.heap_alloc _ _ _ (by omega), hB4.block _ (by omega)]; exact H0.out
    · rw [Below.heap_alloc _ _ _ (by omega), hB4.block _ (by omega)]; exact H2.out
  have HF5 := Lib.hid hF5
  have HA5 : Hid (W5.heap[BA]? = some (.cells (arr c) 53 (0, 0))) := Lib.hid (by rw [hW5, hBA]; exact heap_alloc_new _ _)
  have HW5 := Lib.hid hW5
  have HBA := Lib.hid hBA
  clear hB4 hF5 hW5 hBA
  go_wp2_with (first
    | (refine wpList_store_row rfl 53 (.tmp 5) (.tmp 11) rfl w4.heap.size (arr c) rfl rfl 53 _ (heap_alloc_new _ _) (by rw [arr_size]; exact infoA) (by rw [arr_size]; rfl) (arr_one _) ?_; rw [World.setRow_alloc_new, ← HW5.out, ← HBA.out])
    | (refine wpList_load_row rfl 53 (.tmp 5) rfl BA rfl 53 (arr c) (0, 0) _ HA5.out descA rfl (by rw [arr_size]; exact infoA) ?_))
  refine (HIZ.out W5).mono ?_
  rintro e w6 ⟨rfl, hB6⟩
  have HF6 := Lib.hid (HF5.out.keep hB6)
  have HRR := Lib.hid (setRow_heap w6 BO _ (sarr s) 57 (0, 0) HF6.out.2.1)
  have HBF := Lib.hid (below_setRow HF6.out.2.2.1 (Nat.le_trans HF6.out.2.2.2.1 (Nat.le_of_lt HF6.out.2.2.2.2.1)) (sarr s))
  clear hB6
  go_wp2_with (first
    | (refine wpList_load_row rfl 57 (.tmp 2) rfl BS rfl 57 (sarr s) (0, 0) _ HF6.out.1 descS rfl (by rw [sarr_size]; exact infoS) ?_)
    | (refine wpList_store_row rfl 57 (.tmp 4) (.tmp 14) rfl BO (sarr s) rfl rfl 57 _ HF6.out.2.1 (by rw [sarr_size]; exact infoS) (by rw [sarr_size, sarr_size]) (sarr_one _) ?_))
  refine bodyPost_ret (v := .agg (sarr s)) (ret_sarr rfl _ _ BO _ (0, 0) rfl HRR.out) rfl ?_
  exact ⟨rfl, HBF.out⟩

set_option maxRecDepth 100000 in
set_option maxHeartbeats 8000000 in
theorem spanWith_put (s : Nat → Nat → Int) (r : Nat → Int) (w : World) (hs : Bs 18 s) (hr : ∀ j, j < 18 → 0 ≤ r j ∧ r j ≤ 100) (hz : rowZ (redV 18 s r) = false) :
    Calls Tryz.prog 53 #[.agg (sarr s), .agg (arr r)] w (fun e w' => ∃ a x : Nat, a < 18 ∧ redV 18 s r a = x ∧ 1 ≤ x ∧ x ≤ 100 ∧ (∀ j, j < a → redV 18 s r j = 0) ∧ AnsS (putB s a fun j => redV 18 s r j * (inv101 x : Int) % 101) w e w') := by
  have hne : ∃ j, j < 18 ∧ redV 18 s r j ≠ 0 := by
    refine Classical.byContradiction fun hn => ?_
    have : rowZ (redV 18 s r) = true := rowZ_iff.2 fun j hj => Classical.byContradiction fun h => hn ⟨j, hj, h⟩
    rw [hz] at this; cases this
  have hcr : ∀ j, 0 ≤ redV 18 s r j ∧ redV 18 s r j ≤ 100 := fun j => by unfold redV; omega
  obtain ⟨w3, hw3, hs3, hB3, h0, h1, h2⟩ := with_start s r w
  have HW3 := Lib.hid hw3
  have HS3 := Lib.hid hs3
  have HB3 := Lib.hid hB3
  have H0 := Lib.hid h0
  have H1 := Lib.hid h1
  have H2 := Lib.hid h2
  have HSR : Hid (∀ i j, 0 ≤ s i j ∧ s i j ≤ 100) := Lib.hid hs.rng
  obtain ⟨c, hc⟩ : ∃ c, c = redV 18 s r := ⟨_, rfl⟩
  have HRD : Hid (∀ W : World, Calls Tryz.prog 59 #[.agg (sarr s), .agg (arr r)] W (AnsA c W)) := Lib.hid (fun W => by rw [hc]; exact spanReduced_any s r W hs hr)
  have HIZ : Hid (∀ W : World, Calls Tryz.prog 50 #[.agg (arr c)] W (Ans (.bool false) W)) := Lib.hid (fun W => by rw [← hz, hc]; exact rowIsZero_any (redV 18 s r) W)
  have HFI : Hid (∀ W : World, Calls Tryz.prog 67 #[.agg (arr c)] W (HeadPost c W)) := Lib.hid (fun W => by rw [hc]; exact rowFirst_any (redV 18 s r) W hne)
  rw [← hc] at hcr ⊢
  have HCR := Lib.hid hcr
  obtain ⟨BS, hBS⟩ : ∃ BS, BS = w.heap.size := ⟨_, rfl⟩
  obtain ⟨BR, hBR⟩ : ∃ BR, BR = BS + 1 := ⟨_, rfl⟩
  obtain ⟨BO, hBO⟩ : ∃ BO, BO = BR + 1 := ⟨_, rfl⟩
  rw [← hBS] at H0
  rw [← hBS, ← hBR] at H1
  rw [← hBS, ← hBR, ← hBO] at H2
  have HBS := Lib.hid hBS
  have HBR := Lib.hid hBR
  have HBO := Lib.hid hBO
  clear hw3 hs3 hB3 h0 h1 h2 hc hz hs hr hBS hBR hBO hcr hne
  go_enter Tryz.func53, Tryz.ntmps53
  go_upto_region 1 with fail
  rw [← HW3.out, ← HBS.out, ← HBR.out, ← HBO.out]
  go_wp2_with (first
    | (refine wpList_load_row rfl 57 (.tmp 2) rfl BS rfl 57 (sarr s) (0, 0) _ H0.out descS rfl (by rw [sarr_size]; exact infoS) ?_)
    | (refine wpList_load_row rfl 53 (.tmp 3) rfl BR rfl 53 (arr r) (0, 0) _ H1.out descA rfl (by rw [arr_size]; exact infoA) ?_))
  refine (HRD.out w3).mono ?_
  rintro e w4 ⟨rfl, hB4⟩
  obtain ⟨BA, hBA⟩ : ∃ BA, BA = w4.heap.size := ⟨_, rfl⟩
  obtain ⟨W5, hW5⟩ : ∃ W5, W5 = w4.alloc (.cells (arr c) 53 (0, 0)) := ⟨_, rfl⟩
  have hF5 : Frm w BS BO BA (sarr s) W5 := by
    have e1 := HBS.out
    have e2 := HBR.out
    have e3 := HBO.out
    have e4 := HS3.out
    have e5 := hB4.size
    rw [hW5]
    refine ⟨?_, ?_, (below_step HB3.out hB4).alloc (by omega) _, by omega, by omega, by omega, by simp; omega⟩
    · rw [Below.heap_alloc _ _ _ (by omega), hB4.block _ (by omega)]; exact H0.out
    · rw [Below.heap_alloc _ _ _ (by omega), hB4.block _ (by omega)]; exact H2.out
  have HF5 := Lib.hid hF5
  have hBSA : BS ≠ BA := by have := hF5.2.2.2.2; omega
  have HA5 : Hid (W5.heap[BA]? = some (.cells (arr c) 53 (0, 0))) := Lib.hid (by rw [hW5, hBA]; exact heap_alloc_new _ _)
  have HW5 := Lib.hid hW5
  have HBA := Lib.hid hBA
  clear hB4 hF5 hW5 hBA
  go_wp2_with (first
    | (refine wpList_store_row rfl 53 (.tmp 5) (.tmp 11) rfl w4.heap.size (arr c) rfl rfl 53 _ (heap_alloc_new _ _) (by rw [arr_size]; exact infoA) (by rw [arr_size]; rfl) (arr_one _) ?_; rw [World.setRow_alloc_new, ← HW5.out, ← HBA.out])
    | (refine wpList_load_row rfl 53 (.tmp 5) rfl BA rfl 53 (arr c) (0, 0) _ HA5.out descA rfl (by rw [arr_size]; exact infoA) ?_))
  refine (HIZ.out W5).mono ?_
  rintro e w6 ⟨rfl, hB6⟩
  have HF6 := Lib.hid (HF5.out.keep hB6)
  have HA6 := Lib.hid ((hB6.block BA (Array.getElem?_eq_some_iff.1 HA5.out).1).trans HA5.out)
  clear hB6
  go_wp2_with (refine wpList_load_row rfl 53 (.tmp 5) rfl BA rfl 53 (arr c) (0, 0) _ HA6.out descA rfl (by rw [arr_size]; exact infoA) ?_)
  refine (HFI.out w6).mono ?_
  rintro e W7 ⟨a, ha, ha0, hal, rfl, hB7⟩
  have HF7 := Lib.hid (HF6.out.keep hB7)
  have hA7 := (hB7.block BA (Array.getElem?_eq_some_iff.1 HA6.out).1).trans HA6.out
  obtain ⟨x, hx⟩ : ∃ x : Nat, c a = x := ⟨(c a).toNat, by have := HCR.out a; omega⟩
  have hx1 : 1 ≤ x := by have := HCR.out a; omega
  have hx2 : x ≤ 100 := by have := HCR.out a; omega
  have HD7 : Hid (HeldD BA BA c c a x W7) := Lib.hid ⟨hA7, hA7, cellAt hA7 (by rw [arr_get _ ha, hx])⟩
  have HIV := Lib.hid (fun W : World => inverse_any x W hx1 hx2)
  obtain ⟨y, hy⟩ : ∃ y, y = inv101 x := ⟨_, rfl⟩
  have hy1 : y < 101 := by rw [hy]; exact inv101_lt x
  rw [← hy] at HIV
  have HTM := Lib.hid (fun W : World => quadTimes_any c (y : Int) W (fun j _ => HCR.out j) (by omega))
  have HX := Lib.hid hx
  have HY := Lib.hid hy
  have HX1 := Lib.hid hx1
  have HX2 := Lib.hid hx2
  have HAL := Lib.hid hal
  have a0 : (0 : Int) ≤ (a : Int) := by omega
  have a18 : (a : Int) < 18 := by omega
  clear hB7 hA7 hx hal ha0 hy hx1 hx2
  go_upto_region 5 with fail
  refine wp_region_heldZ (z := 6) (S := HeldD BA BA c c a x) (by kernel_rfl) (show HeldD BA BA c c a x W7.drew from HD7.out) (fun hHeld => ?_)
  refine wpAnyZ_take (i := 0) (oi := { dst := some 17, op := Op.load 53 (Operand.tmp 5), type := 53, pos := "l6_duals.go:88", after := #[], guard := none }) (v := .agg (arr c)) rfl (by kernel_rfl) (by kernel_rfl) (by kernel_rfl) (by kernel_rfl) (fun _ _ _ h => h) (yieldsIf_load_mid (by rfl) 53 (.tmp 5) rfl (BA) 0 rfl (arrL c) _ (fun w hS => range_arr hS.1) descA rfl (by rw [arrL_length]; exact infoA)) (by assumption) ?_
  (try simp only [Act.put, List.setIfInBounds_toArray, List.set_cons_zero, List.set_cons_succ])
  refine wpAnyZ_take (i := 1) (oi := { dst := some 18, op := Op.move (Operand.tmp 6), type := 3, pos := "l6_duals.go:88", after := #[], guard := none }) (v := ?_) rfl (by kernel_rfl) (by kernel_rfl) (by kernel_rfl) (by kernel_rfl) (fun _ _ _ h => h) (Or.inl ⟨by rfl, ?_⟩) (by assumption) ?_
  rotate_left
  · (intro w hSw; (try dsimp only at hSw); go_simp <;> with_reducible rfl)
  (try simp only [Act.put, List.setIfInBounds_toArray, List.set_cons_zero, List.set_cons_succ])
  refine wpAnyZ_take (i := 2) (oi := { dst := some 19, op := Op.indexAddr 53 (Operand.tmp 5) (Operand.tmp 18), type := 0, pos := "l6_duals.go:88", after := #[{ on := 1, ground := Ground.data }], guard := none }) (v := ?_) rfl (by kernel_rfl) (by kernel_rfl) (by kernel_rfl) (by kernel_rfl) (fun _ _ _ h => h) (Or.inl ⟨by rfl, ?_⟩) (by assumption) ?_
  rotate_left
  · (intro w hSw; (try dsimp only at hSw); go_simp <;> with_reducible rfl)
  (try simp only [Act.put, List.setIfInBounds_toArray, List.set_cons_zero, List.set_cons_succ])
  refine wpAnyZ_take (i := 3) (oi := { dst := some 20, op := Op.load 3 (Operand.tmp 19), type := 3, pos := "l6_duals.go:88", after := #[{ on := 2, ground := Ground.data }], guard := none }) (v := ?_) rfl (by kernel_rfl) (by kernel_rfl) (by kernel_rfl) (by kernel_rfl) (fun _ _ _ h => h) (Or.inl ⟨by rfl, ?_⟩) (by assumption) ?_
  rotate_left
  · (intro w hSw; have hSc := hSw.2.2; go_simp <;> with_reducible rfl)
  (try simp only [Act.put, List.setIfInBounds_toArray, List.set_cons_zero, List.set_cons_succ])
  refine wpAnyZ_one (i := 4) (o := { dst := some 21, op := Op.call { callee := Callee.value (Operand.func 69), args := #[Operand.tmp 20], argTypes := #[3] }, type := 3, pos := "l6_duals.go:88", after := #[{ on := 3, ground := Ground.data }], guard := none }) (by kernel_rfl) rfl (fun K hK => ?_)
  go_simp
  go_wp2_with fail
  refine (HIV.out _).mono ?_
  rintro e w8 ⟨rfl, hw8⟩
  have HD8 : Hid (HeldD BA BA c c a x w8) := Lib.hid (by rw [← hw8]; exact HD7.out)
  have HF8 : Hid (Frm w BS BO BA (sarr s) w8) := Lib.hid (by rw [← hw8]; exact HF7.out.drew)
  clear hw8
  go_wp2_with fail
  refine hK.out _ _ ?_ (fun hHeld => ?_)
  · exact HD8.out
  clear hK K
  (try simp only [Act.put, List.setIfInBounds_toArray, List.set_cons_zero, List.set_cons_succ])
  refine wpAnyZ_one (i := 5) (o := { dst := some 22, op := Op.call { callee := Callee.value (Operand.func 68), args := #[Operand.tmp 17, Operand.tmp 21], argTypes := #[53, 3] }, type := 53, pos := "l6_duals.go:88", after := #[{ on := 0, ground := Ground.data }, { on := 4, ground := Ground.data }, { on := 4, ground := Ground.chain }], guard := none }) (by kernel_rfl) rfl (fun K hK => ?_)
  go_simp
  go_wp2_with fail
  refine (HTM.out _).mono ?_
  rintro e w9 ⟨rfl, hB9⟩
  have HD9 := Lib.hid (HD8.out.keep hB9)
  have HF9 := Lib.hid (HF8.out.keep hB9)
  clear hB9
  go_wp2_with fail
  refine hK.out _ _ ?_ (fun hHeld => ?_)
  · exact HD9.out
  clear hK K
  (try simp only [Act.put, List.setIfInBounds_toArray, List.set_cons_zero, List.set_cons_succ])
  refine wpAnyZ_last (o := { dst := none, op := Op.store 53 (Operand.tmp 5) (Operand.tmp 22), type := 0, pos := "l6_duals.go:88", after := #[{ on := 5, ground := Ground.data }, { on := 5, ground := Ground.chain }, { on := 0, ground := Ground.phase }, { on := 1, ground := Ground.phase }, { on := 2, ground := Ground.phase }, { on := 3, ground := Ground.phase }, { on := 4, ground := Ground.phase }, { on := 5, ground := Ground.phase }], guard := none }) (by kernel_rfl) rfl (by kernel_rfl) (fun K hK => ?_)
  rw [if_pos (by rfl)]
  refine wp_store_row 53 (.tmp 5) (.tmp 22) rfl BA (arr fun j => c j * (y : Int) % 101) rfl rfl 53 (arr c) HD9.out.1 (by rw [arr_size]; exact infoA) (by rw [arr_size, arr_size]) (arr_one _) (hK.out _ _ ?_)
  have HA10 := Lib.hid (setRow_heap w9 BA _ (arr fun j => c j * (y : Int) % 101) 53 (0, 0) HD9.out.1)
  have HF10 := Lib.hid (HF9.out.setRow (arr fun j => c j * (y : Int) % 101))
  clear hK K
  obtain ⟨d, hd⟩ : ∃ d : Nat → Int, d = (fun j => c j * (y : Int) % 101) := ⟨_, rfl⟩
  rw [← hd] at HA10 HF10
  have HD := Lib.hid hd
  have hdr : ∀ j, 0 ≤ d j ∧ d j ≤ 100 := fun j => by rw [hd]; dsimp only; omega
  have HDR := Lib.hid hdr
  rw [← hd]
  obtain ⟨w10, hw10⟩ : ∃ w10, w10 = w9.setRow BA (arr d) := ⟨_, rfl⟩
  rw [← hw10] at HA10 HF10 ⊢
  clear hd hw10 hdr
  go_wp2_with (refine wpList_load_row rfl 57 (.tmp 2) rfl BS rfl 57 (sarr s) (0, 0) _ HF10.out.1 descS rfl (by rw [sarr_size]; exact infoS) ?_)
  go_loopw [24] (fun iv wr => ∃ k : Nat, k ≤ 18 ∧ iv = .int .i64 k ∧ wr.heap[BA]? = some (.cells (arr d) 53 (0, 0)) ∧ Frm w BS BO BA (sarr (withStep s a d k)) wr) (fun iv _ => 18 - (intOf iv).toNat)
  case atStart => exact ⟨0, by omega, rfl, HA10.out, by rw [withStep_zero]; exact HF10.out⟩
  case round =>
    obtain ⟨i, hi, rfl, hA, hF⟩ := hrel
    have HA := Lib.hid hA
    have HF := Lib.hid hF
    by_cases hlt : i < 18
    · have hix := fun W => index_span s hlt W
      obtain ⟨z, hzz⟩ : ∃ z, z = s i a := ⟨_, rfl⟩
      have HZZ := Lib.hid hzz
      have hzb : 0 ≤ z ∧ z ≤ 100 := by rw [hzz]; exact HSR.out i a
      obtain ⟨Bf, hBf⟩ : ∃ Bf, Bf = wr.heap.size := ⟨_, rfl⟩
      obtain ⟨W0, hW0⟩ : ∃ W0, W0 = wr.alloc (.cells (arr (s i)) 53 (0, 0)) := ⟨_, rfl⟩
      have HW0 := Lib.hid hW0
      have HBFE := Lib.hid hBf
      have HFW : Hid (Frm w BS BO BA (sarr (withStep s a d i)) W0) := Lib.hid (by rw [hW0]; exact hF.alloc _)
      have HD : Hid (HeldD Bf BA (s i) d a z W0) := Lib.hid (by
        have h1 : W0.heap[Bf]? = some (.cells (arr (s i)) 53 (0, 0)) := by rw [hW0, hBf]; exact heap_alloc_new _ _
        have h2 : BA < wr.heap.size := hF.2.2.2.2.2.2
        exact ⟨h1, by rw [hW0, Below.heap_alloc _ _ _ h2]; exact hA, cellAt h1 (by rw [arr_get _ ha, hzz])⟩)
      have hw1 : IntKind.i64.wrap (-z) = -z := by rw [IntKind.wrap_i64]; omega
      have HTM := Lib.hid (fun W : World => quadTimes_any d (-z) W (fun j _ => HDR.out j) (by omega))
      have HPL := Lib.hid (fun W : World => quadPlus_any (s i) (fun j => d j * -z % 101) W (fun j _ => HSR.out i j) (fun j _ => by omega))
      have k0 : (0 : Int) ≤ (i : Int) := by omega
      have k18 : (i : Int) < 18 := by omega
      clear hA hF hzz hW0 hBf
      go_upto_region 8 with fail
      go_wp2_with (refine wpList_store_row rfl 53 (.tmp 8) (.tmp 27) rfl wr.heap.size (arr (s i)) rfl rfl 53 _ (heap_alloc_new _ _) (by rw [arr_size]; exact infoA) (by rw [arr_size]; rfl) (arr_one _) ?_; rw [World.setRow_alloc_new])
      rw [← HW0.out, ← HBFE.out]
      refine wp_region_heldZ (z := 10) (S := HeldD Bf BA (s i) d a z) (by kernel_rfl) (show HeldD Bf BA (s i) d a z W0.drew from HD.out) (fun hHeld => ?_)
      refine wpAnyZ_take (i := 0) (oi := { dst := some 28, op := Op.move (Operand.tmp 7), type := 3, pos := "l6_duals.go:90", after := #[], guard := none }) (v := ?_) rfl (by kernel_rfl) (by kernel_rfl) (by kernel_rfl) (by kernel_rfl) (fun _ _ _ h => h) (Or.inl ⟨by rfl, ?_⟩) (by assumption) ?_
      rotate_left
      · (intro w hSw; (try dsimp only at hSw); go_simp <;> with_reducible rfl)
      (try simp only [Act.put, List.setIfInBounds_toArray, List.set_cons_zero, List.set_cons_succ])
      refine wpAnyZ_take (i := 1) (oi := { dst := some 29, op := Op.load 53 (Operand.tmp 8), type := 53, pos := "l6_duals.go:90", after := #[], guard := none }) (v := .agg (arr (s i))) rfl (by kernel_rfl) (by kernel_rfl) (by kernel_rfl) (by kernel_rfl) (fun _ _ _ h => h) (yieldsIf_load_mid (by rfl) 53 (.tmp 8) rfl (Bf) 0 rfl (arrL (s i)) _ (fun w hS => range_arr hS.1) descA rfl (by rw [arrL_length]; exact infoA)) (by assumption) ?_
      (try simp only [Act.put, List.setIfInBounds_toArray, List.set_cons_zero, List.set_cons_succ])
      refine wpAnyZ_take (i := 2) (oi := { dst := some 30, op := Op.load 53 (Operand.tmp 5), type := 53, pos := "l6_duals.go:90", after := #[], guard := none }) (v := .agg (arr d)) rfl (by kernel_rfl) (by kernel_rfl) (by kernel_rfl) (by kernel_rfl) (fun _ _ _ h => h) (yieldsIf_load_mid (by rfl) 53 (.tmp 5) rfl (BA) 0 rfl (arrL d) _ (fun w hS => range_arr hS.2.1) descA rfl (by rw [arrL_length]; exact infoA)) (by assumption) ?_
      (try simp only [Act.put, List.setIfInBounds_toArray, List.set_cons_zero, List.set_cons_succ])
      refine wpAnyZ_take (i := 3) (oi := { dst := some 31, op := Op.move (Operand.tmp 6), type := 3, pos := "l6_duals.go:90", after := #[], guard := none }) (v := ?_) rfl (by kernel_rfl) (by kernel_rfl) (by kernel_rfl) (by kernel_rfl) (fun _ _ _ h => h) (Or.inl ⟨by rfl, ?_⟩) (by assumption) ?_
      rotate_left
      · (intro w hSw; (try dsimp only at hSw); go_simp <;> with_reducible rfl)
      (try simp only [Act.put, List.setIfInBounds_toArray, List.set_cons_zero, List.set_cons_succ])
      refine wpAnyZ_take (i := 4) (oi := { dst := some 32, op := Op.indexAddr 53 (Operand.tmp 8) (Operand.tmp 31), type := 0, pos := "l6_duals.go:90", after := #[{ on := 3, ground := Ground.data }], guard := none }) (v := ?_) rfl (by kernel_rfl) (by kernel_rfl) (by kernel_rfl) (by kernel_rfl) (fun _ _ _ h => h) (Or.inl ⟨by rfl, ?_⟩) (by assumption) ?_
      rotate_left
      · (intro w hSw; (try dsimp only at hSw); go_simp <;> with_reducible rfl)
      (try simp only [Act.put, List.setIfInBounds_toArray, List.set_cons_zero, List.set_cons_succ])
      refine wpAnyZ_take (i := 5) (oi := { dst := some 33, op := Op.load 3 (Operand.tmp 32), type := 3, pos := "l6_duals.go:90", after := #[{ on := 4, ground := Ground.data }], guard := none }) (v := ?_) rfl (by kernel_rfl) (by kernel_rfl) (by kernel_rfl) (by kernel_rfl) (fun _ _ _ h => h) (Or.inl ⟨by rfl, ?_⟩) (by assumption) ?_
      rotate_left
      · (intro w hSw; have hSc := hSw.2.2; go_simp <;> with_reducible rfl)
      (try simp only [Act.put, List.setIfInBounds_toArray, List.set_cons_zero, List.set_cons_succ])
      refine wpAnyZ_take (i := 6) (oi := { dst := some 34, op := Op.unOp UnOp.neg 3 (Operand.tmp 33), type := 3, pos := "l6_duals.go:90", after := #[{ on := 5, ground := Ground.data }], guard := none }) (v := ?_) rfl (by kernel_rfl) (by kernel_rfl) (by kernel_rfl) (by kernel_rfl) (fun _ _ _ h => h) (Or.inl ⟨by rfl, ?_⟩) (by assumption) ?_
      rotate_left
      · (intro w hSw; (try dsimp only at hSw); go_simp <;> with_reducible rfl)
      (try simp only [Act.put, List.setIfInBounds_toArray, List.set_cons_zero, List.set_cons_succ])
      refine wpAnyZ_one (i := 7) (o := { dst := some 35, op := Op.call { callee := Callee.value (Operand.func 68), args := #[Operand.tmp 30, Operand.tmp 34], argTypes := #[53, 3] }, type := 53, pos := "l6_duals.go:90", after := #[{ on := 2, ground := Ground.data }, { on := 6, ground := Ground.data }], guard := none }) (by kernel_rfl) rfl (fun K hK => ?_)
      go_simp
      go_wp2_with fail
      refine (HTM.out _).mono ?_
      rintro e w4 ⟨rfl, hB4⟩
      have HD4 := Lib.hid ((show HeldD Bf BA (s i) d a z W0.drew from HD.out).keep hB4)
      have HF4 := Lib.hid ((show Frm w BS BO BA (sarr (withStep s a d i)) W0.drew from HFW.out.drew).keep hB4)
      clear hB4
      go_wp2_with fail
      refine hK.out _ _ ?_ (fun hHeld => ?_)
      · exact HD4.out
      clear hK K
      (try simp only [Act.put, List.setIfInBounds_toArray, List.set_cons_zero, List.set_cons_succ])
      refine wpAnyZ_one (i := 8) (o := { dst := some 36, op := Op.call { callee := Callee.value (Operand.func 70), args := #[Operand.tmp 29, Operand.tmp 35], argTypes := #[53, 53] }, type := 53, pos := "l6_duals.go:90", after := #[{ on := 1, ground := Ground.data }, { on := 7, ground := Ground.data }, { on := 7, ground := Ground.chain }], guard := none }) (by kernel_rfl) rfl (fun K hK => ?_)
      go_simp
      go_wp2_with fail
      refine (HPL.out _).mono ?_
      rintro e w5 ⟨rfl, hB5⟩
      have HD5 := Lib.hid (HD4.out.keep hB5)
      have HF5 := Lib.hid (HF4.out.keep hB5)
      clear hB5
      go_wp2_with fail
      refine hK.out _ _ ?_ (fun hHeld => ?_)
      · exact HD5.out
      clear hK K
      (try simp only [Act.put, List.setIfInBounds_toArray, List.set_cons_zero, List.set_cons_succ])
      refine wpAnyZ_take (i := 9) (oi := { dst := some 37, op := Op.indexAddr 57 (Operand.tmp 2) (Operand.tmp 28), type := 0, pos := "l6_duals.go:90", after := #[{ on := 0, ground := Ground.data }, { on := 0, ground := Ground.phase }, { on := 1, ground := Ground.phase }, { on := 2, ground := Ground.phase }, { on := 3, ground := Ground.phase }, { on := 4, ground := Ground.phase }, { on := 5, ground := Ground.phase }, { on := 6, ground := Ground.phase }, { on := 7, ground := Ground.phase }, { on := 8, ground := Ground.phase }], guard := none }) (v := ?_) rfl (by kernel_rfl) (by kernel_rfl) (by kernel_rfl) (by kernel_rfl) (fun _ _ _ h => h) (Or.inl ⟨by rfl, ?_⟩) (by assumption) ?_
      rotate_left
      · (intro w hSw; (try dsimp only at hSw); go_simp <;> with_reducible rfl)
      (try simp only [Act.put, List.setIfInBounds_toArray, List.set_cons_zero, List.set_cons_succ])
      refine wpAnyZ_last (o := { dst := none, op := Op.store 53 (Operand.tmp 37) (Operand.tmp 36), type := 0, pos := "l6_duals.go:90", after := #[{ on := 9, ground := Ground.data }, { on := 8, ground := Ground.data }, { on := 8, ground := Ground.chain }, { on := 0, ground := Ground.phase }, { on := 1, ground := Ground.phase }, { on := 2, ground := Ground.phase }, { on := 3, ground := Ground.phase }, { on := 4, ground := Ground.phase }, { on := 5, ground := Ground.phase }, { on := 6, ground := Ground.phase }, { on := 7, ground := Ground.phase }, { on := 8, ground := Ground.phase }], guard := none }) (by kernel_rfl) rfl (by kernel_rfl) (fun K hK => ?_)
      rw [if_pos (by rfl)]
      refine wp_put_row (.tmp 37) (.tmp 36) rfl BS i (withStep s a d i) (fun j => (s i j + d j * -z) % 101) ?hx rfl HF5.out.1 hlt (fun w6 hw6 => hK.out _ _ ?_)
      case hx => rw [Nat.mul_comm 18 i]; rfl
      have HF6 := Lib.hid (HF5.out.put hw6)
      have HA6 : Hid (w6.heap[BA]? = some (.cells (arr d) 53 (0, 0))) := Lib.hid ((hw6.2.1 BA (by omega)).trans HD5.out.2.1)
      clear hK K hw6
      have HF7 : Hid (Frm w BS BO BA (sarr (withStep s a d (i + 1))) w6) := Lib.hid (by
        have := HF6.out
        rw [HZZ.out, withStep_next] at this
        exact this)
      go_wp2_with fail
      exact ⟨⟨i + 1, by omega, by go_num, HA6.out, HF7.out⟩, by simp [intOf]; omega⟩
    · have hk18 : i = 18 := by omega
      rw [hk18] at HF
      clear hA hF hk18
      go_wp2_with (first
        | (refine wpList_load_row rfl 53 (.tmp 5) rfl BA rfl 53 (arr d) (0, 0) _ HA.out descA rfl (by rw [arr_size]; exact infoA) ?_)
        | (refine wpList_put_row rfl (.tmp 41) (.tmp 40) rfl BS a (withStep s a d 18) d (by rw [Nat.mul_comm 18 a]; rfl) rfl HF.out.1 ha ?_; intro w11 hw11; have HF11 := Lib.hid (HF.out.put hw11); clear hw11; rw [withStep_put] at HF11)
        | (refine wpList_load_row rfl 57 (.tmp 2) rfl BS rfl 57 (sarr (putB s a d)) (0, 0) _ HF11.out.1 descS rfl (by rw [sarr_size]; exact infoS) ?_)
        | (refine wpList_store_row rfl 57 (.tmp 4) (.tmp 42) rfl BO (sarr (putB s a d)) rfl rfl 57 _ HF11.out.2.1 (by rw [sarr_size]; exact infoS) (by rw [sarr_size, sarr_size]) (sarr_one _) ?_))
      have HRR := Lib.hid (setRow_heap w11 BO _ (sarr (putB s a d)) 57 (0, 0) HF11.out.2.1)
      have HBF := Lib.hid (below_setRow HF11.out.2.2.1 (Nat.le_trans HF11.out.2.2.2.1 (Nat.le_of_lt HF11.out.2.2.2.2.1)) (sarr (putB s a d)))
      refine bodyPost_ret (v := .agg (sarr (putB s a d))) (ret_sarr rfl _ _ BO _ (0, 0) rfl HRR.out) rfl ?_
      refine ⟨a, x, ha, HX.out, HX1.out, HX2.out, HAL.out, ?_, HBF.out⟩
      rw [HD.out, HY.out]

/-- What a span with a row is. -/
def WithPost (s : Nat → Nat → Int) (r : Nat → Int) (w : World) (e : Ending) (w' : World) : Prop :=
  ∃ t, Bs 18 t ∧ (∀ v, Sp 18 (BsR 18 t) v ↔ Sp 18 (fun y => BsR 18 s y ∨ y = r) v) ∧ AnsS t w e w'

theorem spanWith_any (s : Nat → Nat → Int) (r : Nat → Int) (w : World) (hs : Bs 18 s) (hr : ∀ j, j < 18 → 0 ≤ r j ∧ r j ≤ 100) :
    Calls Tryz.prog 53 #[.agg (sarr s), .agg (arr r)] w (WithPost s r w) := by
  have hq : rowZ (redV 18 s r) = true ∨ rowZ (redV 18 s r) = false := by cases rowZ (redV 18 s r) <;> simp
  rcases hq with hz | hz
  · refine (spanWith_zero s r w hs hr hz).mono fun e w' h => ⟨s, hs, fun v => ⟨Sp.mono fun y hy => Sp.of (.inl hy), Sp.mono fun y hy => ?_⟩, h⟩
    rcases hy with hy | rfl
    · exact Sp.of hy
    · exact hs.has_iff.1 (rowZ_iff.1 hz)
  · refine (spanWith_put s r w hs hr hz).mono fun e w' h => ?_
    obtain ⟨a, x, ha, hx, hx1, hx2, hal, h⟩ := h
    have := put_with hs ha hx hx1 hx2 hal
    exact ⟨_, this.1, this.2, h⟩

end Go.Proofs.YtoeebipahifpcaaGreat
end
