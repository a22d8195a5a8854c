/- Merged out of: XOrd, XOrdI. -/
import Derived.Test.YtoeebipahifpcaaGreatKPathsJ
import Derived.Lib.Bytealg
import Derived.Lib.Strings
import Derived.Lib.Slices
import Derived.Lib.Walk
import Derived.Deep.RegionHeld3
section
/- The order of trees as mathematics; the library's comparisons as the program calls them. -/
namespace Go.Proofs.YtoeebipahifpcaaGreat
open Go.RowKit

def cmpI (a b : Int) : Int := if a < b then -1 else if b < a then 1 else 0
def orI : List Int → Int
  | [] => 0
  | z :: zs => if z = 0 then orI zs else z

/-- Words: the shorter one first, and then byte by byte. -/
def wordCmp (a b : List UInt8) : Int := orI [cmpI a.length b.length, Lib.compareBytes a b]

def rowCmp : List (List UInt8) → List (List UInt8) → Int
  | [], [] => 0
  | [], _ :: _ => -1
  | _ :: _, [] => 1
  | a :: r, b :: q => if wordCmp a b = 0 then rowCmp r q else wordCmp a b

def ordCmp (ps : List (List UInt8)) (s : List UInt8) (qs : List (List UInt8)) (u : List UInt8) : Int := orI [cmpI ps.length qs.length, rowCmp ps qs, Lib.compareBytes s u]

theorem cmpI_lt {a b : Int} (h : a < b) : cmpI a b = -1 := by simp [cmpI, h]
theorem cmpI_gt {a b : Int} (h : b < a) : cmpI a b = 1 := by rw [cmpI, if_neg (by omega), if_pos h]
theorem cmpI_eq {a b : Int} (h : a = b) : cmpI a b = 0 := by rw [cmpI, if_neg (by omega), if_neg (by omega)]
theorem cmpI_range (a b : Int) : -1 ≤ cmpI a b ∧ cmpI a b ≤ 1 := by unfold cmpI; split <;> (try split) <;> omega
theorem compareBytes_range : ∀ (a b : List UInt8), -1 ≤ Lib.compareBytes a b ∧ Lib.compareBytes a b ≤ 1
  | [], [] => by simp [Lib.compareBytes]
  | [], _ :: _ => by simp [Lib.compareBytes]
  | _ :: _, [] => by simp [Lib.compareBytes]
  | a :: r, b :: q => by
    have := compareBytes_range r q
    simp only [Lib.compareBytes]
    split
    · omega
    · split <;> omega
theorem wordCmp_range (a b : List UInt8) : -1 ≤ wordCmp a b ∧ wordCmp a b ≤ 1 := by
  have h1 := cmpI_range a.length b.length
  have h2 := compareBytes_range a b
  simp only [wordCmp, orI]
  split
  · split <;> omega
  · omega
theorem rowCmp_range : ∀ (a b : List (List UInt8)), -1 ≤ rowCmp a b ∧ rowCmp a b ≤ 1
  | [], [] => by simp [rowCmp]
  | [], _ :: _ => by simp [rowCmp]
  | _ :: _, [] => by simp [rowCmp]
  | a :: r, b :: q => by
    have h1 := rowCmp_range r q
    have h2 := wordCmp_range a b
    simp only [rowCmp]
    split <;> omega

theorem rowCmp_at {ps qs : List (List UInt8)} {k : Nat} (h : k < ps.length) (h' : k < qs.length) : rowCmp (ps.drop k) (qs.drop k) = if wordCmp ps[k] qs[k] = 0 then rowCmp (ps.drop (k + 1)) (qs.drop (k + 1)) else wordCmp ps[k] qs[k] := by
  rw [List.drop_eq_getElem_cons h, List.drop_eq_getElem_cons h', rowCmp]
theorem rowCmp_long {ps qs : List (List UInt8)} {k : Nat} (h : k < ps.length) (h' : qs.length ≤ k) : rowCmp (ps.drop k) (qs.drop k) = 1 := by
  rw [List.drop_eq_getElem_cons h, List.drop_eq_nil_of_le h', rowCmp]
theorem rowCmp_short {ps qs : List (List UInt8)} {k : Nat} (h : ps.length ≤ k) (h' : k < qs.length) : rowCmp (ps.drop k) (qs.drop k) = -1 := by
  rw [List.drop_eq_getElem_cons h', List.drop_eq_nil_of_le h, rowCmp]
theorem rowCmp_done {ps qs : List (List UInt8)} {k : Nat} (h : ps.length ≤ k) (h' : qs.length ≤ k) : rowCmp (ps.drop k) (qs.drop k) = 0 := by
  rw [List.drop_eq_nil_of_le h', List.drop_eq_nil_of_le h, rowCmp]

set_option maxRecDepth 100000 in
theorem isNaNInt_any (x : Int) (w : World) : Calls Tryz.prog 108 #[.int .i64 x] w fun e w' => e = .returned (.bool false) ∧ w' = w := by
  go_enter Tryz.func108, Tryz.ntmps108
  go_wp2_with fail
  go_ret
  exact ⟨by simp, rfl⟩

set_option maxRecDepth 100000 in
theorem cmpInt_any (x y : Int) (w : World) : Calls Tryz.prog 91 #[.int .i64 x, .int .i64 y] w fun e w' => e = .returned (.int .i64 (cmpI x y)) ∧ w' = w := by
  rcases Int.lt_trichotomy x y with h | h | h
  · have HV := Lib.hid (cmpI_lt h)
    go_enter Tryz.func91, Tryz.ntmps91
    go_wp2_with (go_at_call 108; refine (isNaNInt_any _ _).mono ?_; rintro e w' ⟨rfl, rfl⟩)
    go_ret
    exact ⟨by rw [HV.out]; rfl, rfl⟩
  · have HV := Lib.hid (cmpI_eq h)
    subst h
    go_enter Tryz.func91, Tryz.ntmps91
    go_wp2_with (go_at_call 108; refine (isNaNInt_any _ _).mono ?_; rintro e w' ⟨rfl, rfl⟩)
    go_ret
    exact ⟨by rw [HV.out]; rfl, rfl⟩
  · have HV := Lib.hid (cmpI_gt h)
    have hn : ¬ x < y := by omega
    go_enter Tryz.func91, Tryz.ntmps91
    go_wp2_with (go_at_call 108; refine (isNaNInt_any _ _).mono ?_; rintro e w' ⟨rfl, rfl⟩)
    go_ret
    exact ⟨by rw [HV.out]; rfl, rfl⟩

/-- A row of ints reads as these. -/
def Ints (w : World) (g : Nat) (zs : List Int) : Prop := ∀ j (h : j < zs.length), w.cell? ⟨g, j, none⟩ = some (.int .i64 zs[j])

theorem orI_drop {zs : List Int} {k : Nat} (h : k < zs.length) : orI (zs.drop k) = if zs[k] = 0 then orI (zs.drop (k + 1)) else zs[k] := by
  rw [List.drop_eq_getElem_cons h, orI]

set_option maxRecDepth 100000 in
theorem cmpOr_any (zs : List Int) (n : Nat) (hnz : n = zs.length) (g cap : Nat) (w : World) (hn : n ≤ 1000) (hl : Ints w g zs) :
    Calls Tryz.prog 90 #[.slice (some ⟨g, 0, none⟩) n cap] w fun e w' => e = .returned (.int .i64 (orI zs)) ∧ w' = w := by
  have HL := Lib.hid hl
  have HNN := Lib.hid hnz
  clear hl hnz
  go_enter Tryz.func90, Tryz.ntmps90
  go_wp2_with fail
  go_loopw [8] (fun iv wr => ∃ k : Nat, k ≤ n ∧ iv = .int .i64 k ∧ orI zs = orI (zs.drop k) ∧ wr = w) (fun iv _ => n - (intOf iv).toNat)
  case atStart => exact ⟨0, Nat.zero_le _, rfl, by rw [List.drop_zero], rfl⟩
  case round =>
    obtain ⟨k, hk, rfl, ho, rfl⟩ := hrel
    have HO := Lib.hid ho
    clear ho
    by_cases hlt : k < n
    · have hlt' : k < zs.length := by rw [← HNN.out]; exact hlt
      have hc := HL.out k hlt'
      obtain ⟨z, hz⟩ : ∃ z, z = zs[k] := ⟨_, rfl⟩
      have HZ := Lib.hid hz
      rw [← hz] at hc
      clear hz
      by_cases h0 : z = 0
      · have HN : Hid (orI zs = orI (zs.drop (k + 1))) := Lib.hid (by rw [HO.out, orI_drop hlt', if_pos (by rw [← HZ.out]; exact h0)])
        subst h0
        go_wp2_with fail
        go_roundw
        case rel => exact ⟨k + 1, by omega, by go_num, HN.out, by first | rfl | trivial⟩
        case measure => simp [intOf]; omega
      · have HN : Hid (orI zs = z) := Lib.hid (by rw [HO.out, orI_drop hlt', if_neg (by rw [← HZ.out]; exact h0), HZ.out])
        go_wp2_with fail
        go_ret
        exact ⟨by rw [HN.out]; rfl, rfl⟩
    · have HN : Hid (orI zs = 0) := Lib.hid (by rw [HO.out, List.drop_eq_nil_of_le (by have := HNN.out; omega), orI])
      go_wp2_with fail
      go_ret
      exact ⟨by rw [HN.out]; rfl, rfl⟩

set_option maxHeartbeats 1000000 in
set_option maxRecDepth 100000 in
theorem cmpString_any (a b : ByteArray) (w : World) :
    Calls Tryz.prog 109 #[.string a, .string b] w fun e w' => e = .returned (.int .i64 (Lib.compareBytes a.data.toList b.data.toList)) ∧ w' = w := by
  go_enter Tryz.func109, Tryz.ntmps109
  go_wp2
  rw [run_callFunc_extern Tryz.func116 (by kernel_rfl) (by kernel_rfl) (by kernel_rfl) (e := Extern.BytealgCompare.compare) (by kernel_rfl), Lib.run_compareString]
  simp only [Result.andThen]
  rw [Oper.upon_value]
  go_wp2
  go_ret
  exact ⟨rfl, rfl⟩

set_option maxRecDepth 100000 in
theorem stringsCompare_any (a b : ByteArray) (w : World) :
    Calls Tryz.prog 94 #[.string a, .string b] w fun e w' => e = .returned (.int .i64 (Lib.compareBytes a.data.toList b.data.toList)) ∧ w' = w := by
  go_enter Tryz.func94, Tryz.ntmps94
  go_wp2_with fail
  refine (cmpString_any a b _).mono ?_
  rintro e w' ⟨rfl, rfl⟩
  go_wp2_with fail
  go_ret
  exact ⟨rfl, rfl⟩

theorem Ints.new (w : World) (zs : List Int) : Ints (w.alloc (.cells (zs.map (Value.int .i64)).toArray 3)) w.heap.size zs := fun j h => by
  rw [World.cell?_alloc_at _ _ _ _ rfl]
  simp [h]

set_option maxRecDepth 100000 in
set_option maxHeartbeats 1000000 in
theorem compareWays_any (a b : List UInt8) (w : World) :
    Calls Tryz.prog 93 #[.string ⟨a.toArray⟩, .string ⟨b.toArray⟩] w (Ans (.int .i64 (wordCmp a b)) w) := by
  have hsa : (⟨a.toArray⟩ : ByteArray).size = a.length := by simp [ByteArray.size]
  have hsb : (⟨b.toArray⟩ : ByteArray).size = b.length := by simp [ByteArray.size]
  obtain ⟨z0, hz0⟩ : ∃ z0, z0 = cmpI a.length b.length := ⟨_, rfl⟩
  obtain ⟨z1, hz1⟩ : ∃ z1, z1 = Lib.compareBytes a b := ⟨_, rfl⟩
  have H0 : Hid (∀ w, Calls Tryz.prog 91 #[.int .i64 (a.length : Int), .int .i64 (b.length : Int)] w fun e w' => e = .returned (.int .i64 z0) ∧ w' = w) := Lib.hid (fun w => by rw [hz0]; exact cmpInt_any _ _ w)
  have H1 : Hid (∀ w, Calls Tryz.prog 94 #[.string ⟨a.toArray⟩, .string ⟨b.toArray⟩] w fun e w' => e = .returned (.int .i64 z1) ∧ w' = w) := Lib.hid (fun w => by rw [hz1]; exact stringsCompare_any _ _ w)
  have HV : Hid (wordCmp a b = orI [z0, z1]) := Lib.hid (by rw [hz0, hz1, wordCmp])
  have H2 := Lib.hid (cmpOr_any [z0, z1] 2 rfl w.heap.size 2 (w.alloc (.cells #[.int .i64 z0, .int .i64 z1] 3)) (by omega) (Ints.new w [z0, z1]))
  clear hz0 hz1
  go_enter Tryz.func93, Tryz.ntmps93
  go_wp2_with (first
    | (go_at_call 91; refine (H0.out _).mono ?_; rintro e w' ⟨rfl, rfl⟩)
    | (go_at_call 94; refine (H1.out _).mono ?_; rintro e w' ⟨rfl, rfl⟩)
    | (go_at_call 90; refine H2.out.mono ?_; rintro e w' ⟨rfl, rfl⟩))
  go_ret
  exact ⟨by rw [HV.out]; rfl, (Below.refl _ _).alloc (Nat.le_refl _) _⟩
end Go.Proofs.YtoeebipahifpcaaGreat
end
section
/- The order of trees by the program. -/
namespace Go.Proofs.YtoeebipahifpcaaGreat
open Go.RowKit

set_option maxRecDepth 100000 in
set_option maxHeartbeats 1000000 in
theorem compareFunc_any (ps qs : List (List UInt8)) (n m : Nat) (hn : n = ps.length) (hm : m = qs.length) (a b : Option Addr) (ca cb : Nat) (w : World) (hn2 : n ≤ 1000000) (_hm2 : m ≤ 1000000) (ha : Lies w a ps) (hb : Lies w b qs) :
    Calls Tryz.prog 92 #[.slice a n ca, .slice b m cb, .func (.func 93) #[] #[]] w (Ans (.int .i64 (rowCmp ps qs)) w) := by
  have HA := Lib.hid ha
  have HB := Lib.hid hb
  have HNN := Lib.hid hn
  have HMM := Lib.hid hm
  clear ha hb hn hm
  go_enter Tryz.func92, Tryz.ntmps92
  go_wp2_with fail
  go_loopw [13] (fun iv wr => ∃ k : Nat, k ≤ n ∧ k ≤ m ∧ iv = .int .i64 k ∧ rowCmp ps qs = rowCmp (ps.drop k) (qs.drop k) ∧ Below w.heap.size w wr) (fun iv _ => n - (intOf iv).toNat)
  case atStart => exact ⟨0, Nat.zero_le _, Nat.zero_le _, rfl, by rw [List.drop_zero, List.drop_zero], Below.refl _ _⟩
  case round =>
    obtain ⟨k, hk, hkm, rfl, ho, hB⟩ := hrel
    have HO := Lib.hid ho
    clear ho
    by_cases hlt : k < n
    · have hlt' : k < ps.length := by rw [← HNN.out]; exact hlt
      obtain ⟨g, rfl, c1⟩ := (HA.out.below hB) k hlt'
      by_cases hltm : k < m
      · have hltm' : k < qs.length := by rw [← HMM.out]; exact hltm
        obtain ⟨g', rfl, c2⟩ := (HB.out.below hB) k hltm'
        obtain ⟨z, hz⟩ : ∃ z, z = wordCmp ps[k] qs[k] := ⟨_, rfl⟩
        have HZ := Lib.hid hz
        have HC := compareWays_any ps[k] qs[k] wr
        rw [← hz] at HC
        have HC := Lib.hid HC
        clear hz
        by_cases h0 : z = 0
        · have HN : Hid (rowCmp ps qs = rowCmp (ps.drop (k + 1)) (qs.drop (k + 1))) := Lib.hid (by rw [HO.out, rowCmp_at hlt' hltm', if_pos (by rw [← HZ.out]; exact h0)])
          subst h0
          go_wp2_with fail
          refine HC.out.mono ?_
          rintro e w1 ⟨rfl, hB1⟩
          have HB1 := Lib.hid (below_step hB hB1)
          clear hB1
          go_wp2_with fail
          go_roundw
          case rel => exact ⟨k + 1, by omega, by omega, by go_num, HN.out, HB1.out⟩
          case measure => simp [intOf]; omega
        · have HN : Hid (rowCmp ps qs = z) := Lib.hid (by rw [HO.out, rowCmp_at hlt' hltm', if_neg (by rw [← HZ.out]; exact h0), HZ.out])
          go_wp2_with fail
          refine HC.out.mono ?_
          rintro e w1 ⟨rfl, hB1⟩
          have HB1 := Lib.hid (below_step hB hB1)
          clear hB1
          go_wp2_with fail
          go_ret
          exact ⟨by rw [HN.out]; rfl, HB1.out⟩
      · have HN : Hid (rowCmp ps qs = 1) := Lib.hid (by rw [HO.out, rowCmp_long hlt' (by have := HMM.out; omega)])
        go_wp2_with fail
        go_ret
        exact ⟨by rw [HN.out]; rfl, hB⟩
    · by_cases hnm : n < m
      · have HN : Hid (rowCmp ps qs = -1) := Lib.hid (by rw [HO.out, rowCmp_short (by have := HNN.out; omega) (by have := HMM.out; omega)])
        go_wp2_with fail
        go_ret
        exact ⟨by rw [HN.out]; rfl, hB⟩
      · have HN : Hid (rowCmp ps qs = 0) := Lib.hid (by rw [HO.out, rowCmp_done (by have := HNN.out; omega) (by have := HMM.out; omega)])
        go_wp2_with fail
        go_ret
        exact ⟨by rw [HN.out]; rfl, hB⟩
/-- What is compared of a tree. -/
def KeyPost (t : T) (w : World) (e : Ending) (w' : World) : Prop :=
  Below w.heap.size w w' ∧ ∃ g cap, e = .returned (.agg #[.slice (some ⟨g, 0, none⟩) (t.paths []).length cap, .string ⟨t.text.toArray⟩]) ∧ Lies w' (some ⟨g, 0, none⟩) (t.paths []) ∧ w.heap.size ≤ g

set_option maxRecDepth 100000 in
set_option maxHeartbeats 1000000 in
theorem orderKeyOf_any (t : T) (ty : TypeId) (a : Addr) (w : World) (P : Nat → Prop) (hw : t.wf) (hl : t.leaves ≤ 1000) (hn : t.nodes ≤ 1000) (hr : RepI w P t ty a) :
    Calls Tryz.prog 76 #[.iface ty (.pointer (some a))] w (KeyPost t w) := by
  have hb1 : Below w.heap.size w (w.alloc (.cells #[.slice none 0 0, .string ⟨#[]⟩] 115)) := (Below.refl _ _).alloc (Nat.le_refl _) _
  have HB1 := Lib.hid hb1
  have HR := Lib.hid (hr.below hw hb1)
  have htl : t.text.length ≤ 100000 := by have := text_length t; omega
  obtain ⟨ps, hps⟩ : ∃ ps, ps = t.paths [] := ⟨_, rfl⟩
  have HP : Hid (Calls Tryz.prog 86 #[.iface ty (.pointer (some a)), .string ⟨#[]⟩] (w.alloc (.cells #[.slice none 0 0, .string ⟨#[]⟩] 115)) (Txts ps (w.alloc (.cells #[.slice none 0 0, .string ⟨#[]⟩] 115)))) :=
    Lib.hid (by rw [hps]; exact treePaths_any _ t ty a ⟨#[]⟩ _ P (Nat.le_refl _) hw (by omega) (by change 0 + _ ≤ _; omega) HR.out)
  have HT := Lib.hid (fun (w' : World) (hB : Below (w.alloc (.cells #[.slice none 0 0, .string ⟨#[]⟩] 115)).heap.size (w.alloc (.cells #[.slice none 0 0, .string ⟨#[]⟩] 115)) w') => treeText_any t ty a w' P hw (HR.out.below hw hB) htl)
  have HPS := Lib.hid hps
  have HPL : Hid (0 < ps.length) := Lib.hid (by rw [hps, paths_length]; exact leaves_pos t hw)
  clear hb1 hr hps htl hw
  go_enter Tryz.func76, Tryz.ntmps76
  go_wp2_with fail
  refine HP.out.mono ?_
  rintro e w1 ⟨hB1, g, cap, rfl, hown⟩
  have HOWN := Lib.hid hown
  have HBB := Lib.hid hB1
  clear hown hB1
  go_wp2_with fail
  refine (HT.out w1 HBB.out).mono ?_
  rintro e w2 ⟨rfl, hB2⟩
  have HB2 := Lib.hid hB2
  have hzz : w2.heap[w.heap.size]? = some (.cells #[.slice none 0 0, .string ⟨#[]⟩] 115 (0, 0)) := by
    have h1 := HBB.out.size
    rw [hB2.block _ (by simp at h1; omega), HBB.out.block _ (by simp)]
    exact heap_alloc_new w _
  obtain ⟨r0, r1, fr0, fr1⟩ := two_cells hzz
  have hzl : w.heap.size < w2.heap.size := World.block_lt_of_cell? w2 _ r0
  have HL : Hid (Lies w2 (some ⟨g, 0, none⟩) ps) := Lib.hid ((Lies.of_owns HOWN.out rfl).below hB2)
  have HGB : Hid (w.heap.size + 1 ≤ g ∨ ps = []) := Lib.hid (by
    rcases HOWN.out.2 with ⟨e, _⟩ | ⟨G, cap', cur, e, hb, _⟩
    · cases e
    · simp only [Value.slice.injEq, Option.some.injEq, Addr.mk.injEq] at e
      obtain ⟨⟨rfl, _⟩, _, rfl⟩ := e
      exact .inl (by simpa using hb))
  clear hzz hB2
  go_wp2_with fail
  refine bodyPost_ret (v := .agg #[.slice (some ⟨g, 0, none⟩) ps.length cap, .string ⟨t.text.toArray⟩]) (by simp [results, Tryz.results76, go_sem, r0, r1]) rfl ?_
  refine ⟨((below_step (below_step HB1.out HBB.out) HB2.out).setCell (by simp) _).setCell (by simp) _, g, _, by rw [← HPS.out], ?_, by rcases HGB.out with h | h; exact Nat.le_of_succ_le h; exact absurd HPL.out (by rw [h]; simp)⟩
  rw [← HPS.out]
  intro j hj
  obtain ⟨g', e, hc⟩ := HL.out j hj
  simp only [Option.some.injEq, Addr.mk.injEq] at e
  obtain ⟨rfl, _⟩ := e
  refine ⟨g, rfl, ?_⟩
  rcases HGB.out with h | h
  · rw [World.cell?_of_block (w := w2)]
    · exact hc
    · rw [Below.heap_setCell _ _ _ _ (by simp; omega), Below.heap_setCell _ _ _ _ (by simp; omega)]
  · subst h; simp at hj

theorem cell_new {w : World} {a : Addr} {v : Value} {o : Obj} (h : w.cell? a = some v) : (w.alloc o).cell? a = some v := keep1 ((Below.refl _ _).alloc (Nat.le_refl _) o) h

set_option maxRecDepth 100000 in
set_option maxHeartbeats 2000000 in
theorem compare_any (ps qs : List (List UInt8)) (n m : Nat) (hn : n = ps.length) (hm : m = qs.length) (s u : List UInt8) (a b : Option Addr) (ca cb : Nat) (w : World) (hn2 : n ≤ 1000000) (hm2 : m ≤ 1000000) (ha : Lies w a ps) (hb : Lies w b qs) :
    Calls Tryz.prog 80 #[.agg #[.slice a n ca, .string ⟨s.toArray⟩], .agg #[.slice b m cb, .string ⟨u.toArray⟩]] w (Ans (.int .i64 (ordCmp ps s qs u)) w) := by
  obtain ⟨z0, hz0⟩ : ∃ z0, z0 = cmpI n m := ⟨_, rfl⟩
  obtain ⟨z1, hz1⟩ : ∃ z1, z1 = rowCmp ps qs := ⟨_, rfl⟩
  obtain ⟨z2, hz2⟩ : ∃ z2, z2 = Lib.compareBytes s u := ⟨_, rfl⟩
  have H0 : Hid (∀ w, Calls Tryz.prog 91 #[.int .i64 (n : Int), .int .i64 (m : Int)] w fun e w' => e = .returned (.int .i64 z0) ∧ w = w') := Lib.hid (fun w => by rw [hz0]; exact (cmpInt_any _ _ w).mono (fun e w' h => ⟨h.1, h.2.symm⟩))
  have H2 : Hid (∀ w, Calls Tryz.prog 94 #[.string ⟨s.toArray⟩, .string ⟨u.toArray⟩] w fun e w' => e = .returned (.int .i64 z2) ∧ w = w') := Lib.hid (fun w => by rw [hz2]; exact (stringsCompare_any _ _ w).mono (fun e w' h => ⟨h.1, h.2.symm⟩))
  have hbA : Below w.heap.size w ((w.alloc (.cells #[.slice a n ca, .string ⟨s.toArray⟩] 115 (0, 0))).alloc (.cells #[.slice b m cb, .string ⟨u.toArray⟩] 115 (0, 0))).drew := (((Below.refl _ _).alloc (Nat.le_refl _) _).alloc (by simp) _).drew
  have H1 : Hid (Calls Tryz.prog 92 #[.slice a n ca, .slice b m cb, .func (.func 93) #[] #[]] ((w.alloc (.cells #[.slice a n ca, .string ⟨s.toArray⟩] 115 (0, 0))).alloc (.cells #[.slice b m cb, .string ⟨u.toArray⟩] 115 (0, 0))).drew
      (Ans (.int .i64 z1) ((w.alloc (.cells #[.slice a n ca, .string ⟨s.toArray⟩] 115 (0, 0))).alloc (.cells #[.slice b m cb, .string ⟨u.toArray⟩] 115 (0, 0))).drew)) := Lib.hid (by
    rw [hz1]; exact compareFunc_any ps qs n m hn hm a b ca cb _ hn2 hm2 (ha.below hbA) (hb.below hbA))
  have H3 := Lib.hid (fun (w' : World) => cmpOr_any [z0, z1, z2] 3 rfl w'.heap.size 3 (w'.alloc (.cells #[.int .i64 z0, .int .i64 z1, .int .i64 z2] 3)) (by omega) (Ints.new w' [z0, z1, z2]) |>.mono (R' := fun e w'' => e = .returned (.int .i64 (orI [z0, z1, z2])) ∧ (w'.alloc (.cells #[.int .i64 z0, .int .i64 z1, .int .i64 z2] 3)) = w'') (fun e w' h => ⟨h.1, h.2.symm⟩))
  have HV : Hid (ordCmp ps s qs u = orI [z0, z1, z2]) := Lib.hid (by rw [hz0, hz1, hz2, ordCmp, hn, hm])
  have HBA := Lib.hid hbA
  have hx0 : ((w.alloc (.cells #[.slice a n ca, .string ⟨s.toArray⟩] 115 (0, 0))).alloc (.cells #[.slice b m cb, .string ⟨u.toArray⟩] 115 (0, 0))).drew.heap[w.heap.size]? = some (.cells #[.slice a n ca, .string ⟨s.toArray⟩] 115 (0, 0)) := by
    show ((w.alloc (.cells #[.slice a n ca, .string ⟨s.toArray⟩] 115 (0, 0))).alloc (.cells #[.slice b m cb, .string ⟨u.toArray⟩] 115 (0, 0))).heap[w.heap.size]? = _
    rw [Below.heap_alloc _ _ _ (by simp)]; exact heap_alloc_new w _
  have hx1 : ((w.alloc (.cells #[.slice a n ca, .string ⟨s.toArray⟩] 115 (0, 0))).alloc (.cells #[.slice b m cb, .string ⟨u.toArray⟩] 115 (0, 0))).drew.heap[w.heap.size + 1]? = some (.cells #[.slice b m cb, .string ⟨u.toArray⟩] 115 (0, 0)) := by
    show ((w.alloc (.cells #[.slice a n ca, .string ⟨s.toArray⟩] 115 (0, 0))).alloc (.cells #[.slice b m cb, .string ⟨u.toArray⟩] 115 (0, 0))).heap[w.heap.size + 1]? = _
    have := heap_alloc_new (w.alloc (.cells #[.slice a n ca, .string ⟨s.toArray⟩] 115 (0, 0))) (.cells #[.slice b m cb, .string ⟨u.toArray⟩] 115 (0, 0))
    simpa using this
  obtain ⟨b0, b1, _, _⟩ := two_cells hx0
  obtain ⟨b2, b3, _, _⟩ := two_cells hx1
  clear hz0 hz1 hz2 hbA hx0 hx1 ha hb hn hm
  go_enter Tryz.func80, Tryz.ntmps80
  go_wp2_with fail
  go_region_held3 (fun w' => w'.cell? ⟨w.heap.size, 0, none⟩ = some (.slice a n ca) ∧ w'.cell? ⟨w.heap.size, 1, none⟩ = some (.string ⟨s.toArray⟩) ∧ w'.cell? ⟨w.heap.size + 1, 0, none⟩ = some (.slice b m cb) ∧ w'.cell? ⟨w.heap.size + 1, 1, none⟩ = some (.string ⟨u.toArray⟩))
    (first | exact ⟨b0, b1, b2, b3⟩ | exact ⟨d0, d1, d2, d3⟩ | exact ⟨cell_new d0, cell_new d1, cell_new d2, cell_new d3⟩)
    (first
    | (go_at_call 91; refine (H0.out _).mono ?_; rintro e w' ⟨rfl, rfl⟩)
    | (go_at_call 94; refine (H2.out _).mono ?_; rintro e w' ⟨rfl, rfl⟩)
    | (go_at_call 92; refine H1.out.mono ?_; rintro e w1 ⟨rfl, hB1⟩; have d0 := keep1 hB1 b0; have d1 := keep1 hB1 b1; have d2 := keep1 hB1 b2; have d3 := keep1 hB1 b3; have HB1 := Lib.hid hB1; clear hB1)
    | (go_at_call 90; refine (H3.out w1).mono ?_; rintro e w' ⟨rfl, rfl⟩))
  all_goals
    go_wp2_with fail
    go_ret
    exact ⟨by rw [HV.out]; rfl, (below_step HBA.out HB1.out).alloc (below_step HBA.out HB1.out).size _⟩

def orderOf (a b : List UInt8) : Option Int :=
  match parse a, parse b with
  | some t, some u => some (ordCmp (t.paths []) t.text (u.paths []) u.text)
  | _, _ => none

def orderV : Option Int → Value
  | none => .tuple #[.int .i64 0, .bool false]
  | some c => .tuple #[.int .i64 c, .bool true]

theorem orderOf_no {a b : List UInt8} (h : parse a = none) : orderOf a b = none := by simp [orderOf, h]
theorem orderOf_no2 {a b : List UInt8} (h : parse b = none) : orderOf a b = none := by
  cases ha : parse a <;> simp [orderOf, h, ha]
theorem orderOf_yes {a b : List UInt8} {t u : T} (ha : parse a = some t) (hb : parse b = some u) : orderOf a b = some (ordCmp (t.paths []) t.text (u.paths []) u.text) := by
  simp only [orderOf, ha, hb]

end Go.Proofs.YtoeebipahifpcaaGreat
end
