/- The program reads rules; RulesValid by the program. -/
import Derived.Test.YtflmdknienjlmaaRulM
import Derived.Test.YtflmdknienjlmaaTwoSums
import Derived.Test.YtflmdknienjlmaaKMirrorS
import Derived.Test.YtflmdknienjlmaaTermSS
namespace Go.Proofs.Ytflmdknienjlmaa
open Go.RowKit

set_option maxRecDepth 100000 in
set_option maxHeartbeats 1000000 in
theorem inverse_any (c : Nat) (w : World) (_h0 : 1 ≤ c) (h1 : c ≤ 100) :
    Calls Try.prog 143 #[.int .i64 c] w fun e w' => e = .returned (.int .i64 (inv101 c)) ∧ w = w' := by
  go_enter Try.func143, Try.ntmps143
  go_wp2_with fail
  go_loopw [3, 4] (fun x i wr => ∃ k : Nat, k ≤ 99 ∧ i = .int .i64 k ∧ x = .int .i64 ((c ^ k % 101 : Nat) : Int) ∧ w = wr) (fun _ i _ => 99 - (intOf i).toNat)
  case atStart => exact ⟨0, by omega, rfl, rfl, rfl⟩
  case round =>
    obtain ⟨k, hk, rfl, rfl, rfl⟩ := hrel
    obtain ⟨y, hy⟩ : ∃ y, y = c ^ k % 101 := ⟨_, rfl⟩
    have hy1 : y < 101 := by rw [hy]; exact Nat.mod_lt _ (by decide)
    rw [← hy]
    have HY := Lib.hid hy
    by_cases hlt : k < 99
    · have hm : y * c ≤ 100 * 100 := Nat.mul_le_mul (by omega) h1
      obtain ⟨z, hz⟩ : ∃ z, z = y * c := ⟨_, rfl⟩
      have ez : (y : Int) * (c : Int) = (z : Int) := by rw [hz]; simp
      have hw : IntKind.i64.wrap (z : Int) = (z : Int) := by rw [IntKind.wrap_i64]; omega
      have HE : Hid ((z : Int) % 101 = ((c ^ (k + 1) % 101 : Nat) : Int)) := Lib.hid (by
        have h5 : y * c % 101 = c ^ (k + 1) % 101 := by rw [hy, Nat.pow_succ, Nat.mod_mul_mod]
        rw [hz, ← h5]; omega)
      have HM := Lib.hid (fun W => modPrime_any (z : Int) W (by omega) (by omega))
      have e0 : decide ((k : Int) < 99) = true := decide_eq_true (by omega)
      clear hy hm hz
      go_wp2_with fail
      refine (HM.out _).mono ?_
      rintro e w1 ⟨rfl, rfl⟩
      go_wp2_with fail
      go_roundw
      case rel => exact ⟨k + 1, by omega, by go_num, by rw [HE.out], trivial⟩
      case measure => simp [intOf]; omega
    · have hkk : k = 99 := by omega
      have HI : Hid (y = inv101 c) := Lib.hid (by rw [HY.out, hkk]; rfl)
      clear hy
      go_wp2_with fail
      go_ret
      exact ⟨by first | rfl | (rw [HI.out]; rfl), rfl⟩

theorem two_put {w : World} {q : Nat} {a b : Value} {ty : TypeId} (h : w.heap[q]? = some (.cells #[a, b] ty (0, 0))) (x y : Value) :
    ((w.setCell ⟨q, 0, none⟩ x).setCell ⟨q, 1, none⟩ y).heap[q]? = some (.cells #[x, y] ty (0, 0)) := by
  have := heap_setCell_same (k := 1) (heap_setCell_same (k := 0) h x) y
  simpa using this

theorem two_put_alloc {w : World} {q : Nat} {a b : Value} {ty : TypeId} (h : w.heap[q]? = some (.cells #[a, b] ty (0, 0))) (x y : Value) (o : Obj) :
    (((w.setCell ⟨q, 0, none⟩ x).setCell ⟨q, 1, none⟩ y).alloc o).heap[q]? = some (.cells #[x, y] ty (0, 0)) := by
  rw [Below.heap_alloc _ _ _ (Array.getElem?_eq_some_iff.1 (two_put h x y)).1]
  exact two_put h x y

theorem put2_cell {w : World} {q : Nat} {p : Addr} {v : Value} (h : w.cell? p = some v) (hne : p.block ≠ q) (x y : Value) : ((w.setCell ⟨q, 0, none⟩ x).setCell ⟨q, 1, none⟩ y).cell? p = some v := by
  rw [World.cell?_of_block (w := w)]
  · exact h
  · rw [Below.heap_setCell _ _ _ _ hne, Below.heap_setCell _ _ _ _ hne]

/-- A rule as the program has it: the head's node, and the function that has caught the sum and the factor. -/
def RulI (w : World) (P : Nat → Prop) (r : Rl) (x y : Value) : Prop :=
  ∃ a bs bc g c, x = .pointer (some a) ∧ y = .func (.func 144) #[] #[.pointer (some ⟨bs, 0, none⟩), .pointer (some ⟨bc, 0, none⟩)] ∧ r.1.2.wf ∧ RepI w P r.1.2 106 a ∧
    P bs ∧ P bc ∧ P g ∧ w.cell? ⟨bs, 0, none⟩ = some (.func (.func 136) #[] #[]) ∧ w.cell? ⟨bs, 1, none⟩ = some (.slice (some ⟨g, 0, none⟩) (r.2.length + 1) c) ∧
    w.cell? ⟨bc, 0, none⟩ = some (.int .i64 (-(inv101 r.1.1.toNat : Int) % 101)) ∧ Rd tmI w P (some ⟨g, 0, none⟩) (r.1 :: r.2)

theorem RulI.keep {w w' : World} {P P' : Nat → Prop} {r : Rl} {x y : Value} (hk : Keeps P w w') (hp : ∀ g, P g → g < w.heap.size → P' g) (h : RulI w P r x y) : RulI w' P' r x y := by
  obtain ⟨a, bs, bc, g, c, rfl, rfl, hw, hr, h1, h2, h3, h4, h5, h6, h7⟩ := h
  obtain ⟨_, _, _, _, eg, _, hc, _⟩ := tmI.get h7 0 (by simp)
  cases eg
  exact ⟨a, bs, bc, g, c, rfl, rfl, hw, hr.keep hk hp hw, hp _ h1 (World.block_lt_of_cell? w _ h4), hp _ h2 (World.block_lt_of_cell? w _ h6), hp _ h3 (World.block_lt_of_cell? w _ hc), hk _ _ h1 h4, hk _ _ h1 h5, hk _ _ h2 h6, h7.keep (by decide) hk hp⟩

/-- .. in a row. -/
def rlI : Elt Rl where
  size := 2
  R w P r cs := ∃ x y, cs = [x, y] ∧ RulI w P r x y
  len := by rintro w P r cs ⟨x, y, rfl, _⟩; rfl
  one := by
    rintro w P r cs ⟨x, y, rfl, a, bs, bc, g, c, rfl, rfl, _⟩ u hu
    simp at hu
    rcases hu with rfl | rfl <;> rfl
  keep := by
    rintro w w' P P' r cs hk hp ⟨x, y, rfl, hr⟩
    exact ⟨x, y, rfl, hr.keep hk hp⟩

/-- What 'readRule' answers. -/
def RRule (xs : List (Int × ByteArray)) (w : World) (e : Ending) (w' : World) : Prop :=
  Below w.heap.size w w' ∧ ((ruleOf xs = none ∧ e = .returned (.tuple #[.agg #[.pointer none, .nilFunc], .bool false])) ∨
    ∃ r x y, ruleOf xs = some r ∧ e = .returned (.tuple #[.agg #[x, y], .bool true]) ∧ RulI w' (fun b => w.heap.size ≤ b) r x y)

set_option maxRecDepth 100000 in
set_option maxHeartbeats 2000000 in
theorem readRule_any (xs : List (Int × ByteArray)) (n : Nat) (hnx : n = xs.length) (g cap : Nat) (w : World) (hn : n ≤ 1048576) (hz : ∀ j (h : j < xs.length), (xs[j]).2.size ≤ 1048576) (hl : TermL w g xs) :
    Calls Try.prog 108 #[.slice (some ⟨g, 0, none⟩) n cap] w (RRule xs w) := by
  obtain ⟨w0, hw0⟩ : ∃ w0, w0 = w.alloc (.cells #[.pointer none, .nilFunc] 194 (0, 0)) := ⟨_, rfl⟩
  have hB0 : Below w.heap.size w w0 := by rw [hw0]; exact (Below.refl _ _).alloc (Nat.le_refl _) _
  have hsz : w0.heap.size = w.heap.size + 1 := by rw [hw0]; simp
  have hbx : w0.heap[w.heap.size]? = some (.cells #[.pointer none, .nilFunc] 194 (0, 0)) := by rw [hw0]; exact heap_alloc_new w _
  have hlw : w.heap.size < w0.heap.size := by omega
  have HS := Lib.hid (readSumN_any xs n hnx g cap w0 hn hz (hl.below hB0))
  have HW0 := Lib.hid hw0
  have HB0 := Lib.hid hB0
  have HBX := Lib.hid hbx
  have HSZ := Lib.hid hsz
  clear hnx hz hl hw0 hB0 hbx hsz
  go_enter Try.func108, Try.ntmps108
  go_wp2_with fail
  rw [← HW0.out]
  refine HS.out.mono ?_
  rintro e w1 ⟨hB1, ⟨hno, rfl⟩ | ⟨ps, gp, c, hyes, rfl, hrd⟩⟩
  · have HN := Lib.hid (ruleOf_no hno)
    have HB1 := Lib.hid hB1
    have hs1 := hB1.size
    have HG : Hid (w1.heap[w.heap.size]? = some (.cells #[.pointer none, .nilFunc] 194 (0, 0))) := Lib.hid ((hB1.block _ hlw).trans HBX.out)
    obtain ⟨r0, r1, f0, f1⟩ := two_cells HG.out
    have hl1 : w.heap.size < w1.heap.size := by omega
    clear hno hB1
    go_wp2_with fail
    obtain ⟨t0, t1, _, _⟩ := two_cells (two_put_alloc HG.out (.pointer none) .nilFunc (.cells #[.nilFunc, .slice none 0 0] 86 (0, 0)))
    refine bodyPost_ret (v := .tuple #[.agg #[.pointer none, .nilFunc], .bool false]) (by simp [results, Try.results108, go_sem, t0, t1]) rfl ?_
    exact ⟨(((below_step HB0.out HB1.out).setCell (p := ⟨w.heap.size, 0, none⟩) (by simp) _).setCell (p := ⟨w.heap.size, 1, none⟩) (by simp) _).alloc (by simp; omega) _, .inl ⟨HN.out, rfl⟩⟩
  · have HB1 := Lib.hid hB1
    have hs1 := hB1.size
    have HRD := Lib.hid hrd
    have HYES := Lib.hid hyes
    have HG : Hid (w1.heap[w.heap.size]? = some (.cells #[.pointer none, .nilFunc] 194 (0, 0))) := Lib.hid ((hB1.block _ hlw).trans HBX.out)
    obtain ⟨m, hm⟩ : ∃ m, m = ps.length := ⟨_, rfl⟩
    have HM := Lib.hid hm
    rw [← hm]
    obtain ⟨w2, hw2⟩ : ∃ w2, w2 = w1.alloc (.cells #[.func (.func 136) #[] #[], .slice (some ⟨gp, 0, none⟩) m c] 86 (0, 0)) := ⟨_, rfl⟩
    have hsz2 : w2.heap.size = w1.heap.size + 1 := by rw [hw2]; simp
    have hb2 : Below w1.heap.size w1 w2 := by rw [hw2]; exact (Below.refl _ _).alloc (Nat.le_refl _) _
    have hbx2 : w2.heap[w1.heap.size]? = some (.cells #[.func (.func 136) #[] #[], .slice (some ⟨gp, 0, none⟩) m c] 86 (0, 0)) := by rw [hw2]; exact heap_alloc_new w1 _
    have HW2 := Lib.hid hw2
    have HB2 := Lib.hid hb2
    have HBX2 := Lib.hid hbx2
    have HSZ2 := Lib.hid hsz2
    obtain ⟨a0, a1, _, _⟩ := two_cells hbx2
    have HZ := Lib.hid (isZero_any m gp c w2)
    clear hB1 hrd hyes hm hw2 hb2 hbx2 hsz2
    by_cases h0 : m = 0
    · rw [decide_eq_true h0] at HZ
      have HN : Hid (ruleOf xs = none) := Lib.hid (ruleOf_zero (by
        have e := HM.out
        rw [h0] at e
        have h := HYES.out
        rw [List.length_eq_zero_iff.1 e.symm] at h
        exact h))
      clear h0
      go_wp2_with fail
      rw [← HW2.out]
      refine HZ.out.mono ?_
      rintro e w3 ⟨rfl, hB3⟩
      have HB3 := Lib.hid (below_step HB2.out hB3)
      have hs3 := HB3.out.size
      have HG3 := Lib.hid ((HB3.out.block _ (by omega)).trans HG.out)
      obtain ⟨r0, r1, f0, f1⟩ := two_cells HG3.out
      have hl1 : w.heap.size < w3.heap.size := by omega
      clear hB3
      go_wp2_with fail
      obtain ⟨t0, t1, _, _⟩ := two_cells (two_put HG3.out (.pointer none) .nilFunc)
      refine bodyPost_ret (v := .tuple #[.agg #[.pointer none, .nilFunc], .bool false]) (by simp [results, Try.results108, go_sem, t0, t1]) rfl ?_
      exact ⟨((below_step HB0.out (below_step HB1.out HB3.out)).setCell (p := ⟨w.heap.size, 0, none⟩) (by simp) _).setCell (p := ⟨w.heap.size, 1, none⟩) (by simp) _, .inl ⟨HN.out, rfl⟩⟩
    · rw [decide_eq_false h0] at HZ
      cases ps with
      | nil => exact absurd HM.out (by simpa using h0)
      | cons p ps =>
        obtain ⟨g', x, y, z, eg, hglo, c0, c1, c2, c3, hwf, ty, ta, gw, wc, rfl, rfl, rfl, hrep, _⟩ := tmI.get HRD.out 0 (by simp)
        cases eg
        have hB1lo := Lib.hid (And.intro hglo trivial)
        simp only [List.getElem_cons_zero, Nat.zero_mul, Nat.zero_add] at c0 c1 c2 c3 hwf hrep
        have hpos : 0 < m := by omega
        have hcf := (sum_trees HYES.out).2.1 p (by simp)
        obtain ⟨x, hx⟩ : ∃ x : Nat, (x : Int) = p.1 := ⟨p.1.toNat, by omega⟩
        rw [← hx] at c0
        have hx1 : 1 ≤ x ∧ x ≤ 100 := by omega
        have HX := Lib.hid hx
        have HREP := Lib.hid hrep
        have HWF := Lib.hid hwf
        obtain ⟨ts, hT0⟩ : ∃ ts : ByteArray, ts = ⟨p.2.text.toArray⟩ := ⟨_, rfl⟩
        rw [← hT0] at c3
        obtain ⟨pl, hpl⟩ : ∃ pl, pl = (p.2.paths []).length := ⟨_, rfl⟩
        rw [← hpl] at c2
        clear hcf hx hrep h0 hT0 hpl hwf
        go_wp2_with fail
        rw [← HW2.out]
        refine HZ.out.mono ?_
        rintro e w3 ⟨rfl, hB3⟩
        have hs2 := HSZ2.out
        have hs3 := hB3.size
        have b0 := keep1 hB3 a0
        have b1 := keep1 hB3 a1
        have HB3 := Lib.hid (below_step HB2.out hB3)
        have d0 := keep1 HB3.out c0
        have d1 := keep1 HB3.out c1
        have d2 := keep1 HB3.out c2
        have d3 := keep1 HB3.out c3
        have HG3 := Lib.hid ((HB3.out.block _ (by omega)).trans HG.out)
        obtain ⟨r0, r1, f0, f1⟩ := two_cells HG3.out
        have hl3 : w.heap.size < w3.heap.size := by omega
        have hl4 : gp < w3.heap.size := World.block_lt_of_cell? w3 ⟨gp, 0, none⟩ d0
        obtain ⟨w4, hw4⟩ : ∃ w4, w4 = w3.alloc (.cells #[.int .i64 x, .iface ty (.pointer (some ta)), .slice (some ⟨gw, 0, none⟩) pl wc, .string ts] 169 (0, 0)) := ⟨_, rfl⟩
        clear c0 c1 c2 c3 hB3
        cases hp : p.2 with
        | leaf =>
          have HN := Lib.hid (ruleOf_leaf HYES.out hp)
          have hty := HREP.out
          rw [hp, RepI] at hty
          subst hty
          have hta := fun v w => assert_leaf v w
          clear hp
          go_wp2_with fail
          obtain ⟨t0, t1, _, _⟩ := two_cells (two_put_alloc HG3.out (.pointer none) .nilFunc (.cells #[.int .i64 x, .iface 233 (.pointer (some ta)), .slice (some ⟨gw, 0, none⟩) pl wc, .string ts] 169 (0, 0)))
          refine bodyPost_ret (v := .tuple #[.agg #[.pointer none, .nilFunc], .bool false]) (by simp [results, Try.results108, go_sem, t0, t1]) rfl ?_
          exact ⟨(((below_step HB0.out (below_step HB1.out HB3.out)).setCell (p := ⟨w.heap.size, 0, none⟩) (by simp) _).setCell (p := ⟨w.heap.size, 1, none⟩) (by simp) _).alloc (by simp; omega) _, .inl ⟨HN.out, rfl⟩⟩
        | node ch ks =>
          have HN := Lib.hid (ruleOf_yes HYES.out hp)
          have hty := HREP.out
          rw [hp, RepI] at hty
          obtain ⟨rfl, _⟩ := hty
          have hta := fun v w => assert_node v w
          have HIV := Lib.hid (fun W => inverse_any x W hx1.1 hx1.2)
          have hi1 := inv101_lt x
          obtain ⟨iv, hiv⟩ : ∃ iv, iv = inv101 x := ⟨_, rfl⟩
          rw [← hiv] at HIV hi1
          have hwr : IntKind.i64.wrap (-(iv : Int)) = -(iv : Int) := by rw [IntKind.wrap_i64]; omega
          have HMP := Lib.hid (fun W => modPrime_any (-(iv : Int)) W (by omega) (by omega))
          obtain ⟨sc, hsc⟩ : ∃ sc : Int, sc = -(iv : Int) % 101 := ⟨_, rfl⟩
          rw [← hsc] at HMP
          have HIVX := Lib.hid hiv
          have HSC := Lib.hid hsc
          clear hp hiv hsc
          go_wp2_with fail
          refine (HIV.out _).mono ?_
          rintro e w5 ⟨rfl, rfl⟩
          go_wp2_with fail
          refine (HMP.out _).mono ?_
          rintro e w6 ⟨rfl, rfl⟩
          go_wp2_with fail
          obtain ⟨fv, hfv⟩ : ∃ fv : Value, fv = .func (.func 144) #[] #[.pointer (some ⟨w1.heap.size, 0, none⟩), .pointer (some ⟨w3.heap.size + 1, 0, none⟩)] := ⟨_, rfl⟩
          rw [← hfv]
          obtain ⟨wp, hwp⟩ : ∃ wp, wp = (w3.setCell ⟨w.heap.size, 0, none⟩ (.pointer (some ta))).setCell ⟨w.heap.size, 1, none⟩ fv := ⟨_, rfl⟩
          have hgp : wp.heap[w.heap.size]? = some (.cells #[.pointer (some ta), fv] 194 (0, 0)) := by rw [hwp]; exact two_put HG3.out _ _
          have hsp : wp.heap.size = w3.heap.size := by rw [hwp]; simp
          have hkp : ∀ (q : Addr) (v : Value), q.block ≠ w.heap.size → w3.cell? q = some v → wp.cell? q = some v := fun q v hq hv => by rw [hwp]; exact put2_cell hv hq _ _
          have hbp : Below w.heap.size w wp := by rw [hwp]; exact ((below_step HB0.out (below_step HB1.out HB3.out)).setCell (p := ⟨w.heap.size, 0, none⟩) (by simp) _).setCell (p := ⟨w.heap.size, 1, none⟩) (by simp) _
          rw [← hwp]
          clear hwp
          obtain ⟨wq, hwq⟩ : ∃ wq, wq = wp.alloc (.cells #[.int .i64 x, .iface 106 (.pointer (some ta)), .slice (some ⟨gw, 0, none⟩) pl wc, .string ts] 169 (0, 0)) := ⟨_, rfl⟩
          have hbq : Below wp.heap.size wp wq := by rw [hwq]; exact (Below.refl _ _).alloc (Nat.le_refl _) _
          have hsq : wq.heap.size = w3.heap.size + 1 := by rw [hwq]; simp [hsp]
          rw [← hwq]
          clear hwq
          obtain ⟨wr, hwr2⟩ : ∃ wr, wr = wq.alloc (.cells #[.int .i64 sc] 3 (0, 0)) := ⟨_, rfl⟩
          have hbr : Below wp.heap.size wp wr := by rw [hwr2]; exact hbq.alloc hbq.size _
          have hcr : wr.cell? ⟨w3.heap.size + 1, 0, none⟩ = some (.int .i64 sc) := by
            rw [hwr2, ← hsq, Lib.cell_of_heap (heap_alloc_new wq _)]; rfl
          rw [← hwr2]
          clear hwr2
          obtain ⟨t0, t1, _, _⟩ := two_cells ((hbr.block _ (by omega)).trans hgp)
          have hk : Keeps (fun b => w0.heap.size ≤ b) w3 wr := fun q v hq hv => keep1 hbr (hkp q v (by have := HSZ.out; omega) hv)
          have hws := HSZ.out
          refine bodyPost_ret (v := .tuple #[.agg #[.pointer (some ta), fv], .bool true]) (by simp [results, Try.results108, go_sem, t0, t1]) rfl ?_
          refine ⟨below_step hbp hbr, .inr ⟨(p, ps), .pointer (some ta), fv, HN.out, rfl, ta, w1.heap.size, w3.heap.size + 1, gp, c, rfl, hfv, HWF.out, ?_, by omega, by omega, ?_, keep1 hbr (hkp _ _ (by simp; omega) b0), ?_, ?_, ?_⟩⟩
          · exact (HREP.out.below HWF.out HB3.out).keep hk (fun b h _ => by omega) HWF.out
          · have := (hB1lo.out).1; omega
          · have := keep1 hbr (hkp _ _ (by simp; omega) b1)
            rw [this, HM.out]; rfl
          · rw [hcr, HSC.out, HIVX.out, ← HX.out]; rfl
          · exact (HRD.out.below (by decide) HB3.out).keep (by decide) hk (fun b h _ => by omega)

/-- What 'readRules' answers. -/
def RRules (xss : List (List (Int × ByteArray))) (w : World) (e : Ending) (w' : World) : Prop :=
  Below w.heap.size w w' ∧ ((rulesOf xss = none ∧ e = .returned (.tuple #[.slice none 0 0, .iface 191 (.int .i64 0)])) ∨
    ∃ rs g c, rulesOf xss = some rs ∧ e = .returned (.tuple #[.slice (some ⟨g, 0, none⟩) rs.length c, .nilIface]) ∧ Rd rlI w' (fun b => w.heap.size ≤ b) (some ⟨g, 0, none⟩) rs)

theorem infoRl : (Try.prog.info? 194).map (fun i => (i.zero, i.size, i.bytes)) = some (some (.agg #[.pointer none, .nilFunc]), 2, 16) := by kernel_rfl

set_option maxRecDepth 100000 in
set_option maxHeartbeats 2000000 in
theorem readRules_any (xss : List (List (Int × ByteArray))) (n : Nat) (hnx : n = xss.length) (g cap : Nat) (w : World) (hn : n ≤ 1048576) (hz : ∀ j (h : j < xss.length), Small1 xss[j]) (hl : TermsL w g xss) :
    Calls Try.prog 67 #[.slice (some ⟨g, 0, none⟩) n cap] w (RRules xss w) := by
  have HL := Lib.hid hl
  have HZ := Lib.hid hz
  have HNN := Lib.hid hnx
  clear hl hz hnx
  obtain ⟨i0, hi0, hzz, hzs, hzb⟩ := info_parts infoRl
  by_cases h60 : n ≤ 10
  · have HT : Hid (rulesOf xss = rlAll xss) := Lib.hid (by rw [rulesOf, if_neg (by have := HNN.out; omega)])
    go_enter Try.func67, Try.ntmps67
    go_wp2_with fail
    go_loopw [4, 16] (fun ov iv wr => ∃ (rs : List Rl) (k : Nat) (va : Option Addr) (vc : Nat) (vs : List Value), k = rs.length ∧ k ≤ n ∧ va ≠ none ∧ iv = .int .i64 k ∧ ov = .slice va k vc ∧ rlAll (xss.take k) = some rs ∧ Row (rlI.inn (fun b => w.heap.size ≤ b)) 194 w.heap.size rs (.slice va k vc) vs wr ∧ Below w.heap.size w wr) (fun _ iv _ => n - (intOf iv).toNat)
    case atStart =>
      refine ⟨[], 0, some ⟨w.heap.size, 0, none⟩, 0, [], rfl, Nat.zero_le _, by simp, rfl, rfl, rfl, ?_, (Below.refl _ _).alloc (Nat.le_refl _) _⟩
      exact ⟨World.ownsRow_made w #[] 0 (Nat.le_refl _) (by simp [maxLen]) rfl, fun _ h => by simp at h⟩
    case round =>
      obtain ⟨rs, k, va, vc, vs, hkp, hk, hva, rfl, rfl, hrd, hrow, hB⟩ := hrel
      have HKP := Lib.hid hkp
      have HVA := Lib.hid hva
      have HRD := Lib.hid hrd
      have HROW := Lib.hid hrow
      have HB := Lib.hid hB
      have hszr : w.heap.size ≤ wr.heap.size := hB.size
      by_cases hlt : k < n
      · have hltx : k < xss.length := by rw [← HNN.out]; exact hlt
        obtain ⟨g1, c1, c0, htl⟩ := (HL.out.below hB) k hltx
        have hsm := HZ.out k hltx
        obtain ⟨m, hm⟩ : ∃ m, m = (xss[k]).length := ⟨_, rfl⟩
        rw [← hm] at c0
        have HP := Lib.hid (readRule_any (xss[k]) m hm g1 c1 wr (by rw [hm]; exact hsm.1) hsm.2 htl)
        clear hkp hva hrd hrow hB hm hsm htl
        go_wp2_with fail
        refine HP.out.mono ?_
        rintro e w1 ⟨hB1, ⟨hno, rfl⟩ | ⟨r, x, y, hyes, rfl, hrep⟩⟩
        · have HN : Hid (rulesOf xss = none) := Lib.hid (by rw [HT.out]; exact rl_bad hltx hno)
          have HBB := Lib.hid (below_step HB.out hB1)
          clear hno hB1
          go_wp2_with fail
          go_ret2
          exact ⟨HBB.out.alloc HBB.out.size _, .inl ⟨HN.out, rfl⟩⟩
        · have HTK : Hid (rlAll (xss.take (k + 1)) = some (rs ++ [r])) := Lib.hid (rl_good hltx HRD.out hyes)
          have HREP := Lib.hid hrep
          obtain ⟨ra, rb, rc, _, _, rfl, rfl, _⟩ := hrep
          have HB1 := Lib.hid hB1
          have OWN := owns_below HROW.out.own hB1
          rw [← HKP.out] at OWN
          have HOWN := Lib.hid OWN
          have HOA := Lib.hid (World.ownsRow.alloc (World.ownsRow.alloc OWN (.cells #[.pointer (some ra), .func (.func 144) #[] #[.pointer (some ⟨rb, 0, none⟩), .pointer (some ⟨rc, 0, none⟩)]] 194 (0, 0))) (.cells #[.pointer (some ra), .func (.func 144) #[] #[.pointer (some ⟨rb, 0, none⟩), .pointer (some ⟨rc, 0, none⟩)]] 194 (0, 0)))
          have hs1 := hB1.size
          clear OWN hB1 hyes
          go_wp2_with (at_builtin; refine wpList_append_own_at _ rfl _ _ 113 rfl w.heap.size 194 i0 (.agg #[.pointer none, .nilFunc]) 2 16 Try.underlying113 hi0 hzz hzs hzb rfl (by decide) (.slice va k vc) k vs rfl HOA.out ⟨w1.heap.size + 1, 0, none⟩ 1 1 [.pointer (some ra), .func (.func 144) #[] #[.pointer (some ⟨rb, 0, none⟩), .pointer (some ⟨rc, 0, none⟩)]] rfl rfl (cells_two (by simp) _ _) (by simp [Value.oneCell']) (by unfold maxLen; omega) (by omega) (by simp; omega) ?_; intro v3 w6 hown3 hg3 hnil3 hat3)
          obtain ⟨g3, q3, rfl, _, _, _⟩ := owns_some hown3 (fun e => by have := hnil3.1 e; simp at this)
          have NX : Row (rlI.inn (fun b => w.heap.size ≤ b)) 194 w.heap.size (rs ++ [r]) (.slice (some ⟨g3, 0, none⟩) (k + 1) q3) (vs ++ [.pointer (some ra), .func (.func 144) #[] #[.pointer (some ⟨rb, 0, none⟩), .pointer (some ⟨rc, 0, none⟩)]]) w6 := by
            have h := HROW.out.next (a := r) (g := g3) (cap := q3) (w1 := w1) (w1' := (w1.alloc (.cells #[.pointer (some ra), .func (.func 144) #[] #[.pointer (some ⟨rb, 0, none⟩), .pointer (some ⟨rc, 0, none⟩)]] 194 (0, 0))).alloc (.cells #[.pointer (some ra), .func (.func 144) #[] #[.pointer (some ⟨rb, 0, none⟩), .pointer (some ⟨rc, 0, none⟩)]] 194 (0, 0))) HB1.out ⟨_, _, rfl, HREP.out.keep (fun _ _ _ h => h) (fun b hb _ => ⟨fun e => by
              have h1 := (HROW.out.own.lt b e).2
              omega, by omega⟩)⟩ (((Below.refl _ _).alloc (Nat.le_refl _) _).alloc (by simp) _) (by rw [← HKP.out]; exact hown3) hg3 (by
              rcases hat3 with h | h
              · left; rw [← h]; rfl
              · right; simp [Value.ownBlock] at h; omega)
            rw [← HKP.out] at h
            exact h
          have HNX := Lib.hid NX
          have BB := Lib.hid ((((below_step HB.out HB1.out).alloc (by omega) (.cells #[.pointer (some ra), .func (.func 144) #[] #[.pointer (some ⟨rb, 0, none⟩), .pointer (some ⟨rc, 0, none⟩)]] 194 (0, 0))).alloc (by simp; omega) (.cells #[.pointer (some ra), .func (.func 144) #[] #[.pointer (some ⟨rb, 0, none⟩), .pointer (some ⟨rc, 0, none⟩)]] 194 (0, 0))).grown hg3 (by simp; omega) (fun q e => by have := (HOWN.out.lt q e).1; omega))
          clear NX hown3 hg3 hnil3 hat3
          exact ⟨⟨rs ++ [r], k + 1, some ⟨g3, 0, none⟩, q3, _, by rw [List.length_append]; have := HKP.out; simp; omega, by omega, by simp, by go_num, rfl, HTK.out, HNX.out, BB.out⟩, by simp [intOf]; omega⟩
      · have hkn : k = n := by omega
        have HR : Hid (rulesOf xss = some rs) := Lib.hid (by
          have := HRD.out
          rw [hkn, HNN.out, List.take_length] at this
          rw [HT.out, this])
        obtain ⟨gv, rfl, _⟩ := owns_addr HROW.out.own HVA.out
        have HRR := Lib.hid (HROW.out.rd.inn (fun g e h0 => HROW.out.rd_from g e h0))
        clear hkp hva hrd hrow
        go_wp2_with fail
        go_ret2
        exact ⟨HB.out, .inr ⟨rs, gv, vc, HR.out, by rw [← HKP.out]; rfl, HRR.out⟩⟩
  · have HT : Hid (rulesOf xss = none) := Lib.hid (by rw [rulesOf, if_pos (by have := HNN.out; omega)])
    go_enter Try.func67, Try.ntmps67
    go_wp2_with fail
    go_ret2
    exact ⟨Below.refl _ _, .inl ⟨HT.out, rfl⟩⟩

set_option maxRecDepth 100000 in
theorem iRulesValid_any (xss : List (List (Int × ByteArray))) (n : Nat) (hnx : n = xss.length) (g cap : Nat) (w : World) (hn : n ≤ 1048576) (hz : ∀ j (h : j < xss.length), Small1 xss[j]) (hl : TermsL w g xss) :
    Calls Try.prog 28 #[.slice (some ⟨g, 0, none⟩) n cap] w (Ans (.bool (rulesOf xss).isSome) w) := by
  have HR := Lib.hid (readRules_any xss n hnx g cap w hn hz hl)
  clear hnx hz hl
  go_enter Try.func28, Try.ntmps28
  go_wp2_with fail
  refine HR.out.mono ?_
  rintro e w1 ⟨hB1, ⟨hno, rfl⟩ | ⟨rs, g1, c1, hyes, rfl, hrd⟩⟩
  · go_wp2_with fail
    go_ret
    exact ⟨by rw [hno]; rfl, hB1⟩
  · clear hrd
    go_wp2_with fail
    go_ret
    exact ⟨by rw [hyes]; rfl, hB1⟩

end Go.Proofs.Ytflmdknienjlmaa
