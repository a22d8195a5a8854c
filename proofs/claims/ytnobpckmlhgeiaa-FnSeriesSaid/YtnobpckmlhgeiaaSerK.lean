/- Series by the program: multiplied, added. -/
import Derived.Test.YtnobpckmlhgeiaaSerJ
import Derived.Laws.OwnMore
import Derived.Laws.MakeOwn
namespace Go.Proofs.Ytnobpckmlhgeiaa
open Go.RowKit

theorem madeNum_get {n j : Nat} (hj : j < n) : (madeCells #[Value.int .i64 0] n)[j]? = some (.int .i64 0) := by
  rw [← Array.getElem?_toList, toList_madeCells_one]
  simp [hj]

theorem serMul_step (s o : Nat → Int) (i k : Nat) : serSum (fun t => s t * o (i - t)) (k + 1) = serSum (fun t => s t * o (i - t)) k + s k * o (i - k) := rfl

set_option maxRecDepth 100000 in
set_option maxHeartbeats 1000000 in
theorem serProd_any (n : Nat) (s o : Nat → Int) (a b : Option Addr) (ca cb : Nat) (w : World) (hn2 : n ≤ 8) (hs : ∀ j, j < n → -1000000000000 ≤ s j ∧ s j ≤ 1000000000000) (ho : ∀ j, j < n → -1000000 ≤ o j ∧ o j ≤ 1000000) (hl : NumO w a n s) (hk : NumO w b n o) :
    Calls Try.prog 42 #[.slice a n ca, .slice b n cb] w (NumNew n (serMul s o) w) := by
  obtain ⟨i0, hi0, hz, hzs, hzb⟩ := info_parts infoNum
  have HS := Lib.hid hs
  have HO := Lib.hid ho
  have HL := Lib.hid hl
  have HK := Lib.hid hk
  have HBD : Hid (∀ i k, i < n → k ≤ i → -1000000000000000000 ≤ s k * o (i - k) ∧ s k * o (i - k) ≤ 1000000000000000000) := Lib.hid (fun i k hi hk => by
    have := ser_mul_bound (HS.out k (by omega)) (HO.out (i - k) (by omega))
    omega)
  have HSM : Hid (∀ i k, i < n → k ≤ i + 1 → -8000000000000000000 ≤ serSum (fun t => s t * o (i - t)) k ∧ serSum (fun t => s t * o (i - t)) k ≤ 8000000000000000000) := Lib.hid (fun i k hi hk => by
    have := serSum_bound (f := fun t => s t * o (i - t)) (n := k) (m := 1000000000000000000) (fun j hj => HBD.out i j hi (by omega))
    omega)
  clear hs ho hl hk
  go_enter Try.func42, Try.ntmps42
  go_wp2_with (at_make; refine wpList_make_full _ rfl _ _ 36 rfl w.heap.size 3 i0 (.int .i64 0) 1 Try.underlying36 hi0 hz hzs .i64 .i64 _ _ n rfl rfl rfl rfl ?c1 ?c2 (Nat.le_refl _) ?_)
  case c1 => rw [hzb]; omega
  case c2 => unfold maxLen; omega
  intro w1 hown hg
  have hr0 : NumR w1 w.heap.size n (fun _ => 0) := (NumR.of_owns hown (f := fun _ => 0) (fun j hj => by simpa using madeNum_get hj)).1
  have hB1 : Below w.heap.size w w1 := (Below.refl _ _).grown hg (by omega) (fun k e => by cases e)
  have HR0 := Lib.hid hr0
  have HB1 := Lib.hid hB1
  clear hr0 hown hg hB1
  go_wp2_with fail
  go_loopw [13] (fun iv wr => ∃ i : Nat, i ≤ n ∧ iv = .int .i64 i ∧ NumR wr w.heap.size n (fun j => if j < i then serMul s o j else 0) ∧ Below w.heap.size w wr) (fun iv _ => n - (intOf iv).toNat)
  case atStart => exact ⟨0, Nat.zero_le _, rfl, HR0.out.congr (fun j hj => by rw [if_neg (by omega)]), HB1.out⟩
  case round =>
    obtain ⟨i, hi, rfl, hr, hB⟩ := hrel
    have HR := Lib.hid hr
    have HB := Lib.hid hB
    clear hr hB
    by_cases hlt : i < n
    · go_wp2_with fail
      go_loopw [18] (fun kv wq => ∃ k : Nat, k ≤ i + 1 ∧ kv = .int .i64 k ∧ NumR wq w.heap.size n (fun j => if j = i then serSum (fun t => s t * o (i - t)) k else if j < i then serMul s o j else 0) ∧ Below w.heap.size w wq) (fun kv _ => i + 1 - (intOf kv).toNat)
      case atStart => exact ⟨0, Nat.zero_le _, rfl, HR.out.congr (fun j hj => by
        by_cases e : j = i
        · subst e; rw [if_neg (Nat.lt_irrefl _), if_pos rfl]; rfl
        · rw [if_neg e]), HB.out⟩
      case round =>
        obtain ⟨k, hk, rfl, hr2, hB2⟩ := hrel
        have HR2 := Lib.hid hr2
        have HB2 := Lib.hid hB2
        clear hr2
        by_cases hlt2 : k ≤ i
        · have c0 := HR2.out.cell hlt
          rw [if_pos rfl] at c0
          have f0 := HR2.out.frozen i
          obtain ⟨ba, oa, ea, c1⟩ := HL.out.below HB2.out k (by omega)
          obtain ⟨bb, ob, eb, c2⟩ := HK.out.below HB2.out (i - k) (by omega)
          subst ea eb
          have hp := HBD.out i k hlt hlt2
          have hx := HSM.out i k hlt (by omega)
          have hx2 := HSM.out i (k + 1) hlt (by omega)
          rw [serMul_step] at hx2
          obtain ⟨x, hxe⟩ : ∃ x, x = serSum (fun t => s t * o (i - t)) k := ⟨_, rfl⟩
          obtain ⟨y, hye⟩ : ∃ y, y = s k := ⟨_, rfl⟩
          obtain ⟨z, hze⟩ : ∃ z, z = o (i - k) := ⟨_, rfl⟩
          have HXE : Hid (serSum (fun t => s t * o (i - t)) (k + 1) = x + y * z) := Lib.hid (by rw [serMul_step, hxe, hye, hze])
          rw [← hxe] at c0 hx hx2
          rw [← hye] at c1 hp hx2
          rw [← hze] at c2 hp hx2
          have hw1 : IntKind.i64.wrap ((i : Int) - (k : Int)) = ((i - k : Nat) : Int) := by rw [IntKind.wrap_i64]; omega
          have hw2 : IntKind.i64.wrap (y * z) = y * z := by rw [IntKind.wrap_i64]; omega
          have hw3 : IntKind.i64.wrap (x + y * z) = x + y * z := by rw [IntKind.wrap_i64]; omega
          have H3 := Lib.hid (HR2.out.put (k := i) (x + y * z))
          have H4 := Lib.hid ((HB2.out).setCell (p := ⟨w.heap.size, i, none⟩) (by simp) (.int .i64 (x + y * z)))
          have hgl := HR2.out.lt
          have hi0' : (0 : Int) ≤ i := by omega
          have hk0' : (0 : Int) ≤ k := by omega
          have hd0 : (0 : Int) ≤ ((i - k : Nat) : Int) := by omega
          have hd1 : ((i - k : Nat) : Int) < n := by omega
          clear hxe hye hze hB2 hp hx hx2
          go_wp2_with fail
          go_region
          go_wp2_with fail
          exact ⟨⟨k + 1, by omega, by go_num, H3.out.congr (fun j hj => by
            by_cases e : j = i
            · rw [if_pos e, if_pos e, HXE.out]
            · rw [if_neg e, if_neg e, if_neg e]), below_drewN H4.out _⟩, by simp [intOf]; omega⟩
        · have hki : k = i + 1 := by omega
          have HRN : Hid (NumR wr w.heap.size n (fun j => if j < i + 1 then serMul s o j else 0)) := Lib.hid (HR2.out.congr (fun j hj => by
            by_cases e : j = i
            · subst e; rw [if_pos rfl, if_pos (by omega), hki]; rfl
            · rw [if_neg e]
              by_cases h2 : j < i
              · rw [if_pos h2, if_pos (by omega)]
              · rw [if_neg h2, if_neg (by omega)]))
          clear hki
          go_wp2_with fail
          exact ⟨⟨i + 1, by omega, by go_num, HRN.out, HB2.out⟩, by simp [intOf]; omega⟩
    · go_wp2_with fail
      go_ret
      exact ⟨HB.out, w.heap.size, n, rfl, Nat.le_refl _, Nat.le_refl _, HR.out.congr (fun j hj => by rw [if_pos (by omega)])⟩


set_option maxRecDepth 100000 in
set_option maxHeartbeats 1000000 in
theorem serPlus_any (n : Nat) (s o : Nat → Int) (t : Int) (a b : Option Addr) (ca cb : Nat) (w : World) (hn : 0 < n) (hn2 : n ≤ 8) (ht : -1000000 ≤ t ∧ t ≤ 1000000) (hs : ∀ j, j < n → -1000000000000 ≤ s j ∧ s j ≤ 1000000000000) (ho : ∀ j, j < n → -1000000000000 ≤ o j ∧ o j ≤ 1000000000000) (hl : NumO w a n s) (hk : NumO w b n o) :
    Calls Try.prog 57 #[.slice a n ca, .slice b n cb, .int .i64 t] w (NumNew n (fun j => s j + t * o j) w) := by
  have HC := Lib.hid (cloneSer_any n s a ca w hn (by omega) hl)
  have HS := Lib.hid hs
  have HO := Lib.hid ho
  have HK := Lib.hid hk
  clear hl hs ho hk
  go_enter Try.func57, Try.ntmps57
  go_wp2_with fail
  refine HC.out.mono ?_
  rintro e w1 ⟨hB1, g, c, rfl, hg, hcc, hr⟩
  have HB1 := Lib.hid hB1
  have HR := Lib.hid hr
  clear hB1 hr
  go_wp2_with fail
  go_loopw [14] (fun iv wr => ∃ k : Nat, k ≤ n ∧ iv = .int .i64 k ∧ NumR wr g n (fun j => if j < k then s j + t * o j else s j) ∧ Below w.heap.size w wr) (fun iv _ => n - (intOf iv).toNat)
  case atStart => exact ⟨0, Nat.zero_le _, rfl, HR.out.congr (fun j hj => by rw [if_neg (by omega)]), HB1.out⟩
  case round =>
    obtain ⟨k, hk, rfl, hr, hB⟩ := hrel
    have HR := Lib.hid hr
    clear hr
    by_cases hlt : k < n
    · have c0 := HR.out.cell hlt
      rw [if_neg (Nat.lt_irrefl _)] at c0
      have f0 := HR.out.frozen k
      obtain ⟨bb, ob, eb, c1⟩ := HK.out.below hB k hlt
      subst eb
      have hx := HS.out k hlt
      have hy := HO.out k hlt
      obtain ⟨x, hxe⟩ : ∃ x, x = s k := ⟨_, rfl⟩
      obtain ⟨y, hye⟩ : ∃ y, y = o k := ⟨_, rfl⟩
      have HE : Hid (s k + t * o k = x + t * y) := Lib.hid (by rw [hxe, hye])
      rw [← hxe] at c0 hx
      rw [← hye] at c1 hy
      have hp := ser_mul_bound (a := t) (b := y) (A := 1000000) (B := 1000000000000) (by omega) (by omega)
      have hw2 : IntKind.i64.wrap (t * y) = t * y := by rw [IntKind.wrap_i64]; omega
      have hw3 : IntKind.i64.wrap (x + t * y) = x + t * y := by rw [IntKind.wrap_i64]; omega
      have H3 := Lib.hid (HR.out.put (k := k) (x + t * y))
      have H4 := Lib.hid (hB.setCell (p := ⟨g, k, none⟩) (by simpa using hg) (.int .i64 (x + t * y)))
      have hgl := HR.out.lt
      clear hxe hye hp hx hy
      go_wp2_with fail
      refine ⟨⟨k + 1, by omega, by go_num, H3.out.congr (fun j hj => ?_), H4.out⟩, by simp [intOf]; omega⟩
      by_cases e : j = k
      · subst e; rw [if_pos rfl, if_pos (by omega), HE.out]
      · rw [if_neg e]
        by_cases h2 : j < k
        · rw [if_pos h2, if_pos (by omega)]
        · rw [if_neg h2, if_neg (by omega)]
    · go_wp2_with fail
      go_ret
      exact ⟨hB, g, c, rfl, hg, hcc, HR.out.congr (fun j hj => by rw [if_pos (by omega)])⟩

end Go.Proofs.Ytnobpckmlhgeiaa
