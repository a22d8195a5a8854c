/- The order of trees by the model. -/
import Derived.Test.YtoeebipahifpcaaGreatKOrdI
namespace Go.Proofs.YtoeebipahifpcaaGreat
open Go.RowKit

theorem less_iff : ∀ (a b : List UInt8), Op.bytesLess a b = decide (Lib.compareBytes a b = -1)
  | [], [] => by simp [Op.bytesLess, Lib.compareBytes]
  | [], _ :: _ => by simp [Op.bytesLess, Lib.compareBytes]
  | _ :: _, [] => by simp [Op.bytesLess, Lib.compareBytes]
  | a :: r, b :: q => by
    have ih := less_iff r q
    simp only [Op.bytesLess, Lib.compareBytes]
    by_cases h : a < b
    · simp [h]
    · by_cases h2 : b < a
      · have hne : ¬ a = b := fun e => by subst e; exact h h2
        simp [h, h2, hne]
      · have he : a = b := UInt8.le_antisymm (UInt8.not_lt.1 h2) (UInt8.not_lt.1 h)
        subst he
        simp [h, ih]

theorem less_iff2 : ∀ (a b : List UInt8), Op.bytesLess b a = decide (Lib.compareBytes a b = 1)
  | [], [] => by simp [Op.bytesLess, Lib.compareBytes]
  | [], _ :: _ => by simp [Op.bytesLess, Lib.compareBytes]
  | _ :: _, [] => by simp [Op.bytesLess, Lib.compareBytes]
  | a :: r, b :: q => by
    have ih := less_iff2 r q
    simp only [Op.bytesLess, Lib.compareBytes]
    by_cases h : a < b
    · have hn : ¬ b < a := fun h2 => UInt8.lt_irrefl a (UInt8.lt_trans h h2)
      have hne : ¬ b = a := fun e => by subst e; exact hn h
      simp [h, hn, hne]
    · by_cases h2 : b < a
      · simp [h, h2]
      · have he : a = b := UInt8.le_antisymm (UInt8.not_lt.1 h2) (UInt8.not_lt.1 h)
        subst he
        simp [h, ih]

theorem toList_mk (l : List UInt8) : (⟨l.toArray⟩ : ByteArray).toList = l := by rw [ByteArray.toList_eq]

theorem cb_eq : ∀ (a b : List UInt8), Lib.compareBytes a b = 0 → a = b
  | [], [], _ => rfl
  | [], _ :: _, h => by simp [Lib.compareBytes] at h
  | _ :: _, [], h => by simp [Lib.compareBytes] at h
  | a :: r, b :: q, h => by
    simp only [Lib.compareBytes] at h
    by_cases h1 : a < b
    · simp [h1] at h
    · by_cases h2 : b < a
      · simp [h1, h2] at h
      · have he : a = b := UInt8.le_antisymm (UInt8.not_lt.1 h2) (UInt8.not_lt.1 h1)
        simp only [h1, h2, if_false] at h
        rw [he, cb_eq r q h]

theorem cb_self : ∀ (a : List UInt8), Lib.compareBytes a a = 0
  | [] => rfl
  | a :: r => by simp [Lib.compareBytes, cb_self r]

theorem ne_of_cb {a b : List UInt8} {z : Int} (h : Lib.compareBytes a b = z) (hz : z ≠ 0) : (a == b) = false := by
  rw [beq_eq_false_iff_ne]
  intro e
  rw [e, cb_self] at h
  exact hz h.symm

theorem word_same {a b : List UInt8} (h : a.length = b.length) : wordCmp a b = Lib.compareBytes a b := by
  rw [wordCmp, cmpI_eq (by omega)]
  simp only [orI, if_true]
  split
  · rename_i h; exact h.symm
  · rfl

set_option maxRecDepth 100000 in
set_option maxHeartbeats 1000000 in
theorem l2Words_any (a b : List UInt8) (w : World) (ha : a.length ≤ 1000000) (hb : b.length ≤ 1000000) :
    Calls Tryz.prog 74 #[.string ⟨a.toArray⟩, .string ⟨b.toArray⟩] w fun e w' => e = .returned (.int .i64 (wordCmp a b)) ∧ w = w' := by
  have hsa : (⟨a.toArray⟩ : ByteArray).size = a.length := by simp [ByteArray.size]
  have hsb : (⟨b.toArray⟩ : ByteArray).size = b.length := by simp [ByteArray.size]
  obtain ⟨la, hla⟩ : ∃ la, la = a.length := ⟨_, rfl⟩
  obtain ⟨lb, hlb⟩ : ∃ lb, lb = b.length := ⟨_, rfl⟩
  rw [← hla] at hsa ha
  rw [← hlb] at hsb hb
  rcases Nat.lt_trichotomy la lb with h | h | h
  · have HV : Hid (wordCmp a b = -1) := Lib.hid (by rw [wordCmp, cmpI_lt (by omega)]; simp [orI])
    have hne : ((la : Int) != (lb : Int)) = true := by simp; omega
    clear hla hlb
    go_enter Tryz.func74, Tryz.ntmps74
    go_wp2_with fail
    go_ret
    exact ⟨by rw [HV.out]; exact ret_int' (k := .i64) (a := max (-1) (min 1 ((la : Int) - lb))) (by omega), rfl⟩
  · have HV : Hid (wordCmp a b = Lib.compareBytes a b) := Lib.hid (word_same (by omega))
    have hr := compareBytes_range a b
    have hle := less_iff a b
    obtain ⟨z, hz⟩ : ∃ z, Lib.compareBytes a b = z := ⟨_, rfl⟩
    rw [hz] at hr hle
    have HZ := Lib.hid hz
    subst h
    have h3 : z = -1 ∨ z = 0 ∨ z = 1 := by omega
    clear hla hlb hr hz
    rcases h3 with rfl | rfl | rfl
    · go_enter Tryz.func74, Tryz.ntmps74
      go_wp2_with fail
      go_ret
      exact ⟨by rw [HV.out, HZ.out]; rfl, rfl⟩
    · have hab := cb_eq _ _ HZ.out
      subst hab
      go_enter Tryz.func74, Tryz.ntmps74
      go_wp2_with fail
      go_ret
      exact ⟨by rw [HV.out, HZ.out]; rfl, rfl⟩
    · have hne := ne_of_cb HZ.out (by omega)
      go_enter Tryz.func74, Tryz.ntmps74
      go_wp2_with fail
      go_ret
      exact ⟨by rw [HV.out, HZ.out]; rfl, rfl⟩
  · have HV : Hid (wordCmp a b = 1) := Lib.hid (by rw [wordCmp, cmpI_gt (by omega)]; simp [orI])
    have hne : ((la : Int) != (lb : Int)) = true := by simp; omega
    clear hla hlb
    go_enter Tryz.func74, Tryz.ntmps74
    go_wp2_with fail
    go_ret
    exact ⟨by rw [HV.out]; exact ret_int' (k := .i64) (a := max (-1) (min 1 ((la : Int) - lb))) (by omega), rfl⟩
mutual
theorem paths_short : ∀ (t : T) (way : List UInt8) (p : List UInt8), p ∈ t.paths way → p.length ≤ way.length + t.nodes
  | .leaf, way, p, h => by
    simp only [T.paths, List.mem_singleton] at h
    subst h
    simp [T.nodes]
  | .node c ks, way, p, h => by
    simp only [T.paths] at h
    have := pathsL_short ks (way ++ [c]) p h
    simp only [List.length_append, List.length_singleton] at this
    simp only [T.nodes]
    omega
theorem pathsL_short : ∀ (ks : List T) (way : List UInt8) (p : List UInt8), p ∈ T.pathsL way ks → p.length ≤ way.length + T.nodesL ks
  | [], way, p, h => by simp [T.pathsL] at h
  | k :: ks, way, p, h => by
    simp only [T.pathsL, List.mem_append] at h
    simp only [T.nodesL]
    rcases h with h | h
    · have := paths_short k way p h; omega
    · have := pathsL_short ks way p h; omega
end

/-- A new list of texts. -/
def ListN (ps : List (List UInt8)) (n : Nat) (w : World) (e : Ending) (w' : World) : Prop :=
  Below w.heap.size w w' ∧ ∃ a cap, e = .returned (.slice a n cap) ∧ Lies w' a ps

theorem l1Paths_new (t : T) (lb : ByteArray) (sa : Option Addr) (sn sc : Nat) (w : World) (P : Nat → Prop) (hw : t.wf) (hl : t.leaves ≤ 1000) (hn : t.nodes ≤ 1000) (hP : ∀ b, P b → b < w.heap.size) (hr : RepS w P t (.string lb) (.slice sa sn sc)) (bb : Nat) (hbb : bb = w.heap.size) :
    Calls Tryz.prog 73 #[.agg #[.string lb, .slice sa sn sc], .string ⟨#[]⟩, .slice (some ⟨bb, 0, none⟩) 0 0] (w.alloc (.cells #[] 9 (0, 0))) (ListN (t.paths []) t.leaves w) := by
  subst hbb
  have hb : Below w.heap.size w (w.alloc (.cells #[] 9 (0, 0))) := (Below.refl _ _).alloc (Nat.le_refl _) _
  have R0 : (w.alloc (.cells #[] 9 (0, 0))).ownsRow w.heap.size 9 1 (.slice (some ⟨w.heap.size, 0, none⟩) 0 0) 0 [] := by
    have := World.ownsRow_made (base := w.heap.size) (e := 9) (size := 1) w #[] 0 (by omega) (by simp [maxLen]) rfl
    simpa using this
  refine (l1Paths_any _ t (.string lb) (.slice sa sn sc) ⟨#[]⟩ w.heap.size (some ⟨w.heap.size, 0, none⟩) 0 0 [] (w.alloc (.cells #[] 9 (0, 0))) P (Nat.le_refl _) hw (by omega) (by change 0 + _ ≤ _; omega) (hr.below hw hb) hP (by simp) R0).mono ?_
  rintro e w2 ⟨g, cap, rfl, hown, hg, hf⟩
  rw [Nat.zero_add] at hown
  refine ⟨hb.grown hg (by simp) (fun q e => ?_), _, cap, by rw [Nat.zero_add]; exact congrArg (fun n => Ending.returned (.slice (some ⟨g, 0, none⟩) n cap)) (paths_length t []), Lies.of_owns hown rfl⟩
  simp only [Value.ownBlock, Option.some.injEq] at e
  omega

set_option maxRecDepth 100000 in
set_option maxHeartbeats 4000000 in
theorem l2Order_any (t u : T) (lb : ByteArray) (sa : Option Addr) (sn sc : Nat) (ub : ByteArray) (ua : Option Addr) (un uc : Nat) (w : World) (P : Nat → Prop) (hw : t.wf) (hl : t.leaves ≤ 1000) (hn : t.nodes ≤ 1000) (huw : u.wf) (hul : u.leaves ≤ 1000) (hun : u.nodes ≤ 1000)
    (hP : ∀ b, P b → b < w.heap.size) (hr : RepS w P t (.string lb) (.slice sa sn sc)) (hru : RepS w P u (.string ub) (.slice ua un uc)) :
    Calls Tryz.prog 56 #[.agg #[.string lb, .slice sa sn sc], .agg #[.string ub, .slice ua un uc]] w (Ans (.int .i64 (ordCmp (t.paths []) t.text (u.paths []) u.text)) w) := by
  have hbA : Below w.heap.size w ((w.alloc (.cells #[.string lb, .slice sa sn sc] 66 (0, 0))).alloc (.cells #[.string ub, .slice ua un uc] 66 (0, 0))) := ((Below.refl _ _).alloc (Nat.le_refl _) _).alloc (by simp) _
  have htl : t.text.length ≤ 100000 := by have := text_length t; omega
  have hutl : u.text.length ≤ 100000 := by have := text_length u; omega
  have HT := Lib.hid (fun (w' : World) (hB : Below w.heap.size w w') => l1Text_any _ t (.string lb) (.slice sa sn sc) w' P (Nat.le_refl _) hw htl (hr.below hw hB))
  have HU := Lib.hid (fun (w' : World) (hB : Below w.heap.size w w') => l1Text_any _ u (.string ub) (.slice ua un uc) w' P (Nat.le_refl _) huw hutl (hru.below huw hB))
  have HP1 := l1Paths_new t lb sa sn sc ((w.alloc (.cells #[.string lb, .slice sa sn sc] 66 (0, 0))).alloc (.cells #[.string ub, .slice ua un uc] 66 (0, 0))) P hw hl hn (fun b h => by have := hP b h; simp; omega) (hr.below hw hbA) (w.heap.size + 1 + 1) (by simp)
  have HP2 := Lib.hid (fun (w' : World) (hB : Below w.heap.size w w') => l1Paths_new u ub ua un uc w' P huw hul hun (fun b h => by have := hP b h; have := hB.size; omega) (hru.below huw hB) w'.heap.size rfl)
  obtain ⟨ps, hps⟩ : ∃ ps, ps = t.paths [] := ⟨_, rfl⟩
  obtain ⟨qs, hqs⟩ : ∃ qs, qs = u.paths [] := ⟨_, rfl⟩
  obtain ⟨n, hn'⟩ : ∃ n, n = t.leaves := ⟨_, rfl⟩
  obtain ⟨m, hm'⟩ : ∃ m, m = u.leaves := ⟨_, rfl⟩
  have hpl : ps.length = n := by rw [hps, paths_length, hn']
  have hql : qs.length = m := by rw [hqs, paths_length, hm']
  have HWL : Hid (∀ p ∈ ps, p.length ≤ 1000000) := Lib.hid (fun p hp => by rw [hps] at hp; exact Nat.le_trans (paths_short t [] p hp) (by simp; omega))
  have HWQ : Hid (∀ p ∈ qs, p.length ≤ 1000000) := Lib.hid (fun p hp => by rw [hqs] at hp; exact Nat.le_trans (paths_short u [] p hp) (by simp; omega))
  rw [← hps, ← hn'] at HP1
  rw [← hps, ← hqs]
  have HP2' : Hid (∀ (w' : World), Below w.heap.size w w' → Calls Tryz.prog 73 #[.agg #[.string ub, .slice ua un uc], .string ⟨#[]⟩, .slice (some ⟨w'.heap.size, 0, none⟩) 0 0] (w'.alloc (.cells #[] 9 (0, 0))) (ListN qs m w')) := Lib.hid (fun w' hB => by
    have := HP2.out w' hB
    rw [← hqs, ← hm'] at this
    exact this)
  have HQ1 := Lib.hid HP1
  have HBA := Lib.hid hbA
  have HPL := Lib.hid hpl
  have HQL := Lib.hid hql
  have hnb : n ≤ 1000 := by omega
  have hmb : m ≤ 1000 := by omega
  have hx0 : ((w.alloc (.cells #[.string lb, .slice sa sn sc] 66 (0, 0))).alloc (.cells #[.string ub, .slice ua un uc] 66 (0, 0))).heap[w.heap.size]? = some (.cells #[.string lb, .slice sa sn sc] 66 (0, 0)) := by
    rw [Below.heap_alloc _ _ _ (by simp)]; exact heap_alloc_new w _
  have hx1 : ((w.alloc (.cells #[.string lb, .slice sa sn sc] 66 (0, 0))).alloc (.cells #[.string ub, .slice ua un uc] 66 (0, 0))).heap[w.heap.size + 1]? = some (.cells #[.string ub, .slice ua un uc] 66 (0, 0)) := by
    have := heap_alloc_new (w.alloc (.cells #[.string lb, .slice sa sn sc] 66 (0, 0))) (.cells #[.string ub, .slice ua un uc] 66 (0, 0))
    simpa using this
  have HX0 := Lib.hid hx0
  have HX1 := Lib.hid hx1
  clear hbA htl hutl HP1 HP2 hps hqs hn' hm' hpl hql hx0 hx1 hr hru hw huw hl hn hul hun
  go_enter Tryz.func56, Tryz.ntmps56
  go_wp2_with fail
  refine HQ1.out.mono ?_
  rintro e w1 ⟨hB1, a1, c1, rfl, hl1⟩
  have HB1 := Lib.hid (below_step HBA.out hB1)
  have HL1 := Lib.hid hl1
  have hy0 := (hB1.block w.heap.size (by simp; omega)).trans HX0.out
  have hy1 := (hB1.block (w.heap.size + 1) (by simp)).trans HX1.out
  have HY0 := Lib.hid hy0
  have HY1 := Lib.hid hy1
  obtain ⟨y0, y1, _, _⟩ := two_cells hy1
  have hz1 : w.heap.size + 1 < w1.heap.size := World.block_lt_of_cell? w1 _ y0
  clear hB1 hl1 hy0 hy1
  go_wp2_with fail
  refine (HP2'.out w1 HB1.out).mono ?_
  rintro e w2 ⟨hB2, a2, c2, rfl, hl2⟩
  have HB2 := Lib.hid (below_step HB1.out hB2)
  have HL1' := Lib.hid (HL1.out.below hB2)
  have HL2 := Lib.hid hl2
  have hy0 := (hB2.block w.heap.size (by omega)).trans HY0.out
  have hy1 := (hB2.block (w.heap.size + 1) (by omega)).trans HY1.out
  have HZ0 := Lib.hid hy0
  have HZ1 := Lib.hid hy1
  clear hB2 hl2 hy0 hy1
  by_cases hnm : n = m
  · subst hnm
    go_wp2_with fail
    go_loopw [7] (fun iv wr => ∃ k : Nat, k ≤ n ∧ iv = .int .i64 k ∧ rowCmp ps qs = rowCmp (ps.drop k) (qs.drop k) ∧ Below w2.heap.size w2 wr) (fun iv _ => n - (intOf iv).toNat)
    case atStart => exact ⟨0, Nat.zero_le _, rfl, by rw [List.drop_zero, List.drop_zero], Below.refl _ _⟩
    case round =>
      obtain ⟨k, hk, rfl, ho, hB⟩ := hrel
      have HO := Lib.hid ho
      have HBR := Lib.hid (below_step HB2.out hB)
      have HBQ := Lib.hid hB
      clear ho
      by_cases hlt : k < n
      · have hltp : k < ps.length := by rw [HPL.out]; exact hlt
        have hltq : k < qs.length := by rw [HQL.out]; exact hlt
        obtain ⟨g, rfl, q1⟩ := (HL1'.out.below hB) k hltp
        obtain ⟨g', rfl, q2⟩ := (HL2.out.below hB) k hltq
        obtain ⟨z, hz⟩ : ∃ z, z = wordCmp ps[k] qs[k] := ⟨_, rfl⟩
        have HZ := Lib.hid hz
        have k0 : (0 : Int) ≤ k := by omega
        have HC : Hid (∀ w, Calls Tryz.prog 74 #[.string ⟨(ps[k]).toArray⟩, .string ⟨(qs[k]).toArray⟩] w fun e w' => e = .returned (.int .i64 z) ∧ w' = w) := Lib.hid (fun w => by
          rw [hz]
          exact (l2Words_any ps[k] qs[k] w (HWL.out _ (List.getElem_mem hltp)) (HWQ.out _ (List.getElem_mem hltq))).mono (fun e w' h => ⟨h.1, h.2.symm⟩))
        clear hz hB
        by_cases h0 : z = 0
        · have HN : Hid (rowCmp ps qs = rowCmp (ps.drop (k + 1)) (qs.drop (k + 1))) := Lib.hid (by rw [HO.out, rowCmp_at hltp hltq, if_pos (by rw [← HZ.out]; exact h0)])
          subst h0
          go_wp2_with fail
          go_quiet ((go_at_call 74; refine Calls.quiet_of_same (v := .int .i64 0) ?_; exact HC.out _))
          go_wp2_with fail
          exact ⟨⟨k + 1, by omega, by go_num, HN.out, below_drewN HBQ.out _⟩, by simp [intOf]; omega⟩
        · have HN : Hid (rowCmp ps qs = z) := Lib.hid (by rw [HO.out, rowCmp_at hltp hltq, if_neg (by rw [← HZ.out]; exact h0), HZ.out])
          go_wp2_with fail
          go_quiet ((go_at_call 74; refine Calls.quiet_of_same (v := .int .i64 z) ?_; exact HC.out _))
          go_wp2_with fail
          go_ret
          refine ⟨?_, below_drewN HBR.out _⟩
          rw [ordCmp, HPL.out, HQL.out, cmpI_eq rfl, HN.out]
          simp only [orI, if_true, if_neg h0]
          rfl
      · have HR0 : Hid (rowCmp ps qs = 0) := Lib.hid (by rw [HO.out, rowCmp_done (by have := HPL.out; omega) (by have := HQL.out; omega)])
        have hu0 := (hB.block w.heap.size (by have := (Array.getElem?_eq_some_iff.1 HZ0.out).1; omega)).trans HZ0.out
        have hu1 := (hB.block (w.heap.size + 1) (by have := (Array.getElem?_eq_some_iff.1 HZ1.out).1; omega)).trans HZ1.out
        obtain ⟨u0, u1, _, _⟩ := two_cells hu0
        have HU1 := Lib.hid hu1
        clear hB hu0 hu1
        go_wp2_with fail
        refine (HT.out wr HBR.out).mono ?_
        rintro e w3 ⟨rfl, hB3⟩
        have HB3 := Lib.hid (below_step HBR.out hB3)
        have hu1 := (hB3.block (w.heap.size + 1) (Array.getElem?_eq_some_iff.1 HU1.out).1).trans HU1.out
        obtain ⟨v0, v1, _, _⟩ := two_cells hu1
        clear hB3 hu1
        go_wp2_with fail
        refine (HU.out w3 HB3.out).mono ?_
        rintro e w4 ⟨rfl, hB4⟩
        have HB4 := Lib.hid (below_step HB3.out hB4)
        have HV : Hid (ordCmp ps t.text qs u.text = Lib.compareBytes t.text u.text) := Lib.hid (by
          rw [ordCmp, HPL.out, HQL.out, cmpI_eq rfl, HR0.out]
          simp only [orI, if_true]
          split
          · rename_i h; exact h.symm
          · rfl)
        have hr := compareBytes_range t.text u.text
        have hle := less_iff t.text u.text
        obtain ⟨z, hz⟩ : ∃ z, Lib.compareBytes t.text u.text = z := ⟨_, rfl⟩
        rw [hz] at hr hle
        have HZ := Lib.hid hz
        have h3 : z = -1 ∨ z = 0 ∨ z = 1 := by omega
        obtain ⟨ta, hta⟩ : ∃ ta, ta = t.text := ⟨_, rfl⟩
        obtain ⟨tb, htb⟩ : ∃ tb, tb = u.text := ⟨_, rfl⟩
        have hzt := HZ.out
        rw [← hta, ← htb] at hle hzt
        have HZT := Lib.hid hzt
        rw [← hta, ← htb]
        clear hr hz hB4 hta htb hzt
        rcases h3 with rfl | rfl | rfl
        · go_wp2_with fail
          go_ret
          exact ⟨by rw [HV.out, HZ.out]; rfl, HB4.out⟩
        · have hab := cb_eq _ _ HZT.out
          subst hab
          go_wp2_with fail
          go_ret
          exact ⟨by rw [HV.out, HZ.out]; rfl, HB4.out⟩
        · have hne := ne_of_cb HZT.out (by omega)
          go_wp2_with fail
          go_ret
          exact ⟨by rw [HV.out, HZ.out]; rfl, HB4.out⟩
  · have hne : ((n : Int) != (m : Int)) = true := by simp; omega
    obtain ⟨z, hz⟩ : ∃ z : Int, z = max (-1) (min 1 ((n : Int) - m)) := ⟨_, rfl⟩
    have HV : Hid (ordCmp ps t.text qs u.text = max (-1) (min 1 ((n : Int) - m))) := Lib.hid (by
      rw [ordCmp, HPL.out, HQL.out]
      rcases Nat.lt_or_gt_of_ne hnm with h | h
      · rw [cmpI_lt (by omega)]; simp only [orI]; rw [if_neg (by omega)]; omega
      · rw [cmpI_gt (by omega)]; simp only [orI]; rw [if_neg (by omega)]; omega)
    clear hnm hz
    go_wp2_with fail
    go_ret
    exact ⟨by rw [HV.out]; rfl, HB2.out⟩
end Go.Proofs.YtoeebipahifpcaaGreat
