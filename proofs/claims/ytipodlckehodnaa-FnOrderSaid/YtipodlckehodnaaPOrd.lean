/- Orders are opposite both ways, and kept by grafting: FnOrder. -/
import Derived.Test.YtipodlckehodnaaPOrdM
import Derived.Test.YtipodlckehodnaaKDrawT
import Derived.Test.YtipodlckehodnaaKLawOrdC
namespace Go.Proofs.Ytipodlckehodnaa
open Go.RowKit

theorem Ans.is2 {v v' : Value} {w w' : World} {e : Ending} (h : Ans v w e w') (hv : v = v') : Ans v' w e w' := by rw [← hv]; exact h

theorem txt_same (p q : ByteArray) : (p.toList == q.toList) = decide (p = q) := by
  rw [ByteArray.toList_eq, ByteArray.toList_eq]
  by_cases h : p = q
  · subst h; simp
  · have : ¬ p.data = q.data := fun e => h (ByteArray.ext e)
    simp [h, this]

/-- Two texts are drawn. -/
def DrTT (w : World) (e : Ending) (w' : World) : Prop := Below w.heap.size w w' ∧ ∃ s s2 : ByteArray, e = .returned (.tuple #[.string s, .string s2]) ∧ s.size ≤ 2000 ∧ s2.size ≤ 2000

set_option maxRecDepth 100000 in
set_option maxHeartbeats 1000000 in
theorem l91Two_any (bs : List Nat) (a : Option Addr) (cap : Nat) (w : World) (hn : bs.length ≤ 9223372036854775807) (hcap : bs.length ≤ cap) (h8 : ∀ z ∈ bs, z ≤ 255) (hl : LiesB w a bs) :
    Calls Try.prog 80 #[.slice a bs.length cap] w (DrTT w) := by
  have HO := Lib.hid (l6Open_any bs a cap w hn hcap h8 hl)
  clear h8 hl
  go_enter Try.func80, Try.ntmps80
  go_wp2_with fail
  refine HO.out.mono ?_
  rintro e w1 ⟨rfl, hb1, hr1⟩
  have HX := Lib.hid (l91Text_any w.heap.size a cap (bs.take 2000) 3 0 w1 (by decide) (by decide) hr1)
  have HB1 := Lib.hid hb1
  clear hb1 hr1
  go_wp2_with fail
  refine HX.out.mono ?_
  rintro e w2 ⟨hg2, s, q, rfl, hsz, hr2, hq⟩
  have hq2 : q ≤ 28 := hq
  have HB2 := Lib.hid (below_over HB1.out hg2 (fun r e => by cases e; exact Nat.le_refl _))
  have HX2 := Lib.hid (l91Text_any w.heap.size a cap (bs.take 2000) 3 q w2 (by decide) (by omega) hr2)
  clear hg2 hr2 hq
  go_wp2_with fail
  refine HX2.out.mono ?_
  rintro e w3 ⟨hg3, s2, q3, rfl, hsz2, hr3, hq3⟩
  have HB3 := Lib.hid (below_over HB2.out hg3 (fun r e => by cases e; exact Nat.le_refl _))
  clear hg3 hr3
  go_wp2_with fail
  go_ret2
  exact ⟨HB3.out, s, s2, rfl, hsz, hsz2⟩

set_option maxRecDepth 100000 in
theorem dOrder_any (bs : List Nat) (a : Option Addr) (cap : Nat) (w : World) (hn : bs.length ≤ 9223372036854775807) (hcap : bs.length ≤ cap) (h8 : ∀ z ∈ bs, z ≤ 255) (hl : LiesB w a bs) :
    Calls Try.prog 36 #[.slice a bs.length cap] w (DrTT w) := by
  have HO := Lib.hid (l91Two_any bs a cap w hn hcap h8 hl)
  clear h8 hl
  go_enter Try.func36, Try.ntmps36
  go_wp2_with fail
  refine HO.out.mono ?_
  rintro e w1 ⟨hB, s, s2, rfl, h1, h2⟩
  go_wp2_with fail
  go_ret2
  exact ⟨hB, s, s2, rfl, h1, h2⟩

theorem orderV_text {t u : T} (ht : t.wf) (hu : u.wf) (h1 : t.leaves ≤ 12 ∧ t.nodes ≤ 16) (h2 : u.leaves ≤ 12 ∧ u.nodes ≤ 16) : orderV (orderOf t.text u.text) = .tuple #[.int .i64 (ordT t u), .bool true] := by
  simp only [orderOf, parse_text ht h1.1 h1.2, parse_text hu h2.1 h2.2, orderV, ordT]

theorem done_told (X : T) : ∃ (x : ByteArray) (b : Bool), doneV X = .tuple #[.string x, .bool b] ∧ x.size ≤ 100000 ∧ (b = false ∨ (b = true ∧ x = ⟨X.text.toArray⟩ ∧ X.leaves ≤ 12 ∧ X.nodes ≤ 16)) := by
  unfold doneV
  split
  · rename_i h
    refine ⟨_, _, rfl, ?_, .inr ⟨rfl, rfl, h.1, h.2⟩⟩
    have := text_length X
    change X.text.toArray.size ≤ 100000
    simp only [List.size_toArray]
    omega
  · exact ⟨_, _, rfl, by decide, .inl rfl⟩

theorem orderV_is (a b : List UInt8) : ∃ (c : Int) (d : Bool), orderV (orderOf a b) = .tuple #[.int .i64 c, .bool d] := by
  cases orderOf a b with
  | none => exact ⟨_, _, rfl⟩
  | some c => exact ⟨_, _, rfl⟩

/-- What the two grafts and their order come to. -/
theorem gr_told {X Y : T} (hx : X.wf) (hy : Y.wf) {o : Int} (ho : ordT X Y = o) : ∃ (x1 : ByteArray) (b1 : Bool) (x2 : ByteArray) (b2 : Bool) (c : Int) (b : Bool), doneV X = .tuple #[.string x1, .bool b1] ∧ doneV Y = .tuple #[.string x2, .bool b2] ∧
    orderV (orderOf x1.data.toList x2.data.toList) = .tuple #[.int .i64 c, .bool b] ∧ x1.size ≤ 100000 ∧ x2.size ≤ 100000 ∧ (b1 = false ∨ (b1 = true ∧ b2 = false) ∨ (b1 = true ∧ b2 = true ∧ b = true ∧ c = o)) := by
  obtain ⟨x1, b1, e1, s1, h1⟩ := done_told X
  obtain ⟨x2, b2, e2, s2, h2⟩ := done_told Y
  rcases h1 with h1 | ⟨h1, k1, l1⟩
  · obtain ⟨c, d, e3⟩ := orderV_is x1.data.toList x2.data.toList
    exact ⟨x1, b1, x2, b2, c, d, e1, e2, e3, s1, s2, .inl h1⟩
  · rcases h2 with h2 | ⟨h2, k2, l2⟩
    · obtain ⟨c, d, e3⟩ := orderV_is x1.data.toList x2.data.toList
      exact ⟨x1, b1, x2, b2, c, d, e1, e2, e3, s1, s2, .inr (.inl ⟨h1, h2⟩)⟩
    · refine ⟨x1, b1, x2, b2, o, true, e1, e2, ?_, s1, s2, .inr (.inr ⟨h1, h2, rfl, rfl⟩)⟩
      rw [k1, k2, ← ho]
      exact orderV_text hx hy l1 l2

def aText : ByteArray := ⟨#[40, 97, 32, 42, 32, 42, 41]⟩
def bText : ByteArray := ⟨#[40, 98, 32, 42, 32, 42, 41]⟩
theorem parse_ab : parse aText.data.toList = some (.node 97 [.leaf, .leaf]) ∧ parse bText.data.toList = some (.node 98 [.leaf, .leaf]) := by
  have h1 := parse_text (t := .node 97 [.leaf, .leaf]) (by simp [T.wf, T.wfL]) (by simp [T.leaves, T.leavesL]) (by simp [T.nodes, T.nodesL])
  have h2 := parse_text (t := .node 98 [.leaf, .leaf]) (by simp [T.wf, T.wfL]) (by simp [T.leaves, T.leavesL]) (by simp [T.nodes, T.nodesL])
  constructor
  · rw [← h1]; congr 1
  · rw [← h2]; congr 1

theorem graft_a {b : List UInt8} {t : T} (hb : parse b = some t) : graftOf aText.data.toList 1 b = some (.node 97 [.leaf, t]) := by
  have h := graftOf_in (k := 1) parse_ab.1 hb (by simp [T.leaves, T.leavesL])
  have e : (T.node 97 [.leaf, .leaf]).fill (oneIn (T.node 97 [.leaf, .leaf]).leaves 1 t) = .node 97 [.leaf, t] := by simp [T.leaves, T.leavesL, oneIn, T.fill, T.fillL, List.replicate]
  rw [e] at h
  exact h
theorem graft_b {a : List UInt8} {t : T} (ha : parse a = some t) (hw : t.wf) : graftOf a 0 bText.data.toList = some (t.fill (oneIn t.leaves 0 (.node 98 [.leaf, .leaf]))) :=
  graftOf_in (k := 0) ha parse_ab.2 (leaves_pos t hw)

/-- All that FnOrder asks, where both texts are trees. -/
theorem order_told {s s2 : ByteArray} {o : Int} (h : orderOf s.data.toList s2.data.toList = some o) : ∃ (t u : T), parse s.data.toList = some t ∧ parse s2.data.toList = some u ∧ t.wf ∧ u.wf ∧ t.leaves ≤ 12 ∧ u.leaves ≤ 12 ∧ -1 ≤ o ∧ o ≤ 1 ∧
    orderOf s2.data.toList s.data.toList = some (-o) ∧ (o = 0 ↔ s = s2) ∧
    (t.leaves = u.leaves → ordT (.node 97 [.leaf, t]) (.node 97 [.leaf, u]) = o ∧ ordT (t.fill (oneIn t.leaves 0 (.node 98 [.leaf, .leaf]))) (u.fill (oneIn u.leaves 0 (.node 98 [.leaf, .leaf]))) = o) := by
  unfold orderOf at h
  split at h
  · rename_i t u ht hu
    cases h
    obtain ⟨w1, x1, l1, n1⟩ := parse_some ht
    obtain ⟨w2, x2, l2, n2⟩ := parse_some hu
    have hr := ordT_range t u
    refine ⟨t, u, ht, hu, w1, w2, l1, l2, hr.1, hr.2, ?_, ?_, fun hl => ⟨ord_right 97 w1 w2 hl, ord_left 98 w1 w2 hl (fill_one_leaves w1 hl w2 98)⟩⟩
    · simp only [orderOf, ht, hu]
      have := isCmp_ordT.anti t u
      exact congrArg some this
    · constructor
      · intro h0
        have e : t = u := ordT_zero w1 w2 h0
        have e2 : s.data.toList = s2.data.toList := by rw [x1, x2, e]
        obtain ⟨⟨a⟩⟩ := s
        obtain ⟨⟨b⟩⟩ := s2
        simp only at e2
        rw [e2]
      · intro he
        subst he
        rw [ht] at hu
        cases hu
        exact isCmp_ordT.self t
  · cases h

set_option maxRecDepth 100000 in
set_option maxHeartbeats 2000000 in
theorem pOrder_any (bs : List Nat) (a : Option Addr) (cap : Nat) (w : World) (hl : LiesB w a bs) (h8 : ∀ z ∈ bs, z ≤ 255) (hn : bs.length ≤ 9223372036854775807) (hcap : bs.length ≤ cap) :
    Calls Try.prog 10 #[.slice a bs.length cap] w (Ans (.bool true) w) := by
  by_cases h : bs.length ≤ 1048576
  · have HD := Lib.hid (dOrder_any bs a cap w hn hcap h8 hl)
    clear h8 hl
    go_enter Try.func10, Try.ntmps10
    go_wp2_with fail
    refine HD.out.mono ?_
    rintro e w1 ⟨hB1, s, s2, rfl, hs1, hs2⟩
    have HB1 := Lib.hid hB1
    have A1_1 := Lib.hid (Below.refl w1.heap.size w1)
    clear hB1
    cases ho : orderOf s.data.toList s2.data.toList with
    | none =>
      have HV : Hid (orderV (orderOf s.data.toList s2.data.toList) = .tuple #[.int .i64 0, .bool false]) := Lib.hid (by rw [ho]; rfl)
      clear ho
      go_wp2_with fail
      refine ((iOrder_any s s2 w1 (by omega) (by omega)).mono fun _ _ h => Ans.is2 h HV.out).mono ?_
      rintro e w2 ⟨rfl, hB⟩
      have A1_2 := Lib.hid (below_step A1_1.out hB)
      have HB2 := Lib.hid (below_step HB1.out hB)
      clear hB
      go_wp2_with fail
      refine ((sOrder_any s s2 w2 (by omega) (by omega)).mono fun _ _ h => Ans.is2 h HV.out).mono ?_
      rintro e w3 ⟨rfl, hB⟩
      have A1_3 := Lib.hid (below_step A1_2.out hB)
      have HB3 := Lib.hid (below_step HB2.out hB)
      clear hB
      go_wp2_with fail
      go_ret
      exact ⟨rfl, HB3.out⟩
    | some o =>
      obtain ⟨t, u, ht, hu, hw1, hw2, hl1, hl2, ho1, ho2, e1, e2, e3⟩ := order_told ho
      have HV : Hid (orderV (orderOf s.data.toList s2.data.toList) = .tuple #[.int .i64 o, .bool true]) := Lib.hid (by rw [ho]; rfl)
      have HV2 : Hid (orderV (orderOf s2.data.toList s.data.toList) = .tuple #[.int .i64 (-o), .bool true]) := Lib.hid (by rw [e1]; rfl)
      obtain ⟨m1, hm1⟩ : ∃ m1, m1 = t.leaves := ⟨_, rfl⟩
      obtain ⟨m2, hm2⟩ : ∃ m2, m2 = u.leaves := ⟨_, rfl⟩
      have HL1 : Hid (Value.int .i64 (leavesOf (parse s.data.toList)) = .int .i64 m1) := Lib.hid (by rw [ht, hm1]; rfl)
      have HL2 : Hid (Value.int .i64 (leavesOf (parse s2.data.toList)) = .int .i64 m2) := Lib.hid (by rw [hu, hm2]; rfl)
      have hwo : IntKind.i64.wrap (-o) = -o := by rw [IntKind.wrap_i64]; omega
      have hwo2 : IntKind.i64.wrap (0 - o) = -o := by rw [IntKind.wrap_i64]; omega
      obtain ⟨z, hz⟩ : ∃ z : Bool, z = decide (s = s2) := ⟨_, rfl⟩
      have hq1 : (s.toList == s2.toList) = z := by rw [hz]; exact txt_same s s2
      have hq2 : (o == 0) = z := by
        rw [hz]
        by_cases h : s = s2
        · rw [e2.2 h, decide_eq_true h]; rfl
        · rw [decide_eq_false h]; exact beq_false_of_ne (fun h7 => h (e2.1 h7))
      have E3 := Lib.hid e3
      have HT := Lib.hid ht
      have HU := Lib.hid hu
      have HM1 := Lib.hid hm1
      have HM2 := Lib.hid hm2
      clear ho ht hu e1 e2 e3 hz hm1 hm2 hl1 hl2
      go_wp2_with fail
      refine ((iOrder_any s s2 w1 (by omega) (by omega)).mono fun _ _ h => Ans.is2 h HV.out).mono ?_
      rintro e w2 ⟨rfl, hB⟩
      have A1_2 := Lib.hid (below_step A1_1.out hB)
      have HB2 := Lib.hid (below_step HB1.out hB)
      clear hB
      go_wp2_with fail
      refine ((sOrder_any s s2 w2 (by omega) (by omega)).mono fun _ _ h => Ans.is2 h HV.out).mono ?_
      rintro e w3 ⟨rfl, hB⟩
      have A1_3 := Lib.hid (below_step A1_2.out hB)
      have HB3 := Lib.hid (below_step HB2.out hB)
      clear hB
      go_wp2_with fail
      refine ((iOrder_any s2 s w3 (by omega) (by omega)).mono fun _ _ h => Ans.is2 h HV2.out).mono ?_
      rintro e w4 ⟨rfl, hB⟩
      have A1_4 := Lib.hid (below_step A1_3.out hB)
      have HB4 := Lib.hid (below_step HB3.out hB)
      clear hB
      by_cases hm : m1 = m2
      · subst hm
        have hll : t.leaves = u.leaves := by rw [← HM1.out, HM2.out]
        obtain ⟨k1, k2⟩ := E3.out hll
        have wA : (T.node 97 [.leaf, t]).wf := by simp [T.wf, T.wfL, hw1]
        have wB : (T.node 97 [.leaf, u]).wf := by simp [T.wf, T.wfL, hw2]
        have wb : (T.node 98 [.leaf, .leaf]).wf := by simp [T.wf, T.wfL]
        obtain ⟨x1, b1, x2, b2, c3, b3, g1, g2, g3, z1, z2, H12⟩ := gr_told wA wB k1
        obtain ⟨x4, b4, x5, b5, c6, b6, g4, g5, g6, z4, z5, H45⟩ := gr_told (fill_wf _ _ hw1 (oneIn_wf wb)) (fill_wf _ _ hw2 (oneIn_wf wb)) k2
        have G1 : Hid (graftV (graftOf aText.data.toList 1 s.data.toList) = .tuple #[.string x1, .bool b1]) := Lib.hid (by rw [graft_a HT.out]; exact g1)
        have G2 : Hid (graftV (graftOf aText.data.toList 1 s2.data.toList) = .tuple #[.string x2, .bool b2]) := Lib.hid (by rw [graft_a HU.out]; exact g2)
        have G4 : Hid (graftV (graftOf s.data.toList 0 bText.data.toList) = .tuple #[.string x4, .bool b4]) := Lib.hid (by rw [graft_b HT.out hw1]; exact g4)
        have G5 : Hid (graftV (graftOf s2.data.toList 0 bText.data.toList) = .tuple #[.string x5, .bool b5]) := Lib.hid (by rw [graft_b HU.out hw2]; exact g5)
        have G3 := Lib.hid g3
        have G6 := Lib.hid g6
        have H12 := Lib.hid H12
        have H45 := Lib.hid H45
        clear hll k1 k2 wA wB wb g1 g2 g3 g4 g5 g6 hw1 hw2
        cases z
        all_goals
          go_wp2_with fail
          refine ((iLeaves_any s w4 (by omega)).mono fun _ _ h => Ans.is2 h HL1.out).mono ?_
          rintro e w5 ⟨rfl, hB⟩
          have A1_5 := Lib.hid (below_step A1_4.out hB)
          have HB5 := Lib.hid (below_step HB4.out hB)
          clear hB
          go_wp2_with fail
          refine ((iLeaves_any s2 w5 (by omega)).mono fun _ _ h => Ans.is2 h HL2.out).mono ?_
          rintro e w6 ⟨rfl, hB⟩
          have A1_6 := Lib.hid (below_step A1_5.out hB)
          have HB6 := Lib.hid (below_step HB5.out hB)
          clear hB
          go_wp2_with fail
          refine ((iGraft_any aText 1 s w6 (by decide) (by omega)).mono fun _ _ h => Ans.is2 h G1.out).mono ?_
          rintro e w7 ⟨rfl, hB⟩
          have A1_7 := Lib.hid (below_step A1_6.out hB)
          have HB7 := Lib.hid (below_step HB6.out hB)
          clear hB
          go_wp2_with fail
          refine ((iGraft_any aText 1 s2 w7 (by decide) (by omega)).mono fun _ _ h => Ans.is2 h G2.out).mono ?_
          rintro e w8 ⟨rfl, hB⟩
          have A1_8 := Lib.hid (below_step A1_7.out hB)
          have HB8 := Lib.hid (below_step HB7.out hB)
          clear hB
          go_wp2_with fail
          refine ((iOrder_any x1 x2 w8 (by omega) (by omega)).mono fun _ _ h => Ans.is2 h G3.out).mono ?_
          rintro e w9 ⟨rfl, hB⟩
          have A1_9 := Lib.hid (below_step A1_8.out hB)
          have HB9 := Lib.hid (below_step HB8.out hB)
          clear hB
          go_wp2_with fail
          refine ((iGraft_any s 0 bText w9 (by omega) (by decide)).mono fun _ _ h => Ans.is2 h G4.out).mono ?_
          rintro e w10 ⟨rfl, hB⟩
          have A1_10 := Lib.hid (below_step A1_9.out hB)
          have HB10 := Lib.hid (below_step HB9.out hB)
          clear hB
          go_wp2_with fail
          refine ((iGraft_any s2 0 bText w10 (by omega) (by decide)).mono fun _ _ h => Ans.is2 h G5.out).mono ?_
          rintro e w11 ⟨rfl, hB⟩
          have A1_11 := Lib.hid (below_step A1_10.out hB)
          have HB11 := Lib.hid (below_step HB10.out hB)
          clear hB
          go_wp2_with fail
          refine ((iOrder_any x4 x5 w11 (by omega) (by omega)).mono fun _ _ h => Ans.is2 h G6.out).mono ?_
          rintro e w12 ⟨rfl, hB⟩
          have A1_12 := Lib.hid (below_step A1_11.out hB)
          have HB12 := Lib.hid (below_step HB11.out hB)
          clear hB
          rcases H12.out with rfl | ⟨rfl, rfl⟩ | ⟨rfl, rfl, rfl, rfl⟩
          all_goals
            rcases H45.out with rfl | ⟨rfl, rfl⟩ | ⟨rfl, rfl, rfl, rfl⟩
            all_goals
              go_wp2_with fail
              go_ret
              exact ⟨rfl, HB12.out⟩
      · have hmm : ((m1 : Int) == (m2 : Int)) = false := beq_false_of_ne (by omega)
        have hmm2 : ((m1 : Int) != (m2 : Int)) = true := by simp; omega
        have hmm3 : (m1 == m2) = false := by simpa using hm
        cases z
        all_goals
          go_wp2_with fail
          refine ((iLeaves_any s w4 (by omega)).mono fun _ _ h => Ans.is2 h HL1.out).mono ?_
          rintro e w5 ⟨rfl, hB⟩
          have A1_5 := Lib.hid (below_step A1_4.out hB)
          have HB5 := Lib.hid (below_step HB4.out hB)
          clear hB
          go_wp2_with fail
          refine ((iLeaves_any s2 w5 (by omega)).mono fun _ _ h => Ans.is2 h HL2.out).mono ?_
          rintro e w6 ⟨rfl, hB⟩
          have A1_6 := Lib.hid (below_step A1_5.out hB)
          have HB6 := Lib.hid (below_step HB5.out hB)
          clear hB
          go_wp2_with fail
          go_ret
          exact ⟨rfl, HB6.out⟩
  · clear hl h8
    go_enter Try.func10, Try.ntmps10
    go_wp2_with fail
    go_ret
    exact ⟨rfl, Below.refl _ _⟩

end Go.Proofs.Ytipodlckehodnaa
