/- A power by the program. -/
import Derived.Test.YtnobpckmlhgeiaaSerP
namespace Go.Proofs.Ytnobpckmlhgeiaa
open Go.RowKit Go.ChangeMaps Go.MapKept
open Go.Maps (Keyed)

theorem serElem_nil {v : Value} {ps : List MemPlace} (h : serElem v = some (.nil, ps)) : v = .slice none 0 0 := by
  unfold serElem at h
  split at h
  · rfl
  · simp at h
  · cases h

theorem wpList_look_new {P : Program} (w : World) {ops : Array Oper} {rest : List Oper} {o : Oper} {a : Act} {Q : Exit → Act → World → Prop}
    (hg : o.guard = none) (m x : Operand) (t : TypeId) (hop : o.op = Op.lookup t m x true)
    (k e : TypeId) (K : Keyed P k) (ht : P.underlying t = some (.map k e)) (hz : (zeroValue e).run P w = .ok (.slice none 0 0) w) (b n : Nat) (D : DataW Unit)
    (hm : a.eval m = .map (some b)) (hown : w.ownsMap P k serElem b n D) (key : Value) (kl : Lit) (hx : a.eval x = key) (hkey : keyOf P k key = some kl) (hhas : Maps.has D kl = false)
    (hK : wpList P ops Q rest (a.put o.dst (.tuple #[.slice none 0 0, .bool false])) w) :
    wpList P ops Q (o :: rest) a w := by
  refine wpList_lookup_own_ok w hg m x t hop k e K ht serElem hz .nil [] rfl b n D hm hown key kl hx hkey fun v ps hv => ?_
  rw [Maps.atKey_of_not_has hhas] at hv
  rw [serElem_nil hv, hhas]
  exact hK

theorem wpList_look_old {P : Program} (w : World) {ops : Array Oper} {rest : List Oper} {o : Oper} {a : Act} {Q : Exit → Act → World → Prop}
    (hg : o.guard = none) (m x : Operand) (t : TypeId) (hop : o.op = Op.lookup t m x true)
    (k e : TypeId) (K : Keyed P k) (ht : P.underlying t = some (.map k e)) (hz : (zeroValue e).run P w = .ok (.slice none 0 0) w) (b n : Nat) (D : DataW Unit)
    (hm : a.eval m = .map (some b)) (hown : w.ownsMap P k serElem b n D) (key : Value) (kl : Lit) (hx : a.eval x = key) (hkey : keyOf P k key = some kl) (hhas : Maps.has D kl = true)
    (y p q c : Nat) (hat : ∀ z, D.atKey kl z = serDat y p q c)
    (hK : wpList P ops Q rest (a.put o.dst (.tuple #[.slice (some ⟨y, p, none⟩) q c, .bool true])) w) :
    wpList P ops Q (o :: rest) a w := by
  refine wpList_lookup_own_ok w hg m x t hop k e K ht serElem hz .nil [] rfl b n D hm hown key kl hx hkey fun v ps hv => ?_
  rw [hat] at hv
  rw [serElem_inv hv, hhas]
  exact hK

theorem wpList_look_at {P : Program} (w : World) {ops : Array Oper} {rest : List Oper} {o : Oper} {a : Act} {Q : Exit → Act → World → Prop}
    (hg : o.guard = none) (m x : Operand) (t : TypeId) (hop : o.op = Op.lookup t m x false)
    (k e : TypeId) (K : Keyed P k) (ht : P.underlying t = some (.map k e)) (hz : (zeroValue e).run P w = .ok (.slice none 0 0) w) (b n : Nat) (D : DataW Unit)
    (hm : a.eval m = .map (some b)) (hown : w.ownsMap P k serElem b n D) (key : Value) (kl : Lit) (hx : a.eval x = key) (hkey : keyOf P k key = some kl)
    (y p q c : Nat) (hat : ∀ z, D.atKey kl z = serDat y p q c)
    (hK : wpList P ops Q rest (a.put o.dst (.slice (some ⟨y, p, none⟩) q c)) w) :
    wpList P ops Q (o :: rest) a w := by
  refine wpList_plain hg fun K' hK' => ?_
  obtain ⟨v, ps, hrun, hv⟩ := hown.lookup K ht hz (R := serElem) (zd := .nil) (zp := []) rfl hkey
  rw [hat] at hv
  have e := serElem_inv hv
  subst e
  unfold Oper.wp
  simp [execOp, hop, hm, hx, hrun, Result.andThen]
  exact hK' _ _ hK

theorem below_some {w w' : World} {b : Nat} (h : Below w.heap.size w w') : w.grownBy w' (some b) := ⟨h.os, h.tape, h.output, h.size, fun k hk _ => h.block k hk⟩

/-- A power that is kept. -/
def PowOld (b n : Nat) (f : Nat → Int) (w : World) (e : Ending) (w' : World) : Prop :=
  w = w' ∧ ∃ x o c, e = .returned (.tuple #[.slice (some ⟨x, o, none⟩) n c, .bool true]) ∧ x ≠ b ∧ NumO w (some ⟨x, o, none⟩) n f

set_option maxRecDepth 100000 in
set_option maxHeartbeats 1000000 in
theorem power_old (n m k b : Nat) (g : Nat → Int) (z : Int) (w : World) (hz : z = ((k + 1 : Nat) : Int)) (hk : k < m) (hm : m ≤ 100) (hp : PowM w b g n m) :
    Calls Try.prog 56 #[.map (some b), .int .i64 z] w (PowOld b n (serPow g k) w) := by
  obtain ⟨D, h1, h2, h3, h4⟩ := hp.own
  obtain ⟨x, o, c, e1, e2, e3, e4⟩ := h3 (k + 1) (by omega) (by omega)
  have hkey : keyOf Try.prog 3 (.int .i64 z) = some (.int .i64 ((k + 1 : Nat) : Int)) := by rw [hz]; exact serKeyOf (by omega)
  have H1 := Lib.hid h1
  have HKY := Lib.hid hkey
  have E1 := Lib.hid e1
  have E2 := Lib.hid e2
  have E4 := Lib.hid e4
  clear h1 h2 h3 h4 hkey e1 e2 e4 hp hz
  go_enter Try.func56, Try.ntmps56
  go_wp2_with (at_lookup; refine wpList_look_old _ rfl _ _ 45 rfl 3 36 serKey Try.underlying45 (zeroSer _) b m D rfl H1.out _ _ rfl HKY.out E2.out x o n c E1.out ?_)
  go_ret2
  exact ⟨rfl, x, o, c, rfl, e3, by rw [Nat.add_sub_cancel] at E4; exact E4.out⟩

/-- Another power. -/
def PowNew (b n m : Nat) (g : Nat → Int) (w : World) (e : Ending) (w' : World) : Prop :=
  w.grownBy w' (some b) ∧ ((serIn n 1000000000000 (serPow g (m + 1)) = false ∧ PowM w' b g n (m + 1) ∧ e = .returned (.tuple #[.slice none 0 0, .bool false])) ∨
    (serIn n 1000000000000 (serPow g (m + 1)) = true ∧ PowM w' b g n (m + 2) ∧ ∃ x c, e = .returned (.tuple #[.slice (some ⟨x, 0, none⟩) n c, .bool true]) ∧ x ≠ b ∧ NumO w' (some ⟨x, 0, none⟩) n (serPow g (m + 1))))

set_option maxRecDepth 100000 in
set_option maxHeartbeats 1000000 in
theorem power_new (q m b : Nat) (g : Nat → Int) (z : Int) (w : World) (hz : z = ((m + 2 : Nat) : Int)) (hq : 1 ≤ q) (hq2 : q ≤ 7) (hm : m ≤ 20) (hg0 : ∀ j, j < q + 1 → -1000000 ≤ g j ∧ g j ≤ 1000000) (hl0 : ∀ j, j < q + 1 → -1000000000000 ≤ serPow g m j ∧ serPow g m j ≤ 1000000000000) (hp : PowM w b g (q + 1) (m + 1)) :
    Calls Try.prog 56 #[.map (some b), .int .i64 z] w (PowNew b (q + 1) m g w) := by
  obtain ⟨i0, hi0, hz0, hzs, hzb⟩ := info_parts infoNum
  obtain ⟨D, h1, h2, h3, h4⟩ := hp.own
  have hblt := hp.lt
  obtain ⟨x, o, c, e1, e2, e3, e4⟩ := h3 1 (by omega) (by omega)
  have HP := Lib.hid hp
  have hkey : keyOf Try.prog 3 (.int .i64 z) = some (.int .i64 ((m + 2 : Nat) : Int)) := by rw [hz]; exact serKeyOf (by omega)
  have hno : Maps.has D (.int .i64 ((m + 2 : Nat) : Int)) = false := h4 (m + 2) (by omega) (by omega)
  have HOLD := Lib.hid (power_old (q + 1) (m + 1) m b g (z - 1) w (by rw [hz]; omega) (by omega) (by omega) hp)
  have H1 := Lib.hid h1
  have H2 := Lib.hid h2
  have H3 := Lib.hid h3
  have H4 := Lib.hid h4
  have HKY := Lib.hid hkey
  have HNO := Lib.hid hno
  have E1 := Lib.hid e1
  have E4 := Lib.hid e4
  have HG0 := Lib.hid hg0
  have HL0 := Lib.hid hl0
  have hw1 : IntKind.i64.wrap (z - 1) = z - 1 := by rw [IntKind.wrap_i64]; omega
  clear h1 h2 h3 h4 hkey hno e1 e2 e4 hp hz hg0 hl0
  go_enter Try.func56, Try.ntmps56
  go_wp2_with (at_lookup; refine wpList_look_new _ rfl _ _ 45 rfl 3 36 serKey Try.underlying45 (zeroSer _) b (m + 1) D rfl H1.out _ _ rfl HKY.out HNO.out ?_)
  refine HOLD.out.mono ?_
  rintro e w1 ⟨rfl, x1, o1, c1, rfl, hx1, hn1⟩
  have HN1 := Lib.hid hn1
  have HPR := Lib.hid (serProd_any (q + 1) (serPow g m) g (some ⟨x1, o1, none⟩) (some ⟨x, o, none⟩) c1 c w (by omega) HL0.out HG0.out hn1 E4.out)
  clear hn1
  go_wp2_with (at_lookup; refine wpList_look_at _ rfl _ _ 45 rfl 3 36 serKey Try.underlying45 (zeroSer _) b (m + 1) D rfl H1.out _ _ rfl (serKeyOf (k := 1) (by omega)) x o (q + 1) c E1.out ?_)
  refine HPR.out.mono ?_
  rintro e w2 ⟨hB2, g2, c2, rfl, hg2, hc2, hr2⟩
  have HB2 := Lib.hid hB2
  have HR2 := Lib.hid hr2
  have R0 : Hid ((w2.alloc (.cells #[.int .i64 0] 3)).ownsRow w2.heap.size 3 1 (.slice (some ⟨w2.heap.size, 0, none⟩) 1 1) 1 [.int .i64 0]) := Lib.hid (World.ownsRow_lit w2 #[.int .i64 0] 1 (Nat.le_refl _) (by simp [maxLen]) rfl)
  have hs2 := hB2.size
  clear hB2 hr2
  have hq0 : (0 : Int) ≤ q := by omega
  have hw2 : IntKind.i64.wrap ((q : Int) + 1 - 1) = (q : Int) := by rw [IntKind.wrap_i64]; omega
  go_wp2_with (at_builtin; refine wpList_append_new _ rfl _ _ 36 rfl w2.heap.size 3 i0 (.int .i64 0) 1 8 Try.underlying36 hi0 hz0 hzs hzb rfl (by decide) _ _ _ rfl R0.out ⟨g2, 0, none⟩ q _ (numVals q (serMul (serPow g m) g)) hq rfl ?c1 ?c2 ?c3 ?c4 ?c5 ?c6 ?_)
  case c1 => rw [numVals_length]; omega
  case c2 =>
    intro j u hu
    have hj : j < q := by
      have := (List.getElem?_eq_some_iff.1 hu).1
      rw [numVals_length] at this; exact this
    rw [numVals_get hj] at hu
    simp only [Option.some.injEq] at hu
    subst hu
    have e : (⟨g2, 0, none⟩ : Addr).add j = ⟨g2, j, none⟩ := by unfold Addr.add; split <;> simp_all
    rw [e]
    exact keep1 ((Below.refl _ _).alloc (Nat.le_refl _) _) (HR2.out.cell (by omega))
  case c3 =>
    intro u hu
    obtain ⟨j, _, rfl⟩ := List.mem_map.1 hu
    rfl
  case c4 => unfold maxLen; omega
  case c5 => omega
  case c6 => simp
  intro g3 c3 w3 hown hgr _
  have hn3 := NumR.of_owns hown (f := serPow g (m + 1)) (fun j hj => by
    cases j with
    | zero => rfl
    | succ j =>
      show (numVals q (serMul (serPow g m) g))[j]? = _
      rw [numVals_get (by omega)]
      rfl)
  rw [Nat.add_comm 1 q] at hn3 ⊢
  have HN3 := Lib.hid hn3.1
  have hg3 : w.heap.size ≤ g3 := by have := hn3.2.1; omega
  have HB3 : Hid (Below w.heap.size w w3) := Lib.hid ((HB2.out.alloc (by omega) _).grown hgr (by simp; omega) (fun y e => by simp [Value.ownBlock] at e; omega))
  have HIW := Lib.hid (isWithin_any (q + 1) (serPow g (m + 1)) (some ⟨g3, 0, none⟩) c3 1000000000000 w3 (by omega) (by omega) (by omega) hn3.1.o)
  obtain ⟨bb, hbb⟩ : ∃ bb, serIn (q + 1) 1000000000000 (serPow g (m + 1)) = bb := ⟨_, rfl⟩
  rw [hbb] at HIW
  have HBB := Lib.hid hbb
  clear hn3 hown hgr hbb
  go_wp2_with fail
  refine HIW.out.mono ?_
  rintro e w4 ⟨rfl, hB4⟩
  have HB4 := Lib.hid (below_step HB3.out hB4)
  have HN4 := Lib.hid (HN3.out.below hB4)
  clear hB4
  cases bb
  · go_wp2_with fail
    go_ret2
    exact ⟨below_some HB4.out, .inl ⟨HBB.out, HP.out.below HB4.out, rfl⟩⟩
  · have HO4 := Lib.hid (H1.out.kept HB4.out.grownBy (by simp))
    go_wp2_with (at_mapUpdate; refine wpList_mapUpdate_own _ rfl _ _ _ 45 rfl 3 36 serKey Try.underlying45 serElem b (m + 1) D rfl HO4.out (by unfold maxLen; omega) _ _ _ rfl rfl HKY.out (serDat g3 0 (q + 1) c3) [] rfl ?_)
    intro w5 hown5 hg5
    have HO5 := Lib.hid hown5
    have HG5 := Lib.hid hg5
    clear hown5 hg5
    go_wp2_with fail
    go_ret2
    have hne : g3 ≠ b := by omega
    refine ⟨(below_some HB4.out).trans HG5.out, .inr ⟨HBB.out, ?_, g3, c3, rfl, hne, HN4.out.o.kept HG5.out hne⟩⟩
    exact PowM.next (m := m + 1) (D := D) (x := g3) (o := 0) (c := c3) (fun k k1 k2 => by
      obtain ⟨x', o', c', a1, a2, a3, a4⟩ := H3.out k k1 k2
      exact ⟨x', o', c', a1, a2, a3, a4.below HB4.out⟩) H4.out H2.out HG5.out HO5.out hne HN4.out.o

/-- How many powers are kept ahead of the round i. -/
def powKept (i : Nat) : Nat := if i = 0 then 1 else i

/-- The power i + 1 by the program. -/
def PowStep (b n i : Nat) (g : Nat → Int) (w : World) (e : Ending) (w' : World) : Prop :=
  w.grownBy w' (some b) ∧ ((serIn n 1000000000000 (serPow g i) = false ∧ PowM w' b g n (powKept i) ∧ e = .returned (.tuple #[.slice none 0 0, .bool false])) ∨
    (serIn n 1000000000000 (serPow g i) = true ∧ PowM w' b g n (powKept (i + 1)) ∧ ∃ x o c, e = .returned (.tuple #[.slice (some ⟨x, o, none⟩) n c, .bool true]) ∧ x ≠ b ∧ NumO w' (some ⟨x, o, none⟩) n (serPow g i)))

theorem power_any (n i b : Nat) (g : Nat → Int) (z : Int) (w : World) (hz : z = ((i + 1 : Nat) : Int)) (hn : n ≤ 8) (hi : i < n) (hg0 : ∀ j, j < n → -1000000 ≤ g j ∧ g j ≤ 1000000) (hl0 : ∀ t, t < i → serIn n 1000000000000 (serPow g t) = true) (hp : PowM w b g n (powKept i)) :
    Calls Try.prog 56 #[.map (some b), .int .i64 z] w (PowStep b n i g w) := by
  rcases i with _ | m
  · have h := power_old n 1 0 b g z w hz (by omega) (by omega) hp
    refine h.mono ?_
    rintro e w' ⟨rfl, x, o, c, h1, h2, h3⟩
    exact ⟨grownBy_refl _ _, .inr ⟨serIn_iff.2 (fun j hj => by have := hg0 j hj; show _ ≤ g j ∧ g j ≤ _; omega), hp, x, o, c, h1, h2, h3⟩⟩
  · obtain ⟨q, rfl⟩ : ∃ q, n = q + 1 := ⟨n - 1, by omega⟩
    have h := power_new q m b g z w hz (by omega) (by omega) (by omega) hg0 (fun j hj => serIn_iff.1 (hl0 m (by omega)) j hj) hp
    refine h.mono ?_
    rintro e w' ⟨h1, ⟨h2, h3, h4⟩ | ⟨h2, h3, x, c, h4, h5, h6⟩⟩
    · exact ⟨h1, .inl ⟨h2, h3, h4⟩⟩
    · exact ⟨h1, .inr ⟨h2, h3, x, 0, c, h4, h5, h6⟩⟩

end Go.Proofs.Ytnobpckmlhgeiaa
