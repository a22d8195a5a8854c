/- The powers that are kept, in a map. -/
import Derived.Test.YtnobpckmlhgeiaaSerK
import Derived.Maps.OwnSet
import Derived.Maps.OwnOps
namespace Go.Proofs.Ytnobpckmlhgeiaa
open Go.RowKit Go.ChangeMaps Go.MapKept
open Go.WideElems (Fit rd rg pl rd_val elemAt)
open Go.Maps (Keyed)

/-- How a kept series reads. -/
def serElem : Value → Option (DataW Unit × List MemPlace)
  | .slice none 0 0 => some (.nil, [])
  | .slice (some ⟨b, o, none⟩) n c => some (.agg [.lit (.int .i64 b), .lit (.int .i64 o), .lit (.int .i64 n), .lit (.int .i64 c)], [])
  | _ => none

/-- The datum of a kept series. -/
def serDat (b o n c : Nat) : DataW Unit := .agg [.lit (.int .i64 b), .lit (.int .i64 o), .lit (.int .i64 n), .lit (.int .i64 c)]

theorem serElem_mk (b o n c : Nat) : serElem (.slice (some ⟨b, o, none⟩) n c) = some (serDat b o n c, []) := rfl

theorem serElem_inv {v : Value} {b o n c : Nat} {ps : List MemPlace} (h : serElem v = some (serDat b o n c, ps)) : v = .slice (some ⟨b, o, none⟩) n c := by
  unfold serElem at h
  split at h
  · cases h
  · rename_i b' o' n' c'
    simp only [serDat, Option.some.injEq, Prod.mk.injEq, DataW.agg.injEq, List.cons.injEq, DataW.lit.injEq, Lit.int.injEq, true_and, and_true] at h
    obtain ⟨⟨h1, h2, h3, h4⟩, _⟩ := h
    have e1 : b' = b := by omega
    have e2 : o' = o := by omega
    have e3 : n' = n := by omega
    have e4 : c' = c := by omega
    subst e1 e2 e3 e4
    rfl
  · cases h

theorem serKey : Keyed Try.prog 3 := Go.Maps.int_keyed Try.underlying3

theorem serKeyOf {k : Nat} (hk : k ≤ 1000) : keyOf Try.prog 3 (.int .i64 k) = some (.int .i64 k) :=
  Go.Maps.keyOf_int_mk Try.underlying3 (by simp [Lit.wf, IntKind.min, IntKind.max, IntKind.signed, IntKind.bits]; omega)

theorem zeroSer (w : World) : (zeroValue 36).run Try.prog w = .ok (.slice none 0 0) w := by kernel_rfl

/-- 'clear(m)'. -/
theorem owns_clears {H : Type} {P : Program} {k : TypeId} {R : Value → Option (DataW H × List MemPlace)} {w : World} {b n : Nat} {D : DataW H} {t e : TypeId} (h : w.ownsMap P k R b n D) (ht : P.underlying t = some (.map k e)) (ty : TypeId) :
    ∃ w', (Builtin.clear_ #[t] ty #[.map (some b)]).run P w = .ok (.tuple #[]) w' ∧ w'.ownsMap P k R b 0 (.map []) ∧ w.mapTurned w' b := by
  obtain ⟨es, clock, hb, F, hs, rfl⟩ := h
  refine ⟨_, by simp [Builtin.clear_, run_underlying ht, MapKept.run_getObj_map hb, MapKept.run_setObj_map _ hb, Result.andThen, setBlock], ⟨#[], clock, heap_setBlock_same hb _, ⟨by simp, stamped_empty clock, by simp⟩, Nat.le_refl _, rfl⟩, ⟨es, clock, #[], clock, hb, rfl⟩⟩

theorem wpList_clear_own {H : Type} {P : Program} (w : World) {ops : Array Oper} {rest : List Oper} {o : Oper} {a : Act} {Q : Exit → Act → World → Prop}
    (hg : o.guard = none) (m : Operand) (t : TypeId) (hop : o.op = Op.call { callee := Callee.builtin Builtin.clear, args := #[m], argTypes := #[t] })
    (k e : TypeId) (ht : P.underlying t = some (.map k e)) (R : Value → Option (DataW H × List MemPlace)) (b n : Nat) (D : DataW H)
    (hm : a.eval m = .map (some b)) (hown : w.ownsMap P k R b n D)
    (hK : ∀ w', w'.ownsMap P k R b 0 (.map []) → w.mapTurned w' b → wpList P ops Q rest (a.put o.dst (.tuple #[])) w') :
    wpList P ops Q (o :: rest) a w := by
  refine wpList_plain hg fun K' hK' => ?_
  obtain ⟨w', hrun, r1, r2⟩ := owns_clears hown ht o.type
  unfold Oper.wp
  simp [execOp, hop, resolve, invoke, builtin, hm, hrun, Result.andThen]
  exact hK' _ _ (hK w' r1 r2)

/-- The powers up to m are kept in the map b. -/
structure PowM (w : World) (b : Nat) (g : Nat → Int) (n m : Nat) : Prop where
  own : ∃ D, w.ownsMap Try.prog 3 serElem b m D ∧ Maps.IsMap D ∧ (∀ k, 1 ≤ k → k ≤ m → ∃ x o c, (∀ z, D.atKey (.int .i64 (k : Nat)) z = serDat x o n c) ∧ Maps.has D (.int .i64 (k : Nat)) = true ∧ x ≠ b ∧ NumO w (some ⟨x, o, none⟩) n (serPow g (k - 1))) ∧ (∀ k, m < k → k ≤ 1000 → Maps.has D (.int .i64 (k : Nat)) = false)

theorem NumO.kept {w w' : World} {x o n b : Nat} {f : Nat → Int} (h : NumO w (some ⟨x, o, none⟩) n f) (hg : w.grownBy w' (some b)) (hne : x ≠ b) : NumO w' (some ⟨x, o, none⟩) n f := fun j hj => by
  obtain ⟨x', o', e, hc⟩ := h j hj
  simp only [Option.some.injEq, Addr.mk.injEq] at e
  obtain ⟨rfl, rfl, _⟩ := e
  have hlt := World.block_lt_of_cell? w _ hc
  exact ⟨x, o, rfl, by rw [World.cell?_of_block (hg.block x hlt (fun e => hne (by simp only [Option.some.injEq] at e; exact e)))]; exact hc⟩

theorem PowM.below {w w' : World} {b n m : Nat} {g : Nat → Int} (h : PowM w b g n m) (hb : Below w.heap.size w w') : PowM w' b g n m := by
  obtain ⟨D, h1, h2, h3, h4⟩ := h.own
  refine ⟨D, h1.kept hb.grownBy (by simp), h2, fun k k1 k2 => ?_, h4⟩
  obtain ⟨x, o, c, e1, e2, e3, e4⟩ := h3 k k1 k2
  exact ⟨x, o, c, e1, e2, e3, e4.below hb⟩

theorem PowM.lt {w : World} {b n m : Nat} {g : Nat → Int} (h : PowM w b g n m) : b < w.heap.size := by
  obtain ⟨D, h1, _⟩ := h.own
  exact h1.lt

theorem serLit_ne {k m : Nat} (h : k ≠ m) : (Lit.int .i64 (k : Nat)) ≠ Lit.int .i64 (m : Nat) := fun e => by
  simp only [Lit.int.injEq, true_and] at e
  omega

theorem serIsKey (k : Nat) : WideAt.IsKeyLit (Lit.int .i64 (k : Nat)) := by simp [WideAt.IsKeyLit]

/-- Another power. -/
theorem PowM.next {w w' : World} {b n m x o c : Nat} {g : Nat → Int} {D : DataW Unit} (h3 : ∀ k, 1 ≤ k → k ≤ m → ∃ x o c, (∀ z, D.atKey (.int .i64 (k : Nat)) z = serDat x o n c) ∧ Maps.has D (.int .i64 (k : Nat)) = true ∧ x ≠ b ∧ NumO w (some ⟨x, o, none⟩) n (serPow g (k - 1)))
    (h4 : ∀ k, m < k → k ≤ 1000 → Maps.has D (.int .i64 (k : Nat)) = false) (h2 : Maps.IsMap D) (hg : w.grownBy w' (some b)) (hown : w'.ownsMap Try.prog 3 serElem b (m + 1) (D.put (.int .i64 (m + 1 : Nat)) (serDat x o n c)))
    (hx : x ≠ b) (hn : NumO w (some ⟨x, o, none⟩) n (serPow g m)) : PowM w' b g n (m + 1) := by
  refine ⟨_, hown, h2.put _ _, fun k k1 k2 => ?_, fun k k1 k2 => ?_⟩
  · by_cases e : k = m + 1
    · subst e
      exact ⟨x, o, c, fun z => Maps.atKey_put_same h2 (serIsKey _) _ z, Maps.has_put_same h2 (serIsKey _) _, hx, by rw [Nat.add_sub_cancel]; exact hn.kept hg hx⟩
    · obtain ⟨x', o', c', e1, e2, e3, e4⟩ := h3 k k1 (by omega)
      exact ⟨x', o', c', fun z => by rw [Maps.atKey_put_other (serLit_ne e)]; exact e1 z, by rw [Maps.has_put_other (serLit_ne e)]; exact e2, e3, e4.kept hg e3⟩
  · rw [Maps.has_put_other (serLit_ne (by omega))]
    exact h4 k (by omega) k2

set_option maxRecDepth 100000 in
set_option maxHeartbeats 1000000 in
theorem begin_any (n : Nat) (g : Nat → Int) (x o c b m : Nat) (D : DataW Unit) (w : World) (hl : NumO w (some ⟨x, o, none⟩) n g) (hne : x ≠ b) (hm : w.ownsMap Try.prog 3 serElem b m D) :
    Calls Try.prog 55 #[.map (some b), .slice (some ⟨x, o, none⟩) n c] w fun e w' => e = .returned (.tuple #[]) ∧ w.grownBy w' (some b) ∧ PowM w' b g n 1 := by
  have HL := Lib.hid hl
  have HM := Lib.hid hm
  have HNE := Lib.hid hne
  clear hl hm hne
  go_enter Try.func55, Try.ntmps55
  go_wp2_with (refine wpList_clear_own _ rfl _ 45 rfl 3 36 Try.underlying45 serElem b m D rfl HM.out ?_)
  intro w1 hown hturn
  have HO := Lib.hid hown
  have HG := Lib.hid hturn.grown
  clear hown hturn
  go_wp2_with (at_mapUpdate; refine wpList_mapUpdate_own _ rfl _ _ _ 45 rfl 3 36 serKey Try.underlying45 serElem b 0 (.map []) rfl HO.out (by unfold maxLen; omega) _ _ (.int .i64 (1 : Nat)) rfl rfl (serKeyOf (k := 1) (by omega)) (serDat x o n c) [] rfl ?_)
  intro w2 hown2 hg2
  have HO2 := Lib.hid hown2
  have HG2 := Lib.hid hg2
  clear hown2 hg2
  go_wp2_with fail
  go_end0
  refine ⟨rfl, HG.out.trans HG2.out, ?_⟩
  exact PowM.next (m := 0) (D := .map []) (fun k k1 k2 => by omega) (fun k _ _ => rfl) ⟨[], rfl⟩ HG2.out HO2.out HNE.out (HL.out.kept HG.out HNE.out)

end Go.Proofs.Ytnobpckmlhgeiaa
