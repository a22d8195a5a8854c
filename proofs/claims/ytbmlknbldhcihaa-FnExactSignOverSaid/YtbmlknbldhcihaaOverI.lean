/- Is a tree over a signature? By the program. -/
import Derived.Test.YtbmlknbldhcihaaRoundQ
namespace Go.Proofs.Ytbmlknbldhcihaa
open Go.RowKit Go.Shelf Go.Maps
open Go.WideMaps (keyOf_string_mk)

attribute [local go_sem] Oper.semAt_some

theorem cell_of_box' {W : World} {B : Nat} {v : Value} {t : TypeId} (h : W.heap[B]? = some (.cells #[v] t (0, 0))) : W.cell? ⟨B, 0, none⟩ = some v ∧ W.frozen? ⟨B, 0, none⟩ = false := by
  constructor <;> simp [World.cell?, World.frozen?, h]
theorem cell_new' (W : World) (v : Value) (t : TypeId) : (W.alloc (.cells #[v] t)).cell? ⟨W.heap.size, 0, none⟩ = some v ∧ (W.alloc (.cells #[v] t)).frozen? ⟨W.heap.size, 0, none⟩ = false :=
  cell_of_box' (World.alloc_heap_new W _)
theorem cell_alloc' {W : World} {a : Addr} {v : Value} (o : Obj) (h : W.cell? a = some v) : (W.alloc o).cell? a = some v := cell_kept h (World.grownBy_alloc W o none) (fun r e => by cases e)
theorem frozen_alloc' {W : World} {a : Addr} {v : Value} (o : Obj) (h : W.cell? a = some v) (hf : W.frozen? a = false) : (W.alloc o).frozen? a = false := (frozen_kept h (World.grownBy_alloc W o none) (fun r e => by cases e)).trans hf

set_option maxHeartbeats 1000000 in
theorem nodesOf1_in (F : Fence) (hd : F.depth = none) (n : Nat) (h5 : F.fn 108) (h6 : F.fn 109) (hro : F.round = none) (l Bt : Nat) (w0 : World) (n₀ : Nat) (xs : List (NodeA w0 n₀)) (ty : TypeId) (a : Addr) (J Jx : List (NodeA w0 n₀) → World → Prop)
    (hY : ∀ pre x W, J pre W → pre.length < xs.length → YieldAt F (n - 1) Try.prog l #[.pointer (some ⟨x.b, 0, none⟩)] W fun e W' =>
      (e = .returned (.bool true) ∧ J (pre ++ [x]) W' ∧ Below n₀ W W') ∨ (e = .returned (.bool false) ∧ Jx (pre ++ [x]) W'))
    (W : World) (hB0 : Below n₀ w0 W) (hBt : W.cell? ⟨Bt, 0, none⟩ = some (.iface ty (.pointer (some a)))) (hv : Visits w0 n₀ xs (.iface ty (.pointer (some a)))) (h0 : J [] W) :
    CallsIn F n Try.prog 108 #[.func (.yield l) #[] #[], .pointer (some ⟨Bt, 0, none⟩)] W fun e W' => (∃ v, e = .returned v) ∧
      ((∃ ys, ys = xs ∧ J ys W') ∨ (∃ pre, pre <+: xs ∧ Jx pre W')) := by
  have hdd : ∀ k : Nat, (F.depth.isSome = true → 1 ≤ k) := fun k h => by rw [hd] at h; cases h
  have hp := hv F hd h6 hro l xs.length J Jx (fun m pre x W hj hl => yield_any hd m (hY pre x W hj hl)) (n - 1) [] W hB0 h0 (by simp)
  refine callsIn_of_wp Try.func108 rfl h5 ?_ hro
  simp only [Try.ntmps108, List.size_toArray, List.length_cons, List.length_nil, Nat.reduceAdd, Nat.reduceSub, Array.replicate_succ, Array.replicate_zero, List.push_toArray, List.append_toArray, List.nil_append, List.cons_append]
  gi_wp2_with ((try refine ⟨hdd _, ?_⟩); gi_at_call 109; refine hp.mono ?_; clear hp; rintro e W1 (⟨rfl, hJ1, _⟩ | ⟨rfl, q, hq, hx⟩))
  · go_end0
    exact ⟨⟨_, rfl⟩, .inl ⟨_, rfl, by simpa using hJ1⟩⟩
  · go_end0
    exact ⟨⟨_, rfl⟩, .inr ⟨q, hq, by simpa using hx⟩⟩

theorem nodes_stops (F : Fence) (hd : F.depth = none) (n : Nat) (h5 : F.fn 108) (h6 : F.fn 109) (hro : F.round = none) (Bt : Nat) (w0 : World) (n₀ : Nat) (xs : List (NodeA w0 n₀)) (ty : TypeId) (a : Addr) (w : World) (hBt : Bt < w.heap.size) (hn₀ : n₀ ≤ w.heap.size)
    (hB0 : Below n₀ w0 w) (hc : w.cell? ⟨Bt, 0, none⟩ = some (.iface ty (.pointer (some a)))) (hv : Visits w0 n₀ xs (.iface ty (.pointer (some a)))) :
    SeqStopsK F n Try.prog 108 #[.pointer (some ⟨Bt, 0, none⟩)] (fun x : NodeA w0 n₀ => #[Value.pointer (some ⟨x.b, 0, none⟩)]) (Below n₀) (fun ys => ys = xs) (fun pre => pre <+: xs) xs.length w := fun l J Jx W hW _ _ hY h0 =>
  nodesOf1_in F hd n h5 h6 hro l Bt w0 n₀ xs ty a J Jx hY W (hB0.trans (hW.mono hn₀)) ((hW.cell (p := ⟨Bt, 0, none⟩) hBt).trans hc) hv h0

set_option maxHeartbeats 1000000 in
theorem nodesOf_in (F : Fence) (n : Nat) (h4 : F.fn 98) (hro : F.round = none) (ty : TypeId) (a : Addr) (w : World) :
    CallsIn F n Try.prog 98 #[.iface ty (.pointer (some a))] w fun e w' => e = .returned (.func (.func 108) #[] #[.pointer (some ⟨w.heap.size, 0, none⟩)]) ∧ w' = w.alloc (.cells #[.iface ty (.pointer (some a))] 65) := by
  refine callsIn_of_wp Try.func98 rfl h4 ?_ hro
  simp only [Try.ntmps98, List.size_toArray, List.length_cons, List.length_nil, Nat.reduceAdd, Nat.reduceSub, Array.replicate_succ, Array.replicate_zero, List.push_toArray, List.append_toArray, List.nil_append, List.cons_append]
  gi_wp2
  go_ret
  exact ⟨rfl, rfl⟩

theorem keeps_drewN (W : World) (n : Nat) : KeepsOthers W (W.drewN n) := ⟨Nat.le_refl _, fun _ _ h _ => h⟩

/-- A node's letter has the node's arity. -/
def okNode (D : DataW Unit) (y : UInt8 × Nat) : Prop := D.atKey (keyL ⟨#[y.1]⟩) (arL 0) = arL y.2

set_option maxRecDepth 100000 in
set_option maxHeartbeats 4000000 in
theorem isOver_in (F : Fence) (hd : F.depth = none) (n : Nat) (h3 : F.fn 84) (h4 : F.fn 98) (h5 : F.fn 108) (h6 : F.fn 109) (hro : F.round = none) (hn : 3 ≤ n)
    (B : Nat) (nb : Nat) (D : DataW Unit) (ty : TypeId) (a : Addr) (w : World) (xs : List (NodeA w w.heap.size)) (hown : w.ownsMap Try.prog 9 (plainElem Try.prog 3) B nb D) (hv : Visits w w.heap.size xs (.iface ty (.pointer (some a)))) :
    CallsIn F n Try.prog 84 #[.map (some B), .iface ty (.pointer (some a))] w fun e W' => Below w.heap.size w W' ∧ ∃ b, e = .returned (.bool b) ∧ (b = true ↔ ∀ y ∈ xs, okNode D y.key) := by
  have h1 : 1 ≤ n := by omega
  refine callsIn_of_wp_marks Try.func84 rfl h3 ?_ hro
  simp only [Try.ntmps84, List.size_toArray, List.length_cons, List.length_nil, Nat.reduceAdd, Nat.reduceSub, Array.replicate_succ, Array.replicate_zero, List.push_toArray, List.append_toArray, List.nil_append, List.cons_append]
  gi_wp2_with (gi_at_call 98; refine (nodesOf_in F (n - 1) h4 hro _ _ _).mono ?_; rintro e w' ⟨rfl, rfl⟩)
  have c0 := cell_new' w (.map (some B)) 94
  have c1 := cell_new' (w.alloc (.cells #[.map (some B)] 94)) (.bool false) 4
  have c2 := cell_new' ((w.alloc (.cells #[.map (some B)] 94)).alloc (.cells #[.bool false] 4)) (.iface ty (.pointer (some a))) 65
  simp only [World.size_alloc] at c1 c2
  have hB0 : Below w.heap.size w (((w.alloc (.cells #[.map (some B)] 94)).alloc (.cells #[.bool false] 4)).alloc (.cells #[.iface ty (.pointer (some a))] 65)) := (((Below.refl _ w).alloc (Nat.le_refl _) _).alloc (by simp) _).alloc (by simp; omega) _
  refine wpIn_rangeFunc_ownF hro h1 (gf := 108) (lb := #[.pointer (some ⟨w.heap.size + 1 + 1, 0, none⟩)]) rfl h5 (enters_of Try.func108 (by kernel_rfl) rfl)
    (nodes_stops F hd (n - 1) h5 h6 hro (w.heap.size + 1 + 1) w w.heap.size xs ty a _ (by simp) (by simp; omega) hB0 c2.1 hv) belowK_t (belowK_b (by simp; omega)) (Below.refl _ _) (fun _ => rfl)
    (fun pre W => ((∀ y ∈ pre, okNode D y.key) ∧ W.cell? ⟨w.heap.size, 0, none⟩ = some (.map (some B)) ∧ W.cell? ⟨w.heap.size + 1, 0, none⟩ = some (.bool false) ∧ W.frozen? ⟨w.heap.size + 1, 0, none⟩ = false) ∧ Below w.heap.size w W)
    (fun c pre W => (c = .ret ∧ (∃ y ∈ pre, ¬ okNode D y.key) ∧ W.cell? ⟨w.heap.size + 1, 0, none⟩ = some (.bool false)) ∧ Below w.heap.size w W)
    (OwnFrom.and (Own.from (fun s A B row hs hg hr => ⟨hs.1, cell_kept hs.2.1 hg hr, cell_kept hs.2.2.1 hg hr, (frozen_kept hs.2.2.1 hg hr).trans hs.2.2.2⟩) _) (ownFrom_below (Nat.le_refl _) (by simp; omega)))
    (fun c => OwnFrom.and (Own.from (fun s A B row hs hg hr => ⟨hs.1, hs.2.1, cell_kept hs.2.2 hg hr⟩) _) (ownFrom_below (Nat.le_refl _) (by simp; omega)))
    ⟨⟨by simp, cell_alloc' _ (cell_alloc' _ c0.1), cell_alloc' _ c1.1, frozen_alloc' _ c1.1 c1.2⟩, hB0⟩
    (fun x => { tmps := #[.map (some B), .iface ty (.pointer (some a)), .pointer (some ⟨w.heap.size, 0, none⟩), undef, .pointer (some ⟨w.heap.size + 1, 0, none⟩), .pointer (some ⟨x.b, 0, none⟩), .iface ty (.pointer (some a)), .func (.func 108) #[] #[.pointer (some ⟨w.heap.size + 1 + 1, 0, none⟩)], .pointer (some ⟨x.b, 0, none⟩), undef, undef, undef, undef, undef, undef, undef, undef, undef, undef, undef, undef], defers := [] }) ?assign ?body ?done ?stop
  case assign =>
    intro l x W K hK
    gi_wp2
    exact hK
  case body =>
    rintro l pre x W ⟨⟨hp, hcw, hcr, hfr⟩, hB⟩ _
    have y0 := (hB.cell (p := ⟨x.b, 0, none⟩) x.hb).trans x.h0
    have y1 := (hB.cell (p := ⟨x.b, 1, none⟩) x.hb).trans x.h1
    have HOWN := Lib.hid (hown.kept hB.grownBy (by simp))
    have hkey : keyOf Try.prog 9 (.string ⟨#[x.c]⟩) = some (keyL ⟨#[x.c]⟩) := keyOf_string_mk Try.underlying9 (by simp [maxLen, ByteArray.size])
    obtain ⟨cv, hrun0, hat, hwf⟩ := HOWN.out.lookup_int keyStr Try.underlying94 Try.underlying3 (zeroInt _) hkey
    have hrun : ∀ n, (Instr.lookup 94 (.map (some B)) (.string ⟨#[x.c]⟩) false).run Try.prog (W.drewN n) = .ok (.int .i64 cv) (W.drewN n) := by
      intro n
      have hd : (W.drewN n).ownsMap Try.prog 9 (plainElem Try.prog 3) B nb D := HOWN.out
      obtain ⟨c', h1, h2, _⟩ := hd.lookup_int keyStr Try.underlying94 Try.underlying3 (zeroInt _) hkey
      have e := h2.symm.trans hat
      simp only [DataW.lit.injEq, Lit.int.injEq, true_and] at e
      rw [h1, e]
    have HAT := Lib.hid hat
    clear hrun0 hkey
    have HP := Lib.hid hp
    have HB := Lib.hid hB
    clear hat hwf hp hB
    by_cases hc : cv = (x.m : Int)
    · have HOK : Hid (okNode D x.key) := Lib.hid (by show D.atKey _ _ = _; exact HAT.out.trans (by rw [hc]; rfl))
      subst hc
      gi_wp2
      refine round_region (by kernel_rfl) (by kernel_rfl) (by kernel_rfl) ?_
      repeat (gi_big_quiet_step (fail))
      refine wpQuietIn_nil ?_
      rintro _ ⟨nq, rfl⟩
      gi_wp2
      exact ⟨keeps_drewN _ _, below_drewN (Below.refl _ _) _, ⟨fun y hy => by
        rcases List.mem_append.1 hy with h | h
        · exact HP.out y h
        · simp only [List.mem_singleton] at h; subst h; exact HOK.out, hcw, hcr, hfr⟩, below_drewN HB.out _⟩
    · have HNO : Hid (¬ okNode D x.key) := Lib.hid (fun h => hc (by
        have e : (.lit (.int .i64 cv) : DataW Unit) = .lit (.int .i64 (x.m : Int)) := HAT.out.symm.trans h
        simpa using e))
      have hne : (cv != (x.m : Int)) = true := by simpa using hc
      clear hc
      gi_wp2
      refine round_region (by kernel_rfl) (by kernel_rfl) (by kernel_rfl) ?_
      repeat (gi_big_quiet_step (fail))
      refine wpQuietIn_nil ?_
      rintro _ ⟨nq, rfl⟩
      gi_wp2
      exact ⟨(keeps_drewN _ _).trans (KeepsOthers.setCell _ _ _), ⟨rfl, ⟨x, List.mem_append.2 (.inr (by simp)), HNO.out⟩, World.cell?_setCell_same' _ _ _ (by
        show (W.cell? ⟨w.heap.size + 1, 0, none⟩).isSome = true
        rw [hcr]; rfl)⟩, (below_drewN HB.out _).setCell (p := ⟨w.heap.size + 1, 0, none⟩) (by simp) _⟩
  case done =>
    rintro D ys W hD rfl ⟨⟨hne, _, hcr, hfr⟩, hB⟩ hK
    gi_wp2
    have hK' := (KeepsOthers.setCell W ⟨w.heap.size + 1, 0, none⟩ (.bool true)).same D _ hK rfl
    refine ⟨by simp, .inl ⟨_, _, rfl, run_takeDeferred hK', ?_⟩⟩
    have hc5 := cell_kept (World.cell?_setCell_same' W ⟨w.heap.size + 1, 0, none⟩ (.bool true) (by rw [hcr]; rfl)) (grownBy_putObj' _ D (.deferred none)) (fun r e => by cases e; exact ⟨_, hK', rfl⟩)
    refine ⟨.bool true, ?_, (hB.setCell (p := ⟨w.heap.size + 1, 0, none⟩) (by simp) _).trans (belowK_b (w := w) (Nat.le_refl _) _ D _ _ (by simp at hD; omega) hK' rfl rfl), true, rfl, by simp; exact hne⟩
    simp [results, Try.f84, go_sem, hc5]
  case stop =>
    rintro D c pre W hD hpre ⟨⟨rfl, ⟨y, hy, hno⟩, hcr⟩, hB⟩ hK
    gi_wp2
    refine ⟨by simp, .inl ⟨_, _, rfl, run_takeDeferred hK, ?_⟩⟩
    have hc5 := cell_kept hcr (grownBy_putObj' _ D (.deferred none)) (fun r e => by cases e; exact ⟨_, hK, rfl⟩)
    refine ⟨.bool false, ?_, hB.trans (belowK_b (w := w) (Nat.le_refl _) W D _ _ (by simp at hD; omega) hK rfl rfl), false, rfl, by simp only [Bool.false_eq_true, false_iff]; exact fun h => hno (h y (hpre.subset hy))⟩
    simp [results, Try.f84, go_sem, hc5]
/-- Every node's letter has the node's arity. -/
def overD (D : DataW Unit) (t : T) : Prop := ∀ y ∈ t.pre, okNode D y

theorem isOver_any (B nb : Nat) (D : DataW Unit) (t : T) (ty : TypeId) (a : Addr) (w : World) (P : Nat → Prop) (hw : t.wf) (hr : RepI w P t ty a) (hown : w.ownsMap Try.prog 9 (plainElem Try.prog 3) B nb D) :
    Calls Try.prog 84 #[.map (some B), .iface ty (.pointer (some a))] w fun e W' => Below w.heap.size w W' ∧ ∃ b, e = .returned (.bool b) ∧ (b = true ↔ overD D t) := by
  obtain ⟨xs, hk, hv⟩ := visit_any w (fun b => b < w.heap.size) w.heap.size (fun _ h => h) _ t ty a (Nat.le_refl _) hw (hr.keep (fun _ _ _ h => h) (fun _ _ h => h) hw)
  refine (callsIn_wide (n := 3)).1 ?_
  refine (isOver_in Fence.wide rfl 3 trivial trivial trivial trivial rfl (by omega) B nb D ty a w xs hown hv).mono ?_
  rintro e W' ⟨hB, b, he, hb⟩
  refine ⟨hB, b, he, hb.trans ?_⟩
  unfold overD
  rw [← hk]
  simp

set_option maxRecDepth 100000 in
set_option maxHeartbeats 1000000 in
theorem iSignOver_any (ys : List (ByteArray × Int)) (n : Nat) (hny : n = ys.length) (g cap : Nat) (s : ByteArray) (w : World) (hs : s.size ≤ 140737488351232) (hn : n ≤ 1048576) (hz : ∀ j (h : j < ys.length), (ys[j]).1.size ≤ 1048576) (har : Arities ys) (hl : SymL w g ys) :
    Calls Try.prog 48 #[.slice (some ⟨g, 0, none⟩) n cap, .string s] w fun e w' => Below w.heap.size w w' ∧ ∃ b, e = .returned (.bool b) ∧ (b = true ↔ SignOk ys ∧ ∃ t, parse s.data.toList = some t ∧ overD (signD ys) t) := by
  have HR := Lib.hid (readSign_any ys n hny g cap w hn hz har hl)
  have HP2 : Hid (∀ w, Calls Try.prog 58 #[.string s] w (RtPost s w)) := Lib.hid (fun w => readTree_any s w hs)
  clear hny hz har hl
  go_enter Try.func48, Try.ntmps48
  go_wp2_with fail
  refine HR.out.mono ?_
  rintro e w1 ⟨hB, ⟨hno, rfl⟩ | ⟨hyes, rfl, hown⟩⟩
  · have HN := Lib.hid hno
    have HB := Lib.hid hB
    clear hno hB
    go_wp2_with fail
    go_ret
    exact ⟨HB.out, false, rfl, by simp only [Bool.false_eq_true, false_iff]; exact fun h => HN.out h.1⟩
  · have HY := Lib.hid hyes
    have HB := Lib.hid hB
    have HO := Lib.hid hown
    clear hyes hown hB
    go_wp2_with fail
    refine (HP2.out w1).mono ?_
    rintro e w2 ⟨hB2, ⟨hno, rfl⟩ | ⟨t, ty, a, hyes, rfl, hrep⟩⟩
    · have HN := Lib.hid hno
      have HB2 := Lib.hid (below_step HB.out hB2)
      clear hno hB2
      go_wp2_with fail
      go_ret
      refine ⟨HB2.out, false, rfl, ?_⟩
      simp only [Bool.false_eq_true, false_iff]
      rintro ⟨_, t, ht, _⟩
      rw [HN.out] at ht; cases ht
    · have hw := (parse_some hyes).1
      have HYT := Lib.hid hyes
      have HI := Lib.hid (isOver_any w.heap.size ys.length (signD ys) t ty a w2 _ hw hrep (HO.out.kept hB2.grownBy (by simp)))
      have HB2 := Lib.hid (below_step HB.out hB2)
      clear hyes hrep hw hB2
      go_wp2_with fail
      refine HI.out.mono ?_
      rintro e w3 ⟨hB3, b, rfl, hb⟩
      have HB3 := Lib.hid (below_step HB2.out hB3)
      have HV := Lib.hid hb
      clear hB3 hb
      go_wp2_with fail
      go_ret
      refine ⟨HB3.out, b, rfl, HV.out.trans ?_⟩
      constructor
      · exact fun h => ⟨HY.out, t, HYT.out, h⟩
      · rintro ⟨_, u, hu, h⟩
        rw [HYT.out] at hu
        cases hu
        exact h
end Go.Proofs.Ytbmlknbldhcihaa
