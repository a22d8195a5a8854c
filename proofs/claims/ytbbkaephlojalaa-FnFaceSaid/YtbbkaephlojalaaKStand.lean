/- Merged out of: XStandM, XVisT, XRangeB, XStandI, XFreeI. -/
import Derived.Test.YtbbkaephlojalaaKMatS
import Derived.Test.YtbbkaephlojalaaKOverI
import Derived.Test.YtbbkaephlojalaaMatI
import Derived.RangeFuncNested
import Derived.RangeFuncBound
import Derived.RangeFuncCalls
import Derived.RangeFuncLeaves
import Derived.Test.YtbbkaephlojalaaPatI
section
/- The places of patterns in a tree, node by node: plain mathematics. -/
namespace Go.Proofs.Ytbbkaephlojalaa

mutual
/-- The parts of a tree that begin with a node, in the order of its text. -/
def T.subs : T → List T
  | .leaf => []
  | .node c ks => .node c ks :: T.subsL ks
def T.subsL : List T → List T
  | [] => []
  | k :: ks => k.subs ++ T.subsL ks
end

mutual
theorem subs_length : ∀ t : T, t.subs.length = t.nodes
  | .leaf => by rw [T.subs, T.nodes]; rfl
  | .node c ks => by
    have := subsL_length ks
    rw [T.subs, T.nodes, List.length_cons]; omega
theorem subsL_length : ∀ ks : List T, (T.subsL ks).length = T.nodesL ks
  | [] => by rw [T.subsL, T.nodesL]; rfl
  | k :: ks => by
    have h1 := subs_length k
    have h2 := subsL_length ks
    rw [T.subsL, T.nodesL, List.length_append]; omega
end

mutual
/-- What is cut off at a node is the part that begins there. -/
theorem subs_cut : ∀ (t : T) (k : Nat) (r p : T) (a : Nat), t.cutAt k = some (r, p, a) → t.subs[k]? = some p
  | .leaf, k, r, p, a, h => by rw [T.cutAt] at h; cases h
  | .node c ks, k, r, p, a, h => by
    rw [T.cutAt] at h
    rw [T.subs]
    by_cases h0 : k = 0
    · rw [if_pos h0] at h
      simp only [Option.some.injEq, Prod.mk.injEq] at h
      subst h0
      rw [← h.2.1]; rfl
    · rw [if_neg h0] at h
      cases hc : T.cutL ks (k - 1) with
      | none => rw [hc] at h; cases h
      | some v =>
        obtain ⟨rs, q, b⟩ := v
        rw [hc] at h
        simp only [Option.some.injEq, Prod.mk.injEq] at h
        have := subsL_cut ks (k - 1) rs q b hc
        rw [h.2.1] at this
        rw [show k = (k - 1) + 1 by omega, List.getElem?_cons_succ]
        exact this
theorem subsL_cut : ∀ (ks : List T) (k : Nat) (rs : List T) (p : T) (a : Nat), T.cutL ks k = some (rs, p, a) → (T.subsL ks)[k]? = some p
  | [], k, rs, p, a, h => by rw [T.cutL] at h; cases h
  | t :: ts, k, rs, p, a, h => by
    rw [T.cutL] at h
    rw [T.subsL]
    have hl := subs_length t
    cases hc : t.cutAt k with
    | some v =>
      obtain ⟨r, q, b⟩ := v
      rw [hc] at h
      simp only [Option.some.injEq, Prod.mk.injEq] at h
      have h1 := subs_cut t k r q b hc
      rw [h.2.1] at h1
      have hk : k < t.subs.length := (List.getElem?_eq_some_iff.1 h1).1
      rw [List.getElem?_append_left hk]
      exact h1
    | none =>
      rw [hc] at h
      simp only at h
      have hk : t.nodes ≤ k := by
        by_cases hk : k < t.nodes
        · obtain ⟨r, q, b, e⟩ := cutAt_some t k hk
          rw [e] at hc; cases hc
        · omega
      cases hc2 : T.cutL ts (k - t.nodes) with
      | none => rw [hc2] at h; cases h
      | some v =>
        obtain ⟨r, q, b⟩ := v
        rw [hc2] at h
        simp only [Option.some.injEq, Prod.mk.injEq] at h
        have h1 := subsL_cut ts (k - t.nodes) r q b hc2
        rw [h.2.1] at h1
        rw [List.getElem?_append_right (by omega), hl]
        exact h1
end

/-- A place: which pattern, which node, what is at the pattern's leaves. -/
abbrev Pl := Nat × Nat × List T

def stOf (ps : List T) (x : T) (at' i : Nat) : Option Pl :=
  match ps[i]? with
  | none => none
  | some p => (p.partsOf x).map (fun ts => (i, at', ts))

/-- The places of the first k patterns at one node. -/
def stRow (ps : List T) (x : T) (at' k : Nat) : List Pl := (List.range k).filterMap (stOf ps x at')
/-- The places at the first nodes. -/
def stUp (ps : List T) : List T → Nat → List Pl
  | [], _ => []
  | x :: xs, at' => stRow ps x at' ps.length ++ stUp ps xs (at' + 1)
/-- All places in a tree. -/
def stAll (ps : List T) (t : T) : List Pl := stUp ps t.subs 0

theorem stRow_zero (ps : List T) (x : T) (a : Nat) : stRow ps x a 0 = [] := rfl
theorem stRow_succ (ps : List T) (x : T) (a k : Nat) : stRow ps x a (k + 1) = stRow ps x a k ++ (stOf ps x a k).toList := by
  rw [stRow, stRow, List.range_succ, List.filterMap_append]
  congr 1
theorem stOf_some {ps : List T} {x : T} {a i : Nat} (h : i < ps.length) {ts : List T} (hp : (ps[i]).partsOf x = some ts) : stOf ps x a i = some (i, a, ts) := by
  rw [stOf, List.getElem?_eq_getElem h]; simp only; rw [hp]; rfl
theorem stOf_none {ps : List T} {x : T} {a i : Nat} (h : i < ps.length) (hp : (ps[i]).partsOf x = none) : stOf ps x a i = none := by
  rw [stOf, List.getElem?_eq_getElem h]; simp only; rw [hp]; rfl

theorem stUp_append (ps : List T) : ∀ (xs ys : List T) (a : Nat), stUp ps (xs ++ ys) a = stUp ps xs a ++ stUp ps ys (a + xs.length)
  | [], ys, a => by simp [stUp]
  | x :: xs, ys, a => by
    rw [List.cons_append, stUp, stUp, stUp_append ps xs ys (a + 1), List.append_assoc, List.length_cons]
    rw [show a + 1 + xs.length = a + (xs.length + 1) by omega]
theorem stUp_snoc (ps : List T) (xs : List T) (x : T) : stUp ps (xs ++ [x]) 0 = stUp ps xs 0 ++ stRow ps x xs.length ps.length := by
  rw [stUp_append, Nat.zero_add, stUp, stUp, List.append_nil]

theorem stRow_prefix (ps : List T) (x : T) (a : Nat) {i k : Nat} (h : i ≤ k) : stRow ps x a i <+: stRow ps x a k := by
  induction k with
  | zero => have : i = 0 := by omega
            subst this; exact List.prefix_refl _
  | succ k ih =>
    by_cases e : i = k + 1
    · subst e; exact List.prefix_refl _
    · rw [stRow_succ]; exact (ih (by omega)).trans (List.prefix_append _ _)

/-- What has come when the first i patterns are asked at the node behind a prefix of the nodes is a prefix of all. -/
theorem stAll_prefix {ps : List T} {t : T} {pre : List T} {x : T} {rest : List T} (h : t.subs = pre ++ x :: rest) {i : Nat} (hi : i ≤ ps.length) : stUp ps pre 0 ++ stRow ps x pre.length i <+: stAll ps t := by
  rw [stAll, h, stUp_append, Nat.zero_add, stUp]
  obtain ⟨q, hq⟩ := stRow_prefix ps x pre.length hi
  rw [← hq]
  refine ⟨q ++ stUp ps rest (pre.length + 1), ?_⟩
  simp only [List.append_assoc]
end Go.Proofs.Ytbbkaephlojalaa
end
section
/- The program's nodes of a tree, told one by one, each with the part that begins there. -/
namespace Go.Proofs.Ytbbkaephlojalaa
open Go.RowKit Go.Shelf

attribute [local go_sem] Oper.semAt_some

/-- A node where it lies, with the part that begins there. -/
structure NodeT (w0 : World) (n₀ : Nat) where
  b : Nat
  t : T
  hb : b < n₀
  hw : t.wf
  hs : t.leaves ≤ 12 ∧ t.nodes ≤ 16
  rep : RepI w0 (fun b => b < n₀) t 71 ⟨b, 0, none⟩

/-- What a visit of a tree does with these nodes. -/
def VisitsT (w0 : World) (n₀ : Nat) (xs : List (NodeT w0 n₀)) (v : Value) : Prop :=
  ∀ (F : Fence), F.depth = none → F.fn 54 → F.round = none → ∀ (l N : Nat) (J Jx : List (NodeT w0 n₀) → World → Prop),
    (∀ m pre x W, J pre W → pre.length < N → YieldAt F m Try.prog l #[.pointer (some ⟨x.b, 0, none⟩)] W fun e W' =>
      (e = .returned (.bool true) ∧ J (pre ++ [x]) W' ∧ Below n₀ W W') ∨ (e = .returned (.bool false) ∧ Jx (pre ++ [x]) W')) →
    ∀ n pre W, Below n₀ w0 W → J pre W → pre.length + xs.length ≤ N → CallsIn F n Try.prog 54 #[v, .func (.yield l) #[] #[]] W fun e W' =>
      (e = .returned (.bool true) ∧ J (pre ++ xs) W' ∧ Below n₀ W W') ∨ (e = .returned (.bool false) ∧ ∃ q, q <+: xs ∧ Jx (pre ++ q) W')

theorem kid_le : ∀ (ks : List T) (j : Nat) (h : j < ks.length), (ks[j]).leaves ≤ T.leavesL ks ∧ (ks[j]).nodes ≤ T.nodesL ks
  | [], _, h => by simp at h
  | k :: ks, 0, _ => by rw [T.leavesL, T.nodesL]; simp
  | k :: ks, j + 1, h => by
    have := kid_le ks j (by simpa using h)
    rw [T.leavesL, T.nodesL]
    simp only [List.getElem_cons_succ]
    omega

theorem subsL_keys {w0 : World} {n₀ : Nat} : ∀ (ks : List T) (yss : List (List (NodeT w0 n₀))), yss.length = ks.length → (∀ j (h : j < yss.length) (h' : j < ks.length), (yss[j]).map NodeT.t = (ks[j]).subs) → yss.flatten.map NodeT.t = T.subsL ks
  | [], [], _, _ => by simp [T.subsL]
  | [], _ :: _, h, _ => by simp at h
  | _ :: _, [], h, _ => by simp at h
  | k :: ks, ys :: yss, h, hj => by
    have h0 : ys.map NodeT.t = k.subs := hj 0 (by simp) (by simp)
    have h1 := subsL_keys ks yss (by simpa using h) (fun j hp hu => by have := hj (j + 1) (by simp; omega) (by simp; omega); simpa using this)
    simp only [List.flatten_cons, List.map_append, T.subsL, h0, h1]

set_option maxRecDepth 100000 in
set_option maxHeartbeats 4000000 in
theorem visitT_any (w0 : World) (P : Nat → Prop) (n₀ : Nat) (hP : ∀ b, P b → b < n₀) : ∀ (k : Nat) (t : T) (ty : TypeId) (a : Addr), SizeOf.sizeOf t ≤ k → t.wf → t.leaves ≤ 12 ∧ t.nodes ≤ 16 → RepI w0 P t ty a →
    ∃ xs : List (NodeT w0 n₀), xs.map NodeT.t = t.subs ∧ VisitsT w0 n₀ xs (.iface ty (.pointer (some a))) := by
  intro k
  induction k with
  | zero => intro t ty a h; cases t <;> simp at h <;> omega
  | succ k ih =>
    intro t ty a hk hw hsz hr
    cases t with
    | leaf =>
      rw [RepI] at hr
      subst hr
      refine ⟨[], by simp [T.subs], ?_⟩
      intro F hd hF hro l N J Jx hY n pre W hB hJ hN
      have HJ := Lib.hid hJ
      have hta := fun v w => assert_leaf v w
      clear hY hJ
      refine callsIn_of_wp Try.func54 rfl hF ?_ hro
      simp only [Try.ntmps54, List.size_toArray, List.length_cons, List.length_nil, Nat.reduceAdd, Nat.reduceSub, Array.replicate_succ, Array.replicate_zero, List.push_toArray, List.append_toArray, List.nil_append, List.cons_append]
      gi_wp2
      go_ret
      exact .inl ⟨rfl, by simpa using HJ.out, Below.refl _ _⟩
    | node c ks =>
      have hr1 := hr.keep (P' := fun b => b < n₀) (fun _ _ _ h => h) (fun b h _ => hP b h) hw
      rw [RepI] at hr
      obtain ⟨rfl, b, g, cap, rfl, hPb, hPg, c0, c1, hk6, hL⟩ := hr
      have hr0 : RepI w0 (fun b => b < n₀) (.node c ks) 71 ⟨b, 0, none⟩ := hr1
      clear hr1
      have hwk : T.wfL ks := by rw [T.wf] at hw; exact hw.2.2.2.2
      simp only [T.node.sizeOf_spec] at hk
      have hch : ∀ j, j < ks.length → ∃ ys : List (NodeT w0 n₀), (∀ h : j < ks.length, ys.map NodeT.t = (ks[j]).subs ∧ ∃ kty ka, w0.cell? ⟨g, j, none⟩ = some (.iface kty (.pointer (some ka))) ∧ VisitsT w0 n₀ ys (.iface kty (.pointer (some ka)))) := by
        intro j hj
        obtain ⟨kty, ka, e1, e2⟩ := hL.get j hj
        have hd : SizeOf.sizeOf ks[j] < SizeOf.sizeOf ks := List.sizeOf_lt_of_mem (List.getElem_mem hj)
        obtain ⟨ys, h1, h2⟩ := ih ks[j] kty ka (by omega) (wfL_get hwk j hj) (by have := kid_le ks j hj; rw [T.leaves, T.nodes] at hsz; omega) e2
        rw [Nat.zero_add] at e1
        exact ⟨ys, fun _ => ⟨h1, kty, ka, e1, h2⟩⟩
      obtain ⟨yss, hyl, hys⟩ := choose_lists hch
      have HYS := Lib.hid hys
      have HYL := Lib.hid hyl
      refine ⟨⟨b, .node c ks, hP b hPb, hw, hsz, hr0⟩ :: yss.flatten, ?_, ?_⟩
      · simp only [List.map_cons, T.subs]
        congr 1
        exact subsL_keys ks yss hyl (fun j h h' => (hys j h h').1)
      · intro F hd hF hro l N J Jx hY n pre W hB hJ hN
        obtain ⟨x, hx⟩ : ∃ x : NodeT w0 n₀, x = ⟨b, .node c ks, hP b hPb, hw, hsz, hr0⟩ := ⟨_, rfl⟩
        rw [← hx]
        rw [← hx] at hN
        have hxb : x.b = b := by rw [hx]
        have hdd : ∀ k : Nat, (F.depth.isSome = true → 1 ≤ k) := fun k h => by rw [hd] at h; cases h
        have hbn := hP b hPb
        have hgn := hP g hPg
        have HY := Lib.hid hY
        simp only [List.length_cons] at hN
        have hy1 := (hY (n - 1) pre x W hJ (by omega)).mono (R' := fun e W1 => (e = .returned (.bool true) ∧ W1.cell? ⟨b, 1, none⟩ = some (.slice (some ⟨g, 0, none⟩) ks.length cap) ∧ J (pre ++ [x]) W1 ∧ Below n₀ W W1) ∨ (e = .returned (.bool false) ∧ Jx (pre ++ [x]) W1))
          (fun e W1 h => h.elim (fun ⟨he, hj, hb1⟩ => .inl ⟨he, (((hB.trans hb1).cell (p := ⟨b, 1, none⟩) hbn).trans c1), hj, hb1⟩) .inr)
        rw [hxb] at hy1
        obtain ⟨fn, tmps, assign, body, hy, hR⟩ := hy1
        have hta := fun v w => assert_node v w
        have HC0 := Lib.hid c0
        have HB := Lib.hid hB
        have HK6 := Lib.hid hk6
        clear hx hY hys hch ih hL hJ c0 c1 hw hwk hyl hB
        refine callsIn_of_wp Try.func54 rfl hF ?_ hro
        simp only [Try.ntmps54, List.size_toArray, List.length_cons, List.length_nil, Nat.reduceAdd, Nat.reduceSub, Array.replicate_succ, Array.replicate_zero, List.push_toArray, List.append_toArray, List.nil_append, List.cons_append]
        gi_wp2_with ((try refine ⟨hdd _, ?_⟩); refine hR.mono ?_; clear hR; rintro e W1 (⟨rfl, c1', hJ1, hb1⟩ | ⟨rfl, hx1⟩))
        · have HJ1 := Lib.hid hJ1
          have HB1 := Lib.hid hb1
          clear hJ1 hb1
          gi_loopw [21] (fun iv wr => ∃ i : Nat, i ≤ ks.length ∧ iv = .int .i64 i ∧ J (pre ++ x :: (yss.take i).flatten) wr ∧ Below n₀ W wr) (fun iv _ => ks.length - (intOf iv).toNat)
          case atStart => exact ⟨0, Nat.zero_le _, rfl, by simpa using HJ1.out, HB1.out⟩
          case round =>
            obtain ⟨i, hi, rfl, hJi, hBi⟩ := hrel
            have HJI := Lib.hid hJi
            have HBI := Lib.hid hBi
            by_cases hlt : i < ks.length
            · have hiy : i < yss.length := by rw [HYL.out]; exact hlt
              obtain ⟨_, kty, ka, e1, hv⟩ := HYS.out i hiy hlt
              have e2 := ((HB.out.trans hBi).cell (p := ⟨g, i, none⟩) hgn).trans e1
              have hfl : (yss.take (i + 1)).flatten.length ≤ yss.flatten.length := (flatten_take_prefix yss (i + 1)).length_le
              have hcall := hv F hd hF hro l N J Jx HY.out (n - 1) (pre ++ x :: (yss.take i).flatten) wr (HB.out.trans hBi) hJi (by
                rw [flatten_take_succ hiy] at hfl
                simp only [List.length_append, List.length_cons] at hfl ⊢
                omega)
              have HC := Lib.hid hcall
              clear hcall hv e1 hfl hJi hBi
              gi_wp2_with ((try refine ⟨hdd _, ?_⟩); gi_at_call 54; refine HC.out.mono ?_; clear HC; rintro e W2 (⟨rfl, hJ2, hb2⟩ | ⟨rfl, q, hq, hx2⟩))
              · go_roundw
                case rel => exact ⟨i + 1, by omega, by go_num, by rw [flatten_take_succ hiy]; simpa [List.append_assoc] using hJ2, HBI.out.trans hb2⟩
                case measure => simp [intOf]; omega
              · go_ret
                refine .inr ⟨rfl, x :: ((yss.take i).flatten ++ q), ?_, by simpa [List.append_assoc] using hx2⟩
                refine List.cons_prefix_cons.2 ⟨rfl, ?_⟩
                obtain ⟨r, hr⟩ := hq
                have h1 := flatten_take_prefix yss (i + 1)
                rw [flatten_take_succ hiy, ← hr, ← List.append_assoc] at h1
                exact (List.prefix_append _ _).trans h1
            · have hik : i = ks.length := by omega
              have hfull : yss.take i = yss := by rw [hik, ← HYL.out, List.take_length]
              rw [hfull] at hJi
              have HJF := Lib.hid hJi
              clear hJi hfull
              gi_wp2
              go_ret
              exact .inl ⟨rfl, HJF.out, HBI.out⟩
        · go_ret
          exact .inr ⟨rfl, [x], by simp, hx1⟩
set_option maxHeartbeats 1000000 in
theorem nodesOfT1_in (F : Fence) (hd : F.depth = none) (n : Nat) (h5 : F.fn 53) (h6 : F.fn 54) (hro : F.round = none) (l Bt : Nat) (w0 : World) (n₀ : Nat) (xs : List (NodeT w0 n₀)) (ty : TypeId) (a : Addr) (J Jx : List (NodeT w0 n₀) → World → Prop)
    (hY : ∀ pre x W, J pre W → pre.length < xs.length → YieldAt F (n - 1) Try.prog l #[.pointer (some ⟨x.b, 0, none⟩)] W fun e W' =>
      (e = .returned (.bool true) ∧ J (pre ++ [x]) W' ∧ Below n₀ W W') ∨ (e = .returned (.bool false) ∧ Jx (pre ++ [x]) W'))
    (W : World) (hB0 : Below n₀ w0 W) (hBt : W.cell? ⟨Bt, 0, none⟩ = some (.iface ty (.pointer (some a)))) (hv : VisitsT w0 n₀ xs (.iface ty (.pointer (some a)))) (h0 : J [] W) :
    CallsIn F n Try.prog 53 #[.func (.yield l) #[] #[], .pointer (some ⟨Bt, 0, none⟩)] W fun e W' => (∃ v, e = .returned v) ∧
      ((∃ ys, ys = xs ∧ J ys W') ∨ (∃ pre, pre <+: xs ∧ Jx pre W')) := by
  have hdd : ∀ k : Nat, (F.depth.isSome = true → 1 ≤ k) := fun k h => by rw [hd] at h; cases h
  have hp := hv F hd h6 hro l xs.length J Jx (fun m pre x W hj hl => yield_any hd m (hY pre x W hj hl)) (n - 1) [] W hB0 h0 (by simp)
  refine callsIn_of_wp Try.func53 rfl h5 ?_ hro
  simp only [Try.ntmps53, List.size_toArray, List.length_cons, List.length_nil, Nat.reduceAdd, Nat.reduceSub, Array.replicate_succ, Array.replicate_zero, List.push_toArray, List.append_toArray, List.nil_append, List.cons_append]
  gi_wp2_with ((try refine ⟨hdd _, ?_⟩); gi_at_call 54; refine hp.mono ?_; clear hp; rintro e W1 (⟨rfl, hJ1, _⟩ | ⟨rfl, q, hq, hx⟩))
  · go_end0
    exact ⟨⟨_, rfl⟩, .inl ⟨_, rfl, by simpa using hJ1⟩⟩
  · go_end0
    exact ⟨⟨_, rfl⟩, .inr ⟨q, hq, by simpa using hx⟩⟩

theorem nodesT_stops (F : Fence) (hd : F.depth = none) (n : Nat) (h5 : F.fn 53) (h6 : F.fn 54) (hro : F.round = none) (Bt : Nat) (w0 : World) (n₀ : Nat) (xs : List (NodeT w0 n₀)) (ty : TypeId) (a : Addr) (w : World) (hBt : Bt < w.heap.size) (hn₀ : n₀ ≤ w.heap.size)
    (hB0 : Below n₀ w0 w) (hc : w.cell? ⟨Bt, 0, none⟩ = some (.iface ty (.pointer (some a)))) (hv : VisitsT w0 n₀ xs (.iface ty (.pointer (some a)))) :
    SeqStopsK F n Try.prog 53 #[.pointer (some ⟨Bt, 0, none⟩)] (fun x : NodeT w0 n₀ => #[Value.pointer (some ⟨x.b, 0, none⟩)]) (Below n₀) (fun ys => ys = xs) (fun pre => pre <+: xs) xs.length w := fun l J Jx W hW _ _ hY h0 =>
  nodesOfT1_in F hd n h5 h6 hro l Bt w0 n₀ xs ty a J Jx hY W (hB0.trans (hW.mono hn₀)) ((hW.cell (p := ⟨Bt, 0, none⟩) hBt).trans hc) hv h0

end Go.Proofs.Ytbbkaephlojalaa
end
section
/- A range over a function whose iterator ranges over another function itself, and calls the outer loop's yield in the inner loop's rounds: the outer round is known to leave every loop's record alone but its own. -/
namespace Go.Proofs.Ytbbkaephlojalaa
open Go Go.RowKit

/-- From block B on, all that is no cells lies as it lay, but for block l. -/
structure KeepsBut (B l : Nat) (W W' : World) : Prop where
  size : W.heap.size ≤ W'.heap.size
  same : ∀ (k : Nat) (o : Obj), B ≤ k → k ≠ l → W.heap[k]? = some o → o.isCells = false → W'.heap[k]? = some o

theorem KeepsBut.of_from {B l : Nat} {W W' : World} (h : KeepsFrom B W W') : KeepsBut B l W W' := ⟨h.size, fun k o hB _ hk ho => h.same k o hB hk ho⟩
theorem KeepsBut.trans {B l : Nat} {X Y Z : World} (h : KeepsBut B l X Y) (k : KeepsBut B l Y Z) : KeepsBut B l X Z := ⟨Nat.le_trans h.size k.size, fun i o hB hne hi ho => k.same i o hB hne (h.same i o hB hne hi ho) ho⟩
theorem KeepsBut.put {B l : Nat} (W : World) (o : Obj) : KeepsBut B l W (W.putObj l o) := ⟨by simp, fun _ _ _ hne hk _ => (World.putObj_heap_other (by omega)).trans hk⟩
/-- A loop that began behind l sees nothing of it. -/
theorem KeepsBut.from {B B' l : Nat} {W W' : World} (h : KeepsBut B l W W') (hB : B ≤ B') (hl : l < B') : KeepsFrom B' W W' := ⟨h.size, fun k o hk h0 ho => h.same k o (by omega) (by omega) h0 ho⟩

/-- What a round leaves alone: all blocks but its loop's record and those of R (the caller's own rows); no other block of before comes to R'. -/
structure RKeep (l : Nat) (R R' : Nat → Prop) (W W' : World) : Prop where
  keep : ∀ k, k < W.heap.size → k ≠ l → ¬ R k → W'.heap[k]? = W.heap[k]?
  row : ∀ k, k < W.heap.size → R' k → R k

theorem RKeep.trans {l : Nat} {R R' R'' : Nat → Prop} {X Y Z : World} (hs : X.heap.size ≤ Y.heap.size) (h : RKeep l R R' X Y) (k : RKeep l R' R'' Y Z) : RKeep l R R'' X Z :=
  ⟨fun i hi hne hr => (k.keep i (by omega) hne (fun e => hr (h.row i hi e))).trans (h.keep i hi hne hr), fun i hi hr => h.row i hi (k.row i (by omega) hr)⟩
theorem RKeep.below {l : Nat} {R : Nat → Prop} {W W' : World} (h : Below W.heap.size W W') : RKeep l R R W W' := ⟨fun k hk _ _ => h.block k hk, fun _ _ hr => hr⟩
theorem RKeep.put {l : Nat} {R : Nat → Prop} (W : World) (o : Obj) : RKeep l R R W (W.putObj l o) := ⟨fun _ _ hne _ => World.putObj_heap_other (by omega), fun _ _ hr => hr⟩

/-- What the caller's word abides: a turn of a block from B on that R does not name, or that is no cells. -/
def OwnBut {β : Type} (B : Nat) (I : β → (Nat → Prop) → World → Prop) : Prop :=
  ∀ s R A C row, I s R A → A.grownBy C row → (∀ r, row = some r → B ≤ r ∧ (¬ R r ∨ ∃ o : Obj, A.heap[r]? = some o ∧ o.isCells = false)) → I s R C

theorem OwnBut.putObj {β : Type} {B : Nat} {I : β → (Nat → Prop) → World → Prop} (h : OwnBut B I) {s : β} {R : Nat → Prop} {W : World} {l : Nat} {o : Obj} (o' : Obj) (hs : I s R W) (hB : B ≤ l) (hl : W.heap[l]? = some o) (ho : o.isCells = false) : I s R (W.putObj l o') :=
  h s R W _ (some l) hs (grownBy_putObj' W l o') (fun r e => by cases e; exact ⟨hB, .inr ⟨o, hl, ho⟩⟩)
theorem OwnBut.alloc {β : Type} {B : Nat} {I : β → (Nat → Prop) → World → Prop} (h : OwnBut B I) {s : β} {R : Nat → Prop} {W : World} (o : Obj) (hs : I s R W) : I s R (W.alloc o) :=
  h s R W _ none hs (World.grownBy_alloc W o none) (fun r e => by cases e)
theorem OwnBut.below {β : Type} {B : Nat} {I : β → (Nat → Prop) → World → Prop} (h : OwnBut B I) {s : β} {R : Nat → Prop} {W W' : World} (hs : I s R W) (hb : Below W.heap.size W W') : I s R W' :=
  h s R W W' none hs ⟨hb.os, hb.tape, hb.output, hb.size, fun k hk _ => hb.block k hk⟩ (fun r e => by cases e)

/-- What the body of a round leaves alone, its loop's record included. -/
structure RBody (R R' : Nat → Prop) (W W' : World) : Prop where
  keep : ∀ k, k < W.heap.size → ¬ R k → W'.heap[k]? = W.heap[k]?
  row : ∀ k, k < W.heap.size → R' k → R k

theorem RBody.toKeep {l : Nat} {R R' : Nat → Prop} {W W' : World} (h : RBody R R' W W') : RKeep l R R' W W' := ⟨fun k hk _ hr => h.keep k hk hr, h.row⟩

/-- How the body of a round may be left. -/
def ownPostB {α : Type} (B n₀ : Nat) (R : Nat → Prop) (I : List α → (Nat → Prop) → World → Prop) (Ix : Code → List α → World → Prop) (xs : List α) (W : World) : Exit → Act → World → Prop
  | .normal, _, W' => KeepsFrom B W W' ∧ Below n₀ W W' ∧ ∃ R', RBody R R' W W' ∧ I xs R' W'
  | .ret, _, W' => KeepsFrom B W W' ∧ Ix .ret xs W'
  | .exit id, _, W' => KeepsFrom B W W' ∧ Ix (.exit id) xs W'
  | .goto t, _, W' => KeepsFrom B W W' ∧ Ix (.goto t) xs W'
  | .panic _, _, _ => False
  | .outgrown, _, _ => False

/-- The iterator's contract: the rounds keep what lay below n₀, all records but their own, and all cells but those of R. What a round is handed lies as X says. -/
def SeqStopsB {α : Type} (F : Fence) (n : Nat) (P : Program) (g : Nat) (lb : Array Value) (encs : α → Array Value) (n₀ Br : Nat) (X : α → World → Prop) (S Sp : List α → Prop) (N B : Nat) (w : World) : Prop :=
  ∀ (l : Nat) (J : List α → (Nat → Prop) → World → Prop) (Jx : List α → World → Prop) (W : World) (R0 : Nat → Prop), B ≤ l → l < W.heap.size → Below w.heap.size w W → OwnBut W.heap.size J → OwnFrom W.heap.size Jx → (∀ k, R0 k → k < Br) →
    (∀ pre R x W1, J pre R W1 → X x W1 → pre.length < N → YieldAt F (n - 1) P l (encs x) W1 fun e W' =>
      (e = .returned (.bool true) ∧ ∃ R', J (pre ++ [x]) R' W' ∧ Below n₀ W1 W' ∧ RKeep l R R' W1 W' ∧ KeepsBut B l W1 W') ∨ (e = .returned (.bool false) ∧ Jx (pre ++ [x]) W' ∧ KeepsBut B l W1 W')) →
    J [] R0 W →
    CallsIn F n P g (#[.func (.yield l) #[] #[]] ++ lb) W fun e W' => (∃ v, e = .returned v) ∧ ((∃ xs R, S xs ∧ J xs R W') ∨ (∃ pre, Sp pre ∧ Jx pre W'))

variable {F : Fence} {n : Nat} {P : Program} {w : World}

theorem wpIn_rangeFunc_ownB {α : Type} {g : Operand} {ps : Array Tmp} {assign body : Code} {Q : Exit → Act → World → Prop} {a : Act} {w : World}
    (hro : F.round = none) (h1 : 1 ≤ n) {gf : Nat} {lb : Array Value} (hg : a.eval g = .func (.func gf) #[] lb) (hFg : F.fn gf) (eg : ∀ args w, (callFunc gf args).run P w = .ok (.enter gf args) w)
    {encs : α → Array Value} {n₀ Br : Nat} {R0 : Nat → Prop} {X : α → World → Prop} {S Sp : List α → Prop} {N : Nat} {w0 : World} (hn₀ : n₀ ≤ w.heap.size) (hseq : SeqStopsB F (n - 1) P gf lb encs n₀ Br X S Sp N w.heap.size w0)
    (hb0 : Below w0.heap.size w0 w) (hps : ∀ x, (encs x).size = ps.size) (hRr : ∀ k, R0 k → k < Br)
    (I : List α → (Nat → Prop) → World → Prop) (Ix : Code → List α → World → Prop) (hI : OwnBut w.heap.size I) (hIx : ∀ c, OwnFrom w.heap.size (Ix c)) (h0 : I [] R0 w) (Ax : α → Act → World → Prop) (hAx : ∀ x a', OwnFrom w.heap.size (fun (_ : Unit) W => Ax x a' W))
    (hassign : ∀ (l : Nat) (pre : List α) (R : Nat → Prop) (x : α) (W : World) (K : Act → World → Prop), I pre R W → X x W → w.heap.size ≤ W.heap.size → (∀ a' W', Below W.heap.size W W' → I pre R W' → Ax x a' W' → K a' W') →
      assign.wpIn (F.inRound l) (n - 1 - 1) P (Exit.then K (fun _ _ _ => False)) { tmps := (ps.zip (encs x)).foldl (fun t (p, v) => t.setIfInBounds p v) a.tmps, defers := [] } W)
    (hbody : ∀ (l : Nat) (pre : List α) (R : Nat → Prop) (x : α) (a' : Act) (W : World), w.heap.size ≤ l → (∃ r, W.heap[l]? = some (.loop r)) → I pre R W → Ax x a' W → pre.length < N → body.wpIn (F.inRound l) (n - 1 - 1) P (ownPostB w.heap.size n₀ R I Ix (pre ++ [x]) W) a' W)
    (hdone : ∀ (D : Nat) (xs : List α) (R : Nat → Prop) (W : World), w.heap.size ≤ D → S xs → I xs R W → W.heap[D]? = some (.deferred (some [])) → Q .normal { a with defers := { target := .collected D, args := #[] } :: a.defers } W)
    (hstop : ∀ (D : Nat) (c : Code) (pre : List α) (W : World), w.heap.size ≤ D → Sp pre → Ix c pre W → W.heap[D]? = some (.deferred (some [])) → c.wpIn F n P Q { a with defers := { target := .collected D, args := #[] } :: a.defers } W) :
    (Code.rangeFunc g ps assign body).wpIn F n P Q a w := by
  refine wpIn_rangeFunc (fun fn hfn => ?_)
  rw [hro]
  -- the two blocks that the loop lays: the rounds' deferred calls (D), its record (l)
  obtain ⟨rc, hrc⟩ : ∃ rc : LoopState → Option Code → Loop, rc = fun st pe => { state := st, pending := pe, fn, tmps := a.tmps, params := ps, assign, body, defers := w.heap.size } := ⟨_, rfl⟩
  obtain ⟨V, hV⟩ : ∃ V, V = (w.alloc (.deferred (some []))).alloc (.loop (rc .ready none)) := ⟨_, rfl⟩
  obtain ⟨l, hl⟩ : ∃ l, l = w.heap.size + 1 := ⟨_, rfl⟩
  have hVs : V.heap.size = l + 1 := by rw [hV, hl]; simp
  have hVl : V.heap[l]? = some (.loop (rc .ready none)) := by
    rw [hV, hl]; have := World.alloc_heap_new (w.alloc (.deferred (some []))) (.loop (rc .ready none)); rwa [World.size_alloc] at this
  have hVD : V.heap[w.heap.size]? = some (.deferred (some [])) := by
    rw [hV]; exact (Below.heap_alloc _ _ _ (by simp)).trans (World.alloc_heap_new w _)
  have hVI : I [] R0 V := by rw [hV]; exact hI.alloc _ (hI.alloc _ h0)
  have hVw : Below w.heap.size w V := by rw [hV]; exact ((Below.refl _ w).alloc (Nat.le_refl _) _).alloc (by simp) _
  have hVb : Below w0.heap.size w0 V := hb0.trans (hVw.mono hb0.size)
  have hlD : w.heap.size ≤ l := by omega
  have hlne : l ≠ w.heap.size := by omega
  have kw : ∀ (W : World) (o o' : Obj), W.heap[l]? = some o → o.isCells = false → o.isWalk = false → Below w.heap.size W (W.putObj l o') := fun W o o' h h2 h3 => belowK_b (Nat.le_refl _) W l o o' hlD h h2 h3
  have kb : ∀ (W : World) (o o' : Obj), W.heap[l]? = some o → o.isCells = false → o.isWalk = false → Below n₀ W (W.putObj l o') := fun W o o' h h2 h3 => (kw W o o' h h2 h3).mono hn₀
  have hD' : ∀ (W : World) (o : Obj), W.heap[w.heap.size]? = some (.deferred (some [])) → (W.putObj l o).heap[w.heap.size]? = some (.deferred (some [])) := fun W o h => (World.putObj_heap_other (by omega)).trans h
  refine ⟨l, [{ target := .collected w.heap.size, args := #[] }], V, { target := .fn (.func gf) lb, args := #[.func (.yield l) #[] #[]] }, V, gf, #[.func (.yield l) #[] #[]] ++ lb, V, ?_, ?_, ?_, ?_, fun _ => h1, ?_⟩
  · rw [hV, hrc, hl]; exact run_enterLoop_outer _ _ _ _ _
  · simp only [resolve, hg]
    simp [go_sem]
  · intro f' hf'; simp [Target.leads] at hf'; subst hf'; exact hFg
  · simp [invoke, go_sem, eg]
  -- the book-keeping beside the caller's invariant
  have bk : ∀ (st : LoopState) (pe : Option Code) (A B : World) (row : Option Nat), (A.heap[l]? = some (.loop (rc st pe)) ∧ A.heap[w.heap.size]? = some (.deferred (some []))) → A.grownBy B row → (∀ r, row = some r → V.heap.size ≤ r) →
      (B.heap[l]? = some (.loop (rc st pe)) ∧ B.heap[w.heap.size]? = some (.deferred (some []))) := fun st pe A B row hs hg' hr =>
    ⟨(hg'.block l (Array.getElem?_eq_some_iff.1 hs.1).1 (fun e => by have := hr l e.symm; omega)).trans hs.1, (hg'.block w.heap.size (Array.getElem?_eq_some_iff.1 hs.2).1 (fun e => by have := hr _ e.symm; omega)).trans hs.2⟩
  refine (hseq l (fun pre R W => I pre R W ∧ (W.heap[l]? = some (.loop (rc .ready none)) ∧ W.heap[w.heap.size]? = some (.deferred (some []))))
    (fun pre W => ∃ c, Ix c pre W ∧ (W.heap[l]? = some (.loop (rc .done (some c))) ∧ W.heap[w.heap.size]? = some (.deferred (some []))))
    V R0 hlD (by omega) hVb (fun s R A B row hs hg' hr => ⟨hI s R A B row hs.1 hg' (fun r e => ⟨by have := (hr r e).1; omega, (hr r e).2⟩), bk _ _ A B row hs.2 hg' (fun r e => (hr r e).1)⟩)
    (fun s A B row hs hg' hr => by obtain ⟨c, hc, h⟩ := hs; exact ⟨c, hIx c s A B row hc hg' (fun r e => ⟨by have := (hr r e).1; omega, (hr r e).2⟩), bk _ _ A B row h hg' (fun r e => (hr r e).1)⟩) hRr ?_ ⟨hVI, hVl, hVD⟩).mono ?_
  · rintro pre R x W ⟨hi, hWl, hWD⟩ hXW hlen
    have hsW : w.heap.size ≤ W.heap.size := Nat.le_of_lt (Array.getElem?_eq_some_iff.1 hWD).1
    have hy := run_yield (P := P) (args := encs x) hWl (by rw [hrc]; exact hps x)
    rw [hrc] at hy
    refine ⟨fn, _, assign, body, hy, roundIn_of_wpIn hfn (hassign _ pre R x W _ hi hXW hsW ?_)⟩
    intro a' Xw hbX hiX hax
    -- the assignment is done; the round begins
    have hXl := (hbX.block l (Array.getElem?_eq_some_iff.1 hWl).1).trans hWl
    have hXD := (hbX.block _ (Array.getElem?_eq_some_iff.1 hWD).1).trans hWD
    refine ⟨_, run_beginRound hXl (by rw [hrc]), ?_⟩
    obtain ⟨Y, hY⟩ : ∃ Y, Y = Xw.putObj l (.loop { rc .ready none with state := .busy }) := ⟨_, rfl⟩
    have hYl : Y.heap[l]? = some (.loop { rc .ready none with state := .busy }) := by rw [hY]; exact World.putObj_heap_same (Array.getElem?_eq_some_iff.1 hXl).1
    have hYD : Y.heap[w.heap.size]? = some (.deferred (some [])) := by rw [hY]; exact hD' Xw _ hXD
    have hXY : Below w.heap.size Xw Y := by rw [hY]; exact kw Xw _ _ hXl rfl rfl
    have hWY : Below n₀ W Y := (hbX.mono (Nat.le_trans hn₀ hsW)).trans (hXY.mono hn₀)
    have hfX : KeepsFrom w.heap.size W Xw := ⟨hbX.size, fun k o _ hk _ => (hbX.block k (Array.getElem?_eq_some_iff.1 hk).1).trans hk⟩
    have hWYk : KeepsBut w.heap.size l W Y := (KeepsBut.of_from hfX).trans (by rw [hY]; exact KeepsBut.put Xw _)
    have hWYr : RKeep l R R W Y := (RKeep.below hbX).trans hbX.size (by rw [hY]; exact RKeep.put Xw _)
    have hsY : W.heap.size ≤ Y.heap.size := hWY.size
    have hbd := hbody l pre R x a' Y hlD ⟨_, hYl⟩ (by rw [hY]; exact hI.putObj _ hiX hlD hXl rfl) (by rw [hY]; exact (hAx x a').putObj (s := ()) _ hax hlD hXl rfl) hlen
    rw [← hY]
    refine wpIn_mono hbd ?_
    have fin : ∀ (jump : Option Code) (Z : World), KeepsFrom w.heap.size Y Z →
        ∃ Z', (Instr.endRound l jump).run P Z = .ok (.bool jump.isNone) Z' ∧ Z' = Z.putObj l (.loop (rc (if jump.isNone then .ready else .done) jump)) ∧ Z.heap[l]? = some (.loop { rc .ready none with state := .busy }) ∧
          (Z'.heap[l]? = some (.loop (rc (if jump.isNone then .ready else .done) jump)) ∧ Z'.heap[w.heap.size]? = some (.deferred (some []))) ∧ KeepsBut w.heap.size l W Z' := fun jump Z hk => by
      have hZl := hk.same l _ hlD hYl rfl
      have hrun := run_endRound (P := P) jump hZl
      refine ⟨_, by rw [hrc] at hrun ⊢; exact hrun, rfl, hZl, ⟨World.putObj_heap_same (Array.getElem?_eq_some_iff.1 hZl).1, hD' Z _ (hk.same _ _ (Nat.le_refl _) hYD rfl)⟩, (hWYk.trans (KeepsBut.of_from hk)).trans (KeepsBut.put Z _)⟩
    rintro e a3 Z hp
    cases e with
    | normal =>
      obtain ⟨hk, hb, R', hrb, hi3⟩ := hp
      obtain ⟨Z', hr, hZ', hZl, hbk, hkb⟩ := fin none Z hk
      have hZZ : Below w.heap.size Z Z' := by rw [hZ']; exact kw Z _ _ hZl rfl rfl
      exact ⟨_, _, hr, .inl ⟨rfl, R', ⟨by rw [hZ']; exact hI.putObj _ hi3 hlD hZl rfl, hbk⟩, (hWY.trans hb).trans (hZZ.mono hn₀), (hWYr.trans hsY hrb.toKeep).trans (Nat.le_trans hsY hb.size) (by rw [hZ']; exact RKeep.put Z _), hkb⟩⟩
    | ret =>
      obtain ⟨hk, hi3⟩ := hp
      obtain ⟨Z', hr, hZ', hZl, hbk, hkb⟩ := fin (some .ret) Z hk
      exact ⟨_, _, hr, .inr ⟨rfl, ⟨.ret, by rw [hZ']; exact (hIx _).putObj _ hi3 hlD hZl rfl, hbk⟩, hkb⟩⟩
    | exit id =>
      obtain ⟨hk, hi3⟩ := hp
      obtain ⟨Z', hr, hZ', hZl, hbk, hkb⟩ := fin (some (.exit id)) Z hk
      exact ⟨_, _, hr, .inr ⟨rfl, ⟨.exit id, by rw [hZ']; exact (hIx _).putObj _ hi3 hlD hZl rfl, hbk⟩, hkb⟩⟩
    | goto t =>
      obtain ⟨hk, hi3⟩ := hp
      obtain ⟨Z', hr, hZ', hZl, hbk, hkb⟩ := fin (some (.goto t)) Z hk
      exact ⟨_, _, hr, .inr ⟨rfl, ⟨.goto t, by rw [hZ']; exact (hIx _).putObj _ hi3 hlD hZl rfl, hbk⟩, hkb⟩⟩
    | panic ch => exact hp.elim
    | outgrown => exact hp.elim
  · rintro e W2 ⟨⟨v, rfl⟩, (⟨xs, R, hS, hi, hl2, hD2⟩ | ⟨pre, hSp, c, hi, hl2, hD2⟩)⟩
    · exact ⟨none, _, by have := run_endLoop (P := P) hl2 (by rw [hrc]; simp); rw [hrc] at this; exact this, hdone _ xs R _ (Nat.le_refl _) hS (hI.putObj _ hi hlD hl2 rfl) (hD' _ _ hD2)⟩
    · exact ⟨some c, _, by have := run_endLoop (P := P) hl2 (by rw [hrc]; simp); rw [hrc] at this; exact this, hstop _ c pre _ (Nat.le_refl _) hSp ((hIx c).putObj _ hi hlD hl2 rfl) (hD' _ _ hD2)⟩
end Go.Proofs.Ytbbkaephlojalaa
end
section
/- The places of patterns in a tree, told one by one by the program: an iterator that ranges over an iterator. -/
namespace Go.Proofs.Ytbbkaephlojalaa
open Go.RowKit Go.Shelf

attribute [local go_sem] Oper.semAt_some

/-- A scope through which the run goes without a goto. -/
theorem wpIn_scope_w {n : Nat} {P : Program} {c : Code} {Q : Exit → Act → World → Prop} {a : Act} {w : World} (h : c.wpIn Fence.wide n P (Exit.noGoto Q) a w) : (Code.scope c).wpIn Fence.wide n P Q a w :=
  (wpIn_wide (n := n)).2 (wp_scope_straight ((wpIn_wide (n := n)).1 h))

/-- A place as a round is handed it. -/
structure StA where
  i : Nat
  at' : Nat
  g : Nat
  cap : Nat
  ts : List T

def StA.key (x : StA) : Pl := (x.i, x.at', x.ts)
def StA.enc (x : StA) : Array Value := #[.agg #[.int .i64 x.i, .int .i64 x.at', .slice (some ⟨x.g, 0, none⟩) x.ts.length x.cap]]
/-- The parts lie there, and they are small trees. -/
def StA.X (x : StA) (W : World) : Prop := Rd trI W (fun _ => True) (some ⟨x.g, 0, none⟩) x.ts ∧ x.ts.length ≤ x.cap ∧ x.cap ≤ 9223372036854775807 ∧ ∃ p q : T, p.wf ∧ q.wf ∧ p.leaves ≤ 100 ∧ q.leaves ≤ 12 ∧ q.nodes ≤ 16 ∧ p.partsOf q = some x.ts

theorem stRow_length (ps : List T) (x : T) (a k : Nat) : (stRow ps x a k).length ≤ k := by
  rw [stRow]; exact Nat.le_trans (List.length_filterMap_le _ _) (by simp)
theorem stUp_length (ps : List T) : ∀ (xs : List T) (a : Nat), (stUp ps xs a).length ≤ xs.length * ps.length
  | [], _ => by simp [stUp]
  | x :: xs, a => by
    have h1 := stRow_length ps x a ps.length
    have h2 := stUp_length ps xs (a + 1)
    rw [stUp, List.length_append, List.length_cons, Nat.add_mul]; omega

/-- The iterator's own cells: yield, the index of the node, the patterns. -/
def StC (l By Ba Bp gp np cp m : Nat) (V : World) : Prop :=
  V.cell? ⟨By, 0, none⟩ = some (.func (.yield l) #[] #[]) ∧ V.cell? ⟨Ba, 0, none⟩ = some (.int .i64 m) ∧ V.frozen? ⟨Ba, 0, none⟩ = false ∧ V.cell? ⟨Bp, 0, none⟩ = some (.slice (some ⟨gp, 0, none⟩) np cp)

/-- The patterns' row. -/
def SP (w0 : World) (n₀ gp : Nat) (ps : List T) (V : World) : Prop := ∀ i (h : i < ps.length), ∃ b, V.cell? ⟨gp, i, none⟩ = some (.pointer (some b)) ∧ (ps[i]).wf ∧ RepI w0 (fun b => b < n₀) (ps[i]) 71 b

theorem SP.keep {w0 : World} {n₀ gp : Nat} {ps : List T} {A C : World} (h : SP w0 n₀ gp ps A) (hk : ps ≠ [] → gp < A.heap.size → C.heap[gp]? = A.heap[gp]?) : SP w0 n₀ gp ps C := fun i hi => by
  obtain ⟨b, c, h1, h2⟩ := h i hi
  have hlt := World.block_lt_of_cell? A ⟨gp, i, none⟩ c
  exact ⟨b, (World.cell?_of_block (w := A) (by exact hk (fun e => by subst e; simp at hi) hlt)).trans c, h1, h2⟩

theorem SP.lt {w0 : World} {n₀ gp : Nat} {ps : List T} {A : World} (h : SP w0 n₀ gp ps A) (hne : ps ≠ []) : gp < A.heap.size := by
  obtain ⟨b, c, _, _⟩ := h 0 (List.length_pos_iff.2 hne)
  exact World.block_lt_of_cell? A ⟨gp, 0, none⟩ c

/-- What holds between two rounds. -/
structure StI (l By Ba Bp gp np cp n₀ : Nat) (R : Nat → Prop) (J : List StA → (Nat → Prop) → World → Prop) (w0 : World) (ps : List T) (m : Nat) (sts : List StA) (V : World) : Prop where
  cells : StC l By Ba Bp gp np cp m V
  free : ¬ R By ∧ ¬ R Ba ∧ ¬ R Bp ∧ (ps ≠ [] → ¬ R gp)
  hJ : J sts R V
  below : Below n₀ w0 V
  pats : SP w0 n₀ gp ps V

theorem frozen_same {A C : World} {a : Addr} (h : C.heap[a.block]? = A.heap[a.block]?) : C.frozen? a = A.frozen? a := by
  simp [World.frozen?, h]

theorem StC.blocks {l By Ba Bp gp np cp m : Nat} {A C : World} (h : StC l By Ba Bp gp np cp m A) (h1 : C.heap[By]? = A.heap[By]?) (h2 : C.heap[Ba]? = A.heap[Ba]?) (h3 : C.heap[Bp]? = A.heap[Bp]?) : StC l By Ba Bp gp np cp m C := by
  obtain ⟨c1, c2, c3, c4⟩ := h
  refine ⟨?_, ?_, ?_, ?_⟩
  · rw [World.cell?_of_block (w := A) (by exact h1)]; exact c1
  · rw [World.cell?_of_block (w := A) (by exact h2)]; exact c2
  · rw [frozen_same (A := A) (by exact h2)]; exact c3
  · rw [World.cell?_of_block (w := A) (by exact h3)]; exact c4

theorem StC.lt {l By Ba Bp gp np cp m : Nat} {A : World} (h : StC l By Ba Bp gp np cp m A) : By < A.heap.size ∧ Ba < A.heap.size ∧ Bp < A.heap.size :=
  ⟨World.block_lt_of_cell? A ⟨By, 0, none⟩ h.1, World.block_lt_of_cell? A ⟨Ba, 0, none⟩ h.2.1, World.block_lt_of_cell? A ⟨Bp, 0, none⟩ h.2.2.2⟩

theorem StI.grown {l By Ba Bp gp np cp n₀ C₀ Bin : Nat} {R : Nat → Prop} {J : List StA → (Nat → Prop) → World → Prop} {w0 : World} {ps : List T} {m : Nat} {sts : List StA} {A C : World} {row : Option Nat} (h : StI l By Ba Bp gp np cp n₀ R J w0 ps m sts A)
    (hJ : OwnBut C₀ J) (hC : C₀ ≤ Bin) (hlt : Ba < Bin ∧ By < Bin ∧ Bp < Bin) (hgb : ps ≠ [] → gp < Bin) (hn : n₀ ≤ Bin) (hs : Bin ≤ A.heap.size) (hg : A.grownBy C row) (hr : ∀ r, row = some r → Bin ≤ r ∧ ∃ o : Obj, A.heap[r]? = some o ∧ o.isCells = false) :
    StI l By Ba Bp gp np cp n₀ R J w0 ps m sts C := by
  have hb : Below Bin A C := (Below.refl Bin A).grown hg hs (fun k e => (hr k e).1)
  exact ⟨h.cells.blocks (hb.block _ (by omega)) (hb.block _ (by omega)) (hb.block _ (by omega)), h.free, hJ sts R A C row h.hJ hg (fun r e => ⟨by have := (hr r e).1; omega, .inr (hr r e).2⟩), h.below.trans (hb.mono hn), h.pats.keep (fun hne _ => hb.block _ (hgb hne))⟩

theorem StI.later {l By Ba Bp gp np cp n₀ C₀ : Nat} {R : Nat → Prop} {J : List StA → (Nat → Prop) → World → Prop} {w0 : World} {ps : List T} {m : Nat} {sts : List StA} {A C : World} (h : StI l By Ba Bp gp np cp n₀ R J w0 ps m sts A)
    (hJ : OwnBut C₀ J) (hn : n₀ ≤ A.heap.size) (hb : Below A.heap.size A C) : StI l By Ba Bp gp np cp n₀ R J w0 ps m sts C := by
  have hlt := h.cells.lt
  exact ⟨h.cells.blocks (hb.block _ hlt.1) (hb.block _ hlt.2.1) (hb.block _ hlt.2.2), h.free, hJ.below h.hJ hb, h.below.trans (hb.mono hn), h.pats.keep (fun _ hlt => hb.block _ hlt)⟩

/-- Behind a round of the outer loop. -/
theorem StI.round {l By Ba Bp gp np cp n₀ : Nat} {R R' : Nat → Prop} {J : List StA → (Nat → Prop) → World → Prop} {w0 : World} {ps : List T} {m : Nat} {sts sts' : List StA} {A C : World} (h : StI l By Ba Bp gp np cp n₀ R J w0 ps m sts A)
    (hl : By ≠ l ∧ Ba ≠ l ∧ Bp ≠ l ∧ (ps ≠ [] → gp ≠ l)) (hj : J sts' R' C) (hb : Below n₀ A C) (hk : RKeep l R R' A C) : StI l By Ba Bp gp np cp n₀ R' J w0 ps m sts' C := by
  have hlt := h.cells.lt
  refine ⟨h.cells.blocks (hk.keep _ hlt.1 hl.1 h.free.1) (hk.keep _ hlt.2.1 hl.2.1 h.free.2.1) (hk.keep _ hlt.2.2 hl.2.2.1 h.free.2.2.1), ?_, hj, h.below.trans hb, h.pats.keep (fun hne hg => hk.keep _ hg (hl.2.2.2 hne) (h.free.2.2.2 hne))⟩
  exact ⟨fun e => h.free.1 (hk.row _ hlt.1 e), fun e => h.free.2.1 (hk.row _ hlt.2.1 e), fun e => h.free.2.2.1 (hk.row _ hlt.2.2 e), fun hne e => h.free.2.2.2 hne (hk.row _ (h.pats.lt hne) e)⟩

/-- The index of the node goes on. -/
theorem StI.next {l By Ba Bp gp np cp n₀ C₀ : Nat} {R : Nat → Prop} {J : List StA → (Nat → Prop) → World → Prop} {w0 : World} {ps : List T} {m : Nat} {sts : List StA} {A : World} (h : StI l By Ba Bp gp np cp n₀ R J w0 ps m sts A)
    (hJ : OwnBut C₀ J) (hC : C₀ ≤ Ba) (hn : n₀ ≤ Ba) (hne : By ≠ Ba ∧ Bp ≠ Ba) (hgne : ps ≠ [] → gp ≠ Ba) : StI l By Ba Bp gp np cp n₀ R J w0 ps (m + 1) sts (A.setCell ⟨Ba, 0, none⟩ (.int .i64 ((m : Int) + 1))) := by
  have hlt := h.cells.lt
  have hg := grownBy_setCell' A Ba (.int .i64 ((m : Int) + 1))
  have hbl : ∀ k, k < A.heap.size → k ≠ Ba → (A.setCell ⟨Ba, 0, none⟩ (.int .i64 ((m : Int) + 1))).heap[k]? = A.heap[k]? := fun k hk hne => hg.block k hk (fun e => hne (by cases e; rfl))
  have hb : Below Ba A (A.setCell ⟨Ba, 0, none⟩ (.int .i64 ((m : Int) + 1))) := (Below.refl Ba A).setCell (p := ⟨Ba, 0, none⟩) (Nat.le_refl _) _
  obtain ⟨c1, c2, c3, c4⟩ := h.cells
  refine ⟨⟨?_, ?_, ?_, ?_⟩, h.free, hJ sts R A _ (some Ba) h.hJ hg (fun r e => by cases e; exact ⟨hC, .inl h.free.2.1⟩), h.below.trans (hb.mono hn), h.pats.keep (fun h1 h2 => hbl gp h2 (hgne h1))⟩
  · rw [World.cell?_of_block (w := A) (by exact hbl By hlt.1 hne.1)]; exact c1
  · rw [show ((m + 1 : Nat) : Int) = (m : Int) + 1 by omega]; exact World.cell?_setCell_same' _ _ _ (by rw [c2]; rfl)
  · rw [World.frozen?_setCell]; exact c3
  · rw [World.cell?_of_block (w := A) (by exact hbl Bp hlt.2.2 hne.2)]; exact c4

end Go.Proofs.Ytbbkaephlojalaa
end
section
/- Is a tree free of patterns? By the program. -/
namespace Go.Proofs.Ytbbkaephlojalaa
open Go.RowKit Go.Shelf

attribute [local go_sem] Oper.semAt_some

theorem keepsFrom_of_below {B : Nat} {A C : World} (h : Below A.heap.size A C) : KeepsFrom B A C := ⟨h.size, fun k _ _ hk _ => (h.block k (Array.getElem?_eq_some_iff.1 hk).1).trans hk⟩

end Go.Proofs.Ytbbkaephlojalaa
end
