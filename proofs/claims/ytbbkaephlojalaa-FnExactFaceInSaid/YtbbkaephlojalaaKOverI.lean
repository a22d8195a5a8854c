/- Merged out of: XVisit, XRoundQ, XOverI. -/
import Derived.Test.YtbbkaephlojalaaKSym
import Derived.Test.YtbbkaephlojalaaMirrorI
import Derived.RangeFuncNested
import Derived.RangeFuncFrom
import Derived.RangeFuncBound
import Derived.RangeFuncCalls
import Derived.RangeFuncLeaves
import Derived.Shelf.Abstract
import Derived.Shelf.RegionOpen
import Derived.OwnWalkIn
import Derived.TacticsInMore
import Derived.LoopNIn
import Derived.LoopIn
import Derived.Sort.QuietIn
section
/- The program's nodes of a tree, told one by one: a range over a function. -/
namespace Go.Proofs.Ytbbkaephlojalaa
open Go.RowKit Go.Shelf

attribute [local go_sem] Oper.semAt_some

theorem room_none {F : Fence} (hd : F.depth = none) (k : Nat) : F.room k := fun d h => by rw [hd] at h; cases h
theorem round_any {F : Fence} (hd : F.depth = none) {m m' : Nat} {P : Program} {l : Nat} {f : FuncId} {tmps : Array Value} {assign body : Code} {w : World} {R : Ending → World → Prop}
    (h : RoundIn F m P l f tmps assign body w R) : RoundIn F m' P l f tmps assign body w R := ⟨h.1, fun c cs _ => h.2 c cs (room_none hd _)⟩
theorem yield_any {F : Fence} (hd : F.depth = none) {m : Nat} (m' : Nat) {P : Program} {l : Nat} {args : Array Value} {W : World} {R : Ending → World → Prop} (h : YieldAt F m P l args W R) : YieldAt F m' P l args W R := by
  obtain ⟨fn, tmps, assign, body, hy, hR⟩ := h
  exact ⟨fn, tmps, assign, body, hy, round_any hd hR⟩

/-- A node where it lies: its block, its letter, its kids' row. -/
structure NodeA (w0 : World) (n₀ : Nat) where
  b : Nat
  c : UInt8
  g : Nat
  m : Nat
  cap : Nat
  hb : b < n₀
  h0 : w0.cell? ⟨b, 0, none⟩ = some (.string ⟨#[c]⟩)
  h1 : w0.cell? ⟨b, 1, none⟩ = some (.slice (some ⟨g, 0, none⟩) m cap)

def NodeA.key {w0 : World} {n₀ : Nat} (x : NodeA w0 n₀) : UInt8 × Nat := (x.c, x.m)

mutual
/-- A tree's nodes in the order of its text: letters and arities. -/
def T.pre : T → List (UInt8 × Nat)
  | .leaf => []
  | .node c ks => (c, ks.length) :: T.preL ks
def T.preL : List T → List (UInt8 × Nat)
  | [] => []
  | k :: ks => k.pre ++ T.preL ks
end

/-- What a visit of a tree does with these nodes. -/
def Visits (w0 : World) (n₀ : Nat) (xs : List (NodeA w0 n₀)) (v : Value) : Prop :=
  ∀ (F : Fence), F.depth = none → F.fn 54 → F.round = none → ∀ (l N : Nat) (J Jx : List (NodeA w0 n₀) → World → Prop),
    (∀ m pre x W, J pre W → pre.length < N → YieldAt F m Try.prog l #[.pointer (some ⟨x.b, 0, none⟩)] W fun e W' =>
      (e = .returned (.bool true) ∧ J (pre ++ [x]) W' ∧ Below n₀ W W') ∨ (e = .returned (.bool false) ∧ Jx (pre ++ [x]) W')) →
    ∀ n pre W, Below n₀ w0 W → J pre W → pre.length + xs.length ≤ N → CallsIn F n Try.prog 54 #[v, .func (.yield l) #[] #[]] W fun e W' =>
      (e = .returned (.bool true) ∧ J (pre ++ xs) W' ∧ Below n₀ W W') ∨ (e = .returned (.bool false) ∧ ∃ q, q <+: xs ∧ Jx (pre ++ q) W')

theorem choose_lists {α : Type} {n : Nat} {Q : Nat → List α → Prop} (h : ∀ j, j < n → ∃ y, Q j y) : ∃ ys : List (List α), ys.length = n ∧ ∀ j (hj : j < ys.length), Q j ys[j] := by
  induction n with
  | zero => exact ⟨[], rfl, fun j hj => by simp at hj⟩
  | succ n ih =>
    obtain ⟨ys, h1, h2⟩ := ih (fun j hj => h j (by omega))
    obtain ⟨y, hy⟩ := h n (by omega)
    refine ⟨ys ++ [y], by simp [h1], fun j hj => ?_⟩
    by_cases e : j < ys.length
    · rw [List.getElem_append_left e]; exact h2 j e
    · have : j = n := by simp at hj; omega
      subst this
      rw [List.getElem_append_right (by omega)]
      simpa using hy

theorem preL_keys {w0 : World} {n₀ : Nat} : ∀ (ks : List T) (yss : List (List (NodeA w0 n₀))), yss.length = ks.length → (∀ j (h : j < yss.length) (h' : j < ks.length), (yss[j]).map NodeA.key = (ks[j]).pre) → yss.flatten.map NodeA.key = T.preL ks
  | [], [], _, _ => by simp [T.preL]
  | [], _ :: _, h, _ => by simp at h
  | _ :: _, [], h, _ => by simp at h
  | k :: ks, ys :: yss, h, hj => by
    have h0 : ys.map NodeA.key = k.pre := hj 0 (by simp) (by simp)
    have h1 := preL_keys ks yss (by simpa using h) (fun j hp hu => by have := hj (j + 1) (by simp; omega) (by simp; omega); simpa using this)
    simp only [List.flatten_cons, List.map_append, T.preL, h0, h1]

theorem flatten_take_succ {α : Type} {yss : List (List α)} {i : Nat} (h : i < yss.length) : (yss.take (i + 1)).flatten = (yss.take i).flatten ++ yss[i] := by
  rw [List.take_succ_eq_append_getElem h, List.flatten_append]; simp

theorem flatten_take_prefix {α : Type} (yss : List (List α)) (i : Nat) : (yss.take i).flatten <+: yss.flatten := by
  have : yss.flatten = (yss.take i).flatten ++ (yss.drop i).flatten := by rw [← List.flatten_append, List.take_append_drop]
  rw [this]; exact List.prefix_append _ _

set_option maxRecDepth 100000 in
set_option maxHeartbeats 4000000 in
theorem visit_any (w0 : World) (P : Nat → Prop) (n₀ : Nat) (hP : ∀ b, P b → b < n₀) : ∀ (k : Nat) (t : T) (ty : TypeId) (a : Addr), SizeOf.sizeOf t ≤ k → t.wf → RepI w0 P t ty a →
    ∃ xs : List (NodeA w0 n₀), xs.map NodeA.key = t.pre ∧ Visits w0 n₀ xs (.iface ty (.pointer (some a))) := by
  intro k
  induction k with
  | zero => intro t ty a h; cases t <;> simp at h <;> omega
  | succ k ih =>
    intro t ty a hk hw hr
    cases t with
    | leaf =>
      rw [RepI] at hr
      subst hr
      refine ⟨[], by simp [T.pre], ?_⟩
      intro F hd hF hro l N J Jx hY n pre W hB hJ hN
      have HJ := Lib.hid hJ
      have hta := fun v w => assert_leaf v w
      clear hY hJ
      refine callsIn_of_wp Try.func54 rfl hF ?_ hro
      simp only [Try.ntmps54, List.size_toArray, List.length_cons, List.length_nil, Nat.reduceAdd, Nat.reduceSub, Array.replicate_succ, Array.replicate_zero, List.push_toArray, List.append_toArray, List.nil_append, List.cons_append]
      gi_wp2
      go_ret
      exact .inl ⟨rfl, by simpa using HJ.out, Below.refl _ _⟩
    | node c ks =>
      rw [RepI] at hr
      obtain ⟨rfl, b, g, cap, rfl, hPb, hPg, c0, c1, hk6, hL⟩ := hr
      rw [T.wf] at hw
      have hwk := hw.2.2.2.2
      simp only [T.node.sizeOf_spec] at hk
      have hch : ∀ j, j < ks.length → ∃ ys : List (NodeA w0 n₀), (∀ h : j < ks.length, ys.map NodeA.key = (ks[j]).pre ∧ ∃ kty ka, w0.cell? ⟨g, j, none⟩ = some (.iface kty (.pointer (some ka))) ∧ Visits w0 n₀ ys (.iface kty (.pointer (some ka)))) := by
        intro j hj
        obtain ⟨kty, ka, e1, e2⟩ := hL.get j hj
        have hd : SizeOf.sizeOf ks[j] < SizeOf.sizeOf ks := List.sizeOf_lt_of_mem (List.getElem_mem hj)
        obtain ⟨ys, h1, h2⟩ := ih ks[j] kty ka (by omega) (wfL_get hwk j hj) e2
        rw [Nat.zero_add] at e1
        exact ⟨ys, fun _ => ⟨h1, kty, ka, e1, h2⟩⟩
      obtain ⟨yss, hyl, hys⟩ := choose_lists hch
      have HYS := Lib.hid hys
      have HYL := Lib.hid hyl
      refine ⟨⟨b, c, g, ks.length, cap, hP b hPb, c0, c1⟩ :: yss.flatten, ?_, ?_⟩
      · simp only [List.map_cons, T.pre, NodeA.key]
        congr 1
        exact preL_keys ks yss hyl (fun j h h' => (hys j h h').1)
      · intro F hd hF hro l N J Jx hY n pre W hB hJ hN
        obtain ⟨x, hx⟩ : ∃ x : NodeA w0 n₀, x = ⟨b, c, g, ks.length, cap, hP b hPb, c0, c1⟩ := ⟨_, rfl⟩
        rw [← hx]
        rw [← hx] at hN
        have hxb : x.b = b := by rw [hx]
        have hdd : ∀ k : Nat, (F.depth.isSome = true → 1 ≤ k) := fun k h => by rw [hd] at h; cases h
        have hbn := hP b hPb
        have hgn := hP g hPg
        have HY := Lib.hid hY
        simp only [List.length_cons] at hN
        have hy1 := (hY (n - 1) pre x W hJ (by omega)).mono (R' := fun e W1 => (e = .returned (.bool true) ∧ W1.cell? ⟨b, 1, none⟩ = some (.slice (some ⟨g, 0, none⟩) ks.length cap) ∧ J (pre ++ [x]) W1 ∧ Below n₀ W W1) ∨ (e = .returned (.bool false) ∧ Jx (pre ++ [x]) W1))
          (fun e W1 h => h.elim (fun ⟨he, hj, hb1⟩ => .inl ⟨he, (((hB.trans hb1).cell (p := ⟨b, 1, none⟩) hbn).trans c1), hj, hb1⟩) .inr)
        rw [hxb] at hy1
        obtain ⟨fn, tmps, assign, body, hy, hR⟩ := hy1
        have hta := fun v w => assert_node v w
        have HC0 := Lib.hid c0
        have HB := Lib.hid hB
        have HK6 := Lib.hid hk6
        clear hx hY hys hch ih hL hJ c0 c1 hw hwk hyl hB
        refine callsIn_of_wp Try.func54 rfl hF ?_ hro
        simp only [Try.ntmps54, List.size_toArray, List.length_cons, List.length_nil, Nat.reduceAdd, Nat.reduceSub, Array.replicate_succ, Array.replicate_zero, List.push_toArray, List.append_toArray, List.nil_append, List.cons_append]
        gi_wp2_with ((try refine ⟨hdd _, ?_⟩); refine hR.mono ?_; clear hR; rintro e W1 (⟨rfl, c1', hJ1, hb1⟩ | ⟨rfl, hx1⟩))
        · have HJ1 := Lib.hid hJ1
          have HB1 := Lib.hid hb1
          clear hJ1 hb1
          gi_loopw [21] (fun iv wr => ∃ i : Nat, i ≤ ks.length ∧ iv = .int .i64 i ∧ J (pre ++ x :: (yss.take i).flatten) wr ∧ Below n₀ W wr) (fun iv _ => ks.length - (intOf iv).toNat)
          case atStart => exact ⟨0, Nat.zero_le _, rfl, by simpa using HJ1.out, HB1.out⟩
          case round =>
            obtain ⟨i, hi, rfl, hJi, hBi⟩ := hrel
            have HJI := Lib.hid hJi
            have HBI := Lib.hid hBi
            by_cases hlt : i < ks.length
            · have hiy : i < yss.length := by rw [HYL.out]; exact hlt
              obtain ⟨_, kty, ka, e1, hv⟩ := HYS.out i hiy hlt
              have e2 := ((HB.out.trans hBi).cell (p := ⟨g, i, none⟩) hgn).trans e1
              have hfl : (yss.take (i + 1)).flatten.length ≤ yss.flatten.length := (flatten_take_prefix yss (i + 1)).length_le
              have hcall := hv F hd hF hro l N J Jx HY.out (n - 1) (pre ++ x :: (yss.take i).flatten) wr (HB.out.trans hBi) hJi (by
                rw [flatten_take_succ hiy] at hfl
                simp only [List.length_append, List.length_cons] at hfl ⊢
                omega)
              have HC := Lib.hid hcall
              clear hcall hv e1 hfl hJi hBi
              gi_wp2_with ((try refine ⟨hdd _, ?_⟩); gi_at_call 54; refine HC.out.mono ?_; clear HC; rintro e W2 (⟨rfl, hJ2, hb2⟩ | ⟨rfl, q, hq, hx2⟩))
              · go_roundw
                case rel => exact ⟨i + 1, by omega, by go_num, by rw [flatten_take_succ hiy]; simpa [List.append_assoc] using hJ2, HBI.out.trans hb2⟩
                case measure => simp [intOf]; omega
              · go_ret
                refine .inr ⟨rfl, x :: ((yss.take i).flatten ++ q), ?_, by simpa [List.append_assoc] using hx2⟩
                refine List.cons_prefix_cons.2 ⟨rfl, ?_⟩
                obtain ⟨r, hr⟩ := hq
                have h1 := flatten_take_prefix yss (i + 1)
                rw [flatten_take_succ hiy, ← hr, ← List.append_assoc] at h1
                exact (List.prefix_append _ _).trans h1
            · have hik : i = ks.length := by omega
              have hfull : yss.take i = yss := by rw [hik, ← HYL.out, List.take_length]
              rw [hfull] at hJi
              have HJF := Lib.hid hJi
              clear hJi hfull
              gi_wp2
              go_ret
              exact .inl ⟨rfl, HJF.out, HBI.out⟩
        · go_ret
          exact .inr ⟨rfl, [x], by simp, hx1⟩
end Go.Proofs.Ytbbkaephlojalaa
end
section
/- A region of a loop's body whose order is drawn, and which only reads: one walk in the order of the text serves (in a round of a range over a function, too). -/
namespace Go.Proofs.Ytbbkaephlojalaa
open Go

section
variable {F : Fence} {n : Nat} {P : Program} {ops : Array Oper} {md : Region.Mode} {C : World → Prop}

def notDefer (o : Oper) : Bool := match o.op with | .defer _ => false | _ => true

theorem notDefer_spec {o : Oper} (h : notDefer o = true) (c) : o.op ≠ .defer c := fun e => by simp [notDefer, e] at h

theorem round_one {o : Oper} {a : Act} {K : Act → Prop} {K' : Act → World → Prop} {Q' : Exit → Act → World → Prop} {w : World} (hnd : notDefer o = true) (hw : C w) (h : ∀ a w', C w' → K a → K' a w')
    (ha : o.askedIn F P a C) (hh : o.quietIn F n P a C K) : o.wpIn F n P a w K' Q' := by
  obtain ⟨v, hv, hn⟩ := hh
  have hat := hv w hw
  unfold Oper.quietAtIn at hat
  unfold Oper.wpIn
  refine ⟨ha w hw, ?_⟩
  rw [Oper.semAt_plain F _ _ (notDefer_spec hnd)]
  cases hr : (execOp a.eval o).run P w with
  | halt x w' => rw [hr] at hat; exact hat.elim
  | ok x w' =>
    rw [hr] at hat
    cases x with
    | value u => obtain ⟨rfl, rfl⟩ := hat; simp only [Oper.uponIn]; exact h _ _ hw hn
    | skip => obtain ⟨rfl, rfl⟩ := hat; simp only [Oper.uponIn]; exact h _ _ hw hn
    | enter f args =>
      obtain ⟨rfl, hd, hc⟩ := hat
      simp only [Oper.uponIn]
      refine ⟨hd, hc.mono ?_⟩
      rintro e w'' ⟨rfl, hw''⟩
      exact h _ _ hw'' hn
    | _ => exact hat.elim

theorem round_at {i : Nat} {a : Act} {K : Act → Prop} {K' : Act → World → Prop} {Q' : Exit → Act → World → Prop} {w : World} (hnd : ∀ (j : Nat) (o : Oper), ops[j]? = some o → notDefer o = true) (hC : C w) (h : ∀ a w', C w' → K a → K' a w')
    (hh : qOpIn F n P ops C i K a) : wpOpIn F n P ops Q' i K' a w := by
  unfold qOpIn at hh
  unfold wpOpIn
  cases ho : ops[i]? with
  | none => simp only [ho] at hh ⊢; exact h _ _ hC hh
  | some o =>
    simp only [ho] at hh ⊢
    obtain ⟨ha, hh⟩ := hh
    by_cases hw : Region.wanted o (yielded ops a.tmps) = true
    · simp only [hw, if_true] at hh ⊢
      exact round_one (hnd i o ho) hC h ha hh
    · simp only [hw] at hh ⊢
      exact ⟨ha w hC, h _ _ hC hh⟩

theorem round_all {Q : Act → Prop} {Q' : Exit → Act → World → Prop} (hnd : ∀ (j : Nat) (o : Oper), ops[j]? = some o → notDefer o = true) (hQ : ∀ a w, C w → Q a → Q' .normal a w) : ∀ (fuel : Nat) (listed : Array Bool) (a : Act) (w : World), C w →
    wpAnyQIn F n P md ops C Q fuel listed a → wpAnyIn F n P md ops Q' fuel listed a w
  | 0, _, _, _, hw, h => ⟨h.1, hQ _ _ hw h.2⟩
  | fuel + 1, _, _, _, hw, h => ⟨fun h0 => hQ _ _ hw (h.1 h0), fun i hi => round_at hnd hw (fun a' w' hw' => round_all hnd hQ fuel _ a' w' hw') (h.2 i hi)⟩

theorem round_region {id : Nat} {Q : Exit → Act → World → Prop} {a : Act} {w : World} {l : List Oper} (hnd : l.all notDefer = true) (hm : P.follows .mixedOrders = true) (hB : Region.lexB .any l.toArray = true)
    (h : wpQuietIn F n P l.toArray (fun w' => ∃ n, w' = w.drewN n) (fun a' => ∀ w', (∃ n, w' = w.drewN n) → Q .normal a' w') l a) : (Code.region id l.toArray true).wpIn F n P Q a w := by
  have hnd' : ∀ (j : Nat) (o : Oper), l.toArray[j]? = some o → notDefer o = true := fun j o ho => by
    rw [List.all_eq_true] at hnd
    refine hnd o ?_
    rw [List.getElem?_toArray] at ho
    exact List.mem_of_getElem? ho
  simp only [Region.lexB, Bool.and_eq_true] at hB
  refine wpIn_region_any hm (round_all (Q := fun a' => ∀ w', (∃ n, w' = w.drewN n) → Q .normal a' w') (C := fun w' => ∃ n, w' = w.drewN n) hnd' (fun _ w' hw' hq => hq w' hw') _ _ _ _ ⟨1, rfl⟩ ?_)
  have := wpAnyQIn_lex (F := F) (n := n) (P := P) (C := fun w' => ∃ n, w' = w.drewN n) (md := .any) hB.1 l 0 (Array.replicate l.toArray.size false) a (by simp) (by simpa using hB.2) h
  simpa using this
end
end Go.Proofs.Ytbbkaephlojalaa
end
section
/- Is a tree over a signature? By the program. -/
namespace Go.Proofs.Ytbbkaephlojalaa
open Go.RowKit Go.Shelf Go.Maps
open Go.WideMaps (keyOf_string_mk)

attribute [local go_sem] Oper.semAt_some

theorem cell_of_box' {W : World} {B : Nat} {v : Value} {t : TypeId} (h : W.heap[B]? = some (.cells #[v] t (0, 0))) : W.cell? ⟨B, 0, none⟩ = some v ∧ W.frozen? ⟨B, 0, none⟩ = false := by
  constructor <;> simp [World.cell?, World.frozen?, h]
theorem cell_new' (W : World) (v : Value) (t : TypeId) : (W.alloc (.cells #[v] t)).cell? ⟨W.heap.size, 0, none⟩ = some v ∧ (W.alloc (.cells #[v] t)).frozen? ⟨W.heap.size, 0, none⟩ = false :=
  cell_of_box' (World.alloc_heap_new W _)
theorem cell_alloc' {W : World} {a : Addr} {v : Value} (o : Obj) (h : W.cell? a = some v) : (W.alloc o).cell? a = some v := cell_kept h (World.grownBy_alloc W o none) (fun r e => by cases e)
theorem frozen_alloc' {W : World} {a : Addr} {v : Value} (o : Obj) (h : W.cell? a = some v) (hf : W.frozen? a = false) : (W.alloc o).frozen? a = false := (frozen_kept h (World.grownBy_alloc W o none) (fun r e => by cases e)).trans hf

set_option maxHeartbeats 1000000 in
theorem nodesOf1_in (F : Fence) (hd : F.depth = none) (n : Nat) (h5 : F.fn 53) (h6 : F.fn 54) (hro : F.round = none) (l Bt : Nat) (w0 : World) (n₀ : Nat) (xs : List (NodeA w0 n₀)) (ty : TypeId) (a : Addr) (J Jx : List (NodeA w0 n₀) → World → Prop)
    (hY : ∀ pre x W, J pre W → pre.length < xs.length → YieldAt F (n - 1) Try.prog l #[.pointer (some ⟨x.b, 0, none⟩)] W fun e W' =>
      (e = .returned (.bool true) ∧ J (pre ++ [x]) W' ∧ Below n₀ W W') ∨ (e = .returned (.bool false) ∧ Jx (pre ++ [x]) W'))
    (W : World) (hB0 : Below n₀ w0 W) (hBt : W.cell? ⟨Bt, 0, none⟩ = some (.iface ty (.pointer (some a)))) (hv : Visits w0 n₀ xs (.iface ty (.pointer (some a)))) (h0 : J [] W) :
    CallsIn F n Try.prog 53 #[.func (.yield l) #[] #[], .pointer (some ⟨Bt, 0, none⟩)] W fun e W' => (∃ v, e = .returned v) ∧
      ((∃ ys, ys = xs ∧ J ys W') ∨ (∃ pre, pre <+: xs ∧ Jx pre W')) := by
  have hdd : ∀ k : Nat, (F.depth.isSome = true → 1 ≤ k) := fun k h => by rw [hd] at h; cases h
  have hp := hv F hd h6 hro l xs.length J Jx (fun m pre x W hj hl => yield_any hd m (hY pre x W hj hl)) (n - 1) [] W hB0 h0 (by simp)
  refine callsIn_of_wp Try.func53 rfl h5 ?_ hro
  simp only [Try.ntmps53, List.size_toArray, List.length_cons, List.length_nil, Nat.reduceAdd, Nat.reduceSub, Array.replicate_succ, Array.replicate_zero, List.push_toArray, List.append_toArray, List.nil_append, List.cons_append]
  gi_wp2_with ((try refine ⟨hdd _, ?_⟩); gi_at_call 54; refine hp.mono ?_; clear hp; rintro e W1 (⟨rfl, hJ1, _⟩ | ⟨rfl, q, hq, hx⟩))
  · go_end0
    exact ⟨⟨_, rfl⟩, .inl ⟨_, rfl, by simpa using hJ1⟩⟩
  · go_end0
    exact ⟨⟨_, rfl⟩, .inr ⟨q, hq, by simpa using hx⟩⟩

theorem nodes_stops (F : Fence) (hd : F.depth = none) (n : Nat) (h5 : F.fn 53) (h6 : F.fn 54) (hro : F.round = none) (Bt : Nat) (w0 : World) (n₀ : Nat) (xs : List (NodeA w0 n₀)) (ty : TypeId) (a : Addr) (w : World) (hBt : Bt < w.heap.size) (hn₀ : n₀ ≤ w.heap.size)
    (hB0 : Below n₀ w0 w) (hc : w.cell? ⟨Bt, 0, none⟩ = some (.iface ty (.pointer (some a)))) (hv : Visits w0 n₀ xs (.iface ty (.pointer (some a)))) :
    SeqStopsK F n Try.prog 53 #[.pointer (some ⟨Bt, 0, none⟩)] (fun x : NodeA w0 n₀ => #[Value.pointer (some ⟨x.b, 0, none⟩)]) (Below n₀) (fun ys => ys = xs) (fun pre => pre <+: xs) xs.length w := fun l J Jx W hW _ _ hY h0 =>
  nodesOf1_in F hd n h5 h6 hro l Bt w0 n₀ xs ty a J Jx hY W (hB0.trans (hW.mono hn₀)) ((hW.cell (p := ⟨Bt, 0, none⟩) hBt).trans hc) hv h0

set_option maxHeartbeats 1000000 in
theorem nodesOf_in (F : Fence) (n : Nat) (h4 : F.fn 41) (hro : F.round = none) (ty : TypeId) (a : Addr) (w : World) :
    CallsIn F n Try.prog 41 #[.iface ty (.pointer (some a))] w fun e w' => e = .returned (.func (.func 53) #[] #[.pointer (some ⟨w.heap.size, 0, none⟩)]) ∧ w' = w.alloc (.cells #[.iface ty (.pointer (some a))] 34) := by
  refine callsIn_of_wp Try.func41 rfl h4 ?_ hro
  simp only [Try.ntmps41, List.size_toArray, List.length_cons, List.length_nil, Nat.reduceAdd, Nat.reduceSub, Array.replicate_succ, Array.replicate_zero, List.push_toArray, List.append_toArray, List.nil_append, List.cons_append]
  gi_wp2
  go_ret
  exact ⟨rfl, rfl⟩

theorem keeps_drewN (W : World) (n : Nat) : KeepsOthers W (W.drewN n) := ⟨Nat.le_refl _, fun _ _ h _ => h⟩

/-- A node's letter has the node's arity. -/
def okNode (D : DataW Unit) (y : UInt8 × Nat) : Prop := D.atKey (keyL ⟨#[y.1]⟩) (arL 0) = arL y.2

/-- Every node's letter has the node's arity. -/
def overD (D : DataW Unit) (t : T) : Prop := ∀ y ∈ t.pre, okNode D y

end Go.Proofs.Ytbbkaephlojalaa
end
