/- The program's nodes of a tree, told one by one, each with the part that begins there. -/
import Derived.Test.YtlmedcmheninaaaKOverI
import Derived.Test.YtlmedcmheninaaaStandM
import Derived.Test.YtlmedcmheninaaaMatI
namespace Go.Proofs.Ytlmedcmheninaaa
open Go.RowKit Go.Shelf

attribute [local go_sem] Oper.semAt_some

/-- A node where it lies, with the part that begins there. -/
structure NodeT (w0 : World) (n₀ : Nat) where
  b : Nat
  t : T
  hb : b < n₀
  hw : t.wf
  hs : t.leaves ≤ 12 ∧ t.nodes ≤ 16
  rep : RepI w0 (fun b => b < n₀) t 120 ⟨b, 0, none⟩

/-- What a visit of a tree does with these nodes. -/
def VisitsT (w0 : World) (n₀ : Nat) (xs : List (NodeT w0 n₀)) (v : Value) : Prop :=
  ∀ (F : Fence), F.depth = none → F.fn 157 → F.round = none → ∀ (l N : Nat) (J Jx : List (NodeT w0 n₀) → World → Prop),
    (∀ m pre x W, J pre W → pre.length < N → YieldAt F m Try.prog l #[.pointer (some ⟨x.b, 0, none⟩)] W fun e W' =>
      (e = .returned (.bool true) ∧ J (pre ++ [x]) W' ∧ Below n₀ W W') ∨ (e = .returned (.bool false) ∧ Jx (pre ++ [x]) W')) →
    ∀ n pre W, Below n₀ w0 W → J pre W → pre.length + xs.length ≤ N → CallsIn F n Try.prog 157 #[v, .func (.yield l) #[] #[]] W fun e W' =>
      (e = .returned (.bool true) ∧ J (pre ++ xs) W' ∧ Below n₀ W W') ∨ (e = .returned (.bool false) ∧ ∃ q, q <+: xs ∧ Jx (pre ++ q) W')

theorem kid_le : ∀ (ks : List T) (j : Nat) (h : j < ks.length), (ks[j]).leaves ≤ T.leavesL ks ∧ (ks[j]).nodes ≤ T.nodesL ks
  | [], _, h => by simp at h
  | k :: ks, 0, _ => by rw [T.leavesL, T.nodesL]; simp
  | k :: ks, j + 1, h => by
    have := kid_le ks j (by simpa using h)
    rw [T.leavesL, T.nodesL]
    simp only [List.getElem_cons_succ]
    omega

theorem subsL_keys {w0 : World} {n₀ : Nat} : ∀ (ks : List T) (yss : List (List (NodeT w0 n₀))), yss.length = ks.length → (∀ j (h : j < yss.length) (h' : j < ks.length), (yss[j]).map NodeT.t = (ks[j]).subs) → yss.flatten.map NodeT.t = T.subsL ks
  | [], [], _, _ => by simp [T.subsL]
  | [], _ :: _, h, _ => by simp at h
  | _ :: _, [], h, _ => by simp at h
  | k :: ks, ys :: yss, h, hj => by
    have h0 : ys.map NodeT.t = k.subs := hj 0 (by simp) (by simp)
    have h1 := subsL_keys ks yss (by simpa using h) (fun j hp hu => by have := hj (j + 1) (by simp; omega) (by simp; omega); simpa using this)
    simp only [List.flatten_cons, List.map_append, T.subsL, h0, h1]

set_option maxRecDepth 100000 in
set_option maxHeartbeats 4000000 in
theorem visitT_any (w0 : World) (P : Nat → Prop) (n₀ : Nat) (hP : ∀ b, P b → b < n₀) : ∀ (k : Nat) (t : T) (ty : TypeId) (a : Addr), SizeOf.sizeOf t ≤ k → t.wf → t.leaves ≤ 12 ∧ t.nodes ≤ 16 → RepI w0 P t ty a →
    ∃ xs : List (NodeT w0 n₀), xs.map NodeT.t = t.subs ∧ VisitsT w0 n₀ xs (.iface ty (.pointer (some a))) := by
  intro k
  induction k with
  | zero => intro t ty a h; cases t <;> simp at h <;> omega
  | succ k ih =>
    intro t ty a hk hw hsz hr
    cases t with
    | leaf =>
      rw [RepI] at hr
      subst hr
      refine ⟨[], by simp [T.subs], ?_⟩
      intro F hd hF hro l N J Jx hY n pre W hB hJ hN
      have HJ := Lib.hid hJ
      have hta := fun v w => assert_leaf v w
      clear hY hJ
      refine callsIn_of_wp Try.func157 rfl hF ?_ hro
      simp only [Try.ntmps157, List.size_toArray, List.length_cons, List.length_nil, Nat.reduceAdd, Nat.reduceSub, Array.replicate_succ, Array.replicate_zero, List.push_toArray, List.append_toArray, List.nil_append, List.cons_append]
      gi_wp2
      go_ret
      exact .inl ⟨rfl, by simpa using HJ.out, Below.refl _ _⟩
    | node c ks =>
      have hr1 := hr.keep (P' := fun b => b < n₀) (fun _ _ _ h => h) (fun b h _ => hP b h) hw
      rw [RepI] at hr
      obtain ⟨rfl, b, g, cap, rfl, hPb, hPg, c0, c1, hk6, hL⟩ := hr
      have hr0 : RepI w0 (fun b => b < n₀) (.node c ks) 120 ⟨b, 0, none⟩ := hr1
      clear hr1
      have hwk : T.wfL ks := by rw [T.wf] at hw; exact hw.2.2.2.2
      simp only [T.node.sizeOf_spec] at hk
      have hch : ∀ j, j < ks.length → ∃ ys : List (NodeT w0 n₀), (∀ h : j < ks.length, ys.map NodeT.t = (ks[j]).subs ∧ ∃ kty ka, w0.cell? ⟨g, j, none⟩ = some (.iface kty (.pointer (some ka))) ∧ VisitsT w0 n₀ ys (.iface kty (.pointer (some ka)))) := by
        intro j hj
        obtain ⟨kty, ka, e1, e2⟩ := hL.get j hj
        have hd : SizeOf.sizeOf ks[j] < SizeOf.sizeOf ks := List.sizeOf_lt_of_mem (List.getElem_mem hj)
        obtain ⟨ys, h1, h2⟩ := ih ks[j] kty ka (by omega) (wfL_get hwk j hj) (by have := kid_le ks j hj; rw [T.leaves, T.nodes] at hsz; omega) e2
        rw [Nat.zero_add] at e1
        exact ⟨ys, fun _ => ⟨h1, kty, ka, e1, h2⟩⟩
      obtain ⟨yss, hyl, hys⟩ := choose_lists hch
      have HYS := Lib.hid hys
      have HYL := Lib.hid hyl
      refine ⟨⟨b, .node c ks, hP b hPb, hw, hsz, hr0⟩ :: yss.flatten, ?_, ?_⟩
      · simp only [List.map_cons, T.subs]
        congr 1
        exact subsL_keys ks yss hyl (fun j h h' => (hys j h h').1)
      · intro F hd hF hro l N J Jx hY n pre W hB hJ hN
        obtain ⟨x, hx⟩ : ∃ x : NodeT w0 n₀, x = ⟨b, .node c ks, hP b hPb, hw, hsz, hr0⟩ := ⟨_, rfl⟩
        rw [← hx]
        rw [← hx] at hN
        have hxb : x.b = b := by rw [hx]
        have hdd : ∀ k : Nat, (F.depth.isSome = true → 1 ≤ k) := fun k h => by rw [hd] at h; cases h
        have hbn := hP b hPb
        have hgn := hP g hPg
        have HY := Lib.hid hY
        simp only [List.length_cons] at hN
        have hy1 := (hY (n - 1) pre x W hJ (by omega)).mono (R' := fun e W1 => (e = .returned (.bool true) ∧ W1.cell? ⟨b, 1, none⟩ = some (.slice (some ⟨g, 0, none⟩) ks.length cap) ∧ J (pre ++ [x]) W1 ∧ Below n₀ W W1) ∨ (e = .returned (.bool false) ∧ Jx (pre ++ [x]) W1))
          (fun e W1 h => h.elim (fun ⟨he, hj, hb1⟩ => .inl ⟨he, (((hB.trans hb1).cell (p := ⟨b, 1, none⟩) hbn).trans c1), hj, hb1⟩) .inr)
        rw [hxb] at hy1
        obtain ⟨fn, tmps, assign, body, hy, hR⟩ := hy1
        have hta := fun v w => assert_node v w
        have HC0 := Lib.hid c0
        have HB := Lib.hid hB
        have HK6 := Lib.hid hk6
        clear hx hY hys hch ih hL hJ c0 c1 hw hwk hyl hB
        refine callsIn_of_wp Try.func157 rfl hF ?_ hro
        simp only [Try.ntmps157, List.size_toArray, List.length_cons, List.length_nil, Nat.reduceAdd, Nat.reduceSub, Array.replicate_succ, Array.replicate_zero, List.push_toArray, List.append_toArray, List.nil_append, List.cons_append]
        gi_wp2_with ((try refine ⟨hdd _, ?_⟩); refine hR.mono ?_; clear hR; rintro e W1 (⟨rfl, c1', hJ1, hb1⟩ | ⟨rfl, hx1⟩))
        · have HJ1 := Lib.hid hJ1
          have HB1 := Lib.hid hb1
          clear hJ1 hb1
          gi_loopw [21] (fun iv wr => ∃ i : Nat, i ≤ ks.length ∧ iv = .int .i64 i ∧ J (pre ++ x :: (yss.take i).flatten) wr ∧ Below n₀ W wr) (fun iv _ => ks.length - (intOf iv).toNat)
          case atStart => exact ⟨0, Nat.zero_le _, rfl, by simpa using HJ1.out, HB1.out⟩
          case round =>
            obtain ⟨i, hi, rfl, hJi, hBi⟩ := hrel
            have HJI := Lib.hid hJi
            have HBI := Lib.hid hBi
            by_cases hlt : i < ks.length
            · have hiy : i < yss.length := by rw [HYL.out]; exact hlt
              obtain ⟨_, kty, ka, e1, hv⟩ := HYS.out i hiy hlt
              have e2 := ((HB.out.trans hBi).cell (p := ⟨g, i, none⟩) hgn).trans e1
              have hfl : (yss.take (i + 1)).flatten.length ≤ yss.flatten.length := (flatten_take_prefix yss (i + 1)).length_le
              have hcall := hv F hd hF hro l N J Jx HY.out (n - 1) (pre ++ x :: (yss.take i).flatten) wr (HB.out.trans hBi) hJi (by
                rw [flatten_take_succ hiy] at hfl
                simp only [List.length_append, List.length_cons] at hfl ⊢
                omega)
              have HC := Lib.hid hcall
              clear hcall hv e1 hfl hJi hBi
              gi_wp2_with ((try refine ⟨hdd _, ?_⟩); gi_at_call 157; refine HC.out.mono ?_; clear HC; rintro e W2 (⟨rfl, hJ2, hb2⟩ | ⟨rfl, q, hq, hx2⟩))
              · go_roundw
                case rel => exact ⟨i + 1, by omega, by go_num, by rw [flatten_take_succ hiy]; simpa [List.append_assoc] using hJ2, HBI.out.trans hb2⟩
                case measure => simp [intOf]; omega
              · go_ret
                refine .inr ⟨rfl, x :: ((yss.take i).flatten ++ q), ?_, by simpa [List.append_assoc] using hx2⟩
                refine List.cons_prefix_cons.2 ⟨rfl, ?_⟩
                obtain ⟨r, hr⟩ := hq
                have h1 := flatten_take_prefix yss (i + 1)
                rw [flatten_take_succ hiy, ← hr, ← List.append_assoc] at h1
                exact (List.prefix_append _ _).trans h1
            · have hik : i = ks.length := by omega
              have hfull : yss.take i = yss := by rw [hik, ← HYL.out, List.take_length]
              rw [hfull] at hJi
              have HJF := Lib.hid hJi
              clear hJi hfull
              gi_wp2
              go_ret
              exact .inl ⟨rfl, HJF.out, HBI.out⟩
        · go_ret
          exact .inr ⟨rfl, [x], by simp, hx1⟩
set_option maxHeartbeats 1000000 in
theorem nodesOfT1_in (F : Fence) (hd : F.depth = none) (n : Nat) (h5 : F.fn 156) (h6 : F.fn 157) (hro : F.round = none) (l Bt : Nat) (w0 : World) (n₀ : Nat) (xs : List (NodeT w0 n₀)) (ty : TypeId) (a : Addr) (J Jx : List (NodeT w0 n₀) → World → Prop)
    (hY : ∀ pre x W, J pre W → pre.length < xs.length → YieldAt F (n - 1) Try.prog l #[.pointer (some ⟨x.b, 0, none⟩)] W fun e W' =>
      (e = .returned (.bool true) ∧ J (pre ++ [x]) W' ∧ Below n₀ W W') ∨ (e = .returned (.bool false) ∧ Jx (pre ++ [x]) W'))
    (W : World) (hB0 : Below n₀ w0 W) (hBt : W.cell? ⟨Bt, 0, none⟩ = some (.iface ty (.pointer (some a)))) (hv : VisitsT w0 n₀ xs (.iface ty (.pointer (some a)))) (h0 : J [] W) :
    CallsIn F n Try.prog 156 #[.func (.yield l) #[] #[], .pointer (some ⟨Bt, 0, none⟩)] W fun e W' => (∃ v, e = .returned v) ∧
      ((∃ ys, ys = xs ∧ J ys W') ∨ (∃ pre, pre <+: xs ∧ Jx pre W')) := by
  have hdd : ∀ k : Nat, (F.depth.isSome = true → 1 ≤ k) := fun k h => by rw [hd] at h; cases h
  have hp := hv F hd h6 hro l xs.length J Jx (fun m pre x W hj hl => yield_any hd m (hY pre x W hj hl)) (n - 1) [] W hB0 h0 (by simp)
  refine callsIn_of_wp Try.func156 rfl h5 ?_ hro
  simp only [Try.ntmps156, List.size_toArray, List.length_cons, List.length_nil, Nat.reduceAdd, Nat.reduceSub, Array.replicate_succ, Array.replicate_zero, List.push_toArray, List.append_toArray, List.nil_append, List.cons_append]
  gi_wp2_with ((try refine ⟨hdd _, ?_⟩); gi_at_call 157; refine hp.mono ?_; clear hp; rintro e W1 (⟨rfl, hJ1, _⟩ | ⟨rfl, q, hq, hx⟩))
  · go_end0
    exact ⟨⟨_, rfl⟩, .inl ⟨_, rfl, by simpa using hJ1⟩⟩
  · go_end0
    exact ⟨⟨_, rfl⟩, .inr ⟨q, hq, by simpa using hx⟩⟩

theorem nodesT_stops (F : Fence) (hd : F.depth = none) (n : Nat) (h5 : F.fn 156) (h6 : F.fn 157) (hro : F.round = none) (Bt : Nat) (w0 : World) (n₀ : Nat) (xs : List (NodeT w0 n₀)) (ty : TypeId) (a : Addr) (w : World) (hBt : Bt < w.heap.size) (hn₀ : n₀ ≤ w.heap.size)
    (hB0 : Below n₀ w0 w) (hc : w.cell? ⟨Bt, 0, none⟩ = some (.iface ty (.pointer (some a)))) (hv : VisitsT w0 n₀ xs (.iface ty (.pointer (some a)))) :
    SeqStopsK F n Try.prog 156 #[.pointer (some ⟨Bt, 0, none⟩)] (fun x : NodeT w0 n₀ => #[Value.pointer (some ⟨x.b, 0, none⟩)]) (Below n₀) (fun ys => ys = xs) (fun pre => pre <+: xs) xs.length w := fun l J Jx W hW _ _ hY h0 =>
  nodesOfT1_in F hd n h5 h6 hro l Bt w0 n₀ xs ty a J Jx hY W (hB0.trans (hW.mono hn₀)) ((hW.cell (p := ⟨Bt, 0, none⟩) hBt).trans hc) hv h0

end Go.Proofs.Ytlmedcmheninaaa
