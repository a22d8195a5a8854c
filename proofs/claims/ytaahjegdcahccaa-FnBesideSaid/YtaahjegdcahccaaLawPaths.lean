/- TreePaths on both sides, and its law. -/
import Derived.Test.YtaahjegdcahccaaStrs
namespace Go.Proofs.Ytaahjegdcahccaa
open Go.RowKit

def pathsOf : Option T → List (List UInt8)
  | none => []
  | some t => t.paths []

theorem pathsOf_len (s : List UInt8) : (pathsOf (parse s)).length ≤ 12 := by
  cases h : parse s with
  | none => simp [pathsOf]
  | some t => obtain ⟨_, _, hl, _⟩ := parse_some h; rw [pathsOf, paths_length]; exact hl

/-- What the model's list of texts is good for. -/
def SList (ps : List (List UInt8)) (b : Bool) (w : World) (e : Ending) (w' : World) : Prop :=
  Below w.heap.size w w' ∧ ∃ a cap, e = .returned (.tuple #[.slice a ps.length cap, .bool b]) ∧ Lies w' a ps

/-- What the program's is good for besides: it lies in a row of its own. -/
def IList (ps : List (List UInt8)) (b : Bool) (w : World) (e : Ending) (w' : World) : Prop :=
  Below w.heap.size w w' ∧ ∃ a cap, e = .returned (.tuple #[.slice a ps.length cap, .bool b]) ∧ Lies w' a ps ∧
    (ps = [] ∨ ∃ g cur, a = some ⟨g, 0, none⟩ ∧ w'.heap[g]? = some (.cells cur 9 (0, 0)) ∧ ps.length ≤ cur.size ∧ w.heap.size ≤ g)

theorem owns_row {w : World} {base g n cap : Nat} {e : TypeId} {xs : List Value} (h : w.ownsRow base e 1 (.slice (some ⟨g, 0, none⟩) n cap) n xs) : ∃ cur, w.heap[g]? = some (.cells cur e (0, 0)) ∧ n ≤ cur.size ∧ base ≤ g := by
  rcases h.2 with ⟨e, _⟩ | ⟨g', cap', cur, e, hb, hg, hn, _, hs, _⟩
  · cases e
  · simp only [Value.slice.injEq, Option.some.injEq, Addr.mk.injEq] at e
    obtain ⟨⟨rfl, _⟩, _, rfl⟩ := e
    exact ⟨cur, hg, by omega, hb⟩

theorem sPaths_any (s : ByteArray) (w : World) (hs : s.size ≤ 140737488351232) :
    Calls Try.prog 50 #[.string s] w (SList (pathsOf (parse s.data.toList)) (parse s.data.toList).isSome w) := by
  go_enter Try.func50, Try.ntmps50
  go_wp2_with fail
  refine (l1Parse_any s w hs).mono ?_
  rintro e w1 ⟨hB, lb, sa, sn, sc, b, rfl, ⟨hno, rfl⟩ | ⟨t, hyes, rfl, hrep⟩⟩
  · have HN := Lib.hid hno
    clear hno
    go_wp2_with fail
    go_ret2
    rw [HN.out]
    exact ⟨(hB.alloc hB.size _).alloc (by have := hB.size; simp; omega) _, _, _, rfl, Lies.nil _ _⟩
  · obtain ⟨hw, htx, hl, hn⟩ := parse_some hyes
    clear htx
    have HN := Lib.hid hyes
    have hb2 : Below w1.heap.size w1 ((w1.alloc (.cells #[.string lb, .slice sa sn sc] 70 (0, 0))).alloc (.cells #[] 9)) := ((Below.refl _ _).alloc (Nat.le_refl _) _).alloc (by simp) _
    have HR := Lib.hid ((hrep.keep (w' := w1) (P' := fun b => b < w1.heap.size) (fun _ _ _ h => h) (fun _ _ h => h) hw).below hw hb2)
    have R0 : Hid (((w1.alloc (.cells #[.string lb, .slice sa sn sc] 70 (0, 0))).alloc (.cells #[] 9)).ownsRow (w1.heap.size + 1) 9 1 (.slice (some ⟨w1.heap.size + 1, 0, none⟩) 0 0) 0 []) := Lib.hid (by
      have := World.ownsRow_made (base := w1.heap.size + 1) (e := 9) (size := 1) (w1.alloc (.cells #[.string lb, .slice sa sn sc] 70 (0, 0))) #[] 0 (by simp) (by simp [maxLen]) rfl
      simpa using this)
    obtain ⟨ps, hps⟩ : ∃ ps, ps = t.paths [] := ⟨_, rfl⟩
    have HT : Hid (Calls Try.prog 100 #[.agg #[.string lb, .slice sa sn sc], .string ⟨#[]⟩, .slice (some ⟨w1.heap.size + 1, 0, none⟩) 0 0] ((w1.alloc (.cells #[.string lb, .slice sa sn sc] 70 (0, 0))).alloc (.cells #[] 9))
        (More (w1.heap.size + 1) (.slice (some ⟨w1.heap.size + 1, 0, none⟩) 0 0) 0 [] ps ((w1.alloc (.cells #[.string lb, .slice sa sn sc] 70 (0, 0))).alloc (.cells #[] 9)))) :=
      Lib.hid (by rw [hps]; exact l1Paths_any _ t _ _ ⟨#[]⟩ (w1.heap.size + 1) (some ⟨w1.heap.size + 1, 0, none⟩) 0 0 [] _ (fun b => b < w1.heap.size) (Nat.le_refl _) hw (by omega) (by change 0 + _ ≤ _; omega) HR.out (fun b h => by omega) (by simp) R0.out)
    have HP := Lib.hid hps
    have HB2 := Lib.hid hb2
    clear hyes hrep hps hb2
    go_wp2_with fail
    refine HT.out.mono ?_
    rintro e w2 ⟨g, cap, rfl, hown, hg, hf⟩
    have HO := Lib.hid hown
    have HG := Lib.hid hg
    clear hown hg hf
    go_wp2_with fail
    go_ret2
    rw [HN.out]
    show SList (t.paths []) true w _ _
    rw [← HP.out]
    have ho := HO.out
    rw [Nat.zero_add] at ho
    refine ⟨(hB.trans (HB2.out.mono hB.size)).grown HG.out (by have := hB.size; simp; omega) (fun q e => ?_), _, _, rfl, Lies.of_owns ho rfl⟩
    simp only [Value.ownBlock, Option.some.injEq] at e
    have := hB.size
    omega

theorem iPaths_any (s : ByteArray) (w : World) (hs : s.size ≤ 140737488351232) :
    Calls Try.prog 51 #[.string s] w (IList (pathsOf (parse s.data.toList)) (parse s.data.toList).isSome w) := by
  go_enter Try.func51, Try.ntmps51
  go_wp2_with fail
  refine (readTree_any s w hs).mono ?_
  rintro e w1 ⟨hB, ⟨hno, rfl⟩ | ⟨t, ty, a, hyes, rfl, hrep⟩⟩
  · have HN := Lib.hid hno
    clear hno
    go_wp2_with fail
    go_ret2
    rw [HN.out]
    exact ⟨hB, _, _, rfl, Lies.nil _ _, .inl rfl⟩
  · obtain ⟨hw, htx, hl, hn⟩ := parse_some hyes
    clear htx
    have HN := Lib.hid hyes
    have HR := Lib.hid hrep
    obtain ⟨ps, hps⟩ : ∃ ps, ps = t.paths [] := ⟨_, rfl⟩
    have HT : Hid (Calls Try.prog 96 #[.iface ty (.pointer (some a)), .string ⟨#[]⟩] w1 (Txts ps w1)) :=
      Lib.hid (by rw [hps]; exact treePaths_any _ t ty a ⟨#[]⟩ w1 _ (Nat.le_refl _) hw (by omega) (by change 0 + _ ≤ _; omega) HR.out)
    have HP := Lib.hid hps
    clear hyes hrep hps
    go_wp2_with fail
    refine HT.out.mono ?_
    rintro e w2 ⟨hB2, g, cap, rfl, hown⟩
    have HO := Lib.hid hown
    clear hown
    go_wp2_with fail
    go_ret2
    rw [HN.out]
    show IList (t.paths []) true w _ _
    rw [← HP.out]
    obtain ⟨cur, h1, h2, h3⟩ := owns_row HO.out
    exact ⟨below_step hB hB2, _, _, rfl, Lies.of_owns HO.out rfl, .inr ⟨g, cur, rfl, h1, h2, by have := hB.size; omega⟩⟩

/-- No text to mark. -/
theorem markStringS_none (a : Option Addr) (cap m : Nat) (w : World) :
    Calls Try.prog 52 #[.slice a 0 cap, .int .i64 m] w (Ans (.int .i64 m) w) := by
  go_enter Try.func52, Try.ntmps52
  go_wp2_with fail
  go_rounds 1
  go_ret
  exact ⟨rfl, Below.refl _ _⟩

/-- The marks are laid, and nothing else that was there turns. -/
theorem mark_any (ps : List (List UInt8)) (a : Option Addr) (cap : Nat) (w0 w : World) (hn : ps.length ≤ 1000000)
    (h : ps = [] ∨ ∃ g cur, a = some ⟨g, 0, none⟩ ∧ w.heap[g]? = some (.cells cur 9 (0, 0)) ∧ ps.length ≤ cur.size ∧ w0.heap.size ≤ g) (hs : w0.heap.size ≤ w.heap.size) :
    Calls Try.prog 52 #[.slice a ps.length cap, .int .i64 1] w fun e w' => e = .returned (.int .i64 (1 + ps.length : Nat)) ∧ Below w0.heap.size w w' ∧ Lies w' a ((List.range ps.length).map fun j => mark (1 + j)) := by
  rcases h with rfl | ⟨g, cur, rfl, h1, h2, h3⟩
  · exact (markStringS_none a cap 1 w).mono fun e w' ⟨he, hb⟩ => ⟨he, hb.mono hs, Lies.nil _ _⟩
  · exact (markStringS_any ps.length g cap 1 cur w hn (by omega) (by omega) h1 h2).mono fun e w' ⟨he, hg, hl⟩ => ⟨he, ⟨hg.os, hg.tape, hg.output, hg.size, fun k hk => hg.block k (by omega) (by simp; omega)⟩, hl⟩

theorem Lies.belowB {w w' : World} {a : Option Addr} {ps : List (List UInt8)} {B : Nat} (h : Lies w a ps) (hb : Below B w w') (hB : ∀ g, a = some ⟨g, 0, none⟩ → ps ≠ [] → g < B) : Lies w' a ps := fun j hj => by
  obtain ⟨g, e, hc⟩ := h j hj
  exact ⟨g, e, (hb.cell (p := ⟨g, j, none⟩) (hB g e (by intro h; subst h; simp at hj))).trans hc⟩

theorem Lies.lt {w : World} {a : Option Addr} {ps : List (List UInt8)} (h : Lies w a ps) (g : Nat) (e : a = some ⟨g, 0, none⟩) (hp : ps ≠ []) : g < w.heap.size := by
  obtain ⟨g', e', hc⟩ := h 0 (by cases ps; exact absurd rfl hp; simp)
  rw [e] at e'
  simp only [Option.some.injEq, Addr.mk.injEq] at e'
  rw [e'.1]
  exact World.block_lt_of_cell? w _ hc

set_option maxRecDepth 100000 in
set_option maxHeartbeats 1000000 in
theorem lawPaths_any (s : ByteArray) (w : World) (hs : s.size ≤ maxLen) :
    Calls Try.prog 12 #[.string s] w (Ans (.bool true) w) := by
  unfold maxLen at hs
  by_cases h : (s.size : Int) ≤ 1048576
  · have hpl := pathsOf_len s.data.toList
    have hS0 := fun w => sPaths_any s w (by omega)
    have hI0 := fun w => iPaths_any s w (by omega)
    obtain ⟨ps, hps⟩ : ∃ ps, pathsOf (parse s.data.toList) = ps := ⟨_, rfl⟩
    obtain ⟨b, hb⟩ : ∃ b, (parse s.data.toList).isSome = b := ⟨_, rfl⟩
    rw [hps] at hpl hS0 hI0
    rw [hb] at hS0 hI0
    have HS := Lib.hid hS0
    have HI := Lib.hid hI0
    clear hS0 hI0 hps hb
    have hne1 : ((1 + ps.length : Nat) : Int) = 1 + (ps.length : Int) := by omega
    cases b
    all_goals
      go_enter Try.func12, Try.ntmps12
      go_wp2_with fail
      refine (HS.out w).mono ?_
      rintro e w1 ⟨hB1, a1, c1, rfl, hl1⟩
      have L1 := Lib.hid hl1
      clear hl1
      go_wp2_with fail
      refine (HI.out w1).mono ?_
      rintro e w2 ⟨hB2, a2, c2, rfl, hl2, hrow⟩
      have L2 := Lib.hid hl2
      have R2 := Lib.hid hrow
      clear hl2 hrow
      go_wp2_with fail
      refine (eqStringS_any ps a2 a1 c2 c1 w2 (by omega) L2.out (L1.out.below hB2)).mono ?_
      rintro e w3 ⟨rfl, hB3⟩
      have hz2 := hB2.size
      have hz3 := hB3.size
      have R3 : Hid (ps = [] ∨ ∃ g cur, a2 = some ⟨g, 0, none⟩ ∧ w3.heap[g]? = some (.cells cur 9 (0, 0)) ∧ ps.length ≤ cur.size ∧ w1.heap.size ≤ g) := Lib.hid (by
        rcases R2.out with h | ⟨g, cur, h1, h2, h3, h4⟩
        · exact .inl h
        · exact .inr ⟨g, cur, h1, (hB3.block g ((Array.getElem?_eq_some_iff.1 h2).1)).trans h2, h3, h4⟩)
      go_wp2_with fail
      refine (mark_any ps a2 c2 w1 w3 (by omega) R3.out (by omega)).mono ?_
      rintro e w4 ⟨rfl, hB4, hl4⟩
      have L4 := Lib.hid hl4
      have hz4 := hB4.size
      clear hl4
      go_wp2_with fail
      refine (heldStringS_any ps.length a2 c2 1 w4 (by omega) (by omega) (by omega) L4.out).mono ?_
      rintro e w5 ⟨rfl, hB5⟩
      have hz5 := hB5.size
      go_wp2_with fail
      refine (HI.out w5).mono ?_
      rintro e w6 ⟨hB6, a3, c3, rfl, hl6, _⟩
      have L6 := Lib.hid hl6
      have L1' : Hid (Lies w6 a1 ps) := Lib.hid ((((((L1.out.below hB2).below hB3).belowB hB4 (fun g e hp => L1.out.lt g e hp)).below hB5).below hB6))
      have L4' : Hid (Lies w6 a2 ((List.range ps.length).map fun j => mark (1 + j))) := Lib.hid ((L4.out.below hB5).below hB6)
      have hz6 := hB6.size
      clear hl6
      go_wp2_with fail
      refine (eqStringS_any ps a3 a1 c3 c1 w6 (by omega) L6.out L1'.out).mono ?_
      rintro e w7 ⟨rfl, hB7⟩
      go_wp2_with fail
      refine (heldStringS_any ps.length a2 c2 1 w7 (by omega) (by omega) (by omega) (L4'.out.below hB7)).mono ?_
      rintro e w8 ⟨rfl, hB8⟩
      go_wp2_with fail
      go_ret
      exact ⟨rfl, below_step (below_step (below_step (below_step ((below_step (below_step hB1 hB2) hB3).trans (hB4.mono hB1.size)) hB5) hB6) hB7) hB8⟩
  · go_enter Try.func12, Try.ntmps12
    go_wp2_with fail
    go_ret
    exact ⟨rfl, Below.refl _ _⟩
end Go.Proofs.Ytaahjegdcahccaa
