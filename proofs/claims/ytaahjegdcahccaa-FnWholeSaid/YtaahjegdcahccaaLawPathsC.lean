/- TreePaths on both sides, and its law. -/
import Derived.Test.YtaahjegdcahccaaStrsC
namespace Go.Proofs.Ytaahjegdcahccaa
open Go.RowKit

def pathsOf : Option T → List (List UInt8)
  | none => []
  | some t => t.paths []

theorem pathsOf_len (s : List UInt8) : (pathsOf (parse s)).length ≤ 12 := by
  cases h : parse s with
  | none => simp [pathsOf]
  | some t => obtain ⟨_, _, hl, _⟩ := parse_some h; rw [pathsOf, paths_length]; exact hl

/-- What the model's list of texts is good for. -/
def SList (ps : List (List UInt8)) (b : Bool) (w : World) (e : Ending) (w' : World) : Prop :=
  Below w.heap.size w w' ∧ ∃ a cap, e = .returned (.tuple #[.slice a ps.length cap, .bool b]) ∧ Lies w' a ps

/-- What the program's is good for besides: it lies in a row of its own. -/
def IList (ps : List (List UInt8)) (b : Bool) (w : World) (e : Ending) (w' : World) : Prop :=
  Below w.heap.size w w' ∧ ∃ a cap, e = .returned (.tuple #[.slice a ps.length cap, .bool b]) ∧ Lies w' a ps ∧
    (ps = [] ∨ ∃ g cur, a = some ⟨g, 0, none⟩ ∧ w'.heap[g]? = some (.cells cur 9 (0, 0)) ∧ ps.length ≤ cur.size ∧ w.heap.size ≤ g)

theorem owns_row {w : World} {base g n cap : Nat} {e : TypeId} {xs : List Value} (h : w.ownsRow base e 1 (.slice (some ⟨g, 0, none⟩) n cap) n xs) : ∃ cur, w.heap[g]? = some (.cells cur e (0, 0)) ∧ n ≤ cur.size ∧ base ≤ g := by
  rcases h.2 with ⟨e, _⟩ | ⟨g', cap', cur, e, hb, hg, hn, _, hs, _⟩
  · cases e
  · simp only [Value.slice.injEq, Option.some.injEq, Addr.mk.injEq] at e
    obtain ⟨⟨rfl, _⟩, _, rfl⟩ := e
    exact ⟨cur, hg, by omega, hb⟩

theorem sPaths_any (s : ByteArray) (w : World) (hs : s.size ≤ 140737488351232) :
    Calls Try.prog 50 #[.string s] w (SList (pathsOf (parse s.data.toList)) (parse s.data.toList).isSome w) := by
  go_enter Try.func50, Try.ntmps50
  go_wp2_with fail
  refine (l1Parse_any s w hs).mono ?_
  rintro e w1 ⟨hB, lb, sa, sn, sc, b, rfl, ⟨hno, rfl⟩ | ⟨t, hyes, rfl, hrep⟩⟩
  · have HN := Lib.hid hno
    clear hno
    go_wp2_with fail
    go_ret2
    rw [HN.out]
    exact ⟨(hB.alloc hB.size _).alloc (by have := hB.size; simp; omega) _, _, _, rfl, Lies.nil _ _⟩
  · obtain ⟨hw, htx, hl, hn⟩ := parse_some hyes
    clear htx
    have HN := Lib.hid hyes
    have hb2 : Below w1.heap.size w1 ((w1.alloc (.cells #[.string lb, .slice sa sn sc] 70 (0, 0))).alloc (.cells #[] 9)) := ((Below.refl _ _).alloc (Nat.le_refl _) _).alloc (by simp) _
    have HR := Lib.hid ((hrep.keep (w' := w1) (P' := fun b => b < w1.heap.size) (fun _ _ _ h => h) (fun _ _ h => h) hw).below hw hb2)
    have R0 : Hid (((w1.alloc (.cells #[.string lb, .slice sa sn sc] 70 (0, 0))).alloc (.cells #[] 9)).ownsRow (w1.heap.size + 1) 9 1 (.slice (some ⟨w1.heap.size + 1, 0, none⟩) 0 0) 0 []) := Lib.hid (by
      have := World.ownsRow_made (base := w1.heap.size + 1) (e := 9) (size := 1) (w1.alloc (.cells #[.string lb, .slice sa sn sc] 70 (0, 0))) #[] 0 (by simp) (by simp [maxLen]) rfl
      simpa using this)
    obtain ⟨ps, hps⟩ : ∃ ps, ps = t.paths [] := ⟨_, rfl⟩
    have HT : Hid (Calls Try.prog 100 #[.agg #[.string lb, .slice sa sn sc], .string ⟨#[]⟩, .slice (some ⟨w1.heap.size + 1, 0, none⟩) 0 0] ((w1.alloc (.cells #[.string lb, .slice sa sn sc] 70 (0, 0))).alloc (.cells #[] 9))
        (More (w1.heap.size + 1) (.slice (some ⟨w1.heap.size + 1, 0, none⟩) 0 0) 0 [] ps ((w1.alloc (.cells #[.string lb, .slice sa sn sc] 70 (0, 0))).alloc (.cells #[] 9)))) :=
      Lib.hid (by rw [hps]; exact l1Paths_any _ t _ _ ⟨#[]⟩ (w1.heap.size + 1) (some ⟨w1.heap.size + 1, 0, none⟩) 0 0 [] _ (fun b => b < w1.heap.size) (Nat.le_refl _) hw (by omega) (by change 0 + _ ≤ _; omega) HR.out (fun b h => by omega) (by simp) R0.out)
    have HP := Lib.hid hps
    have HB2 := Lib.hid hb2
    clear hyes hrep hps hb2
    go_wp2_with fail
    refine HT.out.mono ?_
    rintro e w2 ⟨g, cap, rfl, hown, hg, hf⟩
    have HO := Lib.hid hown
    have HG := Lib.hid hg
    clear hown hg hf
    go_wp2_with fail
    go_ret2
    rw [HN.out]
    show SList (t.paths []) true w _ _
    rw [← HP.out]
    have ho := HO.out
    rw [Nat.zero_add] at ho
    refine ⟨(hB.trans (HB2.out.mono hB.size)).grown HG.out (by have := hB.size; simp; omega) (fun q e => ?_), _, _, rfl, Lies.of_owns ho rfl⟩
    simp only [Value.ownBlock, Option.some.injEq] at e
    have := hB.size
    omega

theorem iPaths_any (s : ByteArray) (w : World) (hs : s.size ≤ 140737488351232) :
    Calls Try.prog 51 #[.string s] w (IList (pathsOf (parse s.data.toList)) (parse s.data.toList).isSome w) := by
  go_enter Try.func51, Try.ntmps51
  go_wp2_with fail
  refine (readTree_any s w hs).mono ?_
  rintro e w1 ⟨hB, ⟨hno, rfl⟩ | ⟨t, ty, a, hyes, rfl, hrep⟩⟩
  · have HN := Lib.hid hno
    clear hno
    go_wp2_with fail
    go_ret2
    rw [HN.out]
    exact ⟨hB, _, _, rfl, Lies.nil _ _, .inl rfl⟩
  · obtain ⟨hw, htx, hl, hn⟩ := parse_some hyes
    clear htx
    have HN := Lib.hid hyes
    have HR := Lib.hid hrep
    obtain ⟨ps, hps⟩ : ∃ ps, ps = t.paths [] := ⟨_, rfl⟩
    have HT : Hid (Calls Try.prog 96 #[.iface ty (.pointer (some a)), .string ⟨#[]⟩] w1 (Txts ps w1)) :=
      Lib.hid (by rw [hps]; exact treePaths_any _ t ty a ⟨#[]⟩ w1 _ (Nat.le_refl _) hw (by omega) (by change 0 + _ ≤ _; omega) HR.out)
    have HP := Lib.hid hps
    clear hyes hrep hps
    go_wp2_with fail
    refine HT.out.mono ?_
    rintro e w2 ⟨hB2, g, cap, rfl, hown⟩
    have HO := Lib.hid hown
    clear hown
    go_wp2_with fail
    go_ret2
    rw [HN.out]
    show IList (t.paths []) true w _ _
    rw [← HP.out]
    obtain ⟨cur, h1, h2, h3⟩ := owns_row HO.out
    exact ⟨below_step hB hB2, _, _, rfl, Lies.of_owns HO.out rfl, .inr ⟨g, cur, rfl, h1, h2, by have := hB.size; omega⟩⟩

theorem Lies.belowB {w w' : World} {a : Option Addr} {ps : List (List UInt8)} {B : Nat} (h : Lies w a ps) (hb : Below B w w') (hB : ∀ g, a = some ⟨g, 0, none⟩ → ps ≠ [] → g < B) : Lies w' a ps := fun j hj => by
  obtain ⟨g, e, hc⟩ := h j hj
  exact ⟨g, e, (hb.cell (p := ⟨g, j, none⟩) (hB g e (by intro h; subst h; simp at hj))).trans hc⟩

theorem Lies.lt {w : World} {a : Option Addr} {ps : List (List UInt8)} (h : Lies w a ps) (g : Nat) (e : a = some ⟨g, 0, none⟩) (hp : ps ≠ []) : g < w.heap.size := by
  obtain ⟨g', e', hc⟩ := h 0 (by cases ps; exact absurd rfl hp; simp)
  rw [e] at e'
  simp only [Option.some.injEq, Addr.mk.injEq] at e'
  rw [e'.1]
  exact World.block_lt_of_cell? w _ hc

end Go.Proofs.Ytaahjegdcahccaa
