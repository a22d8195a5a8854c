/- Merged out of: XKPathsI, XLawPathsC. -/
import Derived.Test.YtbbkaephlojalaaMirrorI
import Derived.Deep.RegionLaw
import Derived.Test.YtbbkaephlojalaaKReadA
import Derived.Deep.QuietTactic
import Derived.BigQuiet
section
/- Merged out of: XPathsI, XPathsS, XStrsC. -/
section
/- The program's ways to leaves. -/
namespace Go.Proofs.Ytbbkaephlojalaa
open Go.RowKit

mutual
def T.paths : List UInt8 → T → List (List UInt8)
  | way, .leaf => [way]
  | way, .node c ks => T.pathsL (way ++ [c]) ks
def T.pathsL : List UInt8 → List T → List (List UInt8)
  | _, [] => []
  | way, k :: ks => k.paths way ++ T.pathsL way ks
end

mutual
theorem paths_length : ∀ (t : T) (way : List UInt8), (t.paths way).length = t.leaves
  | .leaf, _ => by simp [T.paths, T.leaves]
  | .node c ks, way => by simp [T.paths, T.leaves, pathsL_length ks (way ++ [c])]
theorem pathsL_length : ∀ (ks : List T) (way : List UInt8), (T.pathsL way ks).length = T.leavesL ks
  | [], _ => by simp [T.pathsL, T.leavesL]
  | k :: ks, way => by simp [T.pathsL, T.leavesL, paths_length k way, pathsL_length ks way]
end

theorem pathsL_append (way : List UInt8) (a b : List T) : T.pathsL way (a ++ b) = T.pathsL way a ++ T.pathsL way b := by
  induction a with
  | nil => simp [T.pathsL]
  | cons x a ih => simp [T.pathsL, ih]

theorem pathsL_take {way : List UInt8} {ks : List T} {k : Nat} (h : k < ks.length) : T.pathsL way (ks.take (k + 1)) = T.pathsL way (ks.take k) ++ (ks[k]).paths way := by
  rw [List.take_succ_eq_append_getElem h, pathsL_append]; simp [T.pathsL]

/-- Texts as cells. -/
def txts (ps : List (List UInt8)) : List Value := ps.map fun p => .string ⟨p.toArray⟩

theorem txts_append (a b : List (List UInt8)) : txts (a ++ b) = txts a ++ txts b := by simp [txts]
theorem txts_length (a : List (List UInt8)) : (txts a).length = a.length := by simp [txts]
theorem txts_one (a : List (List UInt8)) : ∀ u ∈ txts a, u.oneCell' = true := by
  intro u hu
  simp only [txts, List.mem_map] at hu
  obtain ⟨p, _, rfl⟩ := hu
  rfl

/-- A new list of texts is handed back. -/
def Txts (ps : List (List UInt8)) (w : World) (e : Ending) (w' : World) : Prop :=
  Below w.heap.size w w' ∧ ∃ g cap, e = .returned (.slice (some ⟨g, 0, none⟩) ps.length cap) ∧ w'.ownsRow w.heap.size 9 1 (.slice (some ⟨g, 0, none⟩) ps.length cap) ps.length (txts ps)

theorem info9 : (Try.prog.info? 9).map (fun i => (i.zero, i.size, i.bytes)) = some (some (.string ⟨#[]⟩), 1, 16) := by kernel_rfl

/-- A row written out. -/
theorem owns_lit1 {w : World} {e : TypeId} (x : Value) : (w.alloc (.cells #[x] e)).ownsRow w.heap.size e 1 (.slice (some ⟨w.heap.size, 0, none⟩) 1 1) 1 [x] :=
  ⟨rfl, .inr ⟨w.heap.size, 1, #[x], rfl, Nat.le_refl _, heap_alloc_new w _, Nat.le_refl _, by simp [maxLen], rfl, rfl⟩⟩

theorem size_snoc (s : ByteArray) (c : UInt8) : (s ++ (⟨#[c]⟩ : ByteArray)).size = s.size + 1 := by rw [ByteArray.size_append]; rfl

end Go.Proofs.Ytbbkaephlojalaa
end
section
/- The model's ways to leaves. -/
namespace Go.Proofs.Ytbbkaephlojalaa
open Go.RowKit

theorem own_any (a : Option Addr) (n c : Nat) : (Value.slice a n c).ownBlock = (Value.slice a 0 0).ownBlock := by cases a <;> rfl

/-- A list of the caller's own is handed back, longer. -/
def More (base : Nat) (v : Value) (n : Nat) (xs : List Value) (ps : List (List UInt8)) (w : World) (e : Ending) (w' : World) : Prop :=
  ∃ g cap, e = .returned (.slice (some ⟨g, 0, none⟩) (n + ps.length) cap) ∧ w'.ownsRow base 9 1 (.slice (some ⟨g, 0, none⟩) (n + ps.length) cap) (n + ps.length) (xs ++ txts ps) ∧
    w.grownBy w' v.ownBlock ∧ (v.ownBlock = some g ∨ w.heap.size ≤ g)

theorem RepS.grown {w w' : World} {P : Nat → Prop} {row : Option Nat} {t : T} {l s : Value} (h : RepS w P t l s) (hw : t.wf) (hg : w.grownBy w' row) (hP : ∀ b, P b → some b ≠ row) : RepS w' P t l s :=
  h.keep (fun _ _ hq hu => hg.cell hu (hP _ hq)) (fun _ h _ => h) hw

end Go.Proofs.Ytbbkaephlojalaa
end
section
/- The laws' own helpers on lists of texts: equal, marked, held. -/
namespace Go.Proofs.Ytbbkaephlojalaa
open Go.RowKit

/-- The last digit. -/
def dg (k : Nat) : UInt8 := UInt8.ofNat (48 + k % 10)

theorem dg_nat (k : Nat) : (dg k).toNat = 48 + k % 10 := by
  unfold dg
  rw [UInt8.toNat_ofNat']
  omega

def digits : Nat → Nat → List UInt8
  | 0, _ => []
  | f + 1, k => if k = 0 then [] else digits f (k / 10) ++ [dg k]

/-- The k-th mark. -/
def mark (k : Nat) : List UInt8 := 109 :: digits 20 k

theorem digit_conv (j : Nat) (w : World) : (convert 22 9 (.slice (some ⟨w.heap.size, 0, none⟩) 1 1)).run Try.prog (w.alloc (.cells #[.int .u8 (48 + (j : Int) % 10)] 5)) =
    .ok (.string ⟨#[dg j]⟩) (w.alloc (.cells #[.int .u8 (48 + (j : Int) % 10)] 5)) := by
  refine run_convert_bytes_back (l := [dg j]) _ _ _ 5 _ _ Try.underlying22 Try.underlying5 Try.underlying9 ?_
  intro i hi
  simp at hi
  subst hi
  have e : (⟨w.heap.size, 0, none⟩ : Addr).add 0 = ⟨w.heap.size, 0, none⟩ := by unfold Addr.add; split <;> simp_all
  rw [e]
  simp [dg_nat]

theorem below_drewN {B : Nat} {a w : World} (h : Below B a w) (n : Nat) : Below B a (w.drewN n) := ⟨h.os, h.tape, h.output, h.size, h.block⟩

/-- A slice reads as these texts. -/
def Lies (w : World) (a : Option Addr) (ps : List (List UInt8)) : Prop := ∀ j (h : j < ps.length), ∃ g, a = some ⟨g, 0, none⟩ ∧ w.cell? ⟨g, j, none⟩ = some (.string ⟨(ps[j]).toArray⟩)

theorem Lies.below {w w' : World} {a : Option Addr} {ps : List (List UInt8)} (h : Lies w a ps) (hb : Below w.heap.size w w') : Lies w' a ps := fun j hj => by
  obtain ⟨g, e, hc⟩ := h j hj
  exact ⟨g, e, keep1 hb hc⟩

theorem Lies.nil (w : World) (a : Option Addr) : Lies w a [] := fun j h => by simp at h

theorem Lies.of_owns {w : World} {base g n cap : Nat} {ps : List (List UInt8)} (h : w.ownsRow base 9 1 (.slice (some ⟨g, 0, none⟩) n cap) n (txts ps)) (hn : n = ps.length) : Lies w (some ⟨g, 0, none⟩) ps := fun j hj => by
  refine ⟨g, rfl, ?_⟩
  rw [h.cellAt j (by omega)]
  simp [txts, hj]

end Go.Proofs.Ytbbkaephlojalaa
end
end
section
/- TreePaths on both sides, and its law. -/
namespace Go.Proofs.Ytbbkaephlojalaa
open Go.RowKit

def pathsOf : Option T → List (List UInt8)
  | none => []
  | some t => t.paths []

theorem pathsOf_len (s : List UInt8) : (pathsOf (parse s)).length ≤ 12 := by
  cases h : parse s with
  | none => simp [pathsOf]
  | some t => obtain ⟨_, _, hl, _⟩ := parse_some h; rw [pathsOf, paths_length]; exact hl

/-- What the model's list of texts is good for. -/
def SList (ps : List (List UInt8)) (b : Bool) (w : World) (e : Ending) (w' : World) : Prop :=
  Below w.heap.size w w' ∧ ∃ a cap, e = .returned (.tuple #[.slice a ps.length cap, .bool b]) ∧ Lies w' a ps

/-- What the program's is good for besides: it lies in a row of its own. -/
def IList (ps : List (List UInt8)) (b : Bool) (w : World) (e : Ending) (w' : World) : Prop :=
  Below w.heap.size w w' ∧ ∃ a cap, e = .returned (.tuple #[.slice a ps.length cap, .bool b]) ∧ Lies w' a ps ∧
    (ps = [] ∨ ∃ g cur, a = some ⟨g, 0, none⟩ ∧ w'.heap[g]? = some (.cells cur 9 (0, 0)) ∧ ps.length ≤ cur.size ∧ w.heap.size ≤ g)

theorem owns_row {w : World} {base g n cap : Nat} {e : TypeId} {xs : List Value} (h : w.ownsRow base e 1 (.slice (some ⟨g, 0, none⟩) n cap) n xs) : ∃ cur, w.heap[g]? = some (.cells cur e (0, 0)) ∧ n ≤ cur.size ∧ base ≤ g := by
  rcases h.2 with ⟨e, _⟩ | ⟨g', cap', cur, e, hb, hg, hn, _, hs, _⟩
  · cases e
  · simp only [Value.slice.injEq, Option.some.injEq, Addr.mk.injEq] at e
    obtain ⟨⟨rfl, _⟩, _, rfl⟩ := e
    exact ⟨cur, hg, by omega, hb⟩

theorem Lies.belowB {w w' : World} {a : Option Addr} {ps : List (List UInt8)} {B : Nat} (h : Lies w a ps) (hb : Below B w w') (hB : ∀ g, a = some ⟨g, 0, none⟩ → ps ≠ [] → g < B) : Lies w' a ps := fun j hj => by
  obtain ⟨g, e, hc⟩ := h j hj
  exact ⟨g, e, (hb.cell (p := ⟨g, j, none⟩) (hB g e (by intro h; subst h; simp at hj))).trans hc⟩

theorem Lies.lt {w : World} {a : Option Addr} {ps : List (List UInt8)} (h : Lies w a ps) (g : Nat) (e : a = some ⟨g, 0, none⟩) (hp : ps ≠ []) : g < w.heap.size := by
  obtain ⟨g', e', hc⟩ := h 0 (by cases ps; exact absurd rfl hp; simp)
  rw [e] at e'
  simp only [Option.some.injEq, Addr.mk.injEq] at e'
  rw [e'.1]
  exact World.block_lt_of_cell? w _ hc

end Go.Proofs.Ytbbkaephlojalaa
end
