/- Merged out of: XSortPt, XComb. -/
import Derived.Test.YtapobhnhnldlkaaSumRI
import Derived.Test.YtapobhnhnldlkaaShelf
import Derived.Shelf.SlSortCmp.WholeK
import Derived.Shelf.SlSortCmp.NoneTotal
import Derived.Laws.EntriesVeiled
import Derived.Deep.RegionHeld3
import Derived.Deep.CutRange
import Derived.Deep.CutBlock
section
/- The library's sort at the parts of a combination: what stands in the row behind it. -/
namespace Go.Proofs.Ytapobhnhnldlkaa
open Go.RowKit Go.Sort

/-- A part, and the values in which its tree stands. -/
structure PtD where
  c : Int
  t : T
  x : Value
  y : Value
  z : Value

def PtD.ok (w : World) (P : Nat → Prop) (q : PtD) : Prop := q.t.wf ∧ q.t.leaves ≤ 1000 ∧ q.t.nodes ≤ 1000 ∧ RkI w P q.t q.x q.y q.z

def encPt {w : World} {P : Nat → Prop} (q : {q : PtD // q.ok w P}) : List Value := [.int .i64 q.1.c, q.1.x, q.1.y, q.1.z]
def cfPt {w : World} {P : Nat → Prop} (p q : {q : PtD // q.ok w P}) : Int := ordT q.1.t p.1.t

theorem encPt_one {w : World} {P : Nat → Prop} (q : {q : PtD // q.ok w P}) : ∀ v ∈ encPt q, v.oneCell' = true :=
  tmI.one (w := w) (P := P) (a := (q.1.c, q.1.t)) ⟨_, _, _, rfl, q.2.1, q.2.2.2.2⟩

theorem ltPt {w : World} {P : Nat → Prop} (p q : {q : PtD // q.ok w P}) : ltOf (cfPt (w := w) (P := P)) p q = decide (ordT q.1.t p.1.t < 0) := rfl

theorem swoPt {w : World} {P : Nat → Prop} : SWO (ltOf (cfPt (w := w) (P := P))) where
  irrefl x := by rw [ltPt, isCmp_ordT.self]; rfl
  trans x y z h1 h2 := by
    rw [ltPt] at h1 h2 ⊢
    have e1 := of_decide_eq_true h1
    have e2 := of_decide_eq_true h2
    exact decide_eq_true (isCmp_ordT.lt_le e2 (by omega))
  ntrans x y z h1 h2 := by
    rw [ltPt] at h1 h2 ⊢
    have e1 := of_decide_eq_false h1
    have e2 := of_decide_eq_false h2
    have := isCmp_ordT.ge_ge (a := z.1.t) (b := y.1.t) (d := x.1.t) (by omega) (by omega)
    exact decide_eq_false (by omega)

/-- What was readable outside of the row is so in every world that the sort passes through. -/
theorem keeps_sort {α : Type} [Inhabited α] (enc : α → List Value) (k : Nat) (w : World) (blk off m : Nat) (dk : Array α) (os : Array Obj) : Keeps (fun b => b ≠ blk) w (sortWorldK enc k w blk off m dk os) := fun a v ha hv => by
  have h1 := World.block_lt_of_cell? w a hv
  have h2 : (putRowK enc k (Sort.ahead w m) blk off dk).cell? a = some v := by rw [cell?_putRowK_other _ _ _ _ _ _ _ ha]; exact hv
  have h3 := World.block_lt_of_cell? _ a h2
  unfold sortWorldK
  rw [World.cell?_of_block (w := putRowK enc k (Sort.ahead w m) blk off dk)]
  · exact h2
  · show ((putRowK enc k (Sort.ahead w m) blk off dk).heap ++ os)[a.block]? = _
    rw [Array.getElem?_append_left h3]

theorem grown_sort {α : Type} [Inhabited α] (enc : α → List Value) (k : Nat) (w : World) (blk off m : Nat) (dk : Array α) (os : Array Obj) : w.grownBy (sortWorldK enc k w blk off m dk os) (some blk) := by
  have hh : ∀ i, i ≠ blk → (putRowK enc k (Sort.ahead w m) blk off dk).heap[i]? = w.heap[i]? := fun i hi => by
    show ((Sort.ahead w m).heap.modify blk _)[i]? = _
    rw [Array.getElem?_modify, if_neg (fun e => hi e.symm)]
    rfl
  have hs : (putRowK enc k (Sort.ahead w m) blk off dk).heap.size = w.heap.size := by
    show ((Sort.ahead w m).heap.modify blk _).size = _
    rw [Array.size_modify]; rfl
  refine ⟨rfl, rfl, rfl, ?_, fun i hi hn => ?_⟩
  · show w.heap.size ≤ ((putRowK enc k (Sort.ahead w m) blk off dk).heap ++ os).size
    rw [Array.size_append, hs]; omega
  · show ((putRowK enc k (Sort.ahead w m) blk off dk).heap ++ os)[i]? = _
    rw [Array.getElem?_append_left (by rw [hs]; exact hi)]
    exact hh i (fun e => hn (by rw [e]))

/-- What the sort leaves: the parts, none behind a greater one. -/
def SortPost (Q : Nat → Prop) (ps : List Tm) (blk : Nat) (w : World) (e : Ending) (w' : World) : Prop :=
  e = .returned (.tuple #[]) ∧ w.grownBy w' (some blk) ∧ ∃ qs : List Tm, qs.Perm ps ∧ (∀ i j (hi : i < qs.length) (hj : j < qs.length), i < j → 0 ≤ ordT (qs[i]).2 (qs[j]).2) ∧
    ∀ k (h : k < qs.length), ∃ x y z, w'.cell? ⟨blk, k * 4, none⟩ = some (.int .i64 (qs[k]).1) ∧ w'.cell? ⟨blk, k * 4 + 1, none⟩ = some x ∧ w'.cell? ⟨blk, k * 4 + 2, none⟩ = some y ∧ w'.cell? ⟨blk, k * 4 + 3, none⟩ = some z ∧ (qs[k]).2.wf ∧ RkI w' (fun b => b ≠ blk ∧ Q b) (qs[k]).2 x y z

end Go.Proofs.Ytapobhnhnldlkaa
end
section
/- The program brings parts into one form. -/
namespace Go.Proofs.Ytapobhnhnldlkaa
open Go.RowKit

theorem modPrime_any (x : Int) (w : World) (_h1 : -1000000000000 ≤ x) (_h2 : x ≤ 1000000000000) :
    Calls Try.prog 40 #[.int .i64 x] w fun e w' => e = .returned (.int .i64 (x % 101)) ∧ w = w' := by
  have HV : Hid ((x.tmod 101 + 101) % 101 = x % 101) := Lib.hid (by
    have h3 := Int.tmod_add_mul_tdiv x 101
    have h4 := Int.tmod_lt_of_pos x (show (0 : Int) < 101 by omega)
    have h5 := Int.lt_tmod_of_pos x (show (0 : Int) < 101 by omega)
    omega)
  have hb1 := Int.tmod_lt_of_pos x (show (0 : Int) < 101 by omega)
  have hb2 := Int.lt_tmod_of_pos x (show (0 : Int) < 101 by omega)
  go_enter Try.func40, Try.ntmps40
  go_wp2_with fail
  go_ret
  exact ⟨by rw [← HV.out]; rfl, rfl⟩

/-- A copy of parts, new. -/
def ClonePost (P : Nat → Prop) (ps : List Tm) (w : World) (e : Ending) (w' : World) : Prop :=
  Below w.heap.size w w' ∧ ∃ g cap xs, e = .returned (.slice (some ⟨g, 0, none⟩) ps.length cap) ∧ w.heap.size ≤ g ∧ Row (tmI.inn P) 80 w.heap.size ps (.slice (some ⟨g, 0, none⟩) ps.length cap) xs w'

set_option maxRecDepth 100000 in
set_option maxHeartbeats 1000000 in
theorem clonePts_any (P : Nat → Prop) (ps : List Tm) (n : Nat) (hn : n = ps.length) (g cap : Nat) (w : World) (hn2 : n ≤ 100000) (hr : Rd tmI w P (some ⟨g, 0, none⟩) ps) :
    Calls Try.prog 37 #[.slice (some ⟨g, 0, none⟩) n cap] w (ClonePost P ps w) := by
  obtain ⟨i0, hi0, hzz, hzs, hzb⟩ := info_parts infoPt
  have hrW := hr.weak (P' := fun b => b < w.heap.size ∧ P b) (by decide) (fun _ h hlt => ⟨hlt, h⟩)
  obtain ⟨c1, c2, c3⟩ := hrW.cells (by decide) 0 n (by omega)
  rw [Nat.zero_mul] at c1 c2 c3
  obtain ⟨news, hnews⟩ : ∃ news, news = rowCells w g 0 (n * 4) := ⟨_, rfl⟩
  have HNL : Hid (news.length = n * 4) := Lib.hid (by rw [hnews, rowCells_length])
  have HNC : Hid (∀ j u, news[j]? = some u → (w.alloc (.cells #[] 80)).cell? ((⟨g, 0, none⟩ : Addr).add j) = some u) := Lib.hid (fun j u hu => by
    have e : (⟨g, 0, none⟩ : Addr).add j = ⟨g, j, none⟩ := by unfold Addr.add; split <;> simp_all
    rw [hnews] at hu
    have := c1 j u hu
    rw [Nat.zero_add] at this
    rw [e]; exact keep1 ((Below.refl _ _).alloc (Nat.le_refl _) _) this)
  have HN1 : Hid (∀ u ∈ news, u.oneCell' = true) := Lib.hid (by rw [hnews]; exact c2)
  have HN3 : Hid (∀ q (hq : q < ps.length), ∃ cs, (∀ j, j < 4 → news[q * 4 + j]? = cs[j]?) ∧ tmI.R w (fun b => b < w.heap.size ∧ P b) ps[q] cs) := Lib.hid (fun q hq => by
    obtain ⟨cs, e1, e2⟩ := c3 q (by omega)
    refine ⟨cs, by rw [hnews]; exact e1, ?_⟩
    simp only [Nat.zero_add] at e2
    exact e2)
  have OWN0 : Hid ((w.alloc (.cells #[] 80)).ownsRow w.heap.size 80 4 (.slice (some ⟨w.heap.size, 0, none⟩) 0 0) 0 []) := Lib.hid (World.ownsRow_made w #[] 0 (Nat.le_refl _) (by simp [maxLen]) rfl)
  have hnil : (binOp .eql 64 (.slice (some ⟨g, 0, none⟩) n cap) (.slice none 0 0)).run Try.prog w = .ok (.bool false) w := by
    simp only [binOp]
    simp [Op.equal, Op.maxDepth, Lib.run_equalIn_slice_nil w 9999 64 80 (some ⟨g, 0, none⟩) n cap 0 0 Try.underlying64]
  have HNN := Lib.hid hn
  clear hr hrW c1 c2 c3 hnews hn
  go_enter Try.func37, Try.ntmps37
  go_wp2_with (at_builtin; refine wpList_append_own_at _ rfl _ _ 64 rfl w.heap.size 80 i0 (.agg #[.int .i64 0, .nilIface, .slice none 0 0, .string ⟨#[]⟩]) 4 64 Try.underlying64 hi0 hzz hzs hzb rfl (by decide) (.slice (some ⟨w.heap.size, 0, none⟩) 0 0) 0 [] rfl OWN0.out ⟨g, 0, none⟩ n cap news rfl HNL.out HNC.out HN1.out (by unfold maxLen; omega) (by omega) (by simp) ?_; intro v1 w2 hown2 hg2 hnil2 hat2)
  rw [Nat.zero_add, List.nil_append] at hown2
  obtain ⟨g1, q1, rfl, hq1, hq2, hg1b⟩ := owns_some hown2 (fun e => by have := hnil2.1 e; simp at this)
  have HB := Lib.hid (((Below.refl w.heap.size w).alloc (Nat.le_refl _) (.cells #[] 80)).grown hg2 (by simp) (fun q e => by simp [Value.ownBlock] at e; omega))
  have HOWN := Lib.hid hown2
  clear hown2 hg2 hnil2 hat2
  go_wp2_with fail
  go_ret
  have HR := Row.of_old (E := tmI.inn P) HB.out (by rw [← HNN.out]; exact HOWN.out) (Nat.le_refl _) HN3.out
  exact ⟨HB.out, g1, q1, news, by rw [← HNN.out]; rfl, hg1b, by rw [← HNN.out]; exact HR⟩

/-- What 'combine' answers. -/
def CombPost (P : Nat → Prop) (ps : List Tm) (w : World) (e : Ending) (w' : World) : Prop :=
  Below w.heap.size w w' ∧ ∃ g c, e = .returned (.agg #[.func (.func 27) #[] #[], .slice (some ⟨g, 0, none⟩) (canon ps).length c]) ∧ Rd tmI w' (fun b => P b ∨ w.heap.size ≤ b) (some ⟨g, 0, none⟩) (canon ps)

end Go.Proofs.Ytapobhnhnldlkaa
end
