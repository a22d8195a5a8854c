/- The program ranks trees, compares them, and reads a sum. -/
import Derived.Test.YtapobhnhnldlkaaSumR
import Derived.Test.YtapobhnhnldlkaaOrdG
import Derived.Test.YtapobhnhnldlkaaKReadL
import Derived.Deep.CutRange
import Derived.Deep.CutBlock
namespace Go.Proofs.Ytapobhnhnldlkaa
open Go.RowKit

/-- What 'rank' answers. -/
def RankPost (P : Nat → Prop) (t : T) (w : World) (e : Ending) (w' : World) : Prop :=
  Below w.heap.size w w' ∧ ∃ x y z, e = .returned (.agg #[x, y, z]) ∧ RkI w' (fun b => P b ∨ w.heap.size ≤ b) t x y z

/-- The leaves of a tree behind an interface, counted where nothing is made. -/
def LvI (W : World) (ty : TypeId) (a : Addr) (L : Nat) : Prop :=
  (ty = 66 ∧ ∀ n, Calls Try.prog 109 #[.pointer (some a)] (W.drewN n) fun e w' => e = .returned (.int .i64 (L : Int)) ∧ w' = W.drewN n) ∨
  (ty = 65 ∧ ∀ n, Calls Try.prog 103 #[.pointer (some a)] (W.drewN n) fun e w' => e = .returned (.int .i64 (L : Int)) ∧ w' = W.drewN n)

theorem LvI.of {W : World} {P : Nat → Prop} {t : T} {ty : TypeId} {a : Addr} (hw : t.wf) (hl : t.leaves < 1000000) (hr : RepI W P t ty a) : LvI W ty a t.leaves := by
  cases t with
  | leaf =>
    rw [RepI] at hr
    exact .inl ⟨hr, fun n => (leafLeaves_any a _).mono fun e w' h => ⟨by rw [h.1]; rfl, h.2.symm⟩⟩
  | node c ks =>
    have hty : ty = 65 := by have := hr; rw [RepI] at this; exact this.1
    have hwk := hw
    rw [T.wf] at hwk
    refine .inr ⟨hty, fun n => ?_⟩
    rw [T.leaves] at hl ⊢
    exact (nodeLeaves_any _ c ks _ a _ P (Nat.le_refl _) hwk.2.2.2.2 hl (hr.below hw (below_drewN (Below.refl _ _) n))).mono (fun e w' h => ⟨by rw [h.1]; simp, h.2.symm⟩)

theorem infoPt : (Try.prog.info? 80).map (fun i => (i.zero, i.size, i.bytes)) = some (some (.agg #[.int .i64 0, .nilIface, .slice none 0 0, .string ⟨#[]⟩]), 4, 64) := by kernel_rfl

theorem cells_four {w : World} {n : Nat} {t : TypeId} (hn : n = w.heap.size) (x y z u : Value) :
    ∀ (j : Nat) (v : Value), [x, y, z, u][j]? = some v → (w.alloc (.cells #[x, y, z, u] t)).cell? ((⟨n, 0, none⟩ : Addr).add j) = some v := by
  intro j v h
  have e : (⟨n, 0, none⟩ : Addr).add j = ⟨n, j, none⟩ := by unfold Addr.add; split <;> simp_all
  rw [e, World.cell?_alloc_at _ _ _ _ hn]
  simpa using h

theorem methLeaf (a : Addr) (w : World) : (method 284 66 (.pointer (some a)) "loop.example/operadtrees/impl.leaves").run Try.prog w = .ok (109, .pointer (some a)) w := by kernel_rfl
theorem methNode (a : Addr) (w : World) : (method 284 65 (.pointer (some a)) "loop.example/operadtrees/impl.leaves").run Try.prog w = .ok (103, .pointer (some a)) w := by kernel_rfl

/-- What 'readTerms' answers. -/
def RTm (lo hi : Int) (xs : List (Int × ByteArray)) (w : World) (e : Ending) (w' : World) : Prop :=
  Below w.heap.size w w' ∧ ((termsOf lo hi xs = none ∧ e = .returned (.tuple #[.slice none 0 0, .bool false])) ∨
    ∃ ps g c, termsOf lo hi xs = some ps ∧ e = .returned (.tuple #[.slice (some ⟨g, 0, none⟩) ps.length c, .bool true]) ∧ Rd tmI w' (fun b => w.heap.size ≤ b) (some ⟨g, 0, none⟩) ps)

end Go.Proofs.Ytapobhnhnldlkaa
