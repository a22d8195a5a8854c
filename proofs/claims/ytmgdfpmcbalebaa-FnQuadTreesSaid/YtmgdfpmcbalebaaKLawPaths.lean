/- Merged out of: XDepth, XLawPaths. -/
import Derived.Test.YtmgdfpmcbalebaaKGraftD
import Derived.Test.YtmgdfpmcbalebaaKPathsJ
import Derived.Test.YtmgdfpmcbalebaaKReadL
import Derived.Test.YtmgdfpmcbalebaaKStrT
section
/- Depths on both sides. (what the exact laws want besides) -/
namespace Go.Proofs.Ytmgdfpmcbalebaa
open Go.RowKit

end Go.Proofs.Ytmgdfpmcbalebaa
end
section
/- TreePaths on both sides, and its law. (what the exact laws want besides) -/
namespace Go.Proofs.Ytmgdfpmcbalebaa
open Go.RowKit

/-- No text to mark. -/
theorem markStringS_none (a : Option Addr) (cap m : Nat) (w : World) :
    Calls Try.prog 15 #[.slice a 0 cap, .int .i64 m] w (Ans (.int .i64 m) w) := by
  go_enter Try.func15, Try.ntmps15
  go_wp2_with fail
  go_rounds 1
  go_ret
  exact ⟨rfl, Below.refl _ _⟩

/-- The marks are laid, and nothing else that was there turns. -/
theorem mark_any (ps : List (List UInt8)) (a : Option Addr) (cap : Nat) (w0 w : World) (hn : ps.length ≤ 1000000)
    (h : ps = [] ∨ ∃ g cur, a = some ⟨g, 0, none⟩ ∧ w.heap[g]? = some (.cells cur 9 (0, 0)) ∧ ps.length ≤ cur.size ∧ w0.heap.size ≤ g) (hs : w0.heap.size ≤ w.heap.size) :
    Calls Try.prog 15 #[.slice a ps.length cap, .int .i64 1] w fun e w' => e = .returned (.int .i64 (1 + ps.length : Nat)) ∧ Below w0.heap.size w w' ∧ Lies w' a ((List.range ps.length).map fun j => mark (1 + j)) := by
  rcases h with rfl | ⟨g, cur, rfl, h1, h2, h3⟩
  · exact (markStringS_none a cap 1 w).mono fun e w' ⟨he, hb⟩ => ⟨he, hb.mono hs, Lies.nil _ _⟩
  · exact (markStringS_any ps.length g cap 1 cur w hn (by omega) (by omega) h1 h2).mono fun e w' ⟨he, hg, hl⟩ => ⟨he, ⟨hg.os, hg.tape, hg.output, hg.size, fun k hk => hg.block k (by omega) (by simp; omega)⟩, hl⟩

end Go.Proofs.Ytmgdfpmcbalebaa
end
