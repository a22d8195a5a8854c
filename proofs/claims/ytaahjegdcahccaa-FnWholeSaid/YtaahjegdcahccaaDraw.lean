/- The bytes that a law draws from, and the reader over them. -/
import Derived.Test.YtaahjegdcahccaaTextS
import Derived.ProofKit
import Derived.OpenShut
namespace Go.Proofs.Ytaahjegdcahccaa
open Go.RowKit

/-- A slice of bytes reads as these numbers. -/
def LiesB (w : World) (a : Option Addr) (bs : List Nat) : Prop := ∀ j (h : j < bs.length), ∃ b off, a = some ⟨b, off, none⟩ ∧ w.cell? ⟨b, off + j, none⟩ = some (.int .u8 (bs[j] : Int))

theorem LiesB.below {w w' : World} {a : Option Addr} {bs : List Nat} (h : LiesB w a bs) (hb : Below w.heap.size w w') : LiesB w' a bs := fun j hj => by
  obtain ⟨b, off, e, hc⟩ := h j hj
  exact ⟨b, off, e, keep1 hb hc⟩

theorem cellsByte : Try.prog.cellsOf 5 = 1 := by kernel_rfl

set_option maxRecDepth 100000 in
/-- A []byte among the arguments. -/
theorem open_bytes {H : Type} {enc : TypeId × Value → H} {W : World} {spare : Nat → Bool} {held : Bool} {v : Value} {d : DataW H} {p : List MemPlace} {b : Nat}
    (hv : Value.okWide Try.prog W .any b 59 v) (h : DataW.Trod enc Try.prog W 0 spare held 59 v d p) :
    ∃ (a : Option Addr) (cap : Nat) (bs : List Nat), v = .slice a bs.length cap ∧ LiesB W a bs ∧ (∀ z ∈ bs, z ≤ 255) ∧ bs.length ≤ 9223372036854775807 ∧ bs.length ≤ cap := by
  obtain ⟨a0, len, cap, rfl⟩ := Go.WideShapes.okWide_slice Try.underlying59 hv
  obtain ⟨fuel, hf⟩ := h
  rcases Go.ChangeShapes.open_ints Try.underlying59 Try.underlying5 cellsByte hf with ⟨hcs, hx⟩ | ⟨a, len', cap', zs, hcs, _, hl, hm, hz, hx, hcell, hws⟩
  · simp [Value.cells] at hcs
    obtain ⟨rfl, rfl, rfl⟩ := hcs
    exact ⟨none, 0, [], rfl, fun j h => by simp at h, fun s h => by simp at h, by simp, by simp⟩
  · simp [Value.cells] at hcs
    obtain ⟨rfl, rfl, rfl⟩ := hcs
    have hle : len ≤ zs.length := by rw [hz]; split <;> omega
    simp only [maxLen, show (2 ^ 63 - 1 : Nat) = 9223372036854775807 from rfl] at hm
    have hlen : ((zs.take len).map Int.toNat).length = len := by rw [List.length_map, List.length_take, Nat.min_eq_left hle]
    refine ⟨some a, cap, (zs.take len).map Int.toNat, by rw [hlen], ?_, ?_, by omega, by omega⟩
    · intro j hj
      rw [hlen] at hj
      have hc := hcell j (by omega)
      obtain ⟨b, off, spot⟩ := a
      have hspot : spot = none := by simpa [Addr.add] using World.cell?_spot (hcell 0 (by omega))
      subst hspot
      refine ⟨b, off, rfl, ?_⟩
      have e : (⟨b, off, none⟩ : Addr).add j = ⟨b, off + j, none⟩ := by unfold Addr.add; split <;> simp_all
      rw [e] at hc
      rw [hc]
      have hw := bounds_u8 (hws _ (List.getElem_mem (show j < zs.length by omega)))
      congr 2
      rw [List.getElem_map, List.getElem_take, List.getD_eq_getElem?_getD, List.getElem?_eq_getElem (by omega)]
      simp only [Option.getD_some]
      omega
    · intro z hz'
      obtain ⟨x, hx', rfl⟩ := List.mem_map.1 hz'
      have hw := bounds_u8 (hws x (List.mem_of_mem_take hx'))
      omega
end Go.Proofs.Ytaahjegdcahccaa
