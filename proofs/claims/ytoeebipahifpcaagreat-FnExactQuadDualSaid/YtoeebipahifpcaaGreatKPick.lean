/- Merged out of: XDraw, XOutR, XPick. -/
import Derived.Test.YtoeebipahifpcaaGreatKMirrorS
import Derived.ProofKit
import Derived.OpenShut
import Derived.Test.YtoeebipahifpcaaGreatRepI
section
/- The bytes that a law draws from, and the reader over them. -/
namespace Go.Proofs.YtoeebipahifpcaaGreat
open Go.RowKit

/-- A slice of bytes reads as these numbers. -/
def LiesB (w : World) (a : Option Addr) (bs : List Nat) : Prop := ∀ j (h : j < bs.length), ∃ b off, a = some ⟨b, off, none⟩ ∧ w.cell? ⟨b, off + j, none⟩ = some (.int .u8 (bs[j] : Int))

theorem LiesB.below {w w' : World} {a : Option Addr} {bs : List Nat} (h : LiesB w a bs) (hb : Below w.heap.size w w') : LiesB w' a bs := fun j hj => by
  obtain ⟨b, off, e, hc⟩ := h j hj
  exact ⟨b, off, e, keep1 hb hc⟩

theorem cellsByte : Tryz.prog.cellsOf 5 = 1 := by kernel_rfl

set_option maxRecDepth 100000 in
/-- A []byte among the arguments. -/
theorem open_bytes {H : Type} {enc : TypeId × Value → H} {W : World} {spare : Nat → Bool} {held : Bool} {v : Value} {d : DataW H} {p : List MemPlace} {b : Nat}
    (hv : Value.okWide Tryz.prog W .any b 89 v) (h : DataW.Trod enc Tryz.prog W 0 spare held 89 v d p) :
    ∃ (a : Option Addr) (cap : Nat) (bs : List Nat), v = .slice a bs.length cap ∧ LiesB W a bs ∧ (∀ z ∈ bs, z ≤ 255) ∧ bs.length ≤ 9223372036854775807 ∧ bs.length ≤ cap := by
  obtain ⟨a0, len, cap, rfl⟩ := Go.WideShapes.okWide_slice Tryz.underlying89 hv
  obtain ⟨fuel, hf⟩ := h
  rcases Go.ChangeShapes.open_ints Tryz.underlying89 Tryz.underlying5 cellsByte hf with ⟨hcs, hx⟩ | ⟨a, len', cap', zs, hcs, _, hl, hm, hz, hx, hcell, hws⟩
  · simp [Value.cells] at hcs
    obtain ⟨rfl, rfl, rfl⟩ := hcs
    exact ⟨none, 0, [], rfl, fun j h => by simp at h, fun s h => by simp at h, by simp, by simp⟩
  · simp [Value.cells] at hcs
    obtain ⟨rfl, rfl, rfl⟩ := hcs
    have hle : len ≤ zs.length := by rw [hz]; split <;> omega
    simp only [maxLen, show (2 ^ 63 - 1 : Nat) = 9223372036854775807 from rfl] at hm
    have hlen : ((zs.take len).map Int.toNat).length = len := by rw [List.length_map, List.length_take, Nat.min_eq_left hle]
    refine ⟨some a, cap, (zs.take len).map Int.toNat, by rw [hlen], ?_, ?_, by omega, by omega⟩
    · intro j hj
      rw [hlen] at hj
      have hc := hcell j (by omega)
      obtain ⟨b, off, spot⟩ := a
      have hspot : spot = none := by simpa [Addr.add] using World.cell?_spot (hcell 0 (by omega))
      subst hspot
      refine ⟨b, off, rfl, ?_⟩
      have e : (⟨b, off, none⟩ : Addr).add j = ⟨b, off + j, none⟩ := by unfold Addr.add; split <;> simp_all
      rw [e] at hc
      rw [hc]
      have hw := bounds_u8 (hws _ (List.getElem_mem (show j < zs.length by omega)))
      congr 2
      rw [List.getElem_map, List.getElem_take, List.getD_eq_getElem?_getD, List.getElem?_eq_getElem (by omega)]
      simp only [Option.getD_some]
      omega
    · intro z hz'
      obtain ⟨x, hx', rfl⟩ := List.mem_map.1 hz'
      have hw := bounds_u8 (hws x (List.mem_of_mem_take hx'))
      omega
end Go.Proofs.YtoeebipahifpcaaGreat
end
section
/- A node that is built kid by kid beside a reader that moves on. -/
namespace Go.Proofs.YtoeebipahifpcaaGreat
open Go.RowKit

theorem OutRel.nextR {base Bo rb : Nat} {c : UInt8} {acc : List T} {va : Option Addr} {vn vc : Nat} {xs : List Value} {wr w1 w1' w2 : World} {t : T} {lb : ByteArray} {sa : Option Addr} {sn sc g cap : Nat}
    (h : OutRel (fun _ => False) base Bo c acc (.slice va vn vc) xs wr) (hbw : base ≤ wr.heap.size) (hrb : rb < Bo) (hb1 : wr.grownBy w1 (some rb)) (hrep : RepS w1 (fun b => wr.heap.size ≤ b) t (.string lb) (.slice sa sn sc)) (htw : t.wf)
    (hb2 : Below w1.heap.size w1 w1')
    (hown : w2.ownsRow base 66 2 (.slice (some ⟨g, 0, none⟩) (acc.length + 1) cap) (acc.length + 1) (xs ++ [.string lb, .slice sa sn sc]))
    (hg : w1'.grownBy w2 (Value.slice va vn vc).ownBlock) (hf : (Value.slice va vn vc).ownBlock = some g ∨ w1.heap.size ≤ g) :
    OutRel (fun _ => False) base Bo c (acc ++ [t]) (.slice (some ⟨g, 0, none⟩) (acc.length + 1) cap) (xs ++ [.string lb, .slice sa sn sc]) (w2.setCell ⟨Bo, 1, none⟩ (.slice (some ⟨g, 0, none⟩) (acc.length + 1) cap)) := by
  obtain ⟨b1, hBo, hP, own, reps, hwf⟩ := h
  have hl1 := (Array.getElem?_eq_some_iff.1 b1).1
  have hsz := hb1.size
  have hsz2 := hb2.size
  have hown0 := own.lt
  have hxl : xs.length = acc.length * 2 := own.1
  have hblk : ∀ b, b < w1.heap.size → (Value.slice va vn vc).ownBlock ≠ some b → b ≠ Bo → (w2.setCell ⟨Bo, 1, none⟩ (.slice (some ⟨g, 0, none⟩) (acc.length + 1) cap)).heap[b]? = w1.heap[b]? := by
    intro b hb hne hn1
    rw [Below.heap_setCell _ _ _ _ (by simpa using hn1), hg.block b (by omega) (fun e => hne e.symm), hb2.block b hb]
  have hne0 : ∀ b, b < base → (Value.slice va vn vc).ownBlock ≠ some b := fun b hb e => by have := (hown0 b e).1; omega
  refine ⟨?_, hBo, hP, ?_, ?_, ?_⟩
  · have : w2.heap[Bo]? = some (.cells #[.string ⟨#[c]⟩, .slice va vn vc] 66 (0, 0)) := by
      rw [hg.block _ (by omega) (fun e => hne0 _ (by omega) e.symm), hb2.block _ (by omega), hb1.block _ hl1 (by simp; omega), b1]
    rw [heap_setCell_same this]; rfl
  · rw [List.length_append]
    exact ownsRow_setCell_below hown (by simpa using hBo) _
  · intro k hk'
    by_cases hka : k < acc.length
    · obtain ⟨l, sl, e1, e2, e3⟩ := reps k hka
      refine ⟨l, sl, by rw [List.getElem?_append_left (by omega)]; exact e1, by rw [List.getElem?_append_left (by omega)]; exact e2, ?_⟩
      rw [List.getElem_append_left hka]
      refine e3.keep (w := wr) ?_ ?_ (wfL_get hwf k hka)
      · intro a u ha hu
        have hab := World.block_lt_of_cell? wr a hu
        have hba : base ≤ a.block := by rcases ha.1 with e | e; exact e.elim; exact e
        rw [World.cell?_of_block (hblk a.block (by omega) ha.2 (by omega)), World.cell?_of_block (hb1.block a.block hab (by simp; omega))]
        exact hu
      · intro b hb hlt
        refine ⟨hb.1, fun e => ?_⟩
        simp only [Value.ownBlock, Option.some.injEq] at e
        subst e
        rcases hf with e | e
        · exact hb.2 e
        · omega
    · have hke : k = acc.length := by simp at hk'; omega
      subst hke
      refine ⟨.string lb, .slice sa sn sc, by rw [List.getElem?_append_right (by omega), hxl]; simp, by rw [List.getElem?_append_right (by omega), hxl]; simp, ?_⟩
      rw [List.getElem_append_right (by omega)]
      simp only [Nat.sub_self, List.getElem_singleton]
      have hneo : ∀ b, wr.heap.size ≤ b → (Value.slice va vn vc).ownBlock ≠ some b := fun b hb e => by
        have h1 := hown0 b e
        omega
      refine hrep.keep (w := w1) ?_ ?_ htw
      · intro a u ha hu
        have hab := World.block_lt_of_cell? w1 a hu
        rw [World.cell?_of_block (hblk a.block hab (hneo _ ha) (by omega))]
        exact hu
      · intro b hb hlt
        refine ⟨.inr (by omega), fun e => ?_⟩
        simp only [Value.ownBlock, Option.some.injEq] at e
        subst e
        rcases hf with e | e
        · exact hneo _ hb e
        · omega
  · rw [wfL_append]; exact ⟨hwf, by simp [T.wfL, htw]⟩
end Go.Proofs.YtoeebipahifpcaaGreat
end
section
/- The draws' reader: opened, and one number picked. -/
namespace Go.Proofs.YtoeebipahifpcaaGreat
open Go.RowKit

theorem LiesB.take {w : World} {a : Option Addr} {bs : List Nat} (h : LiesB w a bs) (n : Nat) : LiesB w a (bs.take n) := by
  intro j hj
  rw [List.length_take] at hj
  obtain ⟨b, off, e, hc⟩ := h j (by omega)
  refine ⟨b, off, e, ?_⟩
  rw [List.getElem_take]; exact hc

theorem xor_some (s : Nat) (h : s ≤ 100000000) : ∃ q : Nat, q < 1099511627776 ∧ bits .xor .i64 (s : Int) ((s : Int) / 64) = (q : Int) := by
  have hx : s ^^^ s / 64 < 2 ^ 40 := Nat.xor_lt_two_pow (by omega) (by omega)
  refine ⟨s ^^^ s / 64, hx, ?_⟩
  have h1 : (BitVec.ofInt 64 (s : Int)).toNat = s := by
    rw [BitVec.ofInt_natCast, BitVec.toNat_ofNat]; exact Nat.mod_eq_of_lt (by omega)
  have h2 : (BitVec.ofInt 64 ((s : Int) / 64)).toNat = s / 64 := by
    rw [show ((s : Int) / 64) = ((s / 64 : Nat) : Int) from by omega, BitVec.ofInt_natCast, BitVec.toNat_ofNat]; exact Nat.mod_eq_of_lt (by omega)
  show IntKind.i64.wrap ((BitVec.ofInt 64 (s : Int) ^^^ BitVec.ofInt 64 ((s : Int) / 64)).toNat : Int) = _
  rw [BitVec.toNat_xor, h1, h2, IntKind.wrap_i64]
  omega

theorem int_mod (q n : Nat) : Ending.returned (.int .i64 ((q : Int) % (n : Int))) = Ending.returned (.int .i64 ((q % n : Nat) : Int)) := by rw [Int.natCast_emod]

end Go.Proofs.YtoeebipahifpcaaGreat
end
