/- Merged out of: XDraw, XOutR, XPick. -/
import Derived.Test.YtbbkaephlojalaaKMirrorS
import Derived.ProofKit
import Derived.OpenShut
import Derived.Test.YtbbkaephlojalaaRepI
section
/- The bytes that a law draws from, and the reader over them. -/
namespace Go.Proofs.Ytbbkaephlojalaa
open Go.RowKit

/-- A slice of bytes reads as these numbers. -/
def LiesB (w : World) (a : Option Addr) (bs : List Nat) : Prop := ∀ j (h : j < bs.length), ∃ b off, a = some ⟨b, off, none⟩ ∧ w.cell? ⟨b, off + j, none⟩ = some (.int .u8 (bs[j] : Int))

theorem LiesB.below {w w' : World} {a : Option Addr} {bs : List Nat} (h : LiesB w a bs) (hb : Below w.heap.size w w') : LiesB w' a bs := fun j hj => by
  obtain ⟨b, off, e, hc⟩ := h j hj
  exact ⟨b, off, e, keep1 hb hc⟩

theorem cellsByte : Try.prog.cellsOf 5 = 1 := by kernel_rfl

set_option maxRecDepth 100000 in
/-- A []byte among the arguments. -/
theorem open_bytes {H : Type} {enc : TypeId × Value → H} {W : World} {spare : Nat → Bool} {held : Bool} {v : Value} {d : DataW H} {p : List MemPlace} {b : Nat}
    (hv : Value.okWide Try.prog W .any b 22 v) (h : DataW.Trod enc Try.prog W 0 spare held 22 v d p) :
    ∃ (a : Option Addr) (cap : Nat) (bs : List Nat), v = .slice a bs.length cap ∧ LiesB W a bs ∧ (∀ z ∈ bs, z ≤ 255) ∧ bs.length ≤ 9223372036854775807 ∧ bs.length ≤ cap := by
  obtain ⟨a0, len, cap, rfl⟩ := Go.WideShapes.okWide_slice Try.underlying22 hv
  obtain ⟨fuel, hf⟩ := h
  rcases Go.ChangeShapes.open_ints Try.underlying22 Try.underlying5 cellsByte hf with ⟨hcs, hx⟩ | ⟨a, len', cap', zs, hcs, _, hl, hm, hz, hx, hcell, hws⟩
  · simp [Value.cells] at hcs
    obtain ⟨rfl, rfl, rfl⟩ := hcs
    exact ⟨none, 0, [], rfl, fun j h => by simp at h, fun s h => by simp at h, by simp, by simp⟩
  · simp [Value.cells] at hcs
    obtain ⟨rfl, rfl, rfl⟩ := hcs
    have hle : len ≤ zs.length := by rw [hz]; split <;> omega
    simp only [maxLen, show (2 ^ 63 - 1 : Nat) = 9223372036854775807 from rfl] at hm
    have hlen : ((zs.take len).map Int.toNat).length = len := by rw [List.length_map, List.length_take, Nat.min_eq_left hle]
    refine ⟨some a, cap, (zs.take len).map Int.toNat, by rw [hlen], ?_, ?_, by omega, by omega⟩
    · intro j hj
      rw [hlen] at hj
      have hc := hcell j (by omega)
      obtain ⟨b, off, spot⟩ := a
      have hspot : spot = none := by simpa [Addr.add] using World.cell?_spot (hcell 0 (by omega))
      subst hspot
      refine ⟨b, off, rfl, ?_⟩
      have e : (⟨b, off, none⟩ : Addr).add j = ⟨b, off + j, none⟩ := by unfold Addr.add; split <;> simp_all
      rw [e] at hc
      rw [hc]
      have hw := bounds_u8 (hws _ (List.getElem_mem (show j < zs.length by omega)))
      congr 2
      rw [List.getElem_map, List.getElem_take, List.getD_eq_getElem?_getD, List.getElem?_eq_getElem (by omega)]
      simp only [Option.getD_some]
      omega
    · intro z hz'
      obtain ⟨x, hx', rfl⟩ := List.mem_map.1 hz'
      have hw := bounds_u8 (hws x (List.mem_of_mem_take hx'))
      omega
end Go.Proofs.Ytbbkaephlojalaa
end
section
/- A node that is built kid by kid beside a reader that moves on. -/
namespace Go.Proofs.Ytbbkaephlojalaa
open Go.RowKit

theorem OutRel.nextR {base Bo rb : Nat} {c : UInt8} {acc : List T} {va : Option Addr} {vn vc : Nat} {xs : List Value} {wr w1 w1' w2 : World} {t : T} {lb : ByteArray} {sa : Option Addr} {sn sc g cap : Nat}
    (h : OutRel (fun _ => False) base Bo c acc (.slice va vn vc) xs wr) (hbw : base ≤ wr.heap.size) (hrb : rb < Bo) (hb1 : wr.grownBy w1 (some rb)) (hrep : RepS w1 (fun b => wr.heap.size ≤ b) t (.string lb) (.slice sa sn sc)) (htw : t.wf)
    (hb2 : Below w1.heap.size w1 w1')
    (hown : w2.ownsRow base 39 2 (.slice (some ⟨g, 0, none⟩) (acc.length + 1) cap) (acc.length + 1) (xs ++ [.string lb, .slice sa sn sc]))
    (hg : w1'.grownBy w2 (Value.slice va vn vc).ownBlock) (hf : (Value.slice va vn vc).ownBlock = some g ∨ w1.heap.size ≤ g) :
    OutRel (fun _ => False) base Bo c (acc ++ [t]) (.slice (some ⟨g, 0, none⟩) (acc.length + 1) cap) (xs ++ [.string lb, .slice sa sn sc]) (w2.setCell ⟨Bo, 1, none⟩ (.slice (some ⟨g, 0, none⟩) (acc.length + 1) cap)) := by
  obtain ⟨b1, hBo, hP, own, reps, hwf⟩ := h
  have hl1 := (Array.getElem?_eq_some_iff.1 b1).1
  have hsz := hb1.size
  have hsz2 := hb2.size
  have hown0 := own.lt
  have hxl : xs.length = acc.length * 2 := own.1
  have hblk : ∀ b, b < w1.heap.size → (Value.slice va vn vc).ownBlock ≠ some b → b ≠ Bo → (w2.setCell ⟨Bo, 1, none⟩ (.slice (some ⟨g, 0, none⟩) (acc.length + 1) cap)).heap[b]? = w1.heap[b]? := by
    intro b hb hne hn1
    rw [Below.heap_setCell _ _ _ _ (by simpa using hn1), hg.block b (by omega) (fun e => hne e.symm), hb2.block b hb]
  have hne0 : ∀ b, b < base → (Value.slice va vn vc).ownBlock ≠ some b := fun b hb e => by have := (hown0 b e).1; omega
  refine ⟨?_, hBo, hP, ?_, ?_, ?_⟩
  · have : w2.heap[Bo]? = some (.cells #[.string ⟨#[c]⟩, .slice va vn vc] 39 (0, 0)) := by
      rw [hg.block _ (by omega) (fun e => hne0 _ (by omega) e.symm), hb2.block _ (by omega), hb1.block _ hl1 (by simp; omega), b1]
    rw [heap_setCell_same this]; rfl
  · rw [List.length_append]
    exact ownsRow_setCell_below hown (by simpa using hBo) _
  · intro k hk'
    by_cases hka : k < acc.length
    · obtain ⟨l, sl, e1, e2, e3⟩ := reps k hka
      refine ⟨l, sl, by rw [List.getElem?_append_left (by omega)]; exact e1, by rw [List.getElem?_append_left (by omega)]; exact e2, ?_⟩
      rw [List.getElem_append_left hka]
      refine e3.keep (w := wr) ?_ ?_ (wfL_get hwf k hka)
      · intro a u ha hu
        have hab := World.block_lt_of_cell? wr a hu
        have hba : base ≤ a.block := by rcases ha.1 with e | e; exact e.elim; exact e
        rw [World.cell?_of_block (hblk a.block (by omega) ha.2 (by omega)), World.cell?_of_block (hb1.block a.block hab (by simp; omega))]
        exact hu
      · intro b hb hlt
        refine ⟨hb.1, fun e => ?_⟩
        simp only [Value.ownBlock, Option.some.injEq] at e
        subst e
        rcases hf with e | e
        · exact hb.2 e
        · omega
    · have hke : k = acc.length := by simp at hk'; omega
      subst hke
      refine ⟨.string lb, .slice sa sn sc, by rw [List.getElem?_append_right (by omega), hxl]; simp, by rw [List.getElem?_append_right (by omega), hxl]; simp, ?_⟩
      rw [List.getElem_append_right (by omega)]
      simp only [Nat.sub_self, List.getElem_singleton]
      have hneo : ∀ b, wr.heap.size ≤ b → (Value.slice va vn vc).ownBlock ≠ some b := fun b hb e => by
        have h1 := hown0 b e
        omega
      refine hrep.keep (w := w1) ?_ ?_ htw
      · intro a u ha hu
        have hab := World.block_lt_of_cell? w1 a hu
        rw [World.cell?_of_block (hblk a.block hab (hneo _ ha) (by omega))]
        exact hu
      · intro b hb hlt
        refine ⟨.inr (by omega), fun e => ?_⟩
        simp only [Value.ownBlock, Option.some.injEq] at e
        subst e
        rcases hf with e | e
        · exact hneo _ hb e
        · omega
  · rw [wfL_append]; exact ⟨hwf, by simp [T.wfL, htw]⟩
end Go.Proofs.Ytbbkaephlojalaa
end
section
/- The draws' reader: opened, and one number picked. -/
namespace Go.Proofs.Ytbbkaephlojalaa
open Go.RowKit

/-- The reader of a draw: what its two fields are. -/
def RdR (w : World) (R : Nat) (a : Option Addr) (cap : Nat) (bs : List Nat) (p : Nat) : Prop :=
  w.heap[R]? = some (.cells #[.slice a bs.length cap, .int .i64 p] 59 (0, 0)) ∧ LiesB w a bs ∧ (∀ z ∈ bs, z ≤ 255) ∧ bs.length ≤ 2000 ∧ (∀ A, a = some A → 1 ≤ bs.length → A.block < R)

theorem RdR.cells {w : World} {R : Nat} {a : Option Addr} {cap : Nat} {bs : List Nat} {p : Nat} (h : RdR w R a cap bs p) :
    w.cell? ⟨R, 0, none⟩ = some (.slice a bs.length cap) ∧ w.cell? ⟨R, 1, none⟩ = some (.int .i64 p) ∧ w.frozen? ⟨R, 1, none⟩ = false ∧ R < w.heap.size := by
  have h1 := h.1
  have hlt := (Array.getElem?_eq_some_iff.1 h1).1
  refine ⟨?_, ?_, ?_, hlt⟩ <;> simp only [World.cell?, World.frozen?, h1] <;> rfl

theorem RdR.moved {w w' : World} {R : Nat} {a : Option Addr} {cap : Nat} {bs : List Nat} {p q : Nat} (h : RdR w R a cap bs p) (hg : w.grownBy w' (some R))
    (hb : w'.heap[R]? = some (.cells #[.slice a bs.length cap, .int .i64 q] 59 (0, 0))) : RdR w' R a cap bs q := by
  refine ⟨hb, ?_, h.2.2.1, h.2.2.2.1, h.2.2.2.2⟩
  intro j hj
  obtain ⟨b, off, e, hc⟩ := h.2.1 j hj
  have hlt := World.block_lt_of_cell? w _ hc
  have hR := h.2.2.2.2 _ e (by omega)
  refine ⟨b, off, e, ?_⟩
  rw [World.cell?_of_block (hg.block b hlt (by simp only [ne_eq, Option.some.injEq]; simp only at hR; omega))]
  exact hc

theorem RdR.grown {w w' : World} {R : Nat} {a : Option Addr} {cap : Nat} {bs : List Nat} {p : Nat} {row : Option Nat} (h : RdR w R a cap bs p) (hg : w.grownBy w' row) (hr : ∀ r, row = some r → R < r) : RdR w' R a cap bs p := by
  have hlt := h.cells.2.2.2
  refine ⟨by rw [hg.block R hlt (fun e => by have := hr R e.symm; omega)]; exact h.1, ?_, h.2.2.1, h.2.2.2.1, h.2.2.2.2⟩
  intro j hj
  obtain ⟨b, off, e, hc⟩ := h.2.1 j hj
  have hR := h.2.2.2.2 _ e (by omega)
  refine ⟨b, off, e, ?_⟩
  rw [World.cell?_of_block (hg.block b (World.block_lt_of_cell? w _ hc) (fun e' => by have := hr b e'.symm; simp only at hR; omega))]
  exact hc

theorem LiesB.take {w : World} {a : Option Addr} {bs : List Nat} (h : LiesB w a bs) (n : Nat) : LiesB w a (bs.take n) := by
  intro j hj
  rw [List.length_take] at hj
  obtain ⟨b, off, e, hc⟩ := h j (by omega)
  refine ⟨b, off, e, ?_⟩
  rw [List.getElem_take]; exact hc

/-- What opening gives. -/
def OpenPost (a : Option Addr) (cap : Nat) (bs : List Nat) (w : World) (e : Ending) (w' : World) : Prop :=
  e = .returned (.pointer (some ⟨w.heap.size, 0, none⟩)) ∧ Below w.heap.size w w' ∧ RdR w' w.heap.size a cap (bs.take 2000) 0

theorem rd_opened {w : World} {a : Option Addr} {cap n : Nat} {bs : List Nat} (hl : LiesB w a bs) (h8 : ∀ z ∈ bs, z ≤ 255) (hn : n = (bs.take 2000).length) (z : Nat × Nat) (hz : z = (0, 0)) :
    RdR (w.alloc (.cells #[.slice a n cap, .int .i64 0] 59 z)) w.heap.size a cap (bs.take 2000) 0 := by
  subst hn hz
  refine ⟨by simp only [World.alloc, Array.getElem?_push_size]; rw [List.length_take]; rfl, ?_, fun z hz => h8 z (List.mem_of_mem_take hz), by rw [List.length_take]; omega, fun A e h1 => ?_⟩
  · exact (hl.take 2000).below ((Below.refl _ _).alloc (Nat.le_refl _) _)
  · obtain ⟨b, off, e2, hc⟩ := hl 0 (by rw [List.length_take] at h1; omega)
    rw [e] at e2
    cases e2
    exact World.block_lt_of_cell? w _ hc

set_option maxHeartbeats 1000000 in
theorem l6Open_any (bs : List Nat) (a : Option Addr) (cap : Nat) (w : World) (_hn : bs.length ≤ 9223372036854775807) (hcap : bs.length ≤ cap) (h8 : ∀ z ∈ bs, z ≤ 255) (hl : LiesB w a bs) :
    Calls Try.prog 20 #[.slice a bs.length cap] w (OpenPost a cap bs w) := by
  obtain ⟨k, hk⟩ : ∃ k, k = (bs.take 2000).length := ⟨_, rfl⟩
  have HO := Lib.hid (rd_opened (cap := cap) hl h8 hk)
  by_cases h : 2000 < bs.length
  · have hk2 : k = 2000 := by rw [hk, List.length_take]; omega
    have h1 : decide ((2000 : Int) < (bs.length : Int)) = true := by simp; omega
    subst hk2
    clear hk hl h8
    go_enter Try.func20, Try.ntmps20
    go_wp2_with fail
    go_ret
    refine ⟨rfl, (Below.refl _ _).alloc (Nat.le_refl _) _, ?_⟩
    exact HO.out _ rfl
  · have hk2 : k = bs.length := by rw [hk, List.length_take]; omega
    have h1 : decide ((2000 : Int) < (bs.length : Int)) = false := by simp; omega
    subst hk2
    clear hk hl h8
    go_enter Try.func20, Try.ntmps20
    go_wp2_with fail
    go_ret
    refine ⟨rfl, (Below.refl _ _).alloc (Nat.le_refl _) _, ?_⟩
    exact HO.out _ rfl

/-- What a pick gives: a number below n, the reader one further. -/
def PickPost (R : Nat) (a : Option Addr) (cap : Nat) (bs : List Nat) (p n : Nat) (w : World) (e : Ending) (w' : World) : Prop :=
  (∃ k : Nat, k < n ∧ e = .returned (.int .i64 k)) ∧ w.grownBy w' (some R) ∧ w'.heap.size = w.heap.size ∧ RdR w' R a cap bs (p + 1)

theorem rd_step {w : World} {R : Nat} {a : Option Addr} {cap p : Nat} {bs : List Nat} (h : RdR w R a cap bs p) :
    w.grownBy (w.setCell ⟨R, 1, none⟩ (.int .i64 (p + 1))) (some R) ∧ RdR (w.setCell ⟨R, 1, none⟩ (.int .i64 (p + 1))) R a cap bs (p + 1) := by
  have hg : w.grownBy (w.setCell ⟨R, 1, none⟩ (.int .i64 (p + 1))) (some R) := grownBy_setCell (grownBy_refl _ _) _
  refine ⟨hg, h.moved hg ?_⟩
  rw [heap_setCell_same (k := 1) h.1 (.int .i64 (p + 1))]
  rfl

set_option maxHeartbeats 1000000 in
theorem pick_none (R : Nat) (a : Option Addr) (cap p n : Nat) (w : World) (h : RdR w R a cap [] p) (hp : p ≤ 1000000) (hn : 1 ≤ n) (hn2 : n ≤ 1000000) :
    Calls Try.prog 31 #[.pointer (some ⟨R, 0, none⟩), .int .i64 n] w (PickPost R a cap [] p n w) := by
  obtain ⟨c0, c1, f1, hlt⟩ := h.cells
  have HS := Lib.hid (rd_step h)
  have h1 : decide ((n : Int) < 1) = false := by simp; omega
  clear h
  go_enter Try.func31, Try.ntmps31
  go_wp2_with fail
  go_ret
  exact ⟨⟨0, by omega, rfl⟩, HS.out.1, by simp, HS.out.2⟩

set_option maxHeartbeats 1000000 in
theorem pick_near (R : Nat) (a : Option Addr) (cap p n : Nat) (bs : List Nat) (w : World) (h : RdR w R a cap bs p) (hp : p ≤ 1000000) (hn : 1 ≤ n) (hn2 : n ≤ 1000000) (hl : p < bs.length) :
    Calls Try.prog 31 #[.pointer (some ⟨R, 0, none⟩), .int .i64 n] w (PickPost R a cap bs p n w) := by
  obtain ⟨c0, c1, f1, hlt⟩ := h.cells
  have HS := Lib.hid (rd_step h)
  have h1 : decide ((n : Int) < 1) = false := by simp; omega
  have h2 : ((bs.length : Int) == 0) = false := beq_false_of_ne (by omega)
  have h3 : decide ((p : Int) < (bs.length : Int)) = true := by simp; omega
  have hl2 := h.2.2.2.1
  have hz : bs[p] ≤ 255 := h.2.2.1 _ (List.getElem_mem hl)
  obtain ⟨b, off, e, hc⟩ := HS.out.2.2.1 p hl
  subst e
  obtain ⟨z, hze⟩ : ∃ z : Nat, z = bs[p] := ⟨_, rfl⟩
  rw [← hze] at hz hc
  have hm : 0 ≤ ((z : Int)).tmod n ∧ ((z : Int)).tmod n < n := by rw [Int.tmod_eq_emod_of_nonneg (by omega)]; exact ⟨Int.emod_nonneg _ (by omega), Int.emod_lt_of_pos _ (by omega)⟩
  clear h hze
  go_enter Try.func31, Try.ntmps31
  go_wp2_with fail
  go_ret
  exact ⟨⟨z % n, Nat.mod_lt _ (by omega), congrArg (fun q => Ending.returned (.int .i64 q)) (Int.natCast_emod z n).symm⟩, HS.out.1, by simp, HS.out.2⟩

theorem xor_some (s : Nat) (h : s ≤ 100000000) : ∃ q : Nat, q < 1099511627776 ∧ bits .xor .i64 (s : Int) ((s : Int) / 64) = (q : Int) := by
  have hx : s ^^^ s / 64 < 2 ^ 40 := Nat.xor_lt_two_pow (by omega) (by omega)
  refine ⟨s ^^^ s / 64, hx, ?_⟩
  have h1 : (BitVec.ofInt 64 (s : Int)).toNat = s := by
    rw [BitVec.ofInt_natCast, BitVec.toNat_ofNat]; exact Nat.mod_eq_of_lt (by omega)
  have h2 : (BitVec.ofInt 64 ((s : Int) / 64)).toNat = s / 64 := by
    rw [show ((s : Int) / 64) = ((s / 64 : Nat) : Int) from by omega, BitVec.ofInt_natCast, BitVec.toNat_ofNat]; exact Nat.mod_eq_of_lt (by omega)
  show IntKind.i64.wrap ((BitVec.ofInt 64 (s : Int) ^^^ BitVec.ofInt 64 ((s : Int) / 64)).toNat : Int) = _
  rw [BitVec.toNat_xor, h1, h2, IntKind.wrap_i64]
  omega

theorem int_mod (q n : Nat) : Ending.returned (.int .i64 ((q : Int) % (n : Int))) = Ending.returned (.int .i64 ((q % n : Nat) : Int)) := by rw [Int.natCast_emod]

set_option maxHeartbeats 2000000 in
theorem pick_far (R : Nat) (a : Option Addr) (cap p n : Nat) (bs : List Nat) (w : World) (h : RdR w R a cap bs p) (hp : p ≤ 1000000) (hn : 1 ≤ n) (hn2 : n ≤ 1000000) (hl0 : 1 ≤ bs.length) (hl : bs.length ≤ p) :
    Calls Try.prog 31 #[.pointer (some ⟨R, 0, none⟩), .int .i64 n] w (PickPost R a cap bs p n w) := by
  obtain ⟨c0, c1, f1, hlt⟩ := h.cells
  have HS := Lib.hid (rd_step h)
  have hl2 := h.2.2.2.1
  obtain ⟨m, hm⟩ : ∃ m, m = bs.length := ⟨_, rfl⟩
  have h1 : decide ((n : Int) < 1) = false := by simp; omega
  have h2 : ((m : Int) == 0) = false := beq_false_of_ne (by omega)
  have h3 : decide ((p : Int) < (m : Int)) = false := by simp; omega
  obtain ⟨i, hi⟩ : ∃ i : Nat, i = p % m := ⟨_, rfl⟩
  obtain ⟨j, hj⟩ : ∃ j : Nat, j = (p * 7 + 3) % m := ⟨_, rfl⟩
  obtain ⟨u, hu⟩ : ∃ u : Nat, u = p / m := ⟨_, rfl⟩
  have hul : u ≤ 1000000 := by rw [hu]; exact Nat.le_trans (Nat.div_le_self _ _) hp
  have hil : i < m := by rw [hi]; exact Nat.mod_lt _ (by omega)
  have hjl : j < m := by rw [hj]; exact Nat.mod_lt _ (by omega)
  have hz1 : bs[i]'(by omega) ≤ 255 := h.2.2.1 _ (List.getElem_mem _)
  have hz2 : bs[j]'(by omega) ≤ 255 := h.2.2.1 _ (List.getElem_mem _)
  obtain ⟨b, off, e, hc1⟩ := HS.out.2.2.1 i (by omega)
  obtain ⟨b', off', e', hc2⟩ := HS.out.2.2.1 j (by omega)
  subst e
  simp only [Option.some.injEq, Addr.mk.injEq, and_true] at e'
  obtain ⟨rfl, rfl⟩ := e'
  obtain ⟨x, hx⟩ : ∃ z : Nat, z = bs[i]'(by omega) := ⟨_, rfl⟩
  obtain ⟨y, hy⟩ : ∃ z : Nat, z = bs[j]'(by omega) := ⟨_, rfl⟩
  rw [← hx] at hz1 hc1
  rw [← hy] at hz2 hc2
  obtain ⟨d0, d1, _, _⟩ := HS.out.2.cells
  rw [← hm] at c0 d0 hl hl2 hl0
  have hm0 : ¬ m = 0 := by omega
  have q0 : IntKind.i64.wrap ((p : Int) + 1) = (p : Int) + 1 := wrap_small _ (by omega) (by omega)
  have q1 : (p : Int) % (m : Int) = (i : Int) := by rw [← Int.natCast_emod, ← hi]
  have q1' : (p : Int).tmod m = (i : Int) := by rw [Int.tmod_eq_emod_of_nonneg (by omega), q1]
  have q2 : IntKind.i64.wrap ((p : Int) * 7) = (p : Int) * 7 := wrap_small _ (by omega) (by omega)
  have q3 : IntKind.i64.wrap ((p : Int) * 7 + 3) = (p : Int) * 7 + 3 := wrap_small _ (by omega) (by omega)
  have q4 : ((p : Int) * 7 + 3) % (m : Int) = (j : Int) := by rw [hj, Int.natCast_emod]; rfl
  have q4' : ((p : Int) * 7 + 3).tmod m = (j : Int) := by rw [Int.tmod_eq_emod_of_nonneg (by omega), q4]
  have q5 : (p : Int) / (m : Int) = (u : Int) := by rw [← Int.natCast_ediv, ← hu]
  have q5' : (p : Int).tdiv m = (u : Int) := by rw [Int.tdiv_eq_ediv_of_nonneg (by omega), q5]
  have q6 : IntKind.i64.wrap (u : Int) = (u : Int) := wrap_small _ (by omega) (by omega)
  have q7 : IntKind.i64.wrap (x : Int) = (x : Int) := wrap_small _ (by omega) (by omega)
  have q8 : IntKind.i64.wrap (y : Int) = (y : Int) := wrap_small _ (by omega) (by omega)
  have r1 : IntKind.i64.wrap ((x : Int) * 131) = (x : Int) * 131 := wrap_small _ (by omega) (by omega)
  have r2 : IntKind.i64.wrap ((y : Int) * 1117) = (y : Int) * 1117 := wrap_small _ (by omega) (by omega)
  have r3 : IntKind.i64.wrap ((x : Int) * 131 + (y : Int) * 1117) = (x : Int) * 131 + (y : Int) * 1117 := wrap_small _ (by omega) (by omega)
  have r4 : IntKind.i64.wrap ((p : Int) * 29) = (p : Int) * 29 := wrap_small _ (by omega) (by omega)
  have r5 : IntKind.i64.wrap ((x : Int) * 131 + (y : Int) * 1117 + (p : Int) * 29) = (x : Int) * 131 + (y : Int) * 1117 + (p : Int) * 29 := wrap_small _ (by omega) (by omega)
  have r6 : IntKind.i64.wrap ((u : Int) * 53) = (u : Int) * 53 := wrap_small _ (by omega) (by omega)
  obtain ⟨s, hs⟩ : ∃ s : Nat, s = x * 131 + y * 1117 + p * 29 + u * 53 := ⟨_, rfl⟩
  have hs2 : s ≤ 100000000 := by omega
  have r7 : IntKind.i64.wrap ((x : Int) * 131 + (y : Int) * 1117 + (p : Int) * 29 + (u : Int) * 53) = (s : Int) := by rw [wrap_small _ (by omega) (by omega)]; omega
  obtain ⟨q, hq, q9⟩ := xor_some s hs2
  have q10 : (q : Int).tmod n = (q : Int) % n := Int.tmod_eq_emod_of_nonneg (by omega)
  have ib : 0 ≤ (i : Int) ∧ (i : Int) < m := by omega
  have jb : 0 ≤ (j : Int) ∧ (j : Int) < m := by omega
  have HM := Lib.hid hm
  clear h hx hy hi hj hu hs hm
  go_enter Try.func31, Try.ntmps31
  go_wp2_with fail
  go_quiet (fail)
  go_wp2_with fail
  go_ret
  refine ⟨⟨q % n, Nat.mod_lt _ (by omega), int_mod q n⟩, grownBy_drewN HS.out.1 nq, by simp, HS.out.2⟩

theorem pick_any (R : Nat) (a : Option Addr) (cap p n : Nat) (bs : List Nat) (w : World) (h : RdR w R a cap bs p) (hp : p ≤ 1000000) (hn : 1 ≤ n) (hn2 : n ≤ 1000000) :
    Calls Try.prog 31 #[.pointer (some ⟨R, 0, none⟩), .int .i64 n] w (PickPost R a cap bs p n w) := by
  by_cases hb : bs = []
  · subst hb
    exact pick_none R a cap p n w h hp hn hn2
  · have hl0 : 1 ≤ bs.length := List.length_pos_iff.2 hb
    by_cases hl : p < bs.length
    · exact pick_near R a cap p n bs w h hp hn hn2 hl
    · exact pick_far R a cap p n bs w h hp hn hn2 hl0 (by omega)

/-- A text out of a list. -/
def OfPost (R : Nat) (a : Option Addr) (cap : Nat) (bs : List Nat) (p : Nat) (ss : List ByteArray) (w : World) (e : Ending) (w' : World) : Prop :=
  (∃ s ∈ ss, e = .returned (.string s)) ∧ w.grownBy w' (some R) ∧ w'.heap.size = w.heap.size ∧ RdR w' R a cap bs (p + 1)

set_option maxHeartbeats 1000000 in
theorem of_any (R : Nat) (a : Option Addr) (cap p : Nat) (bs : List Nat) (w : World) (g off c2 : Nat) (ss : List ByteArray) (h : RdR w R a cap bs p) (hp : p ≤ 1000000) (hn : 1 ≤ ss.length) (hn2 : ss.length ≤ 1000000) (hg : g ≠ R)
    (hl : ∀ j (h : j < ss.length), w.cell? ⟨g, off + j, none⟩ = some (.string ss[j])) :
    Calls Try.prog 32 #[.pointer (some ⟨R, 0, none⟩), .slice (some ⟨g, off, none⟩) ss.length c2] w (OfPost R a cap bs p ss w) := by
  have HP := Lib.hid (pick_any R a cap p ss.length bs w h hp hn hn2)
  have HL := Lib.hid hl
  obtain ⟨k2, hk2⟩ : ∃ k, k = ss.length := ⟨_, rfl⟩
  rw [← hk2] at HP hn hn2 ⊢
  have HK := Lib.hid hk2
  clear hl hk2 h
  go_enter Try.func32, Try.ntmps32
  go_wp2_with fail
  refine HP.out.mono ?_
  rintro e w1 ⟨⟨k, hk, rfl⟩, hg1, hs1, hr1⟩
  have hc : w1.cell? ⟨g, off + k, none⟩ = some (.string (ss[k]'(by have := HK.out; omega))) := by
    have hc0 := HL.out k (by have := HK.out; omega)
    rw [World.cell?_of_block (hg1.block g (World.block_lt_of_cell? w _ hc0) (by simpa using hg))]
    exact hc0
  obtain ⟨s, hs⟩ : ∃ s, s = ss[k]'(by have := HK.out; omega) := ⟨_, rfl⟩
  rw [← hs] at hc
  have hm : s ∈ ss := by rw [hs]; exact List.getElem_mem _
  have HQ := Lib.hid (show w.grownBy w1 (some R) ∧ w1.heap.size = w.heap.size ∧ RdR w1 R a cap bs (p + 1) ∧ s ∈ ss from ⟨hg1, hs1, hr1, hm⟩)
  clear hg1 hs1 hr1 hm hs
  go_wp2_with fail
  go_ret
  exact ⟨⟨s, HQ.out.2.2.2, rfl⟩, HQ.out.1, HQ.out.2.1, HQ.out.2.2.1⟩
end Go.Proofs.Ytbbkaephlojalaa
end
