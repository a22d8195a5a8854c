/- Merged out of: XTextS, XOut, XMirrorS. -/
import Derived.Test.YtoeebipahifpcaaGreatKReadA
import Derived.Deep.AppendLies
import Derived.Deep.RegionHeld3
import Derived.Deep.RegionLaw
section
/- The model writes a tree. -/
namespace Go.Proofs.YtoeebipahifpcaaGreat
open Go.RowKit

theorem textL_takeS {ks : List T} {k : Nat} (h : k < ks.length) : T.textL (ks.take (k + 1)) = T.textL (ks.take k) ++ (32 :: (ks[k]).text) := by
  rw [List.take_succ_eq_append_getElem h, textL_append]; simp [T.textL]

theorem textL_take_leS {ks : List T} (k : Nat) : (T.textL (ks.take k)).length ≤ (T.textL ks).length := by
  have h := textL_append (ks.take k) (ks.drop k)
  rw [List.take_append_drop] at h
  rw [h, List.length_append]; omega

theorem bytes_append (l m : List UInt8) : (⟨l.toArray⟩ : ByteArray) ++ ⟨m.toArray⟩ = ⟨(l ++ m).toArray⟩ := by
  apply ByteArray.ext
  simp

def TextS (l : List UInt8) (w : World) (e : Ending) (w' : World) : Prop := e = .returned (.string ⟨l.toArray⟩) ∧ Below w.heap.size w w'

set_option maxHeartbeats 400000 in
theorem l1Text_any (n : Nat) : ∀ (t : T) (l s : Value) (w : World) (P : Nat → Prop), SizeOf.sizeOf t ≤ n → t.wf → t.text.length ≤ 100000 → RepS w P t l s →
    Calls Tryz.prog 48 #[.agg #[l, s]] w (TextS t.text w) := by
  induction n with
  | zero => intro t l s w P h; cases t <;> simp at h <;> omega
  | succ n ih =>
    intro t l s w P hn hwf hlt' hr
    cases t with
    | leaf =>
      rw [RepS] at hr
      obtain ⟨rfl, rfl⟩ := hr
      go_enter Tryz.func48, Tryz.ntmps48
      go_wp2
      go_ret
      exact ⟨by simp [T.text], (Below.refl _ _).alloc (Nat.le_refl _) _⟩
    | node c ks =>
      rw [RepS] at hr
      obtain ⟨rfl, g, cap, rfl, hP, hk, hL⟩ := hr
      rw [T.wf] at hwf
      have hwk := hwf.2.2.2.2
      have hlen0 : (T.node c ks).text.length = 3 + (T.textL ks).length := by simp [T.text]; omega
      have HLE : Hid ((T.textL ks).length ≤ 100000) := Lib.hid (by omega)
      clear hlen0 hlt'
      go_enter Tryz.func48, Tryz.ntmps48
      go_wp2_with fail
      go_loopw [3, 4] (fun v i wr => ∃ k : Nat, k ≤ ks.length ∧ i = .int .i64 k ∧ v = .string ⟨(40 :: c :: T.textL (ks.take k)).toArray⟩ ∧ Below (w.heap.size+1) (w.alloc (Obj.cells #[Value.string { data := #[c] }, Value.slice (some { block := g, off := 0 }) ks.length cap] 66)) wr) (fun _ i _ => ks.length - (intOf i).toNat)
      case atStart => exact ⟨0, Nat.zero_le _, rfl, by rw [show (40 :: c :: T.textL (ks.take 0)) = [40] ++ [c] from by simp [T.textL], ← bytes_append], Below.refl _ _⟩
      case round =>
        obtain ⟨k, hk', rfl, rfl, hB⟩ := hrel
        have c0 : wr.cell? ⟨w.heap.size, 0, none⟩ = some (Value.string { data := #[c] }) := by
          rw [hB.cell (by simp)]; simp [go_sem]
        have c1 : wr.cell? ⟨w.heap.size, 1, none⟩ = some (Value.slice (some { block := g, off := 0 }) ks.length cap) := by
          rw [hB.cell (by simp)]; simp [go_sem]
        have hle0 := textL_take_leS (ks := ks) k
        have hL0 := HLE.out
        obtain ⟨A, hA⟩ : ∃ A, A = (40 :: c :: T.textL (ks.take k)) := ⟨_, rfl⟩
        have hAl : A.length = 2 + (T.textL (ks.take k)).length := by rw [hA]; simp; omega
        rw [← hA]
        have HA := Lib.hid hA
        clear hA
        by_cases hlt : k < ks.length
        · have hW : Below w.heap.size w wr := ((Below.refl _ _).alloc (Nat.le_refl _) _).trans (hB.mono (by omega))
          obtain ⟨l', s', d1, d2, d3⟩ := (hL.keep (Keeps.of_below hW P) (fun _ h _ => h) hP hwk).get k hlt
          simp only [Nat.zero_add] at d1 d2
          have hle := textL_take_leS (ks := ks) (k+1)
          have hlv := textL_takeS hlt
          rw [hlv, List.length_append, List.length_cons] at hle
          have hd : SizeOf.sizeOf ks[k] < SizeOf.sizeOf ks := List.sizeOf_lt_of_mem (List.getElem_mem hlt)
          simp only [T.node.sizeOf_spec] at hn
          have H := Lib.hid hlv
          have HI := Lib.hid (ih ks[k] l' s' wr P (by omega) (wfL_get hwk k hlt) (by omega) d3)
          have HX := Lib.hid hwk
          clear hlv hwk ih
          have hAs : (⟨A.toArray⟩ : ByteArray).size = A.length := by simp [ByteArray.size]
          have hts : (⟨(ks[k]).text.toArray⟩ : ByteArray).size = (ks[k]).text.length := by simp [ByteArray.size]
          go_wp2_with fail
          refine HI.out.mono ?_
          rintro e w' ⟨rfl, hB1⟩
          go_wp2_with fail
          go_roundw
          case rel =>
            refine ⟨k + 1, by omega, by go_num, ?_, hB.trans (hB1.mono (by have := hB.size; simp at this; omega))⟩
            rw [H.out, show 40 :: c :: (T.textL (ks.take k) ++ 32 :: (ks[k]).text) = (A ++ [32]) ++ (ks[k]).text from by rw [HA.out]; simp, ← bytes_append, ← bytes_append]
          case measure => simp [intOf]; omega
        · have hkk : k = ks.length := by omega
          have HK := Lib.hid hkk
          clear hkk
          go_wp2_with fail
          go_ret
          refine ⟨?_, ((Below.refl _ _).alloc (Nat.le_refl _) _).trans (hB.mono (by omega))⟩
          have : (T.node c ks).text = A ++ [41] := by rw [HA.out, HK.out, List.take_length, T.text]; simp
          rw [this, ← bytes_append]
          rfl
end Go.Proofs.YtoeebipahifpcaaGreat
end
section
/- A node that the model builds kid by kid: its box, its row, how the kids lie. -/
namespace Go.Proofs.YtoeebipahifpcaaGreat
open Go.RowKit

/-- The box of the node that is being made lies in block Bo, its row from 'base' on; what comes from outside keeps to P. -/
def OutRel (P : Nat → Prop) (base Bo : Nat) (c : UInt8) (acc : List T) (v : Value) (xs : List Value) (wr : World) : Prop :=
  wr.heap[Bo]? = some (.cells #[.string ⟨#[c]⟩, v] 66 (0, 0)) ∧ Bo < base ∧ (∀ b, P b → b < Bo) ∧
  wr.ownsRow base 66 2 v acc.length xs ∧
  (∀ k (h : k < acc.length), ∃ l sl, xs[k * 2]? = some l ∧ xs[k * 2 + 1]? = some sl ∧ RepS wr (fun b => (P b ∨ base ≤ b) ∧ v.ownBlock ≠ some b) acc[k] l sl) ∧
  T.wfL acc

theorem OutRel.start {P : Nat → Prop} {base : Nat} {c : UInt8} {w : World} (hB : base = w.heap.size + 1) (hP : ∀ b, P b → b < w.heap.size) :
    OutRel P base w.heap.size c [] (.slice none 0 0) [] (w.alloc (.cells #[.string ⟨#[c]⟩, .slice none 0 0] 66)) :=
  ⟨heap_alloc_new w _, by omega, hP, World.ownsRow_nil _ _ _ _, fun k h => by simp at h, by simp [T.wfL]⟩

/-- Another kid: w1 is the world behind the call that made it, w1' that world with boxes besides, w2 behind the append. -/
theorem OutRel.next {P : Nat → Prop} {base Bo : Nat} {c : UInt8} {acc : List T} {va : Option Addr} {vn vc : Nat} {xs : List Value} {wr w1 w1' w2 : World} {t : T} {lb : ByteArray} {sa : Option Addr} {sn sc g cap : Nat}
    (h : OutRel P base Bo c acc (.slice va vn vc) xs wr) (hbw : base ≤ wr.heap.size) (hb1 : Below wr.heap.size wr w1) (hrep : RepS w1 (fun b => P b ∨ wr.heap.size ≤ b) t (.string lb) (.slice sa sn sc)) (htw : t.wf)
    (hb2 : Below w1.heap.size w1 w1')
    (hown : w2.ownsRow base 66 2 (.slice (some ⟨g, 0, none⟩) (acc.length + 1) cap) (acc.length + 1) (xs ++ [.string lb, .slice sa sn sc]))
    (hg : w1'.grownBy w2 (Value.slice va vn vc).ownBlock) (hf : (Value.slice va vn vc).ownBlock = some g ∨ w1.heap.size ≤ g) :
    OutRel P base Bo c (acc ++ [t]) (.slice (some ⟨g, 0, none⟩) (acc.length + 1) cap) (xs ++ [.string lb, .slice sa sn sc]) (w2.setCell ⟨Bo, 1, none⟩ (.slice (some ⟨g, 0, none⟩) (acc.length + 1) cap)) := by
  obtain ⟨b1, hBo, hP, own, reps, hwf⟩ := h
  have hl1 := (Array.getElem?_eq_some_iff.1 b1).1
  have hsz := hb1.size
  have hsz2 := hb2.size
  have hown0 := own.lt
  have hxl : xs.length = acc.length * 2 := own.1
  have hblk : ∀ b, b < w1.heap.size → (Value.slice va vn vc).ownBlock ≠ some b → b ≠ Bo → (w2.setCell ⟨Bo, 1, none⟩ (.slice (some ⟨g, 0, none⟩) (acc.length + 1) cap)).heap[b]? = w1.heap[b]? := by
    intro b hb hne hn1
    rw [Below.heap_setCell _ _ _ _ (by simpa using hn1), hg.block b (by omega) (fun e => hne e.symm), hb2.block b hb]
  have hne0 : ∀ b, b < base → (Value.slice va vn vc).ownBlock ≠ some b := fun b hb e => by have := (hown0 b e).1; omega
  refine ⟨?_, hBo, hP, ?_, ?_, ?_⟩
  · have : w2.heap[Bo]? = some (.cells #[.string ⟨#[c]⟩, .slice va vn vc] 66 (0, 0)) := by
      rw [hg.block _ (by omega) (fun e => hne0 _ (by omega) e.symm), hb2.block _ (by omega), hb1.block _ hl1, b1]
    rw [heap_setCell_same this]; rfl
  · rw [List.length_append]
    exact ownsRow_setCell_below hown (by simpa using hBo) _
  · intro k hk'
    by_cases hka : k < acc.length
    · obtain ⟨l, sl, e1, e2, e3⟩ := reps k hka
      refine ⟨l, sl, by rw [List.getElem?_append_left (by omega)]; exact e1, by rw [List.getElem?_append_left (by omega)]; exact e2, ?_⟩
      rw [List.getElem_append_left hka]
      refine e3.keep (w := wr) ?_ ?_ (wfL_get hwf k hka)
      · intro a u ha hu
        have hab := World.block_lt_of_cell? wr a hu
        have hne : a.block ≠ Bo := by
          rcases ha.1 with e | e
          · have := hP _ e; omega
          · omega
        rw [World.cell?_of_block (hblk a.block (by omega) ha.2 hne), World.cell?_of_block (hb1.block a.block hab)]
        exact hu
      · intro b hb hlt
        refine ⟨hb.1, fun e => ?_⟩
        simp only [Value.ownBlock, Option.some.injEq] at e
        subst e
        rcases hf with e | e
        · exact hb.2 e
        · omega
    · have hke : k = acc.length := by simp at hk'; omega
      subst hke
      refine ⟨.string lb, .slice sa sn sc, by rw [List.getElem?_append_right (by omega), hxl]; simp, by rw [List.getElem?_append_right (by omega), hxl]; simp, ?_⟩
      rw [List.getElem_append_right (by omega)]
      simp only [Nat.sub_self, List.getElem_singleton]
      have hneo : ∀ b, (P b ∨ wr.heap.size ≤ b) → (Value.slice va vn vc).ownBlock ≠ some b := fun b hb e => by
        have h1 := hown0 b e
        rcases hb with hb | hb
        · have := hP _ hb; omega
        · omega
      refine hrep.keep (w := w1) ?_ ?_ htw
      · intro a u ha hu
        have hab := World.block_lt_of_cell? w1 a hu
        have hne : a.block ≠ Bo := by
          rcases ha with e | e
          · have := hP _ e; omega
          · omega
        rw [World.cell?_of_block (hblk a.block hab (hneo _ ha) hne)]
        exact hu
      · intro b hb hlt
        refine ⟨by rcases hb with e | e; exact .inl e; exact .inr (by omega), fun e => ?_⟩
        simp only [Value.ownBlock, Option.some.injEq] at e
        subst e
        rcases hf with e | e
        · exact hneo _ hb e
        · omega
  · rw [wfL_append]; exact ⟨hwf, by simp [T.wfL, htw]⟩

/-- The node is made: how it lies, also behind stores into boxes that are neither from outside nor the row. -/
theorem OutRel.rep {P : Nat → Prop} {base Bo : Nat} {c : UInt8} {acc : List T} {va : Option Addr} {vn vc : Nat} {xs : List Value} {wr w2 : World}
    (h : OutRel P base Bo c acc (.slice va vn vc) xs wr) (h1 : 1 ≤ acc.length) (h6 : acc.length ≤ 6) (hk : Keeps (fun b => P b ∨ base ≤ b) wr w2) :
    RepS w2 (fun b => P b ∨ base ≤ b) (.node c acc) (.string ⟨#[c]⟩) (.slice va vn vc) := by
  obtain ⟨b1, hBo, hP, own, reps, hwf⟩ := h
  have own0 := own
  rcases own.2 with ⟨_, e⟩ | ⟨g, cap, cur, e, hbg, hgg, hnc, hcm, hcs, htake⟩
  · omega
  · simp only [Value.slice.injEq] at e
    obtain ⟨rfl, rfl, rfl⟩ := e
    rw [RepS]
    refine ⟨rfl, g, vc, rfl, .inr hbg, ⟨h6, hnc⟩, RepSL.of_get fun k hk' => ?_⟩
    obtain ⟨l, sl, e1, e2, e3⟩ := reps k hk'
    have c1 := own0.cells (g := g) rfl (k * 2) l e1
    have c2 := own0.cells (g := g) rfl (k * 2 + 1) sl e2
    have ha : ∀ n, (⟨g, 0, none⟩ : Addr).add n = ⟨g, n, none⟩ := fun n => by unfold Addr.add; split <;> simp_all
    rw [ha] at c1 c2
    simp only [Nat.zero_add]
    exact ⟨l, sl, hk _ _ (.inr hbg) c1, hk _ _ (.inr hbg) c2, e3.keep (hk.mono fun _ h => h.1) (fun b h _ => h.1) (wfL_get hwf k hk')⟩

theorem OutRel.vn {P : Nat → Prop} {base Bo : Nat} {c : UInt8} {acc : List T} {va : Option Addr} {vn vc : Nat} {xs : List Value} {wr : World}
    (h : OutRel P base Bo c acc (.slice va vn vc) xs wr) : vn = acc.length := by
  obtain ⟨a, m, c', e, e'⟩ := owns_slice h.2.2.2.1; simp at e; omega

end Go.Proofs.YtoeebipahifpcaaGreat
end
section
/- The model mirrors a tree. -/
namespace Go.Proofs.YtoeebipahifpcaaGreat
open Go.RowKit

mutual
def T.mirror : T → T
  | .leaf => .leaf
  | .node c ks => .node c (T.mirrorL ks)
def T.mirrorL : List T → List T
  | [] => []
  | k :: ks => T.mirrorL ks ++ [k.mirror]
end

theorem mirrorL_eq (ks : List T) : T.mirrorL ks = (ks.map T.mirror).reverse := by
  induction ks with
  | nil => rfl
  | cons k ks ih => simp [T.mirrorL, ih]

theorem mirrorL_length (ks : List T) : (T.mirrorL ks).length = ks.length := by rw [mirrorL_eq]; simp

theorem mirrorL_get {ks : List T} {k : Nat} (h : k < ks.length) : (T.mirrorL ks)[k]'(by rw [mirrorL_length]; exact h) = (ks[ks.length - 1 - k]'(by omega)).mirror := by
  simp only [mirrorL_eq, List.getElem_reverse, List.getElem_map, List.length_map]

mutual
theorem mirror_wf : ∀ (t : T), t.wf → t.mirror.wf
  | .leaf, _ => by simp [T.mirror, T.wf]
  | .node c ks, h => by
    rw [T.wf] at h
    rw [T.mirror, T.wf, mirrorL_length]
    exact ⟨h.1, h.2.1, h.2.2.1, h.2.2.2.1, mirrorL_wf ks h.2.2.2.2⟩
theorem mirrorL_wf : ∀ (ks : List T), T.wfL ks → T.wfL (T.mirrorL ks)
  | [], _ => by simp [T.mirrorL, T.wfL]
  | k :: ks, h => by
    rw [T.wfL] at h
    rw [T.mirrorL, wfL_append]
    exact ⟨mirrorL_wf ks h.2, by simp [T.wfL, mirror_wf k h.1]⟩
end

mutual
theorem mirror_size : ∀ (t : T), t.mirror.leaves = t.leaves ∧ t.mirror.nodes = t.nodes
  | .leaf => by simp [T.mirror]
  | .node c ks => by
    have := mirrorL_size ks
    simp [T.mirror, T.leaves, T.nodes, this]
theorem mirrorL_size : ∀ (ks : List T), T.leavesL (T.mirrorL ks) = T.leavesL ks ∧ T.nodesL (T.mirrorL ks) = T.nodesL ks
  | [] => by simp [T.mirrorL]
  | k :: ks => by
    have h1 := mirror_size k
    have h2 := mirrorL_size ks
    simp [T.mirrorL, leavesL_append, nodesL_append, T.leavesL, T.nodesL, h1, h2]
    omega
end

theorem wfL_take {ks : List T} (h : T.wfL ks) (k : Nat) : T.wfL (ks.take k) := by
  have := wfL_append (ks.take k) (ks.drop k)
  rw [List.take_append_drop] at this
  exact (this.1 h).1

theorem grown_frozen {w w' : World} {row : Option Nat} {a : Addr} {v : Value} (hg : w.grownBy w' row) (h : w.cell? a = some v) (hf : w.frozen? a = false) (hne : some a.block ≠ row) : w'.frozen? a = false :=
  (World.frozen?_of_block (hg.block a.block (World.block_lt_of_cell? w a h) hne)).trans hf

/-- A tree is handed back, new. -/
def NewS (t : T) (w : World) (e : Ending) (w' : World) : Prop :=
  Below w.heap.size w w' ∧ ∃ (lb : ByteArray) (sa : Option Addr) (sn sc : Nat), e = .returned (.agg #[.string lb, .slice sa sn sc]) ∧ RepS w' (fun b => w.heap.size ≤ b) t (.string lb) (.slice sa sn sc)

theorem RepS.shape {w : World} {P : Nat → Prop} {t : T} {l s : Value} (h : RepS w P t l s) : ∃ (lb : ByteArray) (sa : Option Addr) (sn sc : Nat), l = .string lb ∧ s = .slice sa sn sc := by
  cases t with
  | leaf => rw [RepS] at h; exact ⟨_, _, _, _, h.1, h.2⟩
  | node c ks => rw [RepS] at h; obtain ⟨h1, g, cap, h2, _⟩ := h; exact ⟨_, _, _, _, h1, h2⟩

end Go.Proofs.YtoeebipahifpcaaGreat
end
