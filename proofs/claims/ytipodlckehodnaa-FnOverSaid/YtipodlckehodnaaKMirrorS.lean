/- Merged out of: XTextS, XOut, XMirrorS. -/
import Derived.Test.YtipodlckehodnaaSpecA
import Derived.Deep.AppendLies
import Derived.Deep.RegionHeld3
import Derived.Deep.RegionLaw
section
/- The model writes a tree. -/
namespace Go.Proofs.Ytipodlckehodnaa
open Go.RowKit

theorem textL_takeS {ks : List T} {k : Nat} (h : k < ks.length) : T.textL (ks.take (k + 1)) = T.textL (ks.take k) ++ (32 :: (ks[k]).text) := by
  rw [List.take_succ_eq_append_getElem h, textL_append]; simp [T.textL]

theorem textL_take_leS {ks : List T} (k : Nat) : (T.textL (ks.take k)).length ≤ (T.textL ks).length := by
  have h := textL_append (ks.take k) (ks.drop k)
  rw [List.take_append_drop] at h
  rw [h, List.length_append]; omega

theorem bytes_append (l m : List UInt8) : (⟨l.toArray⟩ : ByteArray) ++ ⟨m.toArray⟩ = ⟨(l ++ m).toArray⟩ := by
  apply ByteArray.ext
  simp

def TextS (l : List UInt8) (w : World) (e : Ending) (w' : World) : Prop := e = .returned (.string ⟨l.toArray⟩) ∧ Below w.heap.size w w'

set_option maxHeartbeats 400000 in
theorem l1Text_any (n : Nat) : ∀ (t : T) (l s : Value) (w : World) (P : Nat → Prop), SizeOf.sizeOf t ≤ n → t.wf → t.text.length ≤ 100000 → RepS w P t l s →
    Calls Try.prog 60 #[.agg #[l, s]] w (TextS t.text w) := by
  induction n with
  | zero => intro t l s w P h; cases t <;> simp at h <;> omega
  | succ n ih =>
    intro t l s w P hn hwf hlt' hr
    cases t with
    | leaf =>
      rw [RepS] at hr
      obtain ⟨rfl, rfl⟩ := hr
      go_enter Try.func60, Try.ntmps60
      go_wp2
      go_ret
      exact ⟨by simp [T.text], (Below.refl _ _).alloc (Nat.le_refl _) _⟩
    | node c ks =>
      rw [RepS] at hr
      obtain ⟨rfl, g, cap, rfl, hP, hk, hL⟩ := hr
      rw [T.wf] at hwf
      have hwk := hwf.2.2.2.2
      have hlen0 : (T.node c ks).text.length = 3 + (T.textL ks).length := by simp [T.text]; omega
      have HLE : Hid ((T.textL ks).length ≤ 100000) := Lib.hid (by omega)
      clear hlen0 hlt'
      go_enter Try.func60, Try.ntmps60
      go_wp2_with fail
      go_loopw [3, 4] (fun v i wr => ∃ k : Nat, k ≤ ks.length ∧ i = .int .i64 k ∧ v = .string ⟨(40 :: c :: T.textL (ks.take k)).toArray⟩ ∧ Below (w.heap.size+1) (w.alloc (Obj.cells #[Value.string { data := #[c] }, Value.slice (some { block := g, off := 0 }) ks.length cap] 88)) wr) (fun _ i _ => ks.length - (intOf i).toNat)
      case atStart => exact ⟨0, Nat.zero_le _, rfl, by rw [show (40 :: c :: T.textL (ks.take 0)) = [40] ++ [c] from by simp [T.textL], ← bytes_append], Below.refl _ _⟩
      case round =>
        obtain ⟨k, hk', rfl, rfl, hB⟩ := hrel
        have c0 : wr.cell? ⟨w.heap.size, 0, none⟩ = some (Value.string { data := #[c] }) := by
          rw [hB.cell (by simp)]; simp [go_sem]
        have c1 : wr.cell? ⟨w.heap.size, 1, none⟩ = some (Value.slice (some { block := g, off := 0 }) ks.length cap) := by
          rw [hB.cell (by simp)]; simp [go_sem]
        have hle0 := textL_take_leS (ks := ks) k
        have hL0 := HLE.out
        obtain ⟨A, hA⟩ : ∃ A, A = (40 :: c :: T.textL (ks.take k)) := ⟨_, rfl⟩
        have hAl : A.length = 2 + (T.textL (ks.take k)).length := by rw [hA]; simp; omega
        rw [← hA]
        have HA := Lib.hid hA
        clear hA
        by_cases hlt : k < ks.length
        · have hW : Below w.heap.size w wr := ((Below.refl _ _).alloc (Nat.le_refl _) _).trans (hB.mono (by omega))
          obtain ⟨l', s', d1, d2, d3⟩ := (hL.keep (Keeps.of_below hW P) (fun _ h _ => h) hP hwk).get k hlt
          simp only [Nat.zero_add] at d1 d2
          have hle := textL_take_leS (ks := ks) (k+1)
          have hlv := textL_takeS hlt
          rw [hlv, List.length_append, List.length_cons] at hle
          have hd : SizeOf.sizeOf ks[k] < SizeOf.sizeOf ks := List.sizeOf_lt_of_mem (List.getElem_mem hlt)
          simp only [T.node.sizeOf_spec] at hn
          have H := Lib.hid hlv
          have HI := Lib.hid (ih ks[k] l' s' wr P (by omega) (wfL_get hwk k hlt) (by omega) d3)
          have HX := Lib.hid hwk
          clear hlv hwk ih
          have hAs : (⟨A.toArray⟩ : ByteArray).size = A.length := by simp [ByteArray.size]
          have hts : (⟨(ks[k]).text.toArray⟩ : ByteArray).size = (ks[k]).text.length := by simp [ByteArray.size]
          go_wp2_with fail
          refine HI.out.mono ?_
          rintro e w' ⟨rfl, hB1⟩
          go_wp2_with fail
          go_roundw
          case rel =>
            refine ⟨k + 1, by omega, by go_num, ?_, hB.trans (hB1.mono (by have := hB.size; simp at this; omega))⟩
            rw [H.out, show 40 :: c :: (T.textL (ks.take k) ++ 32 :: (ks[k]).text) = (A ++ [32]) ++ (ks[k]).text from by rw [HA.out]; simp, ← bytes_append, ← bytes_append]
          case measure => simp [intOf]; omega
        · have hkk : k = ks.length := by omega
          have HK := Lib.hid hkk
          clear hkk
          go_wp2_with fail
          go_ret
          refine ⟨?_, ((Below.refl _ _).alloc (Nat.le_refl _) _).trans (hB.mono (by omega))⟩
          have : (T.node c ks).text = A ++ [41] := by rw [HA.out, HK.out, List.take_length, T.text]; simp
          rw [this, ← bytes_append]
          rfl
end Go.Proofs.Ytipodlckehodnaa
end
section
/- A node that the model builds kid by kid: its box, its row, how the kids lie. -/
namespace Go.Proofs.Ytipodlckehodnaa
open Go.RowKit

/-- The box of the node that is being made lies in block Bo, its row from 'base' on; what comes from outside keeps to P. -/
def OutRel (P : Nat → Prop) (base Bo : Nat) (c : UInt8) (acc : List T) (v : Value) (xs : List Value) (wr : World) : Prop :=
  wr.heap[Bo]? = some (.cells #[.string ⟨#[c]⟩, v] 88 (0, 0)) ∧ Bo < base ∧ (∀ b, P b → b < Bo) ∧
  wr.ownsRow base 88 2 v acc.length xs ∧
  (∀ k (h : k < acc.length), ∃ l sl, xs[k * 2]? = some l ∧ xs[k * 2 + 1]? = some sl ∧ RepS wr (fun b => (P b ∨ base ≤ b) ∧ v.ownBlock ≠ some b) acc[k] l sl) ∧
  T.wfL acc

theorem OutRel.start {P : Nat → Prop} {base : Nat} {c : UInt8} {w : World} (hB : base = w.heap.size + 1) (hP : ∀ b, P b → b < w.heap.size) :
    OutRel P base w.heap.size c [] (.slice none 0 0) [] (w.alloc (.cells #[.string ⟨#[c]⟩, .slice none 0 0] 88)) :=
  ⟨heap_alloc_new w _, by omega, hP, World.ownsRow_nil _ _ _ _, fun k h => by simp at h, by simp [T.wfL]⟩

/-- Another kid: w1 is the world behind the call that made it, w1' that world with boxes besides, w2 behind the append. -/
theorem OutRel.next {P : Nat → Prop} {base Bo : Nat} {c : UInt8} {acc : List T} {va : Option Addr} {vn vc : Nat} {xs : List Value} {wr w1 w1' w2 : World} {t : T} {lb : ByteArray} {sa : Option Addr} {sn sc g cap : Nat}
    (h : OutRel P base Bo c acc (.slice va vn vc) xs wr) (hbw : base ≤ wr.heap.size) (hb1 : Below wr.heap.size wr w1) (hrep : RepS w1 (fun b => P b ∨ wr.heap.size ≤ b) t (.string lb) (.slice sa sn sc)) (htw : t.wf)
    (hb2 : Below w1.heap.size w1 w1')
    (hown : w2.ownsRow base 88 2 (.slice (some ⟨g, 0, none⟩) (acc.length + 1) cap) (acc.length + 1) (xs ++ [.string lb, .slice sa sn sc]))
    (hg : w1'.grownBy w2 (Value.slice va vn vc).ownBlock) (hf : (Value.slice va vn vc).ownBlock = some g ∨ w1.heap.size ≤ g) :
    OutRel P base Bo c (acc ++ [t]) (.slice (some ⟨g, 0, none⟩) (acc.length + 1) cap) (xs ++ [.string lb, .slice sa sn sc]) (w2.setCell ⟨Bo, 1, none⟩ (.slice (some ⟨g, 0, none⟩) (acc.length + 1) cap)) := by
  obtain ⟨b1, hBo, hP, own, reps, hwf⟩ := h
  have hl1 := (Array.getElem?_eq_some_iff.1 b1).1
  have hsz := hb1.size
  have hsz2 := hb2.size
  have hown0 := own.lt
  have hxl : xs.length = acc.length * 2 := own.1
  have hblk : ∀ b, b < w1.heap.size → (Value.slice va vn vc).ownBlock ≠ some b → b ≠ Bo → (w2.setCell ⟨Bo, 1, none⟩ (.slice (some ⟨g, 0, none⟩) (acc.length + 1) cap)).heap[b]? = w1.heap[b]? := by
    intro b hb hne hn1
    rw [Below.heap_setCell _ _ _ _ (by simpa using hn1), hg.block b (by omega) (fun e => hne e.symm), hb2.block b hb]
  have hne0 : ∀ b, b < base → (Value.slice va vn vc).ownBlock ≠ some b := fun b hb e => by have := (hown0 b e).1; omega
  refine ⟨?_, hBo, hP, ?_, ?_, ?_⟩
  · have : w2.heap[Bo]? = some (.cells #[.string ⟨#[c]⟩, .slice va vn vc] 88 (0, 0)) := by
      rw [hg.block _ (by omega) (fun e => hne0 _ (by omega) e.symm), hb2.block _ (by omega), hb1.block _ hl1, b1]
    rw [heap_setCell_same this]; rfl
  · rw [List.length_append]
    exact ownsRow_setCell_below hown (by simpa using hBo) _
  · intro k hk'
    by_cases hka : k < acc.length
    · obtain ⟨l, sl, e1, e2, e3⟩ := reps k hka
      refine ⟨l, sl, by rw [List.getElem?_append_left (by omega)]; exact e1, by rw [List.getElem?_append_left (by omega)]; exact e2, ?_⟩
      rw [List.getElem_append_left hka]
      refine e3.keep (w := wr) ?_ ?_ (wfL_get hwf k hka)
      · intro a u ha hu
        have hab := World.block_lt_of_cell? wr a hu
        have hne : a.block ≠ Bo := by
          rcases ha.1 with e | e
          · have := hP _ e; omega
          · omega
        rw [World.cell?_of_block (hblk a.block (by omega) ha.2 hne), World.cell?_of_block (hb1.block a.block hab)]
        exact hu
      · intro b hb hlt
        refine ⟨hb.1, fun e => ?_⟩
        simp only [Value.ownBlock, Option.some.injEq] at e
        subst e
        rcases hf with e | e
        · exact hb.2 e
        · omega
    · have hke : k = acc.length := by simp at hk'; omega
      subst hke
      refine ⟨.string lb, .slice sa sn sc, by rw [List.getElem?_append_right (by omega), hxl]; simp, by rw [List.getElem?_append_right (by omega), hxl]; simp, ?_⟩
      rw [List.getElem_append_right (by omega)]
      simp only [Nat.sub_self, List.getElem_singleton]
      have hneo : ∀ b, (P b ∨ wr.heap.size ≤ b) → (Value.slice va vn vc).ownBlock ≠ some b := fun b hb e => by
        have h1 := hown0 b e
        rcases hb with hb | hb
        · have := hP _ hb; omega
        · omega
      refine hrep.keep (w := w1) ?_ ?_ htw
      · intro a u ha hu
        have hab := World.block_lt_of_cell? w1 a hu
        have hne : a.block ≠ Bo := by
          rcases ha with e | e
          · have := hP _ e; omega
          · omega
        rw [World.cell?_of_block (hblk a.block hab (hneo _ ha) hne)]
        exact hu
      · intro b hb hlt
        refine ⟨by rcases hb with e | e; exact .inl e; exact .inr (by omega), fun e => ?_⟩
        simp only [Value.ownBlock, Option.some.injEq] at e
        subst e
        rcases hf with e | e
        · exact hneo _ hb e
        · omega
  · rw [wfL_append]; exact ⟨hwf, by simp [T.wfL, htw]⟩

/-- The node is made: how it lies, also behind stores into boxes that are neither from outside nor the row. -/
theorem OutRel.rep {P : Nat → Prop} {base Bo : Nat} {c : UInt8} {acc : List T} {va : Option Addr} {vn vc : Nat} {xs : List Value} {wr w2 : World}
    (h : OutRel P base Bo c acc (.slice va vn vc) xs wr) (h1 : 1 ≤ acc.length) (h6 : acc.length ≤ 6) (hk : Keeps (fun b => P b ∨ base ≤ b) wr w2) :
    RepS w2 (fun b => P b ∨ base ≤ b) (.node c acc) (.string ⟨#[c]⟩) (.slice va vn vc) := by
  obtain ⟨b1, hBo, hP, own, reps, hwf⟩ := h
  have own0 := own
  rcases own.2 with ⟨_, e⟩ | ⟨g, cap, cur, e, hbg, hgg, hnc, hcm, hcs, htake⟩
  · omega
  · simp only [Value.slice.injEq] at e
    obtain ⟨rfl, rfl, rfl⟩ := e
    rw [RepS]
    refine ⟨rfl, g, vc, rfl, .inr hbg, h6, RepSL.of_get fun k hk' => ?_⟩
    obtain ⟨l, sl, e1, e2, e3⟩ := reps k hk'
    have c1 := own0.cells (g := g) rfl (k * 2) l e1
    have c2 := own0.cells (g := g) rfl (k * 2 + 1) sl e2
    have ha : ∀ n, (⟨g, 0, none⟩ : Addr).add n = ⟨g, n, none⟩ := fun n => by unfold Addr.add; split <;> simp_all
    rw [ha] at c1 c2
    simp only [Nat.zero_add]
    exact ⟨l, sl, hk _ _ (.inr hbg) c1, hk _ _ (.inr hbg) c2, e3.keep (hk.mono fun _ h => h.1) (fun b h _ => h.1) (wfL_get hwf k hk')⟩

theorem OutRel.vn {P : Nat → Prop} {base Bo : Nat} {c : UInt8} {acc : List T} {va : Option Addr} {vn vc : Nat} {xs : List Value} {wr : World}
    (h : OutRel P base Bo c acc (.slice va vn vc) xs wr) : vn = acc.length := by
  obtain ⟨a, m, c', e, e'⟩ := owns_slice h.2.2.2.1; simp at e; omega

end Go.Proofs.Ytipodlckehodnaa
end
section
/- The model mirrors a tree. -/
namespace Go.Proofs.Ytipodlckehodnaa
open Go.RowKit

mutual
def T.mirror : T → T
  | .leaf => .leaf
  | .node c ks => .node c (T.mirrorL ks)
def T.mirrorL : List T → List T
  | [] => []
  | k :: ks => T.mirrorL ks ++ [k.mirror]
end

theorem mirrorL_eq (ks : List T) : T.mirrorL ks = (ks.map T.mirror).reverse := by
  induction ks with
  | nil => rfl
  | cons k ks ih => simp [T.mirrorL, ih]

theorem mirrorL_length (ks : List T) : (T.mirrorL ks).length = ks.length := by rw [mirrorL_eq]; simp

theorem mirrorL_get {ks : List T} {k : Nat} (h : k < ks.length) : (T.mirrorL ks)[k]'(by rw [mirrorL_length]; exact h) = (ks[ks.length - 1 - k]'(by omega)).mirror := by
  simp only [mirrorL_eq, List.getElem_reverse, List.getElem_map, List.length_map]

mutual
theorem mirror_wf : ∀ (t : T), t.wf → t.mirror.wf
  | .leaf, _ => by simp [T.mirror, T.wf]
  | .node c ks, h => by
    rw [T.wf] at h
    rw [T.mirror, T.wf, mirrorL_length]
    exact ⟨h.1, h.2.1, h.2.2.1, h.2.2.2.1, mirrorL_wf ks h.2.2.2.2⟩
theorem mirrorL_wf : ∀ (ks : List T), T.wfL ks → T.wfL (T.mirrorL ks)
  | [], _ => by simp [T.mirrorL, T.wfL]
  | k :: ks, h => by
    rw [T.wfL] at h
    rw [T.mirrorL, wfL_append]
    exact ⟨mirrorL_wf ks h.2, by simp [T.wfL, mirror_wf k h.1]⟩
end

mutual
theorem mirror_size : ∀ (t : T), t.mirror.leaves = t.leaves ∧ t.mirror.nodes = t.nodes
  | .leaf => by simp [T.mirror]
  | .node c ks => by
    have := mirrorL_size ks
    simp [T.mirror, T.leaves, T.nodes, this]
theorem mirrorL_size : ∀ (ks : List T), T.leavesL (T.mirrorL ks) = T.leavesL ks ∧ T.nodesL (T.mirrorL ks) = T.nodesL ks
  | [] => by simp [T.mirrorL]
  | k :: ks => by
    have h1 := mirror_size k
    have h2 := mirrorL_size ks
    simp [T.mirrorL, leavesL_append, nodesL_append, T.leavesL, T.nodesL, h1, h2]
    omega
end

theorem wfL_take {ks : List T} (h : T.wfL ks) (k : Nat) : T.wfL (ks.take k) := by
  have := wfL_append (ks.take k) (ks.drop k)
  rw [List.take_append_drop] at this
  exact (this.1 h).1

theorem grown_frozen {w w' : World} {row : Option Nat} {a : Addr} {v : Value} (hg : w.grownBy w' row) (h : w.cell? a = some v) (hf : w.frozen? a = false) (hne : some a.block ≠ row) : w'.frozen? a = false :=
  (World.frozen?_of_block (hg.block a.block (World.block_lt_of_cell? w a h) hne)).trans hf

/-- A tree is handed back, new. -/
def NewS (t : T) (w : World) (e : Ending) (w' : World) : Prop :=
  Below w.heap.size w w' ∧ ∃ (lb : ByteArray) (sa : Option Addr) (sn sc : Nat), e = .returned (.agg #[.string lb, .slice sa sn sc]) ∧ RepS w' (fun b => w.heap.size ≤ b) t (.string lb) (.slice sa sn sc)

theorem RepS.shape {w : World} {P : Nat → Prop} {t : T} {l s : Value} (h : RepS w P t l s) : ∃ (lb : ByteArray) (sa : Option Addr) (sn sc : Nat), l = .string lb ∧ s = .slice sa sn sc := by
  cases t with
  | leaf => rw [RepS] at h; exact ⟨_, _, _, _, h.1, h.2⟩
  | node c ks => rw [RepS] at h; obtain ⟨h1, g, cap, h2, _⟩ := h; exact ⟨_, _, _, _, h1, h2⟩

set_option maxRecDepth 100000 in
set_option maxHeartbeats 2000000 in
theorem l1Mirror_any (n : Nat) : ∀ (t : T) (l s : Value) (w : World) (P : Nat → Prop), SizeOf.sizeOf t ≤ n → t.wf → RepS w P t l s →
    Calls Try.prog 79 #[.agg #[l, s]] w (NewS t.mirror w) := by
  induction n with
  | zero => intro t l s w P h; cases t <;> simp at h <;> omega
  | succ n ih =>
    intro t l s w P hn hwf hr
    cases t with
    | leaf =>
      rw [RepS] at hr
      obtain ⟨rfl, rfl⟩ := hr
      go_enter Try.func79, Try.ntmps79
      go_wp2_with fail
      go_rounds 1
      refine bodyPost_ret (v := .agg #[.string ⟨#[]⟩, .slice none 0 0]) (by simp [results, Try.results79, go_sem]) rfl ?_
      refine ⟨?_, _, _, _, _, rfl, by rw [T.mirror, RepS]; exact ⟨rfl, rfl⟩⟩
      go_grown
    | node c ks =>
      rw [RepS] at hr
      obtain ⟨rfl, g, cap, rfl, hP, hk, hL⟩ := hr
      rw [T.wf] at hwf
      have HWF := Lib.hid hwf
      have hk1 := hwf.2.2.1
      have HL := Lib.hid hL
      clear hL hwf
      go_enter Try.func79, Try.ntmps79
      go_wp2_with fail
      obtain ⟨B, hBdef⟩ : ∃ B, B = w.heap.size := ⟨_, rfl⟩
      have HBD := Lib.hid hBdef
      have rel0 : OutRel (fun _ => False) (w.heap.size + 1 + 1 + 1) (w.heap.size + 1 + 1) c ((T.mirrorL ks).take 0) (.slice none 0 0) []
          (((w.alloc (Obj.cells #[Value.string { data := #[c] }, Value.slice (some { block := g, off := 0 }) ks.length cap] 88)).alloc (Obj.cells #[Value.string { data := #[] }, Value.slice none 0 0] 88)).alloc (Obj.cells #[Value.string { data := #[c] }, Value.slice none 0 0] 88)) := by
        have := OutRel.start (P := fun _ => False) (base := w.heap.size + 1 + 1 + 1) (c := c) (w := (w.alloc (Obj.cells #[Value.string { data := #[c] }, Value.slice (some { block := g, off := 0 }) ks.length cap] 88)).alloc (Obj.cells #[Value.string { data := #[] }, Value.slice none 0 0] 88)) (by simp) (fun _ h => h.elim)
        simpa using this
      have R0 := Lib.hid rel0
      clear rel0
      go_loopw [4] (fun i wr => ∃ (k : Nat) (va : Option Addr) (vn vc : Nat) (xs : List Value), k ≤ ks.length ∧ i = .int .i64 ((ks.length : Int) - 1 - k) ∧
          OutRel (fun _ => False) (w.heap.size + 1 + 1 + 1) (w.heap.size + 1 + 1) c ((T.mirrorL ks).take k) (.slice va vn vc) xs wr ∧
          wr.heap[w.heap.size]? = some (.cells #[.string ⟨#[c]⟩, .slice (some ⟨g, 0, none⟩) ks.length cap] 88 (0, 0)) ∧
          wr.heap[w.heap.size + 1]? = some (.cells #[.string ⟨#[]⟩, .slice none 0 0] 88 (0, 0)) ∧ w.heap.size + 1 + 1 + 1 ≤ wr.heap.size ∧ Below w.heap.size w wr) (fun i _ => (intOf i + 1).toNat)
      case atStart =>
        refine ⟨0, none, 0, 0, [], by omega, by simp, R0.out, ?_, ?_, by simp, ?_⟩
        · rw [Below.heap_alloc _ _ _ (by simp; omega), Below.heap_alloc _ _ _ (by simp)]; exact heap_alloc_new w _
        · rw [Below.heap_alloc _ _ _ (by simp)]
          have := heap_alloc_new (w.alloc (Obj.cells #[Value.string { data := #[c] }, Value.slice (some { block := g, off := 0 }) ks.length cap] 88)) (Obj.cells #[Value.string { data := #[] }, Value.slice none 0 0] 88)
          simpa using this
        · go_grown
      case round =>
        obtain ⟨k, va, vn, vc, xs, hk', rfl, hrel, hp0, hr0, hsz, hB⟩ := hrel
        have hvn := hrel.vn
        have hlt : ((T.mirrorL ks).take k).length = k := by rw [List.length_take, mirrorL_length]; omega
        rw [hlt] at hvn
        replace hvn := hvn.symm
        subst hvn
        have HR := Lib.hid hrel
        have HP0 := Lib.hid hp0
        have HR0 := Lib.hid hr0
        obtain ⟨c10, c11, f10, f11⟩ := two_cells hrel.1
        obtain ⟨p0, p1, _, _⟩ := two_cells hp0
        obtain ⟨r0, r1, fr0, fr1⟩ := two_cells hr0
        have hown0 := Lib.hid hrel.2.2.2.1.lt
        by_cases hlt' : k < ks.length
        · have hW : Below w.heap.size w wr.drew := hB.drew
          have hj : ks.length - 1 - k < ks.length := by omega
          obtain ⟨l', s', d1, d2, d3⟩ := (HL.out.keep (Keeps.of_below hW P) (fun _ h _ => h) hP HWF.out.2.2.2.2).get (ks.length - 1 - k) hj
          have hwj := wfL_get HWF.out.2.2.2.2 (ks.length - 1 - k) hj
          have hd : SizeOf.sizeOf (ks[ks.length - 1 - k]) < SizeOf.sizeOf ks := List.sizeOf_lt_of_mem (List.getElem_mem hj)
          simp only [T.node.sizeOf_spec] at hn
          have HI := Lib.hid (ih (ks[ks.length - 1 - k]) l' s' wr.drew P (by omega) hwj d3)
          obtain ⟨j, hjd⟩ : ∃ j, j = ks.length - 1 - k := ⟨_, rfl⟩
          have hji : ((ks.length : Int) - 1 - k) = (j : Int) := by omega
          rw [Nat.zero_add, ← hjd] at d1 d2
          have HJ := Lib.hid hjd
          have hjl : j < ks.length := by omega
          rw [hji]
          have d1' : wr.cell? ⟨g, j * 2, none⟩ = some l' := d1
          have d2' : wr.cell? ⟨g, j * 2 + 1, none⟩ = some s' := d2
          obtain ⟨i0, hi0, hz, hzs, hzb⟩ := info_parts info42
          have HJI := Lib.hid hji
          have HQ : Hid (∀ b, b < w.heap.size + 1 + 1 + 1 → some b ≠ (Value.slice va k vc).ownBlock) := Lib.hid (fun b hb e => by have := (hown0.out b e.symm).1; omega)
          have hgw : g < w.heap.size := by
            obtain ⟨l0, s0, e1, _, _⟩ := HL.out.get 0 (by omega)
            exact World.block_lt_of_cell? w _ e1
          have HOWN : Hid (wr.drew.ownsRow (w.heap.size + 1 + 1 + 1) 88 2 (.slice va k vc) k xs) := Lib.hid (by have := hrel.2.2.2.1; rw [hlt] at this; exact this)
          have HLT := Lib.hid hlt
          clear hrel hp0 hr0 hlt d1 d2 d3 ih hjd hji hd
          go_wp2_with fail
          go_region_law (first
            | (refine step_append_lies _ (by rfl) _ _ 86 (by rfl) (w.heap.size + 1 + 1 + 1) 88 i0 (.agg #[.string ⟨#[]⟩, .slice none 0 0]) 2 40 Try.underlying86 hi0 hz hzs hzb rfl (by decide) (.slice va k vc) k xs (by rfl) ((owns_below HOWN.out hb1).alloc (.cells #[.string lb, .slice sa sn sc] 88 (0, 0))) ⟨w1.heap.size, 0, none⟩ 1 1 [.string lb, .slice sa sn sc] (by rfl) (by rfl) (cells_two rfl _ _) (by simp [Value.oneCell']) (by decide) (by unfold maxLen; omega) (by omega) (by have := hb1.size; simp at this ⊢; omega) (w1.heap.size + 1) (by simp) ?_; intro gg cap' w2 hown2 hg2 hf2 hlt2; have y1 := hg2.cell (a := ⟨w.heap.size + 1 + 1, 1, none⟩) (v := .slice va k vc) (keep1 ((Below.refl _ _).alloc (Nat.le_refl _) _) x1) (HQ.out _ (by simp)); have y2 := grown_frozen (a := ⟨w.heap.size + 1 + 1, 1, none⟩) (v := .slice va k vc) hg2 (keep1 ((Below.refl _ _).alloc (Nat.le_refl _) _) x1) (keepf (v := .slice va k vc) ((Below.refl _ _).alloc (Nat.le_refl _) _) x1 x5) (HQ.out _ (by simp)))
            | (go_simp; go_at_call 79; refine HI.out.mono ?_; rintro e w1 ⟨hb1, lb, sa, sn, sc, rfl, hrep⟩; have x1 := keep1 (w := wr.drew) hb1 c11; have x2 := keep1 (w := wr.drew) hb1 p1; have x3 := keep1 (w := wr.drew) hb1 d1'; have x4 := keep1 (w := wr.drew) hb1 d2'; have x5 := keepf (w := wr.drew) (v := .slice va k vc) hb1 c11 f11; have x6 : w.heap.size + 1 + 1 < w1.heap.size := World.block_lt_of_cell? w1 _ x1; have x7 : w.heap.size < w1.heap.size := World.block_lt_of_cell? w1 _ x2; have x8 : g < w1.heap.size := World.block_lt_of_cell? w1 _ x3))
          all_goals
            have hs1 := hb1.size
            have hs2 := hg2.size
            have hb1' : Below wr.heap.size wr w1 := (Below.refl _ _).drew.trans hb1
            have hb2' : Below w1.heap.size w1 (w1.alloc (.cells #[.string lb, .slice sa sn sc] 88 (0, 0))) := (Below.refl _ _).alloc (Nat.le_refl _) _
            have NX : OutRel (fun _ => False) (w.heap.size + 1 + 1 + 1) (w.heap.size + 1 + 1) c ((T.mirrorL ks).take (k + 1)) (.slice (some ⟨gg, 0, none⟩) (k + 1) cap') (xs ++ [.string lb, .slice sa sn sc]) (w2.setCell ⟨w.heap.size + 1 + 1, 1, none⟩ (.slice (some ⟨gg, 0, none⟩) (k + 1) cap')) := by
              have h := HR.out.next (t := (ks[ks.length - 1 - k]).mirror) hsz hb1' (hrep.keep (fun _ _ _ h => h) (fun b h _ => .inr h) (mirror_wf _ hwj)) (mirror_wf _ hwj) hb2' (by rw [HLT.out]; exact hown2) hg2 (by rcases hf2 with h | h; exact .inl h; exact .inr (by omega))
              rw [HLT.out] at h
              rw [List.take_succ_eq_append_getElem (by rw [mirrorL_length]; omega), mirrorL_get hlt']
              exact h
            have hblk : ∀ b, b < w.heap.size + 1 + 1 → (w2.setCell ⟨w.heap.size + 1 + 1, 1, none⟩ (.slice (some ⟨gg, 0, none⟩) (k + 1) cap')).heap[b]? = wr.heap[b]? := by
              intro b hb
              rw [Below.heap_setCell _ _ _ _ (by simp; omega), hg2.block b (by simp; omega) (HQ.out b (by omega)), Below.heap_alloc _ _ _ (by omega), hb1'.block b (by omega)]
            have B0 := Lib.hid ((hblk w.heap.size (by omega)).trans HP0.out)
            have B1 := Lib.hid ((hblk (w.heap.size + 1) (by omega)).trans HR0.out)
            have BS : w.heap.size + 1 + 1 + 1 ≤ (w2.setCell ⟨w.heap.size + 1 + 1, 1, none⟩ (.slice (some ⟨gg, 0, none⟩) (k + 1) cap')).heap.size := by simp at hs2 ⊢; omega
            have BB := Lib.hid ((((hB.trans (hb1'.mono (by omega))).alloc (by omega) _).grown hg2 (by simp; omega) (fun q e => by have := (hown0.out q e).1; omega)).setCell (p := ⟨w.heap.size + 1 + 1, 1, none⟩) (by simp; omega) (.slice (some ⟨gg, 0, none⟩) (k + 1) cap'))
            have NXX := Lib.hid NX
            clear NX hblk hown2 hg2 hf2 hb1 hb1' hb2' hrep y1 y2 x1 x2 x3 x4 x5
            go_wp2_with fail
            go_roundw
            case rel => exact ⟨k + 1, some ⟨gg, 0, none⟩, k + 1, cap', _, by omega, by have e1 := HJI.out; rw [show ((ks.length : Int) - 1 - ((k + 1 : Nat) : Int)) = (j : Int) - 1 from by omega], NXX.out, B0.out, B1.out, BS, BB.out⟩
            case measure => first | (simp [intOf]; done) | (simp [intOf]; omega)
        · have hkk : k = ks.length := by omega
          subst hkk
          clear hrel hp0 hr0 hlt
          go_wp2_with fail
          refine bodyPost_ret (v := .agg #[.string ⟨#[c]⟩, .slice va ks.length vc]) (by simp [results, Try.results79, go_sem, r0, r1]) rfl ?_
          refine ⟨(hB.setCell (by simp) _).setCell (by simp) _, _, _, _, _, rfl, ?_⟩
          have hrep := HR.out.rep (w2 := (wr.setCell ⟨w.heap.size + 1, 0, none⟩ (.string ⟨#[c]⟩)).setCell ⟨w.heap.size + 1, 1, none⟩ (.slice va ks.length vc)) (by rw [List.length_take, mirrorL_length]; omega) (by rw [List.length_take, mirrorL_length]; omega) (by
            intro q u hq hu
            rw [World.cell?_of_block (w := wr)]
            · exact hu
            · have : q.block ≠ w.heap.size + 1 := by rcases hq with h | h; exact h.elim; omega
              rw [Below.heap_setCell _ _ _ _ this, Below.heap_setCell _ _ _ _ this])
          rw [T.mirror]
          rw [show (T.mirrorL ks).take ks.length = T.mirrorL ks from by rw [← mirrorL_length ks, List.take_length]] at hrep
          refine hrep.keep (fun _ _ _ h => h) (fun b h _ => by rcases h with h | h; exact h.elim; omega) ?_
          rw [T.wf, mirrorL_length]
          exact ⟨HWF.out.1, HWF.out.2.1, HWF.out.2.2.1, HWF.out.2.2.2.1, mirrorL_wf ks HWF.out.2.2.2.2⟩
end Go.Proofs.Ytipodlckehodnaa
end
