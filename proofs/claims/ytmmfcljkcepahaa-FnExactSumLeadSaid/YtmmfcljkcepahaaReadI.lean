/- The program's reader: a node's kids, plainly. -/
import Derived.Test.YtmmfcljkcepahaaRepI
namespace Go.Proofs.Ytmmfcljkcepahaa
open Go.RowKit

/-- What the program's reader answers. -/
def RePost (o : Option (T × List UInt8)) (r : Nat) (s : ByteArray) (i L N : Nat) (w : World) (e : Ending) (w' : World) : Prop :=
  w.grownBy w' (some r) ∧ ∃ i' L' N', i' ≤ s.size ∧ RB w' r s i' L' N' ∧
    ((o = none ∧ e = .returned (.tuple #[.nilIface, .bool false])) ∨
     ∃ t ty a, o = some (t, s.data.toList.drop i') ∧ t.wf ∧ i < i' ∧ L' = L + t.leaves ∧ N' = N + t.nodes ∧ L' ≤ 12 ∧ N' ≤ 16 ∧ e = .returned (.tuple #[.iface ty (.pointer (some a)), .bool true]) ∧ RepI w' (fun b => w.heap.size ≤ b) t ty a)

/-- What holds ahead of each round of the node's loop. -/
def KidRelI (w : World) (r : Nat) (s : ByteArray) (i f L0 N0 j L N : Nat) (acc : List T) (v : Value) (xs : List Value) (wr : World) : Prop :=
  RB wr r s j L N ∧ wr.ownsRow w.heap.size 107 1 v acc.length xs ∧
  (∀ k (h : k < acc.length), ∃ ty a, xs[k]? = some (.iface ty (.pointer (some a))) ∧ RepI wr (fun b => w.heap.size ≤ b ∧ v.ownBlock ≠ some b) acc[k] ty a) ∧
  T.wfL acc ∧ acc.length ≤ 6 ∧ L = L0 + T.leavesL acc ∧ N = N0 + 1 + T.nodesL acc ∧ L ≤ 12 ∧ N ≤ 16 ∧
  (∃ n, s.size - j ≤ n ∧ kidsA (rd f) n acc (s.data.toList.drop j) = kidsA (rd f) (s.data.toList.drop (i + 1)).length [] (s.data.toList.drop (i + 1))) ∧ w.grownBy wr (some r)

theorem drop_len (s : ByteArray) (j : Nat) : (s.data.toList.drop j).length = s.size - j := by simp

theorem KidRelI.next {w : World} {r : Nat} {s : ByteArray} {i f L0 N0 j L N j' L' N' : Nat} {acc : List T} {va : Option Addr} {vn vc : Nat} {xs : List Value} {wr wa wb wc : World} {t : T} {ty : TypeId} {a : Addr} {g cap : Nat} {X : Obj}
    (h : KidRelI w r s i f L0 N0 j L N acc (.slice va vn vc) xs wr) (hr : r < w.heap.size) (ha : wr.grownBy wa (some r)) (has : wa.heap.size = wr.heap.size) (hb : wa.grownBy wb (some r)) (hRB : RB wb r s j' L' N')
    (hrep : RepI wb (fun b => wa.heap.size ≤ b) t ty a) (htw : t.wf) (hyes : rd f (s.data.toList.drop (j + 1)) = some (t, s.data.toList.drop j')) (hL : L' = L + t.leaves) (hN : N' = N + t.nodes) (hL2 : L' ≤ 12) (hN2 : N' ≤ 16)
    (hj : j + 1 < j') (hlt : j < s.size) (h32 : s[j] = 32) (hlen : acc.length < 6)
    (hown : wc.ownsRow w.heap.size 107 1 (.slice (some ⟨g, 0, none⟩) (acc.length + 1) cap) (acc.length + 1) (xs ++ [.iface ty (.pointer (some a))]))
    (hg : (wb.alloc X).grownBy wc (Value.slice va vn vc).ownBlock) (hf : (Value.slice va vn vc).ownBlock = some g ∨ g = (wb.alloc X).heap.size) :
    KidRelI w r s i f L0 N0 j' L' N' (acc ++ [t]) (.slice (some ⟨g, 0, none⟩) (acc.length + 1) cap) (xs ++ [.iface ty (.pointer (some a))]) wc := by
  obtain ⟨rb, own, reps, hwf, hal, eL, eN, _, _, ⟨n, hn, hk⟩, hB⟩ := h
  have hown0 := own.lt
  have hxl : xs.length = acc.length * 1 := own.1
  have hsa := ha.size
  have hsb := hb.size
  have hsw := hB.size
  have hne0 : ∀ b, b < w.heap.size → (Value.slice va vn vc).ownBlock ≠ some b := fun b hb e => by have := (hown0 b e).1; omega
  have hblk : ∀ b, b < wb.heap.size → (Value.slice va vn vc).ownBlock ≠ some b → wc.heap[b]? = wb.heap[b]? := by
    intro b hb hne
    rw [hg.block b (by simp; omega) (fun e => hne e.symm), Below.heap_alloc _ _ _ hb]
  have hblk2 : ∀ b, b < wr.heap.size → b ≠ r → wb.heap[b]? = wr.heap[b]? := by
    intro b hb' hne
    rw [hb.block b (by omega) (by simpa using hne), ha.block b hb' (by simpa using hne)]
  refine ⟨?_, by rw [List.length_append]; exact hown, ?_, by rw [wfL_append]; exact ⟨hwf, by simp [T.wfL, htw]⟩, by simp; omega, ?_, ?_, hL2, hN2, ⟨n - 1, by omega, ?_⟩, ?_⟩
  · have hrl := hRB.lt
    unfold RB at hRB ⊢
    rw [hblk r hrl (hne0 r hr)]; exact hRB
  · intro k hk'
    by_cases hka : k < acc.length
    · obtain ⟨ty', a', e1, e3⟩ := reps k hka
      refine ⟨ty', a', by rw [List.getElem?_append_left (by omega)]; exact e1, ?_⟩
      rw [List.getElem_append_left hka]
      refine e3.keep (w := wr) ?_ ?_ (wfL_get hwf k hka)
      · intro q u hq hu
        have hqb := World.block_lt_of_cell? wr q hu
        rw [World.cell?_of_block (hblk q.block (by omega) hq.2), World.cell?_of_block (hblk2 q.block hqb (by have := hq.1; omega))]
        exact hu
      · intro b hb' hlt'
        refine ⟨hb'.1, fun e => ?_⟩
        simp only [Value.ownBlock, Option.some.injEq] at e
        subst e
        rcases hf with e | e
        · exact hb'.2 e
        · simp at e; omega
    · have hke : k = acc.length := by simp at hk'; omega
      subst hke
      refine ⟨ty, a, by rw [List.getElem?_append_right (by omega), hxl]; simp, ?_⟩
      rw [List.getElem_append_right (by omega)]
      simp only [Nat.sub_self, List.getElem_singleton]
      have hneo : ∀ b, wr.heap.size ≤ b → (Value.slice va vn vc).ownBlock ≠ some b := fun b hb e => by have := (hown0 b e).2; omega
      refine hrep.keep (w := wb) ?_ ?_ htw
      · intro q u hq hu
        have hqb := World.block_lt_of_cell? wb q hu
        rw [World.cell?_of_block (hblk q.block hqb (hneo _ (by omega)))]
        exact hu
      · intro b hb' hlt'
        refine ⟨by omega, fun e => ?_⟩
        simp only [Value.ownBlock, Option.some.injEq] at e
        subst e
        rcases hf with e | e
        · exact hneo _ (by omega) e
        · simp at e; omega
  · rw [hL, eL, leavesL_append]; simp [T.leavesL]; omega
  · rw [hN, eN, nodesL_append]; simp [T.nodesL]; omega
  · rw [← hk, drop_at hlt, h32]
    obtain ⟨m, rfl⟩ : ∃ m, n = m + 1 := ⟨n - 1, by omega⟩
    simp only [kidsA, if_true, hyes, Nat.add_sub_cancel]
  · refine ⟨hg.os.trans (hb.os.trans (ha.os.trans hB.os)), hg.tape.trans (hb.tape.trans (ha.tape.trans hB.tape)), hg.output.trans (hb.output.trans (ha.output.trans hB.output)), by have := hg.size; simp at this; omega, ?_⟩
    intro k hk' hne
    rw [hblk k (by omega) (hne0 k hk'), hblk2 k (by omega) (by simpa using hne), hB.block k hk' hne]

theorem KidRelI.start {w w1 : World} {r : Nat} {s : ByteArray} {i f L0 N0 : Nat} (hb : RB w1 r s (i + 1) L0 (N0 + 1)) (hg : w.grownBy w1 (some r)) (hs : w1.heap.size = w.heap.size) (hL : L0 ≤ 12) (hN : N0 + 1 ≤ 16) :
    KidRelI w r s i f L0 N0 (i + 1) L0 (N0 + 1) [] (.slice (some ⟨w1.heap.size, 0, none⟩) 0 0) [] (w1.alloc (.cells #[] 107)) := by
  refine ⟨?_, ?_, fun k h => by simp at h, by simp [T.wfL], by simp, by simp [T.leavesL], by simp [T.nodesL], hL, hN, ⟨_, ?_, rfl⟩, grownBy_below hg ((Below.refl _ _).alloc (Nat.le_refl _) _)⟩
  · have := hb.lt
    unfold RB at hb ⊢
    rw [Below.heap_alloc _ _ _ this]; exact hb
  · have := World.ownsRow_made (base := w.heap.size) (e := 107) (size := 1) w1 #[] 0 (by omega) (by simp [maxLen]) rfl
    exact this
  · rw [drop_len]; omega

theorem KidRelI.done {w : World} {r : Nat} {s : ByteArray} {i f L0 N0 j L N : Nat} {acc : List T} {v : Value} {xs : List Value} {wr : World}
    (h : KidRelI w r s i f L0 N0 j L N acc v xs wr) (h32 : ∀ h : j < s.size, s[j] ≠ 32) :
    kidsA (rd f) (s.data.toList.drop (i + 1)).length [] (s.data.toList.drop (i + 1)) = some (acc, s.data.toList.drop j) := by
  obtain ⟨rb, own, reps, hwf, hal, eL, eN, _, _, ⟨n, hn, hk⟩, hB⟩ := h
  rw [← hk]
  cases n with
  | zero => rfl
  | succ n =>
    by_cases hlt : j < s.size
    · rw [drop_at hlt, kidsA, if_neg (h32 hlt)]
    · rw [drop_end (by omega)]; rfl

/-- A kid that is none, or one too many for the counts: so is the node. -/
theorem KidRelI.fail {w : World} {r : Nat} {s : ByteArray} {i f L0 N0 j L N : Nat} {acc : List T} {v : Value} {xs : List Value} {wr : World} {c : UInt8}
    (h : KidRelI w r s i f L0 N0 j L N acc v xs wr) (hno : lim L N (rd f (s.data.toList.drop (j + 1))) = none) (hlt : j < s.size) (h32 : s[j] = 32) :
    lim L0 N0 (shut c (kidsA (rd f) (s.data.toList.drop (i + 1)).length [] (s.data.toList.drop (i + 1)))) = none := by
  obtain ⟨rb, own, reps, hwf, hal, eL, eN, _, _, ⟨n, hn, hk⟩, hB⟩ := h
  rw [← hk, drop_at hlt, h32]
  obtain ⟨m, rfl⟩ : ∃ m, n = m + 1 := ⟨n - 1, by omega⟩
  exact lim_kid_none eL eN hno

/-- One kid too many for a node. -/
theorem KidRelI.many {w : World} {r : Nat} {s : ByteArray} {i f L0 N0 j L N : Nat} {acc : List T} {v : Value} {xs : List Value} {wr : World} {c : UInt8} {t : T} {q : List UInt8}
    (h : KidRelI w r s i f L0 N0 j L N acc v xs wr) (hyes : rd f (s.data.toList.drop (j + 1)) = some (t, q)) (hlt : j < s.size) (h32 : s[j] = 32) (h6 : acc.length = 6) :
    shut c (kidsA (rd f) (s.data.toList.drop (i + 1)).length [] (s.data.toList.drop (i + 1))) = none := by
  obtain ⟨rb, own, reps, hwf, hal, eL, eN, _, _, ⟨n, hn, hk⟩, hB⟩ := h
  rw [← hk, drop_at hlt, h32]
  obtain ⟨m, rfl⟩ : ∃ m, n = m + 1 := ⟨n - 1, by omega⟩
  rw [kidsA, if_pos rfl, hyes]
  exact shut_many (by simp; omega)

/-- The node is read: how it lies. -/
theorem KidRelI.rep {w : World} {r : Nat} {s : ByteArray} {i f L0 N0 j L N : Nat} {acc : List T} {va : Option Addr} {vn vc : Nat} {xs : List Value} {wr w2 : World} {c : UInt8}
    (h : KidRelI w r s i f L0 N0 j L N acc (.slice va vn vc) xs wr) (hr : r < w.heap.size) (h1 : 1 ≤ acc.length) (hg : wr.grownBy w2 (some r)) :
    RepI (w2.alloc (.cells #[.string ⟨#[c]⟩, .slice va vn vc] 137)) (fun b => w.heap.size ≤ b) (.node c acc) 134 ⟨w2.heap.size, 0, none⟩ := by
  obtain ⟨rb, own, reps, hwf, hal, _, _, _, _, _, hB⟩ := h
  have own0 := own
  rcases own.2 with ⟨_, e⟩ | ⟨g, cap, cur, e, hbg, hgg, hnc, hcm, hcs, htake⟩
  · omega
  · simp only [Value.slice.injEq] at e
    obtain ⟨rfl, rfl, rfl⟩ := e
    have hkeep : Keeps (fun b => w.heap.size ≤ b) wr (w2.alloc (.cells #[.string ⟨#[c]⟩, .slice (some ⟨g, 0, none⟩) acc.length vc] 137)) := by
      intro a u ha hu
      have hab := World.block_lt_of_cell? wr a hu
      have := hg.size
      rw [World.cell?_of_block (w := wr)]
      · exact hu
      · rw [Below.heap_alloc _ _ _ (by omega), hg.block _ hab (by simp; omega)]
    have hz := hB.size
    have hz2 := hg.size
    rw [RepI]
    refine ⟨rfl, w2.heap.size, g, vc, rfl, by omega, hbg, by simp, by simp, hal, RepIL.of_get fun k hk => ?_⟩
    obtain ⟨ty, a, e1, e3⟩ := reps k hk
    have c1 := own0.cells (g := g) rfl k _ e1
    have ha : ∀ n, (⟨g, 0, none⟩ : Addr).add n = ⟨g, n, none⟩ := fun n => by unfold Addr.add; split <;> simp_all
    rw [ha] at c1
    simp only [Nat.zero_add]
    exact ⟨ty, a, hkeep _ _ hbg c1, e3.keep (hkeep.mono fun _ h => h.1) (fun b h _ => h.1) (wfL_get hwf k hk)⟩

theorem RB.alloc {w : World} {r : Nat} {s : ByteArray} {i L N : Nat} (h : RB w r s i L N) (o : Obj) : RB (w.alloc o) r s i L N := by
  have := h.lt
  unfold RB at h ⊢
  rw [Below.heap_alloc _ _ _ this]; exact h

theorem info46 : (Try.prog.info? 107).map (fun i => (i.zero, i.size, i.bytes)) = some (some .nilIface, 1, 16) := by kernel_rfl

end Go.Proofs.Ytmmfcljkcepahaa
