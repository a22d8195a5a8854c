/- Merged out of: XReadI, XReadIB. -/
import Derived.Test.YtapobhnhnldlkaaRepI
section
/- The program's reader: a node's kids, plainly. -/
namespace Go.Proofs.Ytapobhnhnldlkaa
open Go.RowKit

/-- What the program's reader answers. -/
def RePost (o : Option (T × List UInt8)) (r : Nat) (s : ByteArray) (i L N : Nat) (w : World) (e : Ending) (w' : World) : Prop :=
  w.grownBy w' (some r) ∧ ∃ i' L' N', i' ≤ s.size ∧ RB w' r s i' L' N' ∧
    ((o = none ∧ e = .returned (.tuple #[.nilIface, .bool false])) ∨
     ∃ t ty a, o = some (t, s.data.toList.drop i') ∧ t.wf ∧ i < i' ∧ L' = L + t.leaves ∧ N' = N + t.nodes ∧ L' ≤ 12 ∧ N' ≤ 16 ∧ e = .returned (.tuple #[.iface ty (.pointer (some a)), .bool true]) ∧ RepI w' (fun b => w.heap.size ≤ b) t ty a)

/-- What holds ahead of each round of the node's loop. -/
def KidRelI (w : World) (r : Nat) (s : ByteArray) (i f L0 N0 j L N : Nat) (acc : List T) (v : Value) (xs : List Value) (wr : World) : Prop :=
  RB wr r s j L N ∧ wr.ownsRow w.heap.size 73 1 v acc.length xs ∧
  (∀ k (h : k < acc.length), ∃ ty a, xs[k]? = some (.iface ty (.pointer (some a))) ∧ RepI wr (fun b => w.heap.size ≤ b ∧ v.ownBlock ≠ some b) acc[k] ty a) ∧
  T.wfL acc ∧ acc.length ≤ 6 ∧ L = L0 + T.leavesL acc ∧ N = N0 + 1 + T.nodesL acc ∧ L ≤ 12 ∧ N ≤ 16 ∧
  (∃ n, s.size - j ≤ n ∧ kidsA (rd f) n acc (s.data.toList.drop j) = kidsA (rd f) (s.data.toList.drop (i + 1)).length [] (s.data.toList.drop (i + 1))) ∧ w.grownBy wr (some r)

theorem drop_len_i (s : ByteArray) (j : Nat) : (s.data.toList.drop j).length = s.size - j := by simp

theorem KidRelI.next {w : World} {r : Nat} {s : ByteArray} {i f L0 N0 j L N j' L' N' : Nat} {acc : List T} {va : Option Addr} {vn vc : Nat} {xs : List Value} {wr wa wb wc : World} {t : T} {ty : TypeId} {a : Addr} {g cap : Nat} {X : Obj}
    (h : KidRelI w r s i f L0 N0 j L N acc (.slice va vn vc) xs wr) (hr : r < w.heap.size) (ha : wr.grownBy wa (some r)) (has : wa.heap.size = wr.heap.size) (hb : wa.grownBy wb (some r)) (hRB : RB wb r s j' L' N')
    (hrep : RepI wb (fun b => wa.heap.size ≤ b) t ty a) (htw : t.wf) (hyes : rd f (s.data.toList.drop (j + 1)) = some (t, s.data.toList.drop j')) (hL : L' = L + t.leaves) (hN : N' = N + t.nodes) (hL2 : L' ≤ 12) (hN2 : N' ≤ 16)
    (hj : j + 1 < j') (hlt : j < s.size) (h32 : s[j] = 32) (hlen : acc.length < 6)
    (hown : wc.ownsRow w.heap.size 73 1 (.slice (some ⟨g, 0, none⟩) (acc.length + 1) cap) (acc.length + 1) (xs ++ [.iface ty (.pointer (some a))]))
    (hg : (wb.alloc X).grownBy wc (Value.slice va vn vc).ownBlock) (hf : (Value.slice va vn vc).ownBlock = some g ∨ g = (wb.alloc X).heap.size) :
    KidRelI w r s i f L0 N0 j' L' N' (acc ++ [t]) (.slice (some ⟨g, 0, none⟩) (acc.length + 1) cap) (xs ++ [.iface ty (.pointer (some a))]) wc := by
  obtain ⟨rb, own, reps, hwf, hal, eL, eN, _, _, ⟨n, hn, hk⟩, hB⟩ := h
  have hown0 := own.lt
  have hxl : xs.length = acc.length * 1 := own.1
  have hsa := ha.size
  have hsb := hb.size
  have hsw := hB.size
  have hne0 : ∀ b, b < w.heap.size → (Value.slice va vn vc).ownBlock ≠ some b := fun b hb e => by have := (hown0 b e).1; omega
  have hblk : ∀ b, b < wb.heap.size → (Value.slice va vn vc).ownBlock ≠ some b → wc.heap[b]? = wb.heap[b]? := by
    intro b hb hne
    rw [hg.block b (by simp; omega) (fun e => hne e.symm), Below.heap_alloc _ _ _ hb]
  have hblk2 : ∀ b, b < wr.heap.size → b ≠ r → wb.heap[b]? = wr.heap[b]? := by
    intro b hb' hne
    rw [hb.block b (by omega) (by simpa using hne), ha.block b hb' (by simpa using hne)]
  refine ⟨?_, by rw [List.length_append]; exact hown, ?_, by rw [wfL_append]; exact ⟨hwf, by simp [T.wfL, htw]⟩, by simp; omega, ?_, ?_, hL2, hN2, ⟨n - 1, by omega, ?_⟩, ?_⟩
  · have hrl := hRB.lt
    unfold RB at hRB ⊢
    rw [hblk r hrl (hne0 r hr)]; exact hRB
  · intro k hk'
    by_cases hka : k < acc.length
    · obtain ⟨ty', a', e1, e3⟩ := reps k hka
      refine ⟨ty', a', by rw [List.getElem?_append_left (by omega)]; exact e1, ?_⟩
      rw [List.getElem_append_left hka]
      refine e3.keep (w := wr) ?_ ?_ (wfL_get hwf k hka)
      · intro q u hq hu
        have hqb := World.block_lt_of_cell? wr q hu
        rw [World.cell?_of_block (hblk q.block (by omega) hq.2), World.cell?_of_block (hblk2 q.block hqb (by have := hq.1; omega))]
        exact hu
      · intro b hb' hlt'
        refine ⟨hb'.1, fun e => ?_⟩
        simp only [Value.ownBlock, Option.some.injEq] at e
        subst e
        rcases hf with e | e
        · exact hb'.2 e
        · simp at e; omega
    · have hke : k = acc.length := by simp at hk'; omega
      subst hke
      refine ⟨ty, a, by rw [List.getElem?_append_right (by omega), hxl]; simp, ?_⟩
      rw [List.getElem_append_right (by omega)]
      simp only [Nat.sub_self, List.getElem_singleton]
      have hneo : ∀ b, wr.heap.size ≤ b → (Value.slice va vn vc).ownBlock ≠ some b := fun b hb e => by have := (hown0 b e).2; omega
      refine hrep.keep (w := wb) ?_ ?_ htw
      · intro q u hq hu
        have hqb := World.block_lt_of_cell? wb q hu
        rw [World.cell?_of_block (hblk q.block hqb (hneo _ (by omega)))]
        exact hu
      · intro b hb' hlt'
        refine ⟨by omega, fun e => ?_⟩
        simp only [Value.ownBlock, Option.some.injEq] at e
        subst e
        rcases hf with e | e
        · exact hneo _ (by omega) e
        · simp at e; omega
  · rw [hL, eL, leavesL_append]; simp [T.leavesL]; omega
  · rw [hN, eN, nodesL_append]; simp [T.nodesL]; omega
  · rw [← hk, drop_at hlt, h32]
    obtain ⟨m, rfl⟩ : ∃ m, n = m + 1 := ⟨n - 1, by omega⟩
    simp only [kidsA, if_true, hyes, Nat.add_sub_cancel]
  · refine ⟨hg.os.trans (hb.os.trans (ha.os.trans hB.os)), hg.tape.trans (hb.tape.trans (ha.tape.trans hB.tape)), hg.output.trans (hb.output.trans (ha.output.trans hB.output)), by have := hg.size; simp at this; omega, ?_⟩
    intro k hk' hne
    rw [hblk k (by omega) (hne0 k hk'), hblk2 k (by omega) (by simpa using hne), hB.block k hk' hne]

theorem KidRelI.start {w w1 : World} {r : Nat} {s : ByteArray} {i f L0 N0 : Nat} (hb : RB w1 r s (i + 1) L0 (N0 + 1)) (hg : w.grownBy w1 (some r)) (hs : w1.heap.size = w.heap.size) (hL : L0 ≤ 12) (hN : N0 + 1 ≤ 16) :
    KidRelI w r s i f L0 N0 (i + 1) L0 (N0 + 1) [] (.slice (some ⟨w1.heap.size, 0, none⟩) 0 0) [] (w1.alloc (.cells #[] 73)) := by
  refine ⟨?_, ?_, fun k h => by simp at h, by simp [T.wfL], by simp, by simp [T.leavesL], by simp [T.nodesL], hL, hN, ⟨_, ?_, rfl⟩, grownBy_below hg ((Below.refl _ _).alloc (Nat.le_refl _) _)⟩
  · have := hb.lt
    unfold RB at hb ⊢
    rw [Below.heap_alloc _ _ _ this]; exact hb
  · have := World.ownsRow_made (base := w.heap.size) (e := 73) (size := 1) w1 #[] 0 (by omega) (by simp [maxLen]) rfl
    exact this
  · rw [drop_len_i]; omega

theorem KidRelI.done {w : World} {r : Nat} {s : ByteArray} {i f L0 N0 j L N : Nat} {acc : List T} {v : Value} {xs : List Value} {wr : World}
    (h : KidRelI w r s i f L0 N0 j L N acc v xs wr) (h32 : ∀ h : j < s.size, s[j] ≠ 32) :
    kidsA (rd f) (s.data.toList.drop (i + 1)).length [] (s.data.toList.drop (i + 1)) = some (acc, s.data.toList.drop j) := by
  obtain ⟨rb, own, reps, hwf, hal, eL, eN, _, _, ⟨n, hn, hk⟩, hB⟩ := h
  rw [← hk]
  cases n with
  | zero => rfl
  | succ n =>
    by_cases hlt : j < s.size
    · rw [drop_at hlt, kidsA, if_neg (h32 hlt)]
    · rw [drop_end (by omega)]; rfl

/-- A kid that is none, or one too many for the counts: so is the node. -/
theorem KidRelI.fail {w : World} {r : Nat} {s : ByteArray} {i f L0 N0 j L N : Nat} {acc : List T} {v : Value} {xs : List Value} {wr : World} {c : UInt8}
    (h : KidRelI w r s i f L0 N0 j L N acc v xs wr) (hno : lim L N (rd f (s.data.toList.drop (j + 1))) = none) (hlt : j < s.size) (h32 : s[j] = 32) :
    lim L0 N0 (shut c (kidsA (rd f) (s.data.toList.drop (i + 1)).length [] (s.data.toList.drop (i + 1)))) = none := by
  obtain ⟨rb, own, reps, hwf, hal, eL, eN, _, _, ⟨n, hn, hk⟩, hB⟩ := h
  rw [← hk, drop_at hlt, h32]
  obtain ⟨m, rfl⟩ : ∃ m, n = m + 1 := ⟨n - 1, by omega⟩
  exact lim_kid_none eL eN hno

/-- One kid too many for a node. -/
theorem KidRelI.many {w : World} {r : Nat} {s : ByteArray} {i f L0 N0 j L N : Nat} {acc : List T} {v : Value} {xs : List Value} {wr : World} {c : UInt8} {t : T} {q : List UInt8}
    (h : KidRelI w r s i f L0 N0 j L N acc v xs wr) (hyes : rd f (s.data.toList.drop (j + 1)) = some (t, q)) (hlt : j < s.size) (h32 : s[j] = 32) (h6 : acc.length = 6) :
    shut c (kidsA (rd f) (s.data.toList.drop (i + 1)).length [] (s.data.toList.drop (i + 1))) = none := by
  obtain ⟨rb, own, reps, hwf, hal, eL, eN, _, _, ⟨n, hn, hk⟩, hB⟩ := h
  rw [← hk, drop_at hlt, h32]
  obtain ⟨m, rfl⟩ : ∃ m, n = m + 1 := ⟨n - 1, by omega⟩
  rw [kidsA, if_pos rfl, hyes]
  exact shut_many (by simp; omega)

/-- The node is read: how it lies. -/
theorem KidRelI.rep {w : World} {r : Nat} {s : ByteArray} {i f L0 N0 j L N : Nat} {acc : List T} {va : Option Addr} {vn vc : Nat} {xs : List Value} {wr w2 : World} {c : UInt8}
    (h : KidRelI w r s i f L0 N0 j L N acc (.slice va vn vc) xs wr) (hr : r < w.heap.size) (h1 : 1 ≤ acc.length) (hg : wr.grownBy w2 (some r)) :
    RepI (w2.alloc (.cells #[.string ⟨#[c]⟩, .slice va vn vc] 71)) (fun b => w.heap.size ≤ b) (.node c acc) 65 ⟨w2.heap.size, 0, none⟩ := by
  obtain ⟨rb, own, reps, hwf, hal, _, _, _, _, _, hB⟩ := h
  have own0 := own
  rcases own.2 with ⟨_, e⟩ | ⟨g, cap, cur, e, hbg, hgg, hnc, hcm, hcs, htake⟩
  · omega
  · simp only [Value.slice.injEq] at e
    obtain ⟨rfl, rfl, rfl⟩ := e
    have hkeep : Keeps (fun b => w.heap.size ≤ b) wr (w2.alloc (.cells #[.string ⟨#[c]⟩, .slice (some ⟨g, 0, none⟩) acc.length vc] 71)) := by
      intro a u ha hu
      have hab := World.block_lt_of_cell? wr a hu
      have := hg.size
      rw [World.cell?_of_block (w := wr)]
      · exact hu
      · rw [Below.heap_alloc _ _ _ (by omega), hg.block _ hab (by simp; omega)]
    have hz := hB.size
    have hz2 := hg.size
    rw [RepI]
    refine ⟨rfl, w2.heap.size, g, vc, rfl, by omega, hbg, by simp, by simp, hal, RepIL.of_get fun k hk => ?_⟩
    obtain ⟨ty, a, e1, e3⟩ := reps k hk
    have c1 := own0.cells (g := g) rfl k _ e1
    have ha : ∀ n, (⟨g, 0, none⟩ : Addr).add n = ⟨g, n, none⟩ := fun n => by unfold Addr.add; split <;> simp_all
    rw [ha] at c1
    simp only [Nat.zero_add]
    exact ⟨ty, a, hkeep _ _ hbg c1, e3.keep (hkeep.mono fun _ h => h.1) (fun b h _ => h.1) (wfL_get hwf k hk)⟩

theorem RB.alloc {w : World} {r : Nat} {s : ByteArray} {i L N : Nat} (h : RB w r s i L N) (o : Obj) : RB (w.alloc o) r s i L N := by
  have := h.lt
  unfold RB at h ⊢
  rw [Below.heap_alloc _ _ _ this]; exact h

theorem info46 : (Try.prog.info? 73).map (fun i => (i.zero, i.size, i.bytes)) = some (some .nilIface, 1, 16) := by kernel_rfl

end Go.Proofs.Ytapobhnhnldlkaa
end
section
/- The program's reader walked: '(*treeReader).node' and '(*treeReader).tree' give what 'rd' gives, counted. -/
namespace Go.Proofs.Ytapobhnhnldlkaa
open Go.RowKit

/-- The reader of a tree, as a contract at one fuel. -/
def TreeSaid (f : Nat) : Prop := ∀ (r : Nat) (s : ByteArray) (i L N : Nat) (w : World), s.size ≤ 140737488351232 → i ≤ s.size → L ≤ 12 → N ≤ 16 → 17 ≤ N + f → RB w r s i L N →
  Calls Try.prog 81 #[.pointer (some ⟨r, 0, none⟩)] w (RePost (lim L N (rd f (s.data.toList.drop i))) r s i L N w)

theorem re_none {o : Option (T × List UInt8)} {r : Nat} {s : ByteArray} {i L N i' L' N' : Nat} {w w' : World} (hg : w.grownBy w' (some r)) (hi : i' ≤ s.size) (hb : RB w' r s i' L' N') (ho : o = none) :
    RePost o r s i L N w (.returned (.tuple #[.nilIface, .bool false])) w' := ⟨hg, i', L', N', hi, hb, .inl ⟨ho, rfl⟩⟩

set_option maxRecDepth 100000 in
set_option maxHeartbeats 1000000 in
theorem node_noletter (r : Nat) (s : ByteArray) (i L N f : Nat) (w : World) (hs : s.size ≤ 140737488351232) (hi : i ≤ s.size) (hb : RB w r s i L (N + 1)) (hc : ∀ h : i < s.size, (s[i].toNat : Int) < 97 ∨ 104 < (s[i].toNat : Int)) :
    Calls Try.prog 84 #[.pointer (some ⟨r, 0, none⟩)] w (RePost (lim L N (rd (f + 1) (40 :: s.data.toList.drop i))) r s i L N w) := by
  have ho : lim L N (rd (f + 1) (40 :: s.data.toList.drop i)) = none := by
    by_cases h : i < s.size
    · have := hc h
      rw [drop_at h, rd_letter (by omega), lim_none]
    · rw [drop_end (by omega), rd_short, lim_none]
  have hlet : Calls Try.prog 85 #[.pointer (some ⟨r, 0, none⟩)] w (LetNo r s i L (N + 1) w) := by
    by_cases h : i < s.size
    · rcases hc h with h1 | h1
      · exact letter_low r s i L (N + 1) w hb hs h h1
      · exact letter_high r s i L (N + 1) w hb hs h h1
    · exact letter_end r s i L (N + 1) w hb hs (by omega)
  have HO := Lib.hid ho
  have HL := Lib.hid hlet
  clear ho hlet hc
  go_enter Try.func84, Try.ntmps84
  go_wp2_with fail
  refine HL.out.mono ?_
  rintro e w1 ⟨rfl, hb1, hg1, hs1⟩
  go_wp2_with fail
  go_ret2
  exact re_none hg1 hi hb1 HO.out

set_option maxRecDepth 100000 in
set_option maxHeartbeats 1000000 in
theorem node_walk (r : Nat) (s : ByteArray) (i L N f : Nat) (w : World) (hs : s.size ≤ 140737488351232) (hi : i < s.size) (hL : L ≤ 12) (hN : N + 1 ≤ 16) (hf : 17 ≤ N + 1 + f) (hb : RB w r s i L (N + 1)) (hc : 97 ≤ (s[i].toNat : Int)) (hc' : (s[i].toNat : Int) ≤ 104) (ih : TreeSaid f) :
    Calls Try.prog 84 #[.pointer (some ⟨r, 0, none⟩)] w (RePost (lim L N (rd (f + 1) (40 :: s.data.toList.drop i))) r s i L N w) := by
  obtain ⟨c, hcc⟩ : ∃ c, c = s[i] := ⟨_, rfl⟩
  have ho : rd (f + 1) (40 :: s.data.toList.drop i) = shut c (kidsA (rd f) (s.data.toList.drop (i + 1)).length [] (s.data.toList.drop (i + 1))) := by
    rw [drop_at hi, ← hcc, rd_node (by rw [hcc]; omega) (by rw [hcc]; omega)]
  have HL := Lib.hid (letter_yes r s i L (N + 1) w hb hs hi hc hc')
  rw [← hcc] at HL
  have HO := Lib.hid ho
  have HC : Hid (97 ≤ c.toNat ∧ c.toNat ≤ 104) := Lib.hid (by rw [hcc]; omega)
  have hr0 := hb.lt
  clear ho hc hc' hcc
  go_enter Try.func84, Try.ntmps84
  go_wp2_with fail
  refine HL.out.mono ?_
  rintro e w1 ⟨rfl, hb1, hg1, hs1⟩
  have hz1 := hs1
  have HS1 := Lib.hid hs1
  clear hs1 hz1
  go_wp2_with fail
  go_loopg [6] (s.size - (i + 1)) (fun k v wr => ∃ (j L1 N1 : Nat) (acc : List T) (va : Option Addr) (vn vc : Nat) (xs : List Value), v = .slice va vn vc ∧ j ≤ s.size ∧ k = s.size - j ∧ KidRelI w r s i f L N j L1 N1 acc (.slice va vn vc) xs wr)
  case atStart => exact ⟨i + 1, L, N + 1, [], _, _, _, [], rfl, hi, rfl, KidRelI.start hb1 hg1 HS1.out hL hN⟩
  case round =>
    obtain ⟨j, L1, N1, acc, va, vn, vc, xs, rfl, hj, rfl, hrel⟩ := hrel
    have hvn : vn = acc.length := by obtain ⟨a, m, c', e, e'⟩ := owns_slice hrel.2.1; simp at e; omega
    subst hvn
    have HK := Lib.hid hrel
    have rb := hrel.1
    have hal : acc.length ≤ 6 := hrel.2.2.2.2.1
    have hL1 : L1 ≤ 12 := hrel.2.2.2.2.2.2.2.1
    have hN1 : N1 ≤ 16 := hrel.2.2.2.2.2.2.2.2.1
    have hNge : N + 1 ≤ N1 := by have := hrel.2.2.2.2.2.2.1; omega
    have hgB := hrel.2.2.2.2.2.2.2.2.2.2
    clear hrel
    by_cases hlt : j < s.size
    · by_cases h32 : s[j] = 32
      · have HT := Lib.hid (take_yes r s j L1 N1 32 32 wr rb hs hlt rfl h32)
        have H32 := Lib.hid h32
        clear h32
        go_wp2_with fail
        refine HT.out.mono ?_
        rintro e wa ⟨rfl, rba, hga, hsa⟩
        have HSA := Lib.hid hsa
        clear hsa
        go_wp2_with fail
        refine (ih r s (j + 1) L1 N1 wa hs (by omega) hL1 hN1 (by omega) rba).mono ?_
        rintro e wb ⟨hgb, i', L', N', hi', rbb, hres⟩
        rcases hres with ⟨hno, rfl⟩ | ⟨t, ty, a, hyes, htw, hjt, hL', hN', hL2, hN2, rfl, hrep⟩
        · have HN := Lib.hid hno
          clear hno
          go_wp2_with fail
          go_ret2
          exact re_none (grownBy_trans hgB (grownBy_trans hga hgb)) hi' rbb (by rw [HO.out]; exact HK.out.fail HN.out hlt H32.out)
        · have hyes2 : rd f (s.data.toList.drop (j + 1)) = some (t, s.data.toList.drop i') := by
            cases hq : rd f (s.data.toList.drop (j + 1)) with
            | none => rw [hq] at hyes; cases hyes
            | some p =>
              obtain ⟨t', q⟩ := p
              rw [hq, lim] at hyes
              split at hyes
              · exact hyes
              · cases hyes
          have HY := Lib.hid hyes2
          have HLL := Lib.hid hL'
          have HNN := Lib.hid hN'
          clear hyes hyes2 hL' hN'
          by_cases h6 : acc.length = 6
          · have h6' : ((acc.length : Int) == 6) = true := by simp; omega
            have H6 := Lib.hid h6
            clear h6
            go_wp2_with fail
            go_ret2
            exact re_none (grownBy_trans hgB (grownBy_trans hga hgb)) hi' rbb (by rw [HO.out, HK.out.many HY.out hlt H32.out H6.out]; rfl)
          · have h6' : ((acc.length : Int) == 6) = false := by simp; omega
            have h66 : acc.length < 6 := by omega
            obtain ⟨i0, hi0, hz, hzs, hzb⟩ := info_parts info46
            have own1 := Lib.hid ((owns_kept_some (owns_kept_some HK.out.2.1 hga hr0) hgb hr0).alloc (.cells #[.iface ty (.pointer (some a))] 73 (0, 0)))
            have hsz : w.heap.size ≤ wb.heap.size := by have h1 := hgB.size; have h2 := hga.size; have h3 := hgb.size; omega
            clear h6
            go_wp2_with (at_builtin; refine wpList_append_new _ rfl _ _ 69 rfl w.heap.size 73 i0 .nilIface 1 16 Try.underlying69 hi0 hz hzs hzb rfl (by decide) _ _ _ rfl own1.out ⟨wb.heap.size, 0, none⟩ 1 1 [.iface ty (.pointer (some a))] (by decide) rfl ?c1 ?c2 ?c3 ?c4 ?c5 ?c6 ?_)
            case c1 => rfl
            case c2 => exact cells_one rfl _
            case c3 => simp [Value.oneCell']
            case c4 => unfold maxLen; omega
            case c5 => omega
            case c6 => simp; omega
            intro g cap wc hown' hg hf
            have NX := Lib.hid (HK.out.next hr0 hga HSA.out hgb rbb hrep htw HY.out HLL.out HNN.out hL2 hN2 hjt hlt H32.out h66 hown' hg (by simpa using hf))
            clear hown' hg hf
            go_wp2_with fail
            go_roundg (s.size - i')
            case measure => omega
            case rel => exact ⟨i', L', N', acc ++ [t], some ⟨g, 0, none⟩, acc.length + 1, cap, _, rfl, hi', rfl, NX.out⟩
      · have HX : Hid (Calls Try.prog 83 #[.pointer (some ⟨r, 0, none⟩), .int .u8 32] wr (TakeNo r s j L1 N1 wr)) := Lib.hid (take_other r s j L1 N1 32 32 wr rb hs hlt rfl h32)
        have HD := Lib.hid (HK.out.done (fun _ => h32))
        by_cases h0 : acc.length = 0
        · have h0' : ((acc.length : Int) == 0) = true := by rw [h0]; rfl
          have hno : lim L N (rd (f + 1) (40 :: s.data.toList.drop i)) = none := by
            rw [HO.out, HD.out]
            cases hd : s.data.toList.drop j with
            | nil => rfl
            | cons x q => rw [shut, if_neg (fun h => by have := h.2.1; omega)]; rfl
          have HN := Lib.hid hno
          clear hno h0 h32
          go_wp2_with fail
          refine HX.out.mono ?_
          rintro e wa ⟨rfl, rba, hga, hsa⟩
          have HSA := Lib.hid hsa
          clear hsa
          go_wp2_with fail
          go_ret2
          exact re_none (grownBy_trans hgB hga) hj rba HN.out
        · have h0' : ((acc.length : Int) == 0) = false := beq_eq_false_iff_ne.2 (by omega)
          by_cases h41 : s[j] = 41
          · have hyes : lim L N (rd (f + 1) (40 :: s.data.toList.drop i)) = some (.node c acc, s.data.toList.drop (j + 1)) := by
              rw [HO.out, HD.out, drop_at hlt, shut, if_pos ⟨h41, by omega, hal⟩, lim, if_pos]
              have h1 := HK.out.2.2.2.2.2.1
              have h2 := HK.out.2.2.2.2.2.2.1
              simp only [T.leaves, T.nodes]
              omega
            have HY := Lib.hid hyes
            have H41 := Lib.hid h41
            have H0 := Lib.hid h0
            clear hyes h41 h0 h32
            go_wp2_with fail
            refine HX.out.mono ?_
            rintro e wa ⟨rfl, rba, hga, hsa⟩
            have HSA := Lib.hid hsa
            clear hsa
            go_wp2_with fail
            refine (take_yes r s j L1 N1 41 41 wa rba hs hlt rfl H41.out).mono ?_
            rintro e wb ⟨rfl, rbb, hgb, hsb⟩
            have HSB := Lib.hid hsb
            clear hsb
            go_wp2_with fail
            go_ret2
            have h1 := HK.out.2.2.2.2.2.1
            have h2 := HK.out.2.2.2.2.2.2.1
            have hji : i < j + 1 := by
              have hsuf := HD.out
              have hl := kidsA_some (rd_some f) _ _ _ _ _ hsuf
              obtain ⟨more, _, _, e3⟩ := hl
              have := congrArg List.length e3
              simp only [List.length_append, drop_len_i] at this
              omega
            exact ⟨grownBy_below (grownBy_trans hgB (grownBy_trans hga hgb)) ((Below.refl _ _).alloc (Nat.le_refl _) _), j + 1, L1, N1, by omega, rbb.alloc _,
              .inr ⟨_, _, _, HY.out, by rw [T.wf]; exact ⟨HC.out.1, HC.out.2, by have := H0.out; omega, hal, HK.out.2.2.2.1⟩, hji, by rw [T.leaves]; exact h1, by rw [T.nodes]; omega, hL1, hN1, rfl, HK.out.rep hr0 (by have := H0.out; omega) (grownBy_trans hga hgb)⟩⟩
          · have hno : lim L N (rd (f + 1) (40 :: s.data.toList.drop i)) = none := by
              rw [HO.out, HD.out, drop_at hlt, shut, if_neg (fun h => h41 h.1)]; rfl
            have HN := Lib.hid hno
            have H41 := Lib.hid h41
            clear hno h41 h0 h32
            go_wp2_with fail
            refine HX.out.mono ?_
            rintro e wa ⟨rfl, rba, hga, hsa⟩
            have HSA := Lib.hid hsa
            clear hsa
            go_wp2_with fail
            refine (take_other r s j L1 N1 41 41 wa rba hs hlt rfl H41.out).mono ?_
            rintro e wb ⟨rfl, rbb, hgb, hsb⟩
            have HSB := Lib.hid hsb
            clear hsb
            go_wp2_with fail
            go_ret2
            exact re_none (grownBy_trans hgB (grownBy_trans hga hgb)) hj rbb HN.out
    · have HX : Hid (Calls Try.prog 83 #[.pointer (some ⟨r, 0, none⟩), .int .u8 32] wr (TakeNo r s j L1 N1 wr)) := Lib.hid (take_end r s j L1 N1 32 wr rb hs (by omega))
      have HD := Lib.hid (HK.out.done (fun h => absurd h hlt))
      by_cases h0 : acc.length = 0
      · have h0' : ((acc.length : Int) == 0) = true := by rw [h0]; rfl
        have hno : lim L N (rd (f + 1) (40 :: s.data.toList.drop i)) = none := by
          rw [HO.out, HD.out]
          cases hd : s.data.toList.drop j with
          | nil => rfl
          | cons x q => rw [shut, if_neg (fun h => by have := h.2.1; omega)]; rfl
        have HN := Lib.hid hno
        clear hno h0
        go_wp2_with fail
        refine HX.out.mono ?_
        rintro e wa ⟨rfl, rba, hga, hsa⟩
        have HSA := Lib.hid hsa
        clear hsa
        go_wp2_with fail
        go_ret2
        exact re_none (grownBy_trans hgB hga) hj rba HN.out
      · have h0' : ((acc.length : Int) == 0) = false := beq_eq_false_iff_ne.2 (by omega)
        have hno : lim L N (rd (f + 1) (40 :: s.data.toList.drop i)) = none := by
          rw [HO.out, HD.out, drop_end (by omega)]; rfl
        have HN := Lib.hid hno
        clear hno h0
        go_wp2_with fail
        refine HX.out.mono ?_
        rintro e wa ⟨rfl, rba, hga, hsa⟩
        have HSA := Lib.hid hsa
        clear hsa
        go_wp2_with fail
        refine (take_end r s j L1 N1 41 wa rba hs (by omega)).mono ?_
        rintro e wb ⟨rfl, rbb, hgb, hsb⟩
        have HSB := Lib.hid hsb
        clear hsb
        go_wp2_with fail
        go_ret2
        exact re_none (grownBy_trans hgB (grownBy_trans hga hgb)) hj rbb HN.out

end Go.Proofs.Ytapobhnhnldlkaa
end
