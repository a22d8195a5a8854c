/- Merged out of: XReadB, XSpecA, XKReadIB, XKReadL. -/
import Derived.Test.YtoeebipahifpcaaGreatKRead
import Derived.RegionTactic
import Derived.Deep.RegionWith
import Derived.Deep.RegionHeld3
import Derived.Deep.QuietTactic
import Derived.BigQuiet
import Derived.Test.YtoeebipahifpcaaGreatRepI
import Derived.ProofKit
section
/- The model's reader at a node: its loop over the kids. -/
namespace Go.Proofs.YtoeebipahifpcaaGreat
open Go.RowKit

/-- What holds ahead of each round of 'l1Read''s loop. -/
def KidRel (w : World) (c : UInt8) (s : ByteArray) (i f j : Nat) (acc : List T) (v : Value) (xs : List Value) (wr : World) : Prop :=
  wr.heap[w.heap.size]? = some (.cells #[.string ⟨#[]⟩, .slice none 0 0] 66 (0, 0)) ∧
  wr.heap[w.heap.size + 1]? = some (.cells #[.string ⟨#[c]⟩, v] 66 (0, 0)) ∧
  wr.ownsRow (w.heap.size + 2) 66 2 v acc.length xs ∧
  (∀ k (h : k < acc.length), ∃ l sl, xs[k * 2]? = some l ∧ xs[k * 2 + 1]? = some sl ∧ RepS wr (fun b => w.heap.size + 2 ≤ b ∧ v.ownBlock ≠ some b) acc[k] l sl) ∧
  T.wfL acc ∧ acc.length ≤ j ∧
  (∃ n, s.size - j ≤ n ∧ kidsA (rd f) n acc (s.data.toList.drop j) = kidsA (rd f) (s.data.toList.drop (i + 2)).length [] (s.data.toList.drop (i + 2))) ∧
  Below w.heap.size w wr

theorem drop_len (s : ByteArray) (j : Nat) : (s.data.toList.drop j).length = s.size - j := by simp

/-- A round that goes on: one kid more. -/
theorem KidRel.next {w : World} {c : UInt8} {s : ByteArray} {i f j j' : Nat} {acc : List T} {va : Option Addr} {vn vc : Nat} {xs : List Value} {wr w1 w2 : World} {t : T} {lb : ByteArray} {sa : Option Addr} {sn sc g cap : Nat} {X Y : Obj}
    (h : KidRel w c s i f j acc (.slice va vn vc) xs wr) (hb1 : Below wr.heap.size wr w1) (hrep : RepS w1 (fun b => wr.heap.size ≤ b) t (.string lb) (.slice sa sn sc))
    (hyes : rd f (s.data.toList.drop (j + 1)) = some (t, s.data.toList.drop j')) (hj : j + 1 < j') (hlt : j < s.size) (h32 : s[j] = 32)
    (hown : w2.ownsRow (w.heap.size + 2) 66 2 (.slice (some ⟨g, 0, none⟩) (acc.length + 1) cap) (acc.length + 1) (xs ++ [.string lb, .slice sa sn sc]))
    (hg : ((w1.alloc X).alloc Y).grownBy w2 (Value.slice va vn vc).ownBlock) (hf : (Value.slice va vn vc).ownBlock = some g ∨ g = ((w1.alloc X).alloc Y).heap.size) :
    KidRel w c s i f j' (acc ++ [t]) (.slice (some ⟨g, 0, none⟩) (acc.length + 1) cap) (xs ++ [.string lb, .slice sa sn sc]) (w2.setCell ⟨w.heap.size + 1, 1, none⟩ (.slice (some ⟨g, 0, none⟩) (acc.length + 1) cap)) := by
  obtain ⟨b0, b1, own, reps, hwf, hal, ⟨n, hn, hk⟩, hB⟩ := h
  have hl0 := (Array.getElem?_eq_some_iff.1 b0).1
  have hl1 := (Array.getElem?_eq_some_iff.1 b1).1
  have hsz := hb1.size
  have hown0 := own.lt
  have htw : t.wf := (rd_some _ _ _ _ hyes).1
  have hxl : xs.length = acc.length * 2 := own.1
  -- a block of before that isn't the row's reads as before
  have hblk : ∀ b, b < w1.heap.size → (Value.slice va vn vc).ownBlock ≠ some b → b ≠ w.heap.size + 1 → (w2.setCell ⟨w.heap.size + 1, 1, none⟩ (.slice (some ⟨g, 0, none⟩) (acc.length + 1) cap)).heap[b]? = w1.heap[b]? := by
    intro b hb hne hn1
    rw [Below.heap_setCell _ _ _ _ (by simpa using hn1), hg.block b (by simp; omega) (fun e => hne e.symm), Below.heap_alloc _ _ _ (by simp; omega), Below.heap_alloc _ _ _ hb]
  have hne0 : ∀ b, b < w.heap.size + 2 → (Value.slice va vn vc).ownBlock ≠ some b := fun b hb e => by have := (hown0 b e).1; omega
  refine ⟨?_, ?_, ?_, ?_, ?_, ?_, ?_, ?_⟩
  · rw [hblk _ (by omega) (hne0 _ (by omega)) (by omega), hb1.block _ hl0, b0]
  · have : w2.heap[w.heap.size + 1]? = some (.cells #[.string ⟨#[c]⟩, .slice va vn vc] 66 (0, 0)) := by
      rw [hg.block _ (by simp; omega) (fun e => hne0 _ (by omega) e.symm), Below.heap_alloc _ _ _ (by simp; omega), Below.heap_alloc _ _ _ (by omega), hb1.block _ hl1, b1]
    rw [heap_setCell_same this]; rfl
  · rw [List.length_append]
    exact ownsRow_setCell_below hown (by simp) _
  · intro k hk'
    have hp : ∀ b, w.heap.size + 2 ≤ b ∧ (Value.slice va vn vc).ownBlock ≠ some b → b < wr.heap.size → w.heap.size + 2 ≤ b ∧ (Value.slice (some ⟨g, 0, none⟩) (acc.length + 1) cap).ownBlock ≠ some b := by
      intro b hb hlt
      refine ⟨hb.1, fun e => ?_⟩
      simp only [Value.ownBlock, Option.some.injEq] at e
      subst e
      rcases hf with e | e
      · exact hb.2 e
      · simp at e; omega
    by_cases hka : k < acc.length
    · obtain ⟨l, sl, e1, e2, e3⟩ := reps k hka
      refine ⟨l, sl, by rw [List.getElem?_append_left (by omega)]; exact e1, by rw [List.getElem?_append_left (by omega)]; exact e2, ?_⟩
      rw [List.getElem_append_left hka]
      refine e3.keep (w := wr) ?_ hp (wfL_get hwf k hka)
      intro a u ha hu
      have hab := World.block_lt_of_cell? wr a hu
      rw [World.cell?_of_block (hblk a.block (by omega) ha.2 (by have := ha.1; omega)), World.cell?_of_block (hb1.block a.block hab)]
      exact hu
    · have hke : k = acc.length := by simp at hk'; omega
      subst hke
      refine ⟨.string lb, .slice sa sn sc, by rw [List.getElem?_append_right (by omega), hxl]; simp, by rw [List.getElem?_append_right (by omega), hxl]; simp, ?_⟩
      rw [List.getElem_append_right (by omega)]
      simp only [Nat.sub_self, List.getElem_singleton]
      have hneo : ∀ b, wr.heap.size ≤ b → (Value.slice va vn vc).ownBlock ≠ some b := fun b hb e => by have := (hown0 b e).2; omega
      refine hrep.keep (w := w1) ?_ ?_ htw
      · intro a u ha hu
        have hab := World.block_lt_of_cell? w1 a hu
        rw [World.cell?_of_block (hblk a.block hab (hneo _ ha) (by omega))]
        exact hu
      · intro b hb hlt
        refine ⟨by omega, fun e => ?_⟩
        simp only [Value.ownBlock, Option.some.injEq] at e
        subst e
        rcases hf with e | e
        · exact hneo _ hb e
        · simp at e; omega
  · rw [wfL_append]; exact ⟨hwf, by simp [T.wfL, htw]⟩
  · simp; omega
  · refine ⟨n - 1, by omega, ?_⟩
    rw [← hk, drop_at hlt, h32]
    obtain ⟨m, rfl⟩ : ∃ m, n = m + 1 := ⟨n - 1, by omega⟩
    simp only [kidsA, if_true, hyes, Nat.add_sub_cancel]
  · refine (((hB.trans (hb1.mono (by omega))).alloc (by omega) X).alloc (by simp; omega) Y |>.grown hg (by simp; omega) ?_).setCell (by simp) _
    intro k e
    have := (hown0 k e).1; omega

theorem KidRel.fail {w : World} {c : UInt8} {s : ByteArray} {i f j : Nat} {acc : List T} {v : Value} {xs : List Value} {wr : World}
    (h : KidRel w c s i f j acc v xs wr) (hno : rd f (s.data.toList.drop (j + 1)) = none) (hlt : j < s.size) (h32 : s[j] = 32) :
    shut c (kidsA (rd f) (s.data.toList.drop (i + 2)).length [] (s.data.toList.drop (i + 2))) = none := by
  obtain ⟨b0, b1, own, reps, hwf, hal, ⟨n, hn, hk⟩, hB⟩ := h
  rw [← hk, drop_at hlt, h32]
  obtain ⟨m, rfl⟩ : ∃ m, n = m + 1 := ⟨n - 1, by omega⟩
  simp only [kidsA, if_true, hno, shut]

theorem KidRel.start (w : World) (c : UInt8) (s : ByteArray) (i f : Nat) (_hi : i + 1 < s.size) (_hs : s.size ≤ 200) :
    KidRel w c s i f (i + 2) [] (.slice none 0 0) [] ((w.alloc (.cells #[.string ⟨#[]⟩, .slice none 0 0] 66)).alloc (.cells #[.string ⟨#[c]⟩, .slice none 0 0] 66)) := by
  refine ⟨?_, ?_, World.ownsRow_nil _ _ _ _, fun k h => by simp at h, by simp [T.wfL], by simp, ⟨_, ?_, rfl⟩, ((Below.refl _ _).alloc (Nat.le_refl _) _).alloc (by simp) _⟩
  · rw [Below.heap_alloc _ _ _ (by simp)]; exact heap_alloc_new w _
  · have := heap_alloc_new (w.alloc (.cells #[.string ⟨#[]⟩, .slice none 0 0] 66)) (.cells #[.string ⟨#[c]⟩, .slice none 0 0] 66)
    simpa using this
  · rw [drop_len]; omega

theorem KidRel.done {w : World} {c : UInt8} {s : ByteArray} {i f j : Nat} {acc : List T} {v : Value} {xs : List Value} {wr : World}
    (h : KidRel w c s i f j acc v xs wr) (h32 : ∀ h : j < s.size, s[j] ≠ 32) :
    kidsA (rd f) (s.data.toList.drop (i + 2)).length [] (s.data.toList.drop (i + 2)) = some (acc, s.data.toList.drop j) := by
  obtain ⟨b0, b1, own, reps, hwf, hal, ⟨n, hn, hk⟩, hB⟩ := h
  rw [← hk]
  cases n with
  | zero => rfl
  | succ n =>
    by_cases hlt : j < s.size
    · rw [drop_at hlt, kidsA, if_neg (h32 hlt)]
    · rw [drop_end (by omega)]; rfl

/-- The node is read: how it lies. -/
theorem KidRel.rep {w : World} {c : UInt8} {s : ByteArray} {i f j : Nat} {acc : List T} {va : Option Addr} {vn vc : Nat} {xs : List Value} {wr : World}
    (h : KidRel w c s i f j acc (.slice va vn vc) xs wr) (h1 : 1 ≤ acc.length) (h6 : acc.length ≤ 6) :
    RepS ((wr.setCell ⟨w.heap.size, 0, none⟩ (.string ⟨#[c]⟩)).setCell ⟨w.heap.size, 1, none⟩ (.slice va vn vc)) (fun b => w.heap.size ≤ b) (.node c acc) (.string ⟨#[c]⟩) (.slice va vn vc) := by
  obtain ⟨b0, b1, own, reps, hwf, hal, _, hB⟩ := h
  have own0 := own
  rcases own.2 with ⟨_, e⟩ | ⟨g, cap, cur, e, hbg, hgg, hnc, hcm, hcs, htake⟩
  · omega
  · simp only [Value.slice.injEq] at e
    obtain ⟨rfl, rfl, rfl⟩ := e
    have hkeep : Keeps (fun b => w.heap.size + 2 ≤ b) wr ((wr.setCell ⟨w.heap.size, 0, none⟩ (.string ⟨#[c]⟩)).setCell ⟨w.heap.size, 1, none⟩ (.slice (some ⟨g, 0, none⟩) acc.length vc)) := by
      intro a u ha hu
      rw [World.cell?_of_block (w := wr)]
      · exact hu
      · rw [Below.heap_setCell _ _ _ _ (by simp; omega), Below.heap_setCell _ _ _ _ (by simp; omega)]
    rw [RepS]
    refine ⟨rfl, g, vc, rfl, by omega, ⟨h6, hnc⟩, RepSL.of_get fun k hk => ?_⟩
    obtain ⟨l, sl, e1, e2, e3⟩ := reps k hk
    have c1 := own0.cells (g := g) rfl (k * 2) l e1
    have c2 := own0.cells (g := g) rfl (k * 2 + 1) sl e2
    have ha : ∀ n, (⟨g, 0, none⟩ : Addr).add n = ⟨g, n, none⟩ := fun n => by unfold Addr.add; split <;> simp_all
    rw [ha] at c1 c2
    simp only [Nat.zero_add]
    exact ⟨l, sl, hkeep _ _ hbg c1, hkeep _ _ hbg c2, e3.keep (hkeep.mono fun _ h => h.1) (fun b h _ => by have := h.1; omega) (wfL_get hwf k hk)⟩

theorem info42 : (Tryz.prog.info? 66).map (fun i => (i.zero, i.size, i.bytes)) = some (some (.agg #[.string ⟨#[]⟩, .slice none 0 0]), 2, 40) := by kernel_rfl

set_option maxRecDepth 100000 in
set_option maxHeartbeats 1000000 in
theorem l1Read_node (s : ByteArray) (i d f : Nat) (w : World) (hd : d + f = 16) (hi : i + 1 < s.size) (hs : s.size ≤ 200) (hx : s[i] = 40) (hc : 97 ≤ (s[i + 1].toNat : Int)) (hc' : (s[i + 1].toNat : Int) ≤ 104)
    (ih : ∀ (i : Nat) (k dd : Int) (w : World), k = i → dd = d + 1 → i ≤ s.size → Calls Tryz.prog 83 #[.string s, .int .i64 k, .int .i64 dd] w (RdPost s i f w)) :
    Calls Tryz.prog 83 #[.string s, .int .i64 i, .int .i64 d] w (RdPost s i (f + 1) w) := by
  have hr : rd (f + 1) (s.data.toList.drop i) = shut s[i + 1] (kidsA (rd f) (s.data.toList.drop (i + 2)).length [] (s.data.toList.drop (i + 2))) := by
    rw [drop_at (by omega), drop_at hi, hx, rd_node (by omega) (by omega)]
  have H := Lib.hid hr
  clear hr
  have he := extract_one hi
  obtain ⟨c, hcc⟩ : ∃ c, c = s[i + 1] := ⟨_, rfl⟩
  rw [← hcc] at he H
  have hc1 : 97 ≤ c.toNat ∧ c.toNat ≤ 104 := by rw [hcc]; omega
  have HC := Lib.hid hcc
  have HE := Lib.hid he
  clear hcc he
  go_enter Tryz.func83, Tryz.ntmps83
  go_wp2_with fail
  go_loopw [1] (fun i1 wr => ∃ (j : Nat) (acc : List T) (va : Option Addr) (vn vc : Nat) (xs : List Value), i1 = .int .i64 j ∧ i + 2 ≤ j ∧ j ≤ s.size ∧ KidRel w c s i f j acc (.slice va vn vc) xs wr) (fun i1 _ => s.size - (intOf i1).toNat)
  case atStart =>
    refine ⟨i + 2, [], none, 0, 0, [], by go_num, by omega, by omega, ?_⟩
    rw [HE.out]
    exact KidRel.start w c s i f hi hs
  case round =>
    obtain ⟨j, acc, va, vn, vc, xs, rfl, hj1, hj2, hrel⟩ := hrel
    by_cases hlt : j < s.size
    · by_cases h32 : s[j] = 32
      · have HK := Lib.hid hrel
        clear hrel
        have HO := Lib.hid HK.out.1; have HO1 := Lib.hid HK.out.2.1; have HO2 := Lib.hid HK.out.2.2.1
        have hal : acc.length ≤ j := HK.out.2.2.2.2.2.1
        have hB := HK.out.2.2.2.2.2.2.2
        have IH := Lib.hid (ih (j + 1))
        clear ih
        go_wp2_with fail
        refine (IH.out _ _ _ rfl (by omega) (by omega)).mono ?_
        rintro e w1 ⟨hb1, lb, sa, sn, sc, k, rfl, hres⟩
        have hsz := hb1.size
        have hlt0 := (Array.getElem?_eq_some_iff.1 HO.out).1
        have hlt1 := (Array.getElem?_eq_some_iff.1 HO1.out).1
        have B0 := Lib.hid ((hb1.block _ hlt0).trans HO.out)
        have B1 := Lib.hid ((hb1.block _ hlt1).trans HO1.out)
        obtain ⟨c00, c01, f00, f01⟩ := two_cells B0.out
        obtain ⟨c10, c11, f10, f11⟩ := two_cells B1.out
        have hz0 : w.heap.size < w1.heap.size := by omega
        have hz1 : w.heap.size + 1 < w1.heap.size := by omega
        rcases hres with ⟨hno, rfl⟩ | ⟨t, j', hyes, hj3, hj4, rfl, hrep⟩
        · have HN := Lib.hid hno
          clear hno
          go_wp2_with fail
          refine bodyPost_ret (v := .tuple #[.agg #[.string ⟨#[c]⟩, .slice va vn vc], .int .i64 (-1)]) (by simp [results, Tryz.results83, go_sem, c00, c01, hz0]) rfl ?_
          have HF := HK.out.fail HN.out hlt h32
          refine rd_post_none (((hB.trans (hb1.mono (by omega))).setCell (by simp) _ |>.setCell (by simp) _).alloc (by simp; omega) _) (by rw [H.out, HF])
        · have HN := Lib.hid hyes
          clear hyes
          obtain ⟨i0, hi0, hz, hzs, hzb⟩ := info_parts info42
          have own1 := Lib.hid (((owns_below HO2.out hb1).alloc (.cells #[.string lb, .slice sa sn sc] 66 (0, 0))).alloc (.cells #[.string lb, .slice sa sn sc] 66 (0, 0)))
          have hown0 := Lib.hid HO2.out.lt
          go_wp2_with (at_builtin; refine wpList_append_new _ rfl _ _ 44 rfl (w.heap.size + 2) 66 i0 (.agg #[.string ⟨#[]⟩, .slice none 0 0]) 2 40 Tryz.underlying44 hi0 hz hzs hzb rfl (by decide) _ _ _ rfl own1.out ⟨w1.heap.size + 1, 0, none⟩ 1 1 [.string lb, .slice sa sn sc] (by decide) rfl ?c1 ?c2 ?c3 ?c4 ?c5 ?c6 ?_)
          case c1 => rfl
          case c2 => exact cells_two (by simp) _ _
          case c3 => simp [Value.oneCell']
          case c4 => unfold maxLen; omega
          case c5 => omega
          case c6 => simp; omega
          intro g cap w2 hown' hg hf
          have NX := Lib.hid (HK.out.next hb1 hrep HN.out hj3 hlt h32 hown' hg (by simpa using hf))
          have hb2 : Below w1.heap.size w1 ((w1.alloc (.cells #[.string lb, .slice sa sn sc] 66 (0, 0))).alloc (.cells #[.string lb, .slice sa sn sc] 66 (0, 0))) := ((Below.refl _ _).alloc (Nat.le_refl _) _).alloc (by simp) _
          have hq : some (w.heap.size + 1) ≠ (Value.slice va vn vc).ownBlock := fun e => by have := (hown0.out _ e.symm).1; omega
          have B2 : Hid (w2.heap[w.heap.size + 1]? = some (.cells #[.string ⟨#[c]⟩, .slice va vn vc] 66 (0, 0))) := Lib.hid ((hg.block _ (by simp; omega) hq).trans ((hb2.block _ hz1).trans B1.out))
          obtain ⟨c20, c21, f20, f21⟩ := two_cells B2.out
          clear hown' hg hf hq
          go_wp2_with fail
          go_roundw
          case rel => exact ⟨j', acc ++ [t], some ⟨g, 0, none⟩, acc.length + 1, cap, _, rfl, by omega, by omega, NX.out⟩
          case measure => simp [intOf]; omega
      · have hK := hrel.done (fun _ => h32)
        have HK := Lib.hid hrel
        have HKK := Lib.hid hK
        have hn32 : ((s[j].toNat : Int) == 32) = false := byte_eq_ff h32 rfl
        have hvn : vn = acc.length := by obtain ⟨a, m, c', e, e'⟩ := owns_slice hrel.2.2.1; simp at e; omega
        subst hvn
        obtain ⟨c10, c11, f10, f11⟩ := two_cells hrel.2.1
        obtain ⟨c00, c01, f00, f01⟩ := two_cells hrel.1
        have hB := hrel.2.2.2.2.2.2.2
        have hal := hrel.2.2.2.2.2.1
        clear hrel hK h32 ih
        by_cases h41 : s[j] = 41
        · by_cases hin : 1 ≤ acc.length ∧ acc.length ≤ 6
          · have hr : rd (f + 1) (s.data.toList.drop i) = some (.node c acc, s.data.toList.drop (j + 1)) := by
              rw [H.out, HKK.out, drop_at hlt, shut, if_pos ⟨h41, hin.1, hin.2⟩]
            have HR := Lib.hid hr
            have hb : decide ((1 : Int) ≤ (acc.length : Int) ∧ (acc.length : Int) ≤ 6) = true := by simp; omega
            have HB := Lib.hid hb
            clear hr hb
            go_wp2_with (go_at_call 60; refine (l6In_any _ _ _ _).mono ?_; rintro e w' ⟨rfl, rfl⟩; rw [HB.out])
            refine bodyPost_ret (v := .tuple #[.agg #[.string ⟨#[c]⟩, .slice va acc.length vc], .int .i64 (j + 1)]) (by simp [results, Tryz.results83, go_sem, c00, c01]) rfl ?_
            exact ⟨(hB.setCell (by simp) _).setCell (by simp) _, _, _, _, _, _, rfl, .inr ⟨_, j + 1, HR.out, by omega, by omega, by omega, HK.out.rep hin.1 hin.2⟩⟩
          · have hr : rd (f + 1) (s.data.toList.drop i) = none := by
              rw [H.out, HKK.out, drop_at hlt, shut, if_neg (fun h => hin h.2)]
            have HR := Lib.hid hr
            have hb : decide ((1 : Int) ≤ (acc.length : Int) ∧ (acc.length : Int) ≤ 6) = false := by simp; omega
            have HB := Lib.hid hb
            clear hr hb
            go_wp2_with (go_at_call 60; refine (l6In_any _ _ _ _).mono ?_; rintro e w' ⟨rfl, rfl⟩; rw [HB.out])
            refine bodyPost_ret (v := .tuple #[.agg #[.string ⟨#[c]⟩, .slice va acc.length vc], .int .i64 (-1)]) (by simp [results, Tryz.results83, go_sem, c00, c01]) rfl ?_
            exact (rd_post_none ((hB.setCell (by simp) _).setCell (by simp) _) HR.out)
        · have hr : rd (f + 1) (s.data.toList.drop i) = none := by
            rw [H.out, HKK.out, drop_at hlt, shut, if_neg (fun h => h41 h.1)]
          have HR := Lib.hid hr
          have hn41 : ((s[j].toNat : Int) != 41) = true := byte_ne_tt h41 rfl
          clear hr h41
          go_wp2_with fail
          refine bodyPost_ret (v := .tuple #[.agg #[.string ⟨#[c]⟩, .slice va acc.length vc], .int .i64 (-1)]) (by simp [results, Tryz.results83, go_sem, c00, c01]) rfl ?_
          exact (rd_post_none ((hB.setCell (by simp) _).setCell (by simp) _) HR.out)
    · have hK := hrel.done (fun h => absurd h hlt)
      have hr : rd (f + 1) (s.data.toList.drop i) = none := by
        rw [H.out, hK, drop_end (by omega), shut]
      have HR := Lib.hid hr
      obtain ⟨c10, c11, f10, f11⟩ := two_cells hrel.2.1
      obtain ⟨c00, c01, f00, f01⟩ := two_cells hrel.1
      have hB := hrel.2.2.2.2.2.2.2
      clear hrel hK ih hr
      go_wp2_with fail
      refine bodyPost_ret (v := .tuple #[.agg #[.string ⟨#[c]⟩, .slice va vn vc], .int .i64 (-1)]) (by simp [results, Tryz.results83, go_sem, c00, c01]) rfl ?_
      exact (rd_post_none ((hB.setCell (by simp) _).setCell (by simp) _) HR.out)

/-- 'l1Read' gives what 'rd' gives. -/
theorem l1Read_any (s : ByteArray) (hs : s.size ≤ 200) : ∀ (f : Nat) (i d : Nat) (k dd : Int) (w : World), d + f = 17 → k = i → dd = d → i ≤ s.size →
    Calls Tryz.prog 83 #[.string s, .int .i64 k, .int .i64 dd] w (RdPost s i f w) := by
  intro f
  induction f with
  | zero =>
    intro i d k dd w hd hk hdd hi
    subst hk hdd
    obtain rfl : d = 17 := by omega
    exact l1Read_deep s i w
  | succ f ih =>
    intro i d k dd w hd hk hdd hi
    subst hk hdd
    by_cases h1 : i < s.size
    · by_cases h2 : s[i] = 42
      · exact l1Read_leaf s i d f w (by omega) h1 hs h2
      · by_cases h3 : s[i] = 40
        · by_cases h4 : i + 1 < s.size
          · by_cases h5 : 97 ≤ (s[i + 1].toNat : Int) ∧ (s[i + 1].toNat : Int) ≤ 104
            · exact l1Read_node s i d f w (by omega) h4 hs h3 h5.1 h5.2 (fun i k dd w hk hdd hi => ih i (d + 1) k dd w (by omega) hk (by omega) hi)
            · exact l1Read_letter s i d f w (by omega) h4 hs h3 (by omega)
          · exact l1Read_short s i d f w (by omega) h1 hs h3 (by omega)
        · refine l1Read_other s i d f w (by omega) h1 hs ?_ ?_
          · have : s[i].toNat ≠ 42 := fun e => h2 (UInt8.toNat_inj.1 e)
            omega
          · have : s[i].toNat ≠ 40 := fun e => h3 (UInt8.toNat_inj.1 e)
            omega
    · exact l1Read_end s i d f w (by omega) (by omega) (by omega)

end Go.Proofs.YtoeebipahifpcaaGreat
end
section
/- The model: leaves and nodes counted, small trees, a text parsed. -/
namespace Go.Proofs.YtoeebipahifpcaaGreat
open Go.RowKit

set_option maxHeartbeats 400000 in
theorem l1Leaves_any (n : Nat) : ∀ (t : T) (l s : Value) (w : World) (P : Nat → Prop), SizeOf.sizeOf t ≤ n → t.wf → t.leaves < 1000000 → RepS w P t l s →
    Calls Tryz.prog 72 #[.agg #[l, s]] w fun e w' => e = .returned (.int .i64 t.leaves) ∧ Below w.heap.size w w' := by
  induction n with
  | zero => intro t l s w P h; cases t <;> simp at h <;> omega
  | succ n ih =>
    intro t l s w P hn hwf hlt' hr
    cases t with
    | leaf =>
      rw [RepS] at hr
      obtain ⟨rfl, rfl⟩ := hr
      go_enter Tryz.func72, Tryz.ntmps72
      go_wp2
      go_ret
      exact ⟨by simp [T.leaves], (Below.refl _ _).alloc (Nat.le_refl _) _⟩
    | node c ks =>
      rw [RepS] at hr
      obtain ⟨rfl, g, cap, rfl, hP, hk, hL⟩ := hr
      rw [T.wf] at hwf
      have hwk := hwf.2.2.2.2
      go_enter Tryz.func72, Tryz.ntmps72
      go_wp2
      go_loopw [3, 4] (fun v i wr => ∃ k : Nat, k ≤ ks.length ∧ i = .int .i64 k ∧ v = .int .i64 (T.leavesL (ks.take k)) ∧ Below (w.heap.size+1) (w.alloc (Obj.cells #[Value.string { data := #[c] }, Value.slice (some { block := g, off := 0 }) ks.length cap] 66)) wr) (fun _ i _ => ks.length - (intOf i).toNat)
      case atStart => exact ⟨0, Nat.zero_le _, rfl, by simp [T.leavesL], Below.refl _ _⟩
      case round =>
        obtain ⟨k, hk', rfl, rfl, hB⟩ := hrel
        have c0 : wr.cell? ⟨w.heap.size, 0, none⟩ = some (Value.string { data := #[c] }) := by
          rw [hB.cell (by simp)]; simp [go_sem]
        have c1 : wr.cell? ⟨w.heap.size, 1, none⟩ = some (Value.slice (some { block := g, off := 0 }) ks.length cap) := by
          rw [hB.cell (by simp)]; simp [go_sem]
        by_cases hlt : k < ks.length
        · have hW : Below w.heap.size w wr := ((Below.refl _ _).alloc (Nat.le_refl _) _).trans (hB.mono (by omega))
          obtain ⟨l', s', d1, d2, d3⟩ := (hL.keep (Keeps.of_below hW P) (fun _ h _ => h) hP hwk).get k hlt
          simp only [Nat.zero_add] at d1 d2
          have hlv := leavesL_take hlt
          have hle := leavesL_take_le (ks := ks) (k+1)
          have hd : SizeOf.sizeOf ks[k] < SizeOf.sizeOf ks := List.sizeOf_lt_of_mem (List.getElem_mem hlt)
          simp only [T.leaves, T.node.sizeOf_spec] at hn hlt'
          have H := Lib.hid hlv
          have H1 : T.leavesL (ks.take k) + (ks[k]).leaves < 1000000 := by omega
          have HW := wfL_get hwk k hlt
          have HX := Lib.hid hwk
          clear hlv hwk
          go_wp2_with (go_at_call 72; refine (ih ks[k] l' s' _ P (by omega) HW (by omega) d3).mono ?_; rintro e w' ⟨rfl, hB1⟩)
          go_roundw
          case rel => exact ⟨k + 1, by omega, by go_num, by rw [H.out]; go_num, hB.trans (hB1.mono (by have := hB.size; simp at this; omega))⟩
          case measure => simp [intOf]; omega
        · have hkk : k = ks.length := by omega
          go_wp2
          go_ret
          exact ⟨by rw [T.leaves, hkk, List.take_length]; rfl, ((Below.refl _ _).alloc (Nat.le_refl _) _).trans (hB.mono (by omega))⟩

set_option maxHeartbeats 400000 in
theorem l1Nodes_any (n : Nat) : ∀ (t : T) (l s : Value) (w : World) (P : Nat → Prop), SizeOf.sizeOf t ≤ n → t.wf → t.nodes < 1000000 → RepS w P t l s →
    Calls Tryz.prog 95 #[.agg #[l, s]] w fun e w' => e = .returned (.int .i64 t.nodes) ∧ Below w.heap.size w w' := by
  induction n with
  | zero => intro t l s w P h; cases t <;> simp at h <;> omega
  | succ n ih =>
    intro t l s w P hn hwf hlt' hr
    cases t with
    | leaf =>
      rw [RepS] at hr
      obtain ⟨rfl, rfl⟩ := hr
      go_enter Tryz.func95, Tryz.ntmps95
      go_wp2
      go_ret
      exact ⟨by simp [T.nodes], (Below.refl _ _).alloc (Nat.le_refl _) _⟩
    | node c ks =>
      rw [RepS] at hr
      obtain ⟨rfl, g, cap, rfl, hP, hk, hL⟩ := hr
      rw [T.wf] at hwf
      have hwk := hwf.2.2.2.2
      go_enter Tryz.func95, Tryz.ntmps95
      go_wp2
      go_loopw [3, 4] (fun v i wr => ∃ k : Nat, k ≤ ks.length ∧ i = .int .i64 k ∧ v = .int .i64 (1 + T.nodesL (ks.take k) : Nat) ∧ Below (w.heap.size+1) (w.alloc (Obj.cells #[Value.string { data := #[c] }, Value.slice (some { block := g, off := 0 }) ks.length cap] 66)) wr) (fun _ i _ => ks.length - (intOf i).toNat)
      case atStart => exact ⟨0, Nat.zero_le _, rfl, by simp [T.nodesL], Below.refl _ _⟩
      case round =>
        obtain ⟨k, hk', rfl, rfl, hB⟩ := hrel
        have c0 : wr.cell? ⟨w.heap.size, 0, none⟩ = some (Value.string { data := #[c] }) := by
          rw [hB.cell (by simp)]; simp [go_sem]
        have c1 : wr.cell? ⟨w.heap.size, 1, none⟩ = some (Value.slice (some { block := g, off := 0 }) ks.length cap) := by
          rw [hB.cell (by simp)]; simp [go_sem]
        by_cases hlt : k < ks.length
        · have hW : Below w.heap.size w wr := ((Below.refl _ _).alloc (Nat.le_refl _) _).trans (hB.mono (by omega))
          obtain ⟨l', s', d1, d2, d3⟩ := (hL.keep (Keeps.of_below hW P) (fun _ h _ => h) hP hwk).get k hlt
          simp only [Nat.zero_add] at d1 d2
          have hlv := nodesL_take hlt
          have hle := nodesL_take_le (ks := ks) (k+1)
          have hd : SizeOf.sizeOf ks[k] < SizeOf.sizeOf ks := List.sizeOf_lt_of_mem (List.getElem_mem hlt)
          simp only [T.nodes, T.node.sizeOf_spec] at hn hlt'
          have H := Lib.hid hlv
          have H1 : 1 + T.nodesL (ks.take k) + (ks[k]).nodes < 1000000 := by omega
          have HW := wfL_get hwk k hlt
          have HX := Lib.hid hwk
          clear hlv hwk
          go_wp2_with (go_at_call 95; refine (ih ks[k] l' s' _ P (by omega) HW (by omega) d3).mono ?_; rintro e w' ⟨rfl, hB1⟩)
          go_roundw
          case rel => exact ⟨k + 1, by omega, by go_num, by rw [H.out]; go_num, hB.trans (hB1.mono (by have := hB.size; simp at this; omega))⟩
          case measure => simp [intOf]; omega
        · have hkk : k = ks.length := by omega
          go_wp2
          go_ret
          exact ⟨by rw [T.nodes, hkk, List.take_length]; rfl, ((Below.refl _ _).alloc (Nat.le_refl _) _).trans (hB.mono (by omega))⟩

set_option maxHeartbeats 400000 in
theorem l1Small_any (t : T) (lb : ByteArray) (sa : Option Addr) (sn sc : Nat) (w : World) (P : Nat → Prop) (hwf : t.wf) (hl : t.leaves < 1000000) (hn : t.nodes < 1000000) (hr : RepS w P t (.string lb) (.slice sa sn sc)) :
    Calls Tryz.prog 84 #[.agg #[.string lb, .slice sa sn sc]] w fun e w' => e = .returned (.bool (small t)) ∧ Below w.heap.size w w' := by
  have HR := Lib.hid hr
  have HS : Hid (small t = (decide (t.leaves ≤ 12) && decide (t.nodes ≤ 16))) := Lib.hid rfl
  clear hr
  have hb1 : Below w.heap.size w (w.alloc (Obj.cells #[Value.string lb, Value.slice sa sn sc] 66)) := (Below.refl _ _).alloc (Nat.le_refl _) _
  have HB1 := Lib.hid hb1
  by_cases h1 : (t.leaves : Int) ≤ 12
  · by_cases h2 : (t.nodes : Int) ≤ 16
    all_goals
      have hd : small t = decide ((t.nodes : Int) ≤ 16) := by
        rw [HS.out, decide_eq_true (by omega : t.leaves ≤ 12), Bool.true_and]
        exact decide_eq_decide.2 (by omega)
      have HD := Lib.hid hd
      clear hd
      go_enter Tryz.func84, Tryz.ntmps84
      go_wp2_with fail
      refine (l1Leaves_any _ t _ _ _ P (Nat.le_refl _) hwf hl (HR.out.below hwf hb1)).mono ?_
      rintro e w1 ⟨rfl, hb2⟩
      have hc := hb2.cell (p := ⟨w.heap.size, 0, none⟩) (by simp)
      have hc1 := hb2.cell (p := ⟨w.heap.size, 1, none⟩) (by simp)
      simp only [go_sem] at hc hc1
      simp at hc hc1
      go_wp2_with fail
      refine (l1Nodes_any _ t _ _ _ P (Nat.le_refl _) hwf hn ((HR.out.below hwf hb1).below hwf hb2)).mono ?_
      rintro e w2 ⟨rfl, hb3⟩
      go_wp2_with fail
      go_ret
      refine ⟨?_, HB1.out.trans (hb2.mono (by simp)) |>.trans (hb3.mono (by have := hb2.size; simp at this; omega))⟩
      rw [HD.out]
      first | rfl | simp [h2]
  · have h1' : decide ((t.leaves : Int) ≤ 12) = false := by rw [decide_eq_false_iff_not]; exact h1
    go_enter Tryz.func84, Tryz.ntmps84
    go_wp2_with fail
    refine (l1Leaves_any _ t _ _ _ P (Nat.le_refl _) hwf hl (HR.out.below hwf hb1)).mono ?_
    rintro e w1 ⟨rfl, hb2⟩
    go_wp2_with fail
    go_ret
    refine ⟨?_, HB1.out.trans (hb2.mono (by simp))⟩
    rw [HS.out, decide_eq_false (by omega : ¬ t.leaves ≤ 12)]
    rfl

/-- What 'l1Parse' answers. -/
def PsPost (s : ByteArray) (w : World) (e : Ending) (w' : World) : Prop :=
  Below w.heap.size w w' ∧ ∃ (lb : ByteArray) (sa : Option Addr) (sn sc : Nat) (b : Bool), e = .returned (.tuple #[.agg #[.string lb, .slice sa sn sc], .bool b]) ∧
    ((parse s.data.toList = none ∧ b = false) ∨
     ∃ t, parse s.data.toList = some t ∧ b = true ∧ RepS w' (fun b => w.heap.size ≤ b) t (.string lb) (.slice sa sn sc))

theorem ps_none {s : ByteArray} {w w' : World} {lb : ByteArray} {sa : Option Addr} {sn sc : Nat} (hb : Below w.heap.size w w') (h : parse s.data.toList = none) :
    PsPost s w (.returned (.tuple #[.agg #[.string lb, .slice sa sn sc], .bool false])) w' := ⟨hb, lb, sa, sn, sc, false, rfl, .inl ⟨h, rfl⟩⟩

set_option maxHeartbeats 400000 in
theorem l1Parse_long (s : ByteArray) (w : World) (hs : 200 < s.size) (hm : s.size ≤ 140737488351232) :
    Calls Tryz.prog 71 #[.string s] w (PsPost s w) := by
  go_enter Tryz.func71, Tryz.ntmps71
  go_wp2_with fail
  go_returns
  exact ps_none ((Below.refl _ _).alloc (Nat.le_refl _) _) (by unfold parse; rw [if_pos (by simpa using hs)])

set_option maxHeartbeats 400000 in
theorem l1Parse_short (s : ByteArray) (w : World) (hs : s.size ≤ 200) :
    Calls Tryz.prog 71 #[.string s] w (PsPost s w) := by
  have hl : s.data.toList.length = s.size := by simp
  go_enter Tryz.func71, Tryz.ntmps71
  go_wp2_with fail
  have hb1 : Below w.heap.size w (w.alloc (Obj.cells #[Value.string ⟨#[]⟩, Value.slice none 0 0] 66)) := (Below.refl _ _).alloc (Nat.le_refl _) _
  refine (l1Read_any s hs 17 0 0 0 0 _ rfl rfl rfl (Nat.zero_le _)).mono ?_
  rintro e w1 ⟨hb2, lb, sa, sn, sc, k, rfl, hres⟩
  have hB := Lib.hid (hb1.trans (hb2.mono (by simp)))
  have hz : w.heap.size < w1.heap.size := by have := hb2.size; simp at this; omega
  have h0 : w1.heap[w.heap.size]? = some (.cells #[.string ⟨#[]⟩, .slice none 0 0] 66 (0, 0)) := by
    rw [hb2.block _ (by simp)]; exact heap_alloc_new _ _
  obtain ⟨c00, c01, f00, f01⟩ := two_cells h0
  have H0 := Lib.hid h0
  clear h0
  rcases hres with ⟨hno, rfl⟩ | ⟨t, j, hyes, hj0, hj, rfl, hrep⟩
  · have hpn : parse s.data.toList = none := by
      rw [List.drop_zero] at hno; unfold parse; rw [if_neg (by omega), hno]
    have HP := Lib.hid hpn
    have hne : ((-1 : Int) == (s.size : Int)) = false := by simp
    clear hno hpn
    go_wp2_with fail
    go_region
    go_wp2_with fail
    refine bodyPost_ret (v := .tuple #[.agg #[.string lb, .slice sa sn sc], .bool false]) (by simp [results, Tryz.results71, go_sem, c00, c01, hz]) rfl ?_
    exact ps_none ((((hB.out.setCell (by simp) _).setCell (by simp) _).alloc (by simp; omega) _).drew) HP.out
  · by_cases he : j = s.size
    · subst he
      have hrd : rd 17 s.data.toList = some (t, []) := by
        rw [List.drop_zero, drop_end (Nat.le_refl _)] at hyes; exact hyes
      have hps : parse s.data.toList = if small t = true then some t else none := by
        unfold parse; rw [if_neg (by omega), hrd]
      obtain ⟨htw, htt⟩ := rd_some _ _ _ _ hrd
      have HP := Lib.hid hps
      have hle : t.leaves ≤ 200 := by have h := leaves_le_text t; rw [List.append_nil] at htt; rw [← htt] at h; omega
      have hno : t.nodes ≤ 200 := by have h := nodes_le_text t; rw [List.append_nil] at htt; rw [← htt] at h; omega
      have hle' : t.leaves < 1000000 := by omega
      have hno' : t.nodes < 1000000 := by omega
      clear hyes hrd hps htt
      have HR := Lib.hid hrep
      clear hrep
      go_wp2_with fail
      go_region_with ((go_at_call 84; refine (l1Small_any t lb sa sn sc _ (fun b => (w.alloc (Obj.cells #[Value.string ⟨#[]⟩, Value.slice none 0 0] 66)).heap.size ≤ b) htw hle' hno' (HR.out.below htw ((Below.refl _ _).alloc (Nat.le_refl _) _).drew)).mono ?_; rintro e w2 ⟨rfl, hb3⟩; have d0 := keep1 (a := ⟨w1.heap.size, 0, none⟩) (v := .string lb) hb3 (by simp [go_sem]); have d1 := keep1 (a := ⟨w1.heap.size, 1, none⟩) (v := .slice sa sn sc) hb3 (by simp [go_sem]); have e0 := keep1 (a := ⟨w.heap.size, 0, none⟩) (v := .string ⟨#[]⟩) hb3 (by simp [go_sem, hz, c00]); have e1 := keep1 (a := ⟨w.heap.size, 1, none⟩) (v := .slice none 0 0) hb3 (by simp [go_sem, hz, c01]); have g0 := keepf (a := ⟨w.heap.size, 0, none⟩) (v := .string ⟨#[]⟩) hb3 (by simp [go_sem, hz, c00]) (by simp [go_sem, hz, f00]); have g1 := keepf (a := ⟨w.heap.size, 1, none⟩) (v := .slice none 0 0) hb3 (by simp [go_sem, hz, c01]) (by simp [go_sem, hz, f01])))
      all_goals
        go_wp2_with fail
        refine bodyPost_ret (v := .tuple #[.agg #[.string lb, .slice sa sn sc], .bool (small t)]) (by simp [results, Tryz.results71, go_sem, e0, e1]) rfl ?_
        have hzz : w1.heap.size < w2.heap.size := by have := hb3.size; simp at this; omega
        have hbb : Below w1.heap.size w1 w2 := (((Below.refl _ _).alloc (Nat.le_refl _) _).drew).trans (hb3.mono (by simp))
        refine ⟨((hB.out.trans (hbb.mono (by omega))).setCell (Nat.le_refl _) _).setCell (Nat.le_refl _) _, _, _, _, _, _, rfl, ?_⟩
        cases hsm : small t with
        | false => exact .inl ⟨by rw [HP.out, hsm]; rfl, rfl⟩
        | true =>
          refine .inr ⟨t, by rw [HP.out, hsm]; rfl, rfl, ?_⟩
          refine (HR.out.below htw hbb).keep (w := w2) ?_ (fun b hb _ => by simp at hb; omega) htw
          intro q u hq hu
          simp only [World.size_alloc] at hq
          rw [World.cell?_of_block (w := w2)]
          · exact hu
          · rw [Below.heap_setCell _ _ _ _ (by simp; omega), Below.heap_setCell _ _ _ _ (by simp; omega)]
    · have hpn : parse s.data.toList = none := by
        rw [List.drop_zero] at hyes
        unfold parse; rw [if_neg (by omega), hyes]
        have : (s.data.toList.drop j).length ≠ 0 := by simp; omega
        cases hd : s.data.toList.drop j with
        | nil => rw [hd] at this; simp at this
        | cons x r => rfl
      have HP := Lib.hid hpn
      have hne : ((j : Int) == (s.size : Int)) = false := by simp; omega
      clear hyes hpn hrep
      go_wp2_with fail
      go_region
      go_wp2_with fail
      refine bodyPost_ret (v := .tuple #[.agg #[.string lb, .slice sa sn sc], .bool false]) (by simp [results, Tryz.results71, go_sem, c00, c01, hz]) rfl ?_
      exact ps_none ((((hB.out.setCell (by simp) _).setCell (by simp) _).alloc (by simp; omega) _).drew) HP.out

theorem l1Parse_any (s : ByteArray) (w : World) (hm : s.size ≤ 140737488351232) : Calls Tryz.prog 71 #[.string s] w (PsPost s w) := by
  by_cases h : s.size ≤ 200
  · exact l1Parse_short s w h
  · exact l1Parse_long s w (by omega) hm
end Go.Proofs.YtoeebipahifpcaaGreat
end
section
/- Merged out of: XReadI, XReadIB. -/
section
/- The program's reader: a node's kids, plainly. -/
namespace Go.Proofs.YtoeebipahifpcaaGreat
open Go.RowKit

/-- What the program's reader answers. -/
def RePost (o : Option (T × List UInt8)) (r : Nat) (s : ByteArray) (i L N : Nat) (w : World) (e : Ending) (w' : World) : Prop :=
  w.grownBy w' (some r) ∧ ∃ i' L' N', i' ≤ s.size ∧ RB w' r s i' L' N' ∧
    ((o = none ∧ e = .returned (.tuple #[.nilIface, .bool false])) ∨
     ∃ t ty a, o = some (t, s.data.toList.drop i') ∧ t.wf ∧ i < i' ∧ L' = L + t.leaves ∧ N' = N + t.nodes ∧ L' ≤ 12 ∧ N' ≤ 16 ∧ e = .returned (.tuple #[.iface ty (.pointer (some a)), .bool true]) ∧ RepI w' (fun b => w.heap.size ≤ b) t ty a)

/-- What holds ahead of each round of the node's loop. -/
def KidRelI (w : World) (r : Nat) (s : ByteArray) (i f L0 N0 j L N : Nat) (acc : List T) (v : Value) (xs : List Value) (wr : World) : Prop :=
  RB wr r s j L N ∧ wr.ownsRow w.heap.size 113 1 v acc.length xs ∧
  (∀ k (h : k < acc.length), ∃ ty a, xs[k]? = some (.iface ty (.pointer (some a))) ∧ RepI wr (fun b => w.heap.size ≤ b ∧ v.ownBlock ≠ some b) acc[k] ty a) ∧
  T.wfL acc ∧ acc.length ≤ 6 ∧ L = L0 + T.leavesL acc ∧ N = N0 + 1 + T.nodesL acc ∧ L ≤ 12 ∧ N ≤ 16 ∧
  (∃ n, s.size - j ≤ n ∧ kidsA (rd f) n acc (s.data.toList.drop j) = kidsA (rd f) (s.data.toList.drop (i + 1)).length [] (s.data.toList.drop (i + 1))) ∧ w.grownBy wr (some r)

theorem drop_len_i (s : ByteArray) (j : Nat) : (s.data.toList.drop j).length = s.size - j := by simp

theorem KidRelI.next {w : World} {r : Nat} {s : ByteArray} {i f L0 N0 j L N j' L' N' : Nat} {acc : List T} {va : Option Addr} {vn vc : Nat} {xs : List Value} {wr wa wb wc : World} {t : T} {ty : TypeId} {a : Addr} {g cap : Nat} {X : Obj}
    (h : KidRelI w r s i f L0 N0 j L N acc (.slice va vn vc) xs wr) (hr : r < w.heap.size) (ha : wr.grownBy wa (some r)) (has : wa.heap.size = wr.heap.size) (hb : wa.grownBy wb (some r)) (hRB : RB wb r s j' L' N')
    (hrep : RepI wb (fun b => wa.heap.size ≤ b) t ty a) (htw : t.wf) (hyes : rd f (s.data.toList.drop (j + 1)) = some (t, s.data.toList.drop j')) (hL : L' = L + t.leaves) (hN : N' = N + t.nodes) (hL2 : L' ≤ 12) (hN2 : N' ≤ 16)
    (hj : j + 1 < j') (hlt : j < s.size) (h32 : s[j] = 32) (hlen : acc.length < 6)
    (hown : wc.ownsRow w.heap.size 113 1 (.slice (some ⟨g, 0, none⟩) (acc.length + 1) cap) (acc.length + 1) (xs ++ [.iface ty (.pointer (some a))]))
    (hg : (wb.alloc X).grownBy wc (Value.slice va vn vc).ownBlock) (hf : (Value.slice va vn vc).ownBlock = some g ∨ g = (wb.alloc X).heap.size) :
    KidRelI w r s i f L0 N0 j' L' N' (acc ++ [t]) (.slice (some ⟨g, 0, none⟩) (acc.length + 1) cap) (xs ++ [.iface ty (.pointer (some a))]) wc := by
  obtain ⟨rb, own, reps, hwf, hal, eL, eN, _, _, ⟨n, hn, hk⟩, hB⟩ := h
  have hown0 := own.lt
  have hxl : xs.length = acc.length * 1 := own.1
  have hsa := ha.size
  have hsb := hb.size
  have hsw := hB.size
  have hne0 : ∀ b, b < w.heap.size → (Value.slice va vn vc).ownBlock ≠ some b := fun b hb e => by have := (hown0 b e).1; omega
  have hblk : ∀ b, b < wb.heap.size → (Value.slice va vn vc).ownBlock ≠ some b → wc.heap[b]? = wb.heap[b]? := by
    intro b hb hne
    rw [hg.block b (by simp; omega) (fun e => hne e.symm), Below.heap_alloc _ _ _ hb]
  have hblk2 : ∀ b, b < wr.heap.size → b ≠ r → wb.heap[b]? = wr.heap[b]? := by
    intro b hb' hne
    rw [hb.block b (by omega) (by simpa using hne), ha.block b hb' (by simpa using hne)]
  refine ⟨?_, by rw [List.length_append]; exact hown, ?_, by rw [wfL_append]; exact ⟨hwf, by simp [T.wfL, htw]⟩, by simp; omega, ?_, ?_, hL2, hN2, ⟨n - 1, by omega, ?_⟩, ?_⟩
  · have hrl := hRB.lt
    unfold RB at hRB ⊢
    rw [hblk r hrl (hne0 r hr)]; exact hRB
  · intro k hk'
    by_cases hka : k < acc.length
    · obtain ⟨ty', a', e1, e3⟩ := reps k hka
      refine ⟨ty', a', by rw [List.getElem?_append_left (by omega)]; exact e1, ?_⟩
      rw [List.getElem_append_left hka]
      refine e3.keep (w := wr) ?_ ?_ (wfL_get hwf k hka)
      · intro q u hq hu
        have hqb := World.block_lt_of_cell? wr q hu
        rw [World.cell?_of_block (hblk q.block (by omega) hq.2), World.cell?_of_block (hblk2 q.block hqb (by have := hq.1; omega))]
        exact hu
      · intro b hb' hlt'
        refine ⟨hb'.1, fun e => ?_⟩
        simp only [Value.ownBlock, Option.some.injEq] at e
        subst e
        rcases hf with e | e
        · exact hb'.2 e
        · simp at e; omega
    · have hke : k = acc.length := by simp at hk'; omega
      subst hke
      refine ⟨ty, a, by rw [List.getElem?_append_right (by omega), hxl]; simp, ?_⟩
      rw [List.getElem_append_right (by omega)]
      simp only [Nat.sub_self, List.getElem_singleton]
      have hneo : ∀ b, wr.heap.size ≤ b → (Value.slice va vn vc).ownBlock ≠ some b := fun b hb e => by have := (hown0 b e).2; omega
      refine hrep.keep (w := wb) ?_ ?_ htw
      · intro q u hq hu
        have hqb := World.block_lt_of_cell? wb q hu
        rw [World.cell?_of_block (hblk q.block hqb (hneo _ (by omega)))]
        exact hu
      · intro b hb' hlt'
        refine ⟨by omega, fun e => ?_⟩
        simp only [Value.ownBlock, Option.some.injEq] at e
        subst e
        rcases hf with e | e
        · exact hneo _ (by omega) e
        · simp at e; omega
  · rw [hL, eL, leavesL_append]; simp [T.leavesL]; omega
  · rw [hN, eN, nodesL_append]; simp [T.nodesL]; omega
  · rw [← hk, drop_at hlt, h32]
    obtain ⟨m, rfl⟩ : ∃ m, n = m + 1 := ⟨n - 1, by omega⟩
    simp only [kidsA, if_true, hyes, Nat.add_sub_cancel]
  · refine ⟨hg.os.trans (hb.os.trans (ha.os.trans hB.os)), hg.tape.trans (hb.tape.trans (ha.tape.trans hB.tape)), hg.output.trans (hb.output.trans (ha.output.trans hB.output)), by have := hg.size; simp at this; omega, ?_⟩
    intro k hk' hne
    rw [hblk k (by omega) (hne0 k hk'), hblk2 k (by omega) (by simpa using hne), hB.block k hk' hne]

theorem KidRelI.start {w w1 : World} {r : Nat} {s : ByteArray} {i f L0 N0 : Nat} (hb : RB w1 r s (i + 1) L0 (N0 + 1)) (hg : w.grownBy w1 (some r)) (hs : w1.heap.size = w.heap.size) (hL : L0 ≤ 12) (hN : N0 + 1 ≤ 16) :
    KidRelI w r s i f L0 N0 (i + 1) L0 (N0 + 1) [] (.slice (some ⟨w1.heap.size, 0, none⟩) 0 0) [] (w1.alloc (.cells #[] 113)) := by
  refine ⟨?_, ?_, fun k h => by simp at h, by simp [T.wfL], by simp, by simp [T.leavesL], by simp [T.nodesL], hL, hN, ⟨_, ?_, rfl⟩, grownBy_below hg ((Below.refl _ _).alloc (Nat.le_refl _) _)⟩
  · have := hb.lt
    unfold RB at hb ⊢
    rw [Below.heap_alloc _ _ _ this]; exact hb
  · have := World.ownsRow_made (base := w.heap.size) (e := 113) (size := 1) w1 #[] 0 (by omega) (by simp [maxLen]) rfl
    exact this
  · rw [drop_len_i]; omega

theorem KidRelI.done {w : World} {r : Nat} {s : ByteArray} {i f L0 N0 j L N : Nat} {acc : List T} {v : Value} {xs : List Value} {wr : World}
    (h : KidRelI w r s i f L0 N0 j L N acc v xs wr) (h32 : ∀ h : j < s.size, s[j] ≠ 32) :
    kidsA (rd f) (s.data.toList.drop (i + 1)).length [] (s.data.toList.drop (i + 1)) = some (acc, s.data.toList.drop j) := by
  obtain ⟨rb, own, reps, hwf, hal, eL, eN, _, _, ⟨n, hn, hk⟩, hB⟩ := h
  rw [← hk]
  cases n with
  | zero => rfl
  | succ n =>
    by_cases hlt : j < s.size
    · rw [drop_at hlt, kidsA, if_neg (h32 hlt)]
    · rw [drop_end (by omega)]; rfl

/-- A kid that is none, or one too many for the counts: so is the node. -/
theorem KidRelI.fail {w : World} {r : Nat} {s : ByteArray} {i f L0 N0 j L N : Nat} {acc : List T} {v : Value} {xs : List Value} {wr : World} {c : UInt8}
    (h : KidRelI w r s i f L0 N0 j L N acc v xs wr) (hno : lim L N (rd f (s.data.toList.drop (j + 1))) = none) (hlt : j < s.size) (h32 : s[j] = 32) :
    lim L0 N0 (shut c (kidsA (rd f) (s.data.toList.drop (i + 1)).length [] (s.data.toList.drop (i + 1)))) = none := by
  obtain ⟨rb, own, reps, hwf, hal, eL, eN, _, _, ⟨n, hn, hk⟩, hB⟩ := h
  rw [← hk, drop_at hlt, h32]
  obtain ⟨m, rfl⟩ : ∃ m, n = m + 1 := ⟨n - 1, by omega⟩
  exact lim_kid_none eL eN hno

/-- One kid too many for a node. -/
theorem KidRelI.many {w : World} {r : Nat} {s : ByteArray} {i f L0 N0 j L N : Nat} {acc : List T} {v : Value} {xs : List Value} {wr : World} {c : UInt8} {t : T} {q : List UInt8}
    (h : KidRelI w r s i f L0 N0 j L N acc v xs wr) (hyes : rd f (s.data.toList.drop (j + 1)) = some (t, q)) (hlt : j < s.size) (h32 : s[j] = 32) (h6 : acc.length = 6) :
    shut c (kidsA (rd f) (s.data.toList.drop (i + 1)).length [] (s.data.toList.drop (i + 1))) = none := by
  obtain ⟨rb, own, reps, hwf, hal, eL, eN, _, _, ⟨n, hn, hk⟩, hB⟩ := h
  rw [← hk, drop_at hlt, h32]
  obtain ⟨m, rfl⟩ : ∃ m, n = m + 1 := ⟨n - 1, by omega⟩
  rw [kidsA, if_pos rfl, hyes]
  exact shut_many (by simp; omega)

/-- The node is read: how it lies. -/
theorem KidRelI.rep {w : World} {r : Nat} {s : ByteArray} {i f L0 N0 j L N : Nat} {acc : List T} {va : Option Addr} {vn vc : Nat} {xs : List Value} {wr w2 : World} {c : UInt8}
    (h : KidRelI w r s i f L0 N0 j L N acc (.slice va vn vc) xs wr) (hr : r < w.heap.size) (h1 : 1 ≤ acc.length) (hg : wr.grownBy w2 (some r)) :
    RepI (w2.alloc (.cells #[.string ⟨#[c]⟩, .slice va vn vc] 111)) (fun b => w.heap.size ≤ b) (.node c acc) 105 ⟨w2.heap.size, 0, none⟩ := by
  obtain ⟨rb, own, reps, hwf, hal, _, _, _, _, _, hB⟩ := h
  have own0 := own
  rcases own.2 with ⟨_, e⟩ | ⟨g, cap, cur, e, hbg, hgg, hnc, hcm, hcs, htake⟩
  · omega
  · simp only [Value.slice.injEq] at e
    obtain ⟨rfl, rfl, rfl⟩ := e
    have hkeep : Keeps (fun b => w.heap.size ≤ b) wr (w2.alloc (.cells #[.string ⟨#[c]⟩, .slice (some ⟨g, 0, none⟩) acc.length vc] 111)) := by
      intro a u ha hu
      have hab := World.block_lt_of_cell? wr a hu
      have := hg.size
      rw [World.cell?_of_block (w := wr)]
      · exact hu
      · rw [Below.heap_alloc _ _ _ (by omega), hg.block _ hab (by simp; omega)]
    have hz := hB.size
    have hz2 := hg.size
    rw [RepI]
    refine ⟨rfl, w2.heap.size, g, vc, rfl, by omega, hbg, by simp, by simp, hal, RepIL.of_get fun k hk => ?_⟩
    obtain ⟨ty, a, e1, e3⟩ := reps k hk
    have c1 := own0.cells (g := g) rfl k _ e1
    have ha : ∀ n, (⟨g, 0, none⟩ : Addr).add n = ⟨g, n, none⟩ := fun n => by unfold Addr.add; split <;> simp_all
    rw [ha] at c1
    simp only [Nat.zero_add]
    exact ⟨ty, a, hkeep _ _ hbg c1, e3.keep (hkeep.mono fun _ h => h.1) (fun b h _ => h.1) (wfL_get hwf k hk)⟩

theorem RB.alloc {w : World} {r : Nat} {s : ByteArray} {i L N : Nat} (h : RB w r s i L N) (o : Obj) : RB (w.alloc o) r s i L N := by
  have := h.lt
  unfold RB at h ⊢
  rw [Below.heap_alloc _ _ _ this]; exact h

theorem info46 : (Tryz.prog.info? 113).map (fun i => (i.zero, i.size, i.bytes)) = some (some .nilIface, 1, 16) := by kernel_rfl

end Go.Proofs.YtoeebipahifpcaaGreat
end
section
/- The program's reader walked: '(*treeReader).node' and '(*treeReader).tree' give what 'rd' gives, counted. -/
namespace Go.Proofs.YtoeebipahifpcaaGreat
open Go.RowKit

/-- The reader of a tree, as a contract at one fuel. -/
def TreeSaid (f : Nat) : Prop := ∀ (r : Nat) (s : ByteArray) (i L N : Nat) (w : World), s.size ≤ 140737488351232 → i ≤ s.size → L ≤ 12 → N ≤ 16 → 17 ≤ N + f → RB w r s i L N →
  Calls Tryz.prog 110 #[.pointer (some ⟨r, 0, none⟩)] w (RePost (lim L N (rd f (s.data.toList.drop i))) r s i L N w)

theorem re_none {o : Option (T × List UInt8)} {r : Nat} {s : ByteArray} {i L N i' L' N' : Nat} {w w' : World} (hg : w.grownBy w' (some r)) (hi : i' ≤ s.size) (hb : RB w' r s i' L' N') (ho : o = none) :
    RePost o r s i L N w (.returned (.tuple #[.nilIface, .bool false])) w' := ⟨hg, i', L', N', hi, hb, .inl ⟨ho, rfl⟩⟩

set_option maxRecDepth 100000 in
set_option maxHeartbeats 1000000 in
theorem node_noletter (r : Nat) (s : ByteArray) (i L N f : Nat) (w : World) (hs : s.size ≤ 140737488351232) (hi : i ≤ s.size) (hb : RB w r s i L (N + 1)) (hc : ∀ h : i < s.size, (s[i].toNat : Int) < 97 ∨ 104 < (s[i].toNat : Int)) :
    Calls Tryz.prog 118 #[.pointer (some ⟨r, 0, none⟩)] w (RePost (lim L N (rd (f + 1) (40 :: s.data.toList.drop i))) r s i L N w) := by
  have ho : lim L N (rd (f + 1) (40 :: s.data.toList.drop i)) = none := by
    by_cases h : i < s.size
    · have := hc h
      rw [drop_at h, rd_letter (by omega), lim_none]
    · rw [drop_end (by omega), rd_short, lim_none]
  have hlet : Calls Tryz.prog 120 #[.pointer (some ⟨r, 0, none⟩)] w (LetNo r s i L (N + 1) w) := by
    by_cases h : i < s.size
    · rcases hc h with h1 | h1
      · exact letter_low r s i L (N + 1) w hb hs h h1
      · exact letter_high r s i L (N + 1) w hb hs h h1
    · exact letter_end r s i L (N + 1) w hb hs (by omega)
  have HO := Lib.hid ho
  have HL := Lib.hid hlet
  clear ho hlet hc
  go_enter Tryz.func118, Tryz.ntmps118
  go_wp2_with fail
  refine HL.out.mono ?_
  rintro e w1 ⟨rfl, hb1, hg1, hs1⟩
  go_wp2_with fail
  go_ret2
  exact re_none hg1 hi hb1 HO.out

set_option maxRecDepth 100000 in
set_option maxHeartbeats 1000000 in
theorem node_walk (r : Nat) (s : ByteArray) (i L N f : Nat) (w : World) (hs : s.size ≤ 140737488351232) (hi : i < s.size) (hL : L ≤ 12) (hN : N + 1 ≤ 16) (hf : 17 ≤ N + 1 + f) (hb : RB w r s i L (N + 1)) (hc : 97 ≤ (s[i].toNat : Int)) (hc' : (s[i].toNat : Int) ≤ 104) (ih : TreeSaid f) :
    Calls Tryz.prog 118 #[.pointer (some ⟨r, 0, none⟩)] w (RePost (lim L N (rd (f + 1) (40 :: s.data.toList.drop i))) r s i L N w) := by
  obtain ⟨c, hcc⟩ : ∃ c, c = s[i] := ⟨_, rfl⟩
  have ho : rd (f + 1) (40 :: s.data.toList.drop i) = shut c (kidsA (rd f) (s.data.toList.drop (i + 1)).length [] (s.data.toList.drop (i + 1))) := by
    rw [drop_at hi, ← hcc, rd_node (by rw [hcc]; omega) (by rw [hcc]; omega)]
  have HL := Lib.hid (letter_yes r s i L (N + 1) w hb hs hi hc hc')
  rw [← hcc] at HL
  have HO := Lib.hid ho
  have HC : Hid (97 ≤ c.toNat ∧ c.toNat ≤ 104) := Lib.hid (by rw [hcc]; omega)
  have hr0 := hb.lt
  clear ho hc hc' hcc
  go_enter Tryz.func118, Tryz.ntmps118
  go_wp2_with fail
  refine HL.out.mono ?_
  rintro e w1 ⟨rfl, hb1, hg1, hs1⟩
  have hz1 := hs1
  have HS1 := Lib.hid hs1
  clear hs1 hz1
  go_wp2_with fail
  go_loopg [6] (s.size - (i + 1)) (fun k v wr => ∃ (j L1 N1 : Nat) (acc : List T) (va : Option Addr) (vn vc : Nat) (xs : List Value), v = .slice va vn vc ∧ j ≤ s.size ∧ k = s.size - j ∧ KidRelI w r s i f L N j L1 N1 acc (.slice va vn vc) xs wr)
  case atStart => exact ⟨i + 1, L, N + 1, [], _, _, _, [], rfl, hi, rfl, KidRelI.start hb1 hg1 HS1.out hL hN⟩
  case round =>
    obtain ⟨j, L1, N1, acc, va, vn, vc, xs, rfl, hj, rfl, hrel⟩ := hrel
    have hvn : vn = acc.length := by obtain ⟨a, m, c', e, e'⟩ := owns_slice hrel.2.1; simp at e; omega
    subst hvn
    have HK := Lib.hid hrel
    have rb := hrel.1
    have hal : acc.length ≤ 6 := hrel.2.2.2.2.1
    have hL1 : L1 ≤ 12 := hrel.2.2.2.2.2.2.2.1
    have hN1 : N1 ≤ 16 := hrel.2.2.2.2.2.2.2.2.1
    have hNge : N + 1 ≤ N1 := by have := hrel.2.2.2.2.2.2.1; omega
    have hgB := hrel.2.2.2.2.2.2.2.2.2.2
    clear hrel
    by_cases hlt : j < s.size
    · by_cases h32 : s[j] = 32
      · have HT := Lib.hid (take_yes r s j L1 N1 32 32 wr rb hs hlt rfl h32)
        have H32 := Lib.hid h32
        clear h32
        go_wp2_with fail
        refine HT.out.mono ?_
        rintro e wa ⟨rfl, rba, hga, hsa⟩
        have HSA := Lib.hid hsa
        clear hsa
        go_wp2_with fail
        refine (ih r s (j + 1) L1 N1 wa hs (by omega) hL1 hN1 (by omega) rba).mono ?_
        rintro e wb ⟨hgb, i', L', N', hi', rbb, hres⟩
        rcases hres with ⟨hno, rfl⟩ | ⟨t, ty, a, hyes, htw, hjt, hL', hN', hL2, hN2, rfl, hrep⟩
        · have HN := Lib.hid hno
          clear hno
          go_wp2_with fail
          go_ret2
          exact re_none (grownBy_trans hgB (grownBy_trans hga hgb)) hi' rbb (by rw [HO.out]; exact HK.out.fail HN.out hlt H32.out)
        · have hyes2 : rd f (s.data.toList.drop (j + 1)) = some (t, s.data.toList.drop i') := by
            cases hq : rd f (s.data.toList.drop (j + 1)) with
            | none => rw [hq] at hyes; cases hyes
            | some p =>
              obtain ⟨t', q⟩ := p
              rw [hq, lim] at hyes
              split at hyes
              · exact hyes
              · cases hyes
          have HY := Lib.hid hyes2
          have HLL := Lib.hid hL'
          have HNN := Lib.hid hN'
          clear hyes hyes2 hL' hN'
          by_cases h6 : acc.length = 6
          · have h6' : ((acc.length : Int) == 6) = true := by simp; omega
            have H6 := Lib.hid h6
            clear h6
            go_wp2_with fail
            go_ret2
            exact re_none (grownBy_trans hgB (grownBy_trans hga hgb)) hi' rbb (by rw [HO.out, HK.out.many HY.out hlt H32.out H6.out]; rfl)
          · have h6' : ((acc.length : Int) == 6) = false := by simp; omega
            have h66 : acc.length < 6 := by omega
            obtain ⟨i0, hi0, hz, hzs, hzb⟩ := info_parts info46
            have own1 := Lib.hid ((owns_kept_some (owns_kept_some HK.out.2.1 hga hr0) hgb hr0).alloc (.cells #[.iface ty (.pointer (some a))] 113 (0, 0)))
            have hsz : w.heap.size ≤ wb.heap.size := by have h1 := hgB.size; have h2 := hga.size; have h3 := hgb.size; omega
            clear h6
            go_wp2_with (at_builtin; refine wpList_append_new _ rfl _ _ 109 rfl w.heap.size 113 i0 .nilIface 1 16 Tryz.underlying109 hi0 hz hzs hzb rfl (by decide) _ _ _ rfl own1.out ⟨wb.heap.size, 0, none⟩ 1 1 [.iface ty (.pointer (some a))] (by decide) rfl ?c1 ?c2 ?c3 ?c4 ?c5 ?c6 ?_)
            case c1 => rfl
            case c2 => exact cells_one rfl _
            case c3 => simp [Value.oneCell']
            case c4 => unfold maxLen; omega
            case c5 => omega
            case c6 => simp; omega
            intro g cap wc hown' hg hf
            have NX := Lib.hid (HK.out.next hr0 hga HSA.out hgb rbb hrep htw HY.out HLL.out HNN.out hL2 hN2 hjt hlt H32.out h66 hown' hg (by simpa using hf))
            clear hown' hg hf
            go_wp2_with fail
            go_roundg (s.size - i')
            case measure => omega
            case rel => exact ⟨i', L', N', acc ++ [t], some ⟨g, 0, none⟩, acc.length + 1, cap, _, rfl, hi', rfl, NX.out⟩
      · have HX : Hid (Calls Tryz.prog 117 #[.pointer (some ⟨r, 0, none⟩), .int .u8 32] wr (TakeNo r s j L1 N1 wr)) := Lib.hid (take_other r s j L1 N1 32 32 wr rb hs hlt rfl h32)
        have HD := Lib.hid (HK.out.done (fun _ => h32))
        by_cases h0 : acc.length = 0
        · have h0' : ((acc.length : Int) == 0) = true := by rw [h0]; rfl
          have hno : lim L N (rd (f + 1) (40 :: s.data.toList.drop i)) = none := by
            rw [HO.out, HD.out]
            cases hd : s.data.toList.drop j with
            | nil => rfl
            | cons x q => rw [shut, if_neg (fun h => by have := h.2.1; omega)]; rfl
          have HN := Lib.hid hno
          clear hno h0 h32
          go_wp2_with fail
          refine HX.out.mono ?_
          rintro e wa ⟨rfl, rba, hga, hsa⟩
          have HSA := Lib.hid hsa
          clear hsa
          go_wp2_with fail
          go_ret2
          exact re_none (grownBy_trans hgB hga) hj rba HN.out
        · have h0' : ((acc.length : Int) == 0) = false := beq_eq_false_iff_ne.2 (by omega)
          by_cases h41 : s[j] = 41
          · have hyes : lim L N (rd (f + 1) (40 :: s.data.toList.drop i)) = some (.node c acc, s.data.toList.drop (j + 1)) := by
              rw [HO.out, HD.out, drop_at hlt, shut, if_pos ⟨h41, by omega, hal⟩, lim, if_pos]
              have h1 := HK.out.2.2.2.2.2.1
              have h2 := HK.out.2.2.2.2.2.2.1
              simp only [T.leaves, T.nodes]
              omega
            have HY := Lib.hid hyes
            have H41 := Lib.hid h41
            have H0 := Lib.hid h0
            clear hyes h41 h0 h32
            go_wp2_with fail
            refine HX.out.mono ?_
            rintro e wa ⟨rfl, rba, hga, hsa⟩
            have HSA := Lib.hid hsa
            clear hsa
            go_wp2_with fail
            refine (take_yes r s j L1 N1 41 41 wa rba hs hlt rfl H41.out).mono ?_
            rintro e wb ⟨rfl, rbb, hgb, hsb⟩
            have HSB := Lib.hid hsb
            clear hsb
            go_wp2_with fail
            go_ret2
            have h1 := HK.out.2.2.2.2.2.1
            have h2 := HK.out.2.2.2.2.2.2.1
            have hji : i < j + 1 := by
              have hsuf := HD.out
              have hl := kidsA_some (rd_some f) _ _ _ _ _ hsuf
              obtain ⟨more, _, _, e3⟩ := hl
              have := congrArg List.length e3
              simp only [List.length_append, drop_len_i] at this
              omega
            exact ⟨grownBy_below (grownBy_trans hgB (grownBy_trans hga hgb)) ((Below.refl _ _).alloc (Nat.le_refl _) _), j + 1, L1, N1, by omega, rbb.alloc _,
              .inr ⟨_, _, _, HY.out, by rw [T.wf]; exact ⟨HC.out.1, HC.out.2, by have := H0.out; omega, hal, HK.out.2.2.2.1⟩, hji, by rw [T.leaves]; exact h1, by rw [T.nodes]; omega, hL1, hN1, rfl, HK.out.rep hr0 (by have := H0.out; omega) (grownBy_trans hga hgb)⟩⟩
          · have hno : lim L N (rd (f + 1) (40 :: s.data.toList.drop i)) = none := by
              rw [HO.out, HD.out, drop_at hlt, shut, if_neg (fun h => h41 h.1)]; rfl
            have HN := Lib.hid hno
            have H41 := Lib.hid h41
            clear hno h41 h0 h32
            go_wp2_with fail
            refine HX.out.mono ?_
            rintro e wa ⟨rfl, rba, hga, hsa⟩
            have HSA := Lib.hid hsa
            clear hsa
            go_wp2_with fail
            refine (take_other r s j L1 N1 41 41 wa rba hs hlt rfl H41.out).mono ?_
            rintro e wb ⟨rfl, rbb, hgb, hsb⟩
            have HSB := Lib.hid hsb
            clear hsb
            go_wp2_with fail
            go_ret2
            exact re_none (grownBy_trans hgB (grownBy_trans hga hgb)) hj rbb HN.out
    · have HX : Hid (Calls Tryz.prog 117 #[.pointer (some ⟨r, 0, none⟩), .int .u8 32] wr (TakeNo r s j L1 N1 wr)) := Lib.hid (take_end r s j L1 N1 32 wr rb hs (by omega))
      have HD := Lib.hid (HK.out.done (fun h => absurd h hlt))
      by_cases h0 : acc.length = 0
      · have h0' : ((acc.length : Int) == 0) = true := by rw [h0]; rfl
        have hno : lim L N (rd (f + 1) (40 :: s.data.toList.drop i)) = none := by
          rw [HO.out, HD.out]
          cases hd : s.data.toList.drop j with
          | nil => rfl
          | cons x q => rw [shut, if_neg (fun h => by have := h.2.1; omega)]; rfl
        have HN := Lib.hid hno
        clear hno h0
        go_wp2_with fail
        refine HX.out.mono ?_
        rintro e wa ⟨rfl, rba, hga, hsa⟩
        have HSA := Lib.hid hsa
        clear hsa
        go_wp2_with fail
        go_ret2
        exact re_none (grownBy_trans hgB hga) hj rba HN.out
      · have h0' : ((acc.length : Int) == 0) = false := beq_eq_false_iff_ne.2 (by omega)
        have hno : lim L N (rd (f + 1) (40 :: s.data.toList.drop i)) = none := by
          rw [HO.out, HD.out, drop_end (by omega)]; rfl
        have HN := Lib.hid hno
        clear hno h0
        go_wp2_with fail
        refine HX.out.mono ?_
        rintro e wa ⟨rfl, rba, hga, hsa⟩
        have HSA := Lib.hid hsa
        clear hsa
        go_wp2_with fail
        refine (take_end r s j L1 N1 41 wa rba hs (by omega)).mono ?_
        rintro e wb ⟨rfl, rbb, hgb, hsb⟩
        have HSB := Lib.hid hsb
        clear hsb
        go_wp2_with fail
        go_ret2
        exact re_none (grownBy_trans hgB (grownBy_trans hga hgb)) hj rbb HN.out

end Go.Proofs.YtoeebipahifpcaaGreat
end
end
section
/- Merged out of: XKReadIC, XLawA. -/
section
/- Merged out of: XReadIC, XSizeI, XLawAC. -/
section
/- The program's reader: '(*treeReader).tree' and 'readTree'. -/
namespace Go.Proofs.YtoeebipahifpcaaGreat
open Go.RowKit

/-- The node's contract at one fuel. -/
theorem node_any (r : Nat) (s : ByteArray) (i L N f : Nat) (w : World) (hs : s.size ≤ 140737488351232) (hi : i ≤ s.size) (hL : L ≤ 12) (hN : N + 1 ≤ 16) (hf : 17 ≤ N + 1 + f) (hb : RB w r s i L (N + 1)) (ih : TreeSaid f) :
    Calls Tryz.prog 118 #[.pointer (some ⟨r, 0, none⟩)] w (RePost (lim L N (rd (f + 1) (40 :: s.data.toList.drop i))) r s i L N w) := by
  by_cases hc : ∃ h : i < s.size, 97 ≤ (s[i].toNat : Int) ∧ (s[i].toNat : Int) ≤ 104
  · obtain ⟨h1, h2, h3⟩ := hc
    exact node_walk r s i L N f w hs h1 hL hN hf hb h2 h3 ih
  · refine node_noletter r s i L N f w hs hi hb (fun h => ?_)
    have : ¬ (97 ≤ (s[i].toNat : Int) ∧ (s[i].toNat : Int) ≤ 104) := fun e => hc ⟨h, e⟩
    omega

/-- Neither a star nor a parenthesis is taken. -/
theorem lim_other {s : ByteArray} {i L N f : Nat} (hi : i ≤ s.size) (h42 : ∀ h : i < s.size, s[i] = 42 → ¬ L < 12) (h40 : ∀ h : i < s.size, s[i] = 40 → ¬ N < 16) : lim L N (rd (f + 1) (s.data.toList.drop i)) = none := by
  by_cases hlt : i < s.size
  · rw [drop_at hlt]
    by_cases h1 : s[i] = 42
    · rw [h1, show rd (f + 1) (42 :: s.data.toList.drop (i + 1)) = some (.leaf, s.data.toList.drop (i + 1)) from by simp [rd], lim, if_neg]
      have := h42 hlt h1
      simp only [T.leaves]; omega
    · by_cases h2 : s[i] = 40
      · have h3 := h40 hlt h2
        cases hr : rd (f + 1) (s[i] :: s.data.toList.drop (i + 1)) with
        | none => rfl
        | some p =>
          obtain ⟨t, q⟩ := p
          obtain ⟨hw, ht⟩ := rd_some _ _ _ _ hr
          rw [lim, if_neg]
          cases t with
          | leaf => rw [h2] at ht; simp [T.text] at ht
          | node c ks => simp only [T.nodes]; omega
      · rw [rd_other h1 h2, lim]
  · rw [drop_end (by omega)]; rfl

theorem re_shape {o : Option (T × List UInt8)} {r : Nat} {s : ByteArray} {i L N : Nat} {w w' : World} {e : Ending} (h : RePost o r s i L N w e w') :
    e = .returned (.tuple #[.nilIface, .bool false]) ∨ ∃ ty a, e = .returned (.tuple #[.iface ty (.pointer (some a)), .bool true]) := by
  obtain ⟨_, i', L', N', _, _, h | ⟨t, ty, a, _, _, _, _, _, _, _, h, _⟩⟩ := h
  · exact .inl h.2
  · exact .inr ⟨ty, a, h⟩

/-- A byte is taken or is not. -/
theorem take_no (r : Nat) (s : ByteArray) (i L N : Nat) (c : UInt8) (n : Int) (w : World) (hb : RB w r s i L N) (hs : s.size ≤ 140737488351232) (hi : i ≤ s.size) (hn : n = (c.toNat : Int)) (hc : ∀ h : i < s.size, s[i] ≠ c) :
    Calls Tryz.prog 117 #[.pointer (some ⟨r, 0, none⟩), .int .u8 n] w (TakeNo r s i L N w) := by
  by_cases h : i < s.size
  · exact take_other r s i L N c n w hb hs h hn (hc h)
  · exact take_end r s i L N n w hb hs (by omega)

set_option maxRecDepth 100000 in
set_option maxHeartbeats 1000000 in
theorem tree_leaf (r : Nat) (s : ByteArray) (i L N f : Nat) (w : World) (hs : s.size ≤ 140737488351232) (hi : i < s.size) (hL : L < 12) (hN : N ≤ 16) (hb : RB w r s i L N) (h42 : s[i] = 42) :
    Calls Tryz.prog 110 #[.pointer (some ⟨r, 0, none⟩)] w (RePost (lim L N (rd (f + 1) (s.data.toList.drop i))) r s i L N w) := by
  have ho : lim L N (rd (f + 1) (s.data.toList.drop i)) = some (.leaf, s.data.toList.drop (i + 1)) := by
    rw [drop_at hi, h42, show rd (f + 1) (42 :: s.data.toList.drop (i + 1)) = some (.leaf, s.data.toList.drop (i + 1)) from by simp [rd], lim, if_pos]
    simp only [T.leaves, T.nodes]; omega
  have HO := Lib.hid ho
  have HT := Lib.hid (take_yes r s i L N 42 42 w hb hs hi rfl h42)
  obtain ⟨c0, c1, c2, c3, f1, f2, f3⟩ := hb.cells
  have hr0 := hb.lt
  clear ho h42 hb
  go_enter Tryz.func110, Tryz.ntmps110
  go_wp2_with fail
  refine HT.out.mono ?_
  rintro e wa ⟨rfl, rba, hga, hsa⟩
  have HSA := Lib.hid hsa
  obtain ⟨d0, d1, d2, d3, g1, g2, g3⟩ := rba.cells
  have HRB := Lib.hid rba
  clear hsa rba c0 c1 c2 c3 f1 f2 f3
  go_wp2_with fail
  go_ret2
  have h1 := heap_setCell_same (k := 2) HRB.out (.int .i64 (L + 1))
  have h2 : RB (wa.setCell ⟨r, 2, none⟩ (.int .i64 (L + 1))) r s (i + 1) (L + 1) N := by
    unfold RB
    refine Eq.trans h1 ?_
    rfl
  refine ⟨grownBy_below (grownBy_setCell hga _) ((Below.refl _ _).alloc (Nat.le_refl _) _), i + 1, L + 1, N, by omega, h2.alloc _, .inr ⟨.leaf, _, _, HO.out, by simp [T.wf], by omega, by simp [T.leaves], by simp [T.nodes], by omega, hN, rfl, ?_⟩⟩
  rw [RepI]

set_option maxRecDepth 100000 in
set_option maxHeartbeats 1000000 in
theorem tree_none (r : Nat) (s : ByteArray) (i L N f : Nat) (w : World) (hs : s.size ≤ 140737488351232) (hi : i ≤ s.size) (hL : L ≤ 12) (hN : N ≤ 16) (hb : RB w r s i L N) (h42 : ∀ h : i < s.size, s[i] = 42 → ¬ L < 12) (h40 : ∀ h : i < s.size, s[i] = 40 → ¬ N < 16) :
    Calls Tryz.prog 110 #[.pointer (some ⟨r, 0, none⟩)] w (RePost (lim L N (rd (f + 1) (s.data.toList.drop i))) r s i L N w) := by
  have HO := Lib.hid (lim_other (f := f) hi h42 h40)
  obtain ⟨c0, c1, c2, c3, f1, f2, f3⟩ := hb.cells
  have HB := Lib.hid hb
  by_cases hl : L < 12
  · have HT := Lib.hid (take_no r s i L N 42 42 w hb hs hi rfl (fun h e => h42 h e hl))
    by_cases hn : N < 16
    · have HU : Hid (∀ w, RB w r s i L N → Calls Tryz.prog 117 #[.pointer (some ⟨r, 0, none⟩), .int .u8 40] w (TakeNo r s i L N w)) := Lib.hid (fun w hb => take_no r s i L N 40 40 w hb hs hi rfl (fun h e => h40 h e hn))
      clear h42 h40 hb
      go_enter Tryz.func110, Tryz.ntmps110
      go_wp2_with fail
      refine HT.out.mono ?_
      rintro e wa ⟨rfl, rba, hga, hsa⟩
      have HSA := Lib.hid hsa
      obtain ⟨d0, d1, d2, d3, g1, g2, g3⟩ := rba.cells
      clear hsa c0 c1 c2 c3 f1 f2 f3
      go_wp2_with fail
      refine (HU.out wa rba).mono ?_
      rintro e wb ⟨rfl, rbb, hgb, hsb⟩
      have HSB := Lib.hid hsb
      clear hsb
      go_wp2_with fail
      go_ret2
      exact re_none (grownBy_trans hga hgb) hi rbb HO.out
    · clear h42 h40 hb
      have hn16 : decide ((N : Int) < 16) = false := decide_eq_false (by omega)
      go_enter Tryz.func110, Tryz.ntmps110
      go_wp2_with fail
      refine HT.out.mono ?_
      rintro e wa ⟨rfl, rba, hga, hsa⟩
      have HSA := Lib.hid hsa
      obtain ⟨d0, d1, d2, d3, g1, g2, g3⟩ := rba.cells
      clear hsa c0 c1 c2 c3 f1 f2 f3
      go_wp2_with fail
      go_ret2
      exact re_none hga hi rba HO.out
  · have hl12 : decide ((L : Int) < 12) = false := decide_eq_false (by omega)
    by_cases hn : N < 16
    · have HU := Lib.hid (take_no r s i L N 40 40 w hb hs hi rfl (fun h e => h40 h e hn))
      clear h42 h40 hb
      go_enter Tryz.func110, Tryz.ntmps110
      go_wp2_with fail
      refine HU.out.mono ?_
      rintro e wb ⟨rfl, rbb, hgb, hsb⟩
      have HSB := Lib.hid hsb
      clear hsb
      go_wp2_with fail
      go_ret2
      exact re_none hgb hi rbb HO.out
    · clear h42 h40 hb
      have hn16 : decide ((N : Int) < 16) = false := decide_eq_false (by omega)
      go_enter Tryz.func110, Tryz.ntmps110
      go_wp2_with fail
      go_ret2
      exact re_none (grownBy_refl _ _) hi HB.out HO.out

set_option maxRecDepth 100000 in
set_option maxHeartbeats 1000000 in
theorem tree_node (r : Nat) (s : ByteArray) (i L N f : Nat) (w : World) (hs : s.size ≤ 140737488351232) (hi : i < s.size) (hL : L ≤ 12) (hN : N < 16) (hf : 17 ≤ N + (f + 1)) (hb : RB w r s i L N) (h40 : s[i] = 40) (ih : TreeSaid f) :
    Calls Tryz.prog 110 #[.pointer (some ⟨r, 0, none⟩)] w (RePost (lim L N (rd (f + 1) (s.data.toList.drop i))) r s i L N w) := by
  have HO : Hid (s.data.toList.drop i = 40 :: s.data.toList.drop (i + 1)) := Lib.hid (by rw [drop_at hi, h40])
  obtain ⟨c0, c1, c2, c3, f1, f2, f3⟩ := hb.cells
  have HU : Hid (∀ w, RB w r s i L N → Calls Tryz.prog 117 #[.pointer (some ⟨r, 0, none⟩), .int .u8 40] w (TakeYes r s i L N w)) := Lib.hid (fun w hb => take_yes r s i L N 40 40 w hb hs hi rfl h40)
  have HN : Hid (∀ w, RB w r s (i + 1) L (N + 1) → Calls Tryz.prog 118 #[.pointer (some ⟨r, 0, none⟩)] w (RePost (lim L N (rd (f + 1) (40 :: s.data.toList.drop (i + 1)))) r s (i + 1) L N w)) :=
    Lib.hid (fun w hb => node_any r s (i + 1) L N f w hs (by omega) hL (by omega) (by omega) hb ih)
  have HT := Lib.hid (take_no r s i L N 42 42 w hb hs (by omega) rfl (fun h e => by rw [h40] at e; cases e))
  have HB := Lib.hid hb
  have hr0 := hb.lt
  clear h40 ih
  have fin : ∀ (wa : World), w.grownBy wa (some r) → RB wa r s (i + 1) L N → ∀ e wz, RePost (lim L N (rd (f + 1) (40 :: s.data.toList.drop (i + 1)))) r s (i + 1) L N (wa.setCell ⟨r, 3, none⟩ (.int .i64 (N + 1))) e wz → RePost (lim L N (rd (f + 1) (s.data.toList.drop i))) r s i L N w e wz := by
    intro wa hga rba e wz hp
    obtain ⟨hg, i', L', N', hi', hrb, hres⟩ := hp
    refine ⟨grownBy_trans (grownBy_setCell hga _) hg, i', L', N', hi', hrb, ?_⟩
    rw [HO.out]
    rcases hres with h | ⟨t, ty, a, e1, e2, e3, e4, e5, e6, e7, e8, e9⟩
    · exact .inl h
    · refine .inr ⟨t, ty, a, e1, e2, by omega, e4, e5, e6, e7, e8, ?_⟩
      refine e9.keep (fun _ _ _ h => h) (fun b hb' _ => ?_) e2
      have := hga.size
      simp at hb'; omega
  have rbs : ∀ (wa : World), RB wa r s (i + 1) L N → RB (wa.setCell ⟨r, 3, none⟩ (.int .i64 (N + 1))) r s (i + 1) L (N + 1) := by
    intro wa rba
    have h1 := heap_setCell_same (k := 3) rba (.int .i64 (N + 1))
    unfold RB
    refine Eq.trans h1 ?_
    rfl
  have FIN := Lib.hid fin
  have RBS := Lib.hid rbs
  clear fin rbs hb
  by_cases hl : L < 12
  · go_enter Tryz.func110, Tryz.ntmps110
    go_wp2_with fail
    refine HT.out.mono ?_
    rintro e wa ⟨rfl, rba, hga, hsa⟩
    have HSA := Lib.hid hsa
    obtain ⟨d0, d1, d2, d3, g1, g2, g3⟩ := rba.cells
    clear hsa c0 c1 c2 c3 f1 f2 f3
    go_wp2_with fail
    refine (HU.out wa rba).mono ?_
    rintro e wb ⟨rfl, rbb, hgb, hsb⟩
    have HSB := Lib.hid hsb
    obtain ⟨b0, b1, b2, b3, k1, k2, k3⟩ := rbb.cells
    clear hsb d0 d1 d2 d3 g1 g2 g3
    go_wp2_with fail
    refine (HN.out _ (RBS.out wb rbb)).mono ?_
    intro e wz hp
    have HF := Lib.hid (FIN.out wb (grownBy_trans hga hgb) rbb e wz hp)
    have he := re_shape hp
    clear hp
    rcases he with rfl | ⟨ty, a, rfl⟩
    · go_wp2_with fail
      go_ret2
      exact HF.out
    · go_wp2_with fail
      go_ret2
      exact HF.out
  · have hl12 : decide ((L : Int) < 12) = false := decide_eq_false (by omega)
    go_enter Tryz.func110, Tryz.ntmps110
    go_wp2_with fail
    refine (HU.out w HB.out).mono ?_
    rintro e wb ⟨rfl, rbb, hgb, hsb⟩
    have HSB := Lib.hid hsb
    obtain ⟨b0, b1, b2, b3, k1, k2, k3⟩ := rbb.cells
    clear hsb c0 c1 c2 c3 f1 f2 f3
    go_wp2_with fail
    refine (HN.out _ (RBS.out wb rbb)).mono ?_
    intro e wz hp
    have HF := Lib.hid (FIN.out wb hgb rbb e wz hp)
    have he := re_shape hp
    clear hp
    rcases he with rfl | ⟨ty, a, rfl⟩
    · go_wp2_with fail
      go_ret2
      exact HF.out
    · go_wp2_with fail
      go_ret2
      exact HF.out

theorem tree_any : ∀ f, TreeSaid f := by
  intro f
  induction f with
  | zero => intro r s i L N w _ _ _ hN hf; omega
  | succ f ih =>
    intro r s i L N w hs hi hL hN hf hb
    by_cases hlt : i < s.size
    · by_cases h42 : s[i] = 42 ∧ L < 12
      · exact tree_leaf r s i L N f w hs hlt h42.2 hN hb h42.1
      · by_cases h40 : s[i] = 40 ∧ N < 16
        · exact tree_node r s i L N f w hs hlt hL h40.2 hf hb h40.1 ih
        · exact tree_none r s i L N f w hs hi hL hN hb (fun _ e hl => h42 ⟨e, hl⟩) (fun _ e hn => h40 ⟨e, hn⟩)
    · exact tree_none r s i L N f w hs hi hL hN hb (fun h => absurd h hlt) (fun h => absurd h hlt)

/-- What 'readTree' answers. -/
def RtPost (s : ByteArray) (w : World) (e : Ending) (w' : World) : Prop :=
  Below w.heap.size w w' ∧
    ((parse s.data.toList = none ∧ e = .returned (.tuple #[.nilIface, .bool false])) ∨
     ∃ t ty a, parse s.data.toList = some t ∧ e = .returned (.tuple #[.iface ty (.pointer (some a)), .bool true]) ∧ RepI w' (fun b => w.heap.size ≤ b) t ty a)

theorem below_of_new {w w1 w2 : World} {X : Obj} (h : w1 = w.alloc X) (hg : w1.grownBy w2 (some w.heap.size)) : Below w.heap.size w w2 := by
  subst h
  exact ⟨hg.os, hg.tape, hg.output, by have := hg.size; simp at this; omega, fun k hk => by rw [hg.block k (by simp; omega) (by simp; omega), Below.heap_alloc _ _ _ hk]⟩

set_option maxRecDepth 100000 in
set_option maxHeartbeats 1000000 in
theorem readTree_any (s : ByteArray) (w : World) (hs : s.size ≤ 140737488351232) :
    Calls Tryz.prog 96 #[.string s] w (RtPost s w) := by
  have hrb : RB (w.alloc (.cells #[.string s, .int .i64 0, .int .i64 0, .int .i64 0] 174)) w.heap.size s 0 0 0 := by
    unfold RB; exact heap_alloc_new _ _
  have HRB := Lib.hid hrb
  have HW := Lib.hid (lim_whole (s := s.data.toList))
  clear hrb
  go_enter Tryz.func96, Tryz.ntmps96
  go_wp2_with fail
  refine (tree_any 17 w.heap.size s 0 0 0 _ hs (Nat.zero_le _) (by omega) (by omega) (by omega) HRB.out).mono ?_
  intro e w1 hp
  have HP := Lib.hid hp
  obtain ⟨hg, i', L', N', hi', rb, hres⟩ := hp
  obtain ⟨c0, c1, c2, c3, f1, f2, f3⟩ := rb.cells
  have hB := below_of_new rfl hg
  rcases hres with ⟨hno, rfl⟩ | ⟨t, ty, a, hyes, htw, hlt, hL, hN, hL2, hN2, rfl, hrep⟩
  · have hn : parse s.data.toList = none := by
      rw [← HW.out]; rw [List.drop_zero] at hno; rw [hno]
    have HN := Lib.hid hn
    clear hno hn
    go_wp2_with fail
    go_ret2
    exact ⟨hB, .inl ⟨HN.out, rfl⟩⟩
  · by_cases hfull : i' = s.size
    · have hn : parse s.data.toList = some t := by
        rw [← HW.out]; rw [List.drop_zero, drop_end (by omega)] at hyes; rw [hyes]
      have HN := Lib.hid hn
      have hne : ((i' : Int) != (s.size : Int)) = false := by simp; omega
      have HR := Lib.hid (hrep.keep (P' := fun b => w.heap.size ≤ b) (fun _ _ _ h => h) (fun b h _ => by simp at h; omega) htw)
      clear hyes hn hL hN hfull hrep
      go_wp2_with fail
      go_ret2
      exact ⟨hB, .inr ⟨t, ty, a, HN.out, rfl, HR.out⟩⟩
    · have hn : parse s.data.toList = none := by
        rw [← HW.out]; rw [List.drop_zero] at hyes; rw [hyes]
        have : (s.data.toList.drop i').length ≠ 0 := by rw [drop_len_i]; omega
        cases hd : s.data.toList.drop i' with
        | nil => rw [hd] at this; simp at this
        | cons x q => rfl
      have HN := Lib.hid hn
      have hne : ((i' : Int) != (s.size : Int)) = true := by simp; omega
      clear hyes hn hL hN hrep
      go_wp2_with fail
      go_ret2
      exact ⟨hB, .inl ⟨HN.out, rfl⟩⟩

end Go.Proofs.YtoeebipahifpcaaGreat
end
section
/- The program: leaves and nodes counted through the interface. -/
namespace Go.Proofs.YtoeebipahifpcaaGreat
open Go.RowKit

theorem leafLeaves_any (a : Addr) (w : World) : Calls Tryz.prog 143 #[.pointer (some a)] w fun e w' => e = .returned (.int .i64 1) ∧ w = w' := by
  go_enter Tryz.func143, Tryz.ntmps143
  go_wp2_with fail
  go_ret
  exact ⟨rfl, rfl⟩

set_option maxHeartbeats 400000 in
theorem nodeLeaves_any (n : Nat) : ∀ (c : UInt8) (ks : List T) (ty : TypeId) (a : Addr) (w : World) (P : Nat → Prop), SizeOf.sizeOf ks ≤ n → T.wfL ks → T.leavesL ks < 1000000 → RepI w P (.node c ks) ty a →
    Calls Tryz.prog 137 #[.pointer (some a)] w fun e w' => e = .returned (.int .i64 (0 + T.leavesL ks : Nat)) ∧ w = w' := by
  induction n with
  | zero => intro c ks ty a w P h; cases ks <;> simp at h <;> omega
  | succ n ih =>
    intro c ks ty a w P hn hwf hlt hr
    rw [RepI] at hr
    obtain ⟨_, b, g, cap, rfl, hPb, hPg, h0, h1, h6, hL⟩ := hr
    have HL := Lib.hid hL
    have HW := Lib.hid hwf
    clear hL hwf
    go_enter Tryz.func137, Tryz.ntmps137
    go_wp2_with fail
    go_loop [3, 11] (fun v i => ∃ k : Nat, k ≤ ks.length ∧ i = .int .i64 k ∧ v = .int .i64 (0 + T.leavesL (ks.take k) : Nat)) (fun _ i => ks.length - (intOf i).toNat)
    case atStart => exact ⟨0, Nat.zero_le _, rfl, by simp [T.leavesL]⟩
    case round =>
      obtain ⟨k, hk', rfl, rfl⟩ := hrel
      by_cases hlt' : k < ks.length
      · obtain ⟨ty', a', d1, d2⟩ := HL.out.get k hlt'
        have hwk := wfL_get HW.out k hlt'
        have hd : SizeOf.sizeOf ks[k] < SizeOf.sizeOf ks := List.sizeOf_lt_of_mem (List.getElem_mem hlt')
        have hle := leavesL_take_le (ks := ks) (k + 1)
        have hlv := leavesL_take hlt'
        have hsum : T.leavesL (ks.take k) + (ks[k]).leaves < 1000000 := by omega
        have HV := Lib.hid hlv
        rw [Nat.zero_add] at d1
        clear hlv
        cases hkk : ks[k] with
        | leaf =>
          rw [hkk] at d2 HV hsum
          rw [RepI] at d2
          subst d2
          have HK := Lib.hid hkk
          clear hkk hd hwk
          go_wp2_with (go_at_call 143; refine (leafLeaves_any _ _).mono ?_; rintro e w' ⟨rfl, rfl⟩)
          go_round
          case rel => exact ⟨k + 1, by omega, by go_num, by rw [HV.out, T.leaves]; go_num⟩
          case measure => simp [intOf]; omega
        | node c' ks' =>
          rw [hkk] at d2 HV hsum hd hwk
          have hty : ty' = 105 := by rw [RepI] at d2; exact d2.1
          subst hty
          have HK := Lib.hid hkk
          have HD := Lib.hid d2
          have hsz : SizeOf.sizeOf ks' ≤ n := by simp only [T.node.sizeOf_spec] at hd; omega
          have hwk' : T.wfL ks' := by rw [T.wf] at hwk; exact hwk.2.2.2.2
          have hl' : T.leavesL ks' < 1000000 := by rw [T.leaves] at hsum; omega
          rw [T.leaves] at hsum
          have HC := Lib.hid (fun w => ih c' ks' 105 a' w P hsz hwk' hl')
          clear hkk hd hwk d2 hwk' ih
          go_wp2_with (go_at_call 137; refine (HC.out _ HD.out).mono ?_; rintro e w' ⟨rfl, rfl⟩)
          go_round
          case rel => exact ⟨k + 1, by omega, by go_num, by rw [HV.out, T.leaves]; go_num⟩
          case measure => simp [intOf]; omega
      · have hkk : k = ks.length := by omega
        have HK := Lib.hid hkk
        clear hkk
        go_wp2_with fail
        go_ret
        exact ⟨by rw [HK.out, List.take_length]; rfl, rfl⟩

end Go.Proofs.YtoeebipahifpcaaGreat
end
section
/- Contracts of the functions that only ask of one text: valid, leaves, nodes; on both sides. -/
namespace Go.Proofs.YtoeebipahifpcaaGreat
open Go.RowKit

theorem own : ownKnob Tryz.prog.godebug = none := by kernel_rfl

theorem laidOut : laidOutB Tryz.prog = true := by kernel_rfl

/-- What a call answers that only makes memory. -/
def Ans (v : Value) (w : World) (e : Ending) (w' : World) : Prop := e = .returned v ∧ Below w.heap.size w w'

end Go.Proofs.YtoeebipahifpcaaGreat
end
end
section
/- Contracts of the functions that only ask of one text: valid, leaves, nodes; on both sides. (what the exact laws want besides) -/
namespace Go.Proofs.YtoeebipahifpcaaGreat
open Go.RowKit

end Go.Proofs.YtoeebipahifpcaaGreat
end
end
