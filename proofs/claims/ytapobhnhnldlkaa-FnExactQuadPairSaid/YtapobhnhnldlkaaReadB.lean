/- The model's reader at a node: its loop over the kids. -/
import Derived.Test.YtapobhnhnldlkaaKRead
namespace Go.Proofs.Ytapobhnhnldlkaa
open Go.RowKit

/-- What holds ahead of each round of 'l1Read''s loop. -/
def KidRel (w : World) (c : UInt8) (s : ByteArray) (i f j : Nat) (acc : List T) (v : Value) (xs : List Value) (wr : World) : Prop :=
  wr.heap[w.heap.size]? = some (.cells #[.string ⟨#[]⟩, .slice none 0 0] 44 (0, 0)) ∧
  wr.heap[w.heap.size + 1]? = some (.cells #[.string ⟨#[c]⟩, v] 44 (0, 0)) ∧
  wr.ownsRow (w.heap.size + 2) 44 2 v acc.length xs ∧
  (∀ k (h : k < acc.length), ∃ l sl, xs[k * 2]? = some l ∧ xs[k * 2 + 1]? = some sl ∧ RepS wr (fun b => w.heap.size + 2 ≤ b ∧ v.ownBlock ≠ some b) acc[k] l sl) ∧
  T.wfL acc ∧ acc.length ≤ j ∧
  (∃ n, s.size - j ≤ n ∧ kidsA (rd f) n acc (s.data.toList.drop j) = kidsA (rd f) (s.data.toList.drop (i + 2)).length [] (s.data.toList.drop (i + 2))) ∧
  Below w.heap.size w wr

theorem drop_len (s : ByteArray) (j : Nat) : (s.data.toList.drop j).length = s.size - j := by simp

/-- A round that goes on: one kid more. -/
theorem KidRel.next {w : World} {c : UInt8} {s : ByteArray} {i f j j' : Nat} {acc : List T} {va : Option Addr} {vn vc : Nat} {xs : List Value} {wr w1 w2 : World} {t : T} {lb : ByteArray} {sa : Option Addr} {sn sc g cap : Nat} {X Y : Obj}
    (h : KidRel w c s i f j acc (.slice va vn vc) xs wr) (hb1 : Below wr.heap.size wr w1) (hrep : RepS w1 (fun b => wr.heap.size ≤ b) t (.string lb) (.slice sa sn sc))
    (hyes : rd f (s.data.toList.drop (j + 1)) = some (t, s.data.toList.drop j')) (hj : j + 1 < j') (hlt : j < s.size) (h32 : s[j] = 32)
    (hown : w2.ownsRow (w.heap.size + 2) 44 2 (.slice (some ⟨g, 0, none⟩) (acc.length + 1) cap) (acc.length + 1) (xs ++ [.string lb, .slice sa sn sc]))
    (hg : ((w1.alloc X).alloc Y).grownBy w2 (Value.slice va vn vc).ownBlock) (hf : (Value.slice va vn vc).ownBlock = some g ∨ g = ((w1.alloc X).alloc Y).heap.size) :
    KidRel w c s i f j' (acc ++ [t]) (.slice (some ⟨g, 0, none⟩) (acc.length + 1) cap) (xs ++ [.string lb, .slice sa sn sc]) (w2.setCell ⟨w.heap.size + 1, 1, none⟩ (.slice (some ⟨g, 0, none⟩) (acc.length + 1) cap)) := by
  obtain ⟨b0, b1, own, reps, hwf, hal, ⟨n, hn, hk⟩, hB⟩ := h
  have hl0 := (Array.getElem?_eq_some_iff.1 b0).1
  have hl1 := (Array.getElem?_eq_some_iff.1 b1).1
  have hsz := hb1.size
  have hown0 := own.lt
  have htw : t.wf := (rd_some _ _ _ _ hyes).1
  have hxl : xs.length = acc.length * 2 := own.1
  -- a block of before that isn't the row's reads as before
  have hblk : ∀ b, b < w1.heap.size → (Value.slice va vn vc).ownBlock ≠ some b → b ≠ w.heap.size + 1 → (w2.setCell ⟨w.heap.size + 1, 1, none⟩ (.slice (some ⟨g, 0, none⟩) (acc.length + 1) cap)).heap[b]? = w1.heap[b]? := by
    intro b hb hne hn1
    rw [Below.heap_setCell _ _ _ _ (by simpa using hn1), hg.block b (by simp; omega) (fun e => hne e.symm), Below.heap_alloc _ _ _ (by simp; omega), Below.heap_alloc _ _ _ hb]
  have hne0 : ∀ b, b < w.heap.size + 2 → (Value.slice va vn vc).ownBlock ≠ some b := fun b hb e => by have := (hown0 b e).1; omega
  refine ⟨?_, ?_, ?_, ?_, ?_, ?_, ?_, ?_⟩
  · rw [hblk _ (by omega) (hne0 _ (by omega)) (by omega), hb1.block _ hl0, b0]
  · have : w2.heap[w.heap.size + 1]? = some (.cells #[.string ⟨#[c]⟩, .slice va vn vc] 44 (0, 0)) := by
      rw [hg.block _ (by simp; omega) (fun e => hne0 _ (by omega) e.symm), Below.heap_alloc _ _ _ (by simp; omega), Below.heap_alloc _ _ _ (by omega), hb1.block _ hl1, b1]
    rw [heap_setCell_same this]; rfl
  · rw [List.length_append]
    exact ownsRow_setCell_below hown (by simp) _
  · intro k hk'
    have hp : ∀ b, w.heap.size + 2 ≤ b ∧ (Value.slice va vn vc).ownBlock ≠ some b → b < wr.heap.size → w.heap.size + 2 ≤ b ∧ (Value.slice (some ⟨g, 0, none⟩) (acc.length + 1) cap).ownBlock ≠ some b := by
      intro b hb hlt
      refine ⟨hb.1, fun e => ?_⟩
      simp only [Value.ownBlock, Option.some.injEq] at e
      subst e
      rcases hf with e | e
      · exact hb.2 e
      · simp at e; omega
    by_cases hka : k < acc.length
    · obtain ⟨l, sl, e1, e2, e3⟩ := reps k hka
      refine ⟨l, sl, by rw [List.getElem?_append_left (by omega)]; exact e1, by rw [List.getElem?_append_left (by omega)]; exact e2, ?_⟩
      rw [List.getElem_append_left hka]
      refine e3.keep (w := wr) ?_ hp (wfL_get hwf k hka)
      intro a u ha hu
      have hab := World.block_lt_of_cell? wr a hu
      rw [World.cell?_of_block (hblk a.block (by omega) ha.2 (by have := ha.1; omega)), World.cell?_of_block (hb1.block a.block hab)]
      exact hu
    · have hke : k = acc.length := by simp at hk'; omega
      subst hke
      refine ⟨.string lb, .slice sa sn sc, by rw [List.getElem?_append_right (by omega), hxl]; simp, by rw [List.getElem?_append_right (by omega), hxl]; simp, ?_⟩
      rw [List.getElem_append_right (by omega)]
      simp only [Nat.sub_self, List.getElem_singleton]
      have hneo : ∀ b, wr.heap.size ≤ b → (Value.slice va vn vc).ownBlock ≠ some b := fun b hb e => by have := (hown0 b e).2; omega
      refine hrep.keep (w := w1) ?_ ?_ htw
      · intro a u ha hu
        have hab := World.block_lt_of_cell? w1 a hu
        rw [World.cell?_of_block (hblk a.block hab (hneo _ ha) (by omega))]
        exact hu
      · intro b hb hlt
        refine ⟨by omega, fun e => ?_⟩
        simp only [Value.ownBlock, Option.some.injEq] at e
        subst e
        rcases hf with e | e
        · exact hneo _ hb e
        · simp at e; omega
  · rw [wfL_append]; exact ⟨hwf, by simp [T.wfL, htw]⟩
  · simp; omega
  · refine ⟨n - 1, by omega, ?_⟩
    rw [← hk, drop_at hlt, h32]
    obtain ⟨m, rfl⟩ : ∃ m, n = m + 1 := ⟨n - 1, by omega⟩
    simp only [kidsA, if_true, hyes, Nat.add_sub_cancel]
  · refine (((hB.trans (hb1.mono (by omega))).alloc (by omega) X).alloc (by simp; omega) Y |>.grown hg (by simp; omega) ?_).setCell (by simp) _
    intro k e
    have := (hown0 k e).1; omega

theorem KidRel.fail {w : World} {c : UInt8} {s : ByteArray} {i f j : Nat} {acc : List T} {v : Value} {xs : List Value} {wr : World}
    (h : KidRel w c s i f j acc v xs wr) (hno : rd f (s.data.toList.drop (j + 1)) = none) (hlt : j < s.size) (h32 : s[j] = 32) :
    shut c (kidsA (rd f) (s.data.toList.drop (i + 2)).length [] (s.data.toList.drop (i + 2))) = none := by
  obtain ⟨b0, b1, own, reps, hwf, hal, ⟨n, hn, hk⟩, hB⟩ := h
  rw [← hk, drop_at hlt, h32]
  obtain ⟨m, rfl⟩ : ∃ m, n = m + 1 := ⟨n - 1, by omega⟩
  simp only [kidsA, if_true, hno, shut]

theorem KidRel.start (w : World) (c : UInt8) (s : ByteArray) (i f : Nat) (_hi : i + 1 < s.size) (_hs : s.size ≤ 200) :
    KidRel w c s i f (i + 2) [] (.slice none 0 0) [] ((w.alloc (.cells #[.string ⟨#[]⟩, .slice none 0 0] 44)).alloc (.cells #[.string ⟨#[c]⟩, .slice none 0 0] 44)) := by
  refine ⟨?_, ?_, World.ownsRow_nil _ _ _ _, fun k h => by simp at h, by simp [T.wfL], by simp, ⟨_, ?_, rfl⟩, ((Below.refl _ _).alloc (Nat.le_refl _) _).alloc (by simp) _⟩
  · rw [Below.heap_alloc _ _ _ (by simp)]; exact heap_alloc_new w _
  · have := heap_alloc_new (w.alloc (.cells #[.string ⟨#[]⟩, .slice none 0 0] 44)) (.cells #[.string ⟨#[c]⟩, .slice none 0 0] 44)
    simpa using this
  · rw [drop_len]; omega

theorem KidRel.done {w : World} {c : UInt8} {s : ByteArray} {i f j : Nat} {acc : List T} {v : Value} {xs : List Value} {wr : World}
    (h : KidRel w c s i f j acc v xs wr) (h32 : ∀ h : j < s.size, s[j] ≠ 32) :
    kidsA (rd f) (s.data.toList.drop (i + 2)).length [] (s.data.toList.drop (i + 2)) = some (acc, s.data.toList.drop j) := by
  obtain ⟨b0, b1, own, reps, hwf, hal, ⟨n, hn, hk⟩, hB⟩ := h
  rw [← hk]
  cases n with
  | zero => rfl
  | succ n =>
    by_cases hlt : j < s.size
    · rw [drop_at hlt, kidsA, if_neg (h32 hlt)]
    · rw [drop_end (by omega)]; rfl

/-- The node is read: how it lies. -/
theorem KidRel.rep {w : World} {c : UInt8} {s : ByteArray} {i f j : Nat} {acc : List T} {va : Option Addr} {vn vc : Nat} {xs : List Value} {wr : World}
    (h : KidRel w c s i f j acc (.slice va vn vc) xs wr) (h1 : 1 ≤ acc.length) (h6 : acc.length ≤ 6) :
    RepS ((wr.setCell ⟨w.heap.size, 0, none⟩ (.string ⟨#[c]⟩)).setCell ⟨w.heap.size, 1, none⟩ (.slice va vn vc)) (fun b => w.heap.size ≤ b) (.node c acc) (.string ⟨#[c]⟩) (.slice va vn vc) := by
  obtain ⟨b0, b1, own, reps, hwf, hal, _, hB⟩ := h
  have own0 := own
  rcases own.2 with ⟨_, e⟩ | ⟨g, cap, cur, e, hbg, hgg, hnc, hcm, hcs, htake⟩
  · omega
  · simp only [Value.slice.injEq] at e
    obtain ⟨rfl, rfl, rfl⟩ := e
    have hkeep : Keeps (fun b => w.heap.size + 2 ≤ b) wr ((wr.setCell ⟨w.heap.size, 0, none⟩ (.string ⟨#[c]⟩)).setCell ⟨w.heap.size, 1, none⟩ (.slice (some ⟨g, 0, none⟩) acc.length vc)) := by
      intro a u ha hu
      rw [World.cell?_of_block (w := wr)]
      · exact hu
      · rw [Below.heap_setCell _ _ _ _ (by simp; omega), Below.heap_setCell _ _ _ _ (by simp; omega)]
    rw [RepS]
    refine ⟨rfl, g, vc, rfl, by omega, h6, RepSL.of_get fun k hk => ?_⟩
    obtain ⟨l, sl, e1, e2, e3⟩ := reps k hk
    have c1 := own0.cells (g := g) rfl (k * 2) l e1
    have c2 := own0.cells (g := g) rfl (k * 2 + 1) sl e2
    have ha : ∀ n, (⟨g, 0, none⟩ : Addr).add n = ⟨g, n, none⟩ := fun n => by unfold Addr.add; split <;> simp_all
    rw [ha] at c1 c2
    simp only [Nat.zero_add]
    exact ⟨l, sl, hkeep _ _ hbg c1, hkeep _ _ hbg c2, e3.keep (hkeep.mono fun _ h => h.1) (fun b h _ => by have := h.1; omega) (wfL_get hwf k hk)⟩

theorem info42 : (Try.prog.info? 44).map (fun i => (i.zero, i.size, i.bytes)) = some (some (.agg #[.string ⟨#[]⟩, .slice none 0 0]), 2, 40) := by kernel_rfl

set_option maxRecDepth 100000 in
set_option maxHeartbeats 1000000 in
theorem l1Read_node (s : ByteArray) (i d f : Nat) (w : World) (hd : d + f = 16) (hi : i + 1 < s.size) (hs : s.size ≤ 200) (hx : s[i] = 40) (hc : 97 ≤ (s[i + 1].toNat : Int)) (hc' : (s[i + 1].toNat : Int) ≤ 104)
    (ih : ∀ (i : Nat) (k dd : Int) (w : World), k = i → dd = d + 1 → i ≤ s.size → Calls Try.prog 58 #[.string s, .int .i64 k, .int .i64 dd] w (RdPost s i f w)) :
    Calls Try.prog 58 #[.string s, .int .i64 i, .int .i64 d] w (RdPost s i (f + 1) w) := by
  have hr : rd (f + 1) (s.data.toList.drop i) = shut s[i + 1] (kidsA (rd f) (s.data.toList.drop (i + 2)).length [] (s.data.toList.drop (i + 2))) := by
    rw [drop_at (by omega), drop_at hi, hx, rd_node (by omega) (by omega)]
  have H := Lib.hid hr
  clear hr
  have he := extract_one hi
  obtain ⟨c, hcc⟩ : ∃ c, c = s[i + 1] := ⟨_, rfl⟩
  rw [← hcc] at he H
  have hc1 : 97 ≤ c.toNat ∧ c.toNat ≤ 104 := by rw [hcc]; omega
  have HC := Lib.hid hcc
  have HE := Lib.hid he
  clear hcc he
  go_enter Try.func58, Try.ntmps58
  go_wp2_with fail
  go_loopw [1] (fun i1 wr => ∃ (j : Nat) (acc : List T) (va : Option Addr) (vn vc : Nat) (xs : List Value), i1 = .int .i64 j ∧ i + 2 ≤ j ∧ j ≤ s.size ∧ KidRel w c s i f j acc (.slice va vn vc) xs wr) (fun i1 _ => s.size - (intOf i1).toNat)
  case atStart =>
    refine ⟨i + 2, [], none, 0, 0, [], by go_num, by omega, by omega, ?_⟩
    rw [HE.out]
    exact KidRel.start w c s i f hi hs
  case round =>
    obtain ⟨j, acc, va, vn, vc, xs, rfl, hj1, hj2, hrel⟩ := hrel
    by_cases hlt : j < s.size
    · by_cases h32 : s[j] = 32
      · have HK := Lib.hid hrel
        clear hrel
        have HO := Lib.hid HK.out.1; have HO1 := Lib.hid HK.out.2.1; have HO2 := Lib.hid HK.out.2.2.1
        have hal : acc.length ≤ j := HK.out.2.2.2.2.2.1
        have hB := HK.out.2.2.2.2.2.2.2
        have IH := Lib.hid (ih (j + 1))
        clear ih
        go_wp2_with fail
        refine (IH.out _ _ _ rfl (by omega) (by omega)).mono ?_
        rintro e w1 ⟨hb1, lb, sa, sn, sc, k, rfl, hres⟩
        have hsz := hb1.size
        have hlt0 := (Array.getElem?_eq_some_iff.1 HO.out).1
        have hlt1 := (Array.getElem?_eq_some_iff.1 HO1.out).1
        have B0 := Lib.hid ((hb1.block _ hlt0).trans HO.out)
        have B1 := Lib.hid ((hb1.block _ hlt1).trans HO1.out)
        obtain ⟨c00, c01, f00, f01⟩ := two_cells B0.out
        obtain ⟨c10, c11, f10, f11⟩ := two_cells B1.out
        have hz0 : w.heap.size < w1.heap.size := by omega
        have hz1 : w.heap.size + 1 < w1.heap.size := by omega
        rcases hres with ⟨hno, rfl⟩ | ⟨t, j', hyes, hj3, hj4, rfl, hrep⟩
        · have HN := Lib.hid hno
          clear hno
          go_wp2_with fail
          refine bodyPost_ret (v := .tuple #[.agg #[.string ⟨#[c]⟩, .slice va vn vc], .int .i64 (-1)]) (by simp [results, Try.results58, go_sem, c00, c01, hz0]) rfl ?_
          have HF := HK.out.fail HN.out hlt h32
          refine rd_post_none (((hB.trans (hb1.mono (by omega))).setCell (by simp) _ |>.setCell (by simp) _).alloc (by simp; omega) _) (by rw [H.out, HF])
        · have HN := Lib.hid hyes
          clear hyes
          obtain ⟨i0, hi0, hz, hzs, hzb⟩ := info_parts info42
          have own1 := Lib.hid (((owns_below HO2.out hb1).alloc (.cells #[.string lb, .slice sa sn sc] 44 (0, 0))).alloc (.cells #[.string lb, .slice sa sn sc] 44 (0, 0)))
          have hown0 := Lib.hid HO2.out.lt
          go_wp2_with (at_builtin; refine wpList_append_new _ rfl _ _ 36 rfl (w.heap.size + 2) 44 i0 (.agg #[.string ⟨#[]⟩, .slice none 0 0]) 2 40 Try.underlying36 hi0 hz hzs hzb rfl (by decide) _ _ _ rfl own1.out ⟨w1.heap.size + 1, 0, none⟩ 1 1 [.string lb, .slice sa sn sc] (by decide) rfl ?c1 ?c2 ?c3 ?c4 ?c5 ?c6 ?_)
          case c1 => rfl
          case c2 => exact cells_two (by simp) _ _
          case c3 => simp [Value.oneCell']
          case c4 => unfold maxLen; omega
          case c5 => omega
          case c6 => simp; omega
          intro g cap w2 hown' hg hf
          have NX := Lib.hid (HK.out.next hb1 hrep HN.out hj3 hlt h32 hown' hg (by simpa using hf))
          have hb2 : Below w1.heap.size w1 ((w1.alloc (.cells #[.string lb, .slice sa sn sc] 44 (0, 0))).alloc (.cells #[.string lb, .slice sa sn sc] 44 (0, 0))) := ((Below.refl _ _).alloc (Nat.le_refl _) _).alloc (by simp) _
          have hq : some (w.heap.size + 1) ≠ (Value.slice va vn vc).ownBlock := fun e => by have := (hown0.out _ e.symm).1; omega
          have B2 : Hid (w2.heap[w.heap.size + 1]? = some (.cells #[.string ⟨#[c]⟩, .slice va vn vc] 44 (0, 0))) := Lib.hid ((hg.block _ (by simp; omega) hq).trans ((hb2.block _ hz1).trans B1.out))
          obtain ⟨c20, c21, f20, f21⟩ := two_cells B2.out
          clear hown' hg hf hq
          go_wp2_with fail
          go_roundw
          case rel => exact ⟨j', acc ++ [t], some ⟨g, 0, none⟩, acc.length + 1, cap, _, rfl, by omega, by omega, NX.out⟩
          case measure => simp [intOf]; omega
      · have hK := hrel.done (fun _ => h32)
        have HK := Lib.hid hrel
        have HKK := Lib.hid hK
        have hn32 : ((s[j].toNat : Int) == 32) = false := byte_eq_ff h32 rfl
        have hvn : vn = acc.length := by obtain ⟨a, m, c', e, e'⟩ := owns_slice hrel.2.2.1; simp at e; omega
        subst hvn
        obtain ⟨c10, c11, f10, f11⟩ := two_cells hrel.2.1
        obtain ⟨c00, c01, f00, f01⟩ := two_cells hrel.1
        have hB := hrel.2.2.2.2.2.2.2
        have hal := hrel.2.2.2.2.2.1
        clear hrel hK h32 ih
        by_cases h41 : s[j] = 41
        · by_cases hin : 1 ≤ acc.length ∧ acc.length ≤ 6
          · have hr : rd (f + 1) (s.data.toList.drop i) = some (.node c acc, s.data.toList.drop (j + 1)) := by
              rw [H.out, HKK.out, drop_at hlt, shut, if_pos ⟨h41, hin.1, hin.2⟩]
            have HR := Lib.hid hr
            have hb : decide ((1 : Int) ≤ (acc.length : Int) ∧ (acc.length : Int) ≤ 6) = true := by simp; omega
            have HB := Lib.hid hb
            clear hr hb
            go_wp2_with (go_at_call 32; refine (l6In_any _ _ _ _).mono ?_; rintro e w' ⟨rfl, rfl⟩; rw [HB.out])
            refine bodyPost_ret (v := .tuple #[.agg #[.string ⟨#[c]⟩, .slice va acc.length vc], .int .i64 (j + 1)]) (by simp [results, Try.results58, go_sem, c00, c01]) rfl ?_
            exact ⟨(hB.setCell (by simp) _).setCell (by simp) _, _, _, _, _, _, rfl, .inr ⟨_, j + 1, HR.out, by omega, by omega, by omega, HK.out.rep hin.1 hin.2⟩⟩
          · have hr : rd (f + 1) (s.data.toList.drop i) = none := by
              rw [H.out, HKK.out, drop_at hlt, shut, if_neg (fun h => hin h.2)]
            have HR := Lib.hid hr
            have hb : decide ((1 : Int) ≤ (acc.length : Int) ∧ (acc.length : Int) ≤ 6) = false := by simp; omega
            have HB := Lib.hid hb
            clear hr hb
            go_wp2_with (go_at_call 32; refine (l6In_any _ _ _ _).mono ?_; rintro e w' ⟨rfl, rfl⟩; rw [HB.out])
            refine bodyPost_ret (v := .tuple #[.agg #[.string ⟨#[c]⟩, .slice va acc.length vc], .int .i64 (-1)]) (by simp [results, Try.results58, go_sem, c00, c01]) rfl ?_
            exact (rd_post_none ((hB.setCell (by simp) _).setCell (by simp) _) HR.out)
        · have hr : rd (f + 1) (s.data.toList.drop i) = none := by
            rw [H.out, HKK.out, drop_at hlt, shut, if_neg (fun h => h41 h.1)]
          have HR := Lib.hid hr
          have hn41 : ((s[j].toNat : Int) != 41) = true := byte_ne_tt h41 rfl
          clear hr h41
          go_wp2_with fail
          refine bodyPost_ret (v := .tuple #[.agg #[.string ⟨#[c]⟩, .slice va acc.length vc], .int .i64 (-1)]) (by simp [results, Try.results58, go_sem, c00, c01]) rfl ?_
          exact (rd_post_none ((hB.setCell (by simp) _).setCell (by simp) _) HR.out)
    · have hK := hrel.done (fun h => absurd h hlt)
      have hr : rd (f + 1) (s.data.toList.drop i) = none := by
        rw [H.out, hK, drop_end (by omega), shut]
      have HR := Lib.hid hr
      obtain ⟨c10, c11, f10, f11⟩ := two_cells hrel.2.1
      obtain ⟨c00, c01, f00, f01⟩ := two_cells hrel.1
      have hB := hrel.2.2.2.2.2.2.2
      clear hrel hK ih hr
      go_wp2_with fail
      refine bodyPost_ret (v := .tuple #[.agg #[.string ⟨#[c]⟩, .slice va vn vc], .int .i64 (-1)]) (by simp [results, Try.results58, go_sem, c00, c01]) rfl ?_
      exact (rd_post_none ((hB.setCell (by simp) _).setCell (by simp) _) HR.out)

/-- 'l1Read' gives what 'rd' gives. -/
theorem l1Read_any (s : ByteArray) (hs : s.size ≤ 200) : ∀ (f : Nat) (i d : Nat) (k dd : Int) (w : World), d + f = 17 → k = i → dd = d → i ≤ s.size →
    Calls Try.prog 58 #[.string s, .int .i64 k, .int .i64 dd] w (RdPost s i f w) := by
  intro f
  induction f with
  | zero =>
    intro i d k dd w hd hk hdd hi
    subst hk hdd
    obtain rfl : d = 17 := by omega
    exact l1Read_deep s i w
  | succ f ih =>
    intro i d k dd w hd hk hdd hi
    subst hk hdd
    by_cases h1 : i < s.size
    · by_cases h2 : s[i] = 42
      · exact l1Read_leaf s i d f w (by omega) h1 hs h2
      · by_cases h3 : s[i] = 40
        · by_cases h4 : i + 1 < s.size
          · by_cases h5 : 97 ≤ (s[i + 1].toNat : Int) ∧ (s[i + 1].toNat : Int) ≤ 104
            · exact l1Read_node s i d f w (by omega) h4 hs h3 h5.1 h5.2 (fun i k dd w hk hdd hi => ih i (d + 1) k dd w (by omega) hk (by omega) hi)
            · exact l1Read_letter s i d f w (by omega) h4 hs h3 (by omega)
          · exact l1Read_short s i d f w (by omega) h1 hs h3 (by omega)
        · refine l1Read_other s i d f w (by omega) h1 hs ?_ ?_
          · have : s[i].toNat ≠ 42 := fun e => h2 (UInt8.toNat_inj.1 e)
            omega
          · have : s[i].toNat ≠ 40 := fun e => h3 (UInt8.toNat_inj.1 e)
            omega
    · exact l1Read_end s i d f w (by omega) (by omega) (by omega)

end Go.Proofs.Ytapobhnhnldlkaa
