/- Merged out of: XKFillS, XKFillI. -/
import Derived.Test.YtfflgjidapclkaaTree
import Derived.Test.YtfflgjidapclkaaReplS
import Derived.Test.YtfflgjidapclkaaMirrorI
import Derived.Test.YtfflgjidapclkaaKReadA
section
/- Merged out of: XFill, XFillS. -/
section
/- Trees in the places of a tree's leaves, plainly. -/
namespace Go.Proofs.Ytfflgjidapclkaa

mutual
def T.fill : T → List T → T
  | .leaf, us => us.headD .leaf
  | .node c ks, us => .node c (T.fillL ks us)
def T.fillL : List T → List T → List T
  | [], _ => []
  | t :: ts, us => t.fill us :: T.fillL ts (us.drop t.leaves)
end

theorem fillL_length : ∀ (ks us : List T), (T.fillL ks us).length = ks.length
  | [], _ => by simp [T.fillL]
  | t :: ts, us => by simp [T.fillL, fillL_length ts]

theorem fillL_get : ∀ (ks us : List T) (i : Nat) (h : i < ks.length), (T.fillL ks us)[i]'(by rw [fillL_length]; exact h) = (ks[i]).fill (us.drop (T.leavesL (ks.take i)))
  | [], _, _, h => by simp at h
  | t :: ts, us, 0, _ => by simp [T.fillL, T.leavesL]
  | t :: ts, us, i + 1, h => by
    have ih := fillL_get ts (us.drop t.leaves) i (by simpa using h)
    simp only [T.fillL, List.getElem_cons_succ, List.take_succ_cons, T.leavesL]
    rw [ih, List.drop_drop]

mutual
/-- Only the first trees count, one a leaf. -/
theorem fill_take : ∀ (t : T) (us : List T) (n : Nat), t.wf → t.leaves ≤ n → t.fill (us.take n) = t.fill us
  | .leaf, [], n, _, _ => by simp [T.fill]
  | .leaf, u :: us, n, _, h => by
    rw [T.leaves] at h
    obtain ⟨m, rfl⟩ : ∃ m, n = m + 1 := ⟨n - 1, by omega⟩
    simp [T.fill]
  | .node c ks, us, n, hw, h => by
    rw [T.wf] at hw
    rw [T.leaves] at h
    rw [T.fill, T.fill, fillL_take ks us n hw.2.2.2.2 h]
theorem fillL_take : ∀ (ks us : List T) (n : Nat), T.wfL ks → T.leavesL ks ≤ n → T.fillL ks (us.take n) = T.fillL ks us
  | [], _, _, _, _ => by simp [T.fillL]
  | t :: ts, us, n, hw, h => by
    rw [T.wfL] at hw
    rw [T.leavesL] at h
    rw [T.fillL, T.fillL, fill_take t us n hw.1 (by omega), List.drop_take, fillL_take ts _ _ hw.2 (by omega)]
end

mutual
theorem fill_wf : ∀ (t : T) (us : List T), t.wf → T.wfL us → (t.fill us).wf
  | .leaf, [], _, _ => by simp [T.fill, T.wf]
  | .leaf, u :: us, _, h => by rw [T.wfL] at h; simp only [T.fill, List.headD_cons]; exact h.1
  | .node c ks, us, hw, h => by
    rw [T.wf] at hw
    rw [T.fill, T.wf, fillL_length]
    exact ⟨hw.1, hw.2.1, hw.2.2.1, hw.2.2.2.1, fillL_wf ks us hw.2.2.2.2 h⟩
theorem fillL_wf : ∀ (ks us : List T), T.wfL ks → T.wfL us → T.wfL (T.fillL ks us)
  | [], _, _, _ => by simp [T.fillL, T.wfL]
  | t :: ts, us, hw, h => by
    rw [T.wfL] at hw
    rw [T.fillL, T.wfL]
    have hd : T.wfL (us.drop t.leaves) := by
      have := wfL_append (us.take t.leaves) (us.drop t.leaves)
      rw [List.take_append_drop] at this
      exact (this.1 h).2
    exact ⟨fill_wf t us hw.1 h, fillL_wf ts _ hw.2 hd⟩
end

mutual
theorem fill_size : ∀ (t : T) (us : List T) (M N : Nat), 1 ≤ M → (∀ u ∈ us, u.leaves ≤ M ∧ u.nodes ≤ N) → (t.fill us).leaves ≤ t.leaves * M ∧ (t.fill us).nodes ≤ t.nodes + t.leaves * N
  | .leaf, [], M, N, hM, _ => by simp [T.fill, T.leaves, T.nodes]; exact hM
  | .leaf, u :: us, M, N, hM, h => by
    have := h u (by simp)
    simp only [T.fill, List.headD_cons, T.leaves, T.nodes, Nat.one_mul, Nat.zero_add]
    exact this
  | .node c ks, us, M, N, hM, h => by
    have := fillL_size ks us M N hM h
    simp only [T.fill, T.leaves, T.nodes]
    exact ⟨this.1, by omega⟩
theorem fillL_size : ∀ (ks us : List T) (M N : Nat), 1 ≤ M → (∀ u ∈ us, u.leaves ≤ M ∧ u.nodes ≤ N) → T.leavesL (T.fillL ks us) ≤ T.leavesL ks * M ∧ T.nodesL (T.fillL ks us) ≤ T.nodesL ks + T.leavesL ks * N
  | [], _, M, N, _, _ => by simp [T.fillL, T.leavesL, T.nodesL]
  | t :: ts, us, M, N, hM, h => by
    have h1 := fill_size t us M N hM h
    have h2 := fillL_size ts (us.drop t.leaves) M N hM (fun u hu => h u (List.mem_of_mem_drop hu))
    simp only [T.fillL, T.leavesL, T.nodesL, Nat.add_mul]
    omega
end

/-- What is filled from trees of the document's size is small enough to be written. -/
theorem fill_len {t : T} {us : List T} (hl : t.leaves ≤ 12) (hn : t.nodes ≤ 16) (h : ∀ u ∈ us, u.leaves ≤ 12 ∧ u.nodes ≤ 16) : (t.fill us).leaves ≤ 144 ∧ (t.fill us).nodes ≤ 208 ∧ (t.fill us).text.length ≤ 100000 := by
  have h1 := fill_size t us 12 16 (by omega) h
  have h2 := text_length (t.fill us)
  omega

end Go.Proofs.Ytfflgjidapclkaa
end
section
/- The model puts trees in the places of a tree's leaves. -/
namespace Go.Proofs.Ytfflgjidapclkaa
open Go.RowKit

/-- A tree is handed back and the rest of the row, from where nobody has taken. -/
def FillS (P : Nat → Prop) (t : T) (ug uo un uc n : Nat) (w : World) (e : Ending) (w' : World) : Prop :=
  Below w.heap.size w w' ∧ ∃ (lb : ByteArray) (sa : Option Addr) (sn sc lo : Nat), e = .returned (.tuple #[.agg #[.string lb, .slice sa sn sc], .slice (some ⟨ug, lo, none⟩) (un - n) (uc - n)]) ∧ (n < uc → lo = (uo + n) * 2) ∧
    RepS w' (fun b => P b ∨ w.heap.size ≤ b) t (.string lb) (.slice sa sn sc)

theorem RepSL.drop {w : World} {P : Nat → Prop} {us : List T} {g i : Nat} (h : RepSL w P us g i) (n : Nat) : RepSL w P (us.drop n) g (i + n) := by
  refine RepSL.of_get fun j hj => ?_
  have hj' : n + j < us.length := by simp at hj; omega
  obtain ⟨l, s, e1, e2, e3⟩ := h.get (n + j) hj'
  rw [show i + n + j = i + (n + j) from by omega]
  exact ⟨l, s, e1, e2, by simpa using e3⟩

theorem wfL_dropS {ks : List T} (h : T.wfL ks) (k : Nat) : T.wfL (ks.drop k) := by
  have := wfL_append (ks.take k) (ks.drop k)
  rw [List.take_append_drop] at this
  exact (this.1 h).2

/-- What holds ahead of each round. -/
def FillRel (P : Nat → Prop) (w : World) (c : UInt8) (v0 : Value) (acc : List T) (va : Option Addr) (vc : Nat) (xs : List Value) (wr : World) : Prop :=
  OutRel P (w.heap.size + 1 + 1 + 1) (w.heap.size + 1 + 1) c acc (.slice va acc.length vc) xs wr ∧
  wr.heap[w.heap.size]? = some (.cells #[.string ⟨#[c]⟩, v0] 52 (0, 0)) ∧
  wr.heap[w.heap.size + 1]? = some (.cells #[.string ⟨#[]⟩, .slice none 0 0] 52 (0, 0)) ∧
  w.heap.size + 1 + 1 + 1 ≤ wr.heap.size ∧ Below w.heap.size w wr

/-- A kid more. -/
theorem FillRel.next {P : Nat → Prop} {w : World} {c : UInt8} {v0 : Value} {acc : List T} {va : Option Addr} {vc : Nat} {xs : List Value} {wr w1 w1' w2 : World} {t : T} {lb : ByteArray} {sa : Option Addr} {sn sc g cap : Nat}
    (h : FillRel P w c v0 acc va vc xs wr) (hb1 : Below wr.heap.size wr w1) (hrep : RepS w1 (fun b => P b ∨ wr.heap.size ≤ b) t (.string lb) (.slice sa sn sc)) (htw : t.wf) (hb2 : Below w1.heap.size w1 w1')
    (hown : w2.ownsRow (w.heap.size + 1 + 1 + 1) 52 2 (.slice (some ⟨g, 0, none⟩) (acc.length + 1) cap) (acc.length + 1) (xs ++ [.string lb, .slice sa sn sc]))
    (hg : w1'.grownBy w2 (Value.slice va acc.length vc).ownBlock) (hf : (Value.slice va acc.length vc).ownBlock = some g ∨ w1.heap.size ≤ g) :
    FillRel P w c v0 (acc ++ [t]) (some ⟨g, 0, none⟩) cap (xs ++ [.string lb, .slice sa sn sc]) (w2.setCell ⟨w.heap.size + 1 + 1, 1, none⟩ (.slice (some ⟨g, 0, none⟩) (acc.length + 1) cap)) := by
  obtain ⟨ho, h0, h1, hs, hB⟩ := h
  have hs1 := hb1.size
  have hs2 := hb2.size
  have hs3 := hg.size
  have hown0 := ho.2.2.2.1.lt
  have hblk : ∀ b, b < w.heap.size + 1 + 1 → (w2.setCell ⟨w.heap.size + 1 + 1, 1, none⟩ (.slice (some ⟨g, 0, none⟩) (acc.length + 1) cap)).heap[b]? = wr.heap[b]? := by
    intro b hb
    rw [Below.heap_setCell _ _ _ _ (by simp; omega), hg.block b (by omega) (fun e => by have := (hown0 b e.symm).1; omega), hb2.block _ (by omega), hb1.block b (by omega)]
  refine ⟨?_, (hblk _ (by omega)).trans h0, (hblk _ (by omega)).trans h1, by simp; omega, ?_⟩
  · have := ho.next hs hb1 hrep htw hb2 hown hg hf
    rw [List.length_append]
    exact this
  · exact ((((hB.trans (hb1.mono (by omega))).trans (hb2.mono (by omega))).grown hg (by omega) (fun q e => by have := (hown0 q e).1; omega))).setCell (p := ⟨w.heap.size + 1 + 1, 1, none⟩) (by simp; omega) _

set_option maxRecDepth 100000 in
set_option maxHeartbeats 4000000 in
theorem l1Fill_any (m : Nat) : ∀ (t : T) (l s : Value) (us : List T) (ug uo uc : Nat) (w : World) (P : Nat → Prop), SizeOf.sizeOf t ≤ m → t.wf → T.wfL us → t.leaves ≤ us.length → us.length ≤ uc → uc ≤ 9223372036854775807 → (∀ b, P b → b < w.heap.size) → P ug → RepS w P t l s → RepSL w P us ug uo →
    Calls Try.prog 50 #[.agg #[l, s], .slice (some ⟨ug, uo * 2, none⟩) us.length uc] w (FillS P (t.fill us) ug uo us.length uc t.leaves w) := by
  induction m with
  | zero => intro t l s us ug uo uc w P h; cases t <;> simp at h <;> omega
  | succ m ih =>
    intro t l s us ug uo uc w P hn hwf huw hlv huc hum hP hPu hr hu
    cases t with
    | leaf =>
      rw [RepS] at hr
      obtain ⟨rfl, rfl⟩ := hr
      rw [T.leaves] at hlv
      obtain ⟨lb, sl, e1, e2, e3⟩ := hu.get 0 (by omega)
      rw [Nat.add_zero] at e1 e2
      obtain ⟨kb, ka, kn, kc, rfl, rfl⟩ := e3.shape'
      have HE := Lib.hid e3
      have HUW := Lib.hid (wfL_get huw 0 (by omega))
      have hgl : ug < w.heap.size := hP ug hPu
      clear e3
      have hq : (T.leaf.fill us) = us[0] := by
        cases us with
        | nil => simp at hlv
        | cons u us => simp [T.fill]
      have HQ := Lib.hid hq
      clear hq
      have hu0 : (0 : Int) < us.length := by omega
      have hu1 : 0 < us.length := by omega
      have e2' : w.cell? ⟨ug, uo * 2 + 1, none⟩ = some (.slice ka kn kc) := by rw [Nat.add_zero] at e2; exact e2
      clear e2
      have hbw : Below w.heap.size w (((w.alloc (Obj.cells #[Value.string { data := #[] }, Value.slice none 0 0] 52)).alloc (Obj.cells #[Value.string kb, Value.slice ka kn kc] 52)).drew) :=
        (((Below.refl _ _).alloc (Nat.le_refl _) _).alloc (by simp) _).drew
      by_cases hu2 : uc = 1
      · subst hu2
        go_enter Try.func50, Try.ntmps50
        go_wp2_with fail
        go_region
        all_goals
          go_wp2_with fail
          refine bodyPost_ret (v := .tuple #[.agg #[.string kb, .slice ka kn kc], .slice (some ⟨ug, uo * 2, none⟩) (us.length - 1) (1 - 1)]) (by simp [results, Try.results50, go_sem]; omega) rfl ?_
          exact ⟨hbw, kb, ka, kn, kc, uo * 2, rfl, fun h => by rw [T.leaves] at h; omega, by rw [HQ.out]; exact (HE.out.below HUW.out hbw).keep (fun _ _ _ h => h) (fun b h _ => .inl h) HUW.out⟩
      · go_enter Try.func50, Try.ntmps50
        go_wp2_with fail
        go_region
        all_goals
          go_wp2_with fail
          refine bodyPost_ret (v := .tuple #[.agg #[.string kb, .slice ka kn kc], .slice (some ⟨ug, uo * 2 + 2, none⟩) (us.length - 1) (uc - 1)]) (by simp [results, Try.results50, go_sem]) rfl ?_
          exact ⟨hbw, kb, ka, kn, kc, uo * 2 + 2, rfl, fun h => by rw [T.leaves]; omega, by rw [HQ.out]; exact (HE.out.below HUW.out hbw).keep (fun _ _ _ h => h) (fun b h _ => .inl h) HUW.out⟩
    | node c ks =>
      have HR := Lib.hid hr
      rw [RepS] at hr
      obtain ⟨rfl, g, cap, rfl, hPg, hk6, hL⟩ := hr
      have HWF := Lib.hid hwf
      rw [T.wf] at hwf
      have hwk := Lib.hid hwf.2.2.2.2
      have hk1' := hwf.2.2.1
      have HL := Lib.hid hL
      have HU := Lib.hid hu
      have HUW := Lib.hid huw
      rw [T.leaves] at hlv
      clear hL hwf hu huw
      go_enter Try.func50, Try.ntmps50
      go_wp2_with fail
      obtain ⟨i0, hi0, hz, hzs, hzb⟩ := info_parts info42
      have R0 : Hid (FillRel P w c (.slice (some ⟨g, 0, none⟩) ks.length cap) ((T.fillL ks us).take 0) none 0 [] (((w.alloc (Obj.cells #[Value.string { data := #[c] }, Value.slice (some { block := g, off := 0 }) ks.length cap] 52)).alloc (Obj.cells #[Value.string { data := #[] }, Value.slice none 0 0] 52)).alloc (Obj.cells #[Value.string { data := #[c] }, Value.slice none 0 0] 52))) := Lib.hid (by
        have hst := OutRel.start (P := P) (base := w.heap.size + 1 + 1 + 1) (c := c) (w := (w.alloc (Obj.cells #[Value.string { data := #[c] }, Value.slice (some { block := g, off := 0 }) ks.length cap] 52)).alloc (Obj.cells #[Value.string { data := #[] }, Value.slice none 0 0] 52)) (by simp) (fun b hb => by have := hP b hb; first | (simp; done) | (simp; omega))
        refine ⟨by simpa using hst, ?_, ?_, by simp, by go_grown⟩
        · rw [Below.heap_alloc _ _ _ (by first | (simp; done) | (simp; omega)), Below.heap_alloc _ _ _ (by simp)]; exact heap_alloc_new w _
        · rw [Below.heap_alloc _ _ _ (by simp)]
          have := heap_alloc_new (w.alloc (Obj.cells #[Value.string { data := #[c] }, Value.slice (some { block := g, off := 0 }) ks.length cap] 52)) (Obj.cells #[Value.string { data := #[] }, Value.slice none 0 0] 52)
          simpa using this)
      go_loopw [1, 7] (fun lv iv wr => ∃ (i lo : Nat) (va : Option Addr) (vc : Nat) (xs : List Value), i ≤ ks.length ∧ iv = .int .i64 i ∧ lv = .slice (some ⟨ug, lo, none⟩) (us.length - T.leavesL (ks.take i)) (uc - T.leavesL (ks.take i)) ∧ (T.leavesL (ks.take i) < uc → lo = (uo + T.leavesL (ks.take i)) * 2) ∧
          FillRel P w c (.slice (some ⟨g, 0, none⟩) ks.length cap) ((T.fillL ks us).take i) va vc xs wr) (fun _ iv _ => ks.length - (intOf iv).toNat)
      case atStart => exact ⟨0, uo * 2, none, 0, [], Nat.zero_le _, rfl, by simp [T.leavesL], by simp [T.leavesL], R0.out⟩
      case round =>
        obtain ⟨i, lo, va, vc, xs, hi, rfl, rfl, hlo, hrel⟩ := hrel
        have hlen : ((T.fillL ks us).take i).length = i := by rw [List.length_take, fillL_length]; omega
        have HLT := Lib.hid hlen
        have HREL := Lib.hid hrel
        obtain ⟨ho, hb0, hb2, hsz, hB⟩ := hrel
        obtain ⟨c0, c1, _, _⟩ := two_cells hb0
        obtain ⟨r0, r1, fr0, fr1⟩ := two_cells hb2
        obtain ⟨o0, o1, fo0, fo1⟩ := two_cells ho.1
        rw [hlen] at o1
        have HO := Lib.hid ho
        clear ho hb0 hb2 hlen
        by_cases hlt : i < ks.length
        · obtain ⟨l', s', d1, d2, d3⟩ := HL.out.get i hlt
          rw [Nat.zero_add] at d1 d2
          obtain ⟨kb, ka, kn, kc, rfl, rfl⟩ := d3.shape'
          have hwi := wfL_get hwk.out i hlt
          have hll := leavesL_take_le (ks := ks) (i + 1)
          have HTL := Lib.hid (leavesL_take hlt)
          rw [leavesL_take hlt] at hll
          have hd : SizeOf.sizeOf ks[i] < SizeOf.sizeOf ks := List.sizeOf_lt_of_mem (List.getElem_mem hlt)
          simp only [T.node.sizeOf_spec] at hn
          obtain ⟨L, hL0⟩ : ∃ L, L = T.leavesL (ks.take i) := ⟨_, rfl⟩
          obtain ⟨nn, hnn⟩ : ∃ nn, nn = (ks[i]).leaves := ⟨_, rfl⟩
          have hnnp : 1 ≤ nn := by rw [hnn]; exact leaves_pos _ hwi
          rw [← hL0, ← hnn] at hll
          rw [← hL0]
          rw [← hL0] at hlo
          have hlo' := hlo (by omega)
          subst hlo'
          clear hlo
          have HL0 := Lib.hid hL0
          have HNN := Lib.hid hnn
          have d1' : wr.cell? ⟨g, i * 2, none⟩ = some (.string kb) := keep1 hB d1
          have d2' : wr.cell? ⟨g, i * 2 + 1, none⟩ = some (.slice ka kn kc) := keep1 hB d2
          have HD := Lib.hid (d3.below hwi hB)
          have hlen2 : (us.drop L).length = us.length - L := by simp
          have HI0 := fun (W : World) (hW : Below wr.heap.size wr W) => ih ks[i] (.string kb) (.slice ka kn kc) (us.drop L) ug (uo + L) (uc - L) W P (by omega) hwi (wfL_dropS HUW.out _) (by rw [hlen2]; omega) (by rw [hlen2]; omega) (by omega) (fun b hb => by have := hP b hb; have := hB.size; have := hW.size; omega) hPu (HD.out.below hwi hW)
            ((HU.out.keep (Keeps.of_below (below_step hB hW) P) (fun _ h _ => h) hPu HUW.out).drop L)
          rw [hlen2, ← hnn] at HI0
          have HI := Lib.hid HI0
          clear HI0 d1 d2 d3 ih hd hL0 hlen2 hnn
          go_wp2_with fail
          refine (HI.out wr (Below.refl _ _)).mono ?_
          rintro e w1 ⟨hb1, lb, sa, sn, sc, lo', rfl, hlo', hrep⟩
          have o1' := keep1 hb1 o1
          have fo1' := keepf hb1 o1 fo1
          have c1' := keep1 hb1 c1
          have q1 := keep1 hb1 d1'
          have z1 : w.heap.size + 1 + 1 < w1.heap.size := World.block_lt_of_cell? w1 _ o1'
          have hs1 := hb1.size
          have hown0 := Lib.hid HO.out.2.2.2.1.lt
          have HQ : Hid (∀ b, b < w.heap.size + 1 + 1 + 1 → some b ≠ (Value.slice va i vc).ownBlock) := Lib.hid (fun b hb e => by have := (hown0.out b (by rw [HLT.out]; exact e.symm)).1; omega)
          have HOWN : Hid (w1.ownsRow (w.heap.size + 1 + 1 + 1) 52 2 (.slice va i vc) i xs) := Lib.hid (by
            have := owns_below HO.out.2.2.2.1 hb1
            rw [HLT.out] at this
            exact this)
          have HB1 := Lib.hid hb1
          have HREP := Lib.hid hrep
          have HLO := Lib.hid hlo'
          have own1 := Lib.hid ((HOWN.out.alloc (.cells #[.string lb, .slice sa sn sc] 52 (0, 0))).alloc (.cells #[.string lb, .slice sa sn sc] 52 (0, 0)))
          clear hb1 hrep hlo'
          go_wp2_with (at_builtin; refine wpList_append_new _ rfl _ _ 50 rfl (w.heap.size + 1 + 1 + 1) 52 i0 (.agg #[.string ⟨#[]⟩, .slice none 0 0]) 2 40 Try.underlying50 hi0 hz hzs hzb rfl (by decide) _ _ _ rfl own1.out ⟨w1.heap.size + 1, 0, none⟩ 1 1 [.string lb, .slice sa sn sc] (by decide) rfl ?c1 ?c2 ?c3 ?c4 ?c5 ?c6 ?_)
          case c1 => rfl
          case c2 => exact cells_two (by simp) _ _
          case c3 => simp [Value.oneCell']
          case c4 => unfold maxLen; omega
          case c5 => omega
          case c6 => simp; omega
          intro gg cap' w2 hown' hg hf
          have hfw := fill_wf ks[i] (us.drop L) hwi (wfL_dropS HUW.out L)
          have hb2 : Below w1.heap.size w1 ((w1.alloc (.cells #[.string lb, .slice sa sn sc] 52 (0, 0))).alloc (.cells #[.string lb, .slice sa sn sc] 52 (0, 0))) := ((Below.refl _ _).alloc (Nat.le_refl _) _).alloc (by simp) _
          have NX := HREL.out.next (t := (ks[i]).fill (us.drop L)) HB1.out HREP.out hfw hb2 (by rw [HLT.out]; exact hown') (by rw [HLT.out]; exact hg) (by rw [HLT.out]; rcases hf with h | h; exact .inl h; exact .inr (by first | omega | (simp at h ⊢; omega)))
          rw [HLT.out] at NX
          have NX2 : FillRel P w c (.slice (some ⟨g, 0, none⟩) ks.length cap) ((T.fillL ks us).take (i + 1)) (some ⟨gg, 0, none⟩) cap' (xs ++ [.string lb, .slice sa sn sc]) (w2.setCell ⟨w.heap.size + 1 + 1, 1, none⟩ (.slice (some ⟨gg, 0, none⟩) (i + 1) cap')) := by
            rw [List.take_succ_eq_append_getElem (by rw [fillL_length]; exact hlt), fillL_get ks us i hlt, ← HL0.out]
            exact NX
          have NXX := Lib.hid NX2
          have B2 : Hid (w2.heap[w.heap.size + 1 + 1]? = some (.cells #[.string ⟨#[c]⟩, .slice va i vc] 52 (0, 0))) := Lib.hid (by
            have ho := HO.out.1
            rw [HLT.out] at ho
            exact (hg.block _ (by simp; omega) (HQ.out _ (by omega))).trans ((hb2.block _ z1).trans ((HB1.out.block _ (by omega)).trans ho)))
          obtain ⟨c20, c21, f20, f21⟩ := two_cells B2.out
          have HLL : Hid (T.leavesL (ks.take (i + 1)) = L + nn) := Lib.hid (by rw [HTL.out, ← HL0.out, ← HNN.out])
          have hs2 := hg.size
          clear hown' hg hf NX NX2 hb2
          go_wp2_with fail
          go_roundw
          case rel => exact ⟨i + 1, lo', some ⟨gg, 0, none⟩, cap', _, by omega, by go_num, by rw [HLL.out, Nat.sub_add_eq, Nat.sub_add_eq], fun h => by rw [HLL.out] at h ⊢; have := HLO.out (by omega); omega, NXX.out⟩
          case measure => simp [intOf]; omega
        · have hii : i = ks.length := by omega
          have HII := Lib.hid hii
          have hlo2 := hlo
          have HLO := Lib.hid hlo2
          clear ih hii hlo hlo2
          go_wp2_with fail
          have hcz : T.leavesL (ks.take i) = T.leavesL ks := by rw [HII.out, List.take_length]
          refine bodyPost_ret (v := .tuple #[.agg #[.string ⟨#[c]⟩, .slice va i vc], .slice (some ⟨ug, lo, none⟩) (us.length - T.leavesL (ks.take i)) (uc - T.leavesL (ks.take i))]) (by simp [results, Try.results50, go_sem, r0, r1]) rfl ?_
          refine ⟨(hB.setCell (by simp) _).setCell (by simp) _, _, _, _, _, lo, by rw [T.leaves, ← hcz], fun h => by rw [T.leaves, ← hcz] at h ⊢; exact HLO.out h, ?_⟩
          have hfull : (T.fillL ks us).take i = T.fillL ks us := by rw [HII.out, ← fillL_length ks us, List.take_length]
          have ho := HO.out
          rw [HLT.out] at ho
          have hrep := ho.rep (w2 := (wr.setCell ⟨w.heap.size + 1, 0, none⟩ (.string ⟨#[c]⟩)).setCell ⟨w.heap.size + 1, 1, none⟩ (.slice va i vc)) (by rw [HLT.out]; omega) (by rw [HLT.out]; omega) (by
            intro q v hq hv
            rw [World.cell?_of_block (w := wr)]
            · exact hv
            · have : q.block ≠ w.heap.size + 1 := by
                rcases hq with h | h
                · have := hP _ h; omega
                · omega
              rw [Below.heap_setCell _ _ _ _ this, Below.heap_setCell _ _ _ _ this])
          rw [T.fill]
          rw [hfull] at hrep
          refine hrep.keep (fun _ _ _ h => h) (fun b h _ => by rcases h with h | h; exact .inl h; exact .inr (by omega)) ?_
          have := fill_wf (.node c ks) us HWF.out HUW.out
          rw [T.fill] at this
          exact this
end Go.Proofs.Ytfflgjidapclkaa
end
end
section
/- Merged out of: XFillI, XGraftI. -/
section
/- The program puts trees in the places of a tree's leaves. -/
namespace Go.Proofs.Ytfflgjidapclkaa
open Go.RowKit

/-- A tree is handed back, made of what came in and of new memory. -/
def NewIP (P : Nat → Prop) (t : T) (w : World) (e : Ending) (w' : World) : Prop :=
  Below w.heap.size w w' ∧ ∃ ty a, e = .returned (.iface ty (.pointer (some a))) ∧ RepI w' (fun b => P b ∨ w.heap.size ≤ b) t ty a

/-- Ahead of each round: the row in the first new block holds the filled kids. -/
def FRel (P : Nat → Prop) (w : World) (ks us : List T) (k : Nat) (wr : World) : Prop :=
  ∃ cur : Array Value, wr.heap[w.heap.size]? = some (.cells cur 44 (0, 0)) ∧ cur.size = ks.length ∧
    (∀ i (h : i < ks.length), i < k → ∃ ty a, cur[i]? = some (.iface ty (.pointer (some a))) ∧ RepI wr (fun b => P b ∨ w.heap.size + 1 ≤ b) ((ks[i]).fill (us.drop (T.leavesL (ks.take i)))) ty a) ∧ Below w.heap.size w wr

theorem wfL_drop {ks : List T} (h : T.wfL ks) (k : Nat) : T.wfL (ks.drop k) := by
  have := wfL_append (ks.take k) (ks.drop k)
  rw [List.take_append_drop] at this
  exact (this.1 h).2

theorem FRel.next {P : Nat → Prop} {w wr w1 : World} {ks us : List T} {k : Nat} {ty : TypeId} {a : Addr} (h : FRel P w ks us k wr) (hP : ∀ b, P b → b < w.heap.size) (hk : k < ks.length) (hwf : T.wfL ks) (huw : T.wfL us) (hb : Below wr.heap.size wr w1)
    (hr : RepI w1 (fun b => P b ∨ wr.heap.size ≤ b) ((ks[k]).fill (us.drop (T.leavesL (ks.take k)))) ty a) : FRel P w ks us (k + 1) (w1.setCell ⟨w.heap.size, k, none⟩ (.iface ty (.pointer (some a)))) := by
  obtain ⟨cur, hc, hs, hi, hB⟩ := h
  have hlt := (Array.getElem?_eq_some_iff.1 hc).1
  have hc1 : w1.heap[w.heap.size]? = some (.cells cur 44 (0, 0)) := (hb.block _ hlt).trans hc
  have hkeep : ∀ (w0 : World), Below w0.heap.size w0 w1 → Keeps (fun b => P b ∨ w.heap.size + 1 ≤ b) w0 (w1.setCell ⟨w.heap.size, k, none⟩ (.iface ty (.pointer (some a)))) := by
    intro w0 hb0 q u hq hu
    rw [World.cell?_of_block (w := w0)]
    · exact hu
    · have : q.block ≠ w.heap.size := by
        rcases hq with h | h
        · have := hP _ h; omega
        · omega
      rw [Below.heap_setCell _ _ _ _ this, hb0.block _ (World.block_lt_of_cell? w0 q hu)]
  refine ⟨_, heap_setCell_same hc1 _, by simpa using hs, ?_, (hB.trans (hb.mono (by omega))).setCell (by simp) _⟩
  intro i h hik
  by_cases hi2 : i < k
  · obtain ⟨ty', a', e1, e2⟩ := hi i h hi2
    refine ⟨ty', a', ?_, e2.keep (hkeep wr hb) (fun _ h _ => h) (fill_wf _ _ (wfL_get hwf i h) (wfL_drop huw _))⟩
    rw [Array.getElem?_setIfInBounds, if_neg (by omega)]; exact e1
  · have hie : i = k := by omega
    subst hie
    refine ⟨ty, a, ?_, hr.keep (Keeps.mono (hkeep w1 (Below.refl _ _)) (fun b h => by rcases h with h | h; exact .inl h; exact .inr (by omega))) (fun b h _ => by rcases h with h | h; exact .inl h; exact .inr (by omega)) (fill_wf _ _ (wfL_get hwf i h) (wfL_drop huw _))⟩
    rw [Array.getElem?_setIfInBounds, if_pos rfl, if_pos (by omega)]

/-- A tail of a row of trees. -/
theorem RepIL.drop {w : World} {P : Nat → Prop} {us : List T} {g i : Nat} (h : RepIL w P us g i) (n : Nat) : RepIL w P (us.drop n) g (i + n) := by
  refine RepIL.of_get fun j hj => ?_
  have hj' : n + j < us.length := by simp at hj; omega
  obtain ⟨ty, a, e1, e2⟩ := h.get (n + j) hj'
  refine ⟨ty, a, by rw [← e1]; congr 2; omega, ?_⟩
  simpa using e2
theorem RepIL.take {w : World} {P : Nat → Prop} {us : List T} {g i : Nat} (h : RepIL w P us g i) (n : Nat) : RepIL w P (us.take n) g i := by
  refine RepIL.of_get fun j hj => ?_
  have hj' : j < us.length := by simp at hj; omega
  obtain ⟨ty, a, e1, e2⟩ := h.get j hj'
  exact ⟨ty, a, e1, by simpa using e2⟩
theorem wfL_takeI {ks : List T} (h : T.wfL ks) (k : Nat) : T.wfL (ks.take k) := by
  have := wfL_append (ks.take k) (ks.drop k)
  rw [List.take_append_drop] at this
  exact (this.1 h).1

set_option maxRecDepth 100000 in
set_option maxHeartbeats 2000000 in
theorem graftAll_wide (m : Nat) : ∀ (t : T) (us : List T) (ty : TypeId) (a : Addr) (ug uo uc : Nat) (w : World) (P : Nat → Prop), SizeOf.sizeOf t ≤ m → t.wf → T.wfL us → t.leaves ≤ us.length → us.length ≤ uc → (us.length < 1000000 ∧ uc < 9223372036854775808) → (∀ b, P b → b < w.heap.size) → P ug → RepI w P t ty a → RepIL w P us ug uo →
    Calls Try.prog 35 #[.iface ty (.pointer (some a)), .slice (some ⟨ug, uo, none⟩) us.length uc] w (NewIP P (t.fill us) w) := by
  induction m with
  | zero => intro t us ty a ug uo uc w P h; cases t <;> simp at h <;> omega
  | succ m ih =>
    intro t us ty a ug uo uc w P hn hwf huw hlv huc hum hP hPu hr hu
    cases t with
    | leaf =>
      rw [RepI] at hr
      subst hr
      rw [T.leaves] at hlv
      obtain ⟨ty1, a1, e1, e2⟩ := hu.get 0 (by omega)
      rw [Nat.add_zero] at e1
      have hta := fun v w => assert_leaf v w
      have HE := Lib.hid e2
      clear e2
      go_enter Try.func35, Try.ntmps35
      go_wp2_with fail
      go_ret
      have hq : (T.leaf.fill us) = us[0] := by
        cases us with
        | nil => simp at hlv
        | cons u us => simp [T.fill]
      rw [hq]
      exact ⟨Below.refl _ _, _, _, rfl, HE.out.keep (fun _ _ _ h => h) (fun b h _ => .inl h) (wfL_get huw 0 (by omega))⟩
    | node c ks =>
      rw [RepI] at hr
      obtain ⟨rfl, b, g, cap, rfl, hPb, hPg, h0, h1, h6, hL⟩ := hr
      rw [T.wf] at hwf
      have HW := Lib.hid hwf
      have HL := Lib.hid hL
      have HU := Lib.hid hu
      have HUW := Lib.hid huw
      have hk1 := hwf.2.2.1
      have hlb := World.block_lt_of_cell? w _ h0
      have hlg := hP g hPg
      rw [T.leaves] at hlv
      obtain ⟨i0, hi0, hz, hzs, hzb⟩ := info_parts info46
      have hta := fun v w => assert_node v w
      clear hL hwf hu huw
      go_enter Try.func35, Try.ntmps35
      go_wp2_with (at_make; refine wpList_make_full _ rfl _ _ 61 rfl w.heap.size 44 i0 .nilIface 1 Try.underlying61 hi0 hz hzs .i64 .i64 _ _ ks.length rfl rfl rfl rfl ?c1 ?c2 (Nat.le_refl _) ?_)
      case c1 => omega
      case c2 => unfold maxLen; omega
      intro w1 hown hg
      have hbw : Below w.heap.size w w1 := (Below.refl _ _).grown hg (by omega) (fun k e => by cases e)
      have rel0 : FRel P w ks us 0 w1 := by
        rcases hown.2 with ⟨e, _⟩ | ⟨G, cap', cur, e, _, hG, hnc, hcm, hcs, htake⟩
        · simp at e
        · simp only [Value.slice.injEq, Option.some.injEq, Addr.mk.injEq] at e
          obtain ⟨⟨rfl, _⟩, _, rfl⟩ := e
          exact ⟨cur, hG, by omega, fun i _ h => by omega, hbw⟩
      have R0 := Lib.hid rel0
      have c0 : w1.cell? ⟨b, 0, none⟩ = some (.string ⟨#[c]⟩) := keep1 hbw h0
      have c1 : w1.cell? ⟨b, 1, none⟩ = some (.slice (some ⟨g, 0, none⟩) ks.length cap) := keep1 hbw h1
      clear rel0 hown hg
      have H0 := Lib.hid h0
      have H1 := Lib.hid h1
      clear h0 h1
      go_wp2_with fail
      go_loopw [1, 29] (fun lv iv wr => ∃ k lo : Nat, k ≤ ks.length ∧ iv = .int .i64 k ∧ lv = .slice (some ⟨ug, lo, none⟩) (us.length - T.leavesL (ks.take k)) (uc - T.leavesL (ks.take k)) ∧ (T.leavesL (ks.take k) < uc → lo = uo + T.leavesL (ks.take k)) ∧ FRel P w ks us k wr) (fun _ iv _ => ks.length - (intOf iv).toNat)
      case atStart => exact ⟨0, uo, Nat.zero_le _, rfl, by simp [T.leavesL], by simp [T.leavesL], R0.out⟩
      case round =>
        obtain ⟨k, lo, hk', rfl, rfl, hlo, hrel⟩ := hrel
        have HR := Lib.hid hrel
        obtain ⟨cur, hcur, hcs, _, hB⟩ := hrel
        have HB := Lib.hid hB
        have HCUR := Lib.hid hcur
        have HCS := Lib.hid hcs
        have hzr := hB.size
        have e0 : wr.cell? ⟨b, 0, none⟩ = some (.string ⟨#[c]⟩) := keep1 hB H0.out
        have e1 : wr.cell? ⟨b, 1, none⟩ = some (.slice (some ⟨g, 0, none⟩) ks.length cap) := keep1 hB H1.out
        by_cases hlt : k < ks.length
        · obtain ⟨ty', a', d1, d2⟩ := HL.out.get k hlt
          rw [Nat.zero_add] at d1
          have hwk := wfL_get HW.out.2.2.2.2 k hlt
          have hd : SizeOf.sizeOf ks[k] < SizeOf.sizeOf ks := List.sizeOf_lt_of_mem (List.getElem_mem hlt)
          simp only [T.node.sizeOf_spec] at hn
          have d1' : wr.cell? ⟨g, k, none⟩ = some (.iface ty' (.pointer (some a'))) := keep1 hB d1
          have HD := Lib.hid (d2.below hwk hB)
          have hll := leavesL_take_le (ks := ks) (k + 1)
          have HTL := Lib.hid (leavesL_take hlt)
          rw [leavesL_take hlt] at hll
          obtain ⟨L, hL0⟩ : ∃ L, L = T.leavesL (ks.take k) := ⟨_, rfl⟩
          obtain ⟨nn, hnn⟩ : ∃ nn, nn = (ks[k]).leaves := ⟨_, rfl⟩
          have hnnp : 1 ≤ nn := by rw [hnn]; exact leaves_pos _ hwk
          rw [← hL0, ← hnn] at hll
          rw [← hL0]
          rw [← hL0] at hlo
          have hlo' := hlo (by omega)
          subst hlo'
          clear hlo
          have HL0 := Lib.hid hL0
          have HNN := Lib.hid hnn
          have hlen : ((us.drop L).take nn).length = nn := by simp; omega
          have HI0 := ih ks[k] ((us.drop L).take nn) ty' a' ug (uo + L) (uc - L) wr P (by omega) hwk (wfL_takeI (wfL_drop HUW.out _) _) (by rw [hlen, hnn]; exact Nat.le_refl _) (by rw [hlen]; omega) (by rw [hlen]; omega) (fun b hb => by have := hP b hb; omega) hPu HD.out
            (((HU.out.keep (Keeps.of_below hB P) (fun _ h _ => h) hPu HUW.out).drop L).take nn)
          rw [hlen, fill_take ks[k] (us.drop L) nn hwk (by omega)] at HI0
          have HI := Lib.hid HI0
          clear HI0 hcur hcs ih d1 d2 hd hL0 hlen hnn
          cases hkq : ks[k] with
          | leaf =>
            have hty := HD.out
            rw [hkq, RepI] at hty
            subst hty
            have HK := Lib.hid ((leafLeaves_any a' wr).mono (R' := fun e w' => e = .returned (.int .i64 ((nn : Nat) : Int)) ∧ wr = w') (fun e w' h => ⟨by rw [h.1, HNN.out, hkq, T.leaves]; rfl, h.2⟩))
            clear hkq
            go_wp2_with fail
            refine HK.out.mono ?_
            rintro e w2 ⟨rfl, rfl⟩
            go_wp2_with fail
            refine HI.out.mono ?_
            rintro e w2 ⟨hb2, ty2, a2, rfl, hrep⟩
            have hblk : w2.heap[w.heap.size]? = some (.cells cur 44 (0, 0)) := (hb2.block _ ((Array.getElem?_eq_some_iff.1 HCUR.out).1)).trans HCUR.out
            have hcj : w2.cell? ⟨w.heap.size, k, none⟩ = some (cur[k]'(by rw [HCS.out]; exact hlt)) := by rw [Lib.cell_of_heap hblk]; simp
            have hfj : w2.frozen? ⟨w.heap.size, k, none⟩ = false := Lib.frozen_of_heap hblk k
            have NX := Lib.hid (HR.out.next hP hlt HW.out.2.2.2.2 HUW.out hb2 (by rw [← HL0.out]; exact hrep))
            have hs2 := hb2.size
            clear hblk
            go_wp2_with fail
            go_roundw
            case rel =>
              have hT := HTL.out
              rw [← HL0.out, ← HNN.out] at hT
              by_cases hedge : uc - L = nn
              · exact ⟨k + 1, uo + L, by omega, by go_num, by rw [hT, if_pos hedge, Nat.sub_add_eq, Nat.sub_add_eq], fun h => by omega, NX.out⟩
              · exact ⟨k + 1, uo + L + nn, by omega, by go_num, by rw [hT, if_neg hedge, Nat.sub_add_eq, Nat.sub_add_eq], fun h => by omega, NX.out⟩
            case measure => simp [intOf]; omega
          | node c' ks' =>
            have hty : ty' = 88 := by have := HD.out; rw [hkq, RepI] at this; exact this.1
            subst hty
            have HDq := HD.out
            rw [hkq] at HDq hwk
            have hnnq := HNN.out
            rw [hkq, T.leaves] at hnnq
            rw [T.wf] at hwk
            have HK := Lib.hid ((nodeLeaves_any _ c' ks' _ a' wr P (Nat.le_refl _) hwk.2.2.2.2 (by omega) HDq).mono (R' := fun e w' => e = .returned (.int .i64 ((nn : Nat) : Int)) ∧ wr = w') (fun e w' h => ⟨by rw [h.1, hnnq]; simp, h.2⟩))
            clear hkq HDq hwk hnnq
            go_wp2_with fail
            refine HK.out.mono ?_
            rintro e w2 ⟨rfl, rfl⟩
            go_wp2_with fail
            refine HI.out.mono ?_
            rintro e w2 ⟨hb2, ty2, a2, rfl, hrep⟩
            have hblk : w2.heap[w.heap.size]? = some (.cells cur 44 (0, 0)) := (hb2.block _ ((Array.getElem?_eq_some_iff.1 HCUR.out).1)).trans HCUR.out
            have hcj : w2.cell? ⟨w.heap.size, k, none⟩ = some (cur[k]'(by rw [HCS.out]; exact hlt)) := by rw [Lib.cell_of_heap hblk]; simp
            have hfj : w2.frozen? ⟨w.heap.size, k, none⟩ = false := Lib.frozen_of_heap hblk k
            have NX := Lib.hid (HR.out.next hP hlt HW.out.2.2.2.2 HUW.out hb2 (by rw [← HL0.out]; exact hrep))
            have hs2 := hb2.size
            clear hblk
            go_wp2_with fail
            go_roundw
            case rel =>
              have hT := HTL.out
              rw [← HL0.out, ← HNN.out] at hT
              by_cases hedge : uc - L = nn
              · exact ⟨k + 1, uo + L, by omega, by go_num, by rw [hT, if_pos hedge, Nat.sub_add_eq, Nat.sub_add_eq], fun h => by omega, NX.out⟩
              · exact ⟨k + 1, uo + L + nn, by omega, by go_num, by rw [hT, if_neg hedge, Nat.sub_add_eq, Nat.sub_add_eq], fun h => by omega, NX.out⟩
            case measure => simp [intOf]; omega
        · have hkk : k = ks.length := by omega
          have HK := Lib.hid hkk
          clear hcur hcs hkk ih
          go_wp2_with fail
          go_ret
          obtain ⟨cur', hc', hs', hi', hB'⟩ := HR.out
          have hb3 : Below wr.heap.size wr (wr.alloc (.cells #[.string ⟨#[c]⟩, .slice (some ⟨w.heap.size, 0, none⟩) ks.length ks.length] 90)) := (Below.refl _ _).alloc (Nat.le_refl _) _
          refine ⟨hB.alloc (by omega) _, _, _, rfl, ?_⟩
          rw [T.fill, RepI]
          refine ⟨rfl, wr.heap.size, w.heap.size, ks.length, rfl, .inr hzr, .inr (Nat.le_refl _), by simp, by simp [fillL_length], by rw [fillL_length]; exact h6, RepIL.of_get fun j hj => ?_⟩
          rw [fillL_length] at hj
          obtain ⟨ty', a', e3, e4⟩ := hi' j hj (by have := HK.out; omega)
          have hjw := fill_wf _ (us.drop (T.leavesL (ks.take j))) (wfL_get HW.out.2.2.2.2 j hj) (wfL_drop HUW.out _)
          refine ⟨ty', a', ?_, ?_⟩
          · rw [Nat.zero_add]
            refine keep1 hb3 ?_
            rw [Lib.cell_of_heap hc', e3]
          · rw [fillL_get _ _ _ hj]
            exact (e4.below hjw hb3).keep (fun _ _ _ h => h) (fun b h _ => by rcases h with h | h; exact .inl h; exact .inr (by omega)) hjw
end Go.Proofs.Ytfflgjidapclkaa
end
section
/- The program grafts a tree at a leaf, and writes a tree that is small enough. -/
namespace Go.Proofs.Ytfflgjidapclkaa
open Go.RowKit

theorem graftAll_any (m : Nat) : ∀ (t : T) (us : List T) (ty : TypeId) (a : Addr) (ug uo uc : Nat) (w : World) (P : Nat → Prop), SizeOf.sizeOf t ≤ m → t.wf → T.wfL us → t.leaves ≤ us.length → us.length ≤ uc → uc < 1000000 → (∀ b, P b → b < w.heap.size) → P ug → RepI w P t ty a → RepIL w P us ug uo →
    Calls Try.prog 35 #[.iface ty (.pointer (some a)), .slice (some ⟨ug, uo, none⟩) us.length uc] w (NewIP P (t.fill us) w) :=
  fun t us ty a ug uo uc w P h1 h2 h3 h4 h5 h6 h7 h8 h9 h10 => graftAll_wide m t us ty a ug uo uc w P h1 h2 h3 h4 h5 ⟨by omega, by omega⟩ h7 h8 h9 h10

/-- Leaves, with a tree at k. -/
def oneIn (n k : Nat) (u : T) : List T := (List.replicate n T.leaf).set k u

theorem oneIn_length (n k : Nat) (u : T) : (oneIn n k u).length = n := by simp [oneIn]
theorem oneIn_get {n k : Nat} {u : T} {j : Nat} (h : j < (oneIn n k u).length) : (oneIn n k u)[j] = if k = j then u else T.leaf := by
  simp only [oneIn, List.getElem_set, List.getElem_replicate]
theorem wfL_of {ks : List T} (h : ∀ (j : Nat) (hj : j < ks.length), (ks[j]).wf) : T.wfL ks := by
  induction ks with
  | nil => simp [T.wfL]
  | cons k ks ih =>
    rw [T.wfL]
    exact ⟨h 0 (by simp), ih (fun j hj => by have := h (j + 1) (by simpa using hj); simpa using this)⟩
theorem oneIn_wf {n k : Nat} {u : T} (hu : u.wf) : T.wfL (oneIn n k u) := wfL_of fun j hj => by
  rw [oneIn_get hj]
  split
  · exact hu
  · simp [T.wf]
theorem oneIn_size {n k : Nat} {u : T} (hl : u.leaves ≤ 12) (hn : u.nodes ≤ 16) : ∀ v ∈ oneIn n k u, v.leaves ≤ 12 ∧ v.nodes ≤ 16 := by
  intro v hv
  obtain ⟨j, hj, rfl⟩ := List.getElem_of_mem hv
  rw [oneIn_get hj]
  split
  · exact ⟨hl, hn⟩
  · simp [T.leaves, T.nodes]

/-- Ahead of each round: so many cells hold a leaf. -/
def LRel (w : World) (n i : Nat) (wr : World) : Prop :=
  ∃ cur : Array Value, wr.heap[w.heap.size]? = some (.cells cur 44 (0, 0)) ∧ cur.size = n ∧
    (∀ j, j < n → j < i → ∃ a, cur[j]? = some (.iface 78 (.pointer (some a)))) ∧ Below w.heap.size w wr

theorem LRel.next {w wr : World} {n i : Nat} {a : Addr} {X : Obj} (h : LRel w n i wr) (hi : i < n) :
    LRel w n (i + 1) ((wr.setCell ⟨w.heap.size, i, none⟩ (.iface 78 (.pointer (some a)))).alloc X) := by
  obtain ⟨cur, hc, hs, hl, hB⟩ := h
  have hlt := (Array.getElem?_eq_some_iff.1 hc).1
  refine ⟨_, (Below.heap_alloc _ _ _ (by simp; omega)).trans (heap_setCell_same hc _), by simpa using hs, ?_, (hB.setCell (by simp) _).alloc (by simp; omega) _⟩
  intro j hj hji
  by_cases e : j = i
  · subst e
    exact ⟨a, by rw [Array.getElem?_setIfInBounds, if_pos rfl, if_pos (by omega)]⟩
  · obtain ⟨a', e'⟩ := hl j hj (by omega)
    exact ⟨a', by rw [Array.getElem?_setIfInBounds, if_neg (by omega)]; exact e'⟩

set_option maxRecDepth 100000 in
set_option maxHeartbeats 2000000 in
theorem graftAt_any (t : T) (k : Nat) (u : T) (ty : TypeId) (a : Addr) (tyu : TypeId) (au : Addr) (w : World) (P : Nat → Prop) (hw : t.wf) (huw : u.wf) (hl : t.leaves < 1000000) (hk : k < t.leaves) (hP : ∀ b, P b → b < w.heap.size) (hr : RepI w P t ty a) (hru : RepI w P u tyu au) :
    Calls Try.prog 27 #[.iface ty (.pointer (some a)), .int .i64 k, .iface tyu (.pointer (some au))] w (NewIP P (t.fill (oneIn t.leaves k u)) w) := by
  obtain ⟨nn, hnn⟩ : ∃ nn, nn = t.leaves := ⟨_, rfl⟩
  have HNN := Lib.hid hnn
  rw [← hnn]
  have hkn : k < nn := by omega
  have hn2 : nn < 1000000 := by omega
  have HR := Lib.hid hr
  have HRU := Lib.hid hru
  obtain ⟨i0, hi0, hz, hzs, hzb⟩ := info_parts info46
  clear hnn
  cases t with
  | leaf =>
    have hty := HR.out
    rw [RepI] at hty
    subst hty
    have HK := Lib.hid ((leafLeaves_any a w).mono (R' := fun e w' => e = .returned (.int .i64 ((nn : Nat) : Int)) ∧ w = w') (fun e w' h => ⟨by rw [h.1, HNN.out, T.leaves]; rfl, h.2⟩))
    go_enter Try.func27, Try.ntmps27
    go_wp2_with fail
    refine HK.out.mono ?_
    rintro e w2 ⟨rfl, rfl⟩
    go_wp2_with (at_make; refine wpList_make_full _ rfl _ _ 61 rfl w.heap.size 44 i0 .nilIface 1 Try.underlying61 hi0 hz hzs .i64 .i64 _ _ nn rfl rfl rfl rfl ?c1 ?c2 (Nat.le_refl _) ?_)
    case c1 => rw [hzb]; omega
    case c2 => unfold maxLen; omega
    intro w1 hown hg
    have rel0 : LRel w nn 0 w1 := by
      rcases hown.2 with ⟨e, _⟩ | ⟨G, cap', cur, e, _, hG, hnc, hcm, hcs, htake⟩
      · simp at e
      · simp only [Value.slice.injEq, Option.some.injEq, Addr.mk.injEq] at e
        obtain ⟨⟨rfl, _⟩, _, rfl⟩ := e
        exact ⟨cur, hG, by omega, fun j _ h => by omega, (Below.refl _ _).grown hg (by omega) (fun k e => by cases e)⟩
    have R0 := Lib.hid rel0
    clear rel0 hown hg
    go_wp2_with fail
    go_loopw [14] (fun iv wr => ∃ i : Nat, i ≤ nn ∧ iv = .int .i64 i ∧ LRel w nn i wr) (fun iv _ => nn - (intOf iv).toNat)
    case atStart => exact ⟨0, Nat.zero_le _, rfl, R0.out⟩
    case round =>
      obtain ⟨i, hi, rfl, hrel⟩ := hrel
      have HL := Lib.hid hrel
      obtain ⟨cur, hcur, hcs, hcl, hB⟩ := hrel
      have hzr := hB.size
      have HCS := Lib.hid hcs
      by_cases hlt : i < nn
      · have hblk : (wr.alloc (.cells #[] 80)).heap[w.heap.size]? = some (.cells cur 44 (0, 0)) := by
          rw [Below.heap_alloc _ _ _ ((Array.getElem?_eq_some_iff.1 hcur).1)]; exact hcur
        have hcj : wr.cell? ⟨w.heap.size, i, none⟩ = some (cur[i]'(by rw [HCS.out]; exact hlt)) := by rw [Lib.cell_of_heap hcur]; simp
        have hfj : wr.frozen? ⟨w.heap.size, i, none⟩ = false := Lib.frozen_of_heap hcur i
        have hlw : w.heap.size < wr.heap.size := (Array.getElem?_eq_some_iff.1 hcur).1
        have NX := Lib.hid (HL.out.next (a := ⟨wr.heap.size, 0, none⟩) (X := .cells #[] 80 (0, 0)) hlt)
        clear hcur hcs hcl
        go_wp2_with fail
        go_roundw
        case rel => exact ⟨i + 1, by omega, by go_num, NX.out⟩
        case measure => simp [intOf]; omega
      · have hin : i = nn := by omega
        subst hin
        have hcj : wr.cell? ⟨w.heap.size, k, none⟩ = some (cur[k]'(by rw [HCS.out]; exact hkn)) := by rw [Lib.cell_of_heap hcur]; simp
        have hfj : wr.frozen? ⟨w.heap.size, k, none⟩ = false := Lib.frozen_of_heap hcur k
        have hlw : w.heap.size < wr.heap.size := (Array.getElem?_eq_some_iff.1 hcur).1
        have HB := Lib.hid hB
        have hset : (wr.setCell ⟨w.heap.size, k, none⟩ (.iface tyu (.pointer (some au)))).heap[w.heap.size]? = some (.cells (cur.setIfInBounds k (.iface tyu (.pointer (some au)))) 44 (0, 0)) := heap_setCell_same hcur _
        have hBs : Below w.heap.size w (wr.setCell ⟨w.heap.size, k, none⟩ (.iface tyu (.pointer (some au)))) := hB.setCell (by simp) _
        have HUS : Hid (RepIL (wr.setCell ⟨w.heap.size, k, none⟩ (.iface tyu (.pointer (some au)))) (fun b => P b ∨ w.heap.size ≤ b) (oneIn i k u) w.heap.size 0) := Lib.hid (by
          refine RepIL.of_get fun j hj => ?_
          have hj' : j < i := by rw [oneIn_length] at hj; exact hj
          rw [Nat.zero_add, oneIn_get hj]
          by_cases e : k = j
          · subst e
            rw [if_pos rfl]
            refine ⟨tyu, au, ?_, (HRU.out.below huw hBs).keep (fun _ _ _ h => h) (fun b h _ => .inl h) huw⟩
            rw [Lib.cell_of_heap hset, Array.getElem?_setIfInBounds, if_pos rfl, if_pos (by omega)]
          · rw [if_neg e]
            obtain ⟨a', e'⟩ := hcl j hj' hj'
            refine ⟨_, a', ?_, by rw [RepI]⟩
            rw [Lib.cell_of_heap hset, Array.getElem?_setIfInBounds, if_neg (by omega)]; exact e')
        have HBS := Lib.hid hBs
        have hsz2 : (wr.setCell ⟨w.heap.size, k, none⟩ (.iface tyu (.pointer (some au)))).heap.size = wr.heap.size := by simp
        have HG0 := graftAll_any _ .leaf (oneIn i k u) _ a w.heap.size 0 i (wr.setCell ⟨w.heap.size, k, none⟩ (.iface tyu (.pointer (some au)))) (fun b => (P b ∨ w.heap.size ≤ b) ∧ b < wr.heap.size) (Nat.le_refl _) hw (oneIn_wf huw) (by rw [oneIn_length]; exact Nat.le_of_eq HNN.out.symm) (by rw [oneIn_length]; exact Nat.le_refl _) hn2 (fun b hb => by rw [hsz2]; exact hb.2) ⟨.inr (Nat.le_refl _), hlw⟩
          ((HR.out.below hw hBs).keep (fun _ _ _ h => h) (fun b h _ => ⟨.inl h, by have := hP b h; omega⟩) hw) (HUS.out.keep (fun _ _ _ h => h) (fun b h hb => ⟨h, by rw [hsz2] at hb; exact hb⟩) (.inr (Nat.le_refl _)) (oneIn_wf huw))
        rw [oneIn_length] at HG0
        have HG := Lib.hid HG0
        clear HG0 hcur hcs hcl hset hBs hB
        go_wp2_with fail
        refine HG.out.mono ?_
        rintro e w3 ⟨hB3, ty3, a3, rfl, hr3⟩
        have HR3 := Lib.hid hr3
        clear hr3
        go_wp2_with fail
        go_ret
        exact ⟨below_step HBS.out hB3, _, _, rfl, HR3.out.keep (fun _ _ _ h => h) (fun b h _ => by rcases h with h | h; exact h.1; exact .inr (by rw [hsz2] at h; omega)) (fill_wf _ _ hw (oneIn_wf huw))⟩
  | node c ks =>
    have hty := HR.out
    rw [RepI] at hty
    have hty := hty.1
    subst hty
    have HK : Hid (Calls Try.prog 79 #[.pointer (some a)] w (fun e w' => e = .returned (.int .i64 ((nn : Nat) : Int)) ∧ w = w')) := Lib.hid (by
      have hnnq := HNN.out
      rw [T.leaves] at hnnq hl
      have hwk := hw
      rw [T.wf] at hwk
      exact (nodeLeaves_any _ c ks _ a w P (Nat.le_refl _) hwk.2.2.2.2 (by omega) HR.out).mono (fun e w' h => ⟨by rw [h.1, hnnq]; simp, h.2⟩))
    go_enter Try.func27, Try.ntmps27
    go_wp2_with fail
    refine HK.out.mono ?_
    rintro e w2 ⟨rfl, rfl⟩
    go_wp2_with (at_make; refine wpList_make_full _ rfl _ _ 61 rfl w.heap.size 44 i0 .nilIface 1 Try.underlying61 hi0 hz hzs .i64 .i64 _ _ nn rfl rfl rfl rfl ?c1 ?c2 (Nat.le_refl _) ?_)
    case c1 => rw [hzb]; omega
    case c2 => unfold maxLen; omega
    intro w1 hown hg
    have rel0 : LRel w nn 0 w1 := by
      rcases hown.2 with ⟨e, _⟩ | ⟨G, cap', cur, e, _, hG, hnc, hcm, hcs, htake⟩
      · simp at e
      · simp only [Value.slice.injEq, Option.some.injEq, Addr.mk.injEq] at e
        obtain ⟨⟨rfl, _⟩, _, rfl⟩ := e
        exact ⟨cur, hG, by omega, fun j _ h => by omega, (Below.refl _ _).grown hg (by omega) (fun k e => by cases e)⟩
    have R0 := Lib.hid rel0
    clear rel0 hown hg
    go_wp2_with fail
    go_loopw [14] (fun iv wr => ∃ i : Nat, i ≤ nn ∧ iv = .int .i64 i ∧ LRel w nn i wr) (fun iv _ => nn - (intOf iv).toNat)
    case atStart => exact ⟨0, Nat.zero_le _, rfl, R0.out⟩
    case round =>
      obtain ⟨i, hi, rfl, hrel⟩ := hrel
      have HL := Lib.hid hrel
      obtain ⟨cur, hcur, hcs, hcl, hB⟩ := hrel
      have hzr := hB.size
      have HCS := Lib.hid hcs
      by_cases hlt : i < nn
      · have hblk : (wr.alloc (.cells #[] 80)).heap[w.heap.size]? = some (.cells cur 44 (0, 0)) := by
          rw [Below.heap_alloc _ _ _ ((Array.getElem?_eq_some_iff.1 hcur).1)]; exact hcur
        have hcj : wr.cell? ⟨w.heap.size, i, none⟩ = some (cur[i]'(by rw [HCS.out]; exact hlt)) := by rw [Lib.cell_of_heap hcur]; simp
        have hfj : wr.frozen? ⟨w.heap.size, i, none⟩ = false := Lib.frozen_of_heap hcur i
        have hlw : w.heap.size < wr.heap.size := (Array.getElem?_eq_some_iff.1 hcur).1
        have NX := Lib.hid (HL.out.next (a := ⟨wr.heap.size, 0, none⟩) (X := .cells #[] 80 (0, 0)) hlt)
        clear hcur hcs hcl
        go_wp2_with fail
        go_roundw
        case rel => exact ⟨i + 1, by omega, by go_num, NX.out⟩
        case measure => simp [intOf]; omega
      · have hin : i = nn := by omega
        subst hin
        have hcj : wr.cell? ⟨w.heap.size, k, none⟩ = some (cur[k]'(by rw [HCS.out]; exact hkn)) := by rw [Lib.cell_of_heap hcur]; simp
        have hfj : wr.frozen? ⟨w.heap.size, k, none⟩ = false := Lib.frozen_of_heap hcur k
        have hlw : w.heap.size < wr.heap.size := (Array.getElem?_eq_some_iff.1 hcur).1
        have HB := Lib.hid hB
        have hset : (wr.setCell ⟨w.heap.size, k, none⟩ (.iface tyu (.pointer (some au)))).heap[w.heap.size]? = some (.cells (cur.setIfInBounds k (.iface tyu (.pointer (some au)))) 44 (0, 0)) := heap_setCell_same hcur _
        have hBs : Below w.heap.size w (wr.setCell ⟨w.heap.size, k, none⟩ (.iface tyu (.pointer (some au)))) := hB.setCell (by simp) _
        have HUS : Hid (RepIL (wr.setCell ⟨w.heap.size, k, none⟩ (.iface tyu (.pointer (some au)))) (fun b => P b ∨ w.heap.size ≤ b) (oneIn i k u) w.heap.size 0) := Lib.hid (by
          refine RepIL.of_get fun j hj => ?_
          have hj' : j < i := by rw [oneIn_length] at hj; exact hj
          rw [Nat.zero_add, oneIn_get hj]
          by_cases e : k = j
          · subst e
            rw [if_pos rfl]
            refine ⟨tyu, au, ?_, (HRU.out.below huw hBs).keep (fun _ _ _ h => h) (fun b h _ => .inl h) huw⟩
            rw [Lib.cell_of_heap hset, Array.getElem?_setIfInBounds, if_pos rfl, if_pos (by omega)]
          · rw [if_neg e]
            obtain ⟨a', e'⟩ := hcl j hj' hj'
            refine ⟨_, a', ?_, by rw [RepI]⟩
            rw [Lib.cell_of_heap hset, Array.getElem?_setIfInBounds, if_neg (by omega)]; exact e')
        have HBS := Lib.hid hBs
        have hsz2 : (wr.setCell ⟨w.heap.size, k, none⟩ (.iface tyu (.pointer (some au)))).heap.size = wr.heap.size := by simp
        have HG0 := graftAll_any _ (.node c ks) (oneIn i k u) _ a w.heap.size 0 i (wr.setCell ⟨w.heap.size, k, none⟩ (.iface tyu (.pointer (some au)))) (fun b => (P b ∨ w.heap.size ≤ b) ∧ b < wr.heap.size) (Nat.le_refl _) hw (oneIn_wf huw) (by rw [oneIn_length]; exact Nat.le_of_eq HNN.out.symm) (by rw [oneIn_length]; exact Nat.le_refl _) hn2 (fun b hb => by rw [hsz2]; exact hb.2) ⟨.inr (Nat.le_refl _), hlw⟩
          ((HR.out.below hw hBs).keep (fun _ _ _ h => h) (fun b h _ => ⟨.inl h, by have := hP b h; omega⟩) hw) (HUS.out.keep (fun _ _ _ h => h) (fun b h hb => ⟨h, by rw [hsz2] at hb; exact hb⟩) (.inr (Nat.le_refl _)) (oneIn_wf huw))
        rw [oneIn_length] at HG0
        have HG := Lib.hid HG0
        clear HG0 hcur hcs hcl hset hBs hB
        go_wp2_with fail
        refine HG.out.mono ?_
        rintro e w3 ⟨hB3, ty3, a3, rfl, hr3⟩
        have HR3 := Lib.hid hr3
        clear hr3
        go_wp2_with fail
        go_ret
        exact ⟨below_step HBS.out hB3, _, _, rfl, HR3.out.keep (fun _ _ _ h => h) (fun b h _ => by rcases h with h | h; exact h.1; exact .inr (by rw [hsz2] at h; omega)) (fill_wf _ _ hw (oneIn_wf huw))⟩
end Go.Proofs.Ytfflgjidapclkaa
end
end
