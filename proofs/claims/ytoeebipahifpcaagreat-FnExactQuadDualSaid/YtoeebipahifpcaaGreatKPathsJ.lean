/- Merged out of: XKPathsI, XLawPathsC. -/
import Derived.Test.YtoeebipahifpcaaGreatMirrorI
import Derived.Deep.RegionLaw
import Derived.Test.YtoeebipahifpcaaGreatKReadA
import Derived.Deep.QuietTactic
import Derived.BigQuiet
section
/- Merged out of: XPathsI, XPathsS, XStrsC. -/
section
/- The program's ways to leaves. -/
namespace Go.Proofs.YtoeebipahifpcaaGreat
open Go.RowKit

mutual
def T.paths : List UInt8 → T → List (List UInt8)
  | way, .leaf => [way]
  | way, .node c ks => T.pathsL (way ++ [c]) ks
def T.pathsL : List UInt8 → List T → List (List UInt8)
  | _, [] => []
  | way, k :: ks => k.paths way ++ T.pathsL way ks
end

mutual
theorem paths_length : ∀ (t : T) (way : List UInt8), (t.paths way).length = t.leaves
  | .leaf, _ => by simp [T.paths, T.leaves]
  | .node c ks, way => by simp [T.paths, T.leaves, pathsL_length ks (way ++ [c])]
theorem pathsL_length : ∀ (ks : List T) (way : List UInt8), (T.pathsL way ks).length = T.leavesL ks
  | [], _ => by simp [T.pathsL, T.leavesL]
  | k :: ks, way => by simp [T.pathsL, T.leavesL, paths_length k way, pathsL_length ks way]
end

theorem pathsL_append (way : List UInt8) (a b : List T) : T.pathsL way (a ++ b) = T.pathsL way a ++ T.pathsL way b := by
  induction a with
  | nil => simp [T.pathsL]
  | cons x a ih => simp [T.pathsL, ih]

theorem pathsL_take {way : List UInt8} {ks : List T} {k : Nat} (h : k < ks.length) : T.pathsL way (ks.take (k + 1)) = T.pathsL way (ks.take k) ++ (ks[k]).paths way := by
  rw [List.take_succ_eq_append_getElem h, pathsL_append]; simp [T.pathsL]

/-- Texts as cells. -/
def txts (ps : List (List UInt8)) : List Value := ps.map fun p => .string ⟨p.toArray⟩

theorem txts_append (a b : List (List UInt8)) : txts (a ++ b) = txts a ++ txts b := by simp [txts]
theorem txts_length (a : List (List UInt8)) : (txts a).length = a.length := by simp [txts]
theorem txts_one (a : List (List UInt8)) : ∀ u ∈ txts a, u.oneCell' = true := by
  intro u hu
  simp only [txts, List.mem_map] at hu
  obtain ⟨p, _, rfl⟩ := hu
  rfl

/-- A new list of texts is handed back. -/
def Txts (ps : List (List UInt8)) (w : World) (e : Ending) (w' : World) : Prop :=
  Below w.heap.size w w' ∧ ∃ g cap, e = .returned (.slice (some ⟨g, 0, none⟩) ps.length cap) ∧ w'.ownsRow w.heap.size 9 1 (.slice (some ⟨g, 0, none⟩) ps.length cap) ps.length (txts ps)

theorem info9 : (Tryz.prog.info? 9).map (fun i => (i.zero, i.size, i.bytes)) = some (some (.string ⟨#[]⟩), 1, 16) := by kernel_rfl

/-- A row written out. -/
theorem owns_lit1 {w : World} {e : TypeId} (x : Value) : (w.alloc (.cells #[x] e)).ownsRow w.heap.size e 1 (.slice (some ⟨w.heap.size, 0, none⟩) 1 1) 1 [x] :=
  ⟨rfl, .inr ⟨w.heap.size, 1, #[x], rfl, Nat.le_refl _, heap_alloc_new w _, Nat.le_refl _, by simp [maxLen], rfl, rfl⟩⟩

theorem size_snoc (s : ByteArray) (c : UInt8) : (s ++ (⟨#[c]⟩ : ByteArray)).size = s.size + 1 := by rw [ByteArray.size_append]; rfl

set_option maxRecDepth 100000 in
set_option maxHeartbeats 1000000 in
theorem treePaths_any (n : Nat) : ∀ (t : T) (ty : TypeId) (a : Addr) (s : ByteArray) (w : World) (P : Nat → Prop), SizeOf.sizeOf t ≤ n → t.wf → t.leaves ≤ 1000000 → s.size + t.nodes ≤ 1000000 → RepI w P t ty a →
    Calls Tryz.prog 86 #[.iface ty (.pointer (some a)), .string s] w (Txts (t.paths s.data.toList) w) := by
  induction n with
  | zero => intro t ty a s w P h; cases t <;> simp at h <;> omega
  | succ n ih =>
    intro t ty a s w P hn hwf hlv hsz hr
    cases t with
    | leaf =>
      rw [RepI] at hr
      subst hr
      have hta := fun v w => assert_leaf v w
      go_enter Tryz.func86, Tryz.ntmps86
      go_wp2_with fail
      go_ret
      exact ⟨(Below.refl _ _).alloc (Nat.le_refl _) _, _, _, rfl, owns_lit1 _⟩
    | node c ks =>
      rw [RepI] at hr
      obtain ⟨rfl, b, g, cap, rfl, hPb, hPg, h0, h1, h6, hL⟩ := hr
      rw [T.wf] at hwf
      rw [T.leaves] at hlv
      rw [T.nodes] at hsz
      have HW := Lib.hid hwf
      have HL := Lib.hid hL
      obtain ⟨i0, hi0, hz, hzs, hzb⟩ := info_parts info9
      have hta := fun v w => assert_node v w
      have R0 : Hid ((w.alloc (.cells #[] 9)).ownsRow w.heap.size 9 1 (.slice (some ⟨w.heap.size, 0, none⟩) 0 0) 0 []) := Lib.hid (World.ownsRow_made w #[] 0 (Nat.le_refl _) (by simp [maxLen]) rfl)
      have hlb := World.block_lt_of_cell? w _ h0
      have H0 := Lib.hid h0
      have hb0 : Below w.heap.size w (w.alloc (.cells #[] 9)) := (Below.refl _ _).alloc (Nat.le_refl _) _
      have HB0 := Lib.hid hb0
      clear hL hwf hb0
      go_enter Tryz.func86, Tryz.ntmps86
      go_wp2_with fail
      go_loopw [6, 22] (fun v i wr => ∃ (k gg cc : Nat), k ≤ ks.length ∧ i = .int .i64 k ∧ v = .slice (some ⟨gg, 0, none⟩) (T.pathsL (s.data.toList ++ [c]) (ks.take k)).length cc ∧
          wr.ownsRow w.heap.size 9 1 (.slice (some ⟨gg, 0, none⟩) (T.pathsL (s.data.toList ++ [c]) (ks.take k)).length cc) (T.pathsL (s.data.toList ++ [c]) (ks.take k)).length (txts (T.pathsL (s.data.toList ++ [c]) (ks.take k))) ∧ Below w.heap.size w wr) (fun _ i _ => ks.length - (intOf i).toNat)
      case atStart => exact ⟨0, w.heap.size, 0, Nat.zero_le _, rfl, rfl, R0.out, HB0.out⟩
      case round =>
        obtain ⟨k, gg, cc, hk', rfl, rfl, hown, hB⟩ := hrel
        have HO := Lib.hid hown
        obtain ⟨ps, hps⟩ : ∃ ps, ps = T.pathsL (s.data.toList ++ [c]) (ks.take k) := ⟨_, rfl⟩
        rw [← hps] at HO ⊢
        have HPS := Lib.hid hps
        have hpl : ps.length = T.leavesL (ks.take k) := by rw [hps, pathsL_length]
        clear hown hps
        have e0 : wr.cell? ⟨b, 0, none⟩ = some (.string ⟨#[c]⟩) := keep1 hB H0.out
        have hsw := hB.size
        by_cases hlt : k < ks.length
        · obtain ⟨ty', a', d1, d2⟩ := HL.out.get k hlt
          rw [Nat.zero_add] at d1
          have hwk := wfL_get HW.out.2.2.2.2 k hlt
          have hd : SizeOf.sizeOf ks[k] < SizeOf.sizeOf ks := List.sizeOf_lt_of_mem (List.getElem_mem hlt)
          simp only [T.node.sizeOf_spec] at hn
          have d1' : wr.cell? ⟨g, k, none⟩ = some (.iface ty' (.pointer (some a'))) := keep1 hB d1
          have hle := leavesL_take_le (ks := ks) (k + 1)
          have hln := nodesL_take_le (ks := ks) (k + 1)
          rw [leavesL_take hlt] at hle
          rw [nodesL_take hlt] at hln
          have HI := Lib.hid (ih ks[k] ty' a' (s ++ ⟨#[c]⟩) wr P (by omega) hwk (by omega) (by rw [size_snoc]; omega) (d2.below hwk hB))
          have HT := Lib.hid (pathsL_take (way := s.data.toList ++ [c]) hlt)
          have hql := paths_length ks[k] (s ++ (⟨#[c]⟩ : ByteArray)).data.toList
          obtain ⟨qs, hqs⟩ : ∃ qs, qs = (ks[k]).paths (s ++ (⟨#[c]⟩ : ByteArray)).data.toList := ⟨_, rfl⟩
          rw [← hqs] at HI hql
          have hq1 := leaves_pos _ hwk
          have HQ := Lib.hid hqs
          have HQL := Lib.hid hql
          have HPL := Lib.hid hpl
          have hq2 : 1 ≤ qs.length := by omega
          have hq3 : ps.length + qs.length ≤ 1000000 := by omega
          clear ih d1 d2 hd hqs hql hpl hle hln
          go_wp2_with fail
          refine HI.out.mono ?_
          rintro e w2 ⟨hb2, g2, cap2, rfl, hown2⟩
          have HO1 := Lib.hid (owns_below HO.out hb2)
          have hs2 := hb2.size
          have HO2 := Lib.hid hown2
          clear hown2
          go_wp2_with (at_builtin; refine wpList_append_new _ rfl _ _ 22 rfl w.heap.size 9 i0 (.string ⟨#[]⟩) 1 16 Tryz.underlying22 hi0 hz hzs hzb rfl (by decide) _ _ _ rfl HO1.out ⟨g2, 0, none⟩ qs.length cap2 (txts qs) hq2 rfl ?c1 ?c2 ?c3 ?c4 ?c5 ?c6 ?_)
          case c1 => rw [txts_length]; omega
          case c2 => exact fun j u hu => HO2.out.cells (g := g2) rfl j u hu
          case c3 => exact txts_one _
          case c4 => unfold maxLen; omega
          case c5 => omega
          case c6 => omega
          intro g3 cap3 w3 hown3 hg3 _
          have HO3 := Lib.hid hown3
          have HB3 := Lib.hid (((hB.trans (hb2.mono hsw)).grown hg3 (by omega) (fun q e => (HO1.out.lt q e).1)))
          clear hown3 hg3
          go_wp2_with fail
          go_roundw
          case rel =>
            refine ⟨k + 1, g3, cap3, by omega, by go_num, ?_, ?_, HB3.out⟩
            · rw [HT.out, List.length_append, ← HPS.out, HQ.out]; simp
            · rw [HT.out, List.length_append, ← HPS.out, txts_append]
              have := HO3.out
              rw [HQ.out] at this
              simpa using this
          case measure => simp [intOf]; omega
        · have hkk : k = ks.length := by omega
          have HK := Lib.hid hkk
          clear hkk ih
          go_wp2_with fail
          go_ret
          have hp2 : (T.node c ks).paths s.data.toList = ps := by rw [T.paths, HPS.out, HK.out, List.take_length]
          rw [hp2]
          exact ⟨hB, gg, cc, rfl, HO.out⟩
end Go.Proofs.YtoeebipahifpcaaGreat
end
section
/- The model's ways to leaves. -/
namespace Go.Proofs.YtoeebipahifpcaaGreat
open Go.RowKit

theorem own_any (a : Option Addr) (n c : Nat) : (Value.slice a n c).ownBlock = (Value.slice a 0 0).ownBlock := by cases a <;> rfl

/-- A list of the caller's own is handed back, longer. -/
def More (base : Nat) (v : Value) (n : Nat) (xs : List Value) (ps : List (List UInt8)) (w : World) (e : Ending) (w' : World) : Prop :=
  ∃ g cap, e = .returned (.slice (some ⟨g, 0, none⟩) (n + ps.length) cap) ∧ w'.ownsRow base 9 1 (.slice (some ⟨g, 0, none⟩) (n + ps.length) cap) (n + ps.length) (xs ++ txts ps) ∧
    w.grownBy w' v.ownBlock ∧ (v.ownBlock = some g ∨ w.heap.size ≤ g)

theorem RepS.grown {w w' : World} {P : Nat → Prop} {row : Option Nat} {t : T} {l s : Value} (h : RepS w P t l s) (hw : t.wf) (hg : w.grownBy w' row) (hP : ∀ b, P b → some b ≠ row) : RepS w' P t l s :=
  h.keep (fun _ _ hq hu => hg.cell hu (hP _ hq)) (fun _ h _ => h) hw

set_option maxRecDepth 100000 in
set_option maxHeartbeats 1000000 in
theorem l1Paths_any (m : Nat) : ∀ (t : T) (l sl : Value) (s : ByteArray) (base : Nat) (va : Option Addr) (n cap : Nat) (xs : List Value) (w : World) (P : Nat → Prop), SizeOf.sizeOf t ≤ m → t.wf → n + t.leaves ≤ 1000000 → s.size + t.nodes ≤ 1000000 → RepS w P t l sl →
    (∀ b, P b → b < base) → base ≤ w.heap.size → w.ownsRow base 9 1 (.slice va n cap) n xs →
    Calls Tryz.prog 73 #[.agg #[l, sl], .string s, .slice va n cap] w (More base (.slice va n cap) n xs (t.paths s.data.toList) w) := by
  induction m with
  | zero => intro t l sl s base va n cap xs w P h; cases t <;> simp at h <;> omega
  | succ m ih =>
    intro t l sl s base va n cap xs w P hn hwf hlv hsz hr hP hbw hown
    obtain ⟨i0, hi0, hz, hzs, hzb⟩ := info_parts info9
    cases t with
    | leaf =>
      rw [RepS] at hr
      obtain ⟨rfl, rfl⟩ := hr
      rw [T.leaves] at hlv
      have HO : ∀ X Y, Hid (((w.alloc X).alloc Y).ownsRow base 9 1 (.slice va n cap) n xs) := fun X Y => Lib.hid ((hown.alloc _).alloc _)
      have HOO := Lib.hid HO
      have HOW := Lib.hid hown
      clear HO hown
      go_enter Tryz.func73, Tryz.ntmps73
      go_wp2_with (at_builtin; refine wpList_append_new _ rfl _ _ 22 rfl base 9 i0 (.string ⟨#[]⟩) 1 16 Tryz.underlying22 hi0 hz hzs hzb rfl (by decide) _ _ _ rfl (HOO.out _ _).out ⟨w.heap.size + 1, 0, none⟩ 1 1 [.string s] (by decide) rfl ?c1 ?c2 ?c3 ?c4 ?c5 ?c6 ?_)
      case c1 => rfl
      case c2 => exact cells_one (by first | rfl | simp) _
      case c3 => intro u hu; simp at hu; subst hu; rfl
      case c4 => unfold maxLen; omega
      case c5 => omega
      case c6 => first | omega | (simp; omega) | (simp only [World.size_alloc]; omega)
      intro g cap' w' hown' hg hf
      have HO2 := Lib.hid hown'
      have HG := Lib.hid hg
      have HF := Lib.hid hf
      clear hown' hg hf
      go_wp2_with fail
      go_ret
      refine ⟨g, cap', rfl, HO2.out, ?_, ?_⟩
      · have hg := HG.out
        refine ⟨hg.os, hg.tape, hg.output, by have := hg.size; simp at this; omega, fun k hk hne => ?_⟩
        rw [hg.block k (by simp; omega) hne, Below.heap_alloc _ _ _ (by simp; omega), Below.heap_alloc _ _ _ hk]
      · rcases HF.out with h | h
        · exact .inl h
        · right; omega
    | node c ks =>
      rw [RepS] at hr
      obtain ⟨rfl, g, kcap, rfl, hPg, hk6, hL⟩ := hr
      rw [T.wf] at hwf
      rw [T.leaves] at hlv
      rw [T.nodes] at hsz
      have HW := Lib.hid hwf
      have HL := Lib.hid hL
      have hgb := hP g hPg
      have R0 := Lib.hid (hown.alloc (.cells #[.string ⟨#[c]⟩, .slice (some ⟨g, 0, none⟩) ks.length kcap] 66 (0, 0)))
      have HOW := Lib.hid hown
      have hg0 : w.grownBy (w.alloc (.cells #[.string ⟨#[c]⟩, .slice (some ⟨g, 0, none⟩) ks.length kcap] 66 (0, 0))) (Value.slice va n cap).ownBlock := World.grownBy_alloc _ _ _
      have G0 := Lib.hid hg0
      clear hL hwf hown hg0
      go_enter Tryz.func73, Tryz.ntmps73
      go_wp2_with fail
      go_loopw [2, 7] (fun v i wr => ∃ (k : Nat) (xa : Option Addr) (xc : Nat), k ≤ ks.length ∧ i = .int .i64 k ∧ v = .slice xa (n + (T.pathsL (s.data.toList ++ [c]) (ks.take k)).length) xc ∧
          wr.ownsRow base 9 1 (.slice xa (n + (T.pathsL (s.data.toList ++ [c]) (ks.take k)).length) xc) (n + (T.pathsL (s.data.toList ++ [c]) (ks.take k)).length) (xs ++ txts (T.pathsL (s.data.toList ++ [c]) (ks.take k))) ∧
          w.grownBy wr (Value.slice va n cap).ownBlock ∧ (∀ q, (Value.slice xa 0 0).ownBlock = some q → (Value.slice va n cap).ownBlock = some q ∨ w.heap.size + 1 ≤ q) ∧ (1 ≤ k → ∃ q, xa = some ⟨q, 0, none⟩) ∧
          wr.heap[w.heap.size]? = some (.cells #[.string ⟨#[c]⟩, .slice (some ⟨g, 0, none⟩) ks.length kcap] 66 (0, 0))) (fun _ i _ => ks.length - (intOf i).toNat)
      case atStart =>
        refine ⟨0, va, cap, Nat.zero_le _, rfl, rfl, ?_, G0.out, fun q e => .inl (by cases va with | none => simp [Value.ownBlock] at e | some a => simpa [Value.ownBlock] using e), fun h => by omega, heap_alloc_new w _⟩
        have := R0.out
        simpa [T.pathsL, txts] using this
      case round =>
        obtain ⟨k, xa, xc, hk', rfl, rfl, hown, hgr, hfr, hx, hbox⟩ := hrel
        obtain ⟨ps, hps⟩ : ∃ ps, ps = T.pathsL (s.data.toList ++ [c]) (ks.take k) := ⟨_, rfl⟩
        rw [← hps] at hown ⊢
        have HO := Lib.hid hown
        have HG := Lib.hid hgr
        have HF := Lib.hid hfr
        have HX := Lib.hid hx
        have HBX := Lib.hid hbox
        obtain ⟨c0, c1, _, _⟩ := two_cells hbox
        have HPS := Lib.hid hps
        have hpl : ps.length = T.leavesL (ks.take k) := by rw [hps, pathsL_length]
        have hsw := hgr.size
        have hlb := (Array.getElem?_eq_some_iff.1 hbox).1
        have hq0 : Hid (∀ b, P b → some b ≠ (Value.slice va n cap).ownBlock) := Lib.hid (fun b hb e => by have := (HOW.out.lt b e.symm).1; have := hP b hb; omega)
        clear hown hgr hfr hx hps
        by_cases hlt : k < ks.length
        · obtain ⟨l', s', d1, d2, d3⟩ := HL.out.get k hlt
          rw [Nat.zero_add] at d1 d2
          have hwk := wfL_get HW.out.2.2.2.2 k hlt
          have hd : SizeOf.sizeOf ks[k] < SizeOf.sizeOf ks := List.sizeOf_lt_of_mem (List.getElem_mem hlt)
          simp only [T.node.sizeOf_spec] at hn
          have d1' : wr.cell? ⟨g, k * 2, none⟩ = some l' := HG.out.cell d1 (hq0.out g hPg)
          have d2' : wr.cell? ⟨g, k * 2 + 1, none⟩ = some s' := HG.out.cell d2 (hq0.out g hPg)
          have hle := leavesL_take_le (ks := ks) (k + 1)
          have hln := nodesL_take_le (ks := ks) (k + 1)
          rw [leavesL_take hlt] at hle
          rw [nodesL_take hlt] at hln
          have HI := Lib.hid (ih ks[k] l' s' (s ++ ⟨#[c]⟩) base xa (n + ps.length) xc (xs ++ txts ps) wr.drew P (by omega) hwk (by omega) (by rw [size_snoc]; omega) ((d3.grown hwk HG.out hq0.out).below hwk (Below.refl _ _).drew) hP (by simp; omega) HO.out)
          have HT := Lib.hid (pathsL_take (way := s.data.toList ++ [c]) hlt)
          obtain ⟨qs, hqs⟩ : ∃ qs, qs = (ks[k]).paths (s ++ (⟨#[c]⟩ : ByteArray)).data.toList := ⟨_, rfl⟩
          rw [← hqs] at HI
          have HQ := Lib.hid hqs
          have HPL := Lib.hid hpl
          have hsz0 : s.size ≤ 1000000 := by omega
          clear ih d1 d2 d3 hd hqs hpl hle hln hbox
          go_wp2_with fail
          go_region_with ((go_at_call 73; refine HI.out.mono ?_; rintro e w2 ⟨g2, cap2, rfl, hown2, hg2, hf2⟩))
          all_goals
            have hs2 := hg2.size
            have hown3 := hown2
            have hgr3 : w.grownBy w2 (Value.slice va n cap).ownBlock := by
              have hg := HG.out
              refine ⟨hg2.os.trans hg.os, hg2.tape.trans hg.tape, hg2.output.trans hg.output, by simp at hs2; omega, fun b hb hne => ?_⟩
              refine (hg2.block b (by simp; omega) (fun e => ?_)).trans (hg.block b hb hne)
              rcases HF.out b (by cases xa <;> simpa [Value.ownBlock] using e.symm) with h | h
              · exact hne h.symm
              · omega
            have hbx3 : w2.heap[w.heap.size]? = some (.cells #[.string ⟨#[c]⟩, .slice (some ⟨g, 0, none⟩) ks.length kcap] 66 (0, 0)) := by
              refine (hg2.block _ (by simp; omega) (fun e => ?_)).trans HBX.out
              rcases HF.out _ (by cases xa <;> simpa [Value.ownBlock] using e.symm) with h | h
              · have := (HOW.out.lt _ h).2; omega
              · omega
            have hfr3 : ∀ q, (Value.slice (some ⟨g2, 0, none⟩) 0 0).ownBlock = some q → (Value.slice va n cap).ownBlock = some q ∨ w.heap.size + 1 ≤ q := by
              intro q e
              simp only [Value.ownBlock, Option.some.injEq] at e
              subst e
              rcases hf2 with h | h
              · exact HF.out _ ((own_any xa (n + ps.length) xc).symm.trans h)
              · right; simp at h; omega
            have H1 := Lib.hid hown3
            have H2 := Lib.hid hgr3
            have H3 := Lib.hid hbx3
            have H4 := Lib.hid hfr3
            clear hown2 hown3 hgr3 hbx3 hfr3 hg2 hf2
            go_wp2_with fail
            go_roundw
            case rel =>
              refine ⟨k + 1, some ⟨g2, 0, none⟩, cap2, by omega, by go_num, ?_, ?_, H2.out, H4.out, fun _ => ⟨_, rfl⟩, H3.out⟩
              · rw [HT.out, List.length_append, ← HPS.out, HQ.out, Nat.add_assoc]; simp
              · rw [HT.out, List.length_append, ← HPS.out, txts_append, ← List.append_assoc, ← Nat.add_assoc]
                have := H1.out
                rw [HQ.out] at this
                simpa using this
            case measure => simp [intOf]; omega
        · have hkk : k = ks.length := by omega
          have HK := Lib.hid hkk
          obtain ⟨q, hq⟩ := HX.out (by have := HW.out.2.2.1; omega)
          subst hq
          have hp2 : (T.node c ks).paths s.data.toList = ps := by rw [T.paths, HPS.out, HK.out, List.take_length]
          have HP2 := Lib.hid hp2
          clear hkk ih hp2
          go_wp2_with fail
          go_ret
          rw [HP2.out]
          refine ⟨q, xc, rfl, HO.out, HG.out, ?_⟩
          rcases HF.out q rfl with h | h
          · exact .inl h
          · exact .inr (by omega)
end Go.Proofs.YtoeebipahifpcaaGreat
end
section
/- The laws' own helpers on lists of texts: equal, marked, held. -/
namespace Go.Proofs.YtoeebipahifpcaaGreat
open Go.RowKit

/-- The last digit. -/
def dg (k : Nat) : UInt8 := UInt8.ofNat (48 + k % 10)

theorem dg_nat (k : Nat) : (dg k).toNat = 48 + k % 10 := by
  unfold dg
  rw [UInt8.toNat_ofNat']
  omega

def digits : Nat → Nat → List UInt8
  | 0, _ => []
  | f + 1, k => if k = 0 then [] else digits f (k / 10) ++ [dg k]

/-- The k-th mark. -/
def mark (k : Nat) : List UInt8 := 109 :: digits 20 k

theorem digit_conv (j : Nat) (w : World) : (convert 89 9 (.slice (some ⟨w.heap.size, 0, none⟩) 1 1)).run Tryz.prog (w.alloc (.cells #[.int .u8 (48 + (j : Int) % 10)] 5)) =
    .ok (.string ⟨#[dg j]⟩) (w.alloc (.cells #[.int .u8 (48 + (j : Int) % 10)] 5)) := by
  refine run_convert_bytes_back (l := [dg j]) _ _ _ 5 _ _ Tryz.underlying89 Tryz.underlying5 Tryz.underlying9 ?_
  intro i hi
  simp at hi
  subst hi
  have e : (⟨w.heap.size, 0, none⟩ : Addr).add 0 = ⟨w.heap.size, 0, none⟩ := by unfold Addr.add; split <;> simp_all
  rw [e]
  simp [dg_nat]

theorem below_drewN {B : Nat} {a w : World} (h : Below B a w) (n : Nat) : Below B a (w.drewN n) := ⟨h.os, h.tape, h.output, h.size, h.block⟩

/-- A slice reads as these texts. -/
def Lies (w : World) (a : Option Addr) (ps : List (List UInt8)) : Prop := ∀ j (h : j < ps.length), ∃ g, a = some ⟨g, 0, none⟩ ∧ w.cell? ⟨g, j, none⟩ = some (.string ⟨(ps[j]).toArray⟩)

theorem Lies.below {w w' : World} {a : Option Addr} {ps : List (List UInt8)} (h : Lies w a ps) (hb : Below w.heap.size w w') : Lies w' a ps := fun j hj => by
  obtain ⟨g, e, hc⟩ := h j hj
  exact ⟨g, e, keep1 hb hc⟩

theorem Lies.nil (w : World) (a : Option Addr) : Lies w a [] := fun j h => by simp at h

theorem Lies.of_owns {w : World} {base g n cap : Nat} {ps : List (List UInt8)} (h : w.ownsRow base 9 1 (.slice (some ⟨g, 0, none⟩) n cap) n (txts ps)) (hn : n = ps.length) : Lies w (some ⟨g, 0, none⟩) ps := fun j hj => by
  refine ⟨g, rfl, ?_⟩
  rw [h.cellAt j (by omega)]
  simp [txts, hj]

end Go.Proofs.YtoeebipahifpcaaGreat
end
end
section
/- TreePaths on both sides, and its law. -/
namespace Go.Proofs.YtoeebipahifpcaaGreat
open Go.RowKit

def pathsOf : Option T → List (List UInt8)
  | none => []
  | some t => t.paths []

theorem pathsOf_len (s : List UInt8) : (pathsOf (parse s)).length ≤ 12 := by
  cases h : parse s with
  | none => simp [pathsOf]
  | some t => obtain ⟨_, _, hl, _⟩ := parse_some h; rw [pathsOf, paths_length]; exact hl

/-- What the model's list of texts is good for. -/
def SList (ps : List (List UInt8)) (b : Bool) (w : World) (e : Ending) (w' : World) : Prop :=
  Below w.heap.size w w' ∧ ∃ a cap, e = .returned (.tuple #[.slice a ps.length cap, .bool b]) ∧ Lies w' a ps

/-- What the program's is good for besides: it lies in a row of its own. -/
def IList (ps : List (List UInt8)) (b : Bool) (w : World) (e : Ending) (w' : World) : Prop :=
  Below w.heap.size w w' ∧ ∃ a cap, e = .returned (.tuple #[.slice a ps.length cap, .bool b]) ∧ Lies w' a ps ∧
    (ps = [] ∨ ∃ g cur, a = some ⟨g, 0, none⟩ ∧ w'.heap[g]? = some (.cells cur 9 (0, 0)) ∧ ps.length ≤ cur.size ∧ w.heap.size ≤ g)

theorem owns_row {w : World} {base g n cap : Nat} {e : TypeId} {xs : List Value} (h : w.ownsRow base e 1 (.slice (some ⟨g, 0, none⟩) n cap) n xs) : ∃ cur, w.heap[g]? = some (.cells cur e (0, 0)) ∧ n ≤ cur.size ∧ base ≤ g := by
  rcases h.2 with ⟨e, _⟩ | ⟨g', cap', cur, e, hb, hg, hn, _, hs, _⟩
  · cases e
  · simp only [Value.slice.injEq, Option.some.injEq, Addr.mk.injEq] at e
    obtain ⟨⟨rfl, _⟩, _, rfl⟩ := e
    exact ⟨cur, hg, by omega, hb⟩

theorem Lies.belowB {w w' : World} {a : Option Addr} {ps : List (List UInt8)} {B : Nat} (h : Lies w a ps) (hb : Below B w w') (hB : ∀ g, a = some ⟨g, 0, none⟩ → ps ≠ [] → g < B) : Lies w' a ps := fun j hj => by
  obtain ⟨g, e, hc⟩ := h j hj
  exact ⟨g, e, (hb.cell (p := ⟨g, j, none⟩) (hB g e (by intro h; subst h; simp at hj))).trans hc⟩

theorem Lies.lt {w : World} {a : Option Addr} {ps : List (List UInt8)} (h : Lies w a ps) (g : Nat) (e : a = some ⟨g, 0, none⟩) (hp : ps ≠ []) : g < w.heap.size := by
  obtain ⟨g', e', hc⟩ := h 0 (by cases ps; exact absurd rfl hp; simp)
  rw [e] at e'
  simp only [Option.some.injEq, Addr.mk.injEq] at e'
  rw [e'.1]
  exact World.block_lt_of_cell? w _ hc

end Go.Proofs.YtoeebipahifpcaaGreat
end
