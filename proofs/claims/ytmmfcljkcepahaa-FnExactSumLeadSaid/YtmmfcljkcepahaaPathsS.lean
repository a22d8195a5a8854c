/- The model's ways to leaves. -/
import Derived.Test.YtmmfcljkcepahaaPathsI
import Derived.Deep.RegionLaw
namespace Go.Proofs.Ytmmfcljkcepahaa
open Go.RowKit

theorem own_any (a : Option Addr) (n c : Nat) : (Value.slice a n c).ownBlock = (Value.slice a 0 0).ownBlock := by cases a <;> rfl

/-- A list of the caller's own is handed back, longer. -/
def More (base : Nat) (v : Value) (n : Nat) (xs : List Value) (ps : List (List UInt8)) (w : World) (e : Ending) (w' : World) : Prop :=
  ∃ g cap, e = .returned (.slice (some ⟨g, 0, none⟩) (n + ps.length) cap) ∧ w'.ownsRow base 9 1 (.slice (some ⟨g, 0, none⟩) (n + ps.length) cap) (n + ps.length) (xs ++ txts ps) ∧
    w.grownBy w' v.ownBlock ∧ (v.ownBlock = some g ∨ w.heap.size ≤ g)

theorem RepS.grown {w w' : World} {P : Nat → Prop} {row : Option Nat} {t : T} {l s : Value} (h : RepS w P t l s) (hw : t.wf) (hg : w.grownBy w' row) (hP : ∀ b, P b → some b ≠ row) : RepS w' P t l s :=
  h.keep (fun _ _ hq hu => hg.cell hu (hP _ hq)) (fun _ h _ => h) hw

set_option maxRecDepth 100000 in
set_option maxHeartbeats 1000000 in
theorem l1Paths_any (m : Nat) : ∀ (t : T) (l sl : Value) (s : ByteArray) (base : Nat) (va : Option Addr) (n cap : Nat) (xs : List Value) (w : World) (P : Nat → Prop), SizeOf.sizeOf t ≤ m → t.wf → n + t.leaves ≤ 1000000 → s.size + t.nodes ≤ 1000000 → RepS w P t l sl →
    (∀ b, P b → b < base) → base ≤ w.heap.size → w.ownsRow base 9 1 (.slice va n cap) n xs →
    Calls Try.prog 165 #[.agg #[l, sl], .string s, .slice va n cap] w (More base (.slice va n cap) n xs (t.paths s.data.toList) w) := by
  induction m with
  | zero => intro t l sl s base va n cap xs w P h; cases t <;> simp at h <;> omega
  | succ m ih =>
    intro t l sl s base va n cap xs w P hn hwf hlv hsz hr hP hbw hown
    obtain ⟨i0, hi0, hz, hzs, hzb⟩ := info_parts info9
    cases t with
    | leaf =>
      rw [RepS] at hr
      obtain ⟨rfl, rfl⟩ := hr
      rw [T.leaves] at hlv
      have HO : ∀ X Y, Hid (((w.alloc X).alloc Y).ownsRow base 9 1 (.slice va n cap) n xs) := fun X Y => Lib.hid ((hown.alloc _).alloc _)
      have HOO := Lib.hid HO
      have HOW := Lib.hid hown
      clear HO hown
      go_enter Try.func165, Try.ntmps165
      go_wp2_with (at_builtin; refine wpList_append_new _ rfl _ _ 53 rfl base 9 i0 (.string ⟨#[]⟩) 1 16 Try.underlying53 hi0 hz hzs hzb rfl (by decide) _ _ _ rfl (HOO.out _ _).out ⟨w.heap.size + 1, 0, none⟩ 1 1 [.string s] (by decide) rfl ?c1 ?c2 ?c3 ?c4 ?c5 ?c6 ?_)
      case c1 => rfl
      case c2 => exact cells_one (by first | rfl | simp) _
      case c3 => intro u hu; simp at hu; subst hu; rfl
      case c4 => unfold maxLen; omega
      case c5 => omega
      case c6 => first | omega | (simp; omega) | (simp only [World.size_alloc]; omega)
      intro g cap' w' hown' hg hf
      have HO2 := Lib.hid hown'
      have HG := Lib.hid hg
      have HF := Lib.hid hf
      clear hown' hg hf
      go_wp2_with fail
      go_ret
      refine ⟨g, cap', rfl, HO2.out, ?_, ?_⟩
      · have hg := HG.out
        refine ⟨hg.os, hg.tape, hg.output, by have := hg.size; simp at this; omega, fun k hk hne => ?_⟩
        rw [hg.block k (by simp; omega) hne, Below.heap_alloc _ _ _ (by simp; omega), Below.heap_alloc _ _ _ hk]
      · rcases HF.out with h | h
        · exact .inl h
        · right; omega
    | node c ks =>
      rw [RepS] at hr
      obtain ⟨rfl, g, kcap, rfl, hPg, hk6, hL⟩ := hr
      rw [T.wf] at hwf
      rw [T.leaves] at hlv
      rw [T.nodes] at hsz
      have HW := Lib.hid hwf
      have HL := Lib.hid hL
      have hgb := hP g hPg
      have R0 := Lib.hid (hown.alloc (.cells #[.string ⟨#[c]⟩, .slice (some ⟨g, 0, none⟩) ks.length kcap] 93 (0, 0)))
      have HOW := Lib.hid hown
      have hg0 : w.grownBy (w.alloc (.cells #[.string ⟨#[c]⟩, .slice (some ⟨g, 0, none⟩) ks.length kcap] 93 (0, 0))) (Value.slice va n cap).ownBlock := World.grownBy_alloc _ _ _
      have G0 := Lib.hid hg0
      clear hL hwf hown hg0
      go_enter Try.func165, Try.ntmps165
      go_wp2_with fail
      go_loopw [2, 7] (fun v i wr => ∃ (k : Nat) (xa : Option Addr) (xc : Nat), k ≤ ks.length ∧ i = .int .i64 k ∧ v = .slice xa (n + (T.pathsL (s.data.toList ++ [c]) (ks.take k)).length) xc ∧
          wr.ownsRow base 9 1 (.slice xa (n + (T.pathsL (s.data.toList ++ [c]) (ks.take k)).length) xc) (n + (T.pathsL (s.data.toList ++ [c]) (ks.take k)).length) (xs ++ txts (T.pathsL (s.data.toList ++ [c]) (ks.take k))) ∧
          w.grownBy wr (Value.slice va n cap).ownBlock ∧ (∀ q, (Value.slice xa 0 0).ownBlock = some q → (Value.slice va n cap).ownBlock = some q ∨ w.heap.size + 1 ≤ q) ∧ (1 ≤ k → ∃ q, xa = some ⟨q, 0, none⟩) ∧
          wr.heap[w.heap.size]? = some (.cells #[.string ⟨#[c]⟩, .slice (some ⟨g, 0, none⟩) ks.length kcap] 93 (0, 0))) (fun _ i _ => ks.length - (intOf i).toNat)
      case atStart =>
        refine ⟨0, va, cap, Nat.zero_le _, rfl, rfl, ?_, G0.out, fun q e => .inl (by cases va with | none => simp [Value.ownBlock] at e | some a => simpa [Value.ownBlock] using e), fun h => by omega, heap_alloc_new w _⟩
        have := R0.out
        simpa [T.pathsL, txts] using this
      case round =>
        obtain ⟨k, xa, xc, hk', rfl, rfl, hown, hgr, hfr, hx, hbox⟩ := hrel
        obtain ⟨ps, hps⟩ : ∃ ps, ps = T.pathsL (s.data.toList ++ [c]) (ks.take k) := ⟨_, rfl⟩
        rw [← hps] at hown ⊢
        have HO := Lib.hid hown
        have HG := Lib.hid hgr
        have HF := Lib.hid hfr
        have HX := Lib.hid hx
        have HBX := Lib.hid hbox
        obtain ⟨c0, c1, _, _⟩ := two_cells hbox
        have HPS := Lib.hid hps
        have hpl : ps.length = T.leavesL (ks.take k) := by rw [hps, pathsL_length]
        have hsw := hgr.size
        have hlb := (Array.getElem?_eq_some_iff.1 hbox).1
        have hq0 : Hid (∀ b, P b → some b ≠ (Value.slice va n cap).ownBlock) := Lib.hid (fun b hb e => by have := (HOW.out.lt b e.symm).1; have := hP b hb; omega)
        clear hown hgr hfr hx hps
        by_cases hlt : k < ks.length
        · obtain ⟨l', s', d1, d2, d3⟩ := HL.out.get k hlt
          rw [Nat.zero_add] at d1 d2
          have hwk := wfL_get HW.out.2.2.2.2 k hlt
          have hd : SizeOf.sizeOf ks[k] < SizeOf.sizeOf ks := List.sizeOf_lt_of_mem (List.getElem_mem hlt)
          simp only [T.node.sizeOf_spec] at hn
          have d1' : wr.cell? ⟨g, k * 2, none⟩ = some l' := HG.out.cell d1 (hq0.out g hPg)
          have d2' : wr.cell? ⟨g, k * 2 + 1, none⟩ = some s' := HG.out.cell d2 (hq0.out g hPg)
          have hle := leavesL_take_le (ks := ks) (k + 1)
          have hln := nodesL_take_le (ks := ks) (k + 1)
          rw [leavesL_take hlt] at hle
          rw [nodesL_take hlt] at hln
          have HI := Lib.hid (ih ks[k] l' s' (s ++ ⟨#[c]⟩) base xa (n + ps.length) xc (xs ++ txts ps) wr.drew P (by omega) hwk (by omega) (by rw [size_snoc]; omega) ((d3.grown hwk HG.out hq0.out).below hwk (Below.refl _ _).drew) hP (by simp; omega) HO.out)
          have HT := Lib.hid (pathsL_take (way := s.data.toList ++ [c]) hlt)
          obtain ⟨qs, hqs⟩ : ∃ qs, qs = (ks[k]).paths (s ++ (⟨#[c]⟩ : ByteArray)).data.toList := ⟨_, rfl⟩
          rw [← hqs] at HI
          have HQ := Lib.hid hqs
          have HPL := Lib.hid hpl
          have hsz0 : s.size ≤ 1000000 := by omega
          clear ih d1 d2 d3 hd hqs hpl hle hln hbox
          go_wp2_with fail
          go_region_with ((go_at_call 165; refine HI.out.mono ?_; rintro e w2 ⟨g2, cap2, rfl, hown2, hg2, hf2⟩))
          all_goals
            have hs2 := hg2.size
            have hown3 := hown2
            have hgr3 : w.grownBy w2 (Value.slice va n cap).ownBlock := by
              have hg := HG.out
              refine ⟨hg2.os.trans hg.os, hg2.tape.trans hg.tape, hg2.output.trans hg.output, by simp at hs2; omega, fun b hb hne => ?_⟩
              refine (hg2.block b (by simp; omega) (fun e => ?_)).trans (hg.block b hb hne)
              rcases HF.out b (by cases xa <;> simpa [Value.ownBlock] using e.symm) with h | h
              · exact hne h.symm
              · omega
            have hbx3 : w2.heap[w.heap.size]? = some (.cells #[.string ⟨#[c]⟩, .slice (some ⟨g, 0, none⟩) ks.length kcap] 93 (0, 0)) := by
              refine (hg2.block _ (by simp; omega) (fun e => ?_)).trans HBX.out
              rcases HF.out _ (by cases xa <;> simpa [Value.ownBlock] using e.symm) with h | h
              · have := (HOW.out.lt _ h).2; omega
              · omega
            have hfr3 : ∀ q, (Value.slice (some ⟨g2, 0, none⟩) 0 0).ownBlock = some q → (Value.slice va n cap).ownBlock = some q ∨ w.heap.size + 1 ≤ q := by
              intro q e
              simp only [Value.ownBlock, Option.some.injEq] at e
              subst e
              rcases hf2 with h | h
              · exact HF.out _ ((own_any xa (n + ps.length) xc).symm.trans h)
              · right; simp at h; omega
            have H1 := Lib.hid hown3
            have H2 := Lib.hid hgr3
            have H3 := Lib.hid hbx3
            have H4 := Lib.hid hfr3
            clear hown2 hown3 hgr3 hbx3 hfr3 hg2 hf2
            go_wp2_with fail
            go_roundw
            case rel =>
              refine ⟨k + 1, some ⟨g2, 0, none⟩, cap2, by omega, by go_num, ?_, ?_, H2.out, H4.out, fun _ => ⟨_, rfl⟩, H3.out⟩
              · rw [HT.out, List.length_append, ← HPS.out, HQ.out, Nat.add_assoc]; simp
              · rw [HT.out, List.length_append, ← HPS.out, txts_append, ← List.append_assoc, ← Nat.add_assoc]
                have := H1.out
                rw [HQ.out] at this
                simpa using this
            case measure => simp [intOf]; omega
        · have hkk : k = ks.length := by omega
          have HK := Lib.hid hkk
          obtain ⟨q, hq⟩ := HX.out (by have := HW.out.2.2.1; omega)
          subst hq
          have hp2 : (T.node c ks).paths s.data.toList = ps := by rw [T.paths, HPS.out, HK.out, List.take_length]
          have HP2 := Lib.hid hp2
          clear hkk ih hp2
          go_wp2_with fail
          go_ret
          rw [HP2.out]
          refine ⟨q, xc, rfl, HO.out, HG.out, ?_⟩
          rcases HF.out q rfl with h | h
          · exact .inl h
          · exact .inr (by omega)
end Go.Proofs.Ytmmfcljkcepahaa
