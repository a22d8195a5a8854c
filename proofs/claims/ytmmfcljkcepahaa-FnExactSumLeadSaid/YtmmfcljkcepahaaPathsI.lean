/- The program's ways to leaves. -/
import Derived.Test.YtmmfcljkcepahaaMirrorI
namespace Go.Proofs.Ytmmfcljkcepahaa
open Go.RowKit

mutual
def T.paths : List UInt8 → T → List (List UInt8)
  | way, .leaf => [way]
  | way, .node c ks => T.pathsL (way ++ [c]) ks
def T.pathsL : List UInt8 → List T → List (List UInt8)
  | _, [] => []
  | way, k :: ks => k.paths way ++ T.pathsL way ks
end

mutual
theorem paths_length : ∀ (t : T) (way : List UInt8), (t.paths way).length = t.leaves
  | .leaf, _ => by simp [T.paths, T.leaves]
  | .node c ks, way => by simp [T.paths, T.leaves, pathsL_length ks (way ++ [c])]
theorem pathsL_length : ∀ (ks : List T) (way : List UInt8), (T.pathsL way ks).length = T.leavesL ks
  | [], _ => by simp [T.pathsL, T.leavesL]
  | k :: ks, way => by simp [T.pathsL, T.leavesL, paths_length k way, pathsL_length ks way]
end

theorem pathsL_append (way : List UInt8) (a b : List T) : T.pathsL way (a ++ b) = T.pathsL way a ++ T.pathsL way b := by
  induction a with
  | nil => simp [T.pathsL]
  | cons x a ih => simp [T.pathsL, ih]

theorem pathsL_take {way : List UInt8} {ks : List T} {k : Nat} (h : k < ks.length) : T.pathsL way (ks.take (k + 1)) = T.pathsL way (ks.take k) ++ (ks[k]).paths way := by
  rw [List.take_succ_eq_append_getElem h, pathsL_append]; simp [T.pathsL]

/-- Texts as cells. -/
def txts (ps : List (List UInt8)) : List Value := ps.map fun p => .string ⟨p.toArray⟩

theorem txts_append (a b : List (List UInt8)) : txts (a ++ b) = txts a ++ txts b := by simp [txts]
theorem txts_length (a : List (List UInt8)) : (txts a).length = a.length := by simp [txts]
theorem txts_one (a : List (List UInt8)) : ∀ u ∈ txts a, u.oneCell' = true := by
  intro u hu
  simp only [txts, List.mem_map] at hu
  obtain ⟨p, _, rfl⟩ := hu
  rfl

/-- A new list of texts is handed back. -/
def Txts (ps : List (List UInt8)) (w : World) (e : Ending) (w' : World) : Prop :=
  Below w.heap.size w w' ∧ ∃ g cap, e = .returned (.slice (some ⟨g, 0, none⟩) ps.length cap) ∧ w'.ownsRow w.heap.size 9 1 (.slice (some ⟨g, 0, none⟩) ps.length cap) ps.length (txts ps)

theorem info9 : (Try.prog.info? 9).map (fun i => (i.zero, i.size, i.bytes)) = some (some (.string ⟨#[]⟩), 1, 16) := by kernel_rfl

/-- A row written out. -/
theorem owns_lit1 {w : World} {e : TypeId} (x : Value) : (w.alloc (.cells #[x] e)).ownsRow w.heap.size e 1 (.slice (some ⟨w.heap.size, 0, none⟩) 1 1) 1 [x] :=
  ⟨rfl, .inr ⟨w.heap.size, 1, #[x], rfl, Nat.le_refl _, heap_alloc_new w _, Nat.le_refl _, by simp [maxLen], rfl, rfl⟩⟩

theorem size_snoc (s : ByteArray) (c : UInt8) : (s ++ (⟨#[c]⟩ : ByteArray)).size = s.size + 1 := by rw [ByteArray.size_append]; rfl

set_option maxRecDepth 100000 in
set_option maxHeartbeats 1000000 in
theorem treePaths_any (n : Nat) : ∀ (t : T) (ty : TypeId) (a : Addr) (s : ByteArray) (w : World) (P : Nat → Prop), SizeOf.sizeOf t ≤ n → t.wf → t.leaves ≤ 1000000 → s.size + t.nodes ≤ 1000000 → RepI w P t ty a →
    Calls Try.prog 155 #[.iface ty (.pointer (some a)), .string s] w (Txts (t.paths s.data.toList) w) := by
  induction n with
  | zero => intro t ty a s w P h; cases t <;> simp at h <;> omega
  | succ n ih =>
    intro t ty a s w P hn hwf hlv hsz hr
    cases t with
    | leaf =>
      rw [RepI] at hr
      subst hr
      have hta := fun v w => assert_leaf v w
      go_enter Try.func155, Try.ntmps155
      go_wp2_with fail
      go_ret
      exact ⟨(Below.refl _ _).alloc (Nat.le_refl _) _, _, _, rfl, owns_lit1 _⟩
    | node c ks =>
      rw [RepI] at hr
      obtain ⟨rfl, b, g, cap, rfl, hPb, hPg, h0, h1, h6, hL⟩ := hr
      rw [T.wf] at hwf
      rw [T.leaves] at hlv
      rw [T.nodes] at hsz
      have HW := Lib.hid hwf
      have HL := Lib.hid hL
      obtain ⟨i0, hi0, hz, hzs, hzb⟩ := info_parts info9
      have hta := fun v w => assert_node v w
      have R0 : Hid ((w.alloc (.cells #[] 9)).ownsRow w.heap.size 9 1 (.slice (some ⟨w.heap.size, 0, none⟩) 0 0) 0 []) := Lib.hid (World.ownsRow_made w #[] 0 (Nat.le_refl _) (by simp [maxLen]) rfl)
      have hlb := World.block_lt_of_cell? w _ h0
      have H0 := Lib.hid h0
      have hb0 : Below w.heap.size w (w.alloc (.cells #[] 9)) := (Below.refl _ _).alloc (Nat.le_refl _) _
      have HB0 := Lib.hid hb0
      clear hL hwf hb0
      go_enter Try.func155, Try.ntmps155
      go_wp2_with fail
      go_loopw [6, 22] (fun v i wr => ∃ (k gg cc : Nat), k ≤ ks.length ∧ i = .int .i64 k ∧ v = .slice (some ⟨gg, 0, none⟩) (T.pathsL (s.data.toList ++ [c]) (ks.take k)).length cc ∧
          wr.ownsRow w.heap.size 9 1 (.slice (some ⟨gg, 0, none⟩) (T.pathsL (s.data.toList ++ [c]) (ks.take k)).length cc) (T.pathsL (s.data.toList ++ [c]) (ks.take k)).length (txts (T.pathsL (s.data.toList ++ [c]) (ks.take k))) ∧ Below w.heap.size w wr) (fun _ i _ => ks.length - (intOf i).toNat)
      case atStart => exact ⟨0, w.heap.size, 0, Nat.zero_le _, rfl, rfl, R0.out, HB0.out⟩
      case round =>
        obtain ⟨k, gg, cc, hk', rfl, rfl, hown, hB⟩ := hrel
        have HO := Lib.hid hown
        obtain ⟨ps, hps⟩ : ∃ ps, ps = T.pathsL (s.data.toList ++ [c]) (ks.take k) := ⟨_, rfl⟩
        rw [← hps] at HO ⊢
        have HPS := Lib.hid hps
        have hpl : ps.length = T.leavesL (ks.take k) := by rw [hps, pathsL_length]
        clear hown hps
        have e0 : wr.cell? ⟨b, 0, none⟩ = some (.string ⟨#[c]⟩) := keep1 hB H0.out
        have hsw := hB.size
        by_cases hlt : k < ks.length
        · obtain ⟨ty', a', d1, d2⟩ := HL.out.get k hlt
          rw [Nat.zero_add] at d1
          have hwk := wfL_get HW.out.2.2.2.2 k hlt
          have hd : SizeOf.sizeOf ks[k] < SizeOf.sizeOf ks := List.sizeOf_lt_of_mem (List.getElem_mem hlt)
          simp only [T.node.sizeOf_spec] at hn
          have d1' : wr.cell? ⟨g, k, none⟩ = some (.iface ty' (.pointer (some a'))) := keep1 hB d1
          have hle := leavesL_take_le (ks := ks) (k + 1)
          have hln := nodesL_take_le (ks := ks) (k + 1)
          rw [leavesL_take hlt] at hle
          rw [nodesL_take hlt] at hln
          have HI := Lib.hid (ih ks[k] ty' a' (s ++ ⟨#[c]⟩) wr P (by omega) hwk (by omega) (by rw [size_snoc]; omega) (d2.below hwk hB))
          have HT := Lib.hid (pathsL_take (way := s.data.toList ++ [c]) hlt)
          have hql := paths_length ks[k] (s ++ (⟨#[c]⟩ : ByteArray)).data.toList
          obtain ⟨qs, hqs⟩ : ∃ qs, qs = (ks[k]).paths (s ++ (⟨#[c]⟩ : ByteArray)).data.toList := ⟨_, rfl⟩
          rw [← hqs] at HI hql
          have hq1 := leaves_pos _ hwk
          have HQ := Lib.hid hqs
          have HQL := Lib.hid hql
          have HPL := Lib.hid hpl
          have hq2 : 1 ≤ qs.length := by omega
          have hq3 : ps.length + qs.length ≤ 1000000 := by omega
          clear ih d1 d2 hd hqs hql hpl hle hln
          go_wp2_with fail
          refine HI.out.mono ?_
          rintro e w2 ⟨hb2, g2, cap2, rfl, hown2⟩
          have HO1 := Lib.hid (owns_below HO.out hb2)
          have hs2 := hb2.size
          have HO2 := Lib.hid hown2
          clear hown2
          go_wp2_with (at_builtin; refine wpList_append_new _ rfl _ _ 53 rfl w.heap.size 9 i0 (.string ⟨#[]⟩) 1 16 Try.underlying53 hi0 hz hzs hzb rfl (by decide) _ _ _ rfl HO1.out ⟨g2, 0, none⟩ qs.length cap2 (txts qs) hq2 rfl ?c1 ?c2 ?c3 ?c4 ?c5 ?c6 ?_)
          case c1 => rw [txts_length]; omega
          case c2 => exact fun j u hu => HO2.out.cells (g := g2) rfl j u hu
          case c3 => exact txts_one _
          case c4 => unfold maxLen; omega
          case c5 => omega
          case c6 => omega
          intro g3 cap3 w3 hown3 hg3 _
          have HO3 := Lib.hid hown3
          have HB3 := Lib.hid (((hB.trans (hb2.mono hsw)).grown hg3 (by omega) (fun q e => (HO1.out.lt q e).1)))
          clear hown3 hg3
          go_wp2_with fail
          go_roundw
          case rel =>
            refine ⟨k + 1, g3, cap3, by omega, by go_num, ?_, ?_, HB3.out⟩
            · rw [HT.out, List.length_append, ← HPS.out, HQ.out]; simp
            · rw [HT.out, List.length_append, ← HPS.out, txts_append]
              have := HO3.out
              rw [HQ.out] at this
              simpa using this
          case measure => simp [intOf]; omega
        · have hkk : k = ks.length := by omega
          have HK := Lib.hid hkk
          clear hkk ih
          go_wp2_with fail
          go_ret
          have hp2 : (T.node c ks).paths s.data.toList = ps := by rw [T.paths, HPS.out, HK.out, List.take_length]
          rw [hp2]
          exact ⟨hB, gg, cc, rfl, HO.out⟩
end Go.Proofs.Ytmmfcljkcepahaa
