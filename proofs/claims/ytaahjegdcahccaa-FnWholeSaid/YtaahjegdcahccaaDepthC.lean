/- Depths on both sides. -/
import Derived.Test.YtaahjegdcahccaaPathsI
import Derived.Test.YtaahjegdcahccaaLawAC
namespace Go.Proofs.Ytaahjegdcahccaa
open Go.RowKit

mutual
def T.dep : T → Nat
  | .leaf => 0
  | .node _ ks => T.depL ks + 1
def T.depL : List T → Nat
  | [] => 0
  | k :: ks => max k.dep (T.depL ks)
end

theorem depL_append (a b : List T) : T.depL (a ++ b) = max (T.depL a) (T.depL b) := by
  induction a with
  | nil => simp [T.depL]
  | cons x a ih => simp [T.depL, ih, Nat.max_assoc]

theorem depL_take {ks : List T} {k : Nat} (h : k < ks.length) : T.depL (ks.take (k + 1)) = max (T.depL (ks.take k)) (ks[k]).dep := by
  rw [List.take_succ_eq_append_getElem h, depL_append]; simp [T.depL]

mutual
theorem dep_le : ∀ (t : T), t.dep ≤ t.nodes
  | .leaf => by simp [T.dep]
  | .node c ks => by have := depL_le ks; simp [T.dep, T.nodes]; omega
theorem depL_le : ∀ (ks : List T), T.depL ks ≤ T.nodesL ks
  | [] => by simp [T.depL]
  | k :: ks => by have h1 := dep_le k; have h2 := depL_le ks; simp only [T.depL, T.nodesL]; omega
end

set_option maxHeartbeats 400000 in
theorem l1Depth_any (n : Nat) : ∀ (t : T) (l s : Value) (w : World) (P : Nat → Prop), SizeOf.sizeOf t ≤ n → t.wf → t.nodes < 1000000 → RepS w P t l s →
    Calls Try.prog 95 #[.agg #[l, s]] w (Ans (.int .i64 t.dep) w) := by
  induction n with
  | zero => intro t l s w P h; cases t <;> simp at h <;> omega
  | succ n ih =>
    intro t l s w P hn hwf hlt' hr
    cases t with
    | leaf =>
      rw [RepS] at hr
      obtain ⟨rfl, rfl⟩ := hr
      go_enter Try.func95, Try.ntmps95
      go_wp2
      go_ret
      exact ⟨by simp [T.dep], (Below.refl _ _).alloc (Nat.le_refl _) _⟩
    | node c ks =>
      rw [RepS] at hr
      obtain ⟨rfl, g, cap, rfl, hP, hk, hL⟩ := hr
      rw [T.wf] at hwf
      have hwk := hwf.2.2.2.2
      go_enter Try.func95, Try.ntmps95
      go_wp2
      go_loopw [3, 4] (fun v i wr => ∃ k : Nat, k ≤ ks.length ∧ i = .int .i64 k ∧ v = .int .i64 (T.depL (ks.take k)) ∧ Below (w.heap.size+1) (w.alloc (Obj.cells #[Value.string { data := #[c] }, Value.slice (some { block := g, off := 0 }) ks.length cap] 70)) wr) (fun _ i _ => ks.length - (intOf i).toNat)
      case atStart => exact ⟨0, Nat.zero_le _, rfl, by simp [T.depL], Below.refl _ _⟩
      case round =>
        obtain ⟨k, hk', rfl, rfl, hB⟩ := hrel
        have c0 : wr.cell? ⟨w.heap.size, 0, none⟩ = some (Value.string { data := #[c] }) := by
          rw [hB.cell (by simp)]; simp [go_sem]
        have c1 : wr.cell? ⟨w.heap.size, 1, none⟩ = some (Value.slice (some { block := g, off := 0 }) ks.length cap) := by
          rw [hB.cell (by simp)]; simp [go_sem]
        have hle0 := nodesL_take_le (ks := ks) k
        have hdl := depL_le (ks.take k)
        simp only [T.nodes] at hlt'
        by_cases hlt : k < ks.length
        · have hW : Below w.heap.size w wr := ((Below.refl _ _).alloc (Nat.le_refl _) _).trans (hB.mono (by omega))
          obtain ⟨l', s', d1, d2, d3⟩ := (hL.keep (Keeps.of_below hW P) (fun _ h _ => h) hP hwk).get k hlt
          simp only [Nat.zero_add] at d1 d2
          have hlv := depL_take hlt
          have hle := nodesL_take_le (ks := ks) (k+1)
          rw [nodesL_take hlt] at hle
          have hd : SizeOf.sizeOf ks[k] < SizeOf.sizeOf ks := List.sizeOf_lt_of_mem (List.getElem_mem hlt)
          simp only [T.node.sizeOf_spec] at hn
          have H := Lib.hid hlv
          have HW := wfL_get hwk k hlt
          have HI := Lib.hid (ih ks[k] l' s' wr P (by omega) HW (by omega) d3)
          have hdk := dep_le ks[k]
          have HX := Lib.hid hwk
          clear hlv hwk ih
          by_cases hmx : (T.depL (ks.take k) : Int) < (ks[k]).dep
          all_goals
            go_wp2_with fail
            refine HI.out.mono ?_
            rintro e w' ⟨rfl, hB1⟩
            go_wp2_with fail
            exact ⟨⟨k + 1, by omega, by go_num, by rw [H.out]; first | rw [Nat.max_eq_right (by omega)] | rw [Nat.max_eq_left (by omega)], hB.trans (hB1.mono (by have := hB.size; simp at this; omega))⟩, by simp [intOf]; omega⟩
        · have hkk : k = ks.length := by omega
          have HK := Lib.hid hkk
          clear hkk
          go_wp2_with fail
          go_ret
          exact ⟨by rw [T.dep, HK.out, List.take_length]; rfl, ((Below.refl _ _).alloc (Nat.le_refl _) _).trans (hB.mono (by omega))⟩

/-- The length of the longest. -/
def mx : List (List UInt8) → Nat
  | [] => 0
  | p :: ps => max p.length (mx ps)

theorem mx_append (a b : List (List UInt8)) : mx (a ++ b) = max (mx a) (mx b) := by
  induction a with
  | nil => simp [mx]
  | cons x a ih => simp [mx, ih, Nat.max_assoc]

theorem mx_take {ps : List (List UInt8)} {k : Nat} (h : k < ps.length) : mx (ps.take (k + 1)) = max (mx (ps.take k)) (ps[k]).length := by
  rw [List.take_succ_eq_append_getElem h, mx_append]; simp [mx]

mutual
theorem mx_paths : ∀ (t : T) (way : List UInt8), t.wf → mx (t.paths way) = way.length + t.dep
  | .leaf, way, _ => by simp [T.paths, T.dep, mx]
  | .node c [], way, h => by rw [T.wf] at h; simp at h
  | .node c (k :: ks), way, h => by
    rw [T.wf] at h
    have := mx_pathsL (k :: ks) (way ++ [c]) h.2.2.2.2 (by simp)
    simp only [T.paths, T.dep, this, List.length_append, List.length_singleton]; omega
theorem mx_pathsL : ∀ (ks : List T) (way : List UInt8), T.wfL ks → ks ≠ [] → mx (T.pathsL way ks) = way.length + T.depL ks
  | [], _, _, h => absurd rfl h
  | [k], way, h, _ => by
    rw [T.wfL] at h
    have := mx_paths k way h.1
    simp [T.pathsL, T.depL, this]
  | k :: k' :: ks, way, h, _ => by
    rw [T.wfL] at h
    have h1 := mx_paths k way h.1
    have h2 := mx_pathsL (k' :: ks) way h.2 (by simp)
    rw [T.pathsL, mx_append, h1, h2]
    show _ = way.length + max k.dep (T.depL (k' :: ks))
    omega
end

mutual
/-- Each way is short. -/
theorem paths_short : ∀ (t : T) (way : List UInt8), ∀ p ∈ t.paths way, p.length ≤ way.length + t.nodes
  | .leaf, way, p, h => by simp [T.paths] at h; subst h; omega
  | .node c ks, way, p, h => by
    have := pathsL_short ks (way ++ [c]) p (by simpa [T.paths] using h)
    simp at this; simp [T.nodes]; omega
theorem pathsL_short : ∀ (ks : List T) (way : List UInt8), ∀ p ∈ T.pathsL way ks, p.length ≤ way.length + T.nodesL ks
  | [], _, p, h => by simp [T.pathsL] at h
  | k :: ks, way, p, h => by
    simp only [T.pathsL, List.mem_append] at h
    rcases h with h | h
    · have := paths_short k way p h; simp [T.nodesL]; omega
    · have := pathsL_short ks way p h; simp [T.nodesL]; omega
end

def depOf : Option T → Int
  | none => -1
  | some t => t.dep

theorem sDepth_any (s : ByteArray) (w : World) (hs : s.size ≤ 140737488351232) :
    Calls Try.prog 44 #[.string s] w (Ans (.int .i64 (depOf (parse s.data.toList))) w) := by
  go_enter Try.func44, Try.ntmps44
  go_wp2_with fail
  refine (l1Parse_any s w hs).mono ?_
  rintro e w1 ⟨hB, lb, sa, sn, sc, b, rfl, ⟨hno, rfl⟩ | ⟨t, hyes, rfl, hrep⟩⟩
  · have HN := Lib.hid hno
    clear hno
    go_wp2_with fail
    go_ret
    exact ⟨by rw [HN.out]; rfl, hB.alloc hB.size _⟩
  · obtain ⟨hw, _, hl, hn⟩ := parse_some hyes
    have HN := Lib.hid hyes
    have HR := Lib.hid (hrep.below hw ((Below.refl _ _).alloc (Nat.le_refl _) (.cells #[.string lb, .slice sa sn sc] 70 (0, 0))))
    clear hyes hrep
    go_wp2_with fail
    refine (l1Depth_any _ t _ _ _ _ (Nat.le_refl _) hw (by omega) HR.out).mono ?_
    rintro e w2 ⟨rfl, hB2⟩
    go_wp2_with fail
    go_ret
    exact ⟨by rw [HN.out]; rfl, (hB.alloc hB.size _).trans (hB2.mono (by have := hB.size; simp; omega))⟩

set_option maxHeartbeats 400000 in
theorem iDepth_any (s : ByteArray) (w : World) (hs : s.size ≤ 140737488351232) :
    Calls Try.prog 45 #[.string s] w (Ans (.int .i64 (depOf (parse s.data.toList))) w) := by
  go_enter Try.func45, Try.ntmps45
  go_wp2_with fail
  refine (readTree_any s w hs).mono ?_
  rintro e w1 ⟨hB, ⟨hno, rfl⟩ | ⟨t, ty, a, hyes, rfl, hrep⟩⟩
  · have HN := Lib.hid hno
    clear hno
    go_wp2_with fail
    go_ret
    exact ⟨by rw [HN.out]; rfl, hB⟩
  · obtain ⟨hw, htx, hl, hn⟩ := parse_some hyes
    clear htx
    have HN := Lib.hid hyes
    have HR := Lib.hid hrep
    have hpl := paths_length t []
    have hmx := mx_paths t [] hw
    have hsh := paths_short t []
    clear hyes hrep
    obtain ⟨ps, hps⟩ : ∃ ps, ps = t.paths [] := ⟨_, rfl⟩
    have HT : Hid (Calls Try.prog 96 #[.iface ty (.pointer (some a)), .string ⟨#[]⟩] w1 (Txts ps w1)) :=
      Lib.hid (by rw [hps]; exact treePaths_any _ t ty a ⟨#[]⟩ w1 _ (Nat.le_refl _) hw (by omega) (by change 0 + _ ≤ _; omega) HR.out)
    rw [← hps] at hpl hmx hsh
    have HMX := Lib.hid hmx
    have HSH := Lib.hid hsh
    have hpl2 : ps.length ≤ 12 := by omega
    clear hps hpl hmx hsh
    go_wp2_with fail
    refine HT.out.mono ?_
    rintro e w2 ⟨hB2, g, cap, rfl, hown⟩
    have HO := Lib.hid hown
    clear hown
    go_wp2_with fail
    go_loop [5, 18] (fun v i => ∃ k : Nat, k ≤ ps.length ∧ i = .int .i64 k ∧ v = .int .i64 (mx (ps.take k))) (fun _ i => ps.length - (intOf i).toNat)
    case atStart => exact ⟨0, Nat.zero_le _, rfl, by simp [mx]⟩
    case round =>
      obtain ⟨k, hk', rfl, rfl⟩ := hrel
      by_cases hlt : k < ps.length
      · have c1 : w2.cell? ⟨g, k, none⟩ = some (.string ⟨(ps[k]).toArray⟩) := by
          rw [HO.out.cellAt k (by omega)]; simp [txts, hlt]
        have hsz : (⟨(ps[k]).toArray⟩ : ByteArray).size = (ps[k]).length := by simp [ByteArray.size]
        have hpk := HSH.out ps[k] (List.getElem_mem hlt)
        have hmt := mx_take hlt
        have H := Lib.hid hmt
        have HZ := Lib.hid hsz
        have hpk2 : (ps[k]).length ≤ 16 := by simp at hpk; omega
        clear hmt
        by_cases hm : (mx (ps.take k) : Int) < (ps[k]).length
        all_goals
          go_wp2_with fail
          exact ⟨⟨k + 1, by omega, by go_num, by rw [H.out]; first | rw [Nat.max_eq_right (by omega)] | rw [Nat.max_eq_left (by omega)]⟩, by simp [intOf]; omega⟩
      · have hkk : k = ps.length := by omega
        have HK := Lib.hid hkk
        clear hkk
        go_wp2_with fail
        go_ret
        refine ⟨?_, below_step hB hB2⟩
        have e1 := HMX.out
        have e2 : mx (ps.take k) = t.dep := by rw [HK.out, List.take_length, e1]; simp
        rw [HN.out, e2]
        rfl

end Go.Proofs.Ytaahjegdcahccaa
