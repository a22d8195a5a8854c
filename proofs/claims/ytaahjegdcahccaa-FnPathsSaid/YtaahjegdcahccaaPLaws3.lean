/- The promises on ways: depths, ways of mirrored trees. -/
import Derived.Test.YtaahjegdcahccaaPLaws2
namespace Go.Proofs.Ytaahjegdcahccaa
open Go.RowKit

mutual
theorem paths_mirror : ∀ (t : T) (way : List UInt8), t.mirror.paths way = (t.paths way).reverse
  | .leaf, way => by simp [T.mirror, T.paths]
  | .node c ks, way => by rw [T.mirror, T.paths, T.paths, pathsL_mirror ks]
theorem pathsL_mirror : ∀ (ks : List T) (way : List UInt8), T.pathsL way (T.mirrorL ks) = (T.pathsL way ks).reverse
  | [], way => by simp [T.mirrorL, T.pathsL]
  | k :: ks, way => by
    rw [T.mirrorL, pathsL_append, pathsL_mirror ks]
    simp [T.pathsL, paths_mirror k way]
end

set_option maxRecDepth 100000 in
set_option maxHeartbeats 1000000 in
theorem sameTexts_any (ps : List (List UInt8)) (a b : Option Addr) (ca cb : Nat) (w : World) (hn : ps.length ≤ 1048576) (ha : Lies w a ps) (hb : Lies w b ps) :
    Calls Try.prog 79 #[.slice a ps.length ca, .slice b ps.length cb] w (Ans (.bool true) w) := by
  have HA := Lib.hid ha
  have HB := Lib.hid hb
  clear ha hb
  go_enter Try.func79, Try.ntmps79
  go_wp2_with fail
  go_loopw [5] (fun i wr => ∃ k : Nat, k ≤ ps.length ∧ i = .int .i64 k ∧ Below w.heap.size w wr) (fun i _ => ps.length - (intOf i).toNat)
  case atStart => exact ⟨0, Nat.zero_le _, rfl, Below.refl _ _⟩
  case round =>
    obtain ⟨k, hk, rfl, hB⟩ := hrel
    by_cases hlt : k < ps.length
    · obtain ⟨g, ea, c1⟩ := (HA.out.below hB) k hlt
      obtain ⟨g', eb, c2⟩ := (HB.out.below hB) k hlt
      subst ea eb
      have k0 : (0 : Int) ≤ k := by omega
      go_wp2_with fail
      go_quiet (fail)
      go_wp2_with fail
      exact ⟨⟨k + 1, by omega, by go_num, below_drewN hB nq⟩, by simp [intOf]; omega⟩
    · go_wp2_with fail
      go_ret
      exact ⟨rfl, hB⟩

set_option maxRecDepth 100000 in
set_option maxHeartbeats 2000000 in
theorem pDepth_any (bs : List Nat) (a : Option Addr) (cap : Nat) (w : World) (hl : LiesB w a bs) (h8 : ∀ z ∈ bs, z ≤ 255) (hn : bs.length ≤ 9223372036854775807) (hcap : bs.length ≤ cap) :
    Calls Try.prog 25 #[.slice a bs.length cap] w (Ans (.bool true) w) := by
  by_cases h : bs.length ≤ 1048576
  · have HD := Lib.hid (dDepth_any bs a cap w hn hcap h8 hl)
    clear h8 hl
    go_enter Try.func25, Try.ntmps25
    go_wp2_with fail
    refine HD.out.mono ?_
    rintro e w1 ⟨hB1, s, rfl, hs⟩
    have HB1 := Lib.hid hB1
    clear hB1
    cases hp : parse s.data.toList with
    | none =>
      have HI : Hid (∀ w, Calls Try.prog 45 #[.string s] w (Ans (.int .i64 (-1)) w)) := Lib.hid (fun w => by have := iDepth_any s w (by omega); rw [hp] at this; exact this)
      have HS : Hid (∀ w, Calls Try.prog 44 #[.string s] w (Ans (.int .i64 (-1)) w)) := Lib.hid (fun w => by have := sDepth_any s w (by omega); rw [hp] at this; exact this)
      clear hp
      go_wp2_with fail
      refine (HI.out w1).mono ?_
      rintro e w2 ⟨rfl, hB2⟩
      have HB2 := Lib.hid (below_step HB1.out hB2)
      clear hB2
      go_wp2_with fail
      refine (HS.out w2).mono ?_
      rintro e w3 ⟨rfl, hB3⟩
      have HB3 := Lib.hid (below_step HB2.out hB3)
      clear hB3
      go_wp2_with fail
      go_ret
      exact ⟨rfl, HB3.out⟩
    | some t =>
      obtain ⟨hw, _, hlv, hnd⟩ := parse_some hp
      have hlp := leaves_pos t hw
      obtain ⟨n, hn'⟩ : ∃ n, n = t.dep := ⟨_, rfl⟩
      have HI : Hid (∀ w, Calls Try.prog 45 #[.string s] w (Ans (.int .i64 (n : Int)) w)) := Lib.hid (fun w => by have := iDepth_any s w (by omega); rw [hp] at this; rw [hn']; exact this)
      have HS : Hid (∀ w, Calls Try.prog 44 #[.string s] w (Ans (.int .i64 (n : Int)) w)) := Lib.hid (fun w => by have := sDepth_any s w (by omega); rw [hp] at this; rw [hn']; exact this)
      obtain ⟨ps, hps⟩ : ∃ ps, ps = t.paths [] := ⟨_, rfl⟩
      have hpl := paths_length t []
      have hmx := mx_paths t [] hw
      have hsh := paths_short t []
      rw [← hps] at hpl hmx hsh
      have HMX : Hid (mx ps = n) := Lib.hid (by rw [hmx, hn']; simp)
      have HSH := Lib.hid hsh
      have hpl2 : ps.length ≤ 12 := by omega
      have hpl3 : 1 ≤ ps.length := by omega
      have HP : Hid (∀ w, Calls Try.prog 51 #[.string s] w (fun e w' => Below w.heap.size w w' ∧ ∃ g cap, e = .returned (.tuple #[.slice (some ⟨g, 0, none⟩) ps.length cap, .bool true]) ∧ ∀ j (h : j < ps.length), w'.cell? ⟨g, j, none⟩ = some (.string ⟨(ps[j]).toArray⟩))) := Lib.hid (fun w => by
        have := iPaths_any s w (by omega)
        rw [hp] at this
        change Calls _ _ _ w (IList (t.paths []) true w) at this
        rw [← hps] at this
        refine this.mono ?_
        rintro e w' ⟨hb, a, cap, rfl, hli, _⟩
        obtain ⟨g, ea, _⟩ := hli 0 (by omega)
        subst ea
        refine ⟨hb, g, cap, rfl, fun j hj => ?_⟩
        obtain ⟨g', eg, hc⟩ := hli j hj
        simp only [Option.some.injEq, Addr.mk.injEq, and_true] at eg
        rw [eg]; exact hc)
      have hn16 : n ≤ 16 := by have := dep_le t; omega
      have g1 : decide ((n : Int) < 0) = false := decide_eq_false (by omega)
      clear hp hn' hw hmx hsh hps hpl hlp hlv
      go_wp2_with fail
      refine (HI.out w1).mono ?_
      rintro e w2 ⟨rfl, hB2⟩
      have HB2 := Lib.hid (below_step HB1.out hB2)
      clear hB2
      go_wp2_with fail
      refine (HS.out w2).mono ?_
      rintro e w3 ⟨rfl, hB3⟩
      have HB3 := Lib.hid (below_step HB2.out hB3)
      clear hB3
      go_wp2_with fail
      refine (HP.out w3).mono ?_
      rintro e w4 ⟨hB4, g, c4, rfl, hcs⟩
      have HB4 := Lib.hid (below_step HB3.out hB4)
      have HC := Lib.hid hcs
      clear hB4 hcs
      go_wp2_with fail
      go_loop [8, 9] (fun v i => ∃ k : Nat, k ≤ ps.length ∧ i = .int .i64 k ∧ v = .int .i64 (mx (ps.take k))) (fun _ i => ps.length - (intOf i).toNat)
      case atStart => exact ⟨0, Nat.zero_le _, rfl, by simp [mx]⟩
      case round =>
        obtain ⟨k, hk', rfl, rfl⟩ := hrel
        by_cases hlt : k < ps.length
        · have c1 := HC.out k hlt
          have hsz : (⟨(ps[k]).toArray⟩ : ByteArray).size = (ps[k]).length := by simp [ByteArray.size]
          have hpk := HSH.out ps[k] (List.getElem_mem hlt)
          have hmt := mx_take hlt
          have H := Lib.hid hmt
          have hpk2 : (ps[k]).length ≤ 16 := by simp at hpk; omega
          clear hmt
          by_cases hm : (mx (ps.take k) : Int) < (ps[k]).length
          all_goals
            go_wp2_with fail
            exact ⟨⟨k + 1, by omega, by go_num, by rw [H.out]; first | rw [Nat.max_eq_right (by omega)] | rw [Nat.max_eq_left (by omega)]⟩, by simp [intOf]; omega⟩
        · have hkk : k = ps.length := by omega
          obtain ⟨z, hz⟩ : ∃ z, z = mx (ps.take k) := ⟨_, rfl⟩
          have hzn : (z : Int) = n := by rw [hz, hkk, List.take_length, HMX.out]
          have hze : ((z : Int) == n) = true := by rw [hzn]; simp
          rw [← hz]
          clear hz hzn
          go_wp2_with fail
          go_ret
          exact ⟨rfl, HB4.out⟩
  · go_enter Try.func25, Try.ntmps25
    go_wp2_with fail
    go_ret
    exact ⟨rfl, Below.refl _ _⟩

set_option maxRecDepth 100000 in
set_option maxHeartbeats 2000000 in
theorem pPaths_any (bs : List Nat) (a : Option Addr) (cap : Nat) (w : World) (hl : LiesB w a bs) (h8 : ∀ z ∈ bs, z ≤ 255) (hn : bs.length ≤ 9223372036854775807) (hcap : bs.length ≤ cap) :
    Calls Try.prog 28 #[.slice a bs.length cap] w (Ans (.bool true) w) := by
  by_cases h : bs.length ≤ 1048576
  · have HD := Lib.hid (dPaths_any bs a cap w hn hcap h8 hl)
    clear h8 hl
    go_enter Try.func28, Try.ntmps28
    go_wp2_with fail
    refine HD.out.mono ?_
    rintro e w1 ⟨hB1, s, rfl, hs⟩
    have HB1 := Lib.hid hB1
    clear hB1
    have hpl := pathsOf_len s.data.toList
    obtain ⟨ps, hps⟩ : ∃ ps, ps = pathsOf (parse s.data.toList) := ⟨_, rfl⟩
    obtain ⟨b, hb⟩ : ∃ b, b = (parse s.data.toList).isSome := ⟨_, rfl⟩
    have HS := Lib.hid (fun w => sPaths_any s w (by omega))
    have HI := Lib.hid (fun w => iPaths_any s w (by omega))
    rw [← hps] at hpl HS HI
    rw [← hb] at HS HI
    have HV := Lib.hid hb
    have HPS := Lib.hid hps
    clear hb hps
    cases b
    · go_wp2_with fail
      refine (HI.out w1).mono ?_
      rintro e w2 ⟨hB2, a2, c2, rfl, hl2, _⟩
      have HB2 := Lib.hid (below_step HB1.out hB2)
      have L2 := Lib.hid hl2
      clear hl2 hB2
      go_wp2_with fail
      refine (HS.out w2).mono ?_
      rintro e w3 ⟨hB3, a3, c3, rfl, hl3⟩
      have HB3 := Lib.hid (below_step HB2.out hB3)
      have L3 := Lib.hid hl3
      have L2' := Lib.hid (L2.out.below hB3)
      clear hl3 hB3
      go_wp2_with fail
      refine (sameTexts_any ps a2 a3 c2 c3 w3 (by omega) L2'.out L3.out).mono ?_
      rintro e w4 ⟨rfl, hB4⟩
      have HB4 := Lib.hid (below_step HB3.out hB4)
      have L4 := Lib.hid (And.intro (L2'.out.below hB4) (L3.out.below hB4))
      clear hB4
      go_wp2_with fail
      refine (sameTexts_any ps a2 a3 c2 c3 w4 (by omega) L4.out.1 L4.out.2).mono ?_
      rintro e w5 ⟨rfl, hB5⟩
      have HB5 := Lib.hid (below_step HB4.out hB5)
      clear hB5
      go_wp2_with fail
      go_ret
      exact ⟨rfl, HB5.out⟩
    · obtain ⟨t, ht⟩ : ∃ t, parse s.data.toList = some t := Option.isSome_iff_exists.1 HV.out.symm
      obtain ⟨hw, _, hlv, hnd⟩ := parse_some ht
      have hmir := mirror_size t
      obtain ⟨o, ho⟩ : ∃ o : ByteArray, o = ⟨t.mirror.text.toArray⟩ := ⟨_, rfl⟩
      have hop : parse o.data.toList = some t.mirror := by
        rw [ho]; exact parse_text (mirror_wf _ hw) (by omega) (by omega)
      have hos : o.size ≤ 100000 := by rw [ho]; change t.mirror.text.toArray.size ≤ 100000; simpa using mirror_len hlv hnd
      have hpt : ps = t.paths [] := by rw [HPS.out, ht]; rfl
      have HM : Hid (∀ w, Calls Try.prog 43 #[.string s] w (Ans (.tuple #[.string o, .bool true]) w)) := Lib.hid (fun w => by
        have := iMirror_any s w (by omega)
        rw [ht] at this
        simp only [mirrorOf, Option.isSome_some] at this
        rw [← ho] at this
        exact this)
      have HP : Hid (∀ w, Calls Try.prog 51 #[.string o] w (fun e w' => Below w.heap.size w w' ∧ ∃ a cap, e = .returned (.tuple #[.slice a ps.length cap, .bool true]) ∧ Lies w' a ps.reverse)) := Lib.hid (fun w => by
        have := iPaths_any o w (by omega)
        rw [hop] at this
        change Calls _ _ _ w (IList (t.mirror.paths []) true w) at this
        rw [paths_mirror, ← hpt] at this
        refine this.mono ?_
        rintro e w' ⟨hb, a, cap, rfl, hli, _⟩
        exact ⟨hb, a, cap, by rw [List.length_reverse], hli⟩)
      clear hop hos ho ht hmir hlv hnd hw hpt
      go_wp2_with fail
      refine (HI.out w1).mono ?_
      rintro e w2 ⟨hB2, a2, c2, rfl, hl2, _⟩
      have HB2 := Lib.hid (below_step HB1.out hB2)
      have L2 := Lib.hid hl2
      clear hl2 hB2
      go_wp2_with fail
      refine (HS.out w2).mono ?_
      rintro e w3 ⟨hB3, a3, c3, rfl, hl3⟩
      have HB3 := Lib.hid (below_step HB2.out hB3)
      have L3 := Lib.hid hl3
      have L2' := Lib.hid (L2.out.below hB3)
      clear hl3 hB3
      go_wp2_with fail
      refine (sameTexts_any ps a2 a3 c2 c3 w3 (by omega) L2'.out L3.out).mono ?_
      rintro e w4 ⟨rfl, hB4⟩
      have HB4 := Lib.hid (below_step HB3.out hB4)
      have L4 := Lib.hid (L2'.out.below hB4)
      clear hB4
      go_wp2_with fail
      refine (HM.out w4).mono ?_
      rintro e w5 ⟨rfl, hB5⟩
      have HB5 := Lib.hid (below_step HB4.out hB5)
      have L5 := Lib.hid (L4.out.below hB5)
      clear hB5
      go_wp2_with fail
      refine (HP.out w5).mono ?_
      rintro e w6 ⟨hB6, a6, c6, rfl, hl6⟩
      have HB6 := Lib.hid (below_step HB5.out hB6)
      have L6 := Lib.hid hl6
      have L6' := Lib.hid (L5.out.below hB6)
      clear hB6 hl6
      go_wp2_with fail
      go_loopw [13] (fun i wr => ∃ k : Nat, k ≤ ps.length ∧ i = .int .i64 k ∧ Below w6.heap.size w6 wr) (fun i _ => ps.length - (intOf i).toNat)
      case atStart => exact ⟨0, Nat.zero_le _, rfl, Below.refl _ _⟩
      case round =>
        obtain ⟨k, hk, rfl, hB⟩ := hrel
        by_cases hlt : k < ps.length
        · obtain ⟨j, hj⟩ : ∃ j, j = ps.length - 1 - k := ⟨_, rfl⟩
          obtain ⟨g, ea, c1⟩ := (L6'.out.below hB) k hlt
          obtain ⟨g', eb, c2⟩ := (L6.out.below hB) j (by simp; omega)
          have hx : ps.reverse[j]'(by simp; omega) = ps[k] := by
            rw [List.getElem_reverse]; congr 1; omega
          rw [hx] at c2
          subst ea eb
          have k0 : (0 : Int) ≤ k := by omega
          have q1 : IntKind.i64.wrap ((ps.length : Int) - 1) = (ps.length : Int) - 1 := wrap_small _ (by omega) (by omega)
          have q2 : IntKind.i64.wrap ((ps.length : Int) - 1 - k) = (j : Int) := by rw [wrap_small _ (by omega) (by omega)]; omega
          have j0 : (0 : Int) ≤ j ∧ (j : Int) < ps.length := by omega
          clear hj hx
          go_wp2_with fail
          go_quiet (fail)
          go_wp2_with fail
          exact ⟨⟨k + 1, by omega, by go_num, below_drewN hB nq⟩, by simp [intOf]; omega⟩
        · go_wp2_with fail
          go_ret
          exact ⟨rfl, below_step HB6.out hB⟩
  · go_enter Try.func28, Try.ntmps28
    go_wp2_with fail
    go_ret
    exact ⟨rfl, Below.refl _ _⟩
end Go.Proofs.Ytaahjegdcahccaa
