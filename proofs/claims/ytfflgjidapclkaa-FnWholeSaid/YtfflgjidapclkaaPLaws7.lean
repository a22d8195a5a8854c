/- A tree and trees are drawn; the promise on grafting at all leaves. -/
import Derived.Test.YtfflgjidapclkaaPLaws6
import Derived.Test.YtfflgjidapclkaaPWhole
import Derived.Test.YtfflgjidapclkaaKWholeS
import Derived.Test.YtfflgjidapclkaaKWholeI
namespace Go.Proofs.Ytfflgjidapclkaa
open Go.RowKit

/-- A text and texts are drawn. -/
def WhDr (w : World) (e : Ending) (w' : World) : Prop := Below w.heap.size w w' ∧ ∃ (s : ByteArray) (ps : List (List UInt8)) (g cap : Nat), e = .returned (.tuple #[.string s, .slice (some ⟨g, 0, none⟩) ps.length cap]) ∧ s.size ≤ 2000 ∧ ps.length ≤ 20 ∧ (∀ j (h : j < ps.length), (ps[j]).length ≤ 2000) ∧ Lies w' (some ⟨g, 0, none⟩) ps

theorem txts_snoc (ps : List (List UInt8)) (s : ByteArray) : txts (ps ++ [s.data.toList]) = txts ps ++ [.string s] := by simp [txts]

theorem short_snoc {ps : List (List UInt8)} {p : List UInt8} (h : ∀ j (h : j < ps.length), (ps[j]).length ≤ 2000) (hp : p.length ≤ 2000) : ∀ j (h : j < (ps ++ [p]).length), ((ps ++ [p])[j]).length ≤ 2000 := by
  intro j hj
  rw [List.getElem_append]
  split
  · exact h _ _
  · simpa using hp

set_option maxRecDepth 100000 in
set_option maxHeartbeats 4000000 in
theorem dWhole_any (bs : List Nat) (a : Option Addr) (cap : Nat) (w : World) (hn : bs.length ≤ 9223372036854775807) (hcap : bs.length ≤ cap) (h8 : ∀ z ∈ bs, z ≤ 255) (hl : LiesB w a bs) :
    Calls Try.prog 14 #[.slice a bs.length cap] w (WhDr w) := by
  have HO := Lib.hid (l6Open_any bs a cap w hn hcap h8 hl)
  obtain ⟨i0, hi0, hz0, hzs, hzb⟩ := info_parts info9
  clear h8 hl
  go_enter Try.func14, Try.ntmps14
  go_wp2_with fail
  refine HO.out.mono ?_
  rintro e w1 ⟨rfl, hb1, hr1⟩
  have HX := Lib.hid (l91Text_any w.heap.size a cap (bs.take 2000) 2 0 w1 (by decide) (by decide) hr1)
  have HB1 := Lib.hid hb1
  clear hb1 hr1
  go_wp2_with fail
  refine HX.out.mono ?_
  rintro e w2 ⟨hg2, s, q, rfl, hsz, hr2, hq⟩
  have hq2 : q ≤ 10 := hq
  have hRl : w.heap.size < w2.heap.size := hr2.cells.2.2.2
  have HB2 := Lib.hid (below_over HB1.out hg2 (fun r e => by cases e; exact Nat.le_refl _))
  obtain ⟨z, hz⟩ : ∃ z, z = leavesOf (parse s.data.toList) := ⟨_, rfl⟩
  have hzb2 := leavesOf_le s.data.toList
  have hal : Below w2.heap.size w2 (w2.alloc (.cells #[] 9 (0, 0))) := (Below.refl _ _).alloc (Nat.le_refl _) _
  have HN := Lib.hid (sLeaves_any s (w2.alloc (.cells #[] 9 (0, 0))) (by omega))
  rw [← hz] at HN hzb2
  have HA := Lib.hid (below_step HB2.out hal)
  have HRA := Lib.hid (hr2.grown (grownBy_below (grownBy_refl _ none) hal) (fun _ e => by cases e))
  have R0 : Hid ((w2.alloc (.cells #[] 9 (0, 0))).ownsRow w2.heap.size 9 1 (.slice (some ⟨w2.heap.size, 0, none⟩) 0 0) 0 []) := Lib.hid (World.ownsRow_made w2 #[] 0 (Nat.le_refl _) (by simp [maxLen]) rfl)
  have HG2 : Hid (w2.heap.size ≤ (w2.alloc (.cells #[] 9 (0, 0))).heap.size) := Lib.hid (by simp)
  clear hg2 hr2 hz hq hal
  go_wp2_with fail
  refine HN.out.mono ?_
  rintro e w3 ⟨rfl, hb3⟩
  have HB3 := Lib.hid (below_step HA.out hb3)
  have HR3 := Lib.hid (HRA.out.grown (grownBy_below (grownBy_refl _ none) hb3) (fun _ e => by cases e))
  have R3 := Lib.hid (owns_below R0.out hb3)
  have S3 : w2.heap.size ≤ w3.heap.size := Nat.le_trans HG2.out hb3.size
  clear hb3
  obtain ⟨M, hM2, hMz⟩ : ∃ M : Nat, M ≤ 12 ∧ ((0 < z ∧ z = (M : Int)) ∨ (z ≤ 0 ∧ M = 0)) := by
    by_cases h : 0 < z
    · exact ⟨z.toNat, by omega, .inl ⟨h, by omega⟩⟩
    · exact ⟨0, by omega, .inr ⟨by omega, rfl⟩⟩
  have HP := Lib.hid (pick_any w.heap.size a cap q 12 (bs.take 2000) w3 HR3.out (by omega) (by omega) (by omega))
  rcases hMz with ⟨h1, rfl⟩ | ⟨h1, rfl⟩
  · go_wp2_with fail
    refine HP.out.mono ?_
    rintro e w4 ⟨⟨k1, hk1, rfl⟩, hg4, hs4, hr4⟩
    have HB4 := Lib.hid (below_over HB3.out hg4 (fun r e => by cases e; exact Nat.le_refl _))
    have HR4 := Lib.hid hr4
    have R4 := Lib.hid (R3.out.kept hg4 (by right; intro e; have := (R3.out.lt _ e).1; omega))
    have S4 : w2.heap.size ≤ w4.heap.size := by omega
    clear hg4 hs4 hr4
    obtain ⟨N, hN⟩ : ∃ N, N = k1 / 11 := ⟨_, rfl⟩
    have hN1 : N ≤ 1 := by omega
    have hNt : (k1 : Int).tdiv 11 = (N : Int) := by rw [Int.tdiv_eq_ediv_of_nonneg (by omega), hN]; rfl
    have hNd : (k1 : Int) / 11 = (N : Int) := by rw [hN]; rfl
    clear hN
    go_wp2_with fail
    go_loopw [6, 8] (fun v i wr => ∃ (k p g cc : Nat) (ps : List (List UInt8)), k ≤ M + N ∧ i = .int .i64 k ∧ ps.length = k ∧ v = .slice (some ⟨g, 0, none⟩) k cc ∧ wr.ownsRow w2.heap.size 9 1 (.slice (some ⟨g, 0, none⟩) k cc) k (txts ps) ∧
        (∀ j (h : j < ps.length), (ps[j]).length ≤ 2000) ∧ RdR wr w.heap.size a cap (bs.take 2000) p ∧ p ≤ 20 + k * 10 ∧ Below w.heap.size w wr ∧ w2.heap.size ≤ wr.heap.size) (fun _ i _ => M + N - (intOf i).toNat)
    case atStart => exact ⟨0, q + 1, w2.heap.size, 0, [], by omega, rfl, rfl, rfl, R4.out, fun j h => by simp at h, HR4.out, by omega, HB4.out, S4⟩
    case round =>
      obtain ⟨k, p, g, cc, ps, hk, rfl, hpl, rfl, hown, hsh, hrd, hp, hB, hS⟩ := hrel
      have HOW := Lib.hid hown
      have HSH := Lib.hid hsh
      have HPL := Lib.hid hpl
      have HRD := Lib.hid hrd
      have HBR := Lib.hid hB
      clear hown hsh hpl hrd hB
      have HT := Lib.hid (l91Text_any w.heap.size a cap (bs.take 2000) 1 p wr (by decide) (by omega) HRD.out)
      by_cases hlt : k < M + N
      · go_wp2_with fail
        refine HT.out.mono ?_
        rintro e w5 ⟨hg5, s5, q5, rfl, hsz5, hr5, hq5⟩
        have hq6 : q5 ≤ p + 4 := hq5
        have hs5 := hg5.size
        have O5 := Lib.hid ((HOW.out.kept hg5 (by right; intro e; have := (HOW.out.lt _ e).1; omega)).alloc (.cells #[.string s5] 9 (0, 0)))
        have HB5 := Lib.hid (below_over HBR.out hg5 (fun r e => by cases e; exact Nat.le_refl _))
        have HR5 := Lib.hid hr5
        clear hg5 hr5 hq5
        go_wp2_with (at_builtin; refine wpList_append_new _ rfl _ _ 30 rfl w2.heap.size 9 i0 (.string ⟨#[]⟩) 1 16 Try.underlying30 hi0 hz0 hzs hzb rfl (by decide) _ _ _ rfl O5.out ⟨w5.heap.size, 0, none⟩ 1 1 [.string s5] (by decide) rfl ?c1 ?c2 ?c3 ?c4 ?c5 ?c6 ?_)
        case c1 => rfl
        case c2 => exact cells_one rfl _
        case c3 => simp [Value.oneCell']
        case c4 => unfold maxLen; omega
        case c5 => omega
        case c6 => simp; omega
        intro g6 c6 w6 hown6 hg6 _
        have ga : w5.grownBy (w5.alloc (.cells #[.string s5] 9 (0, 0))) none := grownBy_below (grownBy_refl _ _) ((Below.refl _ _).alloc (Nat.le_refl _) _)
        have hlo := O5.out.lt
        have hs6 := hg6.size
        have HALL := Lib.hid (show w6.ownsRow w2.heap.size 9 1 (.slice (some ⟨g6, 0, none⟩) (k + 1) c6) (k + 1) (txts (ps ++ [s5.data.toList])) ∧ RdR w6 w.heap.size a cap (bs.take 2000) q5 ∧ Below w.heap.size w w6 ∧ w2.heap.size ≤ w6.heap.size from
          ⟨by rw [txts_snoc]; exact hown6, (HR5.out.grown ga (fun _ e => by cases e)).grown hg6 (fun r e => by have := (hlo r e).1; omega), below_over (below_over HB5.out ga (fun _ e => by cases e)) hg6 (fun r e => by have := (hlo r e).1; omega), by have := ga.size; omega⟩)
        clear hown6 hg6 ga hlo hs6
        go_wp2_with fail
        go_roundw
        case rel => exact ⟨k + 1, q5, g6, c6, ps ++ [s5.data.toList], by omega, by go_num, by rw [List.length_append, HPL.out]; rfl, rfl, HALL.out.1, short_snoc HSH.out (by rw [Array.length_toList]; exact hsz5), HALL.out.2.1, by omega, HALL.out.2.2.1, HALL.out.2.2.2⟩
        case measure => simp [intOf]; omega
      · go_wp2_with fail
        go_ret2
        exact ⟨HBR.out, s, ps, g, cc, by rw [HPL.out]; rfl, hsz, by have := HPL.out; omega, HSH.out, Lies.of_owns HOW.out HPL.out.symm⟩
  · go_wp2_with fail
    refine HP.out.mono ?_
    rintro e w4 ⟨⟨k1, hk1, rfl⟩, hg4, hs4, hr4⟩
    have HB4 := Lib.hid (below_over HB3.out hg4 (fun r e => by cases e; exact Nat.le_refl _))
    have HR4 := Lib.hid hr4
    have R4 := Lib.hid (R3.out.kept hg4 (by right; intro e; have := (R3.out.lt _ e).1; omega))
    have S4 : w2.heap.size ≤ w4.heap.size := by omega
    clear hg4 hs4 hr4
    obtain ⟨N, hN⟩ : ∃ N, N = k1 / 11 := ⟨_, rfl⟩
    have hN1 : N ≤ 1 := by omega
    have hNt : (k1 : Int).tdiv 11 = (N : Int) := by rw [Int.tdiv_eq_ediv_of_nonneg (by omega), hN]; rfl
    have hNd : (k1 : Int) / 11 = (N : Int) := by rw [hN]; rfl
    clear hN
    go_wp2_with fail
    go_loopw [6, 8] (fun v i wr => ∃ (k p g cc : Nat) (ps : List (List UInt8)), k ≤ 0 + N ∧ i = .int .i64 k ∧ ps.length = k ∧ v = .slice (some ⟨g, 0, none⟩) k cc ∧ wr.ownsRow w2.heap.size 9 1 (.slice (some ⟨g, 0, none⟩) k cc) k (txts ps) ∧
        (∀ j (h : j < ps.length), (ps[j]).length ≤ 2000) ∧ RdR wr w.heap.size a cap (bs.take 2000) p ∧ p ≤ 20 + k * 10 ∧ Below w.heap.size w wr ∧ w2.heap.size ≤ wr.heap.size) (fun _ i _ => 0 + N - (intOf i).toNat)
    case atStart => exact ⟨0, q + 1, w2.heap.size, 0, [], by omega, rfl, rfl, rfl, R4.out, fun j h => by simp at h, HR4.out, by omega, HB4.out, S4⟩
    case round =>
      obtain ⟨k, p, g, cc, ps, hk, rfl, hpl, rfl, hown, hsh, hrd, hp, hB, hS⟩ := hrel
      have HOW := Lib.hid hown
      have HSH := Lib.hid hsh
      have HPL := Lib.hid hpl
      have HRD := Lib.hid hrd
      have HBR := Lib.hid hB
      clear hown hsh hpl hrd hB
      have HT := Lib.hid (l91Text_any w.heap.size a cap (bs.take 2000) 1 p wr (by decide) (by omega) HRD.out)
      by_cases hlt : k < 0 + N
      · go_wp2_with fail
        refine HT.out.mono ?_
        rintro e w5 ⟨hg5, s5, q5, rfl, hsz5, hr5, hq5⟩
        have hq6 : q5 ≤ p + 4 := hq5
        have hs5 := hg5.size
        have O5 := Lib.hid ((HOW.out.kept hg5 (by right; intro e; have := (HOW.out.lt _ e).1; omega)).alloc (.cells #[.string s5] 9 (0, 0)))
        have HB5 := Lib.hid (below_over HBR.out hg5 (fun r e => by cases e; exact Nat.le_refl _))
        have HR5 := Lib.hid hr5
        clear hg5 hr5 hq5
        go_wp2_with (at_builtin; refine wpList_append_new _ rfl _ _ 30 rfl w2.heap.size 9 i0 (.string ⟨#[]⟩) 1 16 Try.underlying30 hi0 hz0 hzs hzb rfl (by decide) _ _ _ rfl O5.out ⟨w5.heap.size, 0, none⟩ 1 1 [.string s5] (by decide) rfl ?c1 ?c2 ?c3 ?c4 ?c5 ?c6 ?_)
        case c1 => rfl
        case c2 => exact cells_one rfl _
        case c3 => simp [Value.oneCell']
        case c4 => unfold maxLen; omega
        case c5 => omega
        case c6 => simp; omega
        intro g6 c6 w6 hown6 hg6 _
        have ga : w5.grownBy (w5.alloc (.cells #[.string s5] 9 (0, 0))) none := grownBy_below (grownBy_refl _ _) ((Below.refl _ _).alloc (Nat.le_refl _) _)
        have hlo := O5.out.lt
        have hs6 := hg6.size
        have HALL := Lib.hid (show w6.ownsRow w2.heap.size 9 1 (.slice (some ⟨g6, 0, none⟩) (k + 1) c6) (k + 1) (txts (ps ++ [s5.data.toList])) ∧ RdR w6 w.heap.size a cap (bs.take 2000) q5 ∧ Below w.heap.size w w6 ∧ w2.heap.size ≤ w6.heap.size from
          ⟨by rw [txts_snoc]; exact hown6, (HR5.out.grown ga (fun _ e => by cases e)).grown hg6 (fun r e => by have := (hlo r e).1; omega), below_over (below_over HB5.out ga (fun _ e => by cases e)) hg6 (fun r e => by have := (hlo r e).1; omega), by have := ga.size; omega⟩)
        clear hown6 hg6 ga hlo hs6
        go_wp2_with fail
        go_roundw
        case rel => exact ⟨k + 1, q5, g6, c6, ps ++ [s5.data.toList], by omega, by go_num, by rw [List.length_append, HPL.out]; rfl, rfl, HALL.out.1, short_snoc HSH.out (by rw [Array.length_toList]; exact hsz5), HALL.out.2.1, by omega, HALL.out.2.2.1, HALL.out.2.2.2⟩
        case measure => simp [intOf]; omega
      · go_wp2_with fail
        go_ret2
        exact ⟨HBR.out, s, ps, g, cc, by rw [HPL.out]; rfl, hsz, by have := HPL.out; omega, HSH.out, Lies.of_owns HOW.out HPL.out.symm⟩
theorem stars_snoc (k : Nat) : txts (List.replicate (k + 1) [42]) = txts (List.replicate k [42]) ++ [.string ⟨#[42]⟩] := by
  rw [List.replicate_succ']; simp [txts]

set_option maxRecDepth 100000 in
set_option maxHeartbeats 4000000 in
theorem pWhole_any (bs : List Nat) (a : Option Addr) (cap : Nat) (w : World) (hl : LiesB w a bs) (h8 : ∀ z ∈ bs, z ≤ 255) (hn : bs.length ≤ 9223372036854775807) (hcap : bs.length ≤ cap) :
    Calls Try.prog 6 #[.slice a bs.length cap] w (Ans (.bool true) w) := by
  by_cases h : bs.length ≤ 1048576
  · have HD := Lib.hid (dWhole_any bs a cap w hn hcap h8 hl)
    obtain ⟨i0, hi0, hz0, hzs, hzb⟩ := info_parts info9
    clear h8 hl
    go_enter Try.func6, Try.ntmps6
    go_wp2_with fail
    refine HD.out.mono ?_
    rintro e w1 ⟨hB1, s, ps, g, cc, rfl, hs, hpl, hsh, hli⟩
    have HB1 := Lib.hid hB1
    have HL1 := Lib.hid hli
    have HSH : Hid (∀ j (h : j < ps.length), (ps[j]).length ≤ 1048576) := Lib.hid (fun j h => Nat.le_trans (hsh j h) (by decide))
    clear hB1 hsh hli
    rcases whole_cases s.data.toList ps with hp | ⟨t, x, us, ht, hul, hpt, huw, hx, hxl, hxn, hps, hp⟩
    · have HI : Hid (∀ w, Lies w (some ⟨g, 0, none⟩) ps → Calls Try.prog 15 #[.string s, .slice (some ⟨g, 0, none⟩) ps.length cc] w (Ans (.tuple #[.string ⟨#[]⟩, .bool false]) w)) := Lib.hid (fun w hh => by have := iWhole_any s ps (some ⟨g, 0, none⟩) cc w (by omega) (by omega) HSH.out hh; rw [hp] at this; exact this)
      have HS : Hid (∀ w, Lies w (some ⟨g, 0, none⟩) ps → Calls Try.prog 16 #[.string s, .slice (some ⟨g, 0, none⟩) ps.length cc] w (Ans (.tuple #[.string ⟨#[]⟩, .bool false]) w)) := Lib.hid (fun w hh => by have := sWhole_any s ps (some ⟨g, 0, none⟩) cc w (by omega) (by omega) HSH.out hh; rw [hp] at this; exact this)
      clear hp
      go_wp2_with fail
      refine (HI.out w1 HL1.out).mono ?_
      rintro e w2 ⟨rfl, hB2⟩
      have HB2 := Lib.hid (below_step HB1.out hB2)
      have HL2 := Lib.hid (HL1.out.below hB2)
      clear hB2
      go_wp2_with fail
      refine (HS.out w2 HL2.out).mono ?_
      rintro e w3 ⟨rfl, hB3⟩
      have HB3 := Lib.hid (below_step HB2.out hB3)
      clear hB3
      go_wp2_with fail
      go_ret
      exact ⟨rfl, HB3.out⟩
    · obtain ⟨o, ho⟩ : ∃ o : ByteArray, o = ⟨x.text.toArray⟩ := ⟨_, rfl⟩
      have HI : Hid (∀ w, Lies w (some ⟨g, 0, none⟩) ps → Calls Try.prog 15 #[.string s, .slice (some ⟨g, 0, none⟩) ps.length cc] w (Ans (.tuple #[.string o, .bool true]) w)) := Lib.hid (fun w hh => by have := iWhole_any s ps (some ⟨g, 0, none⟩) cc w (by omega) (by omega) HSH.out hh; rw [hp] at this; rw [ho]; exact this)
      have HS : Hid (∀ w, Lies w (some ⟨g, 0, none⟩) ps → Calls Try.prog 16 #[.string s, .slice (some ⟨g, 0, none⟩) ps.length cc] w (Ans (.tuple #[.string o, .bool true]) w)) := Lib.hid (fun w hh => by have := sWhole_any s ps (some ⟨g, 0, none⟩) cc w (by omega) (by omega) HSH.out hh; rw [hp] at this; rw [ho]; exact this)
      obtain ⟨htw, _, htl, htn⟩ := parse_some ht
      obtain ⟨C, hC⟩ : ∃ C : Nat → ByteArray, ∀ i, C i = ⟨(t.fill (lastOf us i)).text.toArray⟩ := ⟨_, fun _ => rfl⟩
      have hCd : ∀ i, (C i).data.toList = (t.fill (lastOf us i)).text := fun i => by rw [hC]
      have hC0 : C 0 = o := by rw [hC, lastOf_zero, ← hx, ho]
      have hCn : C ps.length = s := by rw [hC, hpt, ← hul, last_all htw hul, ← text_of ht]
      have hpu : ps.length = us.length := by omega
      have HG : Hid (∀ (i : Nat) (h : i < ps.length), ∀ w, Calls Try.prog 9 #[.string (C (i + 1)), .int .i64 i, .string ⟨(ps[i]).toArray⟩] w (Ans (.tuple #[.string (C i), .bool true]) w)) := Lib.hid (fun i hi w => by
        have e1 := whole_step htw huw hul hx hxl hxn (i := i + 1) (by omega)
        have e0 := whole_step htw huw hul hx hxl hxn (i := i) (by omega)
        obtain ⟨_, _, z1, z2⟩ := parse_some e1
        obtain ⟨_, _, z3, z4⟩ := parse_some e0
        have z5 := text_length (t.fill (lastOf us (i + 1)))
        have hsz : (C (i + 1)).size ≤ 100000 := by rw [hC]; change (List.toArray _).size ≤ 100000; simp; omega
        have hsz2 : (⟨(ps[i]).toArray⟩ : ByteArray).size ≤ 1048576 := by change (List.toArray _).size ≤ _; have := HSH.out i hi; simpa using this
        have := iGraft_any (C (i + 1)) i ⟨(ps[i]).toArray⟩ w (by omega) (by omega)
        obtain ⟨s1, s2⟩ := last_step huw hul (i := i) (by omega)
        rw [hCd, show (⟨(ps[i]).toArray⟩ : ByteArray).data.toList = ps[i] from by simp, graftOf_in e1 (hps i hi (by omega)) s2, s1, graftV, done_small z3 z4, ← hC] at this
        exact this)
      have HY : Hid (∀ (gg c2 : Nat) (w : World), Lies w (some ⟨gg, 0, none⟩) (List.replicate ps.length [42]) → Calls Try.prog 15 #[.string s, .slice (some ⟨gg, 0, none⟩) ps.length c2] w (Ans (.tuple #[.string s, .bool true]) w)) := Lib.hid (fun gg c2 w hh => by
        have := iWhole_any s (List.replicate ps.length [42]) (some ⟨gg, 0, none⟩) c2 w (by omega) (by simp; omega) (fun j h => by simp) hh
        rw [whole_stars ht ps.length hpt, List.length_replicate, ← text_of ht] at this
        exact this)
      have HC0 := Lib.hid hC0
      have HCn := Lib.hid hCn
      clear hp ht hul hpt huw hx hxl hxn hps ho htw htl htn hC hCd hC0 hCn hpu
      go_wp2_with fail
      refine (HI.out w1 HL1.out).mono ?_
      rintro e w2 ⟨rfl, hB2⟩
      have HB2 := Lib.hid (below_step HB1.out hB2)
      have HL2 := Lib.hid (HL1.out.below hB2)
      clear hB2
      go_wp2_with fail
      refine (HS.out w2 HL2.out).mono ?_
      rintro e w3 ⟨rfl, hB3⟩
      have HB3 := Lib.hid (below_step HB2.out hB3)
      have HL3 := Lib.hid (HL2.out.below hB3)
      have R0 : Hid ((w3.alloc (.cells #[] 9 (0, 0))).ownsRow w3.heap.size 9 1 (.slice (some ⟨w3.heap.size, 0, none⟩) 0 0) 0 []) := Lib.hid (World.ownsRow_made w3 #[] 0 (Nat.le_refl _) (by simp [maxLen]) rfl)
      have RB0 : Hid (Below w3.heap.size w3 (w3.alloc (.cells #[] 9 (0, 0)))) := Lib.hid ((Below.refl _ _).alloc (Nat.le_refl _) _)
      clear hB3
      go_wp2_with fail
      go_loopw [9, 10, 11, 12, 13] (fun xv lv iv _ _ wr => ∃ (k gg c2 : Nat), k ≤ ps.length ∧ iv = .int .i64 ((ps.length : Int) - 1 - k) ∧ xv = .string (C (ps.length - k)) ∧ lv = .slice (some ⟨gg, 0, none⟩) k c2 ∧
          wr.ownsRow w3.heap.size 9 1 (.slice (some ⟨gg, 0, none⟩) k c2) k (txts (List.replicate k [42])) ∧ Below w3.heap.size w3 wr) (fun _ _ iv _ _ _ => (intOf iv + 1).toNat)
      case atStart => exact ⟨0, w3.heap.size, 0, by omega, by simp, by rw [Nat.sub_zero, HCn.out], rfl, R0.out, RB0.out⟩
      case round =>
        obtain ⟨k, gg, c2, hk, rfl, rfl, rfl, hown, hB⟩ := hrel
        have HOW := Lib.hid hown
        have HBR := Lib.hid hB
        have hsw := hB.size
        clear hown hB
        by_cases hlt : k < ps.length
        · obtain ⟨j, hj⟩ : ∃ j, j = ps.length - 1 - k := ⟨_, rfl⟩
          have hji : ((ps.length : Int) - 1 - k) = (j : Int) := by omega
          have hnk : ps.length - k = j + 1 := by omega
          have hnk2 : ps.length - (k + 1) = j := by omega
          have hjl : j < ps.length := by omega
          rw [hji, hnk]
          obtain ⟨g', eg, c1⟩ := (HL3.out.below HBR.out) j hjl
          simp only [Option.some.injEq, Addr.mk.injEq, and_true] at eg
          subst eg
          have hgj := HG.out j hjl
          obtain ⟨b, hb⟩ : ∃ b : ByteArray, b = ⟨(ps[j]).toArray⟩ := ⟨_, rfl⟩
          rw [← hb] at c1 hgj
          have HGJ := Lib.hid hgj
          have HJI := Lib.hid hji
          have HN2 := Lib.hid hnk2
          clear hgj hb hj hji hnk hnk2
          go_wp2_with fail
          refine (HGJ.out wr).mono ?_
          rintro e w4 ⟨rfl, hB4⟩
          have hs4 := hB4.size
          have O4 := Lib.hid ((owns_below HOW.out hB4).alloc (.cells #[.string ⟨#[42]⟩] 9 (0, 0)))
          have HB4 := Lib.hid (HBR.out.trans (hB4.mono hsw))
          clear hB4
          go_wp2_with (at_builtin; refine wpList_append_new _ rfl _ _ 30 rfl w3.heap.size 9 i0 (.string ⟨#[]⟩) 1 16 Try.underlying30 hi0 hz0 hzs hzb rfl (by decide) _ _ _ rfl O4.out ⟨w4.heap.size, 0, none⟩ 1 1 [.string ⟨#[42]⟩] (by decide) rfl ?c1 ?c2 ?c3 ?c4 ?c5 ?c6 ?_)
          case c1 => rfl
          case c2 => exact cells_one rfl _
          case c3 => simp [Value.oneCell']
          case c4 => unfold maxLen; omega
          case c5 => omega
          case c6 => simp; omega
          intro g6 c6 w6 hown6 hg6 _
          have HALL := Lib.hid (show w6.ownsRow w3.heap.size 9 1 (.slice (some ⟨g6, 0, none⟩) (k + 1) c6) (k + 1) (txts (List.replicate (k + 1) [42])) ∧ Below w3.heap.size w3 w6 from
            ⟨by rw [stars_snoc]; exact hown6, (HB4.out.alloc (by omega) _).grown hg6 (by simp; omega) (fun r e => (O4.out.lt r e).1)⟩)
          clear hown6 hg6
          go_wp2_with fail
          go_roundw
          case rel => exact ⟨k + 1, g6, c6, by omega, by have := HJI.out; rw [show ((ps.length : Int) - 1 - ((k + 1 : Nat) : Int)) = (j : Int) - 1 from by omega], by rw [HN2.out], rfl, HALL.out.1, HALL.out.2⟩
          case measure => first | (simp [intOf]; done) | (simp [intOf]; omega)
        · obtain rfl : k = ps.length := by omega
          have hc0 : C (ps.length - ps.length) = o := by rw [Nat.sub_self, HC0.out]
          rw [hc0]
          clear hc0
          have HLY := Lib.hid (Lies.of_owns HOW.out (by simp))
          go_wp2_with fail
          refine (HY.out gg c2 wr HLY.out).mono ?_
          rintro e w5 ⟨rfl, hB5⟩
          have HB5 := Lib.hid (below_step (below_step HB3.out HBR.out) hB5)
          clear hB5
          go_wp2_with fail
          go_ret
          exact ⟨rfl, HB5.out⟩
  · go_enter Try.func6, Try.ntmps6
    go_wp2_with fail
    go_ret
    exact ⟨rfl, Below.refl _ _⟩
end Go.Proofs.Ytfflgjidapclkaa
