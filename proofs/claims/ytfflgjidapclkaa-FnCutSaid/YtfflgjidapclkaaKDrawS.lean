/- Merged out of: XKDrawT, XDrShape. -/
import Derived.Test.YtfflgjidapclkaaKPick
import Derived.Test.YtfflgjidapclkaaKMirrorS
import Derived.Deep.CutRange
import Derived.Deep.CutBlock
import Derived.Deep.RegionHeld3
section
/- Merged out of: XDrawT, XDrawX. -/
section
/- A tree is drawn. -/
namespace Go.Proofs.Ytfflgjidapclkaa
open Go.RowKit

/-- A drawn tree: new, small, and the reader moved on. -/
def TreeDr (R : Nat) (a : Option Addr) (cap : Nat) (bs : List Nat) (p d : Nat) (w : World) (e : Ending) (w' : World) : Prop :=
  w.grownBy w' (some R) ∧ ∃ (t : T) (lb : ByteArray) (sa : Option Addr) (sn sc q : Nat), e = .returned (.agg #[.string lb, .slice sa sn sc]) ∧ RepS w' (fun b => w.heap.size ≤ b) t (.string lb) (.slice sa sn sc) ∧
    t.wf ∧ t.leaves ≤ 3 ^ d ∧ t.nodes + 1 ≤ 3 ^ d ∧ RdR w' R a cap bs q ∧ q + 1 ≤ p + 3 ^ d

theorem grownBy_over {a b c : World} {row row' : Option Nat} (h : a.grownBy b row) (k : b.grownBy c row') (hr : ∀ r, row' = some r → a.heap.size ≤ r) : a.grownBy c row :=
  ⟨k.os.trans h.os, k.tape.trans h.tape, k.output.trans h.output, Nat.le_trans h.size k.size, fun i hi hn => (k.block i (Nat.lt_of_lt_of_le hi h.size) (fun e => by have := hr i e.symm; omega)).trans (h.block i hi hn)⟩

theorem leaf_dr {R : Nat} {a : Option Addr} {cap : Nat} {bs : List Nat} {p q d : Nat} {w w' : World} (hg : w.grownBy w' (some R)) (hr : RdR w' R a cap bs q) (hq : q + 1 ≤ p + 3 ^ d) :
    TreeDr R a cap bs p d w (.returned (.agg #[.string ⟨#[]⟩, .slice none 0 0])) w' := by
  have hp1 : 1 ≤ 3 ^ d := Nat.one_le_pow _ _ (by decide)
  exact ⟨hg, .leaf, ⟨#[]⟩, none, 0, 0, q, rfl, by rw [RepS]; exact ⟨rfl, rfl⟩, by simp [T.wf], by simp [T.leaves]; omega, by simp [T.nodes]; omega, hr, hq⟩

set_option maxRecDepth 100000 in
set_option maxHeartbeats 2000000 in
theorem l91Tree_any (R : Nat) (a : Option Addr) (cap : Nat) (bs : List Nat) : ∀ (d p : Nat) (w : World), d ≤ 5 → p + 3 ^ d ≤ 1000000 → RdR w R a cap bs p →
    Calls Try.prog 44 #[.pointer (some ⟨R, 0, none⟩), .int .i64 d] w (TreeDr R a cap bs p d w) := by
  intro d
  induction d with
  | zero =>
    intro p w _ _ h
    have HR := Lib.hid h
    clear h
    go_enter Try.func44, Try.ntmps44
    go_wp2_with fail
    refine bodyPost_ret (v := .agg #[.string ⟨#[]⟩, .slice none 0 0]) (by simp [results, Try.results44, go_sem]) rfl ?_
    exact leaf_dr (grownBy_below (grownBy_refl w (some R)) ((Below.refl _ _).alloc (Nat.le_refl _) _)) (HR.out.grown (grownBy_below (grownBy_refl w none) ((Below.refl _ _).alloc (Nat.le_refl _) _)) (fun _ e => by cases e)) (by simp)
  | succ d ih =>
    intro p w hd hp h
    have HR := Lib.hid h
    have hw0 : w.grownBy (w.alloc (Obj.cells #[Value.string { data := #[] }, Value.slice none 0 0] 52)) none := grownBy_below (grownBy_refl w none) ((Below.refl _ _).alloc (Nat.le_refl _) _)
    have hp3 : 3 ^ (d + 1) = 3 * 3 ^ d := by rw [Nat.pow_succ, Nat.mul_comm]
    have hp1 : 1 ≤ 3 ^ d := Nat.one_le_pow _ _ (by decide)
    have HP3 := Lib.hid hp3
    have HPB := Lib.hid hp
    have HP1 := Lib.hid (pick_any R a cap p 3 bs _ (h.grown hw0 (fun _ e => by cases e)) (by omega) (by omega) (by omega))
    have h1 : decide ((d : Int) + 1 ≤ 0) = false := decide_eq_false (by omega)
    clear h hp3 hp hw0
    go_enter Try.func44, Try.ntmps44
    go_wp2_with fail
    refine HP1.out.mono ?_
    rintro e w1 ⟨⟨k1, hk1, rfl⟩, hg1, hs1, hr1⟩
    have hs1' : w1.heap.size = w.heap.size + 1 := by simpa using hs1
    have hRlt := HR.out.cells.2.2.2
    have hbx : w1.heap[w.heap.size]? = some (.cells #[.string ⟨#[]⟩, .slice none 0 0] 52 (0, 0)) := by
      rw [hg1.block w.heap.size (by simp) (by simp only [ne_eq, Option.some.injEq]; omega)]; exact heap_alloc_new w _
    have HB1 := Lib.hid hbx
    have HG1 := Lib.hid hg1
    have HS1 := Lib.hid hs1'
    have HR1 := Lib.hid hr1
    obtain ⟨b0, b1, bf0, bf1⟩ := two_cells hbx
    clear hbx hg1 hs1 hs1' hr1
    by_cases hk0 : k1 = 0
    · subst hk0
      go_wp2_with fail
      refine bodyPost_ret (v := .agg #[.string ⟨#[]⟩, .slice none 0 0]) (by simp [results, Try.results44, go_sem, b0, b1]) rfl ?_
      have gw : w.grownBy w1 (some R) := grownBy_trans (grownBy_below (grownBy_refl w (some R)) ((Below.refl _ _).alloc (Nat.le_refl _) _)) HG1.out
      have gs : w1.grownBy ((w1.setCell ⟨w.heap.size, 0, none⟩ (.string ⟨#[]⟩)).setCell ⟨w.heap.size, 1, none⟩ (.slice none 0 0)) (some w.heap.size) := grownBy_setCell (grownBy_setCell (grownBy_refl _ _) _) _
      exact leaf_dr (grownBy_over gw gs (fun r e => by cases e; exact Nat.le_refl _)) (HR1.out.grown gs (fun r e => by cases e; exact hRlt)) (by have := HP3.out; omega)
    · have h2 : ((k1 : Int) == 0) = false := beq_false_of_ne (by omega)
      have HP2 := Lib.hid (pick_any R a cap (p + 1) 8 bs _ HR1.out (by have := HPB.out; have := HP3.out; omega) (by omega) (by omega))
      go_upto_block 0 with fail
      refine HP2.out.mono ?_
      rintro e w2 ⟨⟨k2, hk2, rfl⟩, hg2, hs2, hr2⟩
      have HG2 := Lib.hid hg2
      have HS2 := Lib.hid hs2
      have HR2 := Lib.hid hr2
      clear hg2 hs2 hr2
      go_upto_block 0 with fail
      go_cut [6, 7] from 20 to 27 (fun n l wx => w2 = wx ∧ ∃ (N : Nat) (c : UInt8), n = .int .i64 N ∧ l = .string ⟨#[c]⟩ ∧ 1 ≤ N ∧ N ≤ 3 ∧ 97 ≤ c.toNat ∧ c.toNat ≤ 104)
      case first =>
        rcases (show k2 = 0 ∨ k2 = 1 ∨ k2 = 2 ∨ k2 = 3 ∨ 4 ≤ k2 from by omega) with rfl | rfl | rfl | rfl | h4
        · go_wp2_with fail
          go_meet
          exact ⟨rfl, 2, 98, rfl, rfl, by decide, by decide, by decide, by decide⟩
        · go_wp2_with fail
          go_meet
          exact ⟨rfl, 2, 98, rfl, rfl, by decide, by decide, by decide, by decide⟩
        · go_wp2_with fail
          go_meet
          exact ⟨rfl, 3, 99, rfl, rfl, by decide, by decide, by decide, by decide⟩
        · go_wp2_with fail
          go_meet
          exact ⟨rfl, 1, 100, rfl, rfl, by decide, by decide, by decide, by decide⟩
        · have e0 : ((k2 : Int) == 0) = false := beq_false_of_ne (by omega)
          have e1 : ((k2 : Int) == 1) = false := beq_false_of_ne (by omega)
          have e2 : ((k2 : Int) == 2) = false := beq_false_of_ne (by omega)
          have e3 : ((k2 : Int) == 3) = false := beq_false_of_ne (by omega)
          go_wp2_with fail
          go_meet
          exact ⟨rfl, 2, 97, rfl, rfl, by decide, by decide, by decide, by decide⟩
      case rest =>
        obtain ⟨rfl, N, c, rfl, rfl, hN1, hN3, hc1, hc2⟩ := hcut
        go_wp2_with fail
        have R0 := Lib.hid (OutRel.start (P := fun _ => False) (base := w2.heap.size + 1) (c := c) (w := w2) rfl (fun _ h => h.elim))
        have W2 : Hid (w.grownBy w2 (some R)) := Lib.hid (grownBy_trans (grownBy_trans (grownBy_below (grownBy_refl w (some R)) ((Below.refl _ _).alloc (Nat.le_refl _) _)) HG1.out) HG2.out)
        have S2 : Hid (w2.heap.size = w.heap.size + 1) := Lib.hid (HS2.out.trans HS1.out)
        have BX2 : Hid (w2.heap[w.heap.size]? = some (.cells #[.string ⟨#[]⟩, .slice none 0 0] 52 (0, 0))) := Lib.hid (by
          rw [HG2.out.block w.heap.size (by have := HS1.out; omega) (by simp only [ne_eq, Option.some.injEq]; omega)]; exact HB1.out)
        go_loopw [9] (fun i wr => ∃ (k q : Nat) (va : Option Addr) (vn vc : Nat) (xs : List Value) (acc : List T), k ≤ N ∧ i = .int .i64 k ∧ acc.length = k ∧
            OutRel (fun _ => False) (w2.heap.size + 1) w2.heap.size c acc (.slice va vn vc) xs wr ∧ wr.heap[w.heap.size]? = some (.cells #[.string ⟨#[]⟩, .slice none 0 0] 52 (0, 0)) ∧
            RdR wr R a cap bs q ∧ q + k ≤ p + 2 + k * 3 ^ d ∧ T.leavesL acc ≤ k * 3 ^ d ∧ T.nodesL acc + k ≤ k * 3 ^ d ∧ w.grownBy wr (some R) ∧ w2.heap.size + 1 ≤ wr.heap.size) (fun i _ => N - (intOf i).toNat)
        case atStart =>
          refine ⟨0, p + 2, none, 0, 0, [], [], by omega, rfl, rfl, R0.out, ?_, ?_, by omega, by simp [T.leavesL], by simp [T.nodesL], ?_, by simp⟩
          · rw [Below.heap_alloc _ _ _ (by have := S2.out; omega)]; exact BX2.out
          · exact HR2.out.grown (grownBy_below (grownBy_refl w2 none) ((Below.refl _ _).alloc (Nat.le_refl _) _)) (fun _ e => by cases e)
          · exact grownBy_below W2.out ((Below.refl _ _).alloc (Nat.le_refl _) _)
        case round =>
          obtain ⟨k, q, va, vn, vc, xs, acc, hkN, rfl, hacc, hrel, hbx, hrd, hq, hlv, hnd, hgw, hsz⟩ := hrel
          have hvn := hrel.vn
          rw [hacc] at hvn
          replace hvn := hvn.symm
          subst hvn
          have HREL := Lib.hid hrel
          have HBX := Lib.hid hbx
          have HRD := Lib.hid hrd
          have HQQ := Lib.hid (show q + k ≤ p + 2 + k * 3 ^ d ∧ T.leavesL acc ≤ k * 3 ^ d ∧ T.nodesL acc + k ≤ k * 3 ^ d from ⟨hq, hlv, hnd⟩)
          have HGW := Lib.hid hgw
          have HACC := Lib.hid hacc
          obtain ⟨c10, c11, f10, f11⟩ := two_cells hrel.1
          obtain ⟨r0, r1, fr0, fr1⟩ := two_cells hbx
          have hown0 := Lib.hid hrel.2.2.2.1.lt
          by_cases hlt : k < N
          · have hk3 : k = 0 ∨ k = 1 ∨ k = 2 := by omega
            have hp3 := HP3.out
            have hpb := HPB.out
            have hqd : q + 3 ^ d ≤ p + 3 * 3 ^ d := by rcases hk3 with e | e | e <;> rw [e] at hq <;> omega
            have HI := Lib.hid (ih q wr.drew (by omega) (by omega) hrd)
            obtain ⟨i0, hi0, hz, hzs, hzb⟩ := info_parts info42
            have HQ : Hid (∀ b, b < w2.heap.size + 1 → some b ≠ (Value.slice va k vc).ownBlock) := Lib.hid (fun b hb e => by have := (hown0.out b e.symm).1; omega)
            have HOWN : Hid (wr.drew.ownsRow (w2.heap.size + 1) 52 2 (.slice va k vc) k xs) := Lib.hid (by have := hrel.2.2.2.1; rw [hacc] at this; exact this)
            have hwd : IntKind.i64.wrap (d : Int) = (d : Int) := wrap_small _ (by omega) (by omega)
            have HRL : Hid (R < w2.heap.size) := Lib.hid (by have := S2.out; omega)
            clear hrel hbx hrd hq hlv hnd hgw hacc hp3 hpb hqd hk3 ih
            go_wp2_with fail
            go_region_law (first
              | (refine step_append_lies _ (by rfl) _ _ 50 (by rfl) (w2.heap.size + 1) 52 i0 (.agg #[.string ⟨#[]⟩, .slice none 0 0]) 2 40 Try.underlying50 hi0 hz hzs hzb rfl (by decide) (.slice va k vc) k xs (by rfl) ((HOWN.out.kept hg3 (by right; intro e; have h1 := (hown0.out _ e).1; have h2 := HRL.out; omega)).alloc (.cells #[.string lb, .slice sa sn sc] 52 (0, 0))) ⟨w3.heap.size, 0, none⟩ 1 1 [.string lb, .slice sa sn sc] (by rfl) (by rfl) (cells_two rfl _ _) (by simp [Value.oneCell']) (by decide) (by unfold maxLen; omega) (by omega) (by have := hg3.size; simp at this ⊢; omega) (w3.heap.size + 1) (by simp) ?_; intro gg cap' w4 hown4 hg4 hf4 hlt4; have y1 := hg4.cell (a := ⟨w2.heap.size, 1, none⟩) (v := .slice va k vc) (keep1 ((Below.refl _ _).alloc (Nat.le_refl _) _) x1) (HQ.out _ (by simp)); have y2 := grown_frozen (a := ⟨w2.heap.size, 1, none⟩) (v := .slice va k vc) hg4 (keep1 ((Below.refl _ _).alloc (Nat.le_refl _) _) x1) (keepf (v := .slice va k vc) ((Below.refl _ _).alloc (Nat.le_refl _) _) x1 x5) (HQ.out _ (by simp)))
              | (go_simp; go_at_call 44; refine HI.out.mono ?_; rintro e w3 ⟨hg3, t3, lb, sa, sn, sc, q3, rfl, hrep, hwf3, hlv3, hnd3, hrd3, hq3⟩; have hne : (some w2.heap.size : Option Nat) ≠ some R := (by have := HRL.out; simp only [ne_eq, Option.some.injEq]; omega); have x1 := hg3.cell (a := ⟨w2.heap.size, 1, none⟩) (v := .slice va k vc) c11 hne; have x5 := grown_frozen (a := ⟨w2.heap.size, 1, none⟩) (v := .slice va k vc) hg3 c11 f11 hne; have x6 : w2.heap.size < w3.heap.size := World.block_lt_of_cell? w3 _ x1; clear hne))
            all_goals
              have hg3' : wr.grownBy w3 (some R) := ⟨hg3.os, hg3.tape, hg3.output, hg3.size, hg3.block⟩
              have hb2' : Below w3.heap.size w3 (w3.alloc (.cells #[.string lb, .slice sa sn sc] 52 (0, 0))) := (Below.refl _ _).alloc (Nat.le_refl _) _
              have NX := HREL.out.nextR (t := t3) hsz HRL.out hg3' hrep hwf3 hb2' (by rw [HACC.out]; exact hown4) hg4 (by rcases hf4 with h | h; exact .inl h; exact .inr (by omega))
              rw [HACC.out] at NX
              have gs : w4.grownBy (w4.setCell ⟨w2.heap.size, 1, none⟩ (.slice (some ⟨gg, 0, none⟩) (k + 1) cap')) (some w2.heap.size) := grownBy_setCell (grownBy_refl _ _) _
              have ga : w3.grownBy (w3.alloc (.cells #[.string lb, .slice sa sn sc] 52 (0, 0))) none := grownBy_below (grownBy_refl _ _) hb2'
              have hs2 := S2.out
              have hrl := HRL.out
              have hown1 := hown0.out
              have BX : (w4.setCell ⟨w2.heap.size, 1, none⟩ (.slice (some ⟨gg, 0, none⟩) (k + 1) cap')).heap[w.heap.size]? = some (.cells #[.string ⟨#[]⟩, .slice none 0 0] 52 (0, 0)) := by
                have hl1 : w.heap.size < wr.heap.size := by omega
                have hl3 := Nat.lt_of_lt_of_le hl1 hg3'.size
                rw [gs.block _ (Nat.lt_of_lt_of_le (Nat.lt_of_lt_of_le hl3 ga.size) hg4.size) (by simp only [ne_eq, Option.some.injEq]; omega), hg4.block _ (Nat.lt_of_lt_of_le hl3 ga.size) (HQ.out _ (by omega)), ga.block _ hl3 (by simp), hg3'.block _ hl1 (by simp only [ne_eq, Option.some.injEq]; omega)]
                exact HBX.out
              have RD : RdR (w4.setCell ⟨w2.heap.size, 1, none⟩ (.slice (some ⟨gg, 0, none⟩) (k + 1) cap')) R a cap bs q3 :=
                ((hrd3.grown ga (fun _ e => by cases e)).grown hg4 (fun r e => by have := (hown1 r e).1; omega)).grown gs (fun r e => by cases e; exact hrl)
              have GW : w.grownBy (w4.setCell ⟨w2.heap.size, 1, none⟩ (.slice (some ⟨gg, 0, none⟩) (k + 1) cap')) (some R) :=
                grownBy_over (grownBy_over (grownBy_over (grownBy_trans HGW.out hg3') ga (fun _ e => by cases e)) hg4 (fun r e => by have := (hown1 r e).1; omega)) gs (fun r e => by cases e; omega)
              have SZ : w2.heap.size + 1 ≤ (w4.setCell ⟨w2.heap.size, 1, none⟩ (.slice (some ⟨gg, 0, none⟩) (k + 1) cap')).heap.size := by
                have h1 := hg3'.size; have h2 := ga.size; have h3 := hg4.size; have h4 := gs.size; omega
              have BD : q3 + (k + 1) ≤ p + 2 + (k + 1) * 3 ^ d ∧ T.leavesL (acc ++ [t3]) ≤ (k + 1) * 3 ^ d ∧ T.nodesL (acc ++ [t3]) + (k + 1) ≤ (k + 1) * 3 ^ d := by
                have h1 := HQQ.out
                rw [leavesL_append, nodesL_append, Nat.succ_mul]
                simp only [T.leavesL, T.nodesL]
                omega
              have ALL := Lib.hid (And.intro NX (And.intro BX (And.intro RD (And.intro GW (And.intro SZ BD)))))
              clear NX BX RD GW SZ BD gs ga hg3' hb2' hown4 hg4 hf4 hg3 hrep hrd3 hq3 hlv3 hnd3 hwf3 x1 x5 y1 y2 hs2 hrl hown1
              go_wp2_with fail
              go_roundw
              case rel => exact ⟨k + 1, q3, some ⟨gg, 0, none⟩, k + 1, cap', _, acc ++ [t3], by omega, rfl, by rw [List.length_append, HACC.out]; rfl, ALL.out.1, ALL.out.2.1, ALL.out.2.2.1, ALL.out.2.2.2.2.2.1, ALL.out.2.2.2.2.2.2.1, ALL.out.2.2.2.2.2.2.2, ALL.out.2.2.2.1, ALL.out.2.2.2.2.1⟩
              case measure => first | (simp [intOf]; done) | (simp [intOf]; omega)
          · have hkk : k = N := by omega
            subst hkk
            clear hrel hbx hrd hq hlv hnd hgw hacc
            go_wp2_with fail
            refine bodyPost_ret (v := .agg #[.string ⟨#[c]⟩, .slice va k vc]) (by simp [results, Try.results44, go_sem, r0, r1]) rfl ?_
            have gs : wr.grownBy ((wr.setCell ⟨w.heap.size, 0, none⟩ (.string ⟨#[c]⟩)).setCell ⟨w.heap.size, 1, none⟩ (.slice va k vc)) (some w.heap.size) := grownBy_setCell (grownBy_setCell (grownBy_refl _ _) _) _
            have hl := HACC.out
            have hs2 := S2.out
            have hp3 := HP3.out
            obtain ⟨hq, hlv, hnd⟩ := HQQ.out
            have hrep := HREL.out.rep (w2 := (wr.setCell ⟨w.heap.size, 0, none⟩ (.string ⟨#[c]⟩)).setCell ⟨w.heap.size, 1, none⟩ (.slice va k vc)) (by omega) (by omega) (by
              intro q u hq hu
              have hne : q.block ≠ w.heap.size := by rcases hq with h | h; exact h.elim; omega
              rw [World.cell?_of_block (gs.block q.block (World.block_lt_of_cell? wr _ hu) (by simpa using hne))]
              exact hu)
            have h3 : k = 1 ∨ k = 2 ∨ k = 3 := by omega
            refine ⟨grownBy_over HGW.out gs (fun r e => by cases e; exact Nat.le_refl _), .node c acc, ⟨#[c]⟩, va, k, vc, q, rfl, ?_, ?_, ?_, ?_, HRD.out.grown gs (fun r e => by cases e; exact hRlt), ?_⟩
            · refine hrep.keep (fun _ _ _ h => h) (fun b h _ => by rcases h with h | h; exact h.elim; omega) ?_
              rw [T.wf]; exact ⟨hc1, hc2, by omega, by omega, HREL.out.2.2.2.2.2⟩
            · rw [T.wf]; exact ⟨hc1, hc2, by omega, by omega, HREL.out.2.2.2.2.2⟩
            · rw [T.leaves]; rcases h3 with e | e | e <;> rw [e] at hlv <;> omega
            · rw [T.nodes]; rcases h3 with e | e | e <;> rw [e] at hnd <;> omega
            · rcases h3 with e | e | e <;> rw [e] at hq <;> omega
end Go.Proofs.Ytfflgjidapclkaa
end
section
/- A text is drawn. -/
namespace Go.Proofs.Ytfflgjidapclkaa
open Go.RowKit

/-- A drawn text: short, and the reader moved on. -/
def TextDr (R : Nat) (a : Option Addr) (cap : Nat) (bs : List Nat) (p d : Nat) (w : World) (e : Ending) (w' : World) : Prop :=
  w.grownBy w' (some R) ∧ ∃ (s : ByteArray) (q : Nat), e = .returned (.string s) ∧ s.size ≤ 2000 ∧ RdR w' R a cap bs q ∧ q ≤ p + 1 + 3 ^ d

def badTexts : List ByteArray := [⟨#[]⟩, ⟨#[40, 97, 41]⟩, ⟨#[40, 97, 32, 42, 32, 42]⟩, ⟨#[40, 105, 32, 42, 32, 42, 41]⟩, ⟨#[40, 97, 32, 32, 42, 32, 42, 41]⟩, ⟨#[42, 42]⟩, ⟨#[40, 97, 32, 42, 41]⟩, ⟨#[40, 97, 32, 42, 32, 42, 32, 42, 32, 42, 32, 42, 32, 42, 32, 42, 41]⟩]

theorem badTexts_size : ∀ s ∈ badTexts, s.size ≤ 2000 := by decide

def badCells : Array Value := #[.string ⟨#[]⟩, .string ⟨#[40, 97, 41]⟩, .string ⟨#[40, 97, 32, 42, 32, 42]⟩, .string ⟨#[40, 105, 32, 42, 32, 42, 41]⟩, .string ⟨#[40, 97, 32, 32, 42, 32, 42, 41]⟩, .string ⟨#[42, 42]⟩, .string ⟨#[40, 97, 32, 42, 41]⟩, .string ⟨#[40, 97, 32, 42, 32, 42, 32, 42, 32, 42, 32, 42, 32, 42, 32, 42, 41]⟩]

theorem badCells_get : ∀ j (h : j < 8), badCells[j]? = some (.string (badTexts[j]'h)) := by
  intro j h
  match j, h with
  | 0, _ => rfl
  | 1, _ => rfl
  | 2, _ => rfl
  | 3, _ => rfl
  | 4, _ => rfl
  | 5, _ => rfl
  | 6, _ => rfl
  | 7, _ => rfl

theorem bad_of (R : Nat) (a : Option Addr) (cap : Nat) (bs : List Nat) (p : Nat) (w : World) (h : RdR w R a cap bs p) (hp : p ≤ 1000000) :
    Calls Try.prog 43 #[.pointer (some ⟨R, 0, none⟩), .slice (some ⟨w.heap.size, 0, none⟩) 8 8] (w.alloc (.cells badCells 9 (0, 0))) (OfPost R a cap bs p badTexts (w.alloc (.cells badCells 9 (0, 0)))) := by
  refine of_any R a cap p bs _ w.heap.size 0 8 badTexts (h.grown (grownBy_below (grownBy_refl w none) ((Below.refl _ _).alloc (Nat.le_refl _) _)) (fun _ e => by cases e)) hp (by decide) (by decide) (by have := h.cells.2.2.2; omega) ?_
  intro j hj
  have h1 : (w.alloc (.cells badCells 9 (0, 0))).heap[w.heap.size]? = some (.cells badCells 9 (0, 0)) := heap_alloc_new w _
  simp only [World.cell?, h1, Nat.zero_add]
  exact badCells_get j hj

set_option maxRecDepth 100000 in
set_option maxHeartbeats 2000000 in
theorem l91Text_any (R : Nat) (a : Option Addr) (cap : Nat) (bs : List Nat) (d p : Nat) (w : World) (hd : d ≤ 5) (hp : p + 1 + 3 ^ d ≤ 1000000) (h : RdR w R a cap bs p) :
    Calls Try.prog 22 #[.pointer (some ⟨R, 0, none⟩), .int .i64 d] w (TextDr R a cap bs p d w) := by
  have hp1 : 1 ≤ 3 ^ d := Nat.one_le_pow _ _ (by decide)
  have HP := Lib.hid (show p + 1 + 3 ^ d ≤ 1000000 ∧ 1 ≤ 3 ^ d from ⟨hp, hp1⟩)
  have HR := Lib.hid h
  have HP1 := Lib.hid (pick_any R a cap p 20 bs w h (by omega) (by omega) (by omega))
  clear h hp hp1
  go_enter Try.func22, Try.ntmps22
  go_wp2_with fail
  refine HP1.out.mono ?_
  rintro e w1 ⟨⟨k1, hk1, rfl⟩, hg1, hs1, hr1⟩
  have HG1 := Lib.hid hg1
  have HR1 := Lib.hid hr1
  clear hg1 hs1 hr1
  by_cases hk0 : k1 = 0
  · subst hk0
    have HO := Lib.hid (bad_of R a cap bs (p + 1) w1 HR1.out (by have := HP.out; omega))
    go_wp2_with fail
    refine HO.out.mono ?_
    rintro e w2 ⟨⟨s, hs, rfl⟩, hg2, hs2, hr2⟩
    have hsz := badTexts_size s hs
    have hb : w1.grownBy (w1.alloc (.cells badCells 9 (0, 0))) none := grownBy_below (grownBy_refl _ _) ((Below.refl _ _).alloc (Nat.le_refl _) _)
    have ALL := Lib.hid (show w.grownBy w2 (some R) ∧ RdR w2 R a cap bs (p + 2) from ⟨grownBy_trans (grownBy_over HG1.out hb (fun _ e => by cases e)) hg2, hr2⟩)
    clear hg2 hs2 hr2 hs hb
    go_wp2_with fail
    go_ret
    exact ⟨ALL.out.1, s, p + 2, rfl, hsz, ALL.out.2, by have := HP.out; omega⟩
  · have h2 : ((k1 : Int) == 0) = false := beq_false_of_ne (by omega)
    have HT := Lib.hid (l91Tree_any R a cap bs d (p + 1) w1 hd (by have := HP.out; omega) HR1.out)
    go_wp2_with fail
    refine HT.out.mono ?_
    rintro e w2 ⟨hg2, t, lb, sa, sn, sc, q, rfl, hrep, hwf, hlv, hnd, hrd, hq⟩
    have h5 : 3 ^ d ≤ 243 := Nat.pow_le_pow_right (by decide) hd
    have htl := text_length t
    have HT2 := Lib.hid (l1Text_any _ t _ _ w2 _ (Nat.le_refl _) hwf (by omega) hrep)
    have HG2 := Lib.hid (grownBy_trans HG1.out hg2)
    have HRD := Lib.hid hrd
    have hsz : t.text.length ≤ 2000 := by omega
    clear hg2 hrep hrd htl
    go_wp2_with fail
    refine HT2.out.mono ?_
    rintro e w3 ⟨rfl, hb3⟩
    have HB3 := Lib.hid hb3
    clear hb3
    go_wp2_with fail
    go_ret
    exact ⟨grownBy_below HG2.out HB3.out, ⟨t.text.toArray⟩, q, rfl, by change t.text.toArray.size ≤ 2000; simpa using hsz, HRD.out.grown (grownBy_below (grownBy_refl _ none) HB3.out) (fun _ e => by cases e), by omega⟩

/-- What a draw of a text is good for. -/
def DrPost (w : World) (e : Ending) (w' : World) : Prop := Below w.heap.size w w' ∧ ∃ s : ByteArray, e = .returned (.string s) ∧ s.size ≤ 2000

theorem below_over {w w1 w2 : World} {row : Option Nat} (h : Below w.heap.size w w1) (hg : w1.grownBy w2 row) (hr : ∀ r, row = some r → w.heap.size ≤ r) : Below w.heap.size w w2 :=
  h.grown hg h.size hr

end Go.Proofs.Ytfflgjidapclkaa
end
section
/- A letter is drawn. -/
namespace Go.Proofs.Ytfflgjidapclkaa
open Go.RowKit

theorem keeps_row {w w' : World} {R : Nat} (hg : w.grownBy w' (some R)) (P : Nat → Prop) (hP : ∀ b, P b → b ≠ R) : Keeps P w w' := fun q v hq hv => by
  rw [World.cell?_of_block (hg.block q.block (World.block_lt_of_cell? w q hv) (fun e => hP _ hq (by cases e; rfl)))]
  exact hv

def abCells : Array Value := #[.string ⟨#[97]⟩, .string ⟨#[98]⟩]
def abTexts : List ByteArray := [⟨#[97]⟩, ⟨#[98]⟩]

theorem ab_of (R : Nat) (a : Option Addr) (cap : Nat) (bs : List Nat) (p : Nat) (w : World) (h : RdR w R a cap bs p) (hp : p ≤ 1000000) :
    Calls Try.prog 43 #[.pointer (some ⟨R, 0, none⟩), .slice (some ⟨w.heap.size, 0, none⟩) 2 2] (w.alloc (.cells abCells 9 (0, 0))) (OfPost R a cap bs p abTexts (w.alloc (.cells abCells 9 (0, 0)))) := by
  refine of_any R a cap p bs _ w.heap.size 0 2 abTexts (h.grown (grownBy_below (grownBy_refl w none) ((Below.refl _ _).alloc (Nat.le_refl _) _)) (fun _ e => by cases e)) hp (by decide) (by decide) (by have := h.cells.2.2.2; omega) ?_
  intro j hj
  have h1 : (w.alloc (.cells abCells 9 (0, 0))).heap[w.heap.size]? = some (.cells abCells 9 (0, 0)) := heap_alloc_new w _
  simp only [World.cell?, h1, Nat.zero_add]
  have hj2 : j < 2 := hj
  rcases j with _ | _ | j
  · rfl
  · rfl
  · omega

end Go.Proofs.Ytfflgjidapclkaa
end
end
section
/- A tree with just so many leaves is drawn. -/
namespace Go.Proofs.Ytfflgjidapclkaa
open Go.RowKit

theorem ab_letter {s : ByteArray} (hs : s ∈ abTexts) : ∃ c : UInt8, s = ⟨#[c]⟩ ∧ 97 ≤ c.toNat ∧ c.toNat ≤ 104 := by
  simp only [abTexts, List.mem_cons, List.not_mem_nil, or_false] at hs
  rcases hs with rfl | rfl
  · exact ⟨97, rfl, by decide, by decide⟩
  · exact ⟨98, rfl, by decide, by decide⟩

theorem put_two2 {w : World} {q : Nat} {a b : Value} {ty : TypeId} (h : w.heap[q]? = some (.cells #[a, b] ty (0, 0))) (x y : Value) :
    ((w.setCell ⟨q, 0, none⟩ x).setCell ⟨q, 1, none⟩ y).heap[q]? = some (.cells #[x, y] ty (0, 0)) := by
  have := heap_setCell_same (k := 1) (heap_setCell_same (k := 0) h x) y
  simpa using this

theorem cell_put2 {w : World} {q : Nat} {p : Addr} {v : Value} (h : w.cell? p = some v) (hne : p.block ≠ q) (x y : Value) : ((w.setCell ⟨q, 0, none⟩ x).setCell ⟨q, 1, none⟩ y).cell? p = some v := by
  rw [World.cell?_of_block (w := w)]
  · exact h
  · rw [Below.heap_setCell _ _ _ _ hne, Below.heap_setCell _ _ _ _ hne]

/-- A drawn tree with just so many leaves. -/
def ShapeDr (R : Nat) (a : Option Addr) (cap : Nat) (bs : List Nat) (p n : Nat) (w : World) (e : Ending) (w' : World) : Prop :=
  w.grownBy w' (some R) ∧ ∃ (t : T) (lb : ByteArray) (sa : Option Addr) (sn sc q : Nat), e = .returned (.agg #[.string lb, .slice sa sn sc]) ∧ RepS w' (fun b => w.heap.size ≤ b) t (.string lb) (.slice sa sn sc) ∧
    t.wf ∧ t.leaves ≤ n ∧ t.nodes + 1 ≤ n ∧ RdR w' R a cap bs q ∧ q + 2 ≤ p + 2 * n

end Go.Proofs.Ytfflgjidapclkaa
end
