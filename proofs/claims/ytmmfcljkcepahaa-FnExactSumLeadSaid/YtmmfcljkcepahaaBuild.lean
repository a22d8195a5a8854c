/- strings.Builder, as this program's text has it: a builder of the call's own. -/
import Derived.Test.YtmmfcljkcepahaaRepI
import Derived.Lib.Builder
import Derived.Lib.UnsafeStr
namespace Go.Proofs.Ytmmfcljkcepahaa
open Go.RowKit

theorem bsize : (Try.prog.info? 248).map (·.size) = some 2 := by kernel_rfl
theorem blies : liesAt Try.prog Try.prog.depth 248 (2 / Try.prog.cellsOf 248) 0 248 1 = true := by kernel_rfl
theorem info5 : (Try.prog.info? 5).map (fun i => (i.zero, i.size, i.bytes)) = some (some (.int .u8 0), 1, 1) := by kernel_rfl

set_option maxHeartbeats 1000000 in
set_option maxRecDepth 100000 in
theorem copyCheck_used (b : Nat) (w : World) (h0 : w.cell? ⟨b, 0, none⟩ = some (.pointer (some ⟨b, 0, none⟩))) :
    Calls Try.prog 249 #[.pointer (some ⟨b, 0, none⟩)] w fun e w' => e = .returned (.tuple #[]) ∧ w = w' := by
  obtain ⟨j, hj, _⟩ := Option.map_eq_some_iff.1 bsize
  go_enter Try.func249, Try.ntmps249
  go_wp2
  rw [Lib.run_neq_ptr_same w _ Try.underlying246 hj]
  go_wp2
  go_end0
  exact ⟨rfl, rfl⟩

set_option maxHeartbeats 1000000 in
set_option maxRecDepth 100000 in
theorem copyCheck_fresh (b : Nat) (w : World) (h0 : w.cell? ⟨b, 0, none⟩ = some (.pointer none)) (hsh : w.shape? b = some (248, 2)) (hfz : w.frozen? ⟨b, 0, none⟩ = false) :
    Calls Try.prog 249 #[.pointer (some ⟨b, 0, none⟩)] w fun e w' => e = .returned (.tuple #[]) ∧ w.setCell ⟨b, 0, none⟩ (.pointer (some ⟨b, 0, none⟩)) = w' := by
  obtain ⟨j, hj, hjs⟩ := Option.map_eq_some_iff.1 bsize
  go_enter Try.func249, Try.ntmps249
  go_wp2
  rw [Lib.run_to_unsafe w ⟨b, 0, none⟩ Try.underlying246 Try.underlying314 hj (by rw [hjs]; decide) hsh (Nat.zero_lt_succ 1)]
  simp only [Result.andThen]
  rw [Oper.upon_value]
  go_wp2
  rw [run_callFunc_extern Try.func250 (by kernel_rfl) (by kernel_rfl) (by kernel_rfl) (e := Extern.AbiNoEscape.same) (by kernel_rfl)]
  rw [Lib.run_noEscape]
  simp only [Result.andThen]
  rw [Oper.upon_value]
  go_wp2
  rw [Lib.run_from_unsafe w ⟨b, 0, none⟩ Try.underlying314 Try.underlying246 hj hsh blies]
  simp only [Result.andThen]
  rw [Oper.upon_value]
  go_wp2
  go_end0
  exact ⟨rfl, rfl⟩

/-- A builder in use behind the check. -/
def Checked (B b : Nat) (bs : List Value) (w : World) (e : Ending) (w' : World) : Prop :=
  e = .returned (.tuple #[]) ∧ Lib.BuilderAt 248 5 B b (.pointer (some ⟨b, 0, none⟩)) bs w' ∧ Below B w w'

theorem copyCheck_any (B b : Nat) (bs : List Value) (w : World) (h : Lib.IsBuilder 248 5 B b bs w) :
    Calls Try.prog 249 #[.pointer (some ⟨b, 0, none⟩)] w (Checked B b bs w) := by
  rcases h with h | h
  · exact (copyCheck_fresh b w h.cell0 h.shape h.frozen0).mono fun e w' ⟨he, hw⟩ => by
      subst hw
      exact ⟨he, h.used _, (Below.refl _ _).setCell h.1 _⟩
  · exact (copyCheck_used b w h.cell0).mono fun e w' ⟨he, hw⟩ => by
      subst hw
      exact ⟨he, h, Below.refl _ _⟩

/-- Behind a write. -/
def Wrote (v : Value) (B b : Nat) (bs : List Value) (w : World) (e : Ending) (w' : World) : Prop :=
  e = .returned v ∧ Lib.IsBuilder 248 5 B b bs w' ∧ Below B w w'

set_option maxHeartbeats 1000000 in
set_option maxRecDepth 100000 in
theorem writeByte_any (B b : Nat) (bs : List Value) (c : Int) (w : World) (h : Lib.IsBuilder 248 5 B b bs w) (hlen : bs.length + 1 ≤ 140737488355328) (hBw : B ≤ w.heap.size) :
    Calls Try.prog 247 #[.pointer (some ⟨b, 0, none⟩), .int .u8 c] w (Wrote .nilIface B b (bs ++ [.int .u8 c]) w) := by
  obtain ⟨i0, hi0, hz, hzs, hzb⟩ := info_parts info5
  have HC := Lib.hid (copyCheck_any B b bs w h)
  clear h
  go_enter Try.func247, Try.ntmps247
  go_wp2_with fail
  refine HC.out.mono ?_
  rintro e w1 ⟨rfl, hb, hB1⟩
  obtain ⟨hBb, v, hblk, hown, hne⟩ := hb
  obtain ⟨va, vn, vc, rfl, rfl⟩ := owns_slice hown
  have c1 : w1.cell? ⟨b, 1, none⟩ = some (.slice va bs.length vc) := by rw [Lib.cell_of_heap hblk]; rfl
  have hsz := hB1.size
  have hlt : b < w1.heap.size := Lib.BuilderAt.lt (p := .pointer (some ⟨b, 0, none⟩)) ⟨hBb, _, hblk, hown, hne⟩
  have HK := Lib.hid hblk
  have HO := Lib.hid (hown.alloc (.cells #[.int .u8 c] 5 (0, 0)))
  have HN := Lib.hid hne
  clear hblk hown hne
  go_wp2_with (at_builtin; refine wpList_append_new _ rfl _ _ 69 rfl B 5 i0 (.int .u8 0) 1 1 Try.underlying69 hi0 hz hzs hzb rfl (by decide) _ _ _ rfl HO.out ⟨w1.heap.size, 0, none⟩ 1 1 [.int .u8 c] (by decide) rfl ?c1 ?c2 ?c3 ?c4 ?c5 ?c6 ?_)
  case c1 => rfl
  case c2 => exact cells_one rfl _
  case c3 => simp [Value.oneCell']
  case c4 => unfold maxLen; omega
  case c5 => omega
  case c6 => simp; omega
  intro g cap w2 hown2 hg _
  have hblk2 : w2.heap[b]? = some (.cells #[.pointer (some ⟨b, 0, none⟩), .slice va bs.length vc] 248 (0, 0)) := by
    rw [hg.block b (by simp; omega) (fun e => HN.out e.symm), Below.heap_alloc _ _ _ hlt]; exact HK.out
  obtain ⟨d0, d1, g0, g1⟩ := two_cells hblk2
  have hBB : Below B w w2 := (hB1.alloc (by omega) _).grown hg (by simp; omega) (fun k e => (HO.out.lt k e).1)
  have HF := Lib.hid (Lib.BuilderAt.put (T := 248) hBb hblk2 (by rw [List.length_append]; exact hown2) (by decide))
  have HX := Lib.hid hBB
  clear hown2 hg hblk2 hBB
  go_wp2_with fail
  go_ret
  exact ⟨rfl, .inr HF.out, HX.out.setCell hBb _⟩

set_option maxHeartbeats 1000000 in
set_option maxRecDepth 100000 in
theorem writeString_any (B b : Nat) (bs : List Value) (s : ByteArray) (w : World) (h : Lib.IsBuilder 248 5 B b bs w) (hlen : bs.length + s.size ≤ 140737488355328) (hBw : B ≤ w.heap.size) :
    Calls Try.prog 248 #[.pointer (some ⟨b, 0, none⟩), .string s] w (Wrote (.tuple #[.int .i64 s.size, .nilIface]) B b (bs ++ Lib.strCells s) w) := by
  obtain ⟨i0, hi0, hz, hzs, hzb⟩ := info_parts info5
  have HC := Lib.hid (copyCheck_any B b bs w h)
  clear h
  go_enter Try.func248, Try.ntmps248
  go_wp2_with fail
  refine HC.out.mono ?_
  rintro e w1 ⟨rfl, hb, hB1⟩
  obtain ⟨hBb, v, hblk, hown, hne⟩ := hb
  obtain ⟨va, vn, vc, rfl, rfl⟩ := owns_slice hown
  have c1 : w1.cell? ⟨b, 1, none⟩ = some (.slice va bs.length vc) := by rw [Lib.cell_of_heap hblk]; rfl
  have hsz := hB1.size
  have hlt : b < w1.heap.size := Lib.BuilderAt.lt (p := .pointer (some ⟨b, 0, none⟩)) ⟨hBb, _, hblk, hown, hne⟩
  have HK := Lib.hid hblk
  have HO := Lib.hid hown
  have HN := Lib.hid hne
  clear hblk hown hne
  go_wp2_with (at_builtin; refine Lib.wpList_append_own_string _ rfl _ _ 69 9 rfl B 5 i0 Try.underlying69 Try.underlying9 hi0 hz hzs hzb _ _ _ rfl HO.out s rfl ?c1 ?c2 ?c3 ?_)
  case c1 => unfold maxLen; omega
  case c2 => omega
  case c3 => omega
  intro v2 w2 hown2 hg _
  obtain ⟨va2, vn2, vc2, rfl, rfl⟩ := owns_slice hown2
  have hblk2 : w2.heap[b]? = some (.cells #[.pointer (some ⟨b, 0, none⟩), .slice va bs.length vc] 248 (0, 0)) := by
    rw [hg.block b hlt (fun e => HN.out e.symm)]; exact HK.out
  obtain ⟨d0, d1, g0, g1⟩ := two_cells hblk2
  have hBB : Below B w w2 := hB1.grown hg (by omega) (fun k e => (HO.out.lt k e).1)
  have HF := Lib.hid (Lib.BuilderAt.put (T := 248) (bs' := bs ++ Lib.strCells s) (v' := .slice va2 (bs.length + s.size) vc2) hBb hblk2 (by rw [List.length_append, Lib.strCells_length]; exact hown2) (by decide))
  have HX := Lib.hid hBB
  clear hown2 hg hblk2 hBB
  go_wp2_with fail
  go_ret2
  exact ⟨rfl, .inr HF.out, HX.out.setCell hBb _⟩

set_option maxHeartbeats 1000000 in
set_option maxRecDepth 100000 in
theorem string_any (B b : Nat) (l : List UInt8) (w : World) (h : Lib.IsBuilder 248 5 B b (Lib.byteCells l) w) (h0 : l ≠ []) :
    Calls Try.prog 178 #[.pointer (some ⟨b, 0, none⟩)] w fun e w' => e = .returned (.string ⟨l.toArray⟩) ∧ Below B w w' := by
  obtain ⟨p, hB, v, hbk, hown, hne⟩ : ∃ p, Lib.BuilderAt 248 5 B b p (Lib.byteCells l) w := by
    rcases h with h | h
    · exact ⟨_, h⟩
    · exact ⟨_, h⟩
  have hl0 : l.length ≠ 0 := by simpa using h0
  rw [Lib.byteCells_length] at hown
  obtain ⟨g, cap, cur, rfl, hbg, hg, hnc, hcm, hcs, htake⟩ : ∃ g cap cur, v = .slice (some ⟨g, 0, none⟩) l.length cap ∧ B ≤ g ∧ w.heap[g]? = some (.cells cur 5 (0, 0)) ∧ l.length ≤ cap ∧ cap ≤ maxLen ∧ cur.size = cap * 1 ∧ cur.toList.take (l.length * 1) = Lib.byteCells l := by
    rcases hown.2 with ⟨_, hz⟩ | ⟨g, cap, cur, hv, r⟩
    · exact absurd hz hl0
    · exact ⟨g, cap, cur, hv, r⟩
  have c1 : w.drew.cell? ⟨b, 1, none⟩ = some (.slice (some ⟨g, 0, none⟩) l.length cap) := by
    have : w.drew.heap[b]? = some (.cells #[p, .slice (some ⟨g, 0, none⟩) l.length cap] 248 (0, 0)) := hbk
    rw [Lib.cell_of_heap this]; rfl
  have hSD : (Builtin.unsafeSliceData_ #[69] 279 #[.slice (some ⟨g, 0, none⟩) l.length cap]).run Try.prog w.drew = .ok (.pointer (some ⟨g, 0, none⟩)) w.drew :=
    Lib.run_unsafeSliceData_row _ _ _ _ _ _ (by omega)
  have hUS : (Builtin.unsafeString_ #[279, 3] 9 #[.pointer (some ⟨g, 0, none⟩), .int .i64 l.length]).run Try.prog w.drew = .ok (.string ⟨l.toArray⟩) (w.drew.freeze ⟨g, 0, none⟩ l.length) := by
    refine Lib.run_unsafeString_row w.drew 279 3 9 5 Try.underlying279 (by kernel_rfl) g cur.size (by have hg' : w.drew.heap[g]? = some (.cells cur 5 (0, 0)) := hg; simp [World.shape?, hg']) l h0 (by omega) (by unfold maxLen at hcm; omega) ?_
    intro j x hx
    exact hown.cells (g := g) rfl j (.int .u8 x.toNat) (by simp [Lib.byteCells, hx])
  go_enter Try.func178, Try.ntmps178
  go_wp2
  go_region
  all_goals (go_wp2; go_ret; exact ⟨rfl, Lib.below_freeze (Below.drew (Below.refl B w)) (p := ⟨g, 0, none⟩) hbg _⟩)

end Go.Proofs.Ytmmfcljkcepahaa
