/- Merged out of: XBuild, XTextI. -/
import Derived.Test.YtoeebipahifpcaaGreatRepI
import Derived.Lib.Builder
import Derived.Lib.UnsafeStr
section
/- strings.Builder, as this program's text has it: a builder of the call's own. -/
namespace Go.Proofs.YtoeebipahifpcaaGreat
open Go.RowKit

theorem bsize : (Tryz.prog.info? 157).map (·.size) = some 2 := by kernel_rfl
theorem blies : liesAt Tryz.prog Tryz.prog.depth 157 (2 / Tryz.prog.cellsOf 157) 0 157 1 = true := by kernel_rfl
theorem info5 : (Tryz.prog.info? 5).map (fun i => (i.zero, i.size, i.bytes)) = some (some (.int .u8 0), 1, 1) := by kernel_rfl

set_option maxHeartbeats 1000000 in
set_option maxRecDepth 100000 in
theorem copyCheck_used (b : Nat) (w : World) (h0 : w.cell? ⟨b, 0, none⟩ = some (.pointer (some ⟨b, 0, none⟩))) :
    Calls Tryz.prog 141 #[.pointer (some ⟨b, 0, none⟩)] w fun e w' => e = .returned (.tuple #[]) ∧ w = w' := by
  obtain ⟨j, hj, _⟩ := Option.map_eq_some_iff.1 bsize
  go_enter Tryz.func141, Tryz.ntmps141
  go_wp2
  rw [Lib.run_neq_ptr_same w _ Tryz.underlying155 hj]
  go_wp2
  go_end0
  exact ⟨rfl, rfl⟩

set_option maxHeartbeats 1000000 in
set_option maxRecDepth 100000 in
theorem copyCheck_fresh (b : Nat) (w : World) (h0 : w.cell? ⟨b, 0, none⟩ = some (.pointer none)) (hsh : w.shape? b = some (157, 2)) (hfz : w.frozen? ⟨b, 0, none⟩ = false) :
    Calls Tryz.prog 141 #[.pointer (some ⟨b, 0, none⟩)] w fun e w' => e = .returned (.tuple #[]) ∧ w.setCell ⟨b, 0, none⟩ (.pointer (some ⟨b, 0, none⟩)) = w' := by
  obtain ⟨j, hj, hjs⟩ := Option.map_eq_some_iff.1 bsize
  go_enter Tryz.func141, Tryz.ntmps141
  go_wp2
  rw [Lib.run_to_unsafe w ⟨b, 0, none⟩ Tryz.underlying155 Tryz.underlying206 hj (by rw [hjs]; decide) hsh (Nat.zero_lt_succ 1)]
  simp only [Result.andThen]
  rw [Oper.upon_value]
  go_wp2
  rw [run_callFunc_extern Tryz.func142 (by kernel_rfl) (by kernel_rfl) (by kernel_rfl) (e := Extern.AbiNoEscape.same) (by kernel_rfl)]
  rw [Lib.run_noEscape]
  simp only [Result.andThen]
  rw [Oper.upon_value]
  go_wp2
  rw [Lib.run_from_unsafe w ⟨b, 0, none⟩ Tryz.underlying206 Tryz.underlying155 hj hsh blies]
  simp only [Result.andThen]
  rw [Oper.upon_value]
  go_wp2
  go_end0
  exact ⟨rfl, rfl⟩

/-- A builder in use behind the check. -/
def Checked (B b : Nat) (bs : List Value) (w : World) (e : Ending) (w' : World) : Prop :=
  e = .returned (.tuple #[]) ∧ Lib.BuilderAt 157 5 B b (.pointer (some ⟨b, 0, none⟩)) bs w' ∧ Below B w w'

theorem copyCheck_any (B b : Nat) (bs : List Value) (w : World) (h : Lib.IsBuilder 157 5 B b bs w) :
    Calls Tryz.prog 141 #[.pointer (some ⟨b, 0, none⟩)] w (Checked B b bs w) := by
  rcases h with h | h
  · exact (copyCheck_fresh b w h.cell0 h.shape h.frozen0).mono fun e w' ⟨he, hw⟩ => by
      subst hw
      exact ⟨he, h.used _, (Below.refl _ _).setCell h.1 _⟩
  · exact (copyCheck_used b w h.cell0).mono fun e w' ⟨he, hw⟩ => by
      subst hw
      exact ⟨he, h, Below.refl _ _⟩

/-- Behind a write. -/
def Wrote (v : Value) (B b : Nat) (bs : List Value) (w : World) (e : Ending) (w' : World) : Prop :=
  e = .returned v ∧ Lib.IsBuilder 157 5 B b bs w' ∧ Below B w w'

set_option maxHeartbeats 1000000 in
set_option maxRecDepth 100000 in
theorem writeByte_any (B b : Nat) (bs : List Value) (c : Int) (w : World) (h : Lib.IsBuilder 157 5 B b bs w) (hlen : bs.length + 1 ≤ 140737488355328) (hBw : B ≤ w.heap.size) :
    Calls Tryz.prog 139 #[.pointer (some ⟨b, 0, none⟩), .int .u8 c] w (Wrote .nilIface B b (bs ++ [.int .u8 c]) w) := by
  obtain ⟨i0, hi0, hz, hzs, hzb⟩ := info_parts info5
  have HC := Lib.hid (copyCheck_any B b bs w h)
  clear h
  go_enter Tryz.func139, Tryz.ntmps139
  go_wp2_with fail
  refine HC.out.mono ?_
  rintro e w1 ⟨rfl, hb, hB1⟩
  obtain ⟨hBb, v, hblk, hown, hne⟩ := hb
  obtain ⟨va, vn, vc, rfl, rfl⟩ := owns_slice hown
  have c1 : w1.cell? ⟨b, 1, none⟩ = some (.slice va bs.length vc) := by rw [Lib.cell_of_heap hblk]; rfl
  have hsz := hB1.size
  have hlt : b < w1.heap.size := Lib.BuilderAt.lt (p := .pointer (some ⟨b, 0, none⟩)) ⟨hBb, _, hblk, hown, hne⟩
  have HK := Lib.hid hblk
  have HO := Lib.hid (hown.alloc (.cells #[.int .u8 c] 5 (0, 0)))
  have HN := Lib.hid hne
  clear hblk hown hne
  go_wp2_with (at_builtin; refine wpList_append_new _ rfl _ _ 89 rfl B 5 i0 (.int .u8 0) 1 1 Tryz.underlying89 hi0 hz hzs hzb rfl (by decide) _ _ _ rfl HO.out ⟨w1.heap.size, 0, none⟩ 1 1 [.int .u8 c] (by decide) rfl ?c1 ?c2 ?c3 ?c4 ?c5 ?c6 ?_)
  case c1 => rfl
  case c2 => exact cells_one rfl _
  case c3 => simp [Value.oneCell']
  case c4 => unfold maxLen; omega
  case c5 => omega
  case c6 => simp; omega
  intro g cap w2 hown2 hg _
  have hblk2 : w2.heap[b]? = some (.cells #[.pointer (some ⟨b, 0, none⟩), .slice va bs.length vc] 157 (0, 0)) := by
    rw [hg.block b (by simp; omega) (fun e => HN.out e.symm), Below.heap_alloc _ _ _ hlt]; exact HK.out
  obtain ⟨d0, d1, g0, g1⟩ := two_cells hblk2
  have hBB : Below B w w2 := (hB1.alloc (by omega) _).grown hg (by simp; omega) (fun k e => (HO.out.lt k e).1)
  have HF := Lib.hid (Lib.BuilderAt.put (T := 157) hBb hblk2 (by rw [List.length_append]; exact hown2) (by decide))
  have HX := Lib.hid hBB
  clear hown2 hg hblk2 hBB
  go_wp2_with fail
  go_ret
  exact ⟨rfl, .inr HF.out, HX.out.setCell hBb _⟩

set_option maxHeartbeats 1000000 in
set_option maxRecDepth 100000 in
theorem writeString_any (B b : Nat) (bs : List Value) (s : ByteArray) (w : World) (h : Lib.IsBuilder 157 5 B b bs w) (hlen : bs.length + s.size ≤ 140737488355328) (hBw : B ≤ w.heap.size) :
    Calls Tryz.prog 140 #[.pointer (some ⟨b, 0, none⟩), .string s] w (Wrote (.tuple #[.int .i64 s.size, .nilIface]) B b (bs ++ Lib.strCells s) w) := by
  obtain ⟨i0, hi0, hz, hzs, hzb⟩ := info_parts info5
  have HC := Lib.hid (copyCheck_any B b bs w h)
  clear h
  go_enter Tryz.func140, Tryz.ntmps140
  go_wp2_with fail
  refine HC.out.mono ?_
  rintro e w1 ⟨rfl, hb, hB1⟩
  obtain ⟨hBb, v, hblk, hown, hne⟩ := hb
  obtain ⟨va, vn, vc, rfl, rfl⟩ := owns_slice hown
  have c1 : w1.cell? ⟨b, 1, none⟩ = some (.slice va bs.length vc) := by rw [Lib.cell_of_heap hblk]; rfl
  have hsz := hB1.size
  have hlt : b < w1.heap.size := Lib.BuilderAt.lt (p := .pointer (some ⟨b, 0, none⟩)) ⟨hBb, _, hblk, hown, hne⟩
  have HK := Lib.hid hblk
  have HO := Lib.hid hown
  have HN := Lib.hid hne
  clear hblk hown hne
  go_wp2_with (at_builtin; refine Lib.wpList_append_own_string _ rfl _ _ 89 9 rfl B 5 i0 Tryz.underlying89 Tryz.underlying9 hi0 hz hzs hzb _ _ _ rfl HO.out s rfl ?c1 ?c2 ?c3 ?_)
  case c1 => unfold maxLen; omega
  case c2 => omega
  case c3 => omega
  intro v2 w2 hown2 hg _
  obtain ⟨va2, vn2, vc2, rfl, rfl⟩ := owns_slice hown2
  have hblk2 : w2.heap[b]? = some (.cells #[.pointer (some ⟨b, 0, none⟩), .slice va bs.length vc] 157 (0, 0)) := by
    rw [hg.block b hlt (fun e => HN.out e.symm)]; exact HK.out
  obtain ⟨d0, d1, g0, g1⟩ := two_cells hblk2
  have hBB : Below B w w2 := hB1.grown hg (by omega) (fun k e => (HO.out.lt k e).1)
  have HF := Lib.hid (Lib.BuilderAt.put (T := 157) (bs' := bs ++ Lib.strCells s) (v' := .slice va2 (bs.length + s.size) vc2) hBb hblk2 (by rw [List.length_append, Lib.strCells_length]; exact hown2) (by decide))
  have HX := Lib.hid hBB
  clear hown2 hg hblk2 hBB
  go_wp2_with fail
  go_ret2
  exact ⟨rfl, .inr HF.out, HX.out.setCell hBb _⟩

set_option maxHeartbeats 1000000 in
set_option maxRecDepth 100000 in
theorem string_any (B b : Nat) (l : List UInt8) (w : World) (h : Lib.IsBuilder 157 5 B b (Lib.byteCells l) w) (h0 : l ≠ []) :
    Calls Tryz.prog 97 #[.pointer (some ⟨b, 0, none⟩)] w fun e w' => e = .returned (.string ⟨l.toArray⟩) ∧ Below B w w' := by
  obtain ⟨p, hB, v, hbk, hown, hne⟩ : ∃ p, Lib.BuilderAt 157 5 B b p (Lib.byteCells l) w := by
    rcases h with h | h
    · exact ⟨_, h⟩
    · exact ⟨_, h⟩
  have hl0 : l.length ≠ 0 := by simpa using h0
  rw [Lib.byteCells_length] at hown
  obtain ⟨g, cap, cur, rfl, hbg, hg, hnc, hcm, hcs, htake⟩ : ∃ g cap cur, v = .slice (some ⟨g, 0, none⟩) l.length cap ∧ B ≤ g ∧ w.heap[g]? = some (.cells cur 5 (0, 0)) ∧ l.length ≤ cap ∧ cap ≤ maxLen ∧ cur.size = cap * 1 ∧ cur.toList.take (l.length * 1) = Lib.byteCells l := by
    rcases hown.2 with ⟨_, hz⟩ | ⟨g, cap, cur, hv, r⟩
    · exact absurd hz hl0
    · exact ⟨g, cap, cur, hv, r⟩
  have c1 : w.drew.cell? ⟨b, 1, none⟩ = some (.slice (some ⟨g, 0, none⟩) l.length cap) := by
    have : w.drew.heap[b]? = some (.cells #[p, .slice (some ⟨g, 0, none⟩) l.length cap] 157 (0, 0)) := hbk
    rw [Lib.cell_of_heap this]; rfl
  have hSD : (Builtin.unsafeSliceData_ #[89] 176 #[.slice (some ⟨g, 0, none⟩) l.length cap]).run Tryz.prog w.drew = .ok (.pointer (some ⟨g, 0, none⟩)) w.drew :=
    Lib.run_unsafeSliceData_row _ _ _ _ _ _ (by omega)
  have hUS : (Builtin.unsafeString_ #[176, 3] 9 #[.pointer (some ⟨g, 0, none⟩), .int .i64 l.length]).run Tryz.prog w.drew = .ok (.string ⟨l.toArray⟩) (w.drew.freeze ⟨g, 0, none⟩ l.length) := by
    refine Lib.run_unsafeString_row w.drew 176 3 9 5 Tryz.underlying176 (by kernel_rfl) g cur.size (by have hg' : w.drew.heap[g]? = some (.cells cur 5 (0, 0)) := hg; simp [World.shape?, hg']) l h0 (by omega) (by unfold maxLen at hcm; omega) ?_
    intro j x hx
    exact hown.cells (g := g) rfl j (.int .u8 x.toNat) (by simp [Lib.byteCells, hx])
  go_enter Tryz.func97, Tryz.ntmps97
  go_wp2
  go_region
  all_goals (go_wp2; go_ret; exact ⟨rfl, Lib.below_freeze (Below.drew (Below.refl B w)) (p := ⟨g, 0, none⟩) hbg _⟩)

end Go.Proofs.YtoeebipahifpcaaGreat
end
section
/- The program writes a tree. -/
namespace Go.Proofs.YtoeebipahifpcaaGreat
open Go.RowKit

theorem byteCells_append (a b : List UInt8) : Lib.byteCells (a ++ b) = Lib.byteCells a ++ Lib.byteCells b := by simp [Lib.byteCells]
theorem byteCells_one (c : UInt8) : Lib.byteCells [c] = [.int .u8 c.toNat] := rfl
theorem strCells_one (c : UInt8) : Lib.strCells ⟨#[c]⟩ = Lib.byteCells [c] := rfl

theorem RepI.belowB {w w' : World} {B : Nat} {t : T} {ty : TypeId} {a : Addr} (h : RepI w (fun g => g < B) t ty a) (hw : t.wf) (hb : Below B w w') : RepI w' (fun g => g < B) t ty a :=
  h.keep (fun _ _ hq hu => (hb.cell hq).trans hu) (fun _ h _ => h) hw

theorem textL_take {ks : List T} {k : Nat} (h : k < ks.length) : T.textL (ks.take (k + 1)) = T.textL (ks.take k) ++ (32 :: (ks[k]).text) := by
  rw [List.take_succ_eq_append_getElem h, textL_append]; simp [T.textL]

theorem textL_take_le {ks : List T} (k : Nat) : (T.textL (ks.take k)).length ≤ (T.textL ks).length := by
  have h := textL_append (ks.take k) (ks.drop k)
  rw [List.take_append_drop] at h
  rw [h, List.length_append]; omega

theorem leafWrite_any (B b : Nat) (bs : List UInt8) (a : Addr) (w : World) (h : Lib.IsBuilder 157 5 B b (Lib.byteCells bs) w) (hlen : bs.length + 1 ≤ 100000) (hBw : B ≤ w.heap.size) :
    Calls Tryz.prog 144 #[.pointer (some a), .pointer (some ⟨b, 0, none⟩)] w (Wrote (.tuple #[]) B b (Lib.byteCells (bs ++ [42])) w) := by
  have HC := Lib.hid (writeByte_any B b (Lib.byteCells bs) 42 w h (by rw [Lib.byteCells_length]; omega) hBw)
  go_enter Tryz.func144, Tryz.ntmps144
  go_wp2_with fail
  refine HC.out.mono ?_
  rintro e w1 ⟨rfl, hb, hB1⟩
  go_wp2_with fail
  go_end0
  exact ⟨rfl, by rw [byteCells_append]; exact hb, hB1⟩

set_option maxHeartbeats 1000000 in
theorem nodeWrite_any (n : Nat) : ∀ (c : UInt8) (ks : List T) (ty : TypeId) (a : Addr) (w : World) (B b : Nat) (bs : List UInt8), SizeOf.sizeOf ks ≤ n → T.wfL ks → RepI w (fun g => g < B) (.node c ks) ty a →
    Lib.IsBuilder 157 5 B b (Lib.byteCells bs) w → bs.length + (T.node c ks).text.length ≤ 100000 → B ≤ w.heap.size →
    Calls Tryz.prog 138 #[.pointer (some a), .pointer (some ⟨b, 0, none⟩)] w (Wrote (.tuple #[]) B b (Lib.byteCells (bs ++ (T.node c ks).text)) w) := by
  induction n with
  | zero => intro c ks ty a w B b bs h; cases ks <;> simp at h <;> omega
  | succ n ih =>
    intro c ks ty a w B b bs hn hwf hr hbl hlen hBw
    have hlen0 : (T.node c ks).text.length = 3 + (T.textL ks).length := by simp [T.text]; omega
    rw [hlen0] at hlen
    have HR0 := Lib.hid hr
    rw [RepI] at hr
    obtain ⟨_, p, g, cap, rfl, hPb, hPg, h0, h1, h6, hL⟩ := hr
    have HL := Lib.hid hL
    have HW := Lib.hid hwf
    have H0 := Lib.hid h0
    have H1 := Lib.hid h1
    have HC := Lib.hid (writeByte_any B b (Lib.byteCells bs) 40 w hbl (by rw [Lib.byteCells_length]; omega) hBw)
    clear hL hwf h0 h1 hbl hlen0
    go_enter Tryz.func138, Tryz.ntmps138
    go_wp2_with fail
    refine HC.out.mono ?_
    rintro e w1 ⟨rfl, hb1, hB1⟩
    have hz1 := hB1.size
    have c0 : w1.cell? ⟨p, 0, none⟩ = some (.string ⟨#[c]⟩) := (hB1.cell (p := ⟨p, 0, none⟩) hPb).trans H0.out
    have HC1 := Lib.hid (writeString_any B b _ ⟨#[c]⟩ w1 hb1 (by simp [Lib.byteCells_length]; change _ + 1 + 1 ≤ _; omega) (by omega))
    clear hb1
    go_wp2_with fail
    refine HC1.out.mono ?_
    rintro e w2 ⟨rfl, hb2, hB2⟩
    have hz2 := hB2.size
    have c1 : w2.cell? ⟨p, 1, none⟩ = some (.slice (some ⟨g, 0, none⟩) ks.length cap) := (hB2.cell (p := ⟨p, 1, none⟩) hPb).trans ((hB1.cell (p := ⟨p, 1, none⟩) hPb).trans H1.out)
    have hb2' : Lib.IsBuilder 157 5 B b (Lib.byteCells (bs ++ [40, c] ++ T.textL (ks.take 0))) w2 := by
      have e : Lib.byteCells (bs ++ [40, c] ++ T.textL (ks.take 0)) = Lib.byteCells bs ++ [Value.int IntKind.u8 40] ++ Lib.strCells ⟨#[c]⟩ := by
        simp [T.textL, strCells_one, Lib.byteCells]
      rw [e]; exact hb2
    have HB2 := Lib.hid hb2'
    have HB12 := Lib.hid (hB1.trans hB2)
    clear hb2 hb2' c0
    go_wp2_with fail
    go_loopw [19] (fun i wr => ∃ k : Nat, k ≤ ks.length ∧ i = .int .i64 k ∧ Lib.IsBuilder 157 5 B b (Lib.byteCells (bs ++ [40, c] ++ T.textL (ks.take k))) wr ∧ Below B w wr) (fun i _ => ks.length - (intOf i).toNat)
    case atStart => exact ⟨0, Nat.zero_le _, rfl, HB2.out, HB12.out⟩
    case round =>
      obtain ⟨k, hk', rfl, hbr, hBr⟩ := hrel
      have hzr := hBr.size
      have hle := textL_take_le (ks := ks) k
      by_cases hlt' : k < ks.length
      · have hle1 := textL_take_le (ks := ks) (k + 1)
        have HT := Lib.hid (textL_take hlt')
        rw [textL_take hlt', List.length_append, List.length_cons] at hle1
        obtain ⟨ty', a', d1, d2⟩ := HL.out.get k hlt'
        rw [Nat.zero_add] at d1
        have hwk := wfL_get HW.out k hlt'
        have hd : SizeOf.sizeOf ks[k] < SizeOf.sizeOf ks := List.sizeOf_lt_of_mem (List.getElem_mem hlt')
        have e1 : wr.cell? ⟨g, k, none⟩ = some (.iface ty' (.pointer (some a'))) := (hBr.cell (p := ⟨g, k, none⟩) hPg).trans d1
        have HCr := Lib.hid (writeByte_any B b _ 32 wr hbr (by simp [Lib.byteCells_length]; omega) (by omega))
        have HD2 := Lib.hid (d2.belowB hwk hBr)
        clear d1 d2 hbr
        go_wp2_with fail
        refine HCr.out.mono ?_
        rintro e w3 ⟨rfl, hb3, hB3⟩
        have hz3 := hB3.size
        have hb3' : Lib.IsBuilder 157 5 B b (Lib.byteCells (bs ++ [40, c] ++ T.textL (ks.take k) ++ [32])) w3 := by
          rw [byteCells_append _ [32]]; exact hb3
        have HD3 := Lib.hid (HD2.out.belowB hwk hB3)
        have HB3 := Lib.hid hb3'
        clear hb3 hb3'
        cases hkk : ks[k] with
        | leaf =>
          have hty := HD3.out
          rw [hkk, RepI] at hty
          subst hty
          rw [hkk] at HT
          have HK := Lib.hid hkk
          have HCw := Lib.hid (leafWrite_any B b _ a' w3 HB3.out (by simp; omega) (by omega))
          clear hkk hd hwk
          go_wp2_with fail
          refine HCw.out.mono ?_
          rintro e w4 ⟨rfl, hb4, hB4⟩
          have HB4 := Lib.hid hb4
          clear hb4
          go_wp2_with fail
          go_roundw
          case rel =>
            refine ⟨k + 1, by omega, by go_num, ?_, (hBr.trans hB3).trans hB4⟩
            rw [HT.out]
            have := HB4.out
            simp only [List.append_assoc] at this ⊢
            exact this
          case measure => simp [intOf]; omega
        | node c' ks' =>
          rw [hkk] at HT HD3 hd hwk hle1
          have hty : ty' = 105 := by have := HD3.out; rw [RepI] at this; exact this.1
          subst hty
          have HK := Lib.hid hkk
          have HCw := Lib.hid (ih c' ks' _ a' w3 B b _ (by simp only [T.node.sizeOf_spec] at hd; omega) (by rw [T.wf] at hwk; exact hwk.2.2.2.2) HD3.out HB3.out (by simp; omega) (by omega))
          clear hkk hd hwk ih
          go_wp2_with fail
          refine HCw.out.mono ?_
          rintro e w4 ⟨rfl, hb4, hB4⟩
          have HB4 := Lib.hid hb4
          clear hb4
          go_wp2_with fail
          go_roundw
          case rel =>
            refine ⟨k + 1, by omega, by go_num, ?_, (hBr.trans hB3).trans hB4⟩
            rw [HT.out]
            have := HB4.out
            simp only [List.append_assoc] at this ⊢
            exact this
          case measure => simp [intOf]; omega
      · have hkk : k = ks.length := by omega
        subst hkk
        rw [List.take_length] at hbr
        have HCr := Lib.hid (writeByte_any B b _ 41 wr hbr (by simp [Lib.byteCells_length]; omega) (by omega))
        clear hbr
        go_wp2_with fail
        refine HCr.out.mono ?_
        rintro e w3 ⟨rfl, hb3, hB3⟩
        have HB3 := Lib.hid hb3
        clear hb3
        go_wp2_with fail
        go_end0
        refine ⟨rfl, ?_, hBr.trans hB3⟩
        have e : bs ++ (T.node c ks).text = bs ++ [40, c] ++ T.textL ks ++ [41] := by simp [T.text]
        rw [e, byteCells_append _ [41]]
        exact HB3.out

/-- A text is handed back; only memory is made. -/
def Text (l : List UInt8) (w : World) (e : Ending) (w' : World) : Prop := e = .returned (.string ⟨l.toArray⟩) ∧ Below w.heap.size w w'

theorem treeText_any (t : T) (ty : TypeId) (a : Addr) (w : World) (P : Nat → Prop) (hwf : t.wf) (hr : RepI w P t ty a) (hlen : t.text.length ≤ 100000) :
    Calls Tryz.prog 87 #[.iface ty (.pointer (some a))] w (Text t.text w) := by
  have hr2 : RepI w (fun g => g < w.heap.size) t ty a := hr.keep (fun _ _ _ h => h) (fun _ _ h => h) hwf
  have hbd := Lib.fresh_isBuilder 157 5 w
  have hb0 : Below w.heap.size w (w.alloc (.cells #[.pointer none, .slice none 0 0] 157)) := (Below.refl _ _).alloc (Nat.le_refl _) _
  have hr3 := hr2.belowB hwf hb0
  have hb1 : Lib.IsBuilder 157 5 w.heap.size w.heap.size (Lib.byteCells []) (w.alloc (.cells #[.pointer none, .slice none 0 0] 157)) := hbd
  have hne := text_ne t
  cases t with
  | leaf =>
    rw [RepI] at hr
    subst hr
    have HC := Lib.hid (leafWrite_any w.heap.size w.heap.size [] a _ hb1 (by simp) (by simp))
    clear hr2 hr3 hbd hb1
    go_enter Tryz.func87, Tryz.ntmps87
    go_wp2_with fail
    refine HC.out.mono ?_
    rintro e w1 ⟨rfl, hb, hB1⟩
    have HS := Lib.hid (string_any w.heap.size w.heap.size [42] w1 hb (by simp))
    clear hb
    go_wp2_with fail
    refine HS.out.mono ?_
    rintro e w2 ⟨rfl, hB2⟩
    go_wp2_with fail
    go_ret
    exact ⟨rfl, (hb0.trans hB1).trans hB2⟩
  | node c ks =>
    have hty : ty = 105 := by rw [RepI] at hr; exact hr.1
    subst hty
    have HC := Lib.hid (nodeWrite_any _ c ks _ a _ w.heap.size w.heap.size [] (Nat.le_refl _) (by rw [T.wf] at hwf; exact hwf.2.2.2.2) hr3 hb1 (by simpa using hlen) (by simp))
    clear hr hr2 hr3 hbd hb1
    go_enter Tryz.func87, Tryz.ntmps87
    go_wp2_with fail
    refine HC.out.mono ?_
    rintro e w1 ⟨rfl, hb, hB1⟩
    rw [List.nil_append] at hb
    have HS := Lib.hid (string_any w.heap.size w.heap.size (T.node c ks).text w1 hb (by intro e; rw [e] at hne; simp at hne))
    clear hb
    go_wp2_with fail
    refine HS.out.mono ?_
    rintro e w2 ⟨rfl, hB2⟩
    go_wp2_with fail
    go_ret
    exact ⟨rfl, (hb0.trans hB1).trans hB2⟩
end Go.Proofs.YtoeebipahifpcaaGreat
end
