/- The program writes a tree. -/
import Derived.Test.YtmmfcljkcepahaaBuild
namespace Go.Proofs.Ytmmfcljkcepahaa
open Go.RowKit

theorem byteCells_append (a b : List UInt8) : Lib.byteCells (a ++ b) = Lib.byteCells a ++ Lib.byteCells b := by simp [Lib.byteCells]
theorem byteCells_one (c : UInt8) : Lib.byteCells [c] = [.int .u8 c.toNat] := rfl
theorem strCells_one (c : UInt8) : Lib.strCells ⟨#[c]⟩ = Lib.byteCells [c] := rfl

theorem RepI.belowB {w w' : World} {B : Nat} {t : T} {ty : TypeId} {a : Addr} (h : RepI w (fun g => g < B) t ty a) (hw : t.wf) (hb : Below B w w') : RepI w' (fun g => g < B) t ty a :=
  h.keep (fun _ _ hq hu => (hb.cell hq).trans hu) (fun _ h _ => h) hw

theorem textL_take {ks : List T} {k : Nat} (h : k < ks.length) : T.textL (ks.take (k + 1)) = T.textL (ks.take k) ++ (32 :: (ks[k]).text) := by
  rw [List.take_succ_eq_append_getElem h, textL_append]; simp [T.textL]

theorem textL_take_le {ks : List T} (k : Nat) : (T.textL (ks.take k)).length ≤ (T.textL ks).length := by
  have h := textL_append (ks.take k) (ks.drop k)
  rw [List.take_append_drop] at h
  rw [h, List.length_append]; omega

theorem leafWrite_any (B b : Nat) (bs : List UInt8) (a : Addr) (w : World) (h : Lib.IsBuilder 248 5 B b (Lib.byteCells bs) w) (hlen : bs.length + 1 ≤ 100000) (hBw : B ≤ w.heap.size) :
    Calls Try.prog 253 #[.pointer (some a), .pointer (some ⟨b, 0, none⟩)] w (Wrote (.tuple #[]) B b (Lib.byteCells (bs ++ [42])) w) := by
  have HC := Lib.hid (writeByte_any B b (Lib.byteCells bs) 42 w h (by rw [Lib.byteCells_length]; omega) hBw)
  go_enter Try.func253, Try.ntmps253
  go_wp2_with fail
  refine HC.out.mono ?_
  rintro e w1 ⟨rfl, hb, hB1⟩
  go_wp2_with fail
  go_end0
  exact ⟨rfl, by rw [byteCells_append]; exact hb, hB1⟩

set_option maxHeartbeats 1000000 in
theorem nodeWrite_any (n : Nat) : ∀ (c : UInt8) (ks : List T) (ty : TypeId) (a : Addr) (w : World) (B b : Nat) (bs : List UInt8), SizeOf.sizeOf ks ≤ n → T.wfL ks → RepI w (fun g => g < B) (.node c ks) ty a →
    Lib.IsBuilder 248 5 B b (Lib.byteCells bs) w → bs.length + (T.node c ks).text.length ≤ 100000 → B ≤ w.heap.size →
    Calls Try.prog 246 #[.pointer (some a), .pointer (some ⟨b, 0, none⟩)] w (Wrote (.tuple #[]) B b (Lib.byteCells (bs ++ (T.node c ks).text)) w) := by
  induction n with
  | zero => intro c ks ty a w B b bs h; cases ks <;> simp at h <;> omega
  | succ n ih =>
    intro c ks ty a w B b bs hn hwf hr hbl hlen hBw
    have hlen0 : (T.node c ks).text.length = 3 + (T.textL ks).length := by simp [T.text]; omega
    rw [hlen0] at hlen
    have HR0 := Lib.hid hr
    rw [RepI] at hr
    obtain ⟨_, p, g, cap, rfl, hPb, hPg, h0, h1, h6, hL⟩ := hr
    have HL := Lib.hid hL
    have HW := Lib.hid hwf
    have H0 := Lib.hid h0
    have H1 := Lib.hid h1
    have HC := Lib.hid (writeByte_any B b (Lib.byteCells bs) 40 w hbl (by rw [Lib.byteCells_length]; omega) hBw)
    clear hL hwf h0 h1 hbl hlen0
    go_enter Try.func246, Try.ntmps246
    go_wp2_with fail
    refine HC.out.mono ?_
    rintro e w1 ⟨rfl, hb1, hB1⟩
    have hz1 := hB1.size
    have c0 : w1.cell? ⟨p, 0, none⟩ = some (.string ⟨#[c]⟩) := (hB1.cell (p := ⟨p, 0, none⟩) hPb).trans H0.out
    have HC1 := Lib.hid (writeString_any B b _ ⟨#[c]⟩ w1 hb1 (by simp [Lib.byteCells_length]; change _ + 1 + 1 ≤ _; omega) (by omega))
    clear hb1
    go_wp2_with fail
    refine HC1.out.mono ?_
    rintro e w2 ⟨rfl, hb2, hB2⟩
    have hz2 := hB2.size
    have c1 : w2.cell? ⟨p, 1, none⟩ = some (.slice (some ⟨g, 0, none⟩) ks.length cap) := (hB2.cell (p := ⟨p, 1, none⟩) hPb).trans ((hB1.cell (p := ⟨p, 1, none⟩) hPb).trans H1.out)
    have hb2' : Lib.IsBuilder 248 5 B b (Lib.byteCells (bs ++ [40, c] ++ T.textL (ks.take 0))) w2 := by
      have e : Lib.byteCells (bs ++ [40, c] ++ T.textL (ks.take 0)) = Lib.byteCells bs ++ [Value.int IntKind.u8 40] ++ Lib.strCells ⟨#[c]⟩ := by
        simp [T.textL, strCells_one, Lib.byteCells]
      rw [e]; exact hb2
    have HB2 := Lib.hid hb2'
    have HB12 := Lib.hid (hB1.trans hB2)
    clear hb2 hb2' c0
    go_wp2_with fail
    go_loopw [19] (fun i wr => ∃ k : Nat, k ≤ ks.length ∧ i = .int .i64 k ∧ Lib.IsBuilder 248 5 B b (Lib.byteCells (bs ++ [40, c] ++ T.textL (ks.take k))) wr ∧ Below B w wr) (fun i _ => ks.length - (intOf i).toNat)
    case atStart => exact ⟨0, Nat.zero_le _, rfl, HB2.out, HB12.out⟩
    case round =>
      obtain ⟨k, hk', rfl, hbr, hBr⟩ := hrel
      have hzr := hBr.size
      have hle := textL_take_le (ks := ks) k
      by_cases hlt' : k < ks.length
      · have hle1 := textL_take_le (ks := ks) (k + 1)
        have HT := Lib.hid (textL_take hlt')
        rw [textL_take hlt', List.length_append, List.length_cons] at hle1
        obtain ⟨ty', a', d1, d2⟩ := HL.out.get k hlt'
        rw [Nat.zero_add] at d1
        have hwk := wfL_get HW.out k hlt'
        have hd : SizeOf.sizeOf ks[k] < SizeOf.sizeOf ks := List.sizeOf_lt_of_mem (List.getElem_mem hlt')
        have e1 : wr.cell? ⟨g, k, none⟩ = some (.iface ty' (.pointer (some a'))) := (hBr.cell (p := ⟨g, k, none⟩) hPg).trans d1
        have HCr := Lib.hid (writeByte_any B b _ 32 wr hbr (by simp [Lib.byteCells_length]; omega) (by omega))
        have HD2 := Lib.hid (d2.belowB hwk hBr)
        clear d1 d2 hbr
        go_wp2_with fail
        refine HCr.out.mono ?_
        rintro e w3 ⟨rfl, hb3, hB3⟩
        have hz3 := hB3.size
        have hb3' : Lib.IsBuilder 248 5 B b (Lib.byteCells (bs ++ [40, c] ++ T.textL (ks.take k) ++ [32])) w3 := by
          rw [byteCells_append _ [32]]; exact hb3
        have HD3 := Lib.hid (HD2.out.belowB hwk hB3)
        have HB3 := Lib.hid hb3'
        clear hb3 hb3'
        cases hkk : ks[k] with
        | leaf =>
          have hty := HD3.out
          rw [hkk, RepI] at hty
          subst hty
          rw [hkk] at HT
          have HK := Lib.hid hkk
          have HCw := Lib.hid (leafWrite_any B b _ a' w3 HB3.out (by simp; omega) (by omega))
          clear hkk hd hwk
          go_wp2_with fail
          refine HCw.out.mono ?_
          rintro e w4 ⟨rfl, hb4, hB4⟩
          have HB4 := Lib.hid hb4
          clear hb4
          go_wp2_with fail
          go_roundw
          case rel =>
            refine ⟨k + 1, by omega, by go_num, ?_, (hBr.trans hB3).trans hB4⟩
            rw [HT.out]
            have := HB4.out
            simp only [List.append_assoc] at this ⊢
            exact this
          case measure => simp [intOf]; omega
        | node c' ks' =>
          rw [hkk] at HT HD3 hd hwk hle1
          have hty : ty' = 134 := by have := HD3.out; rw [RepI] at this; exact this.1
          subst hty
          have HK := Lib.hid hkk
          have HCw := Lib.hid (ih c' ks' _ a' w3 B b _ (by simp only [T.node.sizeOf_spec] at hd; omega) (by rw [T.wf] at hwk; exact hwk.2.2.2.2) HD3.out HB3.out (by simp; omega) (by omega))
          clear hkk hd hwk ih
          go_wp2_with fail
          refine HCw.out.mono ?_
          rintro e w4 ⟨rfl, hb4, hB4⟩
          have HB4 := Lib.hid hb4
          clear hb4
          go_wp2_with fail
          go_roundw
          case rel =>
            refine ⟨k + 1, by omega, by go_num, ?_, (hBr.trans hB3).trans hB4⟩
            rw [HT.out]
            have := HB4.out
            simp only [List.append_assoc] at this ⊢
            exact this
          case measure => simp [intOf]; omega
      · have hkk : k = ks.length := by omega
        subst hkk
        rw [List.take_length] at hbr
        have HCr := Lib.hid (writeByte_any B b _ 41 wr hbr (by simp [Lib.byteCells_length]; omega) (by omega))
        clear hbr
        go_wp2_with fail
        refine HCr.out.mono ?_
        rintro e w3 ⟨rfl, hb3, hB3⟩
        have HB3 := Lib.hid hb3
        clear hb3
        go_wp2_with fail
        go_end0
        refine ⟨rfl, ?_, hBr.trans hB3⟩
        have e : bs ++ (T.node c ks).text = bs ++ [40, c] ++ T.textL ks ++ [41] := by simp [T.text]
        rw [e, byteCells_append _ [41]]
        exact HB3.out

/-- A text is handed back; only memory is made. -/
def Text (l : List UInt8) (w : World) (e : Ending) (w' : World) : Prop := e = .returned (.string ⟨l.toArray⟩) ∧ Below w.heap.size w w'

theorem treeText_any (t : T) (ty : TypeId) (a : Addr) (w : World) (P : Nat → Prop) (hwf : t.wf) (hr : RepI w P t ty a) (hlen : t.text.length ≤ 100000) :
    Calls Try.prog 156 #[.iface ty (.pointer (some a))] w (Text t.text w) := by
  have hr2 : RepI w (fun g => g < w.heap.size) t ty a := hr.keep (fun _ _ _ h => h) (fun _ _ h => h) hwf
  have hbd := Lib.fresh_isBuilder 248 5 w
  have hb0 : Below w.heap.size w (w.alloc (.cells #[.pointer none, .slice none 0 0] 248)) := (Below.refl _ _).alloc (Nat.le_refl _) _
  have hr3 := hr2.belowB hwf hb0
  have hb1 : Lib.IsBuilder 248 5 w.heap.size w.heap.size (Lib.byteCells []) (w.alloc (.cells #[.pointer none, .slice none 0 0] 248)) := hbd
  have hne := text_ne t
  cases t with
  | leaf =>
    rw [RepI] at hr
    subst hr
    have HC := Lib.hid (leafWrite_any w.heap.size w.heap.size [] a _ hb1 (by simp) (by simp))
    clear hr2 hr3 hbd hb1
    go_enter Try.func156, Try.ntmps156
    go_wp2_with fail
    refine HC.out.mono ?_
    rintro e w1 ⟨rfl, hb, hB1⟩
    have HS := Lib.hid (string_any w.heap.size w.heap.size [42] w1 hb (by simp))
    clear hb
    go_wp2_with fail
    refine HS.out.mono ?_
    rintro e w2 ⟨rfl, hB2⟩
    go_wp2_with fail
    go_ret
    exact ⟨rfl, (hb0.trans hB1).trans hB2⟩
  | node c ks =>
    have hty : ty = 134 := by rw [RepI] at hr; exact hr.1
    subst hty
    have HC := Lib.hid (nodeWrite_any _ c ks _ a _ w.heap.size w.heap.size [] (Nat.le_refl _) (by rw [T.wf] at hwf; exact hwf.2.2.2.2) hr3 hb1 (by simpa using hlen) (by simp))
    clear hr hr2 hr3 hbd hb1
    go_enter Try.func156, Try.ntmps156
    go_wp2_with fail
    refine HC.out.mono ?_
    rintro e w1 ⟨rfl, hb, hB1⟩
    rw [List.nil_append] at hb
    have HS := Lib.hid (string_any w.heap.size w.heap.size (T.node c ks).text w1 hb (by intro e; rw [e] at hne; simp at hne))
    clear hb
    go_wp2_with fail
    refine HS.out.mono ?_
    rintro e w2 ⟨rfl, hB2⟩
    go_wp2_with fail
    go_ret
    exact ⟨rfl, (hb0.trans hB1).trans hB2⟩
end Go.Proofs.Ytmmfcljkcepahaa
