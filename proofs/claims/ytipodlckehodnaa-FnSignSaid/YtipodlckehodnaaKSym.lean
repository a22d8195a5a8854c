/- Merged out of: XSignI, XSym, XLawSign. -/
import Derived.Test.YtipodlckehodnaaKSignS
import Derived.Maps.OwnSet
import Derived.Test.YtipodlckehodnaaKStrs
import Derived.Deep.SlicePairs
import Derived.OpenShut
section
/- Signatures read by the program, as a map; SignValid and its law. -/
namespace Go.Proofs.Ytipodlckehodnaa
open Go.RowKit Go.Maps
open Go.WideMaps (keyOf_string_mk)

theorem keyStr : Keyed Try.prog 9 := string_keyed Try.underlying9
theorem zeroInt (w : World) : (zeroValue 3).run Try.prog w = .ok (.int .i64 0) w := by kernel_rfl

/-- The key that a letter is. -/
def keyL (s : ByteArray) : Lit := .string s.data.toList
def arL (x : Int) : DataW Unit := .lit (.int .i64 x)

/-- The map that a list of symbols makes. -/
def signD : List (ByteArray × Int) → DataW Unit := fun ys => ys.foldl (fun m y => m.put (keyL y.1) (arL y.2)) (.map [])

theorem signD_nil : signD [] = .map [] := rfl
theorem signD_snoc (ys : List (ByteArray × Int)) (y : ByteArray × Int) : signD (ys ++ [y]) = (signD ys).put (keyL y.1) (arL y.2) := by simp [signD, List.foldl_append]
theorem signD_isMap (ys : List (ByteArray × Int)) : IsMap (signD ys) := by
  have : ∀ (ys : List (ByteArray × Int)) (m : DataW Unit), IsMap m → IsMap (ys.foldl (fun m y => m.put (keyL y.1) (arL y.2)) m) := by
    intro ys
    induction ys with
    | nil => exact fun m h => h
    | cons y ys ih => exact fun m h => ih _ (h.put _ _)
  exact this ys _ isMap_empty

theorem keyL_is (s : ByteArray) : WideAt.IsKeyLit (keyL s) := by simp [keyL, WideAt.IsKeyLit]
theorem keyL_inj {a b : ByteArray} (h : keyL a = keyL b) : a = b := by
  simp only [keyL, Lit.string.injEq] at h
  exact Go.WideShapes.bytes_inj h

theorem has_signD (s : ByteArray) (ys : List (ByteArray × Int)) : ∀ k, k ≤ ys.length → (Maps.has (signD (ys.take k)) (keyL s) = true ↔ ∃ j, ∃ h : j < ys.length, j < k ∧ (ys[j]).1 = s) := by
  intro k
  induction k with
  | zero => intro _; simp [signD, Maps.has]
  | succ k ih =>
    intro hk
    have hk' : k < ys.length := by omega
    rw [List.take_succ_eq_append_getElem hk', signD_snoc]
    by_cases e : (ys[k]).1 = s
    · rw [e, has_put_same (signD_isMap _) (keyL_is _)]
      exact ⟨fun _ => ⟨k, hk', by omega, e⟩, fun _ => rfl⟩
    · rw [has_put_other (fun h => e (keyL_inj h).symm), ih (by omega)]
      constructor
      · rintro ⟨j, h, h1, h2⟩; exact ⟨j, h, by omega, h2⟩
      · rintro ⟨j, h, h1, h2⟩
        have : j ≠ k := fun h3 => by subst h3; exact e h2
        exact ⟨j, h, by omega, h2⟩

/-- What 'readSign' answers. -/
def RsPost (ys : List (ByteArray × Int)) (w : World) (e : Ending) (w' : World) : Prop :=
  Below w.heap.size w w' ∧ ((¬ SignOk ys ∧ e = .returned (.tuple #[.map none, .bool false])) ∨
    (SignOk ys ∧ e = .returned (.tuple #[.map (some w.heap.size), .bool true]) ∧ w'.ownsMap Try.prog 9 (plainElem Try.prog 3) w.heap.size ys.length (signD ys)))

set_option maxRecDepth 100000 in
set_option maxHeartbeats 4000000 in
theorem readSign_any (ys : List (ByteArray × Int)) (n : Nat) (hny : n = ys.length) (g cap : Nat) (w : World) (hn : n ≤ 1048576) (hz : ∀ j (h : j < ys.length), (ys[j]).1.size ≤ 1048576) (har : Arities ys) (hl : SymL w g ys) :
    Calls Try.prog 85 #[.slice (some ⟨g, 0, none⟩) n cap] w (RsPost ys w) := by
  have HL := Lib.hid hl
  have HZ := Lib.hid hz
  have HNN := Lib.hid hny
  have HAR := Lib.hid har
  clear hl hz hny har
  by_cases h6 : n ≤ 6
  · have hmm := @run_makeMap Try.prog
    go_enter Try.func85, Try.ntmps85
    go_wp2_with fail
    go_loopw [15] (fun iv wr => ∃ k : Nat, k ≤ n ∧ iv = .int .i64 k ∧ SignTo ys k ∧ wr.ownsMap Try.prog 9 (plainElem Try.prog 3) w.heap.size k (signD (ys.take k)) ∧ Below w.heap.size w wr) (fun iv _ => n - (intOf iv).toNat)
    case atStart => exact ⟨0, Nat.zero_le _, rfl, SignTo.zero _, World.ownsMap_made _ _ _ _, (Below.refl _ _).alloc (Nat.le_refl _) _⟩
    case round =>
      obtain ⟨k, hk, rfl, hto, hown, hB⟩ := hrel
      have HTO := Lib.hid hto
      have HB := Lib.hid hB
      have HOWN := Lib.hid hown
      clear hto hown
      by_cases hlt : k < n
      · have hlt' : k < ys.length := by rw [← HNN.out]; exact hlt
        obtain ⟨c1, c2⟩ := (HL.out.below hB) k hlt'
        obtain ⟨s, hs⟩ : ∃ s, s = (ys[k]).1 := ⟨_, rfl⟩
        obtain ⟨x, hx⟩ : ∃ x, x = (ys[k]).2 := ⟨_, rfl⟩
        have hsz : s.size ≤ 1048576 := by rw [hs]; exact HZ.out k hlt'
        have hxw : -9223372036854775808 ≤ x ∧ x ≤ 9223372036854775807 := by rw [hx]; exact HAR.out k hlt'
        rw [← hs] at c1
        rw [← hx] at c2
        have HYK : Hid (ys[k] = (s, x)) := Lib.hid (by rw [hs, hx])
        have HNS : Hid (¬ okSym (s, x) → ¬ SignOk ys) := Lib.hid (fun h => not_sign hlt' (by rw [HYK.out]; exact h))
        have hkey : keyOf Try.prog 9 (.string s) = some (keyL s) := keyOf_string_mk Try.underlying9 (by unfold maxLen; omega)
        obtain ⟨D, hD⟩ : ∃ D, D = signD (ys.take k) := ⟨_, rfl⟩
        obtain ⟨kl, hkl⟩ : ∃ kl, kl = keyL s := ⟨_, rfl⟩
        have HD := Lib.hid hD
        have HKL := Lib.hid hkl
        have hown2 := HOWN.out
        rw [← hD] at hown2
        rw [← hkl] at hkey
        have HOWN2 := Lib.hid hown2
        have HKEY := Lib.hid hkey
        have HXW := Lib.hid hxw
        obtain ⟨hb, hhas⟩ : ∃ hb, Maps.has D kl = hb := ⟨_, rfl⟩
        have HHAS := Lib.hid hhas
        have HIFF : Hid (hb = true ↔ ∃ j, ∃ h : j < ys.length, j < k ∧ (ys[j]).1 = s) := Lib.hid (by rw [← hhas, hD, hkl]; exact has_signD s ys k (by omega))
        have HISL := Lib.hid (fun w => isLetter_any s w (by omega))
        obtain ⟨lb, hlb⟩ : ∃ lb, lb = isLet s.data.toList := ⟨_, rfl⟩
        rw [← hlb] at HISL
        have HLB := Lib.hid hlb
        have HBA := Lib.hid (hB.alloc hB.size (.cells #[.string s, .int .i64 x] 126 (0, 0)))
        have hbx := heap_alloc_new wr (.cells #[.string s, .int .i64 x] 126 (0, 0))
        obtain ⟨b1, b2, _, _⟩ := two_cells hbx
        clear hs hx hB hD hkl hown2 hkey hlb hbx hxw
        cases hb
        · cases lb
          · have HF := Lib.hid (HNS.out (fun h => by have := h.1; rw [← HLB.out] at this; cases this))
            go_wp2_with (first
              | (at_lookup; refine wpList_lookup_own_ok_int _ rfl _ _ 117 rfl 9 3 .i64 keyStr Try.underlying117 Try.underlying3 (zeroInt _) w.heap.size k _ rfl (HOWN2.out.alloc _) _ _ rfl HKEY.out ?_; intro c hat hwc; rw [HHAS.out])
              | (go_at_call 117; refine (HISL.out _).mono ?_; rintro e w' ⟨rfl, rfl⟩))
            go_ret2
            exact ⟨HBA.out, .inl ⟨HF.out, rfl⟩⟩
          · by_cases h1 : x < 1
            · have HF := Lib.hid (HNS.out (fun h => by have := h.2.1; omega))
              go_wp2_with (first
                | (at_lookup; refine wpList_lookup_own_ok_int _ rfl _ _ 117 rfl 9 3 .i64 keyStr Try.underlying117 Try.underlying3 (zeroInt _) w.heap.size k _ rfl (HOWN2.out.alloc _) _ _ rfl HKEY.out ?_; intro c hat hwc; rw [HHAS.out])
                | (go_at_call 117; refine (HISL.out _).mono ?_; rintro e w' ⟨rfl, rfl⟩))
              go_ret2
              exact ⟨HBA.out, .inl ⟨HF.out, rfl⟩⟩
            · by_cases h2 : 6 < x
              · have HF := Lib.hid (HNS.out (fun h => by have := h.2.2; omega))
                go_wp2_with (first
                  | (at_lookup; refine wpList_lookup_own_ok_int _ rfl _ _ 117 rfl 9 3 .i64 keyStr Try.underlying117 Try.underlying3 (zeroInt _) w.heap.size k _ rfl (HOWN2.out.alloc _) _ _ rfl HKEY.out ?_; intro c hat hwc; rw [HHAS.out])
                  | (go_at_call 117; refine (HISL.out _).mono ?_; rintro e w' ⟨rfl, rfl⟩))
                go_ret2
                exact ⟨HBA.out, .inl ⟨HF.out, rfl⟩⟩
              · have HTN : Hid (SignTo ys (k + 1)) := Lib.hid (HTO.out.next hlt' (by rw [HYK.out]; exact ⟨HLB.out.symm, by show 1 ≤ x; omega, by show x ≤ 6; omega⟩) (fun j hj he => by
                  have := HIFF.out.2 ⟨j, by omega, hj, by rw [he, HYK.out]⟩
                  cases this))
                have HDN : Hid (signD (ys.take (k + 1)) = D.put kl (arL x)) := Lib.hid (by rw [List.take_succ_eq_append_getElem hlt', signD_snoc, HYK.out, HD.out, HKL.out])
                go_wp2_with (first
                  | (at_lookup; refine wpList_lookup_own_ok_int _ rfl _ _ 117 rfl 9 3 .i64 keyStr Try.underlying117 Try.underlying3 (zeroInt _) w.heap.size k _ rfl (HOWN2.out.alloc _) _ _ rfl HKEY.out ?_; intro c hat hwc; rw [HHAS.out])
                  | (go_at_call 117; refine (HISL.out _).mono ?_; rintro e w' ⟨rfl, rfl⟩)
                  | (at_mapUpdate; refine wpList_mapUpdate_own _ rfl _ _ _ 117 rfl 9 3 keyStr Try.underlying117 _ w.heap.size k _ rfl (HOWN2.out.alloc _) (by unfold maxLen; omega) _ _ _ rfl rfl HKEY.out _ [] (plainElem_int Try.underlying3 (WalkArith.wf_i64 (by omega))) ?_; intro w1 hown1 hgrow1))
                go_roundw
                case rel => exact ⟨k + 1, by omega, by go_num, HTN.out, by rw [HDN.out]; exact hown1, HBA.out.grown hgrow1 HBA.out.size (fun q e => by cases e; exact Nat.le_refl _)⟩
                case measure => simp [intOf]; omega
        · have HF : Hid (¬ SignOk ys) := Lib.hid (fun h => by
            obtain ⟨j, hj, hjk, he⟩ := HIFF.out.1 rfl
            exact (h.2 k hlt' hlt').2 j hjk (by rw [he, HYK.out]))
          go_wp2_with (first
            | (at_lookup; refine wpList_lookup_own_ok_int _ rfl _ _ 117 rfl 9 3 .i64 keyStr Try.underlying117 Try.underlying3 (zeroInt _) w.heap.size k _ rfl (HOWN2.out.alloc _) _ _ rfl HKEY.out ?_; intro c hat hwc; rw [HHAS.out]))
          go_ret2
          exact ⟨HBA.out, .inl ⟨HF.out, rfl⟩⟩
      · have hkn : k = n := by omega
        subst hkn
        have HF : Hid (SignOk ys) := Lib.hid ⟨by have := HNN.out; omega, by rw [← HNN.out]; exact HTO.out⟩
        have HO : Hid (wr.ownsMap Try.prog 9 (plainElem Try.prog 3) w.heap.size ys.length (signD ys)) := Lib.hid (by
          have := HOWN.out
          rw [HNN.out, List.take_length] at this
          exact this)
        go_wp2_with fail
        go_ret2
        exact ⟨HB.out, .inr ⟨HF.out, rfl, HO.out⟩⟩
  · have HF : Hid (¬ SignOk ys) := Lib.hid (fun h => by have := h.1; have := HNN.out; omega)
    go_enter Try.func85, Try.ntmps85
    go_wp2_with fail
    go_ret2
    exact ⟨Below.refl _ _, .inl ⟨HF.out, rfl⟩⟩

set_option maxRecDepth 100000 in
theorem iSignValid_any (ys : List (ByteArray × Int)) (n : Nat) (hny : n = ys.length) (g cap : Nat) (w : World) (hn : n ≤ 1048576) (hz : ∀ j (h : j < ys.length), (ys[j]).1.size ≤ 1048576) (har : Arities ys) (hl : SymL w g ys) :
    Calls Try.prog 47 #[.slice (some ⟨g, 0, none⟩) n cap] w (SvPost ys w) := by
  have HR := Lib.hid (readSign_any ys n hny g cap w hn hz har hl)
  clear hny hz har hl
  go_enter Try.func47, Try.ntmps47
  go_wp2_with fail
  refine HR.out.mono ?_
  rintro e w1 ⟨hB, ⟨hno, rfl⟩ | ⟨hyes, rfl, hown⟩⟩
  · have HN := Lib.hid hno
    clear hno
    go_wp2_with fail
    go_ret
    exact ⟨hB, false, rfl, by simp; exact HN.out⟩
  · have HY := Lib.hid hyes
    clear hyes hown
    go_wp2_with fail
    go_ret
    exact ⟨hB, true, rfl, by simp; exact HY.out⟩
end Go.Proofs.Ytipodlckehodnaa
end
section
/- A list of symbols that comes in: its size told, its copy made, two copies compared. (what the exact laws want besides) -/
namespace Go.Proofs.Ytipodlckehodnaa
open Go.RowKit

end Go.Proofs.Ytipodlckehodnaa
end
section
/- SignValid: the law; the helpers of every law whose first argument is a list of symbols. -/
namespace Go.Proofs.Ytipodlckehodnaa
open Go.RowKit

end Go.Proofs.Ytipodlckehodnaa
end
