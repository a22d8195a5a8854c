/- The promise on mirrored faces. -/
import Derived.Test.YtbbkaephlojalaaLawFace
import Derived.Test.YtbbkaephlojalaaFaceDr
import Derived.Test.YtbbkaephlojalaaFaceInI
import Derived.Test.YtbbkaephlojalaaKPLaws25
namespace Go.Proofs.Ytbbkaephlojalaa
open Go.RowKit

set_option maxRecDepth 100000 in
set_option maxHeartbeats 2000000 in
theorem pFace_any (bs : List Nat) (a : Option Addr) (cap : Nat) (w : World) (hl : LiesB w a bs) (h8 : ∀ z ∈ bs, z ≤ 255) (hn : bs.length ≤ 9223372036854775807) (hcap : bs.length ≤ cap) :
    Calls Try.prog 3 #[.slice a bs.length cap] w (Ans (.bool true) w) := by
  by_cases h : bs.length ≤ 1048576
  · have HD := Lib.hid (dFaceValid_any bs a cap w hn hcap h8 hl)
    clear h8 hl
    go_enter Try.func3, Try.ntmps3
    go_wp2_with fail
    refine HD.out.mono ?_
    rintro e w1 ⟨hB1, s, rfl, hs⟩
    have HB1 := Lib.hid hB1
    clear hB1
    cases hp : faceOf s.data.toList with
    | none =>
      have HI : Hid (∀ w, Calls Try.prog 9 #[.string s] w (Ans (.bool false) w)) := Lib.hid (fun w => by have := iFaceValid_any s w (by omega); rw [hp] at this; exact this)
      have HS : Hid (∀ w, Calls Try.prog 10 #[.string s] w (Ans (.bool false) w)) := Lib.hid (fun w => by have := sFaceValid_any s w (by omega); rw [hp] at this; exact this)
      clear hp
      go_wp2_with fail
      refine (HI.out w1).mono ?_
      rintro e w2 ⟨rfl, hB2⟩
      have HB2 := Lib.hid (below_step HB1.out hB2)
      clear hB2
      go_wp2_with fail
      refine (HS.out w2).mono ?_
      rintro e w3 ⟨rfl, hB3⟩
      have HB3 := Lib.hid (below_step HB2.out hB3)
      clear hB3
      go_wp2_with fail
      go_ret
      exact ⟨rfl, HB3.out⟩
    | some t =>
      have hf := faceOf_some.1 hp
      have hq := hf.1
      obtain ⟨hw, _, hlv, hnd⟩ := parse_some hq
      have hmir := mirror_size t
      obtain ⟨o, ho⟩ : ∃ o : ByteArray, o = ⟨(mirrorOf (parse s.data.toList)).toArray⟩ := ⟨_, rfl⟩
      have hop : parse o.data.toList = some t.mirror := by
        rw [ho, hq]; exact parse_text (mirror_wf _ hw) (by omega) (by omega)
      have hos : o.size ≤ 100000 := by rw [ho, hq]; change t.mirror.text.toArray.size ≤ 100000; simpa using mirror_len hlv hnd
      have hof : faceOf o.data.toList = some t.mirror := faceOf_some.2 ⟨hop, mirror_fc t hf.2.1, by rw [hmir.1]; exact hf.2.2⟩
      obtain ⟨d, hd⟩ : ∃ d : Int, d = t.dim := ⟨_, rfl⟩
      have HI : Hid (∀ w, Calls Try.prog 9 #[.string s] w (Ans (.bool true) w)) := Lib.hid (fun w => by have := iFaceValid_any s w (by omega); rw [hp] at this; exact this)
      have HS : Hid (∀ w, Calls Try.prog 10 #[.string s] w (Ans (.bool true) w)) := Lib.hid (fun w => by have := sFaceValid_any s w (by omega); rw [hp] at this; exact this)
      have HM : Hid (∀ w, Calls Try.prog 11 #[.string s] w (Ans (.tuple #[.string o, .bool true]) w)) := Lib.hid (fun w => by have := iMirror_any s w (by omega); rw [ho]; rw [hq] at this ⊢; exact this)
      have HV : Hid (∀ w, Calls Try.prog 9 #[.string o] w (Ans (.bool true) w)) := Lib.hid (fun w => by have := iFaceValid_any o w (by omega); rw [hof] at this; exact this)
      have HD1 : Hid (∀ w, Calls Try.prog 12 #[.string o] w (Ans (.int .i64 d) w)) := Lib.hid (fun w => by have := iFaceDim_any o w (by omega); rw [hof] at this; rw [hd, ← mirror_dim t]; exact this)
      have HD2 : Hid (∀ w, Calls Try.prog 12 #[.string s] w (Ans (.int .i64 d) w)) := Lib.hid (fun w => by have := iFaceDim_any s w (by omega); rw [hp] at this; rw [hd]; exact this)
      have HIN : Hid (∀ w, Calls Try.prog 13 #[.string s, .string s] w (Ans (.bool true) w)) := Lib.hid (fun w => by have := iFaceIn_any s s w (by omega) (by omega); rw [hp] at this; rw [show faceInB (some t) (some t) = true from (inFB_iff t t).2 (inF_self t)] at this; exact this)
      clear hp hf hq hw hlv hnd hmir ho hop hos hof hd
      go_wp2_with fail
      refine (HI.out w1).mono ?_
      rintro e w2 ⟨rfl, hB2⟩
      have HB2 := Lib.hid (below_step HB1.out hB2)
      clear hB2
      go_wp2_with fail
      refine (HS.out w2).mono ?_
      rintro e w3 ⟨rfl, hB3⟩
      have HB3 := Lib.hid (below_step HB2.out hB3)
      clear hB3
      go_wp2_with fail
      refine (HM.out w3).mono ?_
      rintro e w4 ⟨rfl, hB4⟩
      have HB4 := Lib.hid (below_step HB3.out hB4)
      clear hB4
      go_wp2_with fail
      refine (HV.out w4).mono ?_
      rintro e w5 ⟨rfl, hB5⟩
      have HB5 := Lib.hid (below_step HB4.out hB5)
      clear hB5
      go_wp2_with fail
      refine (HD1.out w5).mono ?_
      rintro e w6 ⟨rfl, hB6⟩
      have HB6 := Lib.hid (below_step HB5.out hB6)
      clear hB6
      go_wp2_with fail
      refine (HD2.out w6).mono ?_
      rintro e w7 ⟨rfl, hB7⟩
      have HB7 := Lib.hid (below_step HB6.out hB7)
      clear hB7
      go_wp2_with fail
      refine (HIN.out w7).mono ?_
      rintro e w8 ⟨rfl, hB8⟩
      have HB8 := Lib.hid (below_step HB7.out hB8)
      clear hB8
      go_wp2_with fail
      go_ret
      exact ⟨rfl, HB8.out⟩
  · go_enter Try.func3, Try.ntmps3
    go_wp2_with fail
    go_ret
    exact ⟨rfl, Below.refl _ _⟩

end Go.Proofs.Ytbbkaephlojalaa
