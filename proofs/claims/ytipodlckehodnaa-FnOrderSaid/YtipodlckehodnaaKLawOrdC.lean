/- Merged out of: XLawOrdC, XLawOrd. -/
import Derived.Test.YtipodlckehodnaaOrdS
section
/- TreeOrder by the model, and the law. -/
namespace Go.Proofs.Ytipodlckehodnaa
open Go.RowKit

set_option maxRecDepth 100000 in
set_option maxHeartbeats 2000000 in
theorem sOrder_any (s s2 : ByteArray) (w : World) (hs : s.size ≤ 140737488351232) (hs2 : s2.size ≤ 140737488351232) :
    Calls Try.prog 37 #[.string s, .string s2] w (Ans (orderV (orderOf s.data.toList s2.data.toList)) w) := by
  have HP2 : Hid (∀ w, Calls Try.prog 63 #[.string s2] w (PsPost s2 w)) := Lib.hid (fun w => l1Parse_any s2 w hs2)
  go_enter Try.func37, Try.ntmps37
  go_wp2_with fail
  refine (l1Parse_any s w hs).mono ?_
  rintro e w1 ⟨hB, lb, sa, sn, sc, b, rfl, hres⟩
  have HB := Lib.hid hB
  have HRS := Lib.hid hres
  clear hB hres
  go_wp2_with fail
  refine (HP2.out _).mono ?_
  rintro e w2 ⟨hB2, ub, ua, un, uc, b2, rfl, hres2⟩
  have HB2 := Lib.hid hB2
  have HA1 : Hid (Below w1.heap.size w1 (w1.alloc (.cells #[.string lb, .slice sa sn sc] 88 (0, 0)))) := Lib.hid ((Below.refl _ _).alloc (Nat.le_refl _) _)
  have HA2 : Hid (Below w2.heap.size w2 (w2.alloc (.cells #[.string ub, .slice ua un uc] 88 (0, 0)))) := Lib.hid ((Below.refl _ _).alloc (Nat.le_refl _) _)
  have hlt12 : w1.heap.size < w2.heap.size := by have := hB2.size; simp at this; omega
  have HBB := Lib.hid (below_step (below_step (below_step HB.out HA1.out) hB2) HA2.out)
  have hx0 : w2.heap[w1.heap.size]? = some (.cells #[.string lb, .slice sa sn sc] 88 (0, 0)) := (hB2.block _ (by simp)).trans (heap_alloc_new w1 _)
  obtain ⟨x0, x1, _, _⟩ := two_cells hx0
  have HRS2 := Lib.hid hres2
  clear hB2 hres2 hx0
  rcases HRS.out with ⟨hno, rfl⟩ | ⟨t, hyes, rfl, hrep⟩
  · have HN := Lib.hid (orderOf_no (b := s2.data.toList) hno)
    clear hno
    go_wp2_with fail
    go_ret2
    exact ⟨by rw [HN.out]; rfl, HBB.out⟩
  · rcases HRS2.out with ⟨hno, rfl⟩ | ⟨u, hyes2, rfl, hrep2⟩
    · have HN := Lib.hid (orderOf_no2 (a := s.data.toList) hno)
      clear hno hyes hrep
      go_wp2_with fail
      go_ret2
      exact ⟨by rw [HN.out]; rfl, HBB.out⟩
    · obtain ⟨hw, htx, hl, hn⟩ := parse_some hyes
      obtain ⟨huw, hux, hul, hun⟩ := parse_some hyes2
      clear htx hux
      have HRT := (((((hrep.keep (w' := w1) (P' := fun b => b < w2.heap.size) (fun _ _ _ h => h) (fun b _ h => by omega) hw).below hw HA1.out).below hw HB2.out).below hw HA2.out))
      have HRU := ((hrep2.keep (w' := w2) (P' := fun b => b < w2.heap.size) (fun _ _ _ h => h) (fun b _ h => h) huw).below huw HA2.out)
      have HV := Lib.hid (orderOf_yes hyes hyes2)
      have HO := Lib.hid (l2Order_any t u lb sa sn sc ub ua un uc (w2.alloc (.cells #[.string ub, .slice ua un uc] 88 (0, 0))) (fun b => b < w2.heap.size) hw (Nat.le_trans hl (by omega)) (Nat.le_trans hn (by omega)) huw (Nat.le_trans hul (by omega)) (Nat.le_trans hun (by omega)) (fun b h => by simp; omega) HRT HRU)
      clear hyes hyes2 hrep hrep2 hl hn hul hun hw huw HRT HRU
      go_wp2_with fail
      refine HO.out.mono ?_
      rintro e w3 ⟨rfl, hB3⟩
      have HB3 := Lib.hid hB3
      clear hB3
      go_wp2_with fail
      go_ret2
      exact ⟨by rw [HV.out]; rfl, below_step HBB.out HB3.out⟩

theorem orderV_shape (o : Option Int) : ∃ c b, orderV o = .tuple #[.int .i64 c, .bool b] := by
  cases o with
  | none => exact ⟨_, _, rfl⟩
  | some c => exact ⟨_, _, rfl⟩

end Go.Proofs.Ytipodlckehodnaa
end
section
/- TreeOrder by the model, and the law. (what the exact laws want besides) -/
namespace Go.Proofs.Ytipodlckehodnaa
open Go.RowKit

end Go.Proofs.Ytipodlckehodnaa
end
