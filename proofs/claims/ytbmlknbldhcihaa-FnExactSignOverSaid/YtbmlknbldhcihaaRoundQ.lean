/- A region of a loop's body whose order is drawn, and which only reads: one walk in the order of the text serves (in a round of a range over a function, too). -/
import Derived.Test.YtbmlknbldhcihaaVisit
import Derived.Sort.QuietIn
namespace Go.Proofs.Ytbmlknbldhcihaa
open Go

section
variable {F : Fence} {n : Nat} {P : Program} {ops : Array Oper} {md : Region.Mode} {C : World → Prop}

def notDefer (o : Oper) : Bool := match o.op with | .defer _ => false | _ => true

theorem notDefer_spec {o : Oper} (h : notDefer o = true) (c) : o.op ≠ .defer c := fun e => by simp [notDefer, e] at h

theorem round_one {o : Oper} {a : Act} {K : Act → Prop} {K' : Act → World → Prop} {Q' : Exit → Act → World → Prop} {w : World} (hnd : notDefer o = true) (hw : C w) (h : ∀ a w', C w' → K a → K' a w')
    (ha : o.askedIn F P a C) (hh : o.quietIn F n P a C K) : o.wpIn F n P a w K' Q' := by
  obtain ⟨v, hv, hn⟩ := hh
  have hat := hv w hw
  unfold Oper.quietAtIn at hat
  unfold Oper.wpIn
  refine ⟨ha w hw, ?_⟩
  rw [Oper.semAt_plain F _ _ (notDefer_spec hnd)]
  cases hr : (execOp a.eval o).run P w with
  | halt x w' => rw [hr] at hat; exact hat.elim
  | ok x w' =>
    rw [hr] at hat
    cases x with
    | value u => obtain ⟨rfl, rfl⟩ := hat; simp only [Oper.uponIn]; exact h _ _ hw hn
    | skip => obtain ⟨rfl, rfl⟩ := hat; simp only [Oper.uponIn]; exact h _ _ hw hn
    | enter f args =>
      obtain ⟨rfl, hd, hc⟩ := hat
      simp only [Oper.uponIn]
      refine ⟨hd, hc.mono ?_⟩
      rintro e w'' ⟨rfl, hw''⟩
      exact h _ _ hw'' hn
    | _ => exact hat.elim

theorem round_at {i : Nat} {a : Act} {K : Act → Prop} {K' : Act → World → Prop} {Q' : Exit → Act → World → Prop} {w : World} (hnd : ∀ (j : Nat) (o : Oper), ops[j]? = some o → notDefer o = true) (hC : C w) (h : ∀ a w', C w' → K a → K' a w')
    (hh : qOpIn F n P ops C i K a) : wpOpIn F n P ops Q' i K' a w := by
  unfold qOpIn at hh
  unfold wpOpIn
  cases ho : ops[i]? with
  | none => simp only [ho] at hh ⊢; exact h _ _ hC hh
  | some o =>
    simp only [ho] at hh ⊢
    obtain ⟨ha, hh⟩ := hh
    by_cases hw : Region.wanted o (yielded ops a.tmps) = true
    · simp only [hw, if_true] at hh ⊢
      exact round_one (hnd i o ho) hC h ha hh
    · simp only [hw] at hh ⊢
      exact ⟨ha w hC, h _ _ hC hh⟩

theorem round_all {Q : Act → Prop} {Q' : Exit → Act → World → Prop} (hnd : ∀ (j : Nat) (o : Oper), ops[j]? = some o → notDefer o = true) (hQ : ∀ a w, C w → Q a → Q' .normal a w) : ∀ (fuel : Nat) (listed : Array Bool) (a : Act) (w : World), C w →
    wpAnyQIn F n P md ops C Q fuel listed a → wpAnyIn F n P md ops Q' fuel listed a w
  | 0, _, _, _, hw, h => ⟨h.1, hQ _ _ hw h.2⟩
  | fuel + 1, _, _, _, hw, h => ⟨fun h0 => hQ _ _ hw (h.1 h0), fun i hi => round_at hnd hw (fun a' w' hw' => round_all hnd hQ fuel _ a' w' hw') (h.2 i hi)⟩

theorem round_region {id : Nat} {Q : Exit → Act → World → Prop} {a : Act} {w : World} {l : List Oper} (hnd : l.all notDefer = true) (hm : P.follows .mixedOrders = true) (hB : Region.lexB .any l.toArray = true)
    (h : wpQuietIn F n P l.toArray (fun w' => ∃ n, w' = w.drewN n) (fun a' => ∀ w', (∃ n, w' = w.drewN n) → Q .normal a' w') l a) : (Code.region id l.toArray true).wpIn F n P Q a w := by
  have hnd' : ∀ (j : Nat) (o : Oper), l.toArray[j]? = some o → notDefer o = true := fun j o ho => by
    rw [List.all_eq_true] at hnd
    refine hnd o ?_
    rw [List.getElem?_toArray] at ho
    exact List.mem_of_getElem? ho
  simp only [Region.lexB, Bool.and_eq_true] at hB
  refine wpIn_region_any hm (round_all (Q := fun a' => ∀ w', (∃ n, w' = w.drewN n) → Q .normal a' w') (C := fun w' => ∃ n, w' = w.drewN n) hnd' (fun _ w' hw' hq => hq w' hw') _ _ _ _ ⟨1, rfl⟩ ?_)
  have := wpAnyQIn_lex (F := F) (n := n) (P := P) (C := fun w' => ∃ n, w' = w.drewN n) (md := .any) hB.1 l 0 (Array.replicate l.toArray.size false) a (by simp) (by simpa using hB.2) h
  simpa using this
end
end Go.Proofs.Ytbmlknbldhcihaa
