/- The program's head line, letter by letter, and what the statements ask of it. -/
import Derived.Test.YtfjodghnheliaaaRows
import Derived.ProofKit
namespace Go.Proofs.Ytfjodghnheliaaa
open Go.RowKit

/-- The head line's letters, by number. -/
def headNums : List Nat := [104, 97, 114, 110, 101, 115, 115, 32, 100, 55, 97, 99, 56, 48, 97, 49, 57, 97, 98, 57, 99, 57, 56, 54, 56, 52, 99, 51, 56, 97, 99, 53, 48, 54, 98, 49, 53, 97, 102, 51, 100, 49, 50, 52, 56, 55, 50, 99, 50, 53, 101, 102, 101, 48, 55, 102, 51, 53, 56, 54, 98, 55, 97, 55, 97, 57, 50, 57, 52, 56, 48, 97, 32, 99, 117, 116, 32, 97, 116, 32, 108, 111, 111, 112, 46, 101, 120, 97, 109, 112, 108, 101, 47, 111, 112, 101, 114, 97, 100, 116, 114, 101, 101, 115, 47, 108, 97, 119, 115, 46, 70, 110, 73, 110, 32, 108, 111, 111, 112, 46, 101, 120, 97, 109, 112, 108, 101, 47, 111, 112, 101, 114, 97, 100, 116, 114, 101, 101, 115, 47, 108, 97, 119, 115, 46, 70, 110, 65, 108, 108, 32, 108, 111, 111, 112, 46, 101, 120, 97, 109, 112, 108, 101, 47, 111, 112, 101, 114, 97, 100, 116, 114, 101, 101, 115, 47, 108, 97, 119, 115, 46, 70, 110, 70, 114, 101, 101, 32, 108, 111, 111, 112, 46, 101, 120, 97, 109, 112, 108, 101, 47, 111, 112, 101, 114, 97, 100, 116, 114, 101, 101, 115, 47, 108, 97, 119, 115, 46, 70, 110, 80, 117, 116, 32, 108, 111, 111, 112, 46, 101, 120, 97, 109, 112, 108, 101, 47, 111, 112, 101, 114, 97, 100, 116, 114, 101, 101, 115, 47, 108, 97, 119, 115, 46, 70, 110, 80, 108, 97, 99, 101, 115]

theorem headIs : Try.prog.initOrder = String.ofList (headNums.map Char.ofNat) := by kernel_rfl

theorem headSigns : Try.prog.initOrder.toList = headNums.map Char.ofNat := by rw [headIs, String.toList_ofList]

theorem make_of {P : Program} {l : List Char} (h : P.initOrder.toList = l) (h1 : (behindMainWord (wordsSigns l)).head? = some "cut".toList) : P.make = some .cut := by
  subst h
  unfold Program.make
  cases hb : behindMainWord (wordsSigns P.initOrder.toList) with
  | nil => rw [hb] at h1; cases h1
  | cons c rest =>
    rw [hb] at h1
    simp only [List.head?_cons, Option.some.injEq] at h1
    subst h1
    rfl

theorem may_of {P : Program} {l : List Char} (h : P.initOrder.toList = l) (h1 : (behindMainWord (wordsSigns l)).head? = some "cut".toList) (h2 : (stripLifts liftWords (behindMainWord (wordsSigns l))).2.head? = some "cut".toList) (h3 : (stripLifts liftWords (behindMainWord (wordsSigns l))).1 = [])
    (h4 : P.laysLater = false) (h5 : P.bearsReflect = false) (h6 : P.doorFits [] = true) : P.mayEnter = true := by
  subst h
  unfold Program.mayEnter
  cases hb : behindMainWord (wordsSigns P.initOrder.toList) with
  | nil => rw [hb] at h1; cases h1
  | cons c rest =>
    rw [hb] at h2 h3
    simp only [h2, h3, h4, h5, h6]
    simp

theorem lifts_of {P : Program} {l : List Char} (h : P.initOrder.toList = l) (h1 : (behindMainWord (wordsSigns l)).head? = some "cut".toList) (h3 : (stripLifts liftWords (behindMainWord (wordsSigns l))).1 = []) : P.liftsFinal = false := by
  subst h
  unfold Program.liftsFinal Program.headLifts
  simp only [h1, h3]
  simp

theorem headCut : (behindMainWord (wordsSigns (headNums.map Char.ofNat))).head? = some "cut".toList := by kernel_rfl
theorem headCut2 : (stripLifts liftWords (behindMainWord (wordsSigns (headNums.map Char.ofNat)))).2.head? = some "cut".toList := by kernel_rfl
theorem headNone : (stripLifts liftWords (behindMainWord (wordsSigns (headNums.map Char.ofNat)))).1 = [] := by kernel_rfl

theorem factMay : Try.prog.mayEnter = true := may_of headSigns headCut headCut2 headNone (by kernel_rfl) (by kernel_rfl) (by kernel_rfl)
theorem factLifts : Try.prog.liftsFinal = false := lifts_of headSigns headCut headNone
theorem factMake : Try.prog.make = some .cut := make_of headSigns headCut
end Go.Proofs.Ytfjodghnheliaaa
