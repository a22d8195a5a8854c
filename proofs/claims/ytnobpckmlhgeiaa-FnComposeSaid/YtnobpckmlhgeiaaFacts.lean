/- The program's head line, letter by letter, and what the statements ask of it. -/
import Derived.Test.YtnobpckmlhgeiaaRows
import Derived.ProofKit
namespace Go.Proofs.Ytnobpckmlhgeiaa
open Go.RowKit

/-- The head line's letters, by number. -/
def headNums : List Nat := [104, 97, 114, 110, 101, 115, 115, 32, 52, 51, 102, 55, 100, 50, 99, 54, 102, 100, 55, 52, 49, 52, 100, 54, 54, 54, 51, 51, 55, 102, 51, 49, 48, 55, 98, 97, 53, 56, 97, 49, 49, 49, 54, 52, 50, 49, 55, 98, 50, 54, 57, 100, 49, 52, 57, 53, 98, 99, 56, 52, 54, 97, 51, 53, 50, 102, 52, 99, 101, 98, 57, 54, 32, 99, 117, 116, 32, 97, 116, 32, 108, 111, 111, 112, 46, 101, 120, 97, 109, 112, 108, 101, 47, 111, 112, 101, 114, 97, 100, 116, 114, 101, 101, 115, 47, 108, 97, 119, 115, 46, 70, 110, 69, 120, 97, 99, 116, 83, 101, 114, 105, 101, 115, 86, 97, 108, 105, 100, 32, 108, 111, 111, 112, 46, 101, 120, 97, 109, 112, 108, 101, 47, 111, 112, 101, 114, 97, 100, 116, 114, 101, 101, 115, 47, 108, 97, 119, 115, 46, 70, 110, 69, 120, 97, 99, 116, 83, 101, 114, 105, 101, 115, 84, 105, 109, 101, 115, 32, 108, 111, 111, 112, 46, 101, 120, 97, 109, 112, 108, 101, 47, 111, 112, 101, 114, 97, 100, 116, 114, 101, 101, 115, 47, 108, 97, 119, 115, 46, 70, 110, 69, 120, 97, 99, 116, 83, 101, 114, 105, 101, 115, 84, 117, 114, 110, 32, 108, 111, 111, 112, 46, 101, 120, 97, 109, 112, 108, 101, 47, 111, 112, 101, 114, 97, 100, 116, 114, 101, 101, 115, 47, 108, 97, 119, 115, 46, 70, 110, 69, 120, 97, 99, 116, 83, 101, 114, 105, 101, 115, 67, 111, 109, 112, 111, 115, 101, 32, 108, 111, 111, 112, 46, 101, 120, 97, 109, 112, 108, 101, 47, 111, 112, 101, 114, 97, 100, 116, 114, 101, 101, 115, 47, 108, 97, 119, 115, 46, 70, 110, 69, 120, 97, 99, 116, 83, 101, 114, 105, 101, 115, 73, 110, 118, 101, 114, 115, 101, 32, 108, 111, 111, 112, 46, 101, 120, 97, 109, 112, 108, 101, 47, 111, 112, 101, 114, 97, 100, 116, 114, 101, 101, 115, 47, 108, 97, 119, 115, 46, 70, 110, 69, 120, 97, 99, 116, 83, 101, 114, 105, 101, 115, 68, 117, 97, 108, 32, 108, 111, 111, 112, 46, 101, 120, 97, 109, 112, 108, 101, 47, 111, 112, 101, 114, 97, 100, 116, 114, 101, 101, 115, 47, 108, 97, 119, 115, 46, 70, 110, 83, 101, 114, 105, 101, 115, 84, 105, 109, 101, 115, 32, 108, 111, 111, 112, 46, 101, 120, 97, 109, 112, 108, 101, 47, 111, 112, 101, 114, 97, 100, 116, 114, 101, 101, 115, 47, 108, 97, 119, 115, 46, 70, 110, 83, 101, 114, 105, 101, 115, 68, 117, 97, 108, 32, 108, 111, 111, 112, 46, 101, 120, 97, 109, 112, 108, 101, 47, 111, 112, 101, 114, 97, 100, 116, 114, 101, 101, 115, 47, 108, 97, 119, 115, 46, 70, 110, 84, 117, 114, 110, 32, 108, 111, 111, 112, 46, 101, 120, 97, 109, 112, 108, 101, 47, 111, 112, 101, 114, 97, 100, 116, 114, 101, 101, 115, 47, 108, 97, 119, 115, 46, 70, 110, 83, 101, 114, 105, 101, 115, 32, 108, 111, 111, 112, 46, 101, 120, 97, 109, 112, 108, 101, 47, 111, 112, 101, 114, 97, 100, 116, 114, 101, 101, 115, 47, 108, 97, 119, 115, 46, 70, 110, 73, 110, 118, 101, 114, 115, 101, 32, 108, 111, 111, 112, 46, 101, 120, 97, 109, 112, 108, 101, 47, 111, 112, 101, 114, 97, 100, 116, 114, 101, 101, 115, 47, 108, 97, 119, 115, 46, 70, 110, 67, 111, 109, 112, 111, 115, 101]

theorem headIs : Try.prog.initOrder = String.ofList (headNums.map Char.ofNat) := by kernel_rfl

theorem headSigns : Try.prog.initOrder.toList = headNums.map Char.ofNat := by rw [headIs, String.toList_ofList]

theorem make_of {P : Program} {l : List Char} (h : P.initOrder.toList = l) (h1 : (behindMainWord (wordsSigns l)).head? = some "cut".toList) : P.make = some .cut := by
  subst h
  unfold Program.make
  cases hb : behindMainWord (wordsSigns P.initOrder.toList) with
  | nil => rw [hb] at h1; cases h1
  | cons c rest =>
    rw [hb] at h1
    simp only [List.head?_cons, Option.some.injEq] at h1
    subst h1
    rfl

theorem may_of {P : Program} {l : List Char} (h : P.initOrder.toList = l) (h1 : (behindMainWord (wordsSigns l)).head? = some "cut".toList) (h2 : (stripLifts liftWords (behindMainWord (wordsSigns l))).2.head? = some "cut".toList) (h3 : (stripLifts liftWords (behindMainWord (wordsSigns l))).1 = [])
    (h4 : P.laysLater = false) (h5 : P.bearsReflect = false) (h6 : P.doorFits [] = true) : P.mayEnter = true := by
  subst h
  unfold Program.mayEnter
  cases hb : behindMainWord (wordsSigns P.initOrder.toList) with
  | nil => rw [hb] at h1; cases h1
  | cons c rest =>
    rw [hb] at h2 h3
    simp only [h2, h3, h4, h5, h6]
    simp

theorem lifts_of {P : Program} {l : List Char} (h : P.initOrder.toList = l) (h1 : (behindMainWord (wordsSigns l)).head? = some "cut".toList) (h3 : (stripLifts liftWords (behindMainWord (wordsSigns l))).1 = []) : P.liftsFinal = false := by
  subst h
  unfold Program.liftsFinal Program.headLifts
  simp only [h1, h3]
  simp

theorem headCut : (behindMainWord (wordsSigns (headNums.map Char.ofNat))).head? = some "cut".toList := by kernel_rfl
theorem headCut2 : (stripLifts liftWords (behindMainWord (wordsSigns (headNums.map Char.ofNat)))).2.head? = some "cut".toList := by kernel_rfl
theorem headNone : (stripLifts liftWords (behindMainWord (wordsSigns (headNums.map Char.ofNat)))).1 = [] := by kernel_rfl

theorem factMay : Try.prog.mayEnter = true := may_of headSigns headCut headCut2 headNone (by kernel_rfl) (by kernel_rfl) (by kernel_rfl)
theorem factLifts : Try.prog.liftsFinal = false := lifts_of headSigns headCut headNone
theorem factMake : Try.prog.make = some .cut := make_of headSigns headCut
end Go.Proofs.Ytnobpckmlhgeiaa
