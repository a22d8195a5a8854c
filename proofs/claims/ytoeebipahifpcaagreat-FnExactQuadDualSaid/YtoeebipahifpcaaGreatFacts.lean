/- The program's head line, letter by letter, and what the statements ask of it. -/
import Derived.Test.YtoeebipahifpcaaGreatRows
import Derived.ProofKit
namespace Go.Proofs.YtoeebipahifpcaaGreat
open Go.RowKit

/-- The head line's letters, by number. -/
def headNums : List Nat := [104, 97, 114, 110, 101, 115, 115, 32, 48, 48, 100, 48, 51, 51, 101, 50, 52, 50, 56, 98, 99, 97, 51, 53, 55, 99, 49, 99, 55, 101, 98, 49, 57, 98, 99, 54, 54, 56, 98, 54, 55, 100, 55, 49, 55, 57, 50, 49, 54, 49, 52, 101, 102, 99, 102, 102, 56, 54, 98, 48, 100, 52, 49, 55, 101, 102, 49, 57, 100, 52, 57, 55, 32, 99, 117, 116, 32, 97, 116, 32, 108, 111, 111, 112, 46, 101, 120, 97, 109, 112, 108, 101, 47, 111, 112, 101, 114, 97, 100, 116, 114, 101, 101, 115, 47, 108, 97, 119, 115, 46, 70, 110, 69, 120, 97, 99, 116, 81, 117, 97, 100, 66, 97, 115, 101, 32, 108, 111, 111, 112, 46, 101, 120, 97, 109, 112, 108, 101, 47, 111, 112, 101, 114, 97, 100, 116, 114, 101, 101, 115, 47, 108, 97, 119, 115, 46, 70, 110, 69, 120, 97, 99, 116, 81, 117, 97, 100, 68, 117, 97, 108, 32, 108, 111, 111, 112, 46, 101, 120, 97, 109, 112, 108, 101, 47, 111, 112, 101, 114, 97, 100, 116, 114, 101, 101, 115, 47, 108, 97, 119, 115, 46, 70, 110, 69, 120, 97, 99, 116, 81, 117, 97, 100, 73, 110, 32, 108, 111, 111, 112, 46, 101, 120, 97, 109, 112, 108, 101, 47, 111, 112, 101, 114, 97, 100, 116, 114, 101, 101, 115, 47, 108, 97, 119, 115, 46, 70, 110, 69, 120, 97, 99, 116, 81, 117, 97, 100, 83, 97, 109, 101]

theorem headIs : Tryz.prog.initOrder = String.ofList (headNums.map Char.ofNat) := by kernel_rfl

theorem headSigns : Tryz.prog.initOrder.toList = headNums.map Char.ofNat := by rw [headIs, String.toList_ofList]

theorem make_of {P : Program} {l : List Char} (h : P.initOrder.toList = l) (h1 : (behindMainWord (wordsSigns l)).head? = some "cut".toList) : P.make = some .cut := by
  subst h
  unfold Program.make
  cases hb : behindMainWord (wordsSigns P.initOrder.toList) with
  | nil => rw [hb] at h1; cases h1
  | cons c rest =>
    rw [hb] at h1
    simp only [List.head?_cons, Option.some.injEq] at h1
    subst h1
    rfl

theorem may_of {P : Program} {l : List Char} (h : P.initOrder.toList = l) (h1 : (behindMainWord (wordsSigns l)).head? = some "cut".toList) (h2 : (stripLifts liftWords (behindMainWord (wordsSigns l))).2.head? = some "cut".toList) (h3 : (stripLifts liftWords (behindMainWord (wordsSigns l))).1 = [])
    (h4 : P.laysLater = false) (h5 : P.bearsReflect = false) (h6 : P.doorFits [] = true) : P.mayEnter = true := by
  subst h
  unfold Program.mayEnter
  cases hb : behindMainWord (wordsSigns P.initOrder.toList) with
  | nil => rw [hb] at h1; cases h1
  | cons c rest =>
    rw [hb] at h2 h3
    simp only [h2, h3, h4, h5, h6]
    simp

theorem lifts_of {P : Program} {l : List Char} (h : P.initOrder.toList = l) (h1 : (behindMainWord (wordsSigns l)).head? = some "cut".toList) (h3 : (stripLifts liftWords (behindMainWord (wordsSigns l))).1 = []) : P.liftsFinal = false := by
  subst h
  unfold Program.liftsFinal Program.headLifts
  simp only [h1, h3]
  simp

theorem headCut : (behindMainWord (wordsSigns (headNums.map Char.ofNat))).head? = some "cut".toList := by kernel_rfl
theorem headCut2 : (stripLifts liftWords (behindMainWord (wordsSigns (headNums.map Char.ofNat)))).2.head? = some "cut".toList := by kernel_rfl
theorem headNone : (stripLifts liftWords (behindMainWord (wordsSigns (headNums.map Char.ofNat)))).1 = [] := by kernel_rfl

theorem factMay : Tryz.prog.mayEnter = true := may_of headSigns headCut headCut2 headNone (by kernel_rfl) (by kernel_rfl) (by kernel_rfl)
theorem factLifts : Tryz.prog.liftsFinal = false := lifts_of headSigns headCut headNone
theorem factMake : Tryz.prog.make = some .cut := make_of headSigns headCut
end Go.Proofs.YtoeebipahifpcaaGreat
