/- The program's head line, letter by letter, and what the statements ask of it. -/
import Derived.Test.YtipodlckehodnaaRows
import Derived.ProofKit
namespace Go.Proofs.Ytipodlckehodnaa
open Go.RowKit

/-- The head line's letters, by number. -/
def headNums : List Nat := [104, 97, 114, 110, 101, 115, 115, 32, 101, 53, 49, 98, 101, 51, 102, 101, 56, 57, 97, 54, 98, 97, 99, 49, 50, 49, 48, 55, 55, 100, 51, 102, 98, 101, 49, 56, 51, 56, 53, 52, 98, 50, 54, 102, 98, 48, 49, 53, 51, 48, 57, 102, 49, 100, 48, 98, 52, 98, 54, 55, 53, 57, 97, 56, 98, 51, 57, 53, 55, 53, 50, 100, 32, 99, 117, 116, 32, 97, 116, 32, 108, 111, 111, 112, 46, 101, 120, 97, 109, 112, 108, 101, 47, 111, 112, 101, 114, 97, 100, 116, 114, 101, 101, 115, 47, 108, 97, 119, 115, 46, 70, 110, 83, 117, 109, 32, 108, 111, 111, 112, 46, 101, 120, 97, 109, 112, 108, 101, 47, 111, 112, 101, 114, 97, 100, 116, 114, 101, 101, 115, 47, 108, 97, 119, 115, 46, 70, 110, 83, 117, 109, 79, 102, 32, 108, 111, 111, 112, 46, 101, 120, 97, 109, 112, 108, 101, 47, 111, 112, 101, 114, 97, 100, 116, 114, 101, 101, 115, 47, 108, 97, 119, 115, 46, 70, 110, 65, 100, 100, 32, 108, 111, 111, 112, 46, 101, 120, 97, 109, 112, 108, 101, 47, 111, 112, 101, 114, 97, 100, 116, 114, 101, 101, 115, 47, 108, 97, 119, 115, 46, 70, 110, 83, 99, 97, 108, 101, 32, 108, 111, 111, 112, 46, 101, 120, 97, 109, 112, 108, 101, 47, 111, 112, 101, 114, 97, 100, 116, 114, 101, 101, 115, 47, 108, 97, 119, 115, 46, 70, 110, 67, 111, 101, 102, 32, 108, 111, 111, 112, 46, 101, 120, 97, 109, 112, 108, 101, 47, 111, 112, 101, 114, 97, 100, 116, 114, 101, 101, 115, 47, 108, 97, 119, 115, 46, 70, 110, 76, 101, 97, 100, 32, 108, 111, 111, 112, 46, 101, 120, 97, 109, 112, 108, 101, 47, 111, 112, 101, 114, 97, 100, 116, 114, 101, 101, 115, 47, 108, 97, 119, 115, 46, 70, 110, 83, 117, 109, 77, 105, 114, 114, 111, 114, 32, 108, 111, 111, 112, 46, 101, 120, 97, 109, 112, 108, 101, 47, 111, 112, 101, 114, 97, 100, 116, 114, 101, 101, 115, 47, 108, 97, 119, 115, 46, 70, 110, 79, 114, 100, 101, 114, 32, 108, 111, 111, 112, 46, 101, 120, 97, 109, 112, 108, 101, 47, 111, 112, 101, 114, 97, 100, 116, 114, 101, 101, 115, 47, 108, 97, 119, 115, 46, 70, 110, 79, 118, 101, 114, 32, 108, 111, 111, 112, 46, 101, 120, 97, 109, 112, 108, 101, 47, 111, 112, 101, 114, 97, 100, 116, 114, 101, 101, 115, 47, 108, 97, 119, 115, 46, 70, 110, 83, 105, 103, 110]

theorem headIs : Try.prog.initOrder = String.ofList (headNums.map Char.ofNat) := by kernel_rfl

theorem headSigns : Try.prog.initOrder.toList = headNums.map Char.ofNat := by rw [headIs, String.toList_ofList]

theorem make_of {P : Program} {l : List Char} (h : P.initOrder.toList = l) (h1 : (behindMainWord (wordsSigns l)).head? = some "cut".toList) : P.make = some .cut := by
  subst h
  unfold Program.make
  cases hb : behindMainWord (wordsSigns P.initOrder.toList) with
  | nil => rw [hb] at h1; cases h1
  | cons c rest =>
    rw [hb] at h1
    simp only [List.head?_cons, Option.some.injEq] at h1
    subst h1
    rfl

theorem may_of {P : Program} {l : List Char} (h : P.initOrder.toList = l) (h1 : (behindMainWord (wordsSigns l)).head? = some "cut".toList) (h2 : (stripLifts liftWords (behindMainWord (wordsSigns l))).2.head? = some "cut".toList) (h3 : (stripLifts liftWords (behindMainWord (wordsSigns l))).1 = [])
    (h4 : P.laysLater = false) (h5 : P.bearsReflect = false) (h6 : P.doorFits [] = true) : P.mayEnter = true := by
  subst h
  unfold Program.mayEnter
  cases hb : behindMainWord (wordsSigns P.initOrder.toList) with
  | nil => rw [hb] at h1; cases h1
  | cons c rest =>
    rw [hb] at h2 h3
    simp only [h2, h3, h4, h5, h6]
    simp

theorem lifts_of {P : Program} {l : List Char} (h : P.initOrder.toList = l) (h1 : (behindMainWord (wordsSigns l)).head? = some "cut".toList) (h3 : (stripLifts liftWords (behindMainWord (wordsSigns l))).1 = []) : P.liftsFinal = false := by
  subst h
  unfold Program.liftsFinal Program.headLifts
  simp only [h1, h3]
  simp

theorem headCut : (behindMainWord (wordsSigns (headNums.map Char.ofNat))).head? = some "cut".toList := by kernel_rfl
theorem headCut2 : (stripLifts liftWords (behindMainWord (wordsSigns (headNums.map Char.ofNat)))).2.head? = some "cut".toList := by kernel_rfl
theorem headNone : (stripLifts liftWords (behindMainWord (wordsSigns (headNums.map Char.ofNat)))).1 = [] := by kernel_rfl

theorem factMay : Try.prog.mayEnter = true := may_of headSigns headCut headCut2 headNone (by kernel_rfl) (by kernel_rfl) (by kernel_rfl)
theorem factLifts : Try.prog.liftsFinal = false := lifts_of headSigns headCut headNone
theorem factMake : Try.prog.make = some .cut := make_of headSigns headCut
end Go.Proofs.Ytipodlckehodnaa
