/- The program's head line, letter by letter, and what the statements ask of it. -/
import Derived.Test.YtfflgjidapclkaaRows
import Derived.ProofKit
namespace Go.Proofs.Ytfflgjidapclkaa
open Go.RowKit

/-- The head line's letters, by number. -/
def headNums : List Nat := [104, 97, 114, 110, 101, 115, 115, 32, 50, 48, 52, 57, 54, 48, 99, 99, 53, 49, 102, 56, 49, 51, 98, 98, 48, 53, 49, 50, 97, 56, 99, 56, 57, 48, 102, 49, 49, 53, 101, 97, 50, 98, 101, 101, 56, 52, 101, 54, 51, 49, 97, 97, 98, 102, 56, 50, 51, 48, 53, 49, 101, 55, 53, 100, 50, 48, 57, 53, 48, 101, 48, 50, 32, 99, 117, 116, 32, 97, 116, 32, 108, 111, 111, 112, 46, 101, 120, 97, 109, 112, 108, 101, 47, 111, 112, 101, 114, 97, 100, 116, 114, 101, 101, 115, 47, 108, 97, 119, 115, 46, 70, 110, 71, 114, 97, 102, 116, 32, 108, 111, 111, 112, 46, 101, 120, 97, 109, 112, 108, 101, 47, 111, 112, 101, 114, 97, 100, 116, 114, 101, 101, 115, 47, 108, 97, 119, 115, 46, 70, 110, 73, 110, 110, 101, 114, 32, 108, 111, 111, 112, 46, 101, 120, 97, 109, 112, 108, 101, 47, 111, 112, 101, 114, 97, 100, 116, 114, 101, 101, 115, 47, 108, 97, 119, 115, 46, 70, 110, 66, 101, 115, 105, 100, 101, 32, 108, 111, 111, 112, 46, 101, 120, 97, 109, 112, 108, 101, 47, 111, 112, 101, 114, 97, 100, 116, 114, 101, 101, 115, 47, 108, 97, 119, 115, 46, 70, 110, 87, 104, 111, 108, 101, 32, 108, 111, 111, 112, 46, 101, 120, 97, 109, 112, 108, 101, 47, 111, 112, 101, 114, 97, 100, 116, 114, 101, 101, 115, 47, 108, 97, 119, 115, 46, 70, 110, 67, 117, 116]

theorem headIs : Try.prog.initOrder = String.ofList (headNums.map Char.ofNat) := by kernel_rfl

theorem headSigns : Try.prog.initOrder.toList = headNums.map Char.ofNat := by rw [headIs, String.toList_ofList]

theorem make_of {P : Program} {l : List Char} (h : P.initOrder.toList = l) (h1 : (behindMainWord (wordsSigns l)).head? = some "cut".toList) : P.make = some .cut := by
  subst h
  unfold Program.make
  cases hb : behindMainWord (wordsSigns P.initOrder.toList) with
  | nil => rw [hb] at h1; cases h1
  | cons c rest =>
    rw [hb] at h1
    simp only [List.head?_cons, Option.some.injEq] at h1
    subst h1
    rfl

theorem may_of {P : Program} {l : List Char} (h : P.initOrder.toList = l) (h1 : (behindMainWord (wordsSigns l)).head? = some "cut".toList) (h2 : (stripLifts liftWords (behindMainWord (wordsSigns l))).2.head? = some "cut".toList) (h3 : (stripLifts liftWords (behindMainWord (wordsSigns l))).1 = [])
    (h4 : P.laysLater = false) (h5 : P.bearsReflect = false) (h6 : P.doorFits [] = true) : P.mayEnter = true := by
  subst h
  unfold Program.mayEnter
  cases hb : behindMainWord (wordsSigns P.initOrder.toList) with
  | nil => rw [hb] at h1; cases h1
  | cons c rest =>
    rw [hb] at h2 h3
    simp only [h2, h3, h4, h5, h6]
    simp

theorem lifts_of {P : Program} {l : List Char} (h : P.initOrder.toList = l) (h1 : (behindMainWord (wordsSigns l)).head? = some "cut".toList) (h3 : (stripLifts liftWords (behindMainWord (wordsSigns l))).1 = []) : P.liftsFinal = false := by
  subst h
  unfold Program.liftsFinal Program.headLifts
  simp only [h1, h3]
  simp

theorem headCut : (behindMainWord (wordsSigns (headNums.map Char.ofNat))).head? = some "cut".toList := by kernel_rfl
theorem headCut2 : (stripLifts liftWords (behindMainWord (wordsSigns (headNums.map Char.ofNat)))).2.head? = some "cut".toList := by kernel_rfl
theorem headNone : (stripLifts liftWords (behindMainWord (wordsSigns (headNums.map Char.ofNat)))).1 = [] := by kernel_rfl

theorem factMay : Try.prog.mayEnter = true := may_of headSigns headCut headCut2 headNone (by kernel_rfl) (by kernel_rfl) (by kernel_rfl)
theorem factLifts : Try.prog.liftsFinal = false := lifts_of headSigns headCut headNone
theorem factMake : Try.prog.make = some .cut := make_of headSigns headCut
end Go.Proofs.Ytfflgjidapclkaa
