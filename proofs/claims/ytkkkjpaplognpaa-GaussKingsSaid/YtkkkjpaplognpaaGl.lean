/- What GaussKings and GaussLines ask of all pairs of squares, counted out. -/
import Derived.Test.YtkkkjpaplognpaaGk
namespace Go.Proofs.Ytkkkjpaplognpaa
set_option linter.unusedVariables false
open Go Go.RowKit

def lineB (s t : Int) : Bool := decide (s ≠ t) && (decide (t % 8 - s % 8 = 0) || decide (t / 8 - s / 8 = 0) || decide (t % 8 - s % 8 = t / 8 - s / 8) || decide (t % 8 - s % 8 = -(t / 8 - s / 8)))
/-- The squares that these steps lead to. -/
def goals (s : Int) (ps : List (Int × Int)) : List Nat := ps.filterMap fun p => jmpI s p.1 p.2
def kingB (s t : Nat) : Bool :=
  ((goals s queenI).contains t == decide (distI (s : Int) (t : Int) = 1)) && ((goals s knightI).contains t == (decide (distI (s : Int) (t : Int) = 2) && !(alignI (s : Int) (t : Int)).isSome))
def linesB (s t : Nat) : Bool :=
  ((alignI (s : Int) (t : Int)).isSome == lineB s t) &&
  (match alignI (s : Int) (t : Int) with
   | none => true
   | some p =>
     let R := ray s p.1 p.2
     let n := (distI (s : Int) (t : Int)).toNat
     decide (alignI (t : Int) (s : Int) = some (-p.1, -p.2)) && decide (n ≤ R.length) && decide (0 < n) && decide (R.getD (n - 1) 0 = t) &&
     decide (betI (s : Int) (t : Int) = ints (R.take (n - 1))) && decide (betI (t : Int) (s : Int) = ints (R.take (n - 1)).reverse))
theorem kings_all : ((List.range 64).all fun s => (List.range 64).all fun t => kingB s t) = true := by decide +kernel
theorem lines_all : ((List.range 64).all fun s => (List.range 64).all fun t => linesB s t) = true := by decide +kernel
end Go.Proofs.Ytkkkjpaplognpaa
