/- The walk of NatDivisors. -/
import Derived.Test.YtmbpcjnlniidkaaDoorNatZ5
import Derived.Test.YtmbpcjnlniidkaaDoorNatZ8
namespace Go.Proofs.YtmbpcjnlniidkaaDoor
open Go.ChangeShapes Go.WideShapes Go.RowKit
set_option linter.unusedVariables false

theorem walk_NatDivisors (w : World) (A : Option Addr) (n c : Nat) (xs : List Int) (ha : In w (.slice A n c) xs) (B : Option Addr) (m d : Nat) (ys : List Int) (hb : In w (.slice B m d) ys) (ht : Tab w) :
    Calls Tryd.prog 8 #[.slice A n c, .slice B m d] w fun e w' => e = .returned (.bool true) ∧ Below w.heap.size w w' :=
  divisors_of nat_shortened w A n c xs ha B m d ys hb ht
#print axioms walk_NatDivisors
end Go.Proofs.YtmbpcjnlniidkaaDoor
