/- The contract of awake: the chapter's examples. -/
import Derived.Test.YtekjmkihmegnnaaNumC
import Derived.Test.YtekjmkihmegnnaaNumD
import Derived.Test.YtekjmkihmegnnaaNumE
import Derived.Test.YtekjmkihmegnnaaNumH
import Derived.Test.YtekjmkihmegnnaaNumL
namespace Go.Proofs.Ytekjmkihmegnnaa
open Go.ChangeShapes Go.WideShapes Go.RowKit
set_option linter.unusedVariables false

theorem ex1 : rngV 33554432 33554432 (33554432 * 33554432) = 1125899906842624 ∧ rngE 33554432 33554432 (33554432 * 33554432) = 0 := by decide
theorem ex2 : rngE 33554432 33554433 (33554432 * 33554433) = 2 := by decide
theorem ex3 : sumV [1125899906842624, 1125899906842624, -1125899906842624] = 1125899906842624 ∧ sumE [1125899906842624, 1125899906842624, -1125899906842624] = 0 := by decide
theorem ex4 : mdV 7 1 (-2) 0 = -4 ∧ mdE 7 1 (-2) 0 = 0 := by decide
theorem ex5 : mdV 7 1 (-2) 1 = -3 ∧ mdE 7 1 (-2) 1 = 0 := by decide
theorem ex6 : mdV 7 1 (-2) 2 = -4 ∧ mdE 7 1 (-2) 2 = 0 := by decide
theorem ex7 : gcdV (-12) 18 = 6 ∧ gcdE (-12) 18 = 0 := by decide
theorem ex8 : sqrtV 15 = 3 ∧ sqrtE 15 = 0 := by decide +kernel
theorem ex9 : rngE 1125899906842624 1 (1125899906842624 + 1) = 2 := by decide
theorem ex10 : rngE 1125899906842625 0 (1125899906842625 + 0) = 1 := by decide
end Go.Proofs.Ytekjmkihmegnnaa
