/-
  The texts  of this proof.
-/
import Derived.Test.YtjgggialnegddaaGreatPn29
import Derived.Lib.AppendZeros
set_option linter.unusedVariables false
set_option maxRecDepth 1000000

