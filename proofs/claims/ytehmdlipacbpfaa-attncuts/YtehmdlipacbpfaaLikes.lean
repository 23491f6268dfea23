/-
  The statements' own 'rows': of like tables it is true.
-/
import Derived.Test.YtehmdlipacbpfaaRMTables
namespace Go.Proofs.Ytehmdlipacbpfaa
open Go.RowKit
set_option linter.unusedVariables false
set_option maxRecDepth 1000000

end Go.Proofs.Ytehmdlipacbpfaa
