/-
  The statements' own 'rows': of like tables it is true.
-/
import Derived.Test.YtehmdlipacbpfaaGreatRMTables
namespace Go.Proofs.YtehmdlipacbpfaaGreat
open Go.RowKit
set_option linter.unusedVariables false
set_option maxRecDepth 1000000

end Go.Proofs.YtehmdlipacbpfaaGreat
