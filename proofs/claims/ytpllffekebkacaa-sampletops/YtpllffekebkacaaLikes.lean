/-
  The statements' own 'rows': of like tables it is true.
-/
import Derived.Test.YtpllffekebkacaaRMTables
namespace Go.Proofs.Ytpllffekebkacaa
open Go.RowKit
set_option linter.unusedVariables false
set_option maxRecDepth 1000000

end Go.Proofs.Ytpllffekebkacaa
