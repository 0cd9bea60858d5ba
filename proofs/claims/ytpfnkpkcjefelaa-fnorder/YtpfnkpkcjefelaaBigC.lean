/-
  Codes of bytes that came in: paths drawn.
-/
import Derived.Test.YtpfnkpkcjefelaaDrO
import Derived.Test.YtpfnkpkcjefelaaBigK
import Derived.ProofKit
import Derived.OpenShut
import Derived.ShutString
import Derived.ChangeOld
import Derived.Below
namespace Go.Proofs.Ytpfnkpkcjefelaa
open Go.ChangeShapes Go.WideShapes Go.ChangeAt Go.RowKit
set_option linter.unusedSimpArgs false
set_option linter.unusedVariables false

end Go.Proofs.Ytpfnkpkcjefelaa
