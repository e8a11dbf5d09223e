/-
  The program's SceneOk answers as the specification's.
-/
import Derived.Test.YtikjodbboljhjaaDoorScImpl2
import Derived.Test.YtikjodbboljhjaaDoorScK
namespace Go.Proofs.YtikjodbboljhjaaDoor
open Go.RowKit

end Go.Proofs.YtikjodbboljhjaaDoor
