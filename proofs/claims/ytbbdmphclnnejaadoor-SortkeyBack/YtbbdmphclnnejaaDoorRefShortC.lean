/-
  Contracts of the document's own One and Short: the short bytes of one number and of several.
-/
import Derived.Test.YtbbdmphclnnejaaDoorWordShortC
import Derived.Test.YtbbdmphclnnejaaDoorStrs
import Derived.Deep.RegionWith
namespace Go.Proofs.YtbbdmphclnnejaaDoor
open Go.RowKit

end Go.Proofs.YtbbdmphclnnejaaDoor
