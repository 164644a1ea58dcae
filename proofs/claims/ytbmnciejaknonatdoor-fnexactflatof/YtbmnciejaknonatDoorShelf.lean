/- The library's contracts at this dump: each one application of a theorem of the kit's library. -/
import Derived.Shelf.Lay
import Derived.Shelf.LaySoft
import Derived.Test.YtbmnciejaknonatDoorProg
namespace Go.Proofs
open Go.Shelf

end Go.Proofs
