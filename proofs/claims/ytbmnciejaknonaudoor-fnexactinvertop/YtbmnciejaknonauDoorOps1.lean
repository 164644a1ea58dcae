/- The plain mathematics of chapter 3: parts. -/
import Derived.Test.YtbmnciejaknonauDoorTree1
namespace Go.Proofs.YtbmnciejaknonauDoor.Doc1

/-- A part of a change. -/
structure Pt where
  keep : Int
  put : ByteArray
  drop : ByteArray
  deriving DecidableEq
end Go.Proofs.YtbmnciejaknonauDoor.Doc1
