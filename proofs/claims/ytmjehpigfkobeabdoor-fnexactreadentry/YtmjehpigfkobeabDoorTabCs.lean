/- The greatest length that is searched byte by byte, out of the card's own shape. -/
import Derived.Test.YtmjehpigfkobeabDoorLawsRe
namespace Go.Proofs.YtmjehpigfkobeabDoor
open Go.RowKit Go.Shelf
theorem tabC {W : World} (h : W.ShapedOpen Tryd.prog) : TabC W := Tryd.laysM145.s1_3 W h
end Go.Proofs.YtmjehpigfkobeabDoor
