/-
  What the laws of workers share: the picks, an index, what Result tells.
-/
import Derived.Test.YthlhbmldfjkagaaDoorLawQ
import Derived.Test.YthlhbmldfjkagaaDoorCrewD
import Derived.Test.YthlhbmldfjkagaaDoorBegW
import Derived.Test.YthlhbmldfjkagaaDoorWalkT
namespace Go.Proofs.YthlhbmldfjkagaaDoor
open Go.RowKit Go.Shelf

end Go.Proofs.YthlhbmldfjkagaaDoor
