/- No contract of the shelf is wanted here. -/
import Derived.Test.YtejjdfmobiegdaaDoorProg
import Derived.Shelf.LaysM
namespace Go.Proofs.YtejjdfmobiegdaaDoor
end Go.Proofs.YtejjdfmobiegdaaDoor
