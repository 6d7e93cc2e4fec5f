/- The range test of the model. -/
import Derived.Test.YtbgmhndmldekbaaDoorProg
import Derived.WalkKit
import Derived.ProofKit
import Derived.Lib.Hide
namespace Go.Proofs.YtbgmhndmldekbaaDoor
open Go.RowKit
end Go.Proofs.YtbgmhndmldekbaaDoor
