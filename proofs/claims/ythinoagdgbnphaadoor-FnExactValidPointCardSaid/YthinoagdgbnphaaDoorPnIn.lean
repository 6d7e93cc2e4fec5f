/- A point that came in: what its cells read as. -/
import Derived.Test.YthinoagdgbnphaaDoorPnD
namespace Go.Proofs.YthinoagdgbnphaaDoor
open Go.RowKit
theorem pn_in {H : Type} {enc : TypeId × Value → H} {W : World} {held : Bool} : Reads enc Tryd.prog W held pnR 25 :=
  reads_pn Tryd.underlying25 (by kernel_rfl) (by kernel_rfl) (reads_int Tryd.underlying2) (reads_int Tryd.underlying2) (reads_list intR Tryd.underlying23 (by kernel_rfl) (reads_int Tryd.underlying2))
end Go.Proofs.YthinoagdgbnphaaDoor
