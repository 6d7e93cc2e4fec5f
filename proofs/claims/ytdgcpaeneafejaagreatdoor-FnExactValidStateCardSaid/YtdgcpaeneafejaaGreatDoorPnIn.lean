/- A point that came in: what its cells read as. -/
import Derived.Test.YtdgcpaeneafejaaGreatDoorSfLow
namespace Go.Proofs.YtdgcpaeneafejaaGreatDoor
open Go.RowKit
theorem pn_in {H : Type} {enc : TypeId × Value → H} {W : World} {held : Bool} : Reads enc Tryz.prog W held pnR 104 :=
  reads_pn Tryz.underlying104 (by kernel_rfl) (by kernel_rfl) (reads_int Tryz.underlying2) (reads_int Tryz.underlying2) (reads_list intR Tryz.underlying39 (by kernel_rfl) (reads_int Tryz.underlying2))
theorem pns_in {H : Type} {enc : TypeId × Value → H} {W : World} {held : Bool} : Reads enc Tryz.prog W held (listR pnR) 55 :=
  reads_list pnR Tryz.underlying55 (by kernel_rfl) pn_in
end Go.Proofs.YtdgcpaeneafejaaGreatDoor
