/- What a list of texts that came in reads as. -/
import Derived.Test.YtbailpfjgjcbdaaGreatDoorLtIn
namespace Go.Proofs.YtbailpfjgjcbdaaGreatDoor
open Go.RowKit
theorem txts_in {H : Type} {enc : TypeId × Value → H} {W : World} {held : Bool} : Reads enc Tryz.prog W held (listR txtR) 22 := reads_list txtR Tryz.underlying22 (by kernel_rfl) (reads_txt Tryz.underlying9)
end Go.Proofs.YtbailpfjgjcbdaaGreatDoor
