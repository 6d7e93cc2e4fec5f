/- Definitions that came in: what their cells read as. -/
import Derived.Test.YthinoagdgbnphaaDoorDatIn
namespace Go.Proofs.YthinoagdgbnphaaDoor
open Go.RowKit
theorem dfs_in {H : Type} {enc : TypeId × Value → H} {W : World} {held : Bool} : Reads enc Tryd.prog W held (listR dfR) 22 := by
  have tm : Reads enc Tryd.prog W held tmR 118 := reads_tm Tryd.underlying118 (by kernel_rfl) (by kernel_rfl) (reads_int Tryd.underlying2) (reads_int Tryd.underlying2)
  have tms : Reads enc Tryd.prog W held (listR tmR) 109 := reads_list tmR Tryd.underlying109 (by kernel_rfl) tm
  have tmss : Reads enc Tryd.prog W held (listR (listR tmR)) 76 := reads_list (listR tmR) Tryd.underlying76 (by kernel_rfl) tms
  have tx : Reads enc Tryd.prog W held txtR 9 := reads_txt Tryd.underlying9
  have pt : Reads enc Tryd.prog W held ptR 78 := reads_pt Tryd.underlying78 (by kernel_rfl) (by kernel_rfl) (reads_int Tryd.underlying2) (reads_int Tryd.underlying2) tx tmss
  have pts : Reads enc Tryd.prog W held (listR ptR) 37 := reads_list ptR Tryd.underlying37 (by kernel_rfl) pt
  have df : Reads enc Tryd.prog W held dfR 39 := reads_df Tryd.underlying39 (by kernel_rfl) (by kernel_rfl) tx (reads_int Tryd.underlying2) pts
  exact reads_list dfR Tryd.underlying22 (by kernel_rfl) df
end Go.Proofs.YthinoagdgbnphaaDoor
