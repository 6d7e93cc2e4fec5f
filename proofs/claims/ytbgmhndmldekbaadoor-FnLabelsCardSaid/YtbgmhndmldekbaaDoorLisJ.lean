/- The text of a list of numbers: mapEach at decimal forms, joinNumbers. -/
import Derived.Test.YtbgmhndmldekbaaDoorLisI
namespace Go.Proofs
open Go.Shelf
end Go.Proofs
namespace Go.Proofs.YtbgmhndmldekbaaDoor
open Go.RowKit Go.Lib
theorem strs_data (ps : List (List UInt8)) : (ps.map fun l => (⟨l.toArray⟩ : ByteArray)).map (·.data.toList) = ps := by
  rw [List.map_map]
  exact (List.map_congr_left fun x _ => rfl).trans (List.map_id _)
theorem info_str2 : (Tryd.prog.info? 9).map (fun i => (i.zero, i.size, i.bytes)) = some (some (.string ByteArray.empty), 1, 16) := info_str
def OwnS (w' : World) (g n : Nat) (xs : List Int) : Prop := w'.ownsRow g 9 1 (.slice (some ⟨g, 0, none⟩) n n) n (strs (xs.map itoa))
end Go.Proofs.YtbgmhndmldekbaaDoor
