/- The model's reader at a node: its loop over the kids. -/
import Derived.Test.YtnobpckmlhgeiaaKRead
namespace Go.Proofs.Ytnobpckmlhgeiaa
open Go.RowKit

theorem drop_len (s : ByteArray) (j : Nat) : (s.data.toList.drop j).length = s.size - j := by simp

end Go.Proofs.Ytnobpckmlhgeiaa
