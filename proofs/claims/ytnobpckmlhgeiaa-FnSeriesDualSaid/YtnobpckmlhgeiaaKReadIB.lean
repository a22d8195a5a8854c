/- Merged out of: XReadI, XReadIB. -/
import Derived.Test.YtnobpckmlhgeiaaRepI
section
/- The program's reader: a node's kids, plainly. -/
namespace Go.Proofs.Ytnobpckmlhgeiaa
open Go.RowKit

theorem drop_len_i (s : ByteArray) (j : Nat) : (s.data.toList.drop j).length = s.size - j := by simp

end Go.Proofs.Ytnobpckmlhgeiaa
end
section
/- The program's reader walked: '(*treeReader).node' and '(*treeReader).tree' give what 'rd' gives, counted. -/
namespace Go.Proofs.Ytnobpckmlhgeiaa
open Go.RowKit

end Go.Proofs.Ytnobpckmlhgeiaa
end
