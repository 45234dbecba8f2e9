
/- Nothing: for a seat without the sorts (where it has them, lay.sh lays KsLay4 out of KsLay4Src in its place). -/
import Derived.Test.YtkiaafpggjojiaaDoorKsSort
namespace Go.Proofs.YtkiaafpggjojiaaDoor
end Go.Proofs.YtkiaafpggjojiaaDoor
