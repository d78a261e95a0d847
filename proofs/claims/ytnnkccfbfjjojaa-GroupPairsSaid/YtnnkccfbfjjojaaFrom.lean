/- perm.cycleFrom collects the points of a cycle in new memory. -/
import Derived.Test.YtnnkccfbfjjojaaProg
import Derived.Test.YtnnkccfbfjjojaaBase
import Derived.Test.YtnnkccfbfjjojaaLists
import Derived.Test.YtnnkccfbfjjojaaCycL
import Derived.Test.YtnnkccfbfjjojaaMul
import Derived.Maps.AppendAt
import Derived.Deep.QuietTactic
import Derived.BigQuiet
namespace Go.Proofs.Ytnnkccfbfjjojaa
open Go.RowKit

end Go.Proofs.Ytnnkccfbfjjojaa
