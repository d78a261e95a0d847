/- perm.cycleFrom collects the points of a cycle in new memory. -/
import Derived.Test.YtdcilefiacohnaaProg
import Derived.Test.YtdcilefiacohnaaBase
import Derived.Test.YtdcilefiacohnaaLists
import Derived.Test.YtdcilefiacohnaaCycL
import Derived.Test.YtdcilefiacohnaaMul
import Derived.Maps.AppendAt
import Derived.Deep.QuietTactic
import Derived.BigQuiet
namespace Go.Proofs.Ytdcilefiacohnaa
open Go.RowKit

end Go.Proofs.Ytdcilefiacohnaa
