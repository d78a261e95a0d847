/- perm.cycleFrom collects the points of a cycle in new memory. -/
import Derived.Test.YtjnjhfificpbbaaProg
import Derived.Test.YtjnjhfificpbbaaBase
import Derived.Test.YtjnjhfificpbbaaLists
import Derived.Test.YtjnjhfificpbbaaCycL
import Derived.Test.YtjnjhfificpbbaaMul
import Derived.Maps.AppendAt
import Derived.Deep.QuietTactic
import Derived.BigQuiet
namespace Go.Proofs.Ytjnjhfificpbbaa
open Go.RowKit

end Go.Proofs.Ytjnjhfificpbbaa
