import Derived.Test.YtjhodmpgggaknaaGreatDoorZB7
import Derived.Test.YtjhodmpgggaknaaGreatDoorZGK
/- Contract of matchers: its walk. -/
namespace Go.Proofs.YtjhodmpgggaknaaGreatDoor
open Go.RowKit Go.Shelf Go.Maps

end Go.Proofs.YtjhodmpgggaknaaGreatDoor
