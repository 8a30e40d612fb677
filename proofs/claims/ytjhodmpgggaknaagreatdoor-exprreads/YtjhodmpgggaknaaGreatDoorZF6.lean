/- The document's rows, both. -/
import Derived.Test.YtjhodmpgggaknaaGreatDoorZF6A
import Derived.Test.YtjhodmpgggaknaaGreatDoorZF6B
