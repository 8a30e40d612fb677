import Derived.Test.YtjhodmpgggaknaaGreatDoorZB5
import Derived.Test.YtjhodmpgggaknaaGreatDoorZGI
/- Contract of matcher. -/
namespace Go.Proofs.YtjhodmpgggaknaaGreatDoor
open Go.RowKit Go.Shelf Go.Maps

theorem RdAt.drew {F : Nat → Prop} {w0 w : World} {b : Nat} {ts : List Tk} {ns : List Nd} {fl : Bool} (h : RdAt F w0 w b ts ns fl) : RdAt F w0 w.drew b ts ns fl := h.below (below_drew (Below.refl _ _))
theorem RdTo.drew {F G : Nat → Prop} {w0 w w2 : World} {b : Nat} {ts : List Tk} {ns : List Nd} {fl : Bool} (h : RdTo F G w0 w.drew w2 b ts ns fl) : RdTo F G w0 w w2 b ts ns fl := h.after (below_drew (Below.refl _ _))
end Go.Proofs.YtjhodmpgggaknaaGreatDoor
