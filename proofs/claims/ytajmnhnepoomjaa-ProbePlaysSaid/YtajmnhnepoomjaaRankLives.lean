/- Small lemmas of worlds behind each other. -/
import Derived.Test.YtajmnhnepoomjaaRankPlain
import Derived.Deep.RegionHeld3
namespace Go.Proofs.Ytajmnhnepoomjaa
open Go.RowKit Go.Shelf Go.Sort

theorem below_drew {X Y : World} {B : Nat} (h : Below B X Y) : Below B X Y.drew := h.trans (below_draws _ 1 _)
theorem below_allocS {X Y : World} (h : Below X.heap.size X Y) (o : Obj) : Below X.heap.size X (Y.alloc o) := h.alloc h.size o
theorem rdS_later {X Y : World} {B : Option Addr} {L : List SpotT} (h : RdS X X.heap.size B L) (hb : Below X.heap.size X Y) : RdS Y Y.heap.size B L := (h.below hb).more hb.size

end Go.Proofs.Ytajmnhnepoomjaa
