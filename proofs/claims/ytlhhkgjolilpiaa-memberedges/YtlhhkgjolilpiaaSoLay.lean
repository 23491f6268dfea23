/-
  Functions of slices.Sort that are met by contracts of the shelf.
-/
import Derived.Test.YtlhhkgjolilpiaaFrames
import Derived.Shelf.SlSortCmp.Xorshift
import Derived.Shelf.Lay
import Derived.Shelf.SlGeneric
import Derived.Ground.SlsfProg
import Derived.Ground.NamesProg
namespace Go.Proofs
open Go.Shelf
shelf_lay_g SlLaysF0.n48 Slsf 48 at Try 59 as Try.xorNx
shelf_lay_g SlLaysF0.n47 Slsf 47 at Try 58 as Try.npow
shelf_lay Lays.n125 Nm 125 at Try as Try.bitsLen
end Go.Proofs
