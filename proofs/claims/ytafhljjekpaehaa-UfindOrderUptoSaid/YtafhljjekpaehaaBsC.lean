/-
  Contracts of bitset.And, Or, Less over bitset.merge, for every two slices of words.
-/
import Derived.Test.YtafhljjekpaehaaBsA
namespace Go.Proofs.Ytafhljjekpaehaa
open Go.RowKit
set_option maxRecDepth 100000

end Go.Proofs.Ytafhljjekpaehaa
