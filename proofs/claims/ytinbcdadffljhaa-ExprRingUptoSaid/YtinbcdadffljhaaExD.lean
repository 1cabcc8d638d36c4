/-
  Contracts of the program's Eval, Names, Put and Fold, together.
-/
import Derived.Test.YtinbcdadffljhaaExDn
import Derived.Test.YtinbcdadffljhaaExDp2
import Derived.Test.YtinbcdadffljhaaExP
import Derived.Test.YtinbcdadffljhaaExF
import Derived.Test.YtinbcdadffljhaaExS
