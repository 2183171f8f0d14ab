/-
  Layer 3's own answer, all of it.
-/
import Derived.Test.YtiofekpnjckpiaaRefRank
import Derived.Test.YtiofekpnjckpiaaRefSel
import Derived.Test.YtiofekpnjckpiaaRefBSize
