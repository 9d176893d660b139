/- The walk of the law over the disk that landed: the bundle put in. -/
import Derived.Test.YtjmeneddhalodaaDPokes
import Derived.Test.YtjmeneddhalodaaPart09
namespace Go.Proofs.Ytjmeneddhalodaa

theorem dpokesW_any : type_of% (dpokes_any dskW dskRead dskFlush dskPoke) := dpokes_any dskW dskRead dskFlush dskPoke

end Go.Proofs.Ytjmeneddhalodaa
