/- The walk of the law over the disk that landed: the bundle put in. -/
import Derived.Test.YtjmeneddhalodaaDFlushes
import Derived.Test.YtjmeneddhalodaaPart09
namespace Go.Proofs.Ytjmeneddhalodaa

theorem dflushesW_any : type_of% (dflushes_any dskW dskRead dskFlush) := dflushes_any dskW dskRead dskFlush

end Go.Proofs.Ytjmeneddhalodaa
