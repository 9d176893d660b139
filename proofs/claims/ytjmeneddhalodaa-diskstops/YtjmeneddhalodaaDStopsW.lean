/- The walk of the law over the disk that landed: the bundle put in. -/
import Derived.Test.YtjmeneddhalodaaDStops
import Derived.Test.YtjmeneddhalodaaPart10
import Derived.Test.YtjmeneddhalodaaPart11
namespace Go.Proofs.Ytjmeneddhalodaa

theorem dstopsW_any : type_of% (dstops_any dskW dskRead dskFlush dskStop dskDead) := dstops_any dskW dskRead dskFlush dskStop dskDead

end Go.Proofs.Ytjmeneddhalodaa
