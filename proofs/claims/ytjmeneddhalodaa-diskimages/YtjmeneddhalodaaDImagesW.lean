/- The walk of the law over the disk that landed: the bundle put in. -/
import Derived.Test.YtjmeneddhalodaaDImages
import Derived.Test.YtjmeneddhalodaaPart10
import Derived.Test.YtjmeneddhalodaaPart11
namespace Go.Proofs.Ytjmeneddhalodaa

theorem dimagesW_any : type_of% (dimages_any dskW dskFrom dskFromNo dskRead dskFlush dskStop dskPoke dskDead dskLen dskCounts) := dimages_any dskW dskFrom dskFromNo dskRead dskFlush dskStop dskPoke dskDead dskLen dskCounts

end Go.Proofs.Ytjmeneddhalodaa
