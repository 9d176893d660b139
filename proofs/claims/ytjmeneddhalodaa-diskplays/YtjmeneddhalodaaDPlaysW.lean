/- The walk of the law over the disk that landed: the bundle put in. -/
import Derived.Test.YtjmeneddhalodaaPart07
import Derived.Test.YtjmeneddhalodaaPart10
import Derived.Test.YtjmeneddhalodaaPart11
namespace Go.Proofs.Ytjmeneddhalodaa

theorem dplaysW_any : type_of% (dplays_over dskW dskNewNo dskRead dskFlush dskStop dskPoke dskDead dskLen dskCounts dskClone) := dplays_over dskW dskNewNo dskRead dskFlush dskStop dskPoke dskDead dskLen dskCounts dskClone

end Go.Proofs.Ytjmeneddhalodaa
