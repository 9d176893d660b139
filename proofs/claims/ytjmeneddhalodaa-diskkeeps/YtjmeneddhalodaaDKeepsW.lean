/- The walk of the law over the disk that landed: the bundle put in. -/
import Derived.Test.YtjmeneddhalodaaDKeeps
import Derived.Test.YtjmeneddhalodaaPart09
namespace Go.Proofs.Ytjmeneddhalodaa

theorem dkeepsW_any : type_of% (dkeeps_any dskW dskRead dskFlush) := dkeeps_any dskW dskRead dskFlush

end Go.Proofs.Ytjmeneddhalodaa
