/- The walk of the law over the coder that landed: the bundle put in. -/
import Derived.Test.YtejgkgnocgplbaaGreatBMost
import Derived.Test.YtejgkgnocgplbaaGreatPart18
namespace Go.Proofs.YtejgkgnocgplbaaGreat

theorem bmostW_any : type_of% (bmost_any blkS spack2_any sopen_any) := bmost_any blkS spack2_any sopen_any

end Go.Proofs.YtejgkgnocgplbaaGreat
