/- The walk of the law over the coder that landed: the bundle put in. -/
import Derived.Test.YtejgkgnocgplbaaGreatBSeals
import Derived.Test.YtejgkgnocgplbaaGreatPart18
namespace Go.Proofs.YtejgkgnocgplbaaGreat

theorem bsealsW_any : type_of% (bseals_any blkS sunseal_any sopen_any countS) := bseals_any blkS sunseal_any sopen_any countS

end Go.Proofs.YtejgkgnocgplbaaGreat
