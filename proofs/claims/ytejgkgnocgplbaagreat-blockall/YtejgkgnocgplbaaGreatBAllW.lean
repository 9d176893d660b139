/- The walk of the law over the coder that landed: the bundle put in. -/
import Derived.Test.YtejgkgnocgplbaaGreatBAll
import Derived.Test.YtejgkgnocgplbaaGreatPart18
namespace Go.Proofs.YtejgkgnocgplbaaGreat

theorem ballW_any : type_of% (ball_any blkS sopen_any countS) := ball_any blkS sopen_any countS

end Go.Proofs.YtejgkgnocgplbaaGreat
