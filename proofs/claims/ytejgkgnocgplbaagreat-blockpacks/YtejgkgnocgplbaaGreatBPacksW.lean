/- The walk of the law over the coder that landed: the bundle put in. -/
import Derived.Test.YtejgkgnocgplbaaGreatPart19
import Derived.Test.YtejgkgnocgplbaaGreatPart18
namespace Go.Proofs.YtejgkgnocgplbaaGreat

theorem bpacksW_any : type_of% (bpacks_any blkS spack2_any) := bpacks_any blkS spack2_any

end Go.Proofs.YtejgkgnocgplbaaGreat
