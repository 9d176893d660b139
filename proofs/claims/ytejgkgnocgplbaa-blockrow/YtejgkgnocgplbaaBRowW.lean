/- The walk of the law over the coder that landed: the bundle put in. -/
import Derived.Test.YtejgkgnocgplbaaBRow
import Derived.Test.YtejgkgnocgplbaaPart11
namespace Go.Proofs.Ytejgkgnocgplbaa

theorem browW_any : type_of% (brow_any blkS spack2_any) := brow_any blkS spack2_any

end Go.Proofs.Ytejgkgnocgplbaa
