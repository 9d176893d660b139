/- The walk of the law over the coder that landed: the bundle put in. -/
import Derived.Test.YtejgkgnocgplbabGreatBBurst
import Derived.Test.YtejgkgnocgplbabGreatPart13
namespace Go.Proofs.YtejgkgnocgplbabGreat

theorem bburstW_any : type_of% (bburst_any blkS spack2_any sopen_any sunseal_any) := bburst_any blkS spack2_any sopen_any sunseal_any

end Go.Proofs.YtejgkgnocgplbabGreat
