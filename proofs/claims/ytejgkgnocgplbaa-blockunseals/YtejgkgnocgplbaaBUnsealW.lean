/- The walk of the law over the coder that landed: the bundle put in. -/
import Derived.Test.YtejgkgnocgplbaaBUnseal
import Derived.Test.YtejgkgnocgplbaaPart11
namespace Go.Proofs.Ytejgkgnocgplbaa

theorem bunsealW_any : type_of% (bunseal_any blkS sunseal_any) := bunseal_any blkS sunseal_any

end Go.Proofs.Ytejgkgnocgplbaa
