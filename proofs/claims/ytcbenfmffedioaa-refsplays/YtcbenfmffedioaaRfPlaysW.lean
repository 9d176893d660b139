/- The walk of the law over the table that landed: the bundle put in. -/
import Derived.Test.YtcbenfmffedioaaRfPlays
import Derived.Test.YtcbenfmffedioaaPart03
namespace Go.Proofs.Ytcbenfmffedioaa

theorem rfplaysW_any : type_of% (rfplays_over rfsW tnew_no rfOfW rfOwnedW rfCloneW) := rfplays_over rfsW tnew_no rfOfW rfOwnedW rfCloneW

end Go.Proofs.Ytcbenfmffedioaa
