/- Writer: Put and Ones. -/
import Derived.Test.YtkdbpjmofghanaaWalk2
namespace Go.Proofs.Ytkdbpjmofghanaa
set_option linter.unusedVariables false
set_option linter.unusedSimpArgs false
open Go.RowKit Dg

theorem bit_and (x : Int) (d : Bool) (hd : d = (x % 2 == 1)) : bits BinOp.and IntKind.u8 (x % 256) 1 = (d.toNat : Int) := by
  rw [u8_and (x % 256) 1 (by omega) (by omega) (by decide) (by decide)]
  have e : (x % 256).toNat &&& (1 : Int).toNat = (x % 256).toNat % 2 := nat_mask1 _
  rw [e, hd]
  by_cases h : x % 2 = 1
  · simp [h]; omega
  · have : x % 2 = 0 := by omega
    simp [this]; omega

end Go.Proofs.Ytkdbpjmofghanaa
