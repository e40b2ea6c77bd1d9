/- The contracts of Stamp, Unstamp, isRep, isStamp, and of the conditions on values. -/
import Derived.Test.YtpgafijeecmgmaaAtoms
namespace Go.Proofs.Ytpgafijeecmgmaa
open Go.RowKit

theorem or8 (a b : Int) (h0 : 0 ≤ a) (h1 : a < 4294967296) (h2 : 0 ≤ b) (h3 : b < 256) : bits .or .u64 (a * 256) b = a * 256 + b := or_up a b 8 h0 (by omega) h2 h3 (by omega)
end Go.Proofs.Ytpgafijeecmgmaa
