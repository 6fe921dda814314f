/- What the walks of this seat stand on. -/
import Derived.Test.YtkcbgppplgkkbaaGreatOwn
import Derived.Test.YtkcbgppplgkkbaaGreatChecked
import Derived.WalkSpells
import Derived.WalkLawsBesides
import Derived.Outline
import Derived.Lib.Hide
namespace Go.Proofs.YtkcbgppplgkkbaaGreat
open Go.RowKit
theorem infoU8 : (Tryz.prog.info? 5).map (fun i => (i.zero, i.size, i.bytes)) = some (some (.int .u8 0), 1, 1) := by kernel_rfl
end Go.Proofs.YtkcbgppplgkkbaaGreat
