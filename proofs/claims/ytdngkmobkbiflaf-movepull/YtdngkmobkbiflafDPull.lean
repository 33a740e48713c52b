/-
  The program's pull: what the law's walk asks of it.
-/
import Derived.Test.YtdngkmobkbiflafPullLaw
import Derived.Test.YtdngkmobkbiflafDPl
namespace Go.Proofs.Ytdngkmobkbiflaf
open Go Go.RowKit

theorem pull_ok : PullOK := fun d w => pull_any d w
end Go.Proofs.Ytdngkmobkbiflaf
