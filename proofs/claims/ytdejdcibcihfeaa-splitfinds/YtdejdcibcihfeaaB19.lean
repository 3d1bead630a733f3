/- The page's own Bytes: what it answers, for every number. -/
import Derived.Test.YtdejdcibcihfeaaB18
namespace Go.Proofs.Ytdejdcibcihfeaa
open Go.RowKit
set_option linter.unusedVariables false
set_option maxRecDepth 100000
end Go.Proofs.Ytdejdcibcihfeaa
