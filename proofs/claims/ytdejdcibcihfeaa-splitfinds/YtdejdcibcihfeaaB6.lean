/- Records as pairs of a key and a number. -/
import Derived.Test.YtdejdcibcihfeaaB3
namespace Go.Proofs.Ytdejdcibcihfeaa
set_option linter.unusedVariables false
set_option maxRecDepth 100000

abbrev Rc := Ky × Int
abbrev r0 : Rc := (k0, 0)
def encR (x : Rc) : List Value := [.int .i64 x.1.1, .string x.1.2, .int .i64 x.2]
end Go.Proofs.Ytdejdcibcihfeaa
