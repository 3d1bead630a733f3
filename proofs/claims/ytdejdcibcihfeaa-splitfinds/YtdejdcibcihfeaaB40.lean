/- The law SplitFinds. -/
import Derived.Test.YtdejdcibcihfeaaB39
namespace Go.Proofs.Ytdejdcibcihfeaa
open Go.RowKit
set_option linter.unusedVariables false
set_option maxRecDepth 100000

theorem lawsf (c : Cfg) (vp vl : Value) (l : List Int) (w : World) (h : In12 w c vp vl l) :
    Calls Try.prog 3 #[askV12 c vp vl] w fun e w' => e = .returned (.bool true) ∧ Below w.heap.size w w' := by
  cases hok : cfgB c with
  | false => exact lawsf_bad c vp vl l w h hok
  | true => exact lawsf_ok c vp vl l w h hok
end Go.Proofs.Ytdejdcibcihfeaa
