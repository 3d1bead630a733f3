/- The law's num, and wakes (stage 5). -/
import Derived.Test.YtllcpdpjfcjopaaDoorFScan
namespace Go.Proofs.YtllcpdpjfcjopaaDoor
open Go.RowKit
set_option linter.unusedVariables false

theorem num5_any (e : Int) (w : World) : Calls Tryd.prog 7 #[.int .i64 e] w fun r w' => r = .returned (.int .i64 e) ∧ w' = w := by
  go_enter Tryd.func7, Tryd.ntmps7
  go_wp2
  go_ret
  exact ⟨rfl, rfl⟩

theorem wakes5_any (w : World) (h : Halves w) : Calls Tryd.prog 14 #[] w fun e w' => e = .returned (.bool true) ∧ Below w.heap.size w w' := by
  have hby := fbytes_ok ⟨#[]⟩ w (by decide) h
  have hsz : (frameOf ⟨#[]⟩).size = 8 := by rw [frame_size]; rfl
  generalize frameOf ⟨#[]⟩ = f at hby hsz
  go_enter Tryd.func14, Tryd.ntmps14
  go_wp2_with fail
  refine hby.mono ?_
  rintro e w1 ⟨rfl, hb1⟩
  go_wp2_with (go_at_call 7; refine (num5_any _ _).mono ?_; rintro e w' ⟨rfl, rfl⟩)
  go_ret
  exact ⟨rfl, hb1⟩
end Go.Proofs.YtllcpdpjfcjopaaDoor
