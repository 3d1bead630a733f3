import Derived.Test.YtclcgakfmcofaaaGreatDoorMW4
set_option linter.unusedVariables false
set_option maxRecDepth 100000
namespace Go.Proofs.YtclcgakfmcofaaaGreatDoor
open Go.RowKit
theorem way_any (agg bound : Int) (w : World) : Calls Tryz.prog 37 #[.int .i64 agg, .int .i64 bound] w fun e w' => e = .returned (.bool (aJ agg bound)) ∧ w' = w := by
 by_cases h6 : agg = 6
 ·by_cases h1 : 1 ≤ bound
  ·by_cases h2 : bound ≤ 32
   ·rw [show aJ agg bound = true by unfold aJ; rw [if_pos h6]; exact decide_eq_true (by omega)]
    go_enter Tryz.func37, Tryz.ntmps37
    go_wp2
    go_ret
    exact ⟨rfl, rfl⟩
   ·rw [show aJ agg bound = false by unfold aJ; rw [if_pos h6]; exact decide_eq_false (by omega)]
    go_enter Tryz.func37, Tryz.ntmps37
    go_wp2
    go_ret
    exact ⟨rfl, rfl⟩
  ·rw [show aJ agg bound = false by unfold aJ; rw [if_pos h6]; exact decide_eq_false (by omega)]
   go_enter Tryz.func37, Tryz.ntmps37
   go_wp2
   go_ret
   exact ⟨rfl, rfl⟩
 ·by_cases h1 : 1 ≤ agg
  ·by_cases h2 : agg ≤ 5
   ·have h2' : agg < 6 := by omega
    by_cases h3 : bound = 0
    ·rw [show aJ agg bound = true by unfold aJ; rw [if_neg h6]; exact decide_eq_true (by omega)]
     go_enter Tryz.func37, Tryz.ntmps37
     go_wp2
     go_ret
     exact ⟨rfl, rfl⟩
    ·have h3' : (bound == 0) = false := by simpa using h3
     rw [show aJ agg bound = false by unfold aJ; rw [if_neg h6]; exact decide_eq_false (by omega)]
     go_enter Tryz.func37, Tryz.ntmps37
     go_wp2
     go_ret
     exact ⟨rfl, rfl⟩
   ·have h2' : ¬ agg < 6 := by omega
    rw [show aJ agg bound = false by unfold aJ; rw [if_neg h6]; exact decide_eq_false (by omega)]
    go_enter Tryz.func37, Tryz.ntmps37
    go_wp2
    go_ret
    exact ⟨rfl, rfl⟩
  ·rw [show aJ agg bound = false by unfold aJ; rw [if_neg h6]; exact decide_eq_false (by omega)]
   go_enter Tryz.func37, Tryz.ntmps37
   go_wp2
   go_ret
   exact ⟨rfl, rfl⟩
end Go.Proofs.YtclcgakfmcofaaaGreatDoor
