import Derived.Test.YtclcgakfmcofaaaGreatDoorMW4
import Derived.Test.YtclcgakfmcofaaaGreatDoorMW1
set_option linter.unusedVariables false
set_option maxRecDepth 100000
set_option maxHeartbeats 400000
namespace Go.Proofs.YtclcgakfmcofaaaGreatDoor
open Go.RowKit
theorem conv_sum (a b : Int) : wrap64 (IntKind.u64.wrap (IntKind.u64.wrap a + IntKind.u64.wrap b)) = sumF a b := by
 rw [IntKind.wrap_u64, IntKind.wrap_u64, IntKind.wrap_u64]
 unfold sumF wrap64
 omega
theorem num_sum (a b : Int) : bw (sumF a b) := by unfold bw sumF wrap64; omega
theorem num_or (a b : Int) : bw (orF a b) := by
 show bw (IntKind.i64.wrap ((BitVec.ofInt 64 a ||| BitVec.ofInt 64 b).toNat : Int))
 rw [IntKind.wrap_i64]
 unfold bw
 omega
theorem num_nF {agg a b : Int} (ha : bw a) (hb : bw b) (h2 : nP agg a) (h3 : nP agg b) : bw (nF agg a b) := by
 unfold nF
 by_cases e1 : agg = 1
 ·rw [if_pos e1]; exact num_sum a b
 rw [if_neg e1]
 by_cases e2 : agg = 2
 ·rw [if_pos e2]
  have := cnt_P a b (h2 e2) (h3 e2)
  unfold bw
  omega
 rw [if_neg e2]
 unfold bw at *
 by_cases e3 : agg = 3
 ·rw [if_pos e3]; omega
 rw [if_neg e3]
 by_cases e4 : agg = 4
 ·rw [if_pos e4]; omega
 rw [if_neg e4]
 exact num_or a b
theorem lO (agg a b : Int) (w : World) (h1 : 1 ≤ agg) (h5 : agg ≤ 5) (ha : bw a) (hb : bw b) (pa : nP agg a) (pb : nP agg b) :
  Calls Tryz.prog 199 #[.int .i64 agg, .int .i64 a, .int .i64 b] w fun e w' => e = .returned (.int .i64 (nF agg a b)) ∧ w' = w := by
 have hk : agg = 1 ∨ agg = 2 ∨ agg = 3 ∨ agg = 4 ∨ agg = 5 := by omega
 rcases hk with rfl | rfl | rfl | rfl | rfl
 ·have H := ae (conv_sum a b)
  show Calls _ _ _ _ fun e w' => e = .returned (.int .i64 (sumF a b)) ∧ w' = w
  clear pa pb h1 h5 ha hb
  go_enter Tryz.func199, Tryz.ntmps199
  go_wp2
  go_ret
  exact ⟨bH H.out, rfl⟩
 ·obtain ⟨a0, a1⟩ := pa rfl
  obtain ⟨b0, b1⟩ := pb rfl
  show Calls _ _ _ _ fun e w' => e = .returned (.int .i64 (kr a b)) ∧ w' = w
  have ea : IntKind.u64.wrap a = a := by rw [IntKind.wrap_u64]; omega
  have eb : IntKind.u64.wrap b = b := by rw [IntKind.wrap_u64]; omega
  have es : IntKind.u64.wrap (a + b) = a + b := by rw [IntKind.wrap_u64]; omega
  by_cases hle : a + b ≤ 4611686018427387904
  ·have H := ae (show a + b = kr a b by unfold kr; rw [if_neg (by omega)])
   generalize kr a b = c at *
   go_enter Tryz.func199, Tryz.ntmps199
   go_wp2
   go_ret
   exact ⟨bH H.out, rfl⟩
  ·have hlt : 4611686018427387904 < a + b := by omega
   have H := ae (show 4611686018427387904 = kr a b by unfold kr; rw [if_pos (by omega)])
   generalize kr a b = c at *
   go_enter Tryz.func199, Tryz.ntmps199
   go_wp2
   go_ret
   exact ⟨bH H.out, rfl⟩
 ·show Calls _ _ _ _ fun e w' => e = .returned (.int .i64 (min a b)) ∧ w' = w
  clear pa pb h1 h5 ha hb
  by_cases hle : a ≤ b
  ·have H := ae (show a = min a b by omega)
   generalize min a b = c at *
   go_enter Tryz.func199, Tryz.ntmps199
   go_wp2
   go_ret
   exact ⟨bH H.out, rfl⟩
  ·have hlt : b < a := by omega
   have H := ae (show b = min a b by omega)
   generalize min a b = c at *
   go_enter Tryz.func199, Tryz.ntmps199
   go_wp2
   go_ret
   exact ⟨bH H.out, rfl⟩
 ·show Calls _ _ _ _ fun e w' => e = .returned (.int .i64 (max a b)) ∧ w' = w
  clear pa pb h1 h5 ha hb
  by_cases hle : a < b
  ·have H := ae (show b = max a b by omega)
   generalize max a b = c at *
   go_enter Tryz.func199, Tryz.ntmps199
   go_wp2
   go_ret
   exact ⟨bH H.out, rfl⟩
  ·have hlt : b ≤ a := by omega
   have H := ae (show a = max a b by omega)
   generalize max a b = c at *
   go_enter Tryz.func199, Tryz.ntmps199
   go_wp2
   go_ret
   exact ⟨bH H.out, rfl⟩
 ·clear pa pb h1 h5 ha hb
  have H := ae (show bits .or .i64 a b = nF 5 a b from rfl)
  generalize nF 5 a b = c at *
  go_enter Tryz.func199, Tryz.ntmps199
  go_wp2
  go_ret
  exact ⟨bH H.out, rfl⟩
end Go.Proofs.YtclcgakfmcofaaaGreatDoor
