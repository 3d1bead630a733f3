import Derived.Test.YtclcgakfmcofaaaGreatDoorMC4
import Derived.Test.YtclcgakfmcofaaaGreatDoorMC1
namespace Go.Proofs.YtclcgakfmcofaaaGreatDoor
open Go.RowKit
set_option linter.unusedVariables false
set_option maxRecDepth 100000
theorem conv_sum (a b : Int) : wrap64 (IntKind.u64.wrap (IntKind.u64.wrap a + IntKind.u64.wrap b)) = sumF a b := by
 rw [IntKind.wrap_u64, IntKind.wrap_u64, IntKind.wrap_u64]
 unfold sumF wrap64
 omega
theorem num_sum (a b : Int) : Num64 (sumF a b) := by unfold Num64 sumF wrap64; omega
theorem num_or (a b : Int) : Num64 (orF a b) := by
 show Num64 (IntKind.i64.wrap ((BitVec.ofInt 64 a ||| BitVec.ofInt 64 b).toNat : Int))
 rw [IntKind.wrap_i64]
 unfold Num64
 omega
theorem num_nF {agg a b : Int} (ha : Num64 a) (hb : Num64 b) (h2 : nP agg a) (h3 : nP agg b) : Num64 (nF agg a b) := by
 unfold nF
 by_cases e1 : agg = 1
 ·rw [if_pos e1]; exact num_sum a b
 rw [if_neg e1]
 by_cases e2 : agg = 2
 ·rw [if_pos e2]
  have := cnt_P a b (h2 e2) (h3 e2)
  unfold Num64
  omega
 rw [if_neg e2]
 unfold Num64 at *
 by_cases e3 : agg = 3
 ·rw [if_pos e3]; omega
 rw [if_neg e3]
 by_cases e4 : agg = 4
 ·rw [if_pos e4]; omega
 rw [if_neg e4]
 exact num_or a b
set_option maxHeartbeats 400000 in
theorem joinNumbers_any (agg a b : Int) (w : World) (h1 : 1 ≤ agg) (h5 : agg ≤ 5) (ha : Num64 a) (hb : Num64 b) (pa : nP agg a) (pb : nP agg b) :
  Calls Tryz.prog 199 #[.int .i64 agg, .int .i64 a, .int .i64 b] w fun e w' => e = .returned (.int .i64 (nF agg a b)) ∧ w' = w := by
 have hk : agg = 1 ∨ agg = 2 ∨ agg = 3 ∨ agg = 4 ∨ agg = 5 := by omega
 rcases hk with rfl | rfl | rfl | rfl | rfl
 ·have H := hidM (conv_sum a b)
  show Calls _ _ _ _ fun e w' => e = .returned (.int .i64 (sumF a b)) ∧ w' = w
  clear pa pb h1 h5 ha hb
  go_enter Tryz.func199, Tryz.ntmps199
  go_wp2
  go_ret
  exact ⟨ret_int H.out, rfl⟩
 ·obtain ⟨a0, a1⟩ := pa rfl
  obtain ⟨b0, b1⟩ := pb rfl
  show Calls _ _ _ _ fun e w' => e = .returned (.int .i64 (cntF a b)) ∧ w' = w
  have ea : IntKind.u64.wrap a = a := by rw [IntKind.wrap_u64]; omega
  have eb : IntKind.u64.wrap b = b := by rw [IntKind.wrap_u64]; omega
  have es : IntKind.u64.wrap (a + b) = a + b := by rw [IntKind.wrap_u64]; omega
  by_cases hle : a + b ≤ 4611686018427387904
  ·have H := hidM (show a + b = cntF a b by unfold cntF; rw [if_neg (by omega)])
   generalize cntF a b = c at *
   go_enter Tryz.func199, Tryz.ntmps199
   go_wp2
   go_ret
   exact ⟨ret_int H.out, rfl⟩
  ·have hlt : 4611686018427387904 < a + b := by omega
   have H := hidM (show 4611686018427387904 = cntF a b by unfold cntF; rw [if_pos (by omega)])
   generalize cntF a b = c at *
   go_enter Tryz.func199, Tryz.ntmps199
   go_wp2
   go_ret
   exact ⟨ret_int H.out, rfl⟩
 ·show Calls _ _ _ _ fun e w' => e = .returned (.int .i64 (min a b)) ∧ w' = w
  clear pa pb h1 h5 ha hb
  by_cases hle : a ≤ b
  ·have H := hidM (show a = min a b by omega)
   generalize min a b = c at *
   go_enter Tryz.func199, Tryz.ntmps199
   go_wp2
   go_ret
   exact ⟨ret_int H.out, rfl⟩
  ·have hlt : b < a := by omega
   have H := hidM (show b = min a b by omega)
   generalize min a b = c at *
   go_enter Tryz.func199, Tryz.ntmps199
   go_wp2
   go_ret
   exact ⟨ret_int H.out, rfl⟩
 ·show Calls _ _ _ _ fun e w' => e = .returned (.int .i64 (max a b)) ∧ w' = w
  clear pa pb h1 h5 ha hb
  by_cases hle : a < b
  ·have H := hidM (show b = max a b by omega)
   generalize max a b = c at *
   go_enter Tryz.func199, Tryz.ntmps199
   go_wp2
   go_ret
   exact ⟨ret_int H.out, rfl⟩
  ·have hlt : b ≤ a := by omega
   have H := hidM (show a = max a b by omega)
   generalize max a b = c at *
   go_enter Tryz.func199, Tryz.ntmps199
   go_wp2
   go_ret
   exact ⟨ret_int H.out, rfl⟩
 ·clear pa pb h1 h5 ha hb
  have H := hidM (show bits .or .i64 a b = nF 5 a b from rfl)
  generalize nF 5 a b = c at *
  go_enter Tryz.func199, Tryz.ntmps199
  go_wp2
  go_ret
  exact ⟨ret_int H.out, rfl⟩
end Go.Proofs.YtclcgakfmcofaaaGreatDoor
