import Derived.Test.YtclcgakfmcofaaaGreatDoorMW16
import Derived.Test.YtclcgakfmcofaaaGreatDoorMW2
import Derived.Test.YtclcgakfmcofaaaGreatDoorMW27
set_option linter.unusedVariables false
set_option maxRecDepth 100000
set_option maxHeartbeats 400000
namespace Go.Proofs.YtclcgakfmcofaaaGreatDoor
open Go.RowKit
theorem r1bytes_ok (n : Int) (w : World) (h : Okn n) : Calls Tryz.prog 77 #[.int .i64 n] w fun e w' => e = .returned (.string (bytesOf n)) ∧ Below w.heap.size w w' := eV n w h.1 h.2
theorem rkbytes_any (x : Ky) (w : World) (h : x.2.size ≤ 64) (h1 : -9223372036854775808 ≤ x.1) (h2 : x.1 ≤ 9223372036854775807) :
  Calls Tryz.prog 118 #[.agg #[.int .i64 x.1, .string x.2]] w fun e w' => e = .returned (.string (aT x)) ∧ Below w.heap.size w w' := by
 obtain ⟨a, b⟩ := x
 have l1 := aN a
 have l2 := aN (b.size : Int)
 simp only at h h1 h2
 have hadd : ∀ W, (Op.stringOp .add (bytesOf a) (bytesOf (b.size : Int))).run Tryz.prog W = .ok (.string (bytesOf a ++ bytesOf (b.size : Int))) W := fun W => run_string_add_sum W _ _ (by omega)
 have hadd2 : ∀ W, (Op.stringOp .add (bytesOf a ++ bytesOf (b.size : Int)) b).run Tryz.prog W = .ok (.string (bytesOf a ++ bytesOf (b.size : Int) ++ b)) W := fun W => run_string_add_sum W _ _ (by rw [ByteArray.size_append]; omega)
 have o1 : Okn a := ⟨h1, h2⟩
 have o2 : Okn (b.size : Int) := ⟨by omega, by omega⟩
 unfold aT
 simp only
 clear h h1 h2 l1 l2
 go_enter Tryz.func118, Tryz.ntmps118
 go_wp2
 go_region_held3 (fun W => W.cell? ⟨w.heap.size, 0, none⟩ = some (.int .i64 a) ∧ W.cell? ⟨w.heap.size, 1, none⟩ = some (.string b) ∧ w.heap.size < W.heap.size ∧ Below w.heap.size w W) (first | exact keepB (by assumption) (by assumption) | exact startB w _ a b 124 (iC w a b _).1 (iC w a b _).2.1 (iC w a b _).2.2.1 (iC w a b _).2.2.2)
  (first | (go_at_call 77; refine (r1bytes_ok _ _ (by assumption)).mono ?_; rintro e w' ⟨rfl, hb2⟩))
 obtain ⟨_, _, _, hbelW⟩ := ‹_ ∧ _ ∧ _ ∧ Below w.heap.size w _›
 go_wp2
 go_ret
 exact ⟨rfl, hbelW⟩
theorem kf (n : Int) (w : World) : Calls Tryz.prog 164 #[.int .i64 n] w fun e w' => e = .returned (.bool (dL n)) ∧ w' = w := by
 unfold dL
 by_cases h1 : 1 ≤ n
 ·by_cases h2 : n ≤ 8
  ·rw [decide_eq_true h1, decide_eq_true h2]
   go_enter Tryz.func164, Tryz.ntmps164
   go_wp2
   go_ret
   exact ⟨rfl, rfl⟩
  ·rw [decide_eq_true h1, decide_eq_false h2]
   go_enter Tryz.func164, Tryz.ntmps164
   go_wp2
   go_ret
   exact ⟨rfl, rfl⟩
 ·rw [decide_eq_false h1, Bool.false_and]
  go_enter Tryz.func164, Tryz.ntmps164
  go_wp2
  go_ret
  exact ⟨rfl, rfl⟩
theorem mayParts_any (n : Int) (w : World) : Calls Tryz.prog 39 #[.int .i64 n] w fun e w' => e = .returned (.bool (dL n)) ∧ w' = w := by
 unfold dL
 by_cases h1 : 1 ≤ n
 ·by_cases h2 : n ≤ 8
  ·rw [decide_eq_true h1, decide_eq_true h2]
   go_enter Tryz.func39, Tryz.ntmps39
   go_wp2
   go_ret
   exact ⟨rfl, rfl⟩
  ·rw [decide_eq_true h1, decide_eq_false h2]
   go_enter Tryz.func39, Tryz.ntmps39
   go_wp2
   go_ret
   exact ⟨rfl, rfl⟩
 ·rw [decide_eq_false h1, Bool.false_and]
  go_enter Tryz.func39, Tryz.ntmps39
  go_wp2
  go_ret
  exact ⟨rfl, rfl⟩
theorem hash_any (s : ByteArray) (w : World) (hs : s.size ≤ maxLen) : Calls Tryz.prog 201 #[.string s] w fun e w' => e = .returned (.int .u32 (fnv s)) ∧ w' = w := by
 unfold maxLen at hs
 go_enter Tryz.func201, Tryz.ntmps201
 go_wp2
 go_loop [3, 7] (fun c i => ∃ (k : Nat) (x : Int), k ≤ s.size ∧ i = .int .i64 k ∧ c = .int .u32 x ∧ fnvF x (s.data.toList.drop k) = fnv s) (fun _ i => s.size - (intOf i).toNat)
 case atStart => exact ⟨0, 2166136261, by omega, rfl, rfl, rfl⟩
 case round =>
  obtain ⟨k, x, hk, rfl, rfl, hx⟩ := hrel
  by_cases hlt : k < s.size
  ·rw [fnv_step s k hlt] at hx
   have hb : ((s[k].toNat : Nat) : Int) % 4294967296 = (s[k].toNat : Int) := by have := s[k].toNat_lt; omega
   unfold fnv1 at hx
   go_wp2
   go_round
   case rel => exact ⟨k + 1, _, by omega, by go_num, rfl, hx⟩
   case measure => simp [intOf]; omega
  ·rw [fnv_end s k (by omega)] at hx
   subst hx
   go_wp2
   go_ret
   exact ⟨rfl, rfl⟩
theorem kg {k : Ky} (h : k.2.size ≤ 64) : (aT k).size ≤ maxLen := by
 have l1 := aN k.1
 have l2 := aN (k.2.size : Int)
 unfold aT maxLen
 rw [ByteArray.size_append, ByteArray.size_append]
 omega
theorem of_any (n : Int) (k : Ky) (w : World) (h1 : -9223372036854775808 ≤ k.1) (h2 : k.1 ≤ 9223372036854775807) :
  Calls Tryz.prog 166 #[.agg #[.int .i64 k.1, .string k.2], .int .i64 n] w fun e w' => e = .returned (.tuple #[.int .i64 (lr n k).1, .int .i64 (lr n k).2]) ∧ Below w.heap.size w w' := by
 by_cases hk : k.2.size ≤ 64
 ·have H1 := ae (fun W => ml k W hk h1 h2)
  have H2 := ae (fun W => kf n W)
  cases hn : dL n with
  | false =>
   rw [hn] at H2
   rw [ofRes_num hn]
   go_enter Tryz.func166, Tryz.ntmps166
   go_wp2_with (first
    | (go_at_call 168; refine (H1.out _).mono ?_; rintro e W1 ⟨rfl, hb1⟩)
    | (go_at_call 164; refine (H2.out _).mono ?_; rintro e W2 ⟨rfl, rfl⟩))
   go_ret2
   exact ⟨rfl, ag ((Below.refl _ _).alloc (Nat.le_refl _) _) hb1⟩
  | true =>
   rw [hn] at H2
   have hm := fj hn
   rw [ofRes_ok hk hn, ofP_int hn]
   have H3 := ae (fun W => hash_any (aT k) W (kg hk))
   have hx := fnv_lt (aT k)
   have hxn : IntKind.u32.wrap n = n := by rw [IntKind.wrap_u32]; omega
   have hr0 := Int.emod_nonneg (fnv (aT k)) (show n ≠ 0 by omega)
   have hr1 := Int.emod_lt_of_pos (fnv (aT k)) (show 0 < n by omega)
   generalize fnv (aT k) = x at H3 hx hr0 hr1 ⊢
   have hw : wrap64 (x % n) = x % n := by unfold wrap64; omega
   generalize aT k = s at H1 H3
   go_enter Tryz.func166, Tryz.ntmps166
   go_wp2_with (first
    | (go_at_call 168; refine (H1.out _).mono ?_; rintro e W1 ⟨rfl, hb1⟩)
    | (go_at_call 164; refine (H2.out _).mono ?_; rintro e W2 ⟨rfl, rfl⟩)
    | (go_at_call 201; refine (H3.out _).mono ?_; rintro e W2 ⟨rfl, rfl⟩))
   go_ret2
   exact ⟨rfl, ag ((Below.refl _ _).alloc (Nat.le_refl _) _) hb1⟩
 ·have H1 := ae (fun W => kbytes_bad k W hk)
  rw [ofRes_key hk]
  go_enter Tryz.func166, Tryz.ntmps166
  go_wp2_with (first
   | (go_at_call 168; refine (H1.out _).mono ?_; rintro e W1 ⟨rfl, hb1⟩))
  go_ret2
  exact ⟨rfl, ag ((Below.refl _ _).alloc (Nat.le_refl _) _) hb1⟩
theorem rof_any (n : Int) (k : Ky) (w : World) (h1 : -9223372036854775808 ≤ k.1) (h2 : k.1 ≤ 9223372036854775807) (hk : k.2.size ≤ 64) (hn : dL n = true) :
  Calls Tryz.prog 70 #[.agg #[.int .i64 k.1, .string k.2], .int .i64 n] w fun e w' => e = .returned (.int .i64 (ofP n k : Nat)) ∧ Below w.heap.size w w' := by
 have H1 := ae (fun W => rkbytes_any k W hk h1 h2)
 have hm := fj hn
 have hs := kg hk
 rw [ofP_int hn]
 have hx := fnv_lt (aT k)
 have e0 : fnvF 2166136261 ((aT k).data.toList.drop 0) = fnv (aT k) := rfl
 generalize aT k = s at H1 hs e0 hx ⊢
 have hr0 := Int.emod_nonneg (fnv s) (show n ≠ 0 by omega)
 have hr1 := Int.emod_lt_of_pos (fnv s) (show 0 < n by omega)
 have hxn : IntKind.u32.wrap n = n := by rw [IntKind.wrap_u32]; omega
 generalize fnv s = y at e0 hx hr0 hr1 ⊢
 have hw : wrap64 (y % n) = y % n := by unfold wrap64; omega
 unfold maxLen at hs
 go_enter Tryz.func70, Tryz.ntmps70
 go_wp2_with (first
  | (go_at_call 118; refine (H1.out _).mono ?_; rintro e W1 ⟨rfl, hb1⟩))
 go_loop [5, 7] (fun c i => ∃ (k : Nat) (x : Int), k ≤ s.size ∧ i = .int .i64 k ∧ c = .int .u32 x ∧ fnvF x (s.data.toList.drop k) = y) (fun _ i => s.size - (intOf i).toNat)
 case atStart => exact ⟨0, 2166136261, by omega, rfl, rfl, e0⟩
 case round =>
  obtain ⟨k, x, hk, rfl, rfl, hx'⟩ := hrel
  by_cases hlt : k < s.size
  ·rw [fnv_step s k hlt] at hx'
   have hb : ((s[k].toNat : Nat) : Int) % 4294967296 = (s[k].toNat : Int) := by have := s[k].toNat_lt; omega
   unfold fnv1 at hx'
   go_wp2
   go_round
   case rel => exact ⟨k + 1, _, by omega, by go_num, rfl, hx'⟩
   case measure => simp [intOf]; omega
  ·rw [fnv_end s k (by omega)] at hx'
   subst hx'
   go_wp2
   go_ret
   exact ⟨rfl, ag ((Below.refl _ _).alloc (Nat.le_refl _) _) hb1⟩
end Go.Proofs.YtclcgakfmcofaaaGreatDoor
