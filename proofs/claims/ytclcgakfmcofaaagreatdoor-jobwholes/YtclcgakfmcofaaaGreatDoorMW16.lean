/- Texts laid together: PTPlain, PTHash. -/
import Derived.Test.YtclcgakfmcofaaaGreatDoorMW1
set_option linter.unusedVariables false
set_option maxRecDepth 100000
namespace Go.Proofs.YtclcgakfmcofaaaGreatDoor
open Go.RowKit
def fK (f : Ky → Nat) (l : List Rw) (p : Nat) : List Rw := l.filter fun r => f r.1 == p
def mL (f : Ky → Nat) (n : Nat) (l : List Rw) : List (List Rw) := (List.range n).map (fK f l)
theorem dK (f : Ky → Nat) (n : Nat) (l : List Rw) : (mL f n l).length = n := by unfold mL; simp
theorem ge (f : Ky → Nat) {n p : Nat} (l : List Rw) (h : p < n) : (mL f n l)[p]? = some (fK f l p) := by unfold mL; simp [h]
theorem partR_snoc (f : Ky → Nat) (l : List Rw) (r : Rw) (p : Nat) : fK f (l ++ [r]) p = if f r.1 = p then fK f l p ++ [r] else fK f l p := by
 unfold fK
 rw [List.filter_append]
 by_cases h : f r.1 = p
 ·rw [if_pos h]; simp [h]
 ·rw [if_neg h]; simp [h]
theorem oF (f : Ky → Nat) (l : List Rw) (p : Nat) : (fK f l p).length ≤ l.length := List.length_filter_le _ _
def fnv1 (h : Int) (b : UInt8) : Int := (bits .xor .u32 h (b.toNat : Int) * 16777619) % 4294967296
def fnvF (h : Int) (l : List UInt8) : Int := l.foldl fnv1 h
def fnv (s : ByteArray) : Int := fnvF 2166136261 s.data.toList
theorem fnv1_lt (h : Int) (b : UInt8) : 0 ≤ fnv1 h b ∧ fnv1 h b ≤ 4294967295 := by unfold fnv1; omega
theorem fnvF_lt (l : List UInt8) : ∀ h : Int, 0 ≤ h ∧ h ≤ 4294967295 → 0 ≤ fnvF h l ∧ fnvF h l ≤ 4294967295 := by
 induction l with
 | nil => intro h hh; exact hh
 | cons b l ih => intro h _; exact ih _ (fnv1_lt h b)
theorem fnv_lt (s : ByteArray) : 0 ≤ fnv s ∧ fnv s ≤ 4294967295 := fnvF_lt _ _ (by omega)
theorem fnv_step (s : ByteArray) (k : Nat) (h : k < s.size) (x : Int) : fnvF x (s.data.toList.drop k) = fnvF (fnv1 x s[k]) (s.data.toList.drop (k + 1)) := by
 have h' : k < s.data.toList.length := by simpa using h
 rw [List.drop_eq_getElem_cons h']
 rfl
theorem fnv_end (s : ByteArray) (k : Nat) (h : s.size ≤ k) (x : Int) : fnvF x (s.data.toList.drop k) = x := by
 rw [List.drop_of_length_le (by simpa using h)]
 rfl
def dL (n : Int) : Bool := decide (1 ≤ n) && decide (n ≤ 8)
theorem fj {n : Int} (h : dL n = true) : 1 ≤ n ∧ n ≤ 8 := by unfold dL at h; rw [Bool.and_eq_true, decide_eq_true_eq, decide_eq_true_eq] at h; exact h
def ofP (n : Int) (k : Ky) : Nat := (fnv (aT k) % n).toNat
theorem ofP_lt {n : Int} (h : dL n = true) (k : Ky) : ofP n k < n.toNat := by
 have h1 := fj h
 have h2 := Int.emod_lt_of_pos (fnv (aT k)) (show 0 < n by omega)
 have h3 := Int.emod_nonneg (fnv (aT k)) (show n ≠ 0 by omega)
 unfold ofP
 omega
theorem ofP_int {n : Int} (h : dL n = true) (k : Ky) : ((ofP n k : Nat) : Int) = fnv (aT k) % n := by
 have h1 := fj h
 have h3 := Int.emod_nonneg (fnv (aT k)) (show n ≠ 0 by omega)
 unfold ofP
 omega
def lr (n : Int) (k : Ky) : Int × Int := if k.2.size ≤ 64 ∧ dL n = true then (((ofP n k : Nat) : Int), 0) else (0, 1)
theorem ofRes_ok {n : Int} {k : Ky} (h : k.2.size ≤ 64) (hn : dL n = true) : lr n k = (((ofP n k : Nat) : Int), 0) := by unfold lr; rw [if_pos ⟨h, hn⟩]
theorem ofRes_key {n : Int} {k : Ky} (h : ¬ k.2.size ≤ 64) : lr n k = (0, 1) := by unfold lr; rw [if_neg (fun e => h e.1)]
theorem ofRes_num {n : Int} {k : Ky} (h : dL n = false) : lr n k = (0, 1) := by unfold lr; rw [if_neg (fun e => by rw [h] at e; cases e.2)]
abbrev dM (n : Int) (l : List Rw) : List (List Rw) := mL (ofP n) n.toNat l
end Go.Proofs.YtclcgakfmcofaaaGreatDoor
