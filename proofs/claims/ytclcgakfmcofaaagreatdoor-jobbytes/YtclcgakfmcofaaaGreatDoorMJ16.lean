/- Texts laid together: PTPlain, PTHash. -/
import Derived.Test.YtclcgakfmcofaaaGreatDoorMJ1
/- Rows parted by their keys, and put together again. No program in this text. -/
namespace Go.Proofs.YtclcgakfmcofaaaGreatDoor
open Go.RowKit
set_option linter.unusedVariables false
set_option maxRecDepth 100000
/-- The rows of partition p. -/
def partR (f : Ky → Nat) (l : List Rw) (p : Nat) : List Rw := l.filter fun r => f r.1 == p
/-- The rows of each of n partitions. -/
def partsR (f : Ky → Nat) (n : Nat) (l : List Rw) : List (List Rw) := (List.range n).map (partR f l)
theorem partsR_len (f : Ky → Nat) (n : Nat) (l : List Rw) : (partsR f n l).length = n := by unfold partsR; simp
theorem partsR_get (f : Ky → Nat) {n p : Nat} (l : List Rw) (h : p < n) : (partsR f n l)[p]? = some (partR f l p) := by unfold partsR; simp [h]
theorem partR_snoc (f : Ky → Nat) (l : List Rw) (r : Rw) (p : Nat) : partR f (l ++ [r]) p = if f r.1 = p then partR f l p ++ [r] else partR f l p := by
  unfold partR
  rw [List.filter_append]
  by_cases h : f r.1 = p
  · rw [if_pos h]; simp [h]
  · rw [if_neg h]; simp [h]
theorem partR_len (f : Ky → Nat) (l : List Rw) (p : Nat) : (partR f l p).length ≤ l.length := List.length_filter_le _ _
end Go.Proofs.YtclcgakfmcofaaaGreatDoor
/- Which partition a key is of: its bytes, gathered. No program in this text. -/
namespace Go.Proofs.YtclcgakfmcofaaaGreatDoor
open Go.RowKit
set_option linter.unusedVariables false
set_option maxRecDepth 100000

/-- One byte more. -/
def fnv1 (h : Int) (b : UInt8) : Int := (bits .xor .u32 h (b.toNat : Int) * 16777619) % 4294967296
def fnvF (h : Int) (l : List UInt8) : Int := l.foldl fnv1 h
def fnv (s : ByteArray) : Int := fnvF 2166136261 s.data.toList
theorem fnv1_lt (h : Int) (b : UInt8) : 0 ≤ fnv1 h b ∧ fnv1 h b ≤ 4294967295 := by unfold fnv1; omega
theorem fnvF_lt (l : List UInt8) : ∀ h : Int, 0 ≤ h ∧ h ≤ 4294967295 → 0 ≤ fnvF h l ∧ fnvF h l ≤ 4294967295 := by
  induction l with
  | nil => intro h hh; exact hh
  | cons b l ih => intro h _; exact ih _ (fnv1_lt h b)
theorem fnv_lt (s : ByteArray) : 0 ≤ fnv s ∧ fnv s ≤ 4294967295 := fnvF_lt _ _ (by omega)
theorem fnv_step (s : ByteArray) (k : Nat) (h : k < s.size) (x : Int) : fnvF x (s.data.toList.drop k) = fnvF (fnv1 x s[k]) (s.data.toList.drop (k + 1)) := by
  have h' : k < s.data.toList.length := by simpa using h
  rw [List.drop_eq_getElem_cons h']
  rfl
theorem fnv_end (s : ByteArray) (k : Nat) (h : s.size ≤ k) (x : Int) : fnvF x (s.data.toList.drop k) = x := by
  rw [List.drop_of_length_le (by simpa using h)]
  rfl
/-- May there be so many partitions? -/
def mayP (n : Int) : Bool := decide (1 ≤ n) && decide (n ≤ 8)
theorem mayP_of {n : Int} (h : mayP n = true) : 1 ≤ n ∧ n ≤ 8 := by unfold mayP at h; rw [Bool.and_eq_true, decide_eq_true_eq, decide_eq_true_eq] at h; exact h
/-- The partition of a key. -/
def ofP (n : Int) (k : Ky) : Nat := (fnv (kBytes k) % n).toNat
theorem ofP_lt {n : Int} (h : mayP n = true) (k : Ky) : ofP n k < n.toNat := by
  have h1 := mayP_of h
  have h2 := Int.emod_lt_of_pos (fnv (kBytes k)) (show 0 < n by omega)
  have h3 := Int.emod_nonneg (fnv (kBytes k)) (show n ≠ 0 by omega)
  unfold ofP
  omega
theorem ofP_int {n : Int} (h : mayP n = true) (k : Ky) : ((ofP n k : Nat) : Int) = fnv (kBytes k) % n := by
  have h1 := mayP_of h
  have h3 := Int.emod_nonneg (fnv (kBytes k)) (show n ≠ 0 by omega)
  unfold ofP
  omega
/-- What Of answers. -/
def ofRes (n : Int) (k : Ky) : Int × Int := if k.2.size ≤ 64 ∧ mayP n = true then (((ofP n k : Nat) : Int), 0) else (0, 1)
theorem ofRes_ok {n : Int} {k : Ky} (h : k.2.size ≤ 64) (hn : mayP n = true) : ofRes n k = (((ofP n k : Nat) : Int), 0) := by unfold ofRes; rw [if_pos ⟨h, hn⟩]
theorem ofRes_key {n : Int} {k : Ky} (h : ¬ k.2.size ≤ 64) : ofRes n k = (0, 1) := by unfold ofRes; rw [if_neg (fun e => h e.1)]
theorem ofRes_num {n : Int} {k : Ky} (h : mayP n = false) : ofRes n k = (0, 1) := by unfold ofRes; rw [if_neg (fun e => by rw [h] at e; cases e.2)]
/-- The rows of each of n partitions. -/
abbrev prt (n : Int) (l : List Rw) : List (List Rw) := partsR (ofP n) n.toNat l
end Go.Proofs.YtclcgakfmcofaaaGreatDoor
