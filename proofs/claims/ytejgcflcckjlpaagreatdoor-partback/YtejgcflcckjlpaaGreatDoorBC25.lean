/- A key's bytes, and the key that bytes begin with: what Bytes and Take compute, and that they undo each other. -/
import Derived.Test.YtejgcflcckjlpaaGreatDoorBC1M
namespace Go.Proofs.YtejgcflcckjlpaaGreatDoor
set_option linter.unusedVariables false
set_option maxRecDepth 100000

def kBytes (x : Ky) : ByteArray := bytesOf x.1 ++ bytesOf (x.2.size : Int) ++ x.2
def textOf (s : ByteArray) : ByteArray × Int × Int :=
  if (takeOf s).2.2 ≠ 0 then (⟨#[]⟩, 0, (takeOf s).2.2)
  else if (takeOf s).1 < 0 ∨ 64 < (takeOf s).1 then (⟨#[]⟩, 0, 2)
  else if (s.size : Int) < (takeOf s).2.1 + (takeOf s).1 then (⟨#[]⟩, 0, 6)
  else (s.extract (takeOf s).2.1.toNat ((takeOf s).2.1 + (takeOf s).1).toNat, (takeOf s).2.1 + (takeOf s).1, 0)
def kTake (s : ByteArray) : Ky × Int × Int :=
  if (takeOf s).2.2 ≠ 0 then (k0, 0, (takeOf s).2.2)
  else if (textOf (from' s (takeOf s).2.1)).2.2 ≠ 0 then (k0, 0, (textOf (from' s (takeOf s).2.1)).2.2)
  else (((takeOf s).1, (textOf (from' s (takeOf s).2.1)).1), (takeOf s).2.1 + (textOf (from' s (takeOf s).2.1)).2.1, 0)

theorem textOf_bytes (b y : ByteArray) (h : b.size ≤ 64) : textOf (bytesOf (b.size : Int) ++ (b ++ y)) = (b, (((bytesOf (b.size : Int)).size + b.size : Nat) : Int), 0) := by
  have e := take_bytes (b.size : Int) (by omega) (by omega) (b ++ y)
  unfold textOf
  rw [e]
  simp only [ne_eq, not_true_eq_false, if_false]
  rw [if_neg (by omega), if_neg (by rw [ByteArray.size_append, ByteArray.size_append]; omega)]
  have : (((bytesOf (b.size : Int)).size : Int) + (b.size : Int)).toNat = (bytesOf (b.size : Int)).size + b.size := by omega
  rw [this, Int.toNat_natCast, ext_mid]
  simp
theorem textOf_cut (b : ByteArray) (h : b.size ≤ 64) (j : Nat) (hj : j < (bytesOf (b.size : Int) ++ b).size) : textOf ((bytesOf (b.size : Int) ++ b).extract 0 j) = (⟨#[]⟩, 0, 6) := by
  rw [ByteArray.size_append] at hj
  by_cases h1 : j < (bytesOf (b.size : Int)).size
  · rw [ext_left _ _ _ (by omega)]
    unfold textOf
    rw [take_cut _ (by omega) (by omega) _ h1]
    rfl
  · rw [ext_app _ _ _ (by omega)]
    have e := take_bytes (b.size : Int) (by omega) (by omega) (b.extract 0 (j - (bytesOf (b.size : Int)).size))
    unfold textOf
    rw [e]
    simp only [ne_eq, not_true_eq_false, if_false]
    rw [if_neg (by omega), if_pos]
    rw [ByteArray.size_append, ByteArray.size_extract]
    omega
theorem kTake_bytes (x : Ky) (h : x.2.size ≤ 64) (h1 : -9223372036854775808 ≤ x.1) (h2 : x.1 ≤ 9223372036854775807) (y : ByteArray) : kTake (kBytes x ++ y) = (x, ((kBytes x).size : Int), 0) := by
  have e0 : kBytes x ++ y = bytesOf x.1 ++ (bytesOf (x.2.size : Int) ++ (x.2 ++ y)) := by unfold kBytes; simp only [app_assoc]
  have e := take_bytes x.1 h1 h2 (bytesOf (x.2.size : Int) ++ (x.2 ++ y))
  have es : (kBytes x).size = (bytesOf x.1).size + ((bytesOf (x.2.size : Int)).size + x.2.size) := by unfold kBytes; rw [ByteArray.size_append, ByteArray.size_append]; omega
  rw [es, e0]
  unfold kTake
  rw [e]
  simp only [ne_eq, not_true_eq_false, if_false]
  rw [from_app, textOf_bytes _ _ h]
  simp
theorem kTake_cut (x : Ky) (h : x.2.size ≤ 64) (h1 : -9223372036854775808 ≤ x.1) (h2 : x.1 ≤ 9223372036854775807) (j : Nat) (hj : j < (kBytes x).size) : kTake ((kBytes x).extract 0 j) = (k0, 0, 6) := by
  have e0 : kBytes x = bytesOf x.1 ++ (bytesOf (x.2.size : Int) ++ x.2) := by unfold kBytes; simp only [app_assoc]
  rw [e0] at hj ⊢
  rw [ByteArray.size_append] at hj
  by_cases h3 : j < (bytesOf x.1).size
  · rw [ext_left _ _ _ (by omega)]
    unfold kTake
    rw [take_cut _ h1 h2 _ h3]
    rfl
  · rw [ext_app _ _ _ (by omega)]
    have e := take_bytes x.1 h1 h2 ((bytesOf (x.2.size : Int) ++ x.2).extract 0 (j - (bytesOf x.1).size))
    unfold kTake
    rw [e]
    simp only [ne_eq, not_true_eq_false, if_false]
    rw [from_app, textOf_cut _ h _ (by omega)]
    rfl
end Go.Proofs.YtejgcflcckjlpaaGreatDoor
