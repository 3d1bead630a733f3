/- Byte arrays as lists: pieces, and pieces behind each other. -/
import Derived.Test.YtdejdcibcihfeaaB3
import Derived.Lib.Strings
namespace Go.Proofs.Ytdejdcibcihfeaa
set_option linter.unusedVariables false
set_option maxRecDepth 100000

/-- What stands behind the first n bytes. -/
def from' (s : ByteArray) (n : Int) : ByteArray := s.extract n.toNat s.size
abbrev L (s : ByteArray) : List UInt8 := s.data.toList
theorem L_app (a b : ByteArray) : L (a ++ b) = L a ++ L b := by simp [L, ByteArray.data_append]
theorem L_ext (s : ByteArray) (i j : Nat) : L (s.extract i j) = ((L s).drop i).take (j - i) := Lib.extract_data s i j
theorem L_len (s : ByteArray) : (L s).length = s.size := (Lib.size_eq s).symm
theorem from_app (a b : ByteArray) : from' (a ++ b) (a.size : Int) = b := by
  apply ba_ext
  show L _ = L b
  unfold from'
  rw [L_ext, L_app, Int.toNat_natCast, ← L_len a, List.drop_left, List.take_of_length_le]
  rw [ByteArray.size_append, L_len, L_len]; omega
theorem app_assoc (a b c : ByteArray) : a ++ b ++ c = a ++ (b ++ c) := by
  apply ba_ext; show L _ = L _; simp only [L_app, List.append_assoc]
theorem ext_app (a b : ByteArray) (j : Nat) (h : a.size ≤ j) : (a ++ b).extract 0 j = a ++ b.extract 0 (j - a.size) := by
  apply ba_ext; show L _ = L _
  rw [L_ext, L_app, L_app, L_ext]
  simp only [List.drop_zero, Nat.sub_zero]
  rw [List.take_append, L_len, List.take_of_length_le (by rw [L_len]; exact h)]
theorem ext_left (a b : ByteArray) (j : Nat) (h : j ≤ a.size) : (a ++ b).extract 0 j = a.extract 0 j := by
  apply ba_ext; show L _ = L _
  rw [L_ext, L_app, L_ext]
  simp only [List.drop_zero, Nat.sub_zero]
  rw [List.take_append_of_le_length (by rw [L_len]; exact h)]
theorem ext_mid (a b c : ByteArray) : (a ++ (b ++ c)).extract a.size (a.size + b.size) = b := by
  apply ba_ext; show L _ = L _
  rw [L_ext, L_app, L_app, ← L_len a, List.drop_left, Nat.add_sub_cancel_left, ← L_len b, List.take_left]
theorem nil_app (a : ByteArray) : (⟨#[]⟩ : ByteArray) ++ a = a := by apply ba_ext; show L _ = L _; rw [L_app]; rfl
theorem app_nil (a : ByteArray) : a ++ (⟨#[]⟩ : ByteArray) = a := by apply ba_ext; show L _ = L _; rw [L_app]; simp [L]
end Go.Proofs.Ytdejdcibcihfeaa
