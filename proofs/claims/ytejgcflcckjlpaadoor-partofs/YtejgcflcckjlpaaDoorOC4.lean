/- Texts laid together: BaL, GBytes. -/
import Derived.Test.YtejgcflcckjlpaaDoorOC1M
import Derived.Lib.Strings
import Derived.Test.YtejgcflcckjlpaaDoorOC3
/- Byte arrays as lists: pieces, and pieces behind each other. -/
namespace Go.Proofs.YtejgcflcckjlpaaDoor
set_option linter.unusedVariables false
set_option maxRecDepth 100000

/-- What stands behind the first n bytes. -/
def from' (s : ByteArray) (n : Int) : ByteArray := s.extract n.toNat s.size
abbrev L (s : ByteArray) : List UInt8 := s.data.toList
theorem L_app (a b : ByteArray) : L (a ++ b) = L a ++ L b := by simp [L, ByteArray.data_append]
theorem L_ext (s : ByteArray) (i j : Nat) : L (s.extract i j) = ((L s).drop i).take (j - i) := Lib.extract_data s i j
theorem L_len (s : ByteArray) : (L s).length = s.size := (Lib.size_eq s).symm
theorem from_app (a b : ByteArray) : from' (a ++ b) (a.size : Int) = b := by
  apply ba_ext
  show L _ = L b
  unfold from'
  rw [L_ext, L_app, Int.toNat_natCast, ← L_len a, List.drop_left, List.take_of_length_le]
  rw [ByteArray.size_append, L_len, L_len]; omega
theorem app_assoc (a b c : ByteArray) : a ++ b ++ c = a ++ (b ++ c) := by
  apply ba_ext; show L _ = L _; simp only [L_app, List.append_assoc]
theorem ext_app (a b : ByteArray) (j : Nat) (h : a.size ≤ j) : (a ++ b).extract 0 j = a ++ b.extract 0 (j - a.size) := by
  apply ba_ext; show L _ = L _
  rw [L_ext, L_app, L_app, L_ext]
  simp only [List.drop_zero, Nat.sub_zero]
  rw [List.take_append, L_len, List.take_of_length_le (by rw [L_len]; exact h)]
theorem ext_left (a b : ByteArray) (j : Nat) (h : j ≤ a.size) : (a ++ b).extract 0 j = a.extract 0 j := by
  apply ba_ext; show L _ = L _
  rw [L_ext, L_app, L_ext]
  simp only [List.drop_zero, Nat.sub_zero]
  rw [List.take_append_of_le_length (by rw [L_len]; exact h)]
theorem ext_mid (a b c : ByteArray) : (a ++ (b ++ c)).extract a.size (a.size + b.size) = b := by
  apply ba_ext; show L _ = L _
  rw [L_ext, L_app, L_app, ← L_len a, List.drop_left, Nat.add_sub_cancel_left, ← L_len b, List.take_left]
theorem nil_app (a : ByteArray) : (⟨#[]⟩ : ByteArray) ++ a = a := by apply ba_ext; show L _ = L _; rw [L_app]; rfl
theorem app_nil (a : ByteArray) : a ++ (⟨#[]⟩ : ByteArray) = a := by apply ba_ext; show L _ = L _; rw [L_app]; simp [L]
end Go.Proofs.YtejgcflcckjlpaaDoor
/- The bytes of cells, and that they undo each other. No program in this text. -/
namespace Go.Proofs.YtejgcflcckjlpaaDoor
open Go.RowKit
set_option linter.unusedVariables false
set_option maxRecDepth 100000

def Num64 (n : Int) : Prop := -9223372036854775808 ≤ n ∧ n ≤ 9223372036854775807
def catB : List Int → ByteArray
  | [] => ⟨#[]⟩
  | x :: l => bytesOf x ++ catB l
/-- The bytes of a cell. -/
def cBytes (agg : Int) (c : Cl) : ByteArray := if agg = 6 then bytesOf (c.2.length : Int) ++ catB c.2 else bytesOf c.1
/-- What stands from a place on. -/
def cFrom (s : ByteArray) (n : Nat) : ByteArray := s.extract n s.size
/-- So many numbers, from a place on: they, where they end, the error. -/
def rdN : Nat → ByteArray → Nat → List Int → List Int × Int × Int
  | 0, _, n, acc => (acc, (n : Int), 0)
  | i + 1, s, n, acc =>
    if (takeOf (cFrom s n)).2.2 ≠ 0 then ([], 0, (takeOf (cFrom s n)).2.2)
    else rdN i s (n + (takeOf (cFrom s n)).2.1.toNat) (acc ++ [(takeOf (cFrom s n)).1])
/-- May a cell be? -/
def mayC (agg : Int) (bound : Nat) (c : Cl) : Bool :=
  if agg = 6 then decide (c.1 = 0) && decide (Rise c.2) && decide (c.2.length ≤ bound) else decide (c.2 = []) && decide (agg = 2 → 0 ≤ c.1 ∧ c.1 ≤ 4611686018427387904)
/-- Which cell bytes begin with: it, how many bytes, the error. -/
def cTake (agg : Int) (bound : Nat) (s : ByteArray) : Cl × Int × Int :=
  if (takeOf s).2.2 ≠ 0 then ((0, []), 0, (takeOf s).2.2)
  else if agg = 6 then
    (if (takeOf s).1 < 0 ∨ (bound : Int) < (takeOf s).1 then ((0, []), 0, 7)
     else if (rdN (takeOf s).1.toNat s (takeOf s).2.1.toNat []).2.2 ≠ 0 then ((0, []), 0, (rdN (takeOf s).1.toNat s (takeOf s).2.1.toNat []).2.2)
     else if mayC agg bound (0, (rdN (takeOf s).1.toNat s (takeOf s).2.1.toNat []).1) = true then ((0, (rdN (takeOf s).1.toNat s (takeOf s).2.1.toNat []).1), (rdN (takeOf s).1.toNat s (takeOf s).2.1.toNat []).2.1, 0)
     else ((0, []), 0, 7))
  else if mayC agg bound ((takeOf s).1, []) = true then (((takeOf s).1, []), (takeOf s).2.1, 0) else ((0, []), 0, 7)
theorem cFrom_app (p x : ByteArray) : cFrom (p ++ x) p.size = x := by
  unfold cFrom
  apply ba_ext
  show L _ = L _
  rw [L_ext, L_app, ByteArray.size_append, ← L_len p, List.drop_left, L_len]
  rw [show p.size + x.size - p.size = x.size by omega, ← L_len x]
  exact List.take_length
theorem rdN_cat : ∀ (l : List Int) (p x : ByteArray) (acc : List Int), (∀ v ∈ l, Num64 v) → rdN l.length (p ++ (catB l ++ x)) p.size acc = (acc ++ l, ((p.size + (catB l).size : Nat) : Int), 0)
  | [], p, x, acc, _ => by
    have e : (catB []).size = 0 := rfl
    rw [e]
    simp [rdN]
  | v :: l, p, x, acc, h => by
    have hv := h v (by simp)
    have e : takeOf (cFrom (p ++ (catB (v :: l) ++ x)) p.size) = (v, ((bytesOf v).size : Int), 0) := by
      rw [cFrom_app, catB, ByteArray.append_assoc]
      exact take_bytes v hv.1 hv.2 _
    rw [List.length_cons, rdN, e]
    simp only [ne_eq, not_true_eq_false, if_false, Int.toNat_natCast]
    have ih := rdN_cat l (p ++ bytesOf v) x (acc ++ [v]) fun z hz => h z (by simp [hz])
    rw [ByteArray.size_append] at ih
    rw [show p ++ (catB (v :: l) ++ x) = p ++ bytesOf v ++ (catB l ++ x) by rw [catB, ByteArray.append_assoc, ByteArray.append_assoc]]
    rw [ih, List.append_assoc, List.singleton_append, catB, ByteArray.size_append]
    rw [Nat.add_assoc]
/-- What is written is taken, whatever stands behind it. -/
theorem cTake_bytes (agg : Int) (bound : Nat) (c : Cl) (x : ByteArray) (hm : mayC agg bound c = true) (hb : bound ≤ 32) (h1 : Num64 c.1) (h2 : ∀ v ∈ c.2, Num64 v) : cTake agg bound (cBytes agg c ++ x) = (c, ((cBytes agg c).size : Int), 0) := by
  obtain ⟨n, l⟩ := c
  simp only at h1 h2
  by_cases h : agg = 6
  · subst h
    have hm' := hm
    unfold mayC at hm
    rw [if_pos rfl] at hm
    simp only [Bool.and_eq_true, decide_eq_true_eq] at hm
    obtain ⟨⟨rfl, _⟩, hl⟩ := hm
    have eb : cBytes 6 (0, l) = bytesOf (l.length : Int) ++ catB l := by unfold cBytes; rw [if_pos rfl]
    have et : takeOf (cBytes 6 (0, l) ++ x) = ((l.length : Int), ((bytesOf (l.length : Int)).size : Int), 0) := by
      rw [eb, ByteArray.append_assoc]
      exact take_bytes _ (by omega) (by omega) _
    have er := rdN_cat l (bytesOf (l.length : Int)) x [] h2
    rw [← ByteArray.append_assoc, ← eb, List.nil_append] at er
    unfold cTake
    rw [et]
    simp only [ne_eq, not_true_eq_false, if_false, if_true, Int.toNat_natCast]
    rw [if_neg (by omega), er]
    simp only [not_true_eq_false, if_false]
    rw [if_pos hm', eb, ByteArray.size_append]
  · have eb : cBytes agg (n, l) = bytesOf n := by unfold cBytes; rw [if_neg h]
    have hl : l = [] := by
      unfold mayC at hm
      rw [if_neg h] at hm
      simp only [Bool.and_eq_true, decide_eq_true_eq] at hm
      exact hm.1
    subst hl
    have et : takeOf (cBytes agg (n, []) ++ x) = (n, ((bytesOf n).size : Int), 0) := by
      rw [eb]
      exact take_bytes _ h1.1 h1.2 _
    unfold cTake
    rw [et]
    simp only [ne_eq, not_true_eq_false, if_false]
    rw [if_neg h, if_pos hm, eb]
end Go.Proofs.YtejgcflcckjlpaaDoor
