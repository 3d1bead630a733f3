/- Keys as pairs of a number and a text. -/
import Derived.WalkKit
namespace Go.Proofs.Ytdejdcibcihfeaa
set_option linter.unusedVariables false
set_option maxRecDepth 100000

abbrev Ky := Int × ByteArray
abbrev k0 : Ky := (0, ⟨#[]⟩)
def encK (x : Ky) : List Value := [.int .i64 x.1, .string x.2]
def valK (x : Ky) : Value := .agg #[.int .i64 x.1, .string x.2]
theorem ba_ext {a b : ByteArray} (h : a.data.toList = b.data.toList) : a = b := by
  cases a; cases b; simp at h; rw [h]
end Go.Proofs.Ytdejdcibcihfeaa
