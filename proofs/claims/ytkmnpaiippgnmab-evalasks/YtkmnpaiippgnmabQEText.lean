/- Small programs, read by the kernel. -/
import Derived.Test.YtkmnpaiippgnmabQLPlR
import Derived.Test.YtkmnpaiippgnmabQ3
namespace Go.Proofs.Ytkmnpaiippgnmab
set_option linter.unusedVariables false
set_option maxRecDepth 100000

theorem prog_is {s : ByteArray} {r : Rs} (hs : s.size ≤ 512) (h : plR 60 0 (splitG [] (L s)) 0 = some r) : Prog s r := by
  unfold Prog
  rw [if_neg (by omega)]
  rw [plR_eq] at h
  exact ⟨60, h⟩
/-- A word between two numbers, both ways. -/
def pg (k : Int) : Fo := .cons 1 0 .nil (.cons 2 0 .nil (.cons 4 0 .nil (.cons k 0 .nil (.cons 30 0 .nil (.cons 1 1 .nil (.cons 4 0 .nil (.cons 2 0 .nil (.cons k 0 .nil (.cons 30 0 .nil .nil)))))))))
def tx (u : List UInt8) : List UInt8 := (((([48, 32, 97, 32, 118, 32] ++ u) ++ [32, 101, 109, 105, 116, 32, 49, 32, 118, 32, 97, 32]) ++ u) ++ [32, 101, 109, 105, 116])
/-- The word of a kind, and its program. -/
structure Wd (u : List UInt8) (k : Int) : Prop where
  len : u.length ≤ 3
  prog : Prog (ba (tx u)) (.ok (pg k) [] 10)
  chk : cE (pg k) = 0
theorem wd_mk {u : List UInt8} {k : Int} (h1 : u.length ≤ 3) (h2 : plR 60 0 (splitG [] (tx u)) 0 = some (.ok (pg k) [] 10)) (h3 : cE (pg k) = 0) : Wd u k :=
  ⟨h1, prog_is (by show (ba (tx u)).size ≤ 512; simp [ByteArray.size, tx]; omega) (by rw [L_ba]; exact h2), h3⟩
theorem wd_5 : Wd [43] 5 := wd_mk (by decide) (by rfl) (by rfl)
theorem wd_6 : Wd [45] 6 := wd_mk (by decide) (by rfl) (by rfl)
theorem wd_7 : Wd [42] 7 := wd_mk (by decide) (by rfl) (by rfl)
theorem wd_8 : Wd [47] 8 := wd_mk (by decide) (by rfl) (by rfl)
theorem wd_9 : Wd [37] 9 := wd_mk (by decide) (by rfl) (by rfl)
theorem wd_10 : Wd [38] 10 := wd_mk (by decide) (by rfl) (by rfl)
theorem wd_11 : Wd [124] 11 := wd_mk (by decide) (by rfl) (by rfl)
theorem wd_12 : Wd [94] 12 := wd_mk (by decide) (by rfl) (by rfl)
theorem wd_13 : Wd [60, 60] 13 := wd_mk (by decide) (by rfl) (by rfl)
theorem wd_14 : Wd [62, 62] 14 := wd_mk (by decide) (by rfl) (by rfl)
theorem wd_15 : Wd [62, 62, 62] 15 := wd_mk (by decide) (by rfl) (by rfl)
theorem wd_16 : Wd [60] 16 := wd_mk (by decide) (by rfl) (by rfl)
theorem wd_17 : Wd [61] 17 := wd_mk (by decide) (by rfl) (by rfl)
end Go.Proofs.Ytkmnpaiippgnmab
