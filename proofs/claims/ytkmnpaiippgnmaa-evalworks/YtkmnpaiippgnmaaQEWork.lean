/- Small programs and what they do. -/
import Derived.Test.YtkmnpaiippgnmaaQ6
import Derived.Test.YtkmnpaiippgnmaaQEText
namespace Go.Proofs.Ytkmnpaiippgnmaa
open Go.RowKit
set_option linter.unusedVariables false
set_option maxRecDepth 100000

abbrev abc : ByteArray := ⟨#[97, 98, 99]⟩
theorem xor_self (v : Int) : bits .xor .i64 v v = 0 := by
  show IntKind.i64.wrap ((BitVec.ofInt 64 v ^^^ BitVec.ofInt 64 v).toNat : Int) = 0
  rw [BitVec.xor_self]
  rfl
def wt0 : List UInt8 := [48, 32, 118, 32, 49, 32, 43, 32, 101, 109, 105, 116]
def wf0 : Fo := (.cons 1 0 .nil (.cons 4 0 .nil (.cons 1 1 .nil (.cons 5 0 .nil (.cons 30 0 .nil .nil)))))
theorem wp0 : Prog (ba wt0) (.ok wf0 [] 5) := prog_is (by decide) (by rw [L_ba]; rfl)
def wt1 : List UInt8 := [48, 32, 97, 32, 108, 101, 110, 32, 42, 32, 101, 109, 105, 116]
def wf1 : Fo := (.cons 1 0 .nil (.cons 2 0 .nil (.cons 3 0 .nil (.cons 7 0 .nil (.cons 30 0 .nil .nil)))))
theorem wp1 : Prog (ba wt1) (.ok wf1 [] 5) := prog_is (by decide) (by rw [L_ba]; rfl)
def wt2 : List UInt8 := [48, 32, 118, 32, 117, 56, 32, 101, 109, 105, 116]
def wf2 : Fo := (.cons 1 0 .nil (.cons 4 0 .nil (.cons 19 0 .nil (.cons 30 0 .nil .nil))))
theorem wp2 : Prog (ba wt2) (.ok wf2 [] 4) := prog_is (by decide) (by rw [L_ba]; rfl)
def wt3 : List UInt8 := [48, 32, 118, 32, 115, 49, 54, 32, 101, 109, 105, 116]
def wf3 : Fo := (.cons 1 0 .nil (.cons 4 0 .nil (.cons 23 0 .nil (.cons 30 0 .nil .nil))))
theorem wp3 : Prog (ba wt3) (.ok wf3 [] 4) := prog_is (by decide) (by rw [L_ba]; rfl)
def wt4 : List UInt8 := [48, 32, 118, 32, 51, 32, 62, 62, 62, 32, 101, 109, 105, 116]
def wf4 : Fo := (.cons 1 0 .nil (.cons 4 0 .nil (.cons 1 3 .nil (.cons 15 0 .nil (.cons 30 0 .nil .nil)))))
theorem wp4 : Prog (ba wt4) (.ok wf4 [] 5) := prog_is (by decide) (by rw [L_ba]; rfl)
def wt5 : List UInt8 := [48, 32, 118, 32, 118, 32, 118, 32, 94, 32, 43, 32, 101, 109, 105, 116]
def wf5 : Fo := (.cons 1 0 .nil (.cons 4 0 .nil (.cons 4 0 .nil (.cons 4 0 .nil (.cons 12 0 .nil (.cons 5 0 .nil (.cons 30 0 .nil .nil)))))))
theorem wp5 : Prog (ba wt5) (.ok wf5 [] 7) := prog_is (by decide) (by rw [L_ba]; rfl)
def wt6 : List UInt8 := [48, 32, 118, 32, 100, 117, 112, 32, 61, 32, 101, 109, 105, 116]
def wf6 : Fo := (.cons 1 0 .nil (.cons 4 0 .nil (.cons 25 0 .nil (.cons 17 0 .nil (.cons 30 0 .nil .nil)))))
theorem wp6 : Prog (ba wt6) (.ok wf6 [] 5) := prog_is (by decide) (by rw [L_ba]; rfl)
def wt7 : List UInt8 := [49, 32, 114, 101, 112, 32, 91, 32, 48, 32, 118, 32, 101, 109, 105, 116, 32, 93]
def wf7 : Fo := (.cons 1 1 .nil (.cons 29 0 (.cons 1 0 .nil (.cons 4 0 .nil (.cons 30 0 .nil .nil))) .nil))
theorem wp7 : Prog (ba wt7) (.ok wf7 [] 5) := prog_is (by decide) (by rw [L_ba]; rfl)
def wt8 : List UInt8 := [118, 32, 48, 32, 60, 32, 105, 102, 32, 91, 32, 48, 32, 49, 32, 101, 109, 105, 116, 32, 93, 32, 118, 32, 48, 32, 60, 32, 110, 111, 116, 32, 105, 102, 32, 91, 32, 48, 32, 50, 32, 101, 109, 105, 116, 32, 93]
def wf8 : Fo := (.cons 4 0 .nil (.cons 1 0 .nil (.cons 16 0 .nil (.cons 28 0 (.cons 1 0 .nil (.cons 1 1 .nil (.cons 30 0 .nil .nil))) (.cons 4 0 .nil (.cons 1 0 .nil (.cons 16 0 .nil (.cons 18 0 .nil (.cons 28 0 (.cons 1 0 .nil (.cons 1 2 .nil (.cons 30 0 .nil .nil))) .nil)))))))))
theorem wp8 : Prog (ba wt8) (.ok wf8 [] 15) := prog_is (by decide) (by rw [L_ba]; rfl)
def wt9 : List UInt8 := [48, 32, 118, 32, 48, 32, 47, 32, 101, 109, 105, 116]
def wf9 : Fo := (.cons 1 0 .nil (.cons 4 0 .nil (.cons 1 0 .nil (.cons 8 0 .nil (.cons 30 0 .nil .nil)))))
theorem wp9 : Prog (ba wt9) (.ok wf9 [] 5) := prog_is (by decide) (by rw [L_ba]; rfl)
def wt10 : List UInt8 := [49, 32, 48, 32, 115, 119, 97, 112, 32, 101, 109, 105, 116]
def wf10 : Fo := (.cons 1 1 .nil (.cons 1 0 .nil (.cons 26 0 .nil (.cons 30 0 .nil .nil))))
theorem wp10 : Prog (ba wt10) (.ok wf10 [] 4) := prog_is (by decide) (by rw [L_ba]; rfl)
def wt11 : List UInt8 := [48, 32, 118, 32, 49, 32, 50, 32, 112, 111, 112, 32, 112, 111, 112, 32, 101, 109, 105, 116]
def wf11 : Fo := (.cons 1 0 .nil (.cons 4 0 .nil (.cons 1 1 .nil (.cons 1 2 .nil (.cons 27 0 .nil (.cons 27 0 .nil (.cons 30 0 .nil .nil)))))))
theorem wp11 : Prog (ba wt11) (.ok wf11 [] 7) := prog_is (by decide) (by rw [L_ba]; rfl)
/-- What a small program does with a record. -/
def Does (f : Fo) (v z : Int) : Prop := ∃ n, runR f ((7, abc), v) 100 = (0, n, [((0, abc), z)])
theorem does_mk {f : Fo} {v z : Int} {s : St} (h : cE f = 0) (he : ev ((7, abc), v) f ⟨100, [], []⟩ = .ok s) (ho : s.out = [((0, abc), z)]) : Does f v z :=
  ⟨s.fu, by rw [show (100 : Int) = ((100 : Nat) : Int) from rfl, runR_4 h (show abc.size ≤ 64 by decide) (by decide) he, ho]⟩
theorem wdo0 (v : Int) : Does wf0 v (wrap64 (v + 1)) := does_mk (s := ⟨95, [], [((0, abc), wrap64 (v + 1))]⟩) (by rfl) (by rfl) rfl
theorem wdo1 (v : Int) : Does wf1 v 21 := does_mk (s := ⟨95, [], [((0, abc), wrap64 (7 * (abc.size : Int)))]⟩) (by rfl) (by rfl) (by rw [show wrap64 (7 * (abc.size : Int)) = 21 by (rw [show (abc.size : Int) = 3 from rfl]; unfold wrap64; omega)])
theorem wdo2 (v : Int) : Does wf2 v (v % 256) := does_mk (s := ⟨96, [], [((0, abc), v % 256)]⟩) (by rfl) (by rfl) rfl
theorem wdo3 (v : Int) : Does wf3 v (wrap64 (IntKind.i16.wrap v)) := does_mk (s := ⟨96, [], [((0, abc), wrap64 (IntKind.i16.wrap v))]⟩) (by rfl) (by rfl) rfl
theorem wdo4 (v : Int) : Does wf4 v (wrap64 (IntKind.u64.wrap v / 2 ^ 3)) := does_mk (s := ⟨95, [], [((0, abc), wrap64 (IntKind.u64.wrap v / 2 ^ 3))]⟩) (by rfl) (by rfl) rfl
theorem wdo5 (v : Int) (h1 : -9223372036854775808 ≤ v) (h2 : v ≤ 9223372036854775807) : Does wf5 v v := by
  refine does_mk (s := ⟨93, [], [((0, abc), wrap64 (v + bits .xor .i64 v v))]⟩) (by rfl) (by rfl) ?_
  rw [xor_self]
  have : wrap64 (v + 0) = v := by unfold wrap64; omega
  rw [this]
theorem wdo6 (v : Int) : Does wf6 v 1 := by
  refine does_mk (s := ⟨95, [], [((0, abc), tru (v == v))]⟩) (by rfl) (by rfl) ?_
  rw [show (v == v) = true by simp]
  rfl
theorem wdo7 (v : Int) : Does wf7 v (v) := does_mk (s := ⟨95, [], [((0, abc), v)]⟩) (by rfl) (by rfl) rfl
theorem wd8_neg (v : Int) (h : v < 0) : Does wf8 v 1 := by
  have hd : decide (v < 0) = true := decide_eq_true h
  refine does_mk (s := ⟨88, [], [((0, abc), 1)]⟩) (by rfl) ?_ rfl
  simp [wf8, ev, stp, gv, of2, of1, hd, tru, rep, often, Go.Proofs.Ytkmnpaiippgnmaa.hd]
theorem wd8_pos (v : Int) (h : ¬ v < 0) : Does wf8 v 2 := by
  have hd : decide (v < 0) = false := decide_eq_false h
  refine does_mk (s := ⟨88, [], [((0, abc), 2)]⟩) (by rfl) ?_ rfl
  simp [wf8, ev, stp, gv, of2, of1, hd, tru, rep, often, Go.Proofs.Ytkmnpaiippgnmaa.hd]
theorem wdo9 (v : Int) : Does wf9 v (0) := does_mk (s := ⟨95, [], [((0, abc), 0)]⟩) (by rfl) (by rfl) rfl
theorem wdo10 (v : Int) : Does wf10 v (1) := does_mk (s := ⟨96, [], [((0, abc), 1)]⟩) (by rfl) (by rfl) rfl
theorem wdo11 (v : Int) : Does wf11 v (v) := does_mk (s := ⟨93, [], [((0, abc), v)]⟩) (by rfl) (by rfl) rfl
end Go.Proofs.Ytkmnpaiippgnmaa
