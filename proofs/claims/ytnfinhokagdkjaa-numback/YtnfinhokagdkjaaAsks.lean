/- A row of the law's asks (two numbers, a third, a string), as it comes in: what each cell holds. -/
import Derived.Test.YtnfinhokagdkjaaRows
import Derived.WalkKit
import Derived.ProofKit
import Derived.OpenShut
import Derived.ShutString
import Derived.ChangeOld
import Derived.Below
import Derived.Deep.Slices
namespace Go.Proofs.Ytnfinhokagdkjaa
open Go.ChangeShapes Go.WideShapes Go.ChangeAt Go.RowKit Go.Deep
open Go.ChangeMaps (open_string shut_string)
set_option linter.unusedVariables false

theorem own : ownKnob Try.prog.godebug = none := by kernel_rfl
theorem laidOut : laidOutB Try.prog = true := by kernel_rfl
theorem Try.cellsAsk : Try.prog.cellsOf 25 = 4 := by kernel_rfl
theorem Try.cells2 : Try.prog.cellsOf 2 = 1 := by kernel_rfl
theorem Try.cells3 : Try.prog.cellsOf 3 = 1 := by kernel_rfl
theorem Try.cells9 : Try.prog.cellsOf 9 = 1 := by kernel_rfl

/-- A number that an int64 holds. -/
def I64 (n : Int) : Prop := -9223372036854775808 ≤ n ∧ n ≤ 9223372036854775807

/-- What a law is told of its row: it has no element; or it lies at a place, and element i's four cells hold what it says. -/
structure AskAt (w : World) (b off : Nat) (i : Nat) (n by' bits : Int) (x : ByteArray) : Prop where
  c0 : w.cell? ⟨b, off + i * 4, none⟩ = some (.int .i64 n)
  c1 : w.cell? ⟨b, off + i * 4 + 1, none⟩ = some (.int .i64 by')
  c2 : w.cell? ⟨b, off + i * 4 + 2, none⟩ = some (.int .i64 bits)
  c3 : w.cell? ⟨b, off + i * 4 + 3, none⟩ = some (.string x)
  r0 : I64 n
  r1 : I64 by'
  r2 : I64 bits
  r3 : x.size ≤ maxLen

def Asks (w : World) (a : Option Addr) (len : Nat) : Prop :=
  len ≤ maxLen ∧ (len = 0 ∨ ∃ b off, a = some ⟨b, off, none⟩ ∧ b < w.heap.size ∧ ∀ i, i < len → ∃ n by' bits x, AskAt w b off i n by' bits x)

theorem i64_of_wf {n : Int} (h : (Lit.int .i64 n).wf = true) : I64 n := by
  simpa [I64, Lit.wf, IntKind.min, IntKind.max, IntKind.signed, IntKind.bits] using h

theorem open_asks {H : Type} {enc : TypeId × Value → H} {W : World} {a : Option Addr} {len cap : Nat} {d : DataW H} {p : List MemPlace} (h : DataW.Trod enc Try.prog W 0 (fun _ => true) true 22 (.slice a len cap) d p)
    : Asks W a len := by
  obtain ⟨fuel, hf⟩ := h
  rcases open_slice Try.underlying22 hf with ⟨hcs, _⟩ | ⟨x, l, c, m, n, D, Pl, hcs, _, hl, hm, hmm, hx, hel⟩
  · simp [Value.cells] at hcs
    obtain ⟨rfl, rfl, rfl⟩ := hcs
    exact ⟨Nat.zero_le _, .inl rfl⟩
  · simp [Value.cells] at hcs
    obtain ⟨rfl, rfl, rfl⟩ := hcs
    simp at hmm
    subst hmm
    refine ⟨by omega, ?_⟩
    by_cases h0 : len = 0
    · exact .inl h0
    right
    obtain ⟨b, off, spot⟩ := x
    rw [Try.cellsAsk] at hel
    have first := hel 0 (by omega)
    obtain ⟨cs, hc, _⟩ := first
    obtain ⟨_, hcl, hcell⟩ := World.cells?_some hc
    have hspot : spot = none := by
      have e := hcell 0 (by omega)
      match cs, hcl with
      | [v0, v1, v2, v3], _ => simpa [Addr.add] using World.cell?_spot e
    subst hspot
    refine ⟨b, off, rfl, ?_, ?_⟩
    · simpa [add_plain] using World.cells?_block hc (by decide)
    · intro i hi
      obtain ⟨cs, hc, ht⟩ := hel i (by omega)
      obtain ⟨_, hcl, hcell⟩ := World.cells?_some hc
      obtain ⟨xs, k, _, _, _, hxl, hfld⟩ := DataW.trod_struct Try.underlying25 ht
      match cs, hcl, xs, hxl with
      | [v0, v1, v2, v3], _, [y0, y1, y2, y3], _ =>
        have g0 := hfld 0 _ rfl
        have g1 := hfld 1 _ rfl
        have g2 := hfld 2 _ rfl
        have g3 := hfld 3 _ rfl
        simp [Try.cells2, Try.cells3, Try.cells9] at g0 g1 g2 g3
        obtain ⟨n0, e0, _, w0⟩ := DataW.trod_int Try.underlying2 g0
        obtain ⟨n1, e1, _, w1⟩ := DataW.trod_int Try.underlying2 g1
        obtain ⟨n2, e2, _, w2⟩ := DataW.trod_int Try.underlying3 g2
        obtain ⟨s3, e3, _, w3⟩ := DataW.trod_string Try.underlying9 g3
        simp at e0 e1 e2 e3
        subst e0 e1 e2 e3
        have a0 := hcell 0 (by omega)
        have a1 := hcell 1 (by omega)
        have a2 := hcell 2 (by omega)
        have a3 := hcell 3 (by omega)
        rw [add_add, add_plain] at a0 a1 a2 a3
        exact ⟨n0, n1, n2, s3, ⟨by simpa using a0, by simpa [Nat.add_assoc] using a1, by simpa [Nat.add_assoc] using a2, by simpa [Nat.add_assoc] using a3, i64_of_wf w0, i64_of_wf w1, i64_of_wf w2, w3⟩⟩
end Go.Proofs.Ytnfinhokagdkjaa
