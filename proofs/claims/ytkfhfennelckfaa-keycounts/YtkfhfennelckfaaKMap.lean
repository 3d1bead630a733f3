/- Keys as a map's keys. -/
import Derived.Test.YtkfhfennelckfaaKRow
import Derived.Test.YtkfhfennelckfaaKCopy
import Derived.Maps.Own
import Derived.Maps.OwnOps
import Derived.Maps.RangeWalk
import Derived.Maps.OwnSet
import Derived.Maps.Views
import Derived.DeepKeys4
import Derived.WideKeyEntry
namespace Go.Proofs.Ytkfhfennelckfaa
open Go.RowKit Go.Maps
set_option linter.unusedVariables false

theorem Try.rowKey : (30 : TypeId) < Try.prog.types.size := of_decide_eq_true (by kernel_rfl)
theorem Try.wideKey : (match Try.prog.underlying 30 with | some (.array _ _) | some (.struct _) => true | _ => false) = true := by kernel_rfl
theorem klaw : WideMaps.KeyLaw Try.prog 30 := deep_law_laid laidOut (m := 2) (by omega) Try.rowKey (by kernel_rfl) Try.wideKey
theorem law : Keyed Try.prog 30 := Keyed.of_law klaw
theorem zeroE (w : World) : (zeroValue 3).run Try.prog w = .ok (.int .i64 0) w := by kernel_rfl
theorem Try.keyTypeKey : Try.prog.keyType 30 = true := by kernel_rfl
theorem Try.sizeTypes : ∃ n, Try.prog.types.size = n + 1 := by
  have h : (2 : Nat) < Try.prog.types.size := Nat.lt_trans (by decide) Try.rowKey
  exact ⟨Try.prog.types.size - 1, by omega⟩

/-- A key that may be a map's. -/
def Good (x : Ky) : Prop := (-9223372036854775808 ≤ x.1 ∧ x.1 ≤ 9223372036854775807) ∧ x.2.size ≤ maxLen
def klOf (x : Ky) : Lit := .string (keyBytes [.int .i64 x.1, .string x.2.data.toList])
theorem wf_i64 {n : Int} (h : -9223372036854775808 ≤ n ∧ n ≤ 9223372036854775807) : (Lit.int .i64 n).wf = true := by
  simpa [Lit.wf, IntKind.min, IntKind.max, IntKind.signed, IntKind.bits] using h
theorem lits (d : Nat) (c0 c1 : Value) : Try.prog.keyLits (d + 1) 30 [c0, c1] = ((Try.prog.keyLits d 2 [c0]).bind fun a => (Try.prog.keyLits d 9 [c1]).bind fun b => some (a ++ b)) := by
  rw [Program.keyLits.eq_def]
  simp only [Try.underlying30]
  rw [if_pos ⟨by rw [Try.cellsKey]; rfl, by simp⟩]
  simp only [List.mapM_cons, List.mapM_nil, Try.cells2, Try.cells9]
  cases h1 : Try.prog.keyLits d 2 [c0] <;> cases h2 : Try.prog.keyLits d 9 [c1] <;> simp [h1, h2]
theorem lit2 (d : Nat) (c : Value) (l : List Lit) : Try.prog.keyLits (d + 1) 2 [c] = some l ↔ ∃ a : Int, c = .int .i64 a ∧ (-9223372036854775808 ≤ a ∧ a ≤ 9223372036854775807) ∧ l = [.int .i64 a] := by
  constructor
  · intro h
    cases c <;> simp [Program.keyLits, Try.underlying2] at h
    obtain ⟨⟨rfl, hw⟩, rfl⟩ := h
    exact ⟨_, rfl, i64_of_wf hw, rfl⟩
  · rintro ⟨a, rfl, ha, rfl⟩
    simp [Program.keyLits, Try.underlying2, wf_i64 ha]
theorem lit9 (d : Nat) (c : Value) (l : List Lit) : Try.prog.keyLits (d + 1) 9 [c] = some l ↔ ∃ s : ByteArray, c = .string s ∧ s.size ≤ maxLen ∧ l = [.string s.data.toList] := by
  constructor
  · intro h
    cases c <;> simp [Program.keyLits, Try.underlying9] at h
    obtain ⟨hw, rfl⟩ := h
    exact ⟨_, rfl, hw, rfl⟩
  · rintro ⟨a, rfl, ha, rfl⟩
    simp [Program.keyLits, Try.underlying9, ha]
theorem key_mk {x : Ky} (h : Good x) : keyOf Try.prog 30 (.agg #[.int .i64 x.1, .string x.2]) = some (klOf x) := by
  obtain ⟨n, hn⟩ := Try.sizeTypes
  have h1 := (lit2 n (.int .i64 x.1) _).2 ⟨x.1, rfl, h.1, rfl⟩
  have h2 := (lit9 n (.string x.2) _).2 ⟨x.2, rfl, h.2, rfl⟩
  have hf : (Value.agg #[.int .i64 x.1, .string x.2]).formed Try.prog 30 = true := by simp [Value.formed, Try.underlying30, Try.cellsKey]
  unfold keyOf
  simp only [Try.underlying30, Try.keyTypeKey, hf, Bool.and_self, if_true]
  rw [show (Value.agg #[.int .i64 x.1, .string x.2]).cells.toList = [.int .i64 x.1, .string x.2] from rfl, hn, lits, h1, h2]
  rfl
theorem key_inv {v : Value} {l : Lit} (h : keyOf Try.prog 30 v = some l) : ∃ x : Ky, v = .agg #[.int .i64 x.1, .string x.2] ∧ l = klOf x ∧ Good x := by
  obtain ⟨xs, L, rfl, hL, rfl⟩ := keyOf_top Try.wideKey h
  have hlen : xs.toList.length = 2 := by
    rw [Program.keyLits.eq_def] at hL
    simp only [Try.underlying30] at hL
    split at hL
    · rename_i hc
      rw [hc.1, Try.cellsKey]
    · cases hL
  obtain ⟨n, hn⟩ := Try.sizeTypes
  obtain ⟨xl⟩ := xs
  match xl, hlen with
  | [c0, c1], _ =>
    have hL' : Try.prog.keyLits (Try.prog.types.size + 1) 30 [c0, c1] = some L := hL
    rw [hn, lits] at hL'
    cases h1 : Try.prog.keyLits (n + 1) 2 [c0] with
    | none => rw [h1] at hL'; cases hL'
    | some l1 =>
      cases h2 : Try.prog.keyLits (n + 1) 9 [c1] with
      | none => rw [h1, h2] at hL'; cases hL'
      | some l2 =>
        obtain ⟨a, rfl, ha, rfl⟩ := (lit2 _ _ _).1 h1
        obtain ⟨s, rfl, hs, rfl⟩ := (lit9 _ _ _).1 h2
        rw [h1, h2] at hL'
        injection hL' with hL'
        subst hL'
        exact ⟨(a, s), rfl, rfl, ha, hs⟩
theorem kl_inj {x y : Ky} (hx : Good x) (hy : Good y) (h : klOf x = klOf y) : x = y := by
  have h1 := key_mk hx
  have h2 := key_mk hy
  rw [h] at h1
  have := law.inj h1 h2
  injection this with this
  injection this with this
  injection this with e1 e2
  injection e1 with _ e1
  injection e2 with e2 _
  injection e2 with e2
  exact Prod.ext e1 e2
end Go.Proofs.Ytkfhfennelckfaa
