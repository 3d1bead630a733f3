/- Zeros made, and a string of them. -/
import Derived.Test.YtaaijlkjbmpegaaDoorLRDec
import Derived.Laws.MakeOwn
import Derived.Laws.OwnMore
import Derived.Laws.BytesArg
namespace Go.Proofs.YtaaijlkjbmpegaaDoor
open Go.RowKit
set_option linter.unusedVariables false
set_option maxRecDepth 100000

theorem Tryd.info5 : (Tryd.prog.info? 5).map (fun i => (i.zero, i.size, i.bytes)) = some (some (.int .u8 0), 1, 1) := by kernel_rfl
theorem zeros (W : World) (n : Nat) (hn : n ≤ 1000000) : ∃ W1 x, (Instr.makeSlice 45 (.int .i64 (n : Int)) (.int .i64 (n : Int))).run Tryd.prog W = .ok (.slice (some ⟨W.heap.size, 0, none⟩) n n) W1 ∧
    (convert 45 9 (.slice (some ⟨W.heap.size, 0, none⟩) n n)).run Tryd.prog W1 = .ok (.string x) W1 ∧ x.size = n ∧ Below W.heap.size W W1 := by
  obtain ⟨i0, hi, hz0, hz1, hz2⟩ := info_parts Tryd.info5
  have hr := run_make (P := Tryd.prog) W 45 5 i0 _ Tryd.underlying45 hi hz0 .i64 .i64 (n : Int) (n : Int) (by omega) (Int.le_refl _) (by rw [hz2]; omega) (by omega)
  rw [hz1, Nat.mul_one, Int.toNat_natCast] at hr
  have hc : ∀ i, i < n → (W.alloc (.cells (madeCells (Value.int .u8 0).cells n) 5)).cell? ⟨W.heap.size, 0 + i, none⟩ = some (.int .u8 ((List.replicate n (0 : Int)).getD i 0)) := by
    intro i hin
    have hl : (madeCells (Value.int .u8 0).cells n).toList = List.replicate n (.int .u8 0) := toList_madeCells_one _ n
    have hs : (madeCells (Value.int .u8 0).cells n)[i]? = some (.int .u8 0) := by
      rw [← Array.getElem?_toList, hl]
      simp [hin]
    unfold World.cell?
    rw [(MapKept.heap_alloc W _).1]
    simp only [Nat.zero_add]
    simp [hs, hin]
  exact ⟨_, _, hr, run_convert_bytes_arg (P := Tryd.prog) _ 45 5 Tryd.underlying45 Tryd.underlying5 W.heap.size 0 n n (List.replicate n 0) (by simp) hc 9 Tryd.underlying9, by rw [strOfNums_size]; simp, (Below.refl _ _).alloc (Nat.le_refl _) _⟩
end Go.Proofs.YtaaijlkjbmpegaaDoor
