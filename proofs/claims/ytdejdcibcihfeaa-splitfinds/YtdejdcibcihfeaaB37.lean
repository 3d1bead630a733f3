/- The law's wakes (stage 12). -/
import Derived.Test.YtdejdcibcihfeaaB36
namespace Go.Proofs.Ytdejdcibcihfeaa
open Go.RowKit
set_option linter.unusedVariables false
set_option maxRecDepth 100000

def cW : Cfg := ⟨3, [(1, ⟨#[]⟩, [1, 3])], 1, 16⟩
theorem cW_ok : cfgB cW = true := by decide +kernel
theorem cW_next : nextRes cW 1 3 = (1, 0) := by
  rw [nextRes_some cW_ok (by decide) (k := 0) (s := (1, ⟨#[]⟩, [1, 3])) rfl rfl]
  rfl
theorem wakes12_any (w : World) : Calls Try.prog 19 #[] w fun e w' => e = .returned (.bool true) ∧ Below w.heap.size w w' := by
  have st : ∀ (W : World) (o : Obj), Below W.heap.size W (W.alloc o) := fun W o => (Below.refl _ _).alloc (Nat.le_refl _) _
  have HN := hidM num12_any
  obtain ⟨Wa, hWa⟩ : ∃ Wa : World, Wa = w.alloc (.cells #[.int .i64 1, .int .i64 3] 3) := ⟨_, rfl⟩
  have hsa : Wa.heap.size = w.heap.size + 1 := by rw [hWa]; simp
  have hba : Below w.heap.size w Wa := by rw [hWa]; exact st _ _
  have hna : Wa.cell? ⟨w.heap.size, 0, none⟩ = some (.int .i64 1) ∧ Wa.cell? ⟨w.heap.size, 1, none⟩ = some (.int .i64 3) := by
    rw [hWa]
    constructor <;> (unfold World.cell?; rw [heap_alloc_new w _]; rfl)
  obtain ⟨Wb, hWb⟩ : ∃ Wb : World, Wb = Wa.alloc (.cells #[.int .i64 1, .string ⟨#[]⟩, .slice (some ⟨w.heap.size, 0, none⟩) 2 2] 35) := ⟨_, rfl⟩
  have hbb : Below Wa.heap.size Wa Wb := by rw [hWb]; exact st _ _
  have hsb : Wb.heap.size = w.heap.size + 2 := by rw [hWb]; simp; omega
  have BP : BlkP Wb Wa.heap.size (.int .i64 1) (.string ⟨#[]⟩) (.slice (some ⟨w.heap.size, 0, none⟩) 2 2) := by rw [hWb]; exact BlkP.new Wa _ _ _
  rw [hsa] at BP
  have hns : NS Wb (.slice (some ⟨w.heap.size, 0, none⟩) 2 2) [1, 3] := ⟨_, 2, rfl, .inr ⟨w.heap.size, 0, rfl, by omega, fun i x hx => by
    match i, hx with
    | 0, hx => simp at hx; subst hx; exact (hbb.cell (p := ⟨w.heap.size, _, none⟩) (show w.heap.size < Wa.heap.size by omega)).trans hna.1
    | 1, hx => simp at hx; subst hx; exact (hbb.cell (p := ⟨w.heap.size, _, none⟩) (show w.heap.size < Wa.heap.size by omega)).trans hna.2⟩⟩
  have hin : InC Wb cW (.slice (some ⟨w.heap.size + 1, 0, none⟩) 1 1) := by
    obtain ⟨x0, x1, x2⟩ := BP.cells
    refine ⟨by decide, by decide, by decide, ⟨_, 1, rfl, .inr ⟨w.heap.size + 1, 0, rfl, by omega, fun i s hs => ?_⟩⟩, by decide, fun s hs => ?_⟩
    · match i, hs with
      | 0, hs => simp [cW] at hs; subst hs; exact ⟨x0, x1, _, 2, x2, hns, by decide⟩
    · simp [cW] at hs
      subst hs
      exact ⟨by decide, by decide, by decide, by decide⟩
  have H1 := hidM (next12_any cW _ 1 3 Wb hin)
  rw [cW_next] at H1
  have HW := hidM hWb.symm
  have HW2 := hidM hWa
  have HB := hidM (nxt hba hbb)
  clear hWa hWb hba hbb hna BP hns hin st hsa hsb
  go_enter Try.func19, Try.ntmps19
  go_wp2_with fail
  rw [← HW2.out]
  rw [HW.out]
  refine H1.out.mono ?_
  rintro e W1 ⟨rfl, hb1⟩
  go_wp2_with (first | (go_at_call 7; refine (HN.out _ _).mono ?_; rintro e W2 ⟨rfl, hw2⟩; subst W2))
  go_ret
  exact ⟨rfl, nxt HB.out hb1⟩
end Go.Proofs.Ytdejdcibcihfeaa
