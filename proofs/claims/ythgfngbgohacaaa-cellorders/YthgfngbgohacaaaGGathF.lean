/- Numbers gathered from the front, from the end, or in halves: the walk. -/
import Derived.Test.YthgfngbgohacaaaGGath
import Derived.Deep.CutBlock
import Derived.Deep.CutRange
namespace Go.Proofs.Ythgfngbgohacaaa
open Go.RowKit
set_option linter.unusedVariables false
set_option maxRecDepth 100000

/-- The result's cell, in whatever world comes behind. -/
theorem res_new (w : World) : ∀ W, Below (w.heap.size + 1) (w.alloc (.cells #[.int .i64 0, .slice none 0 0] 29)) W → BlkC W w.heap.size 0 (.slice none 0 0) ∧ Below w.heap.size w W := fun W h => by
  have h' : Below (w.alloc (.cells #[.int .i64 0, .slice none 0 0] 29)).heap.size (w.alloc (.cells #[.int .i64 0, .slice none 0 0] 29)) W := by simpa using h
  exact ⟨(BlkC.new w _ _).below h', nxt (stp _ _) h'⟩
set_option maxHeartbeats 2000000 in
theorem gather1 (agg bound way v : Int) (a : Option Addr) (cap : Nat) (w : World) (hw : wayC agg bound = true) (h : GIn w a cap [v]) :
    Calls Try.prog 25 #[.int .i64 agg, .int .i64 bound, .slice a 1 cap, .int .i64 way] w (CellR w (oneC agg v) 0) := by
  obtain ⟨W0, hW0⟩ : ∃ W0 : World, w.alloc (.cells #[.int .i64 0, .slice none 0 0] 29) = W0 := ⟨_, rfl⟩
  have hb0 : Below w.heap.size w W0 := by rw [← hW0]; exact stp _ _
  have hB0 : BlkC W0 w.heap.size 0 (.slice none 0 0) := by rw [← hW0]; exact BlkC.new _ _ _
  have H1 := hidM (cone_any agg bound v W0)
  rw [oneR_of v hw] at H1
  have H3 := hidM num_any
  obtain ⟨p, o, rfl, hcv⟩ := longs_at (h.ns.below hb0) 0 v rfl
  have hc0 := hcv W0 (Below.refl _ _)
  have HC0 := hidM hc0
  have HW0 := hidM hW0
  have NX := hidM (fun W (hb : Below W0.heap.size W0 W) => nxt hb0 hb)
  have HB0 := hidM hB0
  have HLT := hidM hB0.lt
  rw [← hW0, Nat.add_zero] at hc0
  generalize oneC agg v = d at *
  clear hb0 hB0 hcv h hW0
  go_enter Try.func25, Try.ntmps25
  go_wp2_with (go_at_call 11; rw [HW0.out]; refine H1.out.mono ?_; rintro e W2 ⟨⟨v2, rfl, a2, c2, rfl, ho2⟩, hb2⟩)
  have hbx := nxt hb2 (stp W2 (.cells #[.int .i64 d.1, .slice a2 d.2.length c2] 29))
  have hB1 := HB0.out.below hbx
  have hB2 := BlkC.new W2 d.1 (.slice a2 d.2.length c2)
  have HO := hidM (ho2.below (stp W2 (.cells #[.int .i64 d.1, .slice a2 d.2.length c2] 29)))
  generalize hW3 : W2.alloc (.cells #[.int .i64 d.1, .slice a2 d.2.length c2] 29) = W3 at *
  obtain ⟨c0, c1, f0, f1⟩ := hB1.cells
  obtain ⟨-, c1', -, f1'⟩ := (hB1.set0 d.1).cells
  obtain ⟨d0, d1, -, -⟩ := hB2.cells
  go_region_with (go_at_call 13; refine (H3.out _ _).mono ?_; rintro e w' ⟨rfl, hww⟩; obtain rfl := hww.symm)
  all_goals
    go_wp2
    exact bodyPost_ret (results_cell2 rfl rfl (hB1.drewN 1).set.load) rfl ⟨⟨_, rfl, _, _, rfl, (own_set HO.out (by have := HLT.out; omega) _ _).lower (by have := HLT.out; omega)⟩, below_set (NX.out _ (nxt hbx (drw _))) (Nat.le_refl _) _ _⟩
end Go.Proofs.Ythgfngbgohacaaa
