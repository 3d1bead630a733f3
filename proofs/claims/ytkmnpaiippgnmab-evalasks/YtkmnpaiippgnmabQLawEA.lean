/- EvalAsks: the walk. -/
import Derived.Test.YtkmnpaiippgnmabQETwo
namespace Go.Proofs.Ytkmnpaiippgnmab
open Go.RowKit
set_option linter.unusedVariables false
set_option maxRecDepth 100000

theorem lawea (vs vl vr vf : Value) (l : List ByteArray) (f : Fo) (lr : List Rc) (lf : List Int) (w : World) (h : In8 w vs vl vr vf l f lr lf) :
    Calls Try.prog 4 #[.agg #[vs, vl, vr, vf]] w fun e w' => e = .returned (.bool true) ∧ Below w.heap.size w w' := by
  have hB1 := (Below.refl w.heap.size w).alloc (Nat.le_refl _) (.cells #[vs, vl, vr, vf] 29)
  have hB2 := hB1.alloc (w := w.alloc (.cells #[vs, vl, vr, vf] 29)) (by simp) (.cells #[.string ⟨#[60]⟩, .string ⟨#[61]⟩] 9)
  have hS : SS ((w.alloc (.cells #[vs, vl, vr, vf] 29)).alloc (.cells #[.string ⟨#[60]⟩, .string ⟨#[61]⟩] 9)) (.slice (some ⟨w.heap.size + 1, 0, none⟩) 2 2) (([[60], [61]] : List (List UInt8)).map ba) := by
    have hb : ((w.alloc (.cells #[vs, vl, vr, vf] 29)).alloc (.cells #[.string ⟨#[60]⟩, .string ⟨#[61]⟩] 9)).heap[(w.alloc (.cells #[vs, vl, vr, vf] 29)).heap.size]? = some (.cells #[.string ⟨#[60]⟩, .string ⟨#[61]⟩] 9 (0, 0)) := heap_alloc_new _ _
    rw [show (w.alloc (.cells #[vs, vl, vr, vf] 29)).heap.size = w.heap.size + 1 by simp] at hb
    exact ⟨_, 2, rfl, .inr ⟨w.heap.size + 1, 0, rfl, (Array.getElem?_eq_some_iff.1 hb).1, strsAt_of_block hb rfl⟩⟩
  have H2 := hidM (two_any [[60], [61]] (by
    intro u hu
    simp only [List.mem_cons, List.not_mem_nil, or_false] at hu
    rcases hu with rfl | rfl
    · exact ⟨_, wd_16⟩
    · exact ⟨_, wd_17⟩) (by decide) _ vs vl vr vf l f lr lf _ (h.below hB2) hS)
  have HB2 := hidM hB2
  obtain ⟨a, cap, hvs, _⟩ := h.s.1
  obtain ⟨a', cap', hvl⟩ := h.f.1.val
  obtain ⟨ar, capr, hvr, _⟩ := h.r.1
  obtain ⟨af, capf, hvf, _⟩ := h.n.1
  subst hvs hvl hvr hvf
  clear h hB1 hB2 hS
  go_enter Try.func4, Try.ntmps4
  go_wp2_with fail
  refine H2.out.mono ?_
  rintro e w1 ⟨rfl, hb1⟩
  have hfin := HB2.out.trans (hb1.mono (by simp; omega))
  go_wp2
  go_ret
  exact ⟨rfl, hfin⟩
end Go.Proofs.Ytkmnpaiippgnmab
