/- What stage 8's laws call: num, wakes, Heavy; what holds all along a law. -/
import Derived.Test.YtaagllbcmgnbnabGreatDoorMC18
import Derived.Test.YtaagllbcmgnbnabGreatDoorMC50
namespace Go.Proofs.YtaagllbcmgnbnabGreatDoor
open Go.RowKit
set_option linter.unusedVariables false
set_option maxRecDepth 100000
/-- All along the law: the ask's box, and nothing that was there has turned. -/
structure AskE (vs vl vr vf : Value) (l : List ByteArray) (f : Fo) (lr : List Rc) (lf : List Int) (w wr : World) : Prop where
  bel : Below (w.alloc (.cells #[vs, vl, vr, vf] 31)).heap.size (w.alloc (.cells #[vs, vl, vr, vf] 31)) wr
  inn : In8 wr vs vl vr vf l f lr lf
theorem In8.below {W W' : World} {vs vl vr vf : Value} {l : List ByteArray} {f : Fo} {lr : List Rc} {lf : List Int} (h : In8 W vs vl vr vf l f lr lf) (hb : Below W.heap.size W W') : In8 W' vs vl vr vf l f lr lf :=
  ⟨⟨h.s.1.below hb, h.s.2⟩, ⟨h.f.1.below hb, h.f.2⟩, ⟨h.r.1.below hb, h.r.2⟩, ⟨h.n.1.below hb, h.n.2⟩⟩
theorem AskE.start {w : World} {vs vl vr vf : Value} {l : List ByteArray} {f : Fo} {lr : List Rc} {lf : List Int} (h : In8 w vs vl vr vf l f lr lf) : AskE vs vl vr vf l f lr lf w (w.alloc (.cells #[vs, vl, vr, vf] 31)) :=
  ⟨Below.refl _ _, h.below ((Below.refl w.heap.size w).alloc (Nat.le_refl _) _)⟩
theorem AskE.call {w wr w' : World} {vs vl vr vf : Value} {l : List ByteArray} {f : Fo} {lr : List Rc} {lf : List Int} (h : AskE vs vl vr vf l f lr lf w wr) (hb : Below wr.heap.size wr w') : AskE vs vl vr vf l f lr lf w w' :=
  ⟨h.bel.trans (hb.mono h.bel.size), h.inn.below hb⟩
theorem AskE.out {w wr : World} {vs vl vr vf : Value} {l : List ByteArray} {f : Fo} {lr : List Rc} {lf : List Int} (h : AskE vs vl vr vf l f lr lf w wr) : Below w.heap.size w wr :=
  ((Below.refl w.heap.size w).alloc (Nat.le_refl _) _).trans (h.bel.mono (by simp))
theorem AskE.lt {w wr : World} {vs vl vr vf : Value} {l : List ByteArray} {f : Fo} {lr : List Rc} {lf : List Int} (h : AskE vs vl vr vf l f lr lf w wr) : w.heap.size < wr.heap.size := by
  have := h.bel.size
  simp at this
  omega
theorem AskE.cells {w wr : World} {vs vl vr vf : Value} {l : List ByteArray} {f : Fo} {lr : List Rc} {lf : List Int} (h : AskE vs vl vr vf l f lr lf w wr) : wr.cell? ⟨w.heap.size, 0, none⟩ = some vs ∧ wr.cell? ⟨w.heap.size, 1, none⟩ = some vl ∧ wr.cell? ⟨w.heap.size, 2, none⟩ = some vr ∧ wr.cell? ⟨w.heap.size, 3, none⟩ = some vf := by
  have e := h.bel.block w.heap.size (by simp)
  have hn : (w.alloc (.cells #[vs, vl, vr, vf] 31)).heap[w.heap.size]? = some (.cells #[vs, vl, vr, vf] 31 (0, 0)) := heap_alloc_new w _
  rw [hn] at e
  refine ⟨?_, ?_, ?_, ?_⟩ <;> simp [World.cell?, e]
end Go.Proofs.YtaagllbcmgnbnabGreatDoor
