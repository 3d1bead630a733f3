/- Two cells together: the program's. -/
import Derived.Test.YtejgcflcckjlpaaDoorOC13
import Derived.Test.YtejgcflcckjlpaaDoorOC15
namespace Go.Proofs.YtejgcflcckjlpaaDoor
open Go.RowKit
set_option linter.unusedVariables false
set_option maxRecDepth 100000

/-- What Join answers, whatever comes. -/
def joinR (agg bound : Int) (a b : Cl) : Cl × Int := if chk agg bound a && chk agg bound b then joinC agg bound.toNat a b else ((0, []), 1)
theorem chk_may {agg bound : Int} {c : Cl} (h : chk agg bound c = true) : wayC agg bound = true ∧ mayC agg bound.toNat c = true := by simpa [chk] using h
theorem may_rise {bound : Nat} {c : Cl} (h : mayC 6 bound c = true) : c.1 = 0 ∧ Rise c.2 ∧ c.2.length ≤ bound := by
  rw [may6] at h
  simp only [Bool.and_eq_true, decide_eq_true_eq] at h
  exact ⟨h.1.1, h.2, h.1.2⟩
theorem may_num {agg : Int} {bound : Nat} {c : Cl} (h6 : agg ≠ 6) (h : mayC agg bound c = true) : c.2 = [] ∧ nP agg c.1 := by
  unfold mayC at h
  rw [if_neg h6] at h
  simp only [Bool.and_eq_true, decide_eq_true_eq] at h
  exact ⟨h.1, h.2⟩
/-- The two boxes and the result's cell. -/
structure JW (w W : World) (a b : Cl) (va vb : Value) : Prop where
  bel : Below w.heap.size w W
  sz : W.heap.size = w.heap.size + 3
  ba : BlkC W w.heap.size a.1 va
  bb : BlkC W (w.heap.size + 1) b.1 vb
  br : BlkC W (w.heap.size + 2) 0 (.slice none 0 0)
def jw (w : World) (a b : Cl) (va vb : Value) : World := ((w.alloc (.cells #[.int .i64 a.1, va] 55)).alloc (.cells #[.int .i64 b.1, vb] 55)).alloc (.cells #[.int .i64 0, .slice none 0 0] 55)
theorem jw_ok (w : World) (a b : Cl) (va vb : Value) : JW w (jw w a b va vb) a b va vb := by
  have n1 := BlkC.new w a.1 va
  have n2 := BlkC.new (w.alloc (.cells #[.int .i64 a.1, va] 55)) b.1 vb
  have n3 := BlkC.new ((w.alloc (.cells #[.int .i64 a.1, va] 55)).alloc (.cells #[.int .i64 b.1, vb] 55)) 0 (.slice none 0 0)
  have st : ∀ (W : World) (o : Obj), Below W.heap.size W (W.alloc o) := fun W o => (Below.refl _ _).alloc (Nat.le_refl _) _
  refine ⟨nxt (nxt (st _ _) (st _ _)) (st _ _), by simp [jw], (n1.below (st _ _)).below (st _ _), ?_, ?_⟩
  · have := n2.below (st _ (.cells #[.int .i64 0, .slice none 0 0] 55))
    simpa [jw] using this
  · simpa [jw] using n3
theorem JW.next {w W W' : World} {a b : Cl} {va vb : Value} (h : JW w W a b va vb) (hb : Below W.heap.size W W') : Below w.heap.size w W' ∧ BlkC W' w.heap.size a.1 va ∧ BlkC W' (w.heap.size + 1) b.1 vb ∧ BlkC W' (w.heap.size + 2) 0 (.slice none 0 0) ∧ w.heap.size + 3 ≤ W'.heap.size :=
  ⟨nxt h.bel hb, h.ba.below hb, h.bb.below hb, h.br.below hb, by have := hb.size; have := h.sz; omega⟩
theorem ret_store {w W : World} {b : Nat} {n : Int} {e0 : Int} (h : Below w.heap.size w W) (hb : w.heap.size ≤ b) : CellR w (n, []) e0 (.returned (.tuple #[.agg #[.int .i64 n, .slice none 0 0], .int .i64 e0])) ((W.setCell ⟨b, 0, none⟩ (.int .i64 n)).setCell ⟨b, 1, none⟩ (.slice none 0 0)) :=
  ⟨⟨_, rfl, OwnC.num _ _ _⟩, below_set h hb _ _⟩
end Go.Proofs.YtejgcflcckjlpaaDoor
