/- Two cells together: the page's. -/
import Derived.Test.YtejgcflcckjlpaaGreatDoorBC14
import Derived.Test.YtejgcflcckjlpaaGreatDoorBC15
namespace Go.Proofs.YtejgcflcckjlpaaGreatDoor
open Go.RowKit
set_option linter.unusedVariables false
set_option maxRecDepth 100000

theorem jw_num (w : World) (a b : Cl) (va vb : Value) (n : Int) : BlkC (((w.alloc (.cells #[.int .i64 a.1, va] 45)).alloc (.cells #[.int .i64 b.1, vb] 45)).alloc (.cells #[.int .i64 n, .slice none 0 0] 45)) (w.heap.size + 1 + 1) n (.slice none 0 0) ∧
    Below w.heap.size w (((w.alloc (.cells #[.int .i64 a.1, va] 45)).alloc (.cells #[.int .i64 b.1, vb] 45)).alloc (.cells #[.int .i64 n, .slice none 0 0] 45)) := by
  have n3 := BlkC.new ((w.alloc (.cells #[.int .i64 a.1, va] 45)).alloc (.cells #[.int .i64 b.1, vb] 45)) n (.slice none 0 0)
  have st : ∀ (W : World) (o : Obj), Below W.heap.size W (W.alloc o) := fun W o => (Below.refl _ _).alloc (Nat.le_refl _) _
  exact ⟨by simpa using n3, nxt (nxt (st _ _) (st _ _)) (st _ _)⟩
/-- What holds all along the merging. -/
structure MJR (W0 : World) (a b : List Int) (i k : Nat) (l : List Int) (v : Value) (W : World) : Prop where
  mj : MJ a b i k l
  own : OwnL W W0.heap.size v l
  bel : Below W0.heap.size W0 W
theorem MJR.len {W0 W : World} {a b l : List Int} {i k : Nat} {v : Value} (h : MJR W0 a b i k l v W) (hi : i ≤ 50000) (hk : k ≤ 50000) : l.length ≤ 1000000 := by have := h.mj.len; omega
theorem MJR.drew {W0 W : World} {a b l : List Int} {i k : Nat} {v : Value} (h : MJR W0 a b i k l v W) (q : Nat) : OwnL (W.drewN q) W0.heap.size v l ∧ Below W0.heap.size W0 (W.drewN q) := ⟨h.own, h.bel.trans ((Drawn.refl W).step q |>.below _)⟩
end Go.Proofs.YtejgcflcckjlpaaGreatDoor
