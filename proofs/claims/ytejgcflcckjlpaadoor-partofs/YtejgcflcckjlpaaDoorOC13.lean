/- Two sets together. -/
import Derived.Test.YtejgcflcckjlpaaDoorOC11
import Derived.Test.YtejgcflcckjlpaaDoorOC12
namespace Go.Proofs.YtejgcflcckjlpaaDoor
open Go.RowKit
set_option linter.unusedVariables false
set_option maxRecDepth 100000

theorem grownBy_set (w : World) (g q : Nat) (u : Value) : w.grownBy (w.setCell ⟨g, q, none⟩ u) (some g) :=
  ⟨rfl, rfl, rfl, by simp [World.setCell], fun k hk hne => Below.heap_setCell _ _ _ _ (fun e => hne (by rw [e]))⟩
theorem grownBy_below {w W W' : World} {base : Nat} {v : Value} (hb : Below base w W) (hg : W.grownBy W' v.ownBlock) (hs : base ≤ W.heap.size) (ho : ∀ k, v.ownBlock = some k → base ≤ k) : Below base w W' := hb.grown hg hs ho
/-- A cell's block, anew. -/
theorem BlkC.set {W : World} {b : Nat} {n m : Int} {v u : Value} (h : BlkC W b n v) : BlkC ((W.setCell ⟨b, 0, none⟩ (.int .i64 m)).setCell ⟨b, 1, none⟩ u) b m u := by
  unfold BlkC at h ⊢
  simp only [World.setCell, Array.getElem?_modify, h]
  simp
theorem BlkC.set0 {W : World} {b : Nat} {n : Int} (m : Int) {v : Value} (h : BlkC W b n v) : BlkC (W.setCell ⟨b, 0, none⟩ (.int .i64 m)) b m v := by
  unfold BlkC at h ⊢
  simp only [World.setCell, Array.getElem?_modify, h]
  simp
theorem below_set {w W : World} {b : Nat} (h : Below w.heap.size w W) (hb : w.heap.size ≤ b) (m : Int) (u : Value) : Below w.heap.size w ((W.setCell ⟨b, 0, none⟩ (.int .i64 m)).setCell ⟨b, 1, none⟩ u) := by
  refine ⟨h.os, h.tape, h.output, by simp [World.setCell]; exact h.size, fun k hk => ?_⟩
  rw [Below.heap_setCell _ _ _ _ (by show k ≠ b; omega), Below.heap_setCell _ _ _ _ (by show k ≠ b; omega)]
  exact h.block k hk
theorem own_set {W : World} {base b : Nat} {v : Value} {l : List Int} (h : OwnL W base v l) (hb : b < base) (m : Int) (u : Value) : OwnL ((W.setCell ⟨b, 0, none⟩ (.int .i64 m)).setCell ⟨b, 1, none⟩ u) base v l := by
  have one : ∀ (W : World) (o : Nat) (x : Value), OwnL W base v l → OwnL (W.setCell ⟨b, o, none⟩ x) base v l := fun W o x h => h.kept (grownBy_set _ _ _ _) (.inr fun e => by have := own_row h b e; omega)
  exact one _ _ _ (one _ _ _ h)
/-- What lies behind the three calls. -/
theorem sets_world {w W1 W2 W3 W4 : World} {v2 : Value} {l2 l3 : List Int} (hb1 : Below w.heap.size w W1) (hB1 : BlkC W1 w.heap.size 0 (.slice none 0 0)) (hz : W1.heap.size = w.heap.size + 2) (hb2 : Below W1.heap.size W1 W2) (ho2 : OwnL W2 W1.heap.size v2 l2) (ho3 : OwnL W3 W1.heap.size v2 l3) (hg3 : W2.grownBy W3 v2.ownBlock) (hg4 : W3.grownBy W4 v2.ownBlock) :
    BlkC W4 w.heap.size 0 (.slice none 0 0) ∧ Below w.heap.size w W4 := by
  have b3 : Below W1.heap.size W1 W3 := hb2.grown hg3 hb2.size (own_row ho2)
  have b4 : Below W1.heap.size W1 W4 := b3.grown hg4 b3.size (own_row ho3)
  exact ⟨hB1.below b4, nxt hb1 b4⟩
def joinS (bound : Nat) (a b : List Int) : Cl × Int := if (uni a b).length ≤ bound then ((0, uni a b), 0) else ((0, []), 11)
end Go.Proofs.YtejgcflcckjlpaaDoor
