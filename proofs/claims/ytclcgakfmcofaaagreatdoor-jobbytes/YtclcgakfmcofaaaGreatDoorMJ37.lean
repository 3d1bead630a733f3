/- Texts laid together: GRTk, MRTk. -/
import Derived.Test.YtclcgakfmcofaaaGreatDoorMJ7
import Derived.Test.YtclcgakfmcofaaaGreatDoorMJ36
import Derived.Test.YtclcgakfmcofaaaGreatDoorMJ28
import Derived.Test.YtclcgakfmcofaaaGreatDoorMJ35
import Derived.Test.YtclcgakfmcofaaaGreatDoorMJ8
/- Which cell bytes begin with: the page's. -/
namespace Go.Proofs.YtclcgakfmcofaaaGreatDoor
open Go.RowKit
set_option linter.unusedVariables false
set_option maxRecDepth 100000

/-- The result's cell and the one that is read. -/
structure TW (w W : World) (n : Int) (v : Value) : Prop where
  bel : Below w.heap.size w W
  br : BlkC W w.heap.size 0 (.slice none 0 0)
  bc : BlkC W (w.heap.size + 1) n v
  sz : w.heap.size + 2 ≤ W.heap.size
theorem TW.next {w W W' : World} {n : Int} {v : Value} (h : TW w W n v) (hb : Below W.heap.size W W') : TW w W' n v :=
  ⟨nxt h.bel hb, h.br.below hb, h.bc.below hb, by have := hb.size; have := h.sz; omega⟩
/-- What holds all along the reading of a set. -/
structure TkP (w : World) (s : ByteArray) (m : Nat) (R : List Int × Int × Int) (j n : Nat) (l : List Int) (v : Value) (W : World) : Prop where
  rd : rdN (m - j) s n l = R
  len : l.length = j
  fit : n ≤ s.size
  own : OwnL W (w.heap.size + 2) v l
  tw : TW w W 0 v
theorem TkP.app {w : World} {s : ByteArray} {m : Nat} {R : List Int × Int × Int} {j n : Nat} {l : List Int} {v : Value} {W : World} (h : TkP w s m R j n l v W) {v' : Value} {W' : World} {x : Int} (ho : OwnL W' (w.heap.size + 2) v' (l ++ [x])) (hb : ∀ w0, Below (w.heap.size + 2) w0 W → Below (w.heap.size + 2) w0 W') :
    BlkC W' (w.heap.size + 1) 0 v ∧ (OwnL (W'.setCell ⟨w.heap.size + 1, 1, none⟩ v') (w.heap.size + 2) v' (l ++ [x]) ∧ TW w (W'.setCell ⟨w.heap.size + 1, 1, none⟩ v') 0 v') := by
  have hbl := hb W (Below.refl _ _)
  have keep : ∀ {b : Nat} {n : Int} {u : Value}, BlkC W b n u → b < w.heap.size + 2 → BlkC W' b n u := fun h1 h2 => by unfold BlkC; rw [hbl.block _ h2]; exact h1
  have k1 := keep h.tw.br (by omega)
  have k2 := keep h.tw.bc (by omega)
  refine ⟨k2, own_set1 ho (by omega) _, ⟨below_set1 (h.tw.bel.trans (hbl.mono (by omega))) (by omega) _, ?_, k2.set1 _, by have := hbl.size; have := h.tw.sz; simp [World.setCell]; omega⟩⟩
  unfold BlkC
  rw [Below.heap_setCell _ _ _ _ (by show w.heap.size ≠ w.heap.size + 1; omega)]
  exact k1
end Go.Proofs.YtclcgakfmcofaaaGreatDoor
/- The page's own: rows that any bytes are. -/
namespace Go.Proofs.YtclcgakfmcofaaaGreatDoor
open Go.RowKit
set_option linter.unusedVariables false
set_option maxRecDepth 100000
end Go.Proofs.YtclcgakfmcofaaaGreatDoor
