/- Of one way alone, numbers gathered one by one, against the page's. -/
import Derived.Test.YthgfngbgohacaaaGLaw
import Derived.Test.YthgfngbgohacaaaGComb
import Derived.Deep.RegionHeld3
namespace Go.Proofs.Ythgfngbgohacaaa
open Go.RowKit
set_option linter.unusedVariables false
set_option maxRecDepth 100000

/-- Numbers that came in, in whatever world comes behind. -/
theorem longs_at {W0 : World} {a : Option Addr} {n cap : Nat} {l : List Int} (h : NS W0 (.slice a n cap) l) : ∀ i x, l[i]? = some x → ∃ p o, a = some ⟨p, o, none⟩ ∧ ∀ W', Below W0.heap.size W0 W' → W'.cell? ⟨p, o + i, none⟩ = some (.int .i64 x) := fun i x hx => by
  obtain ⟨a', c', e, h⟩ := h
  injection e with e1 e2 e3
  subst e1 e3
  rcases h with e | ⟨p, o, rfl, hp, hat⟩
  · rw [e] at hx; simp at hx
  · exact ⟨p, o, rfl, fun W' hW' => hat.below hW' hp i x hx⟩
/-- The law's own box. -/
def Box (W : World) (b : Nat) (agg bound : Int) (vl vv : Value) (x : ByteArray) : Prop := W.heap[b]? = some (askO agg bound vl vv x)
theorem Box.below {W W' : World} {b : Nat} {agg bound : Int} {vl vv : Value} {x : ByteArray} (h : Box W b agg bound vl vv x) (hb : Below W.heap.size W W') : Box W' b agg bound vl vv x := by
  unfold Box; rw [hb.block b (Array.getElem?_eq_some_iff.1 h).1]; exact h
theorem Box.cells {W : World} {b : Nat} {agg bound : Int} {vl vv : Value} {x : ByteArray} (h : Box W b agg bound vl vv x) : W.cell? ⟨b, 0, none⟩ = some (.int .i64 agg) ∧ W.cell? ⟨b, 1, none⟩ = some (.int .i64 bound) ∧ W.cell? ⟨b, 2, none⟩ = some vl ∧ W.cell? ⟨b, 3, none⟩ = some vv ∧ W.cell? ⟨b, 4, none⟩ = some (.string x) := by
  unfold Box at h
  refine ⟨?_, ?_, ?_, ?_, ?_⟩ <;> simp [World.cell?, h]
/-- What is gathered so far. -/
structure WR (W0 : World) (b1 : Nat) (c : Cl) (a : Option Addr) (cap : Nat) (W : World) : Prop where
  bel : Below W0.heap.size W0 W
  hb : W0.heap.size ≤ b1
  blk : BlkC W b1 c.1 (.slice a c.2.length cap)
  ns : NS W (.slice a c.2.length cap) c.2
theorem WR.next {W0 W W' : World} {b1 cap : Nat} {c : Cl} {a : Option Addr} (h : WR W0 b1 c a cap W) (hb : Below W.heap.size W W') : WR W0 b1 c a cap W' := ⟨nxt h.bel hb, h.hb, h.blk.below hb, h.ns.below hb⟩
theorem WR.cs {W0 W : World} {b1 cap : Nat} {c : Cl} {a : Option Addr} (h : WR W0 b1 c a cap W) : CS W (.agg #[.int .i64 c.1, .slice a c.2.length cap]) c := ⟨a, cap, rfl, h.ns⟩
/-- It, anew. -/
theorem WR.put {W0 W W' : World} {b1 cap cap' : Nat} {c c' : Cl} {a a' : Option Addr} (h : WR W0 b1 c a cap W) (hb : Below W.heap.size W W') (ho : OwnL W' W.heap.size (.slice a' c'.2.length cap') c'.2) : WR W0 b1 c' a' cap' ((W'.setCell ⟨b1, 0, none⟩ (.int .i64 c'.1)).setCell ⟨b1, 1, none⟩ (.slice a' c'.2.length cap')) := by
  have h' := h.next hb
  exact ⟨below_set h'.bel h'.hb _ _, h'.hb, h'.blk.set, (own_set ho h.blk.lt _ _).ns⟩
theorem stp (W : World) (o : Obj) : Below W.heap.size W (W.alloc o) := (Below.refl _ _).alloc (Nat.le_refl _) _
theorem drw (W : World) : Below W.heap.size W W.drew := ⟨rfl, rfl, rfl, Nat.le_refl _, fun _ _ => rfl⟩
/-- What a round has: the gathered, and the cell of one number in a block. -/
structure WX (W0 : World) (b1 : Nat) (c : Cl) (a : Option Addr) (cap : Nat) (bx : Nat) (d : Cl) (ax : Option Addr) (capx : Nat) (W : World) : Prop where
  wr : WR W0 b1 c a cap W
  blk : BlkC W bx d.1 (.slice ax d.2.length capx)
  ns : NS W (.slice ax d.2.length capx) d.2
theorem WX.next {W0 W W' : World} {b1 cap bx capx : Nat} {c d : Cl} {a ax : Option Addr} (h : WX W0 b1 c a cap bx d ax capx W) (hb : Below W.heap.size W W') : WX W0 b1 c a cap bx d ax capx W' := ⟨h.wr.next hb, h.blk.below hb, h.ns.below hb⟩
theorem WX.cs {W0 W : World} {b1 cap bx capx : Nat} {c d : Cl} {a ax : Option Addr} (h : WX W0 b1 c a cap bx d ax capx W) : CS W (.agg #[.int .i64 d.1, .slice ax d.2.length capx]) d := ⟨ax, capx, rfl, h.ns⟩
theorem WX.make {W0 W W' : World} {b1 cap : Nat} {c d : Cl} {a ax : Option Addr} {capx base : Nat} (h : WR W0 b1 c a cap W) (hb : Below W.heap.size W W') (ho : OwnL W' base (.slice ax d.2.length capx) d.2) : WX W0 b1 c a cap W'.heap.size d ax capx (W'.alloc (.cells #[.int .i64 d.1, .slice ax d.2.length capx] 29)) :=
  ⟨(h.next hb).next (stp _ _), BlkC.new _ _ _, ho.ns.below (stp _ _)⟩
end Go.Proofs.Ythgfngbgohacaaa
